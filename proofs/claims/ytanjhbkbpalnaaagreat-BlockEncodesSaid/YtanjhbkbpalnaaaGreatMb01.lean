/-
 What the law of the last of these texts stands on, part 1.
-/
import Derived.Test.YtanjhbkbpalnaaaGreatMb00
import Derived.Test.YtanjhbkbpalnaaaGreatRows
import Derived.WalkKit
import Derived.WalkSpells
import Derived.WalkLawsBesides
import Derived.ProofKit
import Derived.OpenShut
import Derived.Handy
import Derived.SizedLaws
import Derived.JoinedOf
import Derived.KernelRfl
import Derived.Lib.Hide
import Derived.Lib.SmallJoins
import Derived.Deep.Slices
import Derived.Deep.Fields
import Derived.Deep.SlicePairs
import Derived.Deep.Draws
import Derived.Deep.AppendLies
import Derived.Deep.QuietTactic
import Derived.BigQuiet
import Derived.Deep.RegionHeld3
import Derived.StillTailTactics
import Derived.Laws.OwnMore
import Derived.Laws.Rows
import Derived.Below
import Derived.Carry
import Derived.WalkMore
import Derived.Laws.BytesString
import Derived.Laws.BitsLemmas
import Derived.Laws.Concat
import Derived.Deep.Upon
import Derived.Deep.RegionLaw
import Derived.Deep.OwnRows
set_option maxRecDepth 100000
set_option maxHeartbeats 8000000
open Go.Proofs.Tryz
namespace Go.Proofs.YtanjhbkbpalnaaaGreat
set_option linter.unusedSimpArgs false
set_option linter.unusedVariables false
open Go.ChangeShapes Go.WideShapes Go.ChangeAt Go.RowKit Go.Joins Go.Deep
theorem block_of_add (a : Addr) (n : Nat) : (a.add n).block = a.block := by unfold Addr.add; split <;> rfl
theorem add_of_add (a : Addr) (i j : Nat) : (a.add i).add j = a.add (i + j) := by
 unfold Addr.add
 by_cases hi : i = 0 <;> by_cases hj : j = 0 <;> simp [hi, hj, qbD]
theorem yaj {B : Nat} {a w : World} (h : Below B a w) (n : Nat) : Below B a (w.drewN n) := ⟨h.os, h.tape, h.output, h.size, h.block⟩
def Reads (w : World) (B size : Nat) (A : Option Addr) (n : Nat) (xs : List Value) : Prop :=
 xs.length = n * size ∧ (0 < n → ∃ b off, A = some ⟨b, off, none⟩ ∧ b < B ∧ ∀ j u, xs[j]? = some u → w.cell? ⟨b, off + j, none⟩ = some u)
theorem yc9 (b off k : Nat) : (⟨b, off, none⟩ : Addr).add k = ⟨b, off + k, none⟩ := by
 unfold Addr.add; split <;> simp_all
section
variable {w w' : World} {B B' size n : Nat} {A : Option Addr} {xs : List Value}
theorem Reads.none_ : Reads w B size A 0 [] := ⟨by simp, fun h => absurd h (by omega)⟩
theorem Reads.keep (h : Reads w B size A n xs) (hk : ∀ p : Addr, p.block < B → w'.cell? p = w.cell? p) : Reads w' B size A n xs :=
 ⟨h.1, fun hn => by
  obtain ⟨b, off, e, hb, hc⟩ := h.2 hn
  exact ⟨b, off, e, hb, fun j u hu => (hk _ hb).trans (hc j u hu)⟩⟩
theorem Reads.more (h : Reads w B size A n xs) (hB : B ≤ B') : Reads w B' size A n xs :=
 ⟨h.1, fun hn => by
  obtain ⟨b, off, e, hb, hc⟩ := h.2 hn
  exact ⟨b, off, e, by omega, hc⟩⟩
theorem Reads.below (h : Reads w B size A n xs) (hb : Below B w w') : Reads w' B size A n xs := h.keep fun _ hp => hb.cell hp
theorem Reads.drew (h : Reads w B size A n xs) : Reads w.drew B size A n xs := h
theorem Reads.drewN (h : Reads w B size A n xs) (k : Nat) : Reads (w.drewN k) B size A n xs := h
theorem Reads.alloc (h : Reads w B size A n xs) (hB : B ≤ w.heap.size) (o : Obj) : Reads (w.alloc o) B size A n xs := h.keep fun p hp => World.cell?_alloc_lt w o p (by omega)
theorem Reads.setCell (h : Reads w B size A n xs) {p : Addr} (hB : B ≤ p.block) (u : Value) : Reads (w.setCell p u) B size A n xs :=
 h.keep fun q hq => World.cell?_setCell_other w p q u (fun e => by subst e; omega)
theorem Reads.cut (h : Reads w B size A n xs) {k cap : Nat} (hk : k ≤ n) (hc : n ≤ cap) :
  Reads w B size (if cap = k then A else A.map (·.add (k * size))) (n - k) (xs.drop (k * size)) := by
 refine ⟨by rw [qaz, h.1, Nat.sub_mul], fun hn => ?_⟩
 obtain ⟨b, off, rfl, hb, hcell⟩ := h.2 (by omega)
 rw [qag (by omega)]
 refine ⟨b, off + k * size, by simp [yc9], hb, fun j u hu => ?_⟩
 rw [qbD]
 exact hcell _ u (by rw [← hu, List.getElem?_drop])
theorem Reads.new (w : World) (t : TypeId) (cs : List Value) (size n : Nat) (hl : cs.length = n * size) :
  Reads (w.alloc (.cells cs.toArray t)) (w.heap.size + 1) size (some ⟨w.heap.size, 0, none⟩) n cs := by
 refine ⟨hl, fun _ => ⟨_, _, rfl, by simp, fun j u hu => ?_⟩⟩
 simp only [World.cell?, World.alloc]
 simp [hu]
end
theorem ybw {P : Program} {t e : TypeId} {i : TypeInfo} {size : Nat} (ht : P.underlying t = some (.slice e)) (hi : P.info? e = some i) (hs : i.size = size) (A : Option Addr) (n c k : Nat) (hk : k ≤ n) (w : World) :
  (Instr.slice t (.slice A n c) (some (.int .i64 (k : Int))) none none).run P w = .ok (.slice (if c = k then A else A.map (·.add (k * size))) (n - k) (c - k)) w := by
 have he : P.elem t = e := by simp [Program.elem, ht]
 rw [run_slice_l w t A n c (by rw [he]; exact ht) .i64 k (by omega) (by omega), he]
 simp [sizeOf, typeInfo, hi, hs, sliced]
def Blk (w : World) (g : Nat) (t : TypeId) (cs : Array Value) : Prop := w.heap[g]? = some (.cells cs t (0, 0))
section
variable {w w' : World} {g : Nat} {t : TypeId} {cs : Array Value}
theorem Blk.lt (h : Blk w g t cs) : g < w.heap.size := by
 rcases qaZ g w.heap.size with hlt | hge
 ·exact hlt
 ·unfold Blk at h; rw [Array.getElem?_eq_none hge] at h; cases h
theorem Blk.cell (h : Blk w g t cs) (i : Nat) : w.cell? ⟨g, i, none⟩ = cs[i]? := cell_of_row w g i cs t (0, 0) h
theorem Blk.frozen (h : Blk w g t cs) (i : Nat) : w.frozen? ⟨g, i, none⟩ = false := by
 unfold Blk at h
 simp [World.frozen?, h]
theorem Blk.new (w : World) (t : TypeId) (cs : Array Value) : Blk (w.alloc (.cells cs t)) w.heap.size t cs := heap_alloc_new w _
theorem Blk.drew (h : Blk w g t cs) : Blk w.drew g t cs := h
theorem Blk.drewN (h : Blk w g t cs) (n : Nat) : Blk (w.drewN n) g t cs := h
theorem Blk.alloc (h : Blk w g t cs) (o : Obj) : Blk (w.alloc o) g t cs := (Below.heap_alloc w o g h.lt).trans h
theorem Blk.set_ (h : Blk w g t cs) (i : Nat) (u : Value) : Blk (w.setCell ⟨g, i, none⟩ u) g t (cs.setIfInBounds i u) := by
 unfold Blk at h ⊢
 simp [World.setCell, Array.getElem?_modify, h]
theorem Blk.far (h : Blk w g t cs) {p : Addr} (hp : g ≠ p.block) (u : Value) : Blk (w.setCell p u) g t cs := (Below.heap_setCell w p u g hp).trans h
theorem Blk.two {x y : Value} (h : Blk w g t #[x, y]) : w.cell? ⟨g, 0, none⟩ = some x ∧ w.cell? ⟨g, 1, none⟩ = some y ∧ w.frozen? ⟨g, 0, none⟩ = false ∧ w.frozen? ⟨g, 1, none⟩ = false :=
 ⟨by rw [h.cell]; rfl, by rw [h.cell]; rfl, h.frozen 0, h.frozen 1⟩
theorem Blk.below {B : Nat} (h : Blk w g t cs) (hb : Below B w w') (hg : g < B) : Blk w' g t cs := (hb.block g hg).trans h
end
section
variable {H : Type} {enc : TypeId × Value → H}
theorem yen {P : Program} (hl : laidOutB P = true) {W W' : World} (hb : Below W.heap.size W W') : ∀ (ts : List TypeId) (vs : List Value) (ds : List (DataW H)) (ps : List MemPlace),
  ts.all (fun t => P.readableRec t && decide (t < P.types.size)) = true → DataW.TrodAll enc P W 0 (fun _ => true) true ts vs ds ps → (∀ x ∈ ps, x.block < W.heap.size) →
  DataW.TrodAll enc P W' 0 (fun b => decide (b < W.heap.size)) true ts vs ds ps
 | [], [], [], _, _, h, _ => h
 | [], [], _ :: _, _, _, h, _ => h.elim
 | [], _ :: _, _, _, _, h, _ => by cases ‹List (DataW H)› <;> exact h.elim
 | _ :: _, [], _, _, _, h, _ => by cases ‹List (DataW H)› <;> exact h.elim
 | _ :: _, _ :: _, [], _, _, h, _ => h.elim
 | t :: ts, v :: vs, d :: ds, ps, ha, h, hlt => by
  obtain ⟨p, q, h1, h2, rfl⟩ := h
  simp only [List.all_cons, qb6, qbU] at ha
  exact ⟨p, q, Below.trod hl ha.1.1 ha.1.2 h1 hb (fun x hx => hlt x (qbm _ hx)),
   yen hl hb ts vs ds q ha.2 h2 (fun x hx => hlt x (qbe _ hx)), rfl⟩
theorem ydr {P : Program} {w : World} {base : Nat} {sp : Nat → Bool} {held : Bool} : ∀ (ts : List TypeId) (vs : List Value) (ds : List (DataW H)) (ps : List MemPlace),
  DataW.TrodAll enc P w base sp held ts vs ds ps → ds.length = ts.length
 | [], [], [], _, _ => rfl
 | [], [], _ :: _, _, h => h.elim
 | [], _ :: _, _, _, h => by cases ‹List (DataW H)› <;> exact h.elim
 | _ :: _, [], _, _, h => by cases ‹List (DataW H)› <;> exact h.elim
 | _ :: _, _ :: _, [], _, h => h.elim
 | t :: ts, v :: vs, d :: ds, ps, h => by
  obtain ⟨p, q, _, h2, _⟩ := h
  simp [ydr ts vs ds q h2]
theorem law_sized {C : Checked} {os : Os} {f : FuncId} {fn : Func} {s : ChangeSpec} {tb : TypeId}
  (own : ownKnob C.prog.godebug = none) (started : os.Started) (noInit : C.prog.inits.idxOf? f = none) (hfn : C.prog.funcs[f]? = some fn)
  (witness : ∃ (w : World) (tape : Tape) (i : Input), w.os = os ∧ (w.forCall tape i).Shaped C.prog ∧ i.vars = [] ∧ Input.okWide C.prog (w.forCall tape i) .any w.heap.size f i ∧
   s.pre6 enc C.prog fn [] false (w.forCall tape i).memory i.args ∧ ({} : Assume).holds C.prog (lone (Frame.enter C.prog f i.args .normal) [] (w.forCall tape i)))
  (hl : laidOutB C.prog = true) (hpar : fn.params.toList.all (fun t => C.prog.readableRec t && decide (t < C.prog.types.size)) = true)
  (hvars : s.vars = []) (hres : fn.resultTypes = #[tb]) (htb : C.prog.underlying tb = some .bool)
  (hsp : ∀ ds : List (DataW H), ds.length = fn.params.toList.length → s.fn H ds = { results := [.lit (.bool true)], args := ds })
  (walk : ∀ (W : World) (base : Nat) (args : Array Value) (ds : List (DataW H)) (p : List MemPlace),
   (∀ (j : Nat) t v, fn.params[j]? = some t → args[j]? = some v → Value.okWide C.prog W .any base t v) →
   DataW.TrodAll enc C.prog W 0 (fun _ => true) true fn.params.toList args.toList ds p → (∀ x ∈ p, x.block < W.heap.size) →
   (DataW.weightsEach C.prog fn.params.toList ds).all (· ≤ reachBytes) = true →
   Calls C.prog f args W fun e W' => e = .returned (.bool true) ∧ Below W.heap.size W W') :
  ReturnsInHanded {} C os f .any (s.pre6 enc C.prog fn [] false) (s.post enc C.prog fn false true false false) := by
 refine returnsInHanded_of_change_sized (C := C) own started noInit hfn witness ?_
 intro W base args ds gs before hval hW _ hsz _
 have hW' := hW
 obtain ⟨p, q, hA, hV, rfl, _, _⟩ := hW
 rw [hvars] at hV
 obtain ⟨rfl, rfl⟩ := trodVars_none hV
 have hlt : ∀ x ∈ p, x.block < W.heap.size := fun x hx => hW'.lt x (qbm _ hx)
 have hsz' : (DataW.weightsEach C.prog fn.params.toList ds).all (· ≤ reachBytes) = true := by
  have e : s.plain.varTypes C.prog = [] := by simp [ChangeSpec.plain, DataSpec.varTypes, hvars]
  rw [e] at hsz
  simpa using hsz
 have hlen := ydr _ _ _ _ hA
 refine (walk W base args ds p hval hA hlt hsz').mono fun e W' ⟨he, hb⟩ => ⟨_, he, ds, [], p ++ [], [], p, [], hW', ?_, ?_, ?_, hb.frame _, fun h => by cases h⟩
 ·rw [qa6, hsp ds hlen, hres]
  exact trodAll_mk1 (shut_bool htb true)
 ·rw [qa6, hsp ds hlen]
  exact yen hl hb _ _ _ _ hpar hA hlt
 ·rw [qa6, hsp ds hlen, hvars]
  rfl
end
section
variable {H : Type} {enc : TypeId × Value → H} {P : Program} {w : World} {base : Nat} {spare : Nat → Bool} {held : Bool}
def ybe (k : IntKind) (l : List (Int × Int)) : List Value := l.flatMap fun r => [.int k r.1, .int k r.2]
theorem yb9 (k : IntKind) (r : Int × Int) (l : List (Int × Int)) : ybe k (r :: l) = .int k r.1 :: .int k r.2 :: ybe k l := rfl
theorem pairs_length (k : IntKind) (l : List (Int × Int)) : (ybe k l).length = l.length * 2 := by
 induction l with
 | nil => rfl
 | cons r l ih => rw [yb9]; simp [ih]; omega
theorem ycw (k : IntKind) : ∀ (l : List (Int × Int)) (i : Nat) (h : i < l.length), (ybe k l)[i * 2]? = some (.int k l[i].1)
 | _ :: _, 0, _ => rfl
 | r :: l, i + 1, h => by
  rw [yb9, show (i + 1) * 2 = i * 2 + 1 + 1 from by omega]
  simpa using ycw k l i (by simpa using h)
theorem yc8 (k : IntKind) : ∀ (l : List (Int × Int)) (i : Nat) (h : i < l.length), (ybe k l)[i * 2 + 1]? = some (.int k l[i].2)
 | _ :: _, 0, _ => rfl
 | r :: l, i + 1, h => by
  rw [yb9, show (i + 1) * 2 + 1 = i * 2 + 1 + 1 + 1 from by omega]
  simpa using yc8 k l i (by simpa using h)
theorem cell_lt {w : World} {a : Addr} {v : Value} (h : w.cell? a = some v) : a.block < w.heap.size := World.block_lt_of_cell? w _ h
end
def bc (l : List UInt8) : Array Value := (l.map fun b => Value.int .u8 (b.toNat : Int)).toArray
theorem ycE (l : List UInt8) : (bc l).size = l.length := by simp [bc]
theorem bc_get (l : List UInt8) (i : Nat) : (bc l)[i]? = (l[i]?).map fun b => Value.int .u8 (b.toNat : Int) := by simp [bc]
theorem bc_set (A C : List UInt8) (b c : UInt8) : (bc (A ++ b :: C)).setIfInBounds A.length (.int .u8 (c.toNat : Int)) = bc (A ++ c :: C) := by
 unfold bc
 rw [qab]
 congr 1
 simp
theorem bc_zero (n : Nat) : madeCells #[.int .u8 0] n = bc (List.replicate n 0) := by
 unfold bc
 apply Array.ext'
 simp [madeCells, Nat.mod_one]
 rw [qcu, qaL]
theorem ydg {w : World} {g : Nat} {t : TypeId} {l : List UInt8} (h : Blk w g t (bc l)) {i : Nat} {b : UInt8} (hi : l[i]? = some b) : w.cell? ⟨g, i, none⟩ = some (.int .u8 (b.toNat : Int)) := by
 rw [h.cell, bc_get, hi]
 rfl
theorem yeV (l : List UInt8) (i : Nat) (h : i < (ByteArray.mk l.toArray).size) : (ByteArray.mk l.toArray)[i]'h = l[i]'(by rw [qaA] at h; simpa using h) := rfl
theorem ba_list (s : ByteArray) : s = ⟨s.data.toList.toArray⟩ := by simp
theorem push_fold (ns : List Int) : ∀ (s : List UInt8), (ns.foldl (fun r n => r.push (UInt8.ofNat n.toNat)) (ByteArray.mk s.toArray)) = ⟨(s ++ ns.map fun n => UInt8.ofNat n.toNat).toArray⟩ := by
 induction ns with
 | nil => intro s; simp
 | cons n t ih =>
  intro s
  rw [List.foldl_cons]
  have e : (ByteArray.mk s.toArray).push (UInt8.ofNat n.toNat) = ⟨(s ++ [UInt8.ofNat n.toNat]).toArray⟩ := by simp [ByteArray.push]
  rw [e, ih]
  simp
def ints (l : List Int) : List Value := l.map (Value.int .i64)
theorem yae (l : List Int) : (ints l).length = l.length := by simp [ints]
theorem yak (l : List Int) (i : Nat) (h : i < l.length) : (ints l)[i]? = some (.int .i64 l[i]) := by simp [ints, h]
theorem yei {P : Program} {src dst e : TypeId} (hs : P.underlying src = some (.slice e)) (he : P.underlying e = some (.int .u8)) (hd : P.underlying dst = some .string)
  (w : World) (g off c : Nat) (l : List UInt8) (n : Nat) (hn : l.length = n) (h : ∀ j b, l[j]? = some b → w.cell? ⟨g, off + j, none⟩ = some (.int .u8 (b.toNat : Int))) :
  (convert src dst (.slice (some ⟨g, off, none⟩) n c)).run P w = .ok (.string ⟨l.toArray⟩) w := by
 subst hn
 rw [run_convert_bytes_string w src dst e _ _ _ hs he hd]
 have hl := run_loadCells_list (P := P) (w := w) ⟨g, off, none⟩ ((l.map fun b => (b.toNat : Int)).map (Value.int .u8)) (fun j v hv => by
  rw [yc9]
  simp only [List.getElem?_map, Option.map_map] at hv
  cases hx : l[j]? with
  | none => rw [hx] at hv; cases hv
  | some b => rw [hx] at hv; simp at hv; subst hv; exact h j b hx)
 simp only [qaN] at hl
 rw [run_bytesToString w ⟨g, off, none⟩ l.length c (l.map fun b => (b.toNat : Int)) hl]
 have := push_fold (l.map fun b => (b.toNat : Int)) []
 rw [show ByteArray.empty = ByteArray.mk ([] : List UInt8).toArray from rfl, this, qbc, List.map_map]
 have e : ((fun n : Int => UInt8.ofNat n.toNat) ∘ fun b : UInt8 => (b.toNat : Int)) = id := by
  funext b
  simp
 rw [e, List.map_id]
theorem yg0 {P : Program} {t e : TypeId} {i : TypeInfo} (ht : P.underlying t = some (.slice e)) (hi : P.info? e = some i) (hs : i.size = 1) (g off n c a b : Nat) (ha : a < b) (hb : b ≤ c) (w : World) :
  (Instr.slice t (.slice (some ⟨g, off, none⟩) n c) (some (.int .i64 (a : Int))) (some (.int .i64 (b : Int))) (some (.int .i64 (b : Int)))).run P w = .ok (.slice (some ⟨g, off + a, none⟩) (b - a) (b - a)) w := by
 have he : P.elem t = e := by simp [Program.elem, ht]
 rw [run_slice_lhm w t (some ⟨g, off, none⟩) n c (by rw [he]; exact ht) .i64 .i64 .i64 a b b (by omega) (by omega) (by omega) (by omega), he]
 simp [sizeOf, typeInfo, hi, hs, sliced, yc9]
 omega
theorem or_i64 (x y : Int) (i : Nat) (hx : 0 ≤ x) (hxi : x < 2 ^ i) (hy : 0 ≤ y) (h : x + y * 2 ^ i < 9223372036854775808) : bits .or .i64 x (wrap64 (y * 2 ^ i)) = x + y * 2 ^ i := by
 have hp : (0 : Int) < 2 ^ i := Int.pow_pos (by omega)
 have hy0 : 0 ≤ y * 2 ^ i := Int.mul_nonneg hy (by omega)
 have hwr : wrap64 (y * 2 ^ i) = y * 2 ^ i := by unfold wrap64; omega
 rw [hwr]
 have hc : bits .or .i64 x (y * 2 ^ i) = bits .or .i64 (y * 2 ^ i) x := by simp only [bits, BitVec.or_comm]
 have e63 : (2 : Int) ^ 63 = 9223372036854775808 := by decide
 rw [hc, bits_join .i64 63 (by decide) (fun n h0 h1 => by
  rw [e63] at h1
  rw [qai]
  omega) i (y * 2 ^ i) x hy0 (Int.mul_emod_left y (2 ^ i)) (by rw [e63]; omega) hx hxi (by rw [e63]; omega), Int.add_comm]
theorem or_neg (x y : Int) (hy : -9223372036854775808 ≤ y) (hy' : y < 0) (hx : 0 ≤ x) (hx' : x < 9223372036854775808) : bits .or .i64 x y < 0 := by
 have hm : (BitVec.ofInt 64 y).msb = true := by
  rw [BitVec.msb_eq_toInt, BitVec.toInt_ofInt]
  simp [Int.bmod]
  omega
 have h2 : (BitVec.ofInt 64 x ||| BitVec.ofInt 64 y).msb = true := by rw [BitVec.msb_or, hm]; simp
 have h3 : (BitVec.ofInt 64 x ||| BitVec.ofInt 64 y).toInt < 0 := by
  rw [BitVec.msb_eq_toInt] at h2
  simpa using h2
 have e : bits .or .i64 x y = IntKind.i64.wrap ((BitVec.ofInt 64 x ||| BitVec.ofInt 64 y).toNat : Int) := rfl
 rw [e, qai]
 generalize (BitVec.ofInt 64 x ||| BitVec.ofInt 64 y) = v at *
 rw [BitVec.toInt_eq_toNat_cond] at h3
 have hv := v.isLt
 split at h3 <;> omega
theorem yaw (n : Nat) (h : n < 256) : (UInt8.ofNat n).toNat = n := by simp [UInt8.toNat_ofNat']; omega
theorem u8_lt (b : UInt8) : b.toNat < 256 := UInt8.toNat_lt b
theorem u8_eq {a b : UInt8} (h : a.toNat = b.toNat) : a = b := UInt8.toNat_inj.1 h
theorem iv {k : IntKind} {a b : Int} (h : a = b) : Value.int k a = Value.int k b := by rw [h]
theorem tv (a b c a' b' c' : Int) (h : (a, b, c) = (a', b', c')) : Ending.returned (.tuple #[.int .i64 a, .int .i64 b, .int .i64 c]) = Ending.returned (.tuple #[.int .i64 a', .int .i64 b', .int .i64 c']) := by
 simp only [qce] at h
 obtain ⟨rfl, rfl, rfl⟩ := h
 rfl
structure Touch (w w' : World) (S : Nat → Prop) : Prop where
 os : w'.os = w.os
 tape : w'.tape = w.tape
 output : w'.output = w.output
 size : w.heap.size ≤ w'.heap.size
 block : ∀ k, k < w.heap.size → ¬ S k → w'.heap[k]? = w.heap[k]?
section
variable {w w' w'' : World} {S S' : Nat → Prop}
theorem Touch.refl (w : World) (S : Nat → Prop) : Touch w w S := ⟨rfl, rfl, rfl, qaf _, fun _ _ _ => rfl⟩
theorem Touch.mono (h : Touch w w' S) (hs : ∀ k, k < w.heap.size → S k → S' k) : Touch w w' S' := ⟨h.os, h.tape, h.output, h.size, fun k hk hn => h.block k hk fun e => hn (hs k hk e)⟩
theorem Touch.trans (h : Touch w w' S) (k : Touch w' w'' S) : Touch w w'' S :=
 ⟨k.os.trans h.os, k.tape.trans h.tape, k.output.trans h.output, qa7 h.size k.size, fun i hi hn => (k.block i (qaM hi h.size) hn).trans (h.block i hi hn)⟩
theorem Touch.next (h : Touch w w' S) (k : Touch w' w'' S') (hs : ∀ i, i < w.heap.size → S' i → S i) : Touch w w'' S :=
 ⟨k.os.trans h.os, k.tape.trans h.tape, k.output.trans h.output, qa7 h.size k.size, fun i hi hn => (k.block i (qaM hi h.size) (fun e => hn (hs i hi e))).trans (h.block i hi hn)⟩
theorem yaP {B : Nat} (h : Below B w w') (hB : w.heap.size ≤ B) : Touch w w' S := ⟨h.os, h.tape, h.output, h.size, fun i hi _ => h.block i (by omega)⟩
theorem yaN {row : Option Nat} (h : w.grownBy w' row) : Touch w w' (fun k => some k = row) := ⟨h.os, h.tape, h.output, h.size, fun i hi hn => h.block i hi hn⟩
theorem Touch.set (h : Touch w w' S) {p : Addr} (hp : S p.block ∨ w.heap.size ≤ p.block) (u : Value) : Touch w (w'.setCell p u) S :=
 ⟨h.os, h.tape, h.output, by have := h.size; simpa [World.setCell] using this, fun i hi hn => by
  have e : i ≠ p.block := by
   rcases hp with hp | hp
   ·rintro rfl
    exact hn hp
   ·omega
  exact (Below.heap_setCell _ _ _ _ e).trans (h.block i hi hn)⟩
theorem Touch.alloc (h : Touch w w' S) (o : Obj) : Touch w (w'.alloc o) S := h.trans (yaP ((qaj _ _).alloc (qaf _) o) (qaf _))
theorem Touch.drewN (h : Touch w w' S) (n : Nat) : Touch w (w'.drewN n) S := ⟨h.os, h.tape, h.output, h.size, h.block⟩
theorem Touch.below {B : Nat} (h : Touch w w' S) (hS : ∀ k, k < w.heap.size → S k → B ≤ k) (hB : B ≤ w.heap.size) : Below B w w' :=
 ⟨h.os, h.tape, h.output, h.size, fun i hi => h.block i (by omega) (fun e => by have := hS i (by omega) e; omega)⟩
theorem Blk.touch {b : Nat} {t : TypeId} {cs : Array Value} (h : Blk w b t cs) (ht : Touch w w' S) (hb : ¬ S b) : Blk w' b t cs := (ht.block b h.lt hb).trans h
theorem Blk.grow' {b : Nat} {t : TypeId} {cs : Array Value} {row : Option Nat} (h : Blk w b t cs) (hg : w.grownBy w' row) (hb : row ≠ some b) : Blk w' b t cs := (hg.block b h.lt (fun e => hb e.symm)).trans h
theorem ya5 {base size n : Nat} {e : TypeId} {v : Value} {xs : List Value} (h : w.ownsRow base e size v n xs) (ht : Touch w w' S) (hn : ∀ k, v.ownBlock = some k → ¬ S k) : w'.ownsRow base e size v n xs := by
 refine ⟨h.1, ?_⟩
 rcases h.2 with h0 | ⟨g, cap, cur, rfl, hb, hg, rest⟩
 ·exact .inl h0
 ·exact .inr ⟨g, cap, cur, rfl, hb, (ht.block g (Array.getElem?_eq_some_iff.1 hg).1 (hn g rfl)).trans hg, rest⟩
theorem yah {base size n B : Nat} {e : TypeId} {v : Value} {xs : List Value} (h : w.ownsRow base e size v n xs) (hb : Below B w w') (hB : w.heap.size ≤ B) : w'.ownsRow base e size v n xs :=
 ya5 h (yaP (S := fun _ => False) hb hB) (fun _ _ h => h)
theorem yau {base size n : Nat} {e t : TypeId} {v : Value} {xs : List Value} {cs : Array Value} {b : Nat} (h : w.ownsRow base e size v n xs) (hB : Blk w b t cs) (hne : e ≠ t) : v.ownBlock ≠ some b := by
 intro hv
 rcases h.2 with ⟨rfl, _⟩ | ⟨g, cap, cur, rfl, _, hg, _⟩
 ·cases hv
 ·injection hv with hv
  simp only at hv
  subst hv
  unfold Blk at hB
  rw [hB] at hg
  injection hg with hg
  injection hg with _ h2
  exact hne h2.symm
theorem yad {base size n : Nat} {e : TypeId} {v : Value} {xs : List Value} (h : w.ownsRow base e size v n xs) : ∃ A c, v = .slice A n c ∧ n ≤ c ∧ Reads w w.heap.size size A n xs := by
 obtain ⟨hl, ⟨rfl, h0⟩ | ⟨g, cap, cur, rfl, hb, hheap, hcap, hm, hcs, htk⟩⟩ := h
 ·subst h0
  refine ⟨none, 0, rfl, qaf _, hl, fun hn => absurd hn (by omega)⟩
 ·refine ⟨_, _, rfl, hcap, hl, fun _ => ⟨g, 0, rfl, ?_, fun j u hu => ?_⟩⟩
  ·rcases qaZ g w.heap.size with hlt | hge
   ·exact hlt
   ·rw [Array.getElem?_eq_none hge] at hheap; cases hheap
  ·rw [cell_of_row w g _ cur e (0, 0) hheap, qaE, ← htk] at *
   rw [List.getElem?_take] at hu
   split at hu
   ·simpa using hu
   ·cases hu
end
theorem ybd {P : Program} {src dst e : TypeId} (hs : P.underlying src = some (.slice e)) (he : P.underlying e = some (.int .u8)) (hd : P.underlying dst = some .string)
  (w : World) (A : Option Addr) (c : Nat) (l : List UInt8) (hr : Reads w w.heap.size 1 A l.length (bc l).toList) :
  (convert src dst (.slice A l.length c)).run P w = .ok (.string ⟨l.toArray⟩) w := by
 rcases qaW l.length with h0 | h0
 ·have hl := qay.1 h0
  subst hl
  rw [run_convert_bytes_string w src dst e _ _ _ hs he hd]
  cases A with
  | none => rfl
  | some a => exact run_bytesToString w a 0 c [] (by simp [loadCells, loadCellsFrom])
 ·obtain ⟨b, off, rfl, _, hc⟩ := hr.2 h0
  exact yei hs he hd w b off c l l.length rfl fun j u hj => hc j _ (by simp [bc, hj])
def Sep (w : World) (v v' : Value) : Prop := ∀ k, v'.ownBlock = some k → v.ownBlock = some k ∨ w.heap.size ≤ k
theorem ydy {P : Program} (w : World) (base : Nat) (t ty e : TypeId) (i : TypeInfo) (z : Value) (size bytes : Nat) (ht : P.underlying t = some (.slice e)) (hi : P.info? e = some i) (hz : i.zero = some z)
  (hsize : i.size = size) (hby : i.bytes = bytes) (hzs : z.cells.size = size) (hsz : 0 < size)
  (v : Value) (n : Nat) (xs : List Value) (hown : w.ownsRow base e size v n xs)
  (Ax : Option Addr) (m c B : Nat) (news : List Value) (hr : Reads w B size Ax m news) (h1 : ∀ u ∈ news, u.oneCell' = true)
  (h63 : n + m ≤ maxLen) (hbytes : (n + m) * bytes ≤ 140737488355328) (hbase : base ≤ w.heap.size) :
  ∃ v' w', (Builtin.append_ #[t, t] ty #[v, .slice Ax m c]).run P w = .ok v' w' ∧ w'.ownsRow base e size v' (n + m) (xs ++ news) ∧ w.grownBy w' v.ownBlock ∧ Sep w v v' := by
 have hsmall : n + m ≤ 9223372036854775807 := by simp only [maxLen] at h63; omega
 have hnil : m = 0 → news = [] := fun hm => by
  have hl := hr.1
  rw [hm, qcy] at hl
  exact qay.1 hl
 cases Ax with
 | none =>
  have hm : m = 0 := by
   rcases qaW m with hm | hm
   ·exact hm
   ·obtain ⟨b, off, hA, _⟩ := hr.2 hm
    cases hA
  rw [hnil hm]
  subst hm
  refine ⟨v, w, ?_, by simpa using hown, ⟨rfl, rfl, rfl, qaf _, fun _ _ _ => rfl⟩, fun k hk => qat hk⟩
  rcases hown.2 with ⟨rfl, rfl⟩ | ⟨g, cap, cur, rfl, _, _, hcap, _⟩
  ·exact run_append_nothing w t t ty e i ht hi none 0 0 (qaf _) _ (Src.ofNil w ht c)
  ·exact run_append_nothing w t t ty e i ht hi _ n cap hcap _ (Src.ofNil w ht c)
 | some ad =>
  have hnews : ∀ j u, news[j]? = some u → w.cell? (ad.add j) = some u := fun j u hj => by
   rcases qaW m with hm | hm
   ·rw [hnil hm] at hj
    simp at hj
   ·obtain ⟨b, off, hA, _, hc⟩ := hr.2 hm
    injection hA with hA
    subst hA
    rw [yc9]
    exact hc j u hj
  have hl := hr.1
  obtain ⟨v', w', hrun, h2, h3, h4⟩ := run_append_own (P := P) w base t ty e i z size bytes ht hi hz hsize hby hzs hsz v n xs hown ad m c news hl hnews h1 h63 hbytes hbase
  refine ⟨v', w', hrun, h2, h3, ?_⟩
  subst hsize
  subst hby
  rcases hown.2 with ⟨rfl, rfl⟩ | ⟨g, cap, cur, rfl, hbg, hg, hnc, hcm, hcs, htake⟩
  ·rcases qaW m with hm | hm
   ·rw [h4.2 ⟨rfl, hm⟩]
    exact fun k hk => qat hk
   ·have hr2 := run_append_nil (P := P) w t ty e i z ht hi hz ad m c news hl hnews (by omega) (by omega) (by have hb := hbytes; simp only [qaE] at hb; omega)
    rw [hr2] at hrun
    injection hrun with e1 _
    subst e1
    intro k hk
    injection hk with hk
    simp only at hk
    exact qaT (by omega)
  ·by_cases hroom : n + m ≤ cap
   ·have hfit : n * i.size + news.length ≤ cur.size := by rw [hl, hcs, ← qcf]; exact qct _ hroom
    have hr2 := run_append_room (P := P) w t ty e i ht hi g n cap cur hg ad m c news hl hnews h1 hroom hfit
    rw [hr2] at hrun
    injection hrun with e1 _
    subst e1
    exact fun k hk => qat hk
   ·have holds : ∀ j u, xs[j]? = some u → w.cell? ((⟨g, 0, none⟩ : Addr).add j) = some u := hown.cells (g := g) rfl
    have hr2 := run_append_grow (P := P) w t ty e i z ht hi hz ⟨g, 0, none⟩ n cap xs hown.1 holds ad m c news hl hnews (by omega) (by omega) (growslice_fits (by omega) hbytes)
    rw [hr2] at hrun
    injection hrun with e1 _
    subst e1
    intro k hk
    injection hk with hk
    simp only at hk
    exact qaT (by omega)
theorem yaf {P : Program} (w : World) {ops : Array Oper} {rest : List Oper} {o : Oper} {a : Act} {Q : Exit → Act → World → Prop} (hgd : o.guard = none) (s x : Operand) (t : TypeId)
  (ho : o.op = .call { callee := .builtin .append, args := #[s, x], argTypes := #[t, t] })
  (base : Nat) (e : TypeId) (i : TypeInfo) (z : Value) (size bytes : Nat) (ht : P.underlying t = some (.slice e)) (hi : P.info? e = some i) (hz : i.zero = some z)
  (hsize : i.size = size) (hby : i.bytes = bytes) (hzs : z.cells.size = size) (hsz : 0 < size)
  (v : Value) (n : Nat) (xs : List Value) (hs : a.eval s = v) (hown : w.ownsRow base e size v n xs)
  (Ax : Option Addr) (m c B : Nat) (news : List Value) (hx : a.eval x = .slice Ax m c) (hr : Reads w B size Ax m news) (h1 : ∀ u ∈ news, u.oneCell' = true)
  (h63 : n + m ≤ maxLen) (hbytes : (n + m) * bytes ≤ 140737488355328) (hbase : base ≤ w.heap.size)
  (h : ∀ v' w', w'.ownsRow base e size v' (n + m) (xs ++ news) → w.grownBy w' v.ownBlock → Sep w v v' → wpList P ops Q rest (a.put o.dst v') w') : wpList P ops Q (o :: rest) a w := by
 obtain ⟨v', w', hrun, h2, h3, h4⟩ := ydy (P := P) w base t o.type e i z size bytes ht hi hz hsize hby hzs hsz v n xs hown Ax m c B news hr h1 h63 hbytes hbase
 refine wpList_plain hgd fun K hK => ?_
 unfold Oper.wp execOp
 simp only [ho, resolve, invoke, builtin, Sem.run_bind, Sem.run_pure, Result.andThen_ok, List.map_toArray, qcn, List.map_nil, hs, hx, hrun]
 exact hK _ _ (h v' w' h2 h3 h4)
theorem yar (w : World) (t : TypeId) (cs : Array Value) (size n : Nat) (hl : cs.size = n * size) : Reads (w.alloc (.cells cs t)) (w.heap.size + 1) size (some ⟨w.heap.size, 0, none⟩) n cs.toList := by
 have := Reads.new w t cs.toList size n (by simpa using hl)
 simpa using this
theorem slt_cons (a b : UInt8) (x y : List UInt8) : Op.bytesLess (a :: x) (b :: y) = (decide (a < b) || (a == b && Op.bytesLess x y)) := rfl
theorem ydE (a b : UInt8) (x y : List UInt8) : Op.bytesLess (a :: x) (b :: y) = true ↔ a.toNat < b.toNat ∨ (a = b ∧ Op.bytesLess x y = true) := by
 rw [slt_cons]
 simp [UInt8.lt_iff_toNat_lt]
theorem ycB (x : List UInt8) : Op.bytesLess x [] = false := by cases x <;> rfl
theorem yb8 : ∀ x : List UInt8, Op.bytesLess x x = false
 | [] => rfl
 | a :: x => by
  rw [slt_cons, yb8 x]
  simp
theorem slt_trans : ∀ x y z : List UInt8, Op.bytesLess x y = true → Op.bytesLess y z = true → Op.bytesLess x z = true
 | x, y, [], _, h => by rw [ycB] at h; cases h
 | x, [], _ :: _, h, _ => by rw [ycB] at h; cases h
 | [], _ :: _, _ :: _, _, _ => rfl
 | a :: x, b :: y, c :: z, h1, h2 => by
  rw [ydE] at h1 h2 ⊢
  rcases h1 with h1 | ⟨rfl, h1⟩
  ·rcases h2 with h2 | ⟨rfl, h2⟩
   ·exact qat (by omega)
   ·exact qat h1
  ·rcases h2 with h2 | ⟨rfl, h2⟩
   ·exact qat h2
   ·exact qaT ⟨rfl, slt_trans x y z h1 h2⟩
theorem ygI : ∀ x y : List UInt8, x ≠ y → Op.bytesLess x y = true ∨ Op.bytesLess y x = true
 | [], [], h => absurd rfl h
 | [], _ :: _, _ => qat rfl
 | _ :: _, [], _ => qaT rfl
 | a :: x, b :: y, h => by
  rw [ydE, ydE]
  by_cases e : a = b
  ·subst e
   rcases ygI x y (fun e => h (by rw [e])) with h2 | h2
   ·exact qat (qaT ⟨rfl, h2⟩)
   ·exact qaT (qaT ⟨rfl, h2⟩)
  ·have : a.toNat ≠ b.toNat := fun e2 => e (UInt8.toNat_inj.1 e2)
   rcases Nat.lt_or_gt_of_ne this with h2 | h2
   ·exact qat (qat h2)
   ·exact qaT (qat h2)
structure SOrd (lt : Nat → Nat → Bool) (n : Nat) : Prop where
 irr : ∀ p, lt p p = false
 tr : ∀ p q r, lt p q = true → lt q r = true → lt p r = true
 tot : ∀ p q, p < n → q < n → p ≠ q → lt p q = true ∨ lt q p = true
theorem SOrd.asym {lt : Nat → Nat → Bool} {n : Nat} (h : SOrd lt n) (p q : Nat) (h1 : lt p q = true) : lt q p = false := by
 cases h2 : lt q p with
 | false => rfl
 | true =>
  have := h.tr p q p h1 h2
  rw [h.irr] at this
  cases this
def yeC (lt : Nat → Nat → Bool) (l : List Nat) : Prop := l.Pairwise fun p q => lt p q = true
theorem yeT {lt : Nat → Nat → Bool} {n : Nat} (h : SOrd lt n) : ∀ (a b : List Nat), yeC lt a → yeC lt b → (∀ p, p ∈ a ↔ p ∈ b) → a = b
 | [], [], _, _, _ => rfl
 | [], q :: t, _, _, hm => by
  have := (hm q).2 (qaC ..)
  cases this
 | p :: s, [], _, _, hm => by
  have := (hm p).1 (qaC ..)
  cases this
 | p :: s, q :: t, ha, hb, hm => by
  have ha' := qa5.1 ha
  have hb' := qa5.1 hb
  have e : p = q := by
   rcases qa9.1 ((hm p).1 (qaC ..)) with e | e
   ·exact e
   ·rcases qa9.1 ((hm q).2 (qaC ..)) with e2 | e2
    ·exact e2.symm
    ·have h1 := hb'.1 p e
     have h2 := ha'.1 q e2
     rw [h.asym q p h1] at h2
     cases h2
  subst e
  rw [yeT h s t ha'.2 hb'.2 fun r => ?_]
  constructor
  ·intro hr
   rcases qa9.1 ((hm r).1 (qaD _ hr)) with e | e
   ·subst e
    have := ha'.1 r hr
    rw [h.irr] at this
    cases this
   ·exact e
  ·intro hr
   rcases qa9.1 ((hm r).2 (qaD _ hr)) with e | e
   ·subst e
    have := hb'.1 r hr
    rw [h.irr] at this
    cases this
   ·exact e
theorem yfP {lt : Nat → Nat → Bool} {n : Nat} (h : SOrd lt n) : ∀ l : List Nat, yeC lt l → l.Nodup
 | [], _ => List.nodup_nil
 | p :: t, hl => by
  have hl' := qa5.1 hl
  refine List.nodup_cons.2 ⟨fun hp => ?_, yfP h t hl'.2⟩
  have := hl'.1 p hp
  rw [h.irr] at this
  cases this
theorem ybK {lt : Nat → Nat → Bool} {l : List Nat} (h : yeC lt l) (i j : Nat) (hi : i < l.length) (hj : j < l.length) (hij : i < j) : lt l[i] l[j] = true := qbb.1 h i j hi hj hij
theorem ssort_of {lt : Nat → Nat → Bool} {l : List Nat} (h : ∀ i j (hi : i < l.length) (hj : j < l.length), i < j → lt l[i] l[j] = true) : yeC lt l := qbb.2 fun i j hi hj hij => h i j hi hj hij
def scut (lt : Nat → Nat → Bool) (p : Nat) : List Nat → Nat
 | [] => 0
 | q :: t => if lt q p = true then scut lt p t + 1 else 0
def sins (lt : Nat → Nat → Bool) (p : Nat) (l : List Nat) : List Nat := l.take (scut lt p l) ++ p :: l.drop (scut lt p l)
def slay (lt : Nat → Nat → Bool) : Nat → List Nat
 | 0 => []
 | k + 1 => sins lt k (slay lt k)
theorem scut_le (lt : Nat → Nat → Bool) (p : Nat) : ∀ l, scut lt p l ≤ l.length
 | [] => qaf _
 | q :: t => by
  have := scut_le lt p t
  unfold scut
  split <;> simp <;> omega
theorem scut_is (lt : Nat → Nat → Bool) (p : Nat) : ∀ (l : List Nat) (c : Nat), c ≤ l.length → (∀ i (h : i < l.length), i < c → lt l[i] p = true) → (∀ i (h : i < l.length), i = c → lt l[i] p = false) → scut lt p l = c
 | [], c, hc, _, _ => by simp at hc; subst hc; rfl
 | q :: t, 0, _, _, h2 => by
  have := h2 0 (by simp) rfl
  simp only [List.getElem_cons_zero] at this
  unfold scut
  rw [qag (by rw [this]; decide)]
 | q :: t, c + 1, hc, h1, h2 => by
  have h0 := h1 0 (by simp) (by omega)
  simp only [List.getElem_cons_zero] at h0
  unfold scut
  rw [qah h0, scut_is lt p t c (by simpa using hc) (fun i hi hic => by
   have := h1 (i + 1) (by simpa using hi) (by omega)
   simpa using this) (fun i hi hic => by
   have := h2 (i + 1) (by simpa using hi) (by omega)
   simpa using this)]
theorem scut_less (lt : Nat → Nat → Bool) (p : Nat) : ∀ (l : List Nat) (i : Nat) (h : i < l.length), i < scut lt p l → lt l[i] p = true
 | [], i, h, _ => absurd h (by simp)
 | q :: t, i, h, hc => by
  unfold scut at hc
  by_cases e : lt q p = true
  ·rw [qah e] at hc
   cases i with
   | zero => exact e
   | succ i => exact scut_less lt p t i (by simpa using h) (by omega)
  ·rw [qag e] at hc
   omega
theorem scut_more {lt : Nat → Nat → Bool} {n : Nat} (hl : SOrd lt n) (p : Nat) (hp : p < n) : ∀ (l : List Nat) (i : Nat) (h : i < l.length), yeC lt l → (∀ q ∈ l, q < n ∧ q ≠ p) → scut lt p l ≤ i → lt p l[i] = true
 | [], i, h, _, _, _ => absurd h (by simp)
 | q :: t, i, h, hs, hq, hc => by
  have hs' := qa5.1 hs
  unfold scut at hc
  by_cases e : lt q p = true
  ·rw [qah e] at hc
   cases i with
   | zero => omega
   | succ i => exact scut_more hl p hp t i (by simpa using h) hs'.2 (fun r hr => hq r (qaD _ hr)) (by omega)
  ·have hqp := hq q (qaC ..)
   have h1 : lt p q = true := by
    rcases hl.tot q p hqp.1 hp hqp.2 with h2 | h2
    ·exact absurd h2 e
    ·exact h2
   cases i with
   | zero => exact h1
   | succ i => exact hl.tr p q _ h1 (hs'.1 _ (qam (by simpa using h)))
theorem sins_mem (lt : Nat → Nat → Bool) (p : Nat) (l : List Nat) (q : Nat) : q ∈ sins lt p l ↔ q = p ∨ q ∈ l := by
 unfold sins
 rw [qbf, qa9]
 have h := qa1 (scut lt p l) l
 have h2 : q ∈ l ↔ q ∈ l.take (scut lt p l) ∨ q ∈ l.drop (scut lt p l) := by rw [← qbf, h]
 rw [h2]
 constructor
 ·rintro (a | a | a)
  ·exact qaT (qat a)
  ·exact qat a
  ·exact qaT (qaT a)
 ·rintro (a | a | a)
  ·exact qaT (qat a)
  ·exact qat a
  ·exact qaT (qaT a)
theorem sins_sort {lt : Nat → Nat → Bool} {n : Nat} (hl : SOrd lt n) (p : Nat) (hp : p < n) (l : List Nat) (hs : yeC lt l) (hq : ∀ q ∈ l, q < n ∧ q ≠ p) : yeC lt (sins lt p l) := by
 have hc := scut_le lt p l
 have hmore : ∀ q ∈ l.drop (scut lt p l), lt p q = true := fun q hq2 => by
  obtain ⟨i, hi, rfl⟩ := qaI hq2
  rw [qaz] at hi
  rw [qbE]
  exact scut_more hl p hp l _ (by omega) hs hq (by omega)
 have hless : ∀ q ∈ l.take (scut lt p l), lt q p = true := fun q hq2 => by
  obtain ⟨i, hi, rfl⟩ := qaI hq2
  rw [qar] at hi
  rw [List.getElem_take]
  exact scut_less lt p l i (by omega) (by omega)
 unfold sins yeC
 refine qa2.2 ⟨List.Pairwise.sublist (List.take_sublist _ _) hs, qa5.2 ⟨hmore, List.Pairwise.sublist (List.drop_sublist _ _) hs⟩, fun a ha b hb => ?_⟩
 rcases qa9.1 hb with rfl | hb
 ·exact hless a ha
 ·exact hl.tr a p b (hless a ha) (hmore b hb)
theorem ydZ (lt : Nat → Nat → Bool) : ∀ k q, q ∈ slay lt k ↔ q < k
 | 0, q => by simp [slay]
 | k + 1, q => by
  show q ∈ sins lt k (slay lt k) ↔ _
  rw [sins_mem, ydZ lt k q]
  omega
theorem ydQ {lt : Nat → Nat → Bool} {n : Nat} (hl : SOrd lt n) : ∀ k, k ≤ n → yeC lt (slay lt k)
 | 0, _ => qb0
 | k + 1, hk => sins_sort hl k (by omega) _ (ydQ hl k (by omega)) fun q hq => by
  have := (ydZ lt k q).1 hq
  omega
theorem yfn (lt : Nat → Nat → Bool) : ∀ k, (slay lt k).length = k
 | 0 => rfl
 | k + 1 => by
  show (sins lt k (slay lt k)).length = k + 1
  have h1 := yfn lt k
  have h2 := scut_le lt k (slay lt k)
  unfold sins
  rw [qae, qau, qar, qaz]
  omega
theorem slay_unique {lt : Nat → Nat → Bool} {n : Nat} (hl : SOrd lt n) (a : List Nat) (hs : yeC lt a) (hm : ∀ p, p ∈ a ↔ p < n) : a = slay lt n :=
 yeT hl a (slay lt n) hs (ydQ hl n (qaf _)) fun p => by rw [hm p, ydZ]
def slt (s : List UInt8) (p q : Nat) : Bool := Op.bytesLess (s.drop p) (s.drop q)
theorem yce (s : List UInt8) : SOrd (slt s) (s.length + 1) := by
 refine ⟨fun p => yb8 _, fun p q r h1 h2 => slt_trans _ _ _ h1 h2, fun p q hp hq hne => ygI _ _ fun e => ?_⟩
 have := qbJ List.length e
 rw [qaz, qaz] at this
 omega
def klt (keys : List Int) (p q : Nat) : Bool := decide (keys.getD p 0 < keys.getD q 0) || (decide (keys.getD p 0 = keys.getD q 0) && decide (p < q))
theorem klt_iff (keys : List Int) (p q : Nat) : klt keys p q = true ↔ keys.getD p 0 < keys.getD q 0 ∨ (keys.getD p 0 = keys.getD q 0 ∧ p < q) := by simp [klt]
def splc (l : List Nat) : List Int := l.map fun p : Nat => (p : Int)
theorem yao (l : List Nat) : (splc l).length = l.length := by simp [splc]
theorem yfo (l : List Nat) (i : Nat) (h : i < (splc l).length) : (splc l)[i] = ((l[i]'(by rw [yao] at h; exact h) : Nat) : Int) := by simp [splc]
theorem splc_take (l : List Nat) (k : Nat) : (splc l).take k = splc (l.take k) := by simp [splc]
theorem splc_drop (l : List Nat) (k : Nat) : (splc l).drop k = splc (l.drop k) := by simp [splc]
theorem yfm (a b : List Nat) : splc (a ++ b) = splc a ++ splc b := by simp [splc]
def sarr (s : List UInt8) : List Nat := slay (slt s) (s.length + 1)
def saF (s : List UInt8) : List Int × Int := if 20000 < s.length then ([], 3) else (splc (sarr s), 0)
theorem yb5 (s : List UInt8) : (sarr s).length = s.length + 1 := yfn _ _
theorem ycL (s : List UInt8) : yeC (slt s) (sarr s) := ydQ (yce s) _ (qaf _)
theorem yde (s : List UInt8) (p : Nat) : p ∈ sarr s ↔ p < s.length + 1 := ydZ _ _ _
theorem sarr_le (s : List UInt8) (i : Nat) (h : i < (sarr s).length) : (sarr s)[i] ≤ s.length := by
 have := (yde s _).1 (qam h)
 omega
theorem yex (s : List UInt8) : (sarr s).Nodup := yfP (yce s) _ (ycL s)
theorem ybl {l : List Nat} (hn : l.Nodup) {i j : Nat} (hi : i < l.length) (hj : j < l.length) (h : l[i] = l[j]) : i = j := by
 have hp := qbb.1 hn
 rcases qcv i j with h1 | h1 | h1
 ·exact absurd h (hp i j hi hj h1)
 ·exact h1
 ·exact absurd h.symm (hp j i hj hi h1)
theorem sarr_inj (s : List UInt8) (i j : Nat) (hi : i < (sarr s).length) (hj : j < (sarr s).length) (h : (sarr s)[i] = (sarr s)[j]) : i = j := ybl (yex s) hi hj h
theorem sarr_perm (s : List UInt8) : (sarr s).Perm (List.range (s.length + 1)) := by
 rw [List.perm_iff_count]
 intro p
 rw [(yex s).count, List.nodup_range.count]
 by_cases h : p < s.length + 1
 ·rw [qah ((yde s p).2 h), qah (qbk.2 h)]
 ·rw [qag fun h2 => h ((yde s p).1 h2), qag fun h2 => h (qbk.1 h2)]
structure LTh where
 w : Int
 syms : List Nat
 leaf : Bool
def lle (a b : LTh) : Bool := decide (a.w < b.w) || (decide (a.w = b.w) && (a.leaf || !b.leaf))
def lput : List LTh → LTh → List LTh
 | [], x => [x]
 | y :: t, x => if lle y x = true then y :: lput t x else x :: y :: t
def ybx (a b : LTh) : LTh := ⟨a.w + b.w, a.syms ++ b.syms, false⟩
def yam : List LTh → List LTh
 | a :: b :: t => ybx a b :: yam t
 | _ => []
def ygu (row leaves : List LTh) : List LTh := leaves.foldl lput ((yam row).foldl lput [])
def lrow (leaves : List LTh) : Nat → List LTh
 | 0 => leaves
 | k + 1 => ygu (lrow leaves k) leaves
theorem ybo (a b : LTh) : lle a b = true ↔ a.w < b.w ∨ (a.w = b.w ∧ (a.leaf = true ∨ b.leaf = false)) := by simp [lle]
theorem lle_w {a b : LTh} (h : lle a b = true) : a.w ≤ b.w := by rw [ybo] at h; omega
theorem yfF {a b c : LTh} (h : lle a b = true) (k : lle b c = true) : lle a c = true := by
 rw [ybo] at *
 rcases h with h | ⟨h, h2⟩ <;> rcases k with k | ⟨k, k2⟩
 ·exact qat (by omega)
 ·exact qat (by omega)
 ·exact qat (by omega)
 ·refine qaT ⟨by omega, ?_⟩
  rcases h2 with h2 | h2
  ·exact qat h2
  ·rcases k2 with k2 | k2
   ·rw [k2] at h2; cases h2
   ·exact qaT k2
theorem lle_total {a b : LTh} (h : lle a b = false) : lle b a = true := by
 have h' : ¬ lle a b = true := by rw [h]; decide
 rw [ybo] at *
 rcases Int.lt_trichotomy a.w b.w with h1 | h1 | h1
 ·exact absurd (qat h1) h'
 ·refine qaT ⟨h1.symm, ?_⟩
  cases hb : b.leaf with
  | true => exact qat rfl
  | false => exact absurd (qaT ⟨h1, qaT hb⟩) h'
 ·exact qat h1
theorem lle_refl (a : LTh) : lle a a = true := by
 rw [ybo]
 refine qaT ⟨rfl, ?_⟩
 cases a.leaf <;> simp
theorem yaR (x : LTh) : ∀ row : List LTh, ∃ r1 r2, row = r1 ++ r2 ∧ lput row x = r1 ++ x :: r2 ∧ (∀ y ∈ r1, lle y x = true) ∧ ∀ y t, r2 = y :: t → lle y x = false
 | [] => ⟨[], [], rfl, rfl, by simp, by simp⟩
 | y :: t => by
  obtain ⟨r1, r2, h1, h2, h3, h4⟩ := yaR x t
  by_cases h : lle y x = true
  ·refine ⟨y :: r1, r2, by rw [h1]; rfl, by unfold lput; rw [qah h, h2]; rfl, ?_, h4⟩
   intro z hz
   rcases qa9.1 hz with rfl | hz
   ·exact h
   ·exact h3 z hz
  ·refine ⟨[], y :: t, rfl, by unfold lput; rw [qag h]; rfl, by simp, ?_⟩
   intro z u e
   injection e with e _
   subst e
   simpa using h
structure LRow (leaves packs R : List LTh) : Prop where
 order : R.Pairwise (fun a b => lle a b = true)
 lv : R.filter (fun x => x.leaf) = leaves
 pk : R.filter (fun x => !x.leaf) = packs
theorem lput_end (x : LTh) : ∀ row : List LTh, (∀ y ∈ row, lle y x = true) → lput row x = row ++ [x]
 | [], _ => rfl
 | y :: t, h => by
  unfold lput
  rw [qah (h y (qaC ..)), lput_end x t fun z hz => h z (qaD _ hz)]
  rfl
theorem lput_all : ∀ (xs acc : List LTh), (acc ++ xs).Pairwise (fun a b => lle a b = true) → xs.foldl lput acc = acc ++ xs
 | [], acc, _ => by simp
 | x :: t, acc, h => by
  rw [List.foldl_cons, lput_end x acc fun y hy => (qa2.1 h).2.2 y hy x (qaC ..)]
  rw [lput_all t (acc ++ [x]) (by rw [qak]; exact h), qak]
  rfl
theorem lput_leaf {leaves packs R : List LTh} (h : LRow leaves packs R) (x : LTh) (hx : x.leaf = true) (hle : ∀ y ∈ leaves, y.w ≤ x.w) : LRow (leaves ++ [x]) packs (lput R x) := by
 obtain ⟨r1, r2, h1, h2, h3, h4⟩ := yaR x R
 have ho := h.order
 rw [h1] at ho
 obtain ⟨o1, o2, o3⟩ := qa2.1 ho
 have hx2 : ∀ z ∈ r2, lle x z = true := by
  intro z hz
  cases hr : r2 with
  | nil => rw [hr] at hz; cases hz
  | cons y t =>
   have hy := lle_total (h4 y t hr)
   rw [hr] at hz o2
   rcases qa9.1 hz with rfl | hz
   ·exact hy
   ·exact yfF hy ((qa5.1 o2).1 z hz)
 have hnl : ∀ z ∈ r2, z.leaf = false := by
  intro z hz
  cases hzl : z.leaf with
  | false => rfl
  | true =>
   exfalso
   have hzw : z.w ≤ x.w := hle z (by rw [← h.lv, h1]; exact qaS.2 ⟨qbe _ hz, hzl⟩)
   cases hr : r2 with
   | nil => rw [hr] at hz; cases hz
   | cons y t =>
    have hy := h4 y t hr
    have hyz : lle y z = true := by
     rw [hr] at hz o2
     rcases qa9.1 hz with rfl | hz
     ·exact lle_refl _
     ·exact (qa5.1 o2).1 z hz
    have hzx : lle z x = true := by
     rw [ybo]
     rcases Int.lt_or_eq_of_le hzw with h5 | h5
     ·exact qat h5
     ·exact qaT ⟨h5, qat hzl⟩
    rw [yfF hyz hzx] at hy
    cases hy
 have hf2 : r2.filter (fun x => x.leaf) = [] := qbS.2 fun z hz => by rw [hnl z hz]; decide
 refine ⟨?_, ?_, ?_⟩
 ·rw [h2, qa2]
  refine ⟨o1, qa5.2 ⟨hx2, o2⟩, ?_⟩
  intro a ha b hb
  rcases qa9.1 hb with rfl | hb
  ·exact h3 a ha
  ·exact o3 a ha b hb
 ·rw [h2, ← h.lv, h1, qbi, qbi, qaG, hf2, qah (by simpa using hx), qa6]
 ·rw [h2, ← h.pk, h1, qbi, qbi, qaG, qag (by simp [hx])]
structure yaF (leaves : List LTh) : Prop where
 all : ∀ x ∈ leaves, x.leaf = true
 order : leaves.Pairwise (fun a b => a.w ≤ b.w)
theorem yeR : ∀ (xs leaves packs R : List LTh), LRow leaves packs R → (∀ x ∈ xs, x.leaf = true) → (leaves ++ xs).Pairwise (fun a b => a.w ≤ b.w) → LRow (leaves ++ xs) packs (xs.foldl lput R)
 | [], leaves, packs, R, h, _, _ => by simpa using h
 | x :: t, leaves, packs, R, h, ha, ho => by
  have h1 := lput_leaf h x (ha x (qaC ..)) fun y hy => (qa2.1 ho).2.2 y hy x (qaC ..)
  have := yeR t (leaves ++ [x]) packs (lput R x) h1 (fun z hz => ha z (qaD _ hz)) (by rw [qak]; exact ho)
  rw [qak] at this
  exact this
theorem ybI : ∀ (R : List LTh), ∀ x ∈ yam R, x.leaf = false
 | [], x, h => by cases h
 | [_], x, h => by cases h
 | a :: b :: t, x, h => by
  rcases qa9.1 h with rfl | h
  ·rfl
  ·exact ybI t x h
theorem lpacks_ge : ∀ (R : List LTh) (c : Int), (∀ x ∈ R, c ≤ x.w) → ∀ x ∈ yam R, c + c ≤ x.w
 | [], c, _, x, h => by cases h
 | [_], c, _, x, h => by cases h
 | a :: b :: t, c, hc, x, h => by
  rcases qa9.1 h with rfl | h
  ·have h1 := hc a (by simp)
   have h2 := hc b (by simp)
   show c + c ≤ a.w + b.w
   omega
  ·exact lpacks_ge t c (fun y hy => hc y (by simp [hy])) x h
theorem ycx : ∀ (R : List LTh), R.Pairwise (fun a b => a.w ≤ b.w) → (yam R).Pairwise (fun a b => lle a b = true)
 | [], _ => qb0
 | [_], _ => qb0
 | a :: b :: t, h => by
  obtain ⟨h1, h2⟩ := qa5.1 h
  obtain ⟨h3, h4⟩ := qa5.1 h2
  refine qa5.2 ⟨?_, ycx t h4⟩
  intro x hx
  have hb := lpacks_ge t b.w h3 x hx
  have hab := h1 b (qaC ..)
  rw [ybo]
  have hw : (ybx a b).w ≤ x.w := by show a.w + b.w ≤ x.w; omega
  rcases Int.lt_or_eq_of_le hw with h5 | h5
  ·exact qat h5
  ·exact qaT ⟨h5, qaT (ybI t x hx)⟩
theorem ybZ : ∀ (R : List LTh), (yam R).length = R.length / 2
 | [] => rfl
 | [_] => by simp [yam]
 | a :: b :: t => by
  show (yam t).length + 1 = (t.length + 1 + 1) / 2
  rw [ybZ t]
  omega
theorem ydN {R : List LTh} (h : R.Pairwise (fun a b => lle a b = true)) : R.Pairwise (fun a b => a.w ≤ b.w) := h.imp lle_w
theorem ygn {leaves row : List LTh} (hl : yaF leaves) (hr : row.Pairwise (fun a b => a.w ≤ b.w)) : LRow leaves (yam row) (ygu row leaves) := by
 have hp := ycx row hr
 have h0 : LRow [] (yam row) ((yam row).foldl lput []) := by
  rw [lput_all (yam row) [] (by simpa using hp), qbc]
  exact ⟨hp, qbS.2 fun z hz => by rw [ybI row z hz]; decide, qc0.2 fun z hz => by rw [ybI row z hz]; rfl⟩
 have := yeR leaves [] (yam row) _ h0 hl.all (by simpa using hl.order)
 simpa [ygu] using this
theorem ye8 {leaves : List LTh} (hl : yaF leaves) : ∀ k, (lrow leaves k).Pairwise (fun a b => a.w ≤ b.w)
 | 0 => hl.order
 | k + 1 => ydN (ygn hl (ye8 hl k)).order
theorem ybu {leaves : List LTh} (hl : yaF leaves) (k : Nat) : LRow leaves (yam (lrow leaves k)) (lrow leaves (k + 1)) := ygn hl (ye8 hl k)
theorem ycH (R : List LTh) : R.length = (R.filter (fun x => x.leaf)).length + (R.filter (fun x => !x.leaf)).length := by
 induction R with
 | nil => rfl
 | cons a t ih =>
  rw [qaG, qaG]
  cases a.leaf <;> simp <;> omega
theorem yfr {leaves : List LTh} (hl : yaF leaves) (k : Nat) : (lrow leaves (k + 1)).length = leaves.length + (lrow leaves k).length / 2 := by
 have h := ybu hl k
 rw [ycH, h.lv, h.pk, ybZ]
def lsum (f : LTh → Int) : List LTh → Int
 | [] => 0
 | x :: t => f x + lsum f t
theorem ycg (f : LTh → Int) : ∀ a b : List LTh, lsum f (a ++ b) = lsum f a + lsum f b
 | [], b => by simp [lsum]
 | x :: t, b => by
  show f x + lsum f (t ++ b) = f x + lsum f t + lsum f b
  rw [ycg f t b]
  omega
theorem lsum_parts (f : LTh → Int) (R : List LTh) : lsum f R = lsum f (R.filter (fun x => x.leaf)) + lsum f (R.filter (fun x => !x.leaf)) := by
 induction R with
 | nil => rfl
 | cons a t ih =>
  rw [qaG, qaG]
  cases a.leaf <;> simp [lsum] <;> omega
def LAdds (f : LTh → Int) : Prop := ∀ a b, f (ybx a b) = f a + f b
theorem yeQ {f : LTh → Int} (hf : LAdds f) : ∀ (R : List LTh) (b : Nat), 2 * b ≤ R.length → lsum f ((yam R).take b) = lsum f (R.take (2 * b))
 | R, 0, _ => by simp [lsum]
 | [], b + 1, h => by simp at h
 | [_], b + 1, h => by simp at h; omega
 | x :: y :: t, b + 1, h => by
  have ih := yeQ hf t b (by simp at h; omega)
  rw [show 2 * (b + 1) = 2 * b + 1 + 1 from by omega]
  show lsum f (ybx x y :: (yam t).take b) = lsum f (x :: y :: t.take (2 * b))
  simp only [lsum, ih, hf x y]
  omega
def lcnt (R : List LTh) (t : Nat) : Nat := ((R.take t).filter (fun x => x.leaf)).length
section
variable {leaves packs R : List LTh}
theorem LRow.take_lv (h : LRow leaves packs R) (t : Nat) : (R.take t).filter (fun x => x.leaf) = leaves.take (lcnt R t) := by
 have e : R.filter (fun x => x.leaf) = (R.take t).filter (fun x => x.leaf) ++ (R.drop t).filter (fun x => x.leaf) := by rw [← qbi, qa1]
 rw [h.lv] at e
 rw [e]
 unfold lcnt
 rw [qcg rfl]
theorem LRow.take_pk (h : LRow leaves packs R) (t : Nat) (ht : t ≤ R.length) : (R.take t).filter (fun x => !x.leaf) = packs.take (t - lcnt R t) := by
 have e : R.filter (fun x => !x.leaf) = (R.take t).filter (fun x => !x.leaf) ++ (R.drop t).filter (fun x => !x.leaf) := by rw [← qbi, qa1]
 rw [h.pk] at e
 have hl := ycH (R.take t)
 rw [qar, qbh ht] at hl
 rw [e, qcg (by unfold lcnt; omega)]
theorem lcnt_le (R : List LTh) (t : Nat) : lcnt R t ≤ t := by
 unfold lcnt
 have := qbY (fun x : LTh => x.leaf) (R.take t)
 rw [qar] at this
 omega
theorem LRow.cnt_leaves (h : LRow leaves packs R) (t : Nat) : lcnt R t ≤ leaves.length := by
 have := qbJ List.length (h.take_lv t)
 rw [qar] at this
 unfold lcnt at *
 omega
theorem LRow.cnt_packs (h : LRow leaves packs R) (t : Nat) (ht : t ≤ R.length) : t - lcnt R t ≤ packs.length := by
 have h1 := qbJ List.length (h.take_pk t ht)
 have hl := ycH (R.take t)
 rw [qar, qbh ht] at hl
 rw [qar] at h1
 unfold lcnt at *
 omega
theorem LRow.take_sum (h : LRow leaves packs R) (f : LTh → Int) (t : Nat) (ht : t ≤ R.length) : lsum f (R.take t) = lsum f (leaves.take (lcnt R t)) + lsum f (packs.take (t - lcnt R t)) := by
 rw [lsum_parts, h.take_lv t, h.take_pk t ht]
end
def ydC (leaves : List LTh) : Nat → Nat → List Nat
 | 0, t => [t]
 | k + 1, t => lcnt (lrow leaves (k + 1)) t :: ydC leaves k (2 * (t - lcnt (lrow leaves (k + 1)) t))
theorem ydn {leaves : List LTh} (hl : yaF leaves) (k t : Nat) (ht : t ≤ (lrow leaves (k + 1)).length) : 2 * (t - lcnt (lrow leaves (k + 1)) t) ≤ (lrow leaves k).length := by
 have := (ybu hl k).cnt_packs t ht
 rw [ybZ] at this
 omega
def nsum (g : Nat → Int) : List Nat → Int
 | [] => 0
 | x :: t => g x + nsum g t
theorem lprof_sum {leaves : List LTh} (hl : yaF leaves) {f : LTh → Int} (hf : LAdds f) : ∀ k t, t ≤ (lrow leaves k).length → lsum f ((lrow leaves k).take t) = nsum (fun a => lsum f (leaves.take a)) (ydC leaves k t)
 | 0, t, _ => by simp [ydC, nsum, lrow]
 | k + 1, t, ht => by
  have hn := ydn hl k t ht
  rw [(ybu hl k).take_sum f t ht, yeQ hf _ _ hn, lprof_sum hl hf k _ hn]
  rfl
theorem yem (leaves : List LTh) : ∀ k t, (ydC leaves k t).length = k + 1
 | 0, t => rfl
 | k + 1, t => by
  show (ydC leaves k _).length + 1 = _
  rw [yem leaves k]
theorem lprof_le {leaves : List LTh} (hl : yaF leaves) : ∀ k t, t ≤ (lrow leaves k).length → ∀ a ∈ ydC leaves k t, a ≤ leaves.length
 | 0, t, ht, a, ha => by
  simp [ydC] at ha
  subst ha
  exact ht
 | k + 1, t, ht, a, ha => by
  rcases qa9.1 ha with rfl | ha
  ·exact (ybu hl k).cnt_leaves t
  ·exact lprof_le hl k _ (ydn hl k t ht) a ha
def lwid : List Nat → Nat
 | [] => 0
 | a :: t => 2 ^ t.length * a + lwid t
theorem lprof_wid {leaves : List LTh} : ∀ k t, lwid (ydC leaves k t) = 2 ^ k * t
 | 0, t => by simp [ydC, lwid]
 | k + 1, t => by
  show 2 ^ (ydC leaves k _).length * _ + lwid (ydC leaves k _) = _
  have hc := lcnt_le (lrow leaves (k + 1)) t
  rw [yem, lprof_wid k]
  generalize lcnt (lrow leaves (k + 1)) t = c at *
  obtain ⟨d, rfl⟩ : ∃ d, t = c + d := ⟨t - c, by omega⟩
  rw [show c + d - c = d from by omega, qaO, Nat.mul_add, qbX, qbX]
theorem LRow.drop_lv {leaves packs R : List LTh} (h : LRow leaves packs R) (t : Nat) : (R.drop t).filter (fun x => x.leaf) = leaves.drop (lcnt R t) := by
 have e : R.filter (fun x => x.leaf) = (R.take t).filter (fun x => x.leaf) ++ (R.drop t).filter (fun x => x.leaf) := by rw [← qbi, qa1]
 rw [h.lv] at e
 rw [e]
 unfold lcnt
 rw [qbZ rfl]
theorem lpacks_pos : ∀ (R : List LTh), (∀ x ∈ R, 0 < x.w) → ∀ p ∈ yam R, 0 < p.w
 | [], _, p, h => by cases h
 | [_], _, p, h => by cases h
 | a :: b :: t, hp, p, h => by
  rcases qa9.1 h with rfl | h
  ·have h1 := hp a (by simp)
   have h2 := hp b (by simp)
   show 0 < a.w + b.w
   omega
  ·exact lpacks_pos t (fun y hy => hp y (by simp [hy])) p h
theorem lrow_pos {leaves : List LTh} (hl : yaF leaves) (hp : ∀ x ∈ leaves, 0 < x.w) : ∀ k, ∀ x ∈ lrow leaves k, 0 < x.w
 | 0, x, h => hp x h
 | k + 1, x, h => by
  have hr := ybu hl k
  cases hx : x.leaf with
  | true => exact hp x (by rw [← hr.lv]; exact qaS.2 ⟨h, hx⟩)
  | false => exact lpacks_pos _ (lrow_pos hl hp k) x (by rw [← hr.pk]; exact qaS.2 ⟨h, by simp [hx]⟩)
theorem lpacks_has : ∀ (R : List LTh) (b : Nat), 2 * b ≤ R.length → (∀ x ∈ R, 0 < x.w) → ∀ x ∈ R.take (2 * b), ∃ p ∈ (yam R).take b, x.w < p.w
 | R, 0, _, _, x, h => by simp at h
 | [], b + 1, h, _, x, hx => by simp at h
 | [_], b + 1, h, _, x, hx => by simp at h; omega
 | y :: z :: t, b + 1, h, hp, x, hx => by
  rw [show 2 * (b + 1) = 2 * b + 1 + 1 from by omega] at hx
  have h1 := hp y (by simp)
  have h2 := hp z (by simp)
  rcases qa9.1 hx with rfl | hx
  ·exact ⟨ybx x z, qaC .., by show x.w < x.w + z.w; omega⟩
  ·rcases qa9.1 hx with rfl | hx
   ·exact ⟨ybx y x, qaC .., by show x.w < y.w + x.w; omega⟩
   ·obtain ⟨p, hp1, hp2⟩ := lpacks_has t b (by simp at h; omega) (fun u hu => hp u (by simp [hu])) x hx
    exact ⟨p, qaD _ hp1, hp2⟩
theorem lrow_lv {leaves : List LTh} (hl : yaF leaves) (k s : Nat) : ((lrow leaves k).take s).filter (fun x => x.leaf) = leaves.take (lcnt (lrow leaves k) s) := by
 cases k with
 | zero =>
  have h1 : ∀ x ∈ leaves.take s, x.leaf = true := fun x hx => hl.all x (qaV hx)
  show (leaves.take s).filter _ = leaves.take ((leaves.take s).filter _).length
  rw [qc0.2 h1, qar]
  rcases Nat.le_total s leaves.length with h | h
  ·rw [qbh h]
  ·rw [Nat.min_eq_right h, qbK, qax h]
 | succ k => exact (ybu hl k).take_lv s
theorem lcnt_nest {leaves : List LTh} (hl : yaF leaves) (hp : ∀ x ∈ leaves, 0 < x.w) (k t : Nat) (ht : t ≤ (lrow leaves (k + 1)).length) :
  lcnt (lrow leaves k) (2 * (t - lcnt (lrow leaves (k + 1)) t)) ≤ lcnt (lrow leaves (k + 1)) t := by
 have hr := ybu hl k
 have hn := ydn hl k t ht
 have hlv := lrow_lv hl k (2 * (t - lcnt (lrow leaves (k + 1)) t))
 have hpk := hr.take_pk t ht
 have hdl := hr.drop_lv t
 generalize hc : lcnt (lrow leaves (k + 1)) t = c at *
 generalize hc2 : lcnt (lrow leaves k) (2 * (t - c)) = c2 at *
 rcases qaZ c c2 with hlt | hge
 ·exfalso
  have hlen : c2 ≤ leaves.length := by
   have h1 := qbJ List.length hlv
   rw [qar] at h1
   have h2 : ((List.take (2 * (t - c)) (lrow leaves k)).filter (fun x => x.leaf)).length = c2 := hc2
   omega
  have hcl : c < leaves.length := by omega
  have hm1 : leaves[c] ∈ leaves.take c2 := List.mem_iff_getElem.2 ⟨c, by rw [qar]; omega, by simp⟩
  rw [← hlv] at hm1
  obtain ⟨p, hp1, hp2⟩ := lpacks_has (lrow leaves k) (t - c) hn (lrow_pos hl hp k) leaves[c] (qaS.1 hm1).1
  rw [← hpk] at hp1
  have hpt := (qaS.1 hp1).1
  have hm2 : leaves[c] ∈ leaves.drop c := List.mem_iff_getElem.2 ⟨0, by rw [qaz]; omega, by simp⟩
  rw [← hdl] at hm2
  have hxd := (qaS.1 hm2).1
  have ho := ydN hr.order
  rw [← qa1 t (lrow leaves (k + 1))] at ho
  have := (qa2.1 ho).2.2 p hpt _ hxd
  omega
 ·exact hge
theorem lprof_head {leaves : List LTh} (hl : yaF leaves) : ∀ k t, t ≤ (lrow leaves k).length → ∃ l, ydC leaves k t = lcnt (lrow leaves k) t :: l
 | 0, t, ht => by
  refine ⟨[], ?_⟩
  have h1 : ∀ x ∈ leaves.take t, x.leaf = true := fun x hx => hl.all x (qaV hx)
  show [t] = [((leaves.take t).filter _).length]
  rw [qc0.2 h1, qar, qbh (show t ≤ leaves.length from ht)]
 | k + 1, t, _ => ⟨_, rfl⟩
theorem yfZ {leaves : List LTh} (hl : yaF leaves) (hp : ∀ x ∈ leaves, 0 < x.w) : ∀ k t, t ≤ (lrow leaves k).length → (ydC leaves k t).Pairwise (fun a b => b ≤ a)
 | 0, t, _ => by simp [ydC]
 | k + 1, t, ht => by
  have hn := ydn hl k t ht
  have ih := yfZ hl hp k _ hn
  refine qa5.2 ⟨?_, ih⟩
  have hnest := lcnt_nest hl hp k t ht
  obtain ⟨l, hl2⟩ := lprof_head hl k _ hn
  rw [hl2] at ih ⊢
  intro a ha
  rcases qa9.1 ha with rfl | ha
  ·exact hnest
  ·exact qa7 ((qa5.1 ih).1 a ha) hnest
theorem yab {P : Program} {w : World} {ops : Array Oper} {o : Oper} {a : Act} {K : Act → World → Prop} {Q : Exit → Act → World → Prop} {E : Prop} (hgd : o.guard = none) (s x : Operand) (t : TypeId)
  (ho : o.op = .call { callee := .builtin .append, args := #[s, x], argTypes := #[t, t] })
  (base : Nat) (e : TypeId) (i : TypeInfo) (z : Value) (size bytes : Nat) (ht : P.underlying t = some (.slice e)) (hi : P.info? e = some i) (hz : i.zero = some z)
  (hsize : i.size = size) (hby : i.bytes = bytes) (hzs : z.cells.size = size) (hsz : 0 < size)
  (v : Value) (n : Nat) (xs : List Value) (hs : a.eval s = v) (hown : w.ownsRow base e size v n xs)
  (Ax : Option Addr) (m c B : Nat) (news : List Value) (hx : a.eval x = .slice Ax m c) (hr : Reads w B size Ax m news) (h1 : ∀ u ∈ news, u.oneCell' = true)
  (h63 : n + m ≤ maxLen) (hbytes : (n + m) * bytes ≤ 140737488355328) (hbase : base ≤ w.heap.size) (N : Nat) (hN : n + m = N)
  (h : ∀ A' c' w', w'.ownsRow base e size (.slice A' N c') N (xs ++ news) → w.grownBy w' v.ownBlock → Sep w v (.slice A' N c') → K (a.put o.dst (.slice A' N c')) w') :
  if Region.wanted o (yielded ops a.tmps) = true then Oper.wp P o a w K Q else E := by
 subst hN
 have hw : Region.wanted o (yielded ops a.tmps) = true := by simp [Region.wanted, hgd]
 rw [qah hw]
 obtain ⟨v', w', hrun, h2, h3, h4⟩ := ydy (P := P) w base t o.type e i z size bytes ht hi hz hsize hby hzs hsz v n xs hown Ax m c B news hr h1 h63 hbytes hbase
 obtain ⟨A2, c2, rfl, _, _⟩ := yad h2
 unfold Oper.wp execOp
 simp only [ho, resolve, invoke, builtin, Sem.run_bind, Sem.run_pure, Result.andThen_ok, List.map_toArray, qcn, List.map_nil, hs, hx, hrun]
 exact h A2 c2 w' h2 h3 h4
section
variable {w w' w'' : World} {g : Nat} {row : Option Nat}
theorem ycK (w : World) (row : Option Nat) : w.grownBy w row := ⟨rfl, rfl, rfl, qaf _, fun _ _ _ => rfl⟩
theorem grow_trans (h : w.grownBy w' row) (k : w'.grownBy w'' row) : w.grownBy w'' row :=
 ⟨k.os.trans h.os, k.tape.trans h.tape, k.output.trans h.output, qa7 h.size k.size, fun i hi hr => (k.block i (qaM hi h.size) hr).trans (h.block i hi hr)⟩
theorem grow_below {B : Nat} (h : Below B w w') (hB : w.heap.size ≤ B) : w.grownBy w' row := ⟨h.os, h.tape, h.output, h.size, fun i hi _ => h.block i (by omega)⟩
theorem ybc (h : w.grownBy w' (some g)) {p : Addr} (hp : p.block = g ∨ w.heap.size ≤ p.block) (u : Value) : w.grownBy (w'.setCell p u) (some g) :=
 ⟨h.os, h.tape, h.output, by have := h.size; simpa [World.setCell] using this, fun i hi hr => by
  have e : i ≠ p.block := by
   rcases hp with hp | hp
   ·exact fun e => hr (by rw [e, hp])
   ·omega
  exact (Below.heap_setCell _ _ _ _ e).trans (h.block i hi hr)⟩
theorem ycP (h : w.grownBy w' row) (o : Obj) : w.grownBy (w'.alloc o) row := grow_trans h (World.grownBy_alloc w' o row)
theorem ycR {B : Nat} (h : w.grownBy w' (some g)) (hB : B ≤ g) (hw : B ≤ w.heap.size) : Below B w w' := ⟨h.os, h.tape, h.output, h.size, fun i hi => h.block i (by omega) (fun e => by injection e with e; omega)⟩
theorem Blk.grow {b : Nat} {t : TypeId} {cs : Array Value} (h : Blk w b t cs) (hg : w.grownBy w' (some g)) (hb : b ≠ g) : Blk w' b t cs := (hg.block b h.lt (fun e => by injection e with e; exact hb e)).trans h
end
section
variable {w w' : World} {g : Nat} {t : TypeId} {cs : Array Value}
open Go.RowKit in
theorem grow_row (w : World) (g : Nat) (cs : Array Value) : w.grownBy (w.setRow g cs) (some g) :=
 ⟨rfl, rfl, rfl, by simp [World.setRow], fun k _ hk => setRow_other w g k cs (fun e => hk (by rw [e]))⟩
theorem Blk.row (h : Blk w g t cs) (cs' : Array Value) : Blk (w.setRow g cs') g t cs' := setRow_heap w g _ _ t _ h
end
theorem ycy : (prog.info? 3).map (fun i => (i.zero, i.size, i.bytes)) = some (some (.int .i64 0), 1, 8) := by kernel_rfl
theorem gints_zero (n : Nat) : madeCells #[.int .i64 0] n = (ints (List.replicate n 0)).toArray := by
 unfold ints
 apply Array.ext'
 simp [madeCells, Nat.mod_one]
 rw [qcu, qaL]
theorem ydm (n : Int) (N : Nat) (hN : (N : Int) = n) (h : N ≤ 17592186044416) (w : World) :
  (Instr.makeSlice 28 (.int .i64 n) (.int .i64 n)).run prog w = .ok (.slice (some ⟨w.heap.size, 0, none⟩) N N) (w.alloc (.cells (ints (List.replicate N 0)).toArray 3)) := by
 subst hN
 rw [← gints_zero]
 exact run_make_row' (P := prog) 28 3 (.int .i64 0) 8 underlying28 ycy rfl .i64 .i64 N (by omega) (by omega) w
theorem yaH (l : List Int) (k : Nat) (v : Int) : (ints l).toArray.setIfInBounds k (.int .i64 v) = (ints (l.set k v)).toArray := by
 rw [qab]
 simp [ints, List.map_set]
theorem yaz (l : List Int) : ∀ u ∈ ints l, u.oneCell' = true := by
 intro u hu
 obtain ⟨b, _, rfl⟩ := qbM.1 hu
 rfl
theorem yan (a b : List Int) : ints (a ++ b) = ints a ++ ints b := by simp [ints]
theorem gints_take (l : List Int) (k : Nat) : (ints l).take k = ints (l.take k) := by simp [ints]
theorem gints_drop (l : List Int) (k : Nat) : (ints l).drop k = ints (l.drop k) := by simp [ints]
theorem yap {w : World} {g n : Nat} {t : TypeId} {l : List Int} (h : Blk w g t (ints l).toArray) (hn : l.length = n) : Reads w w.heap.size 1 (some ⟨g, 0, none⟩) n (ints l) :=
 ⟨by rw [yae]; omega, fun _ => ⟨g, 0, rfl, h.lt, fun j u hu => by rw [qaE, h.cell]; simpa using hu⟩⟩
theorem yaI {w : World} {g : Nat} {t : TypeId} {l : List Int} (h : Blk w g t (ints l).toArray) (k : Nat) (hk : k < l.length) : w.cell? ⟨g, k, none⟩ = some (.int .i64 l[k]) := by rw [h.cell, qaq, yak l k hk]
theorem gcells_at {w : World} {A : Option Addr} {n : Nat} {l : List Int} (hr : Reads w w.heap.size 1 A n (ints l)) (hn : 0 < n) : ∃ b off, A = some ⟨b, off, none⟩ ∧ b < w.heap.size ∧ ∀ W, Below w.heap.size w W → ∀ k (hk : k < l.length), W.cell? ⟨b, off + k, none⟩ = some (.int .i64 l[k]) := by
 obtain ⟨b, off, e, hb, hc⟩ := hr.2 hn
 exact ⟨b, off, e, hb, fun W hW k hk => (hW.cell (p := ⟨b, off + k, none⟩) hb).trans (hc k _ (yak l k hk))⟩
theorem Reads.upto {w w' : World} {size n : Nat} {A : Option Addr} {xs : List Value} (h : Reads w w.heap.size size A n xs) (hb : Below w.heap.size w w') : Reads w' w'.heap.size size A n xs := (h.below hb).more hb.size
def LPost (w w' : World) (e : Ending) (F : List Int × Int) : Prop := ∃ A' c', e = .returned (.tuple #[.slice A' F.1.length c', .int .i64 F.2]) ∧ F.1.length ≤ c' ∧ Reads w' w'.heap.size 1 A' F.1.length (ints F.1) ∧ Below w.heap.size w w'
theorem lpost_none {w w' : World} {E : Int} (hb : Below w.heap.size w w') : LPost w w' (.returned (.tuple #[.slice none 0 0, .int .i64 E])) ([], E) := ⟨none, 0, rfl, qaf _, Reads.none_, hb⟩
theorem lpost_row {w w' : World} {l : List Int} {A : Option Addr} {k c : Nat} (hl : l.length = k) (hc : k ≤ c) (hr : Reads w' w'.heap.size 1 A k (ints l)) (hb : Below w.heap.size w w') : LPost w w' (.returned (.tuple #[.slice A k c, .int .i64 0])) (l, 0) := by
 subst hl
 exact ⟨A, c, rfl, hc, hr, hb⟩
theorem ybM {N : Nat} (W : World) (x : Int) (h : N ≤ W.heap.size) : (W.alloc (.cells #[.int .i64 x] 3)).ownsRow N 3 1 (.slice (some ⟨W.heap.size, 0, none⟩) 1 1) 1 (ints [x]) :=
 ⟨rfl, qaT ⟨W.heap.size, 1, #[.int .i64 x], rfl, h, Blk.new W _ _, qaf _, by unfold maxLen; omega, rfl, rfl⟩⟩
def rng (n : Nat) (f : Nat → Int) : List Int := (List.range n).map f
theorem ybE (n : Nat) (f : Nat → Int) : (rng n f).length = n := by simp [rng]
theorem ycp (n : Nat) (f : Nat → Int) (k : Nat) (h : k < (rng n f).length) : (rng n f)[k] = f k := by simp [rng]
theorem rng_ext {n : Nat} {f g : Nat → Int} (h : ∀ k, k < n → f k = g k) : rng n f = rng n g := by
 unfold rng
 apply List.map_congr_left
 intro k hk
 exact h k (qbk.1 hk)
theorem ygh {n : Nat} {f g : Nat → Int} (k : Nat) (v : Int) (h : ∀ j, j < n → g j = if j = k then v else f j) : (rng n f).set k v = rng n g := by
 apply qbR
 ·rw [qbO, ybE, ybE]
 ·intro j h1 h2
  rw [ybE] at h2
  rw [List.getElem_set, ycp, ycp, h j h2]
  by_cases e : k = j
  ·rw [qah e, qah e.symm]
  ·rw [qag e, qag fun h => e h.symm]
theorem rng_zero (n : Nat) : List.replicate n (0 : Int) = rng n fun _ => 0 := by
 apply qbR
 ·rw [ybE, qaY]
 ·intro j h1 h2
  rw [ycp, qck]
def bcnt (key : Nat → Nat) (row : List Nat) (k : Nat) : Nat := row.countP fun p => decide (key p = k)
def bsum (key : Nat → Nat) (row : List Nat) : Nat → Nat
 | 0 => 0
 | k + 1 => bsum key row k + bcnt key row k
def bk (key : Nat → Nat) (row : List Nat) (k : Nat) : List Nat := row.filter fun p => decide (key p = k)
def bks (key : Nat → Nat) (row : List Nat) : Nat → List Nat
 | 0 => []
 | m + 1 => bks key row m ++ bk key row m
theorem bk_len (key : Nat → Nat) (row : List Nat) (k : Nat) : (bk key row k).length = bcnt key row k := by
 unfold bk bcnt
 rw [List.countP_eq_length_filter]
theorem bks_len (key : Nat → Nat) (row : List Nat) : ∀ m, (bks key row m).length = bsum key row m
 | 0 => rfl
 | m + 1 => by
  show (bks key row m ++ bk key row m).length = bsum key row m + bcnt key row m
  rw [qae, bks_len key row m, bk_len]
theorem bks_mem (key : Nat → Nat) (row : List Nat) (p : Nat) : ∀ m, p ∈ bks key row m ↔ p ∈ row ∧ key p < m
 | 0 => by simp [bks]
 | m + 1 => by
  show p ∈ bks key row m ++ bk key row m ↔ _
  rw [qbf, bks_mem key row p m]
  unfold bk
  rw [qaS, qbq]
  constructor
  ·rintro (⟨a, b⟩ | ⟨a, b⟩)
   ·exact ⟨a, by omega⟩
   ·exact ⟨a, by omega⟩
  ·rintro ⟨a, b⟩
   by_cases e : key p = m
   ·exact qaT ⟨a, e⟩
   ·exact qat ⟨a, by omega⟩
theorem bks_pair {key : Nat → Nat} {row : List Nat} {R : Nat → Nat → Prop} (h : row.Pairwise R) : ∀ m, (bks key row m).Pairwise fun p q => key p < key q ∨ (key p = key q ∧ R p q)
 | 0 => qb0
 | m + 1 => by
  show (bks key row m ++ bk key row m).Pairwise _
  refine qa2.2 ⟨bks_pair h m, ?_, fun a ha b hb => ?_⟩
  ·have h1 : (bk key row m).Pairwise R := List.Pairwise.sublist List.filter_sublist h
   refine qbj (fun {a b} ha hb hab => qaT ⟨?_, hab⟩) h1
   unfold bk at ha hb
   rw [qaS, qbq] at ha hb
   rw [ha.2, hb.2]
  ·have h1 := (bks_mem key row a m).1 ha
   unfold bk at hb
   rw [qaS, qbq] at hb
   exact qat (by omega)
theorem ybR (key : Nat → Nat) (row : List Nat) (i k : Nat) : bcnt key (row.take i) k ≤ bcnt key row k := by
 unfold bcnt
 exact List.Sublist.countP_le (List.take_sublist _ _)
theorem ybz (key : Nat → Nat) (row : List Nat) (i k : Nat) (hi : i < row.length) : bcnt key (row.take (i + 1)) k = bcnt key (row.take i) k + if key row[i] = k then 1 else 0 := by
 unfold bcnt
 rw [qao hi, List.countP_append, List.countP_singleton]
 simp
theorem bcnt_room (key : Nat → Nat) (row : List Nat) (i : Nat) (hi : i < row.length) : bcnt key (row.take i) (key row[i]) < bcnt key row (key row[i]) := by
 have h1 := ybz key row i (key row[i]) hi
 have h2 := ybR key row (i + 1) (key row[i])
 rw [qah rfl] at h1
 omega
theorem bcnt_le (key : Nat → Nat) (row : List Nat) (k : Nat) : bcnt key row k ≤ row.length := by
 unfold bcnt
 exact List.countP_le_length
theorem bsum_lt (key : Nat → Nat) (row : List Nat) : ∀ m, bsum key row m = row.countP fun p => decide (key p < m)
 | 0 => by
  unfold bsum
  symm
  rw [List.countP_eq_zero]
  intro a _
  simp
 | m + 1 => by
  show bsum key row m + bcnt key row m = _
  rw [bsum_lt key row m]
  unfold bcnt
  induction row with
  | nil => rfl
  | cons a t ih =>
   simp only [List.countP_cons, qbU]
   split <;> split <;> split <;> omega
theorem bsum_le (key : Nat → Nat) (row : List Nat) (m : Nat) : bsum key row m ≤ row.length := by
 rw [bsum_lt]
 exact List.countP_le_length
theorem ycX (key : Nat → Nat) (row : List Nat) (m : Nat) (h : ∀ p ∈ row, key p < m) : bsum key row m = row.length := by
 rw [bsum_lt, List.countP_eq_length]
 intro a ha
 exact qaP (h a ha)
theorem bsum_mono (key : Nat → Nat) (row : List Nat) (a b : Nat) (h : a ≤ b) : bsum key row a ≤ bsum key row b := by
 obtain ⟨d, rfl⟩ := Nat.exists_eq_add_of_le h
 induction d with
 | zero => exact qaf _
 | succ d ih =>
  have := ih (by omega)
  show bsum key row a ≤ bsum key row (a + d) + bcnt key row (a + d)
  omega
def bmid (key : Nat → Nat) (row : List Nat) (i : Nat) : Nat → List Int
 | 0 => []
 | m + 1 => bmid key row i m ++ (splc (bk key (row.take i) m) ++ List.replicate (bcnt key row m - bcnt key (row.take i) m) 0)
theorem yfq (key : Nat → Nat) (row : List Nat) (i : Nat) : ∀ m, (bmid key row i m).length = bsum key row m
 | 0 => rfl
 | m + 1 => by
  have h := ybR key row i m
  show (bmid key row i m ++ (splc (bk key (row.take i) m) ++ List.replicate (bcnt key row m - bcnt key (row.take i) m) 0)).length = bsum key row m + bcnt key row m
  rw [qae, qae, yfq key row i m, yao, bk_len, qaY]
  omega
theorem yfS (key : Nat → Nat) (row : List Nat) : ∀ m, bmid key row 0 m = List.replicate (bsum key row m) 0
 | 0 => rfl
 | m + 1 => by
  show bmid key row 0 m ++ (splc (bk key (row.take 0) m) ++ List.replicate (bcnt key row m - bcnt key (row.take 0) m) 0) = List.replicate (bsum key row m + bcnt key row m) 0
  rw [yfS key row m, qaX]
  simp [bk, bcnt, splc, List.replicate_append_replicate]
theorem bmid_all (key : Nat → Nat) (row : List Nat) : ∀ m, bmid key row row.length m = splc (bks key row m)
 | 0 => rfl
 | m + 1 => by
  show bmid key row row.length m ++ (splc (bk key (row.take row.length) m) ++ List.replicate (bcnt key row m - bcnt key (row.take row.length) m) 0) = splc (bks key row m ++ bk key row m)
  rw [bmid_all key row m, qbK, Nat.sub_self, List.replicate_zero, qa6, yfm]
theorem bk_step (key : Nat → Nat) (row : List Nat) (i k : Nat) (hi : i < row.length) : bk key (row.take (i + 1)) k = bk key (row.take i) k ++ if key row[i] = k then [row[i]] else [] := by
 unfold bk
 rw [qao hi, qbi]
 by_cases e : key row[i] = k <;> simp [e]
theorem ygG (key : Nat → Nat) (row : List Nat) (i : Nat) (hi : i < row.length) : ∀ m, key row[i] < m → (bmid key row i m).set (bsum key row (key row[i]) + bcnt key (row.take i) (key row[i])) (row[i] : Nat) = bmid key row (i + 1) m
 | 0, h => absurd h (by omega)
 | m + 1, h => by
  have hr := bcnt_room key row i hi
  have hl := yfq key row i m
  show (bmid key row i m ++ (splc (bk key (row.take i) m) ++ List.replicate (bcnt key row m - bcnt key (row.take i) m) 0)).set _ _ = bmid key row (i + 1) m ++ (splc (bk key (row.take (i + 1)) m) ++ List.replicate (bcnt key row m - bcnt key (row.take (i + 1)) m) 0)
  by_cases e : key row[i] = m
  ·have same : bmid key row (i + 1) m = bmid key row i m := by
    have go : ∀ q, q ≤ m → bmid key row (i + 1) q = bmid key row i q := by
     intro q
     induction q with
     | zero => intro _; rfl
     | succ q ih =>
      intro hq
      show bmid key row (i + 1) q ++ (splc (bk key (row.take (i + 1)) q) ++ List.replicate (bcnt key row q - bcnt key (row.take (i + 1)) q) 0) = bmid key row i q ++ (splc (bk key (row.take i) q) ++ List.replicate (bcnt key row q - bcnt key (row.take i) q) 0)
      rw [ih (by omega), bk_step key row i q hi, ybz key row i q hi, qag (by omega), qag (by omega), qa6, qbr]
    exact go m (qaf _)
   rw [same, bk_step key row i m hi, ybz key row i m hi, qah e, qah e]
   rw [e] at hr ⊢
   have hb := bk_len key (row.take i) m
   rw [qbL _ _ (by omega), hl, show bsum key row m + bcnt key (row.take i) m - bsum key row m = bcnt key (row.take i) m from by omega, qbL _ _ (by rw [yao, hb]; exact qaf _), yao, hb, Nat.sub_self, show bcnt key row m - bcnt key (row.take i) m = (bcnt key row m - (bcnt key (row.take i) m + 1)) + 1 from by omega, qb9, qad, yfm, qak]
   rfl
  ·have hkm : key row[i] < m := by omega
   have h2 := bsum_mono key row (key row[i] + 1) m (by omega)
   have h3 : bsum key row (key row[i] + 1) = bsum key row (key row[i]) + bcnt key row (key row[i]) := rfl
   rw [List.set_append_left _ _ (by omega), ygG key row i hi m hkm, bk_step key row i m hi, ybz key row i m hi, qag e, qag e, qa6]
   rfl
def bmax (key : Nat → Nat) (row : List Nat) : Nat → Nat
 | 0 => 0
 | i + 1 => max (bmax key row i) (key (row.getD i 0))
theorem bmax_ge (key : Nat → Nat) (row : List Nat) : ∀ i j, j < i → key (row.getD j 0) ≤ bmax key row i
 | 0, j, h => by omega
 | i + 1, j, h => by
  show _ ≤ max (bmax key row i) (key (row.getD i 0))
  by_cases e : j = i
  ·subst e; omega
  ·have := bmax_ge key row i j (by omega)
   omega
theorem bmax_le (key : Nat → Nat) (row : List Nat) (B : Nat) (hB : ∀ p ∈ row, key p ≤ B) : ∀ i, i ≤ row.length → bmax key row i ≤ B
 | 0, _ => qcj _
 | i + 1, h => by
  have h1 := bmax_le key row B hB i (by omega)
  have h2 := hB row[i] (qam (by omega))
  show max (bmax key row i) (key (row.getD i 0)) ≤ B
  rw [qaw, qan (by omega)]
  simp only [qcc]
  omega
theorem yf4 (key : Nat → Nat) (row : List Nat) : ∀ p ∈ row, key p < bmax key row row.length + 1 := by
 intro p hp
 obtain ⟨i, hi, rfl⟩ := qaI hp
 have := bmax_ge key row row.length i hi
 rw [qaw, qan hi] at this
 simp only [qcc] at this
 omega
def bn1 (key : Nat → Nat) (row : List Nat) (m i : Nat) : List Int := rng (m + 2) fun j => if j = 0 then 0 else (bcnt key (row.take i) (j - 1) : Nat)
def bn2 (key : Nat → Nat) (row : List Nat) (m k : Nat) : List Int := rng (m + 2) fun j => if j ≤ k then (bsum key row j : Nat) else (bcnt key row (j - 1) : Nat)
def bn3 (key : Nat → Nat) (row : List Nat) (m i : Nat) : List Int := rng (m + 2) fun j => if j ≤ m then (bsum key row j + bcnt key (row.take i) j : Nat) else (bcnt key row (j - 1) : Nat)
theorem bn1_zero (key : Nat → Nat) (row : List Nat) (m : Nat) : bn1 key row m 0 = List.replicate (m + 2) 0 := by
 rw [rng_zero]
 refine rng_ext fun j _ => ?_
 split
 ·rfl
 ·simp [bcnt]
theorem bn1_step (key : Nat → Nat) (row : List Nat) (m i : Nat) (hi : i < row.length) : (bn1 key row m i).set (key row[i] + 1) ((bcnt key (row.take i) (key row[i]) : Nat) + 1 : Int) = bn1 key row m (i + 1) := by
 refine ygh _ _ fun j _ => ?_
 by_cases e : j = key row[i] + 1
 ·subst e
  rw [qah rfl, qag (by omega), qbH, ybz key row i _ hi, qah rfl]
  omega
 ·rw [qag e]
  split
  ·rfl
  ·rw [ybz key row i _ hi, qag (by omega)]
   omega
theorem bn1_all (key : Nat → Nat) (row : List Nat) (m : Nat) : bn1 key row m row.length = bn2 key row m 0 := by
 refine rng_ext fun j _ => ?_
 rw [qbK]
 by_cases e : j = 0
 ·subst e; rfl
 ·rw [qag e, qag (by omega)]
theorem bn2_step (key : Nat → Nat) (row : List Nat) (m k : Nat) : (bn2 key row m k).set (k + 1) ((bcnt key row k : Nat) + (bsum key row k : Nat) : Int) = bn2 key row m (k + 1) := by
 refine ygh _ _ fun j _ => ?_
 by_cases e : j = k + 1
 ·subst e
  rw [qah rfl, qah (qaf _), show bsum key row (k + 1) = bsum key row k + bcnt key row k from rfl]
  omega
 ·rw [qag e]
  by_cases h : j ≤ k
  ·rw [qah h, qah (by omega)]
  ·rw [qag h, qag (by omega)]
theorem bn2_all (key : Nat → Nat) (row : List Nat) (m : Nat) : bn2 key row m m = bn3 key row m 0 := by
 refine rng_ext fun j _ => ?_
 split
 ·simp [bcnt]
 ·rfl
theorem bn3_step (key : Nat → Nat) (row : List Nat) (m i : Nat) (hi : i < row.length) (hk : key row[i] ≤ m) : (bn3 key row m i).set (key row[i]) ((bsum key row (key row[i]) + bcnt key (row.take i) (key row[i]) : Nat) + 1 : Int) = bn3 key row m (i + 1) := by
 refine ygh _ _ fun j _ => ?_
 by_cases e : j = key row[i]
 ·subst e
  rw [qah rfl, qah hk, ybz key row i _ hi, qah rfl]
  omega
 ·rw [qag e, ybz key row i _ hi, qag (show ¬ key row[i] = j from fun h => e h.symm)]
  rfl
theorem bn1_get (key : Nat → Nat) (row : List Nat) (m i k : Nat) (h : k + 1 < (bn1 key row m i).length) : (bn1 key row m i)[k + 1] = (bcnt key (row.take i) k : Nat) :=
 (ycp _ _ _ h).trans (by rw [qag (by omega), qbH])
theorem bn2_get1 (key : Nat → Nat) (row : List Nat) (m k : Nat) (h : k + 1 < (bn2 key row m k).length) : (bn2 key row m k)[k + 1] = (bcnt key row k : Nat) :=
 (ycp _ _ _ h).trans (by rw [qag (by omega), qbH])
theorem bn2_get0 (key : Nat → Nat) (row : List Nat) (m k : Nat) (h : k < (bn2 key row m k).length) : (bn2 key row m k)[k] = (bsum key row k : Nat) :=
 (ycp _ _ _ h).trans (by rw [qah (qaf _)])
theorem bn3_get (key : Nat → Nat) (row : List Nat) (m i k : Nat) (hk : k ≤ m) (h : k < (bn3 key row m i).length) : (bn3 key row m i)[k] = (bsum key row k + bcnt key (row.take i) k : Nat) :=
 (ycp _ _ _ h).trans (by rw [qah hk])
theorem bn1_len (key : Nat → Nat) (row : List Nat) (m i : Nat) : (bn1 key row m i).length = m + 2 := ybE _ _
theorem bn2_len (key : Nat → Nat) (row : List Nat) (m i : Nat) : (bn2 key row m i).length = m + 2 := ybE _ _
theorem bn3_len (key : Nat → Nat) (row : List Nat) (m i : Nat) : (bn3 key row m i).length = m + 2 := ybE _ _
theorem bplace_lt (key : Nat → Nat) (row : List Nat) (i : Nat) (hi : i < row.length) : bsum key row (key row[i]) + bcnt key (row.take i) (key row[i]) < row.length := by
 have h1 := bcnt_room key row i hi
 have h2 := bsum_le key row (key row[i] + 1)
 have h3 : bsum key row (key row[i] + 1) = bsum key row (key row[i]) + bcnt key row (key row[i]) := rfl
 omega
theorem ye0 {P : Program} (w : World) {ops : Array Oper} {rest : List Oper} {o : Oper} {a : Act} {Q : Exit → Act → World → Prop} (hgd : o.guard = none) (s x : Operand) (t : TypeId)
  (ho : o.op = .call { callee := .builtin .append, args := #[s, x], argTypes := #[t, t] })
  (base : Nat) (e : TypeId) (i : TypeInfo) (z : Value) (size bytes : Nat) (ht : P.underlying t = some (.slice e)) (hi : P.info? e = some i) (hz : i.zero = some z)
  (hsize : i.size = size) (hby : i.bytes = bytes) (hzs : z.cells.size = size) (hsz : 0 < size)
  (v : Value) (n : Nat) (xs : List Value) (hs : a.eval s = v) (hown : w.ownsRow base e size v n xs)
  (Ax : Option Addr) (m c B : Nat) (news : List Value) (hx : a.eval x = .slice Ax m c) (hr : Reads w B size Ax m news) (h1 : ∀ u ∈ news, u.oneCell' = true)
  (h63 : n + m ≤ maxLen) (hbytes : (n + m) * bytes ≤ 140737488355328) (hbase : base ≤ w.heap.size)
  (h : ∀ v' w', w'.ownsRow base e size v' (n + m) (xs ++ news) → w.grownBy w' v.ownBlock → wpList P ops Q rest (a.put o.dst v') w') : wpList P ops Q (o :: rest) a w := by
 cases Ax with
 | some ad =>
  refine wpList_append_own w hgd s x t ho base e i z size bytes ht hi hz hsize hby hzs hsz v n xs hs hown ad m c news hx hr.1 (fun j u hj => ?_) h1 h63 hbytes hbase (fun v' w' h2 h3 _ => h v' w' h2 h3)
  rcases qaW m with hm | hm
  ·subst hm
   have hl := hr.1
   rw [qcy] at hl
   rw [qay.1 hl] at hj
   simp at hj
  ·obtain ⟨b, off, hA, _, hc⟩ := hr.2 hm
   injection hA with hA
   subst hA
   rw [yc9]
   exact hc j u hj
 | none =>
  have hm : m = 0 := by
   rcases qaW m with hm | hm
   ·exact hm
   ·obtain ⟨b, off, hA, _⟩ := hr.2 hm
    cases hA
  subst hm
  have hn : news = [] := by
   have hl := hr.1
   rw [qcy] at hl
   exact qay.1 hl
  subst hn
  have hrun : ∀ ty, (Builtin.append_ #[t, t] ty #[v, .slice none 0 c]).run P w = .ok v w := fun ty => by
   rcases hown.2 with ⟨rfl, rfl⟩ | ⟨g, cap, cur, rfl, _, _, hcap, _⟩
   ·exact run_append_nothing w t t ty e i ht hi none 0 0 (qaf _) _ (Src.ofNil w ht c)
   ·exact run_append_nothing w t t ty e i ht hi _ n cap hcap _ (Src.ofNil w ht c)
  have hh := h v w (by simpa using hown) ⟨rfl, rfl, rfl, qaf _, fun _ _ _ => rfl⟩
  refine wpList_plain hgd fun K hK => ?_
  unfold Oper.wp execOp
  simp only [ho, resolve, invoke, builtin, Sem.run_bind, Sem.run_pure, Result.andThen_ok, List.map_toArray, qcn, List.map_nil, hs, hx, hrun]
  exact hK _ _ hh
end Go.Proofs.YtanjhbkbpalnaaaGreat
