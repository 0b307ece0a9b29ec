/-
 What the law of the last of these texts stands on, part 1.
-/
import Derived.Test.YtanjhbkbpalnaaaGreatMc00
import Derived.Test.YtanjhbkbpalnaaaGreatRows
import Derived.WalkKit
import Derived.WalkSpells
import Derived.WalkLawsBesides
import Derived.ProofKit
import Derived.OpenShut
import Derived.Handy
import Derived.SizedLaws
import Derived.JoinedOf
import Derived.KernelRfl
import Derived.Lib.Hide
import Derived.Lib.SmallJoins
import Derived.Deep.Slices
import Derived.Deep.Fields
import Derived.Deep.SlicePairs
import Derived.Deep.Draws
import Derived.Deep.AppendLies
import Derived.Deep.QuietTactic
import Derived.BigQuiet
import Derived.Deep.RegionHeld3
import Derived.StillTailTactics
import Derived.Laws.OwnMore
import Derived.Laws.Rows
import Derived.Below
import Derived.Carry
import Derived.WalkMore
import Derived.Laws.BytesString
import Derived.Laws.BitsLemmas
import Derived.Laws.Concat
import Derived.Deep.Upon
import Derived.Deep.RegionLaw
import Derived.Deep.OwnRows
import Derived.Laws.EntriesVeiled
set_option maxRecDepth 100000
set_option maxHeartbeats 8000000
open Go.Proofs.Tryz
namespace Go.Proofs.YtanjhbkbpalnaaaGreat
set_option linter.unusedSimpArgs false
set_option linter.unusedVariables false
open Go.ChangeShapes Go.WideShapes Go.ChangeAt Go.RowKit Go.Joins Go.Deep
theorem block_of_add (a : Addr) (n : Nat) : (a.add n).block = a.block := by unfold Addr.add; split <;> rfl
theorem add_of_add (a : Addr) (i j : Nat) : (a.add i).add j = a.add (i + j) := by
 unfold Addr.add
 by_cases hi : i = 0 <;> by_cases hj : j = 0 <;> simp [hi, hj, qcn]
theorem yay {B : Nat} {a w : World} (h : Below B a w) (n : Nat) : Below B a (w.drewN n) := ⟨h.os, h.tape, h.output, h.size, h.block⟩
def Reads (w : World) (B size : Nat) (A : Option Addr) (n : Nat) (xs : List Value) : Prop :=
 xs.length = n * size ∧ (0 < n → ∃ b off, A = some ⟨b, off, none⟩ ∧ b < B ∧ ∀ j u, xs[j]? = some u → w.cell? ⟨b, off + j, none⟩ = some u)
theorem yco (b off k : Nat) : (⟨b, off, none⟩ : Addr).add k = ⟨b, off + k, none⟩ := by
 unfold Addr.add; split <;> simp_all
section
variable {w w' : World} {B B' size n : Nat} {A : Option Addr} {xs : List Value}
theorem Reads.none_ : Reads w B size A 0 [] := ⟨by simp, fun h => absurd h (by omega)⟩
theorem Reads.keep (h : Reads w B size A n xs) (hk : ∀ p : Addr, p.block < B → w'.cell? p = w.cell? p) : Reads w' B size A n xs :=
 ⟨h.1, fun hn => by
  obtain ⟨b, off, e, hb, hc⟩ := h.2 hn
  exact ⟨b, off, e, hb, fun j u hu => (hk _ hb).trans (hc j u hu)⟩⟩
theorem Reads.more (h : Reads w B size A n xs) (hB : B ≤ B') : Reads w B' size A n xs :=
 ⟨h.1, fun hn => by
  obtain ⟨b, off, e, hb, hc⟩ := h.2 hn
  exact ⟨b, off, e, by omega, hc⟩⟩
theorem Reads.below (h : Reads w B size A n xs) (hb : Below B w w') : Reads w' B size A n xs := h.keep fun _ hp => hb.cell hp
theorem Reads.drew (h : Reads w B size A n xs) : Reads w.drew B size A n xs := h
theorem Reads.drewN (h : Reads w B size A n xs) (k : Nat) : Reads (w.drewN k) B size A n xs := h
theorem Reads.alloc (h : Reads w B size A n xs) (hB : B ≤ w.heap.size) (o : Obj) : Reads (w.alloc o) B size A n xs := h.keep fun p hp => World.cell?_alloc_lt w o p (by omega)
theorem Reads.setCell (h : Reads w B size A n xs) {p : Addr} (hB : B ≤ p.block) (u : Value) : Reads (w.setCell p u) B size A n xs :=
 h.keep fun q hq => qcu w p q u (fun e => by subst e; omega)
theorem Reads.cut (h : Reads w B size A n xs) {k cap : Nat} (hk : k ≤ n) (hc : n ≤ cap) :
  Reads w B size (if cap = k then A else A.map (·.add (k * size))) (n - k) (xs.drop (k * size)) := by
 refine ⟨by rw [qat, h.1, Nat.sub_mul], fun hn => ?_⟩
 obtain ⟨b, off, rfl, hb, hcell⟩ := h.2 (by omega)
 rw [qag (by omega)]
 refine ⟨b, off + k * size, by simp [yco], hb, fun j u hu => ?_⟩
 rw [qcn]
 exact hcell _ u (by rw [← hu, List.getElem?_drop])
theorem Reads.new (w : World) (t : TypeId) (cs : List Value) (size n : Nat) (hl : cs.length = n * size) :
  Reads (w.alloc (.cells cs.toArray t)) (w.heap.size + 1) size (some ⟨w.heap.size, 0, none⟩) n cs := by
 refine ⟨hl, fun _ => ⟨_, _, rfl, by simp, fun j u hu => ?_⟩⟩
 simp only [World.cell?, World.alloc]
 simp [hu]
end
theorem yaN {P : Program} {t e : TypeId} {i : TypeInfo} {size : Nat} (ht : P.underlying t = some (.slice e)) (hi : P.info? e = some i) (hs : i.size = size) (A : Option Addr) (n c k : Nat) (hk : k ≤ n) (w : World) :
  (Instr.slice t (.slice A n c) (some (.int .i64 (k : Int))) none none).run P w = .ok (.slice (if c = k then A else A.map (·.add (k * size))) (n - k) (c - k)) w := by
 have he : P.elem t = e := by simp [Program.elem, ht]
 rw [run_slice_l w t A n c (by rw [he]; exact ht) .i64 k (by omega) (by omega), he]
 simp [sizeOf, typeInfo, hi, hs, sliced]
def Blk (w : World) (g : Nat) (t : TypeId) (cs : Array Value) : Prop := w.heap[g]? = some (.cells cs t (0, 0))
section
variable {w w' : World} {g : Nat} {t : TypeId} {cs : Array Value}
theorem Blk.lt (h : Blk w g t cs) : g < w.heap.size := by
 rcases qbz g w.heap.size with hlt | hge
 ·exact hlt
 ·unfold Blk at h; rw [Array.getElem?_eq_none hge] at h; cases h
theorem Blk.cell (h : Blk w g t cs) (i : Nat) : w.cell? ⟨g, i, none⟩ = cs[i]? := cell_of_row w g i cs t (0, 0) h
theorem Blk.frozen (h : Blk w g t cs) (i : Nat) : w.frozen? ⟨g, i, none⟩ = false := by
 unfold Blk at h
 simp [World.frozen?, h]
theorem Blk.new (w : World) (t : TypeId) (cs : Array Value) : Blk (w.alloc (.cells cs t)) w.heap.size t cs := heap_alloc_new w _
theorem Blk.drew (h : Blk w g t cs) : Blk w.drew g t cs := h
theorem Blk.drewN (h : Blk w g t cs) (n : Nat) : Blk (w.drewN n) g t cs := h
theorem Blk.alloc (h : Blk w g t cs) (o : Obj) : Blk (w.alloc o) g t cs := (Below.heap_alloc w o g h.lt).trans h
theorem Blk.set_ (h : Blk w g t cs) (i : Nat) (u : Value) : Blk (w.setCell ⟨g, i, none⟩ u) g t (cs.setIfInBounds i u) := by
 unfold Blk at h ⊢
 simp [World.setCell, Array.getElem?_modify, h]
theorem Blk.far (h : Blk w g t cs) {p : Addr} (hp : g ≠ p.block) (u : Value) : Blk (w.setCell p u) g t cs := (Below.heap_setCell w p u g hp).trans h
theorem Blk.two {x y : Value} (h : Blk w g t #[x, y]) : w.cell? ⟨g, 0, none⟩ = some x ∧ w.cell? ⟨g, 1, none⟩ = some y ∧ w.frozen? ⟨g, 0, none⟩ = false ∧ w.frozen? ⟨g, 1, none⟩ = false :=
 ⟨by rw [h.cell]; rfl, by rw [h.cell]; rfl, h.frozen 0, h.frozen 1⟩
theorem Blk.below {B : Nat} (h : Blk w g t cs) (hb : Below B w w') (hg : g < B) : Blk w' g t cs := (hb.block g hg).trans h
end
section
variable {H : Type} {enc : TypeId × Value → H}
theorem yes {P : Program} (hl : laidOutB P = true) {W W' : World} (hb : Below W.heap.size W W') : ∀ (ts : List TypeId) (vs : List Value) (ds : List (DataW H)) (ps : List MemPlace),
  ts.all (fun t => P.readableRec t && decide (t < P.types.size)) = true → DataW.TrodAll enc P W 0 (fun _ => true) true ts vs ds ps → (∀ x ∈ ps, x.block < W.heap.size) →
  DataW.TrodAll enc P W' 0 (fun b => decide (b < W.heap.size)) true ts vs ds ps
 | [], [], [], _, _, h, _ => h
 | [], [], _ :: _, _, _, h, _ => h.elim
 | [], _ :: _, _, _, _, h, _ => by cases ‹List (DataW H)› <;> exact h.elim
 | _ :: _, [], _, _, _, h, _ => by cases ‹List (DataW H)› <;> exact h.elim
 | _ :: _, _ :: _, [], _, _, h, _ => h.elim
 | t :: ts, v :: vs, d :: ds, ps, ha, h, hlt => by
  obtain ⟨p, q, h1, h2, rfl⟩ := h
  simp only [List.all_cons, qbH, qch] at ha
  exact ⟨p, q, Below.trod hl ha.1.1 ha.1.2 h1 hb (fun x hx => hlt x (qbu _ hx)),
   yes hl hb ts vs ds q ha.2 h2 (fun x hx => hlt x (qbj _ hx)), rfl⟩
theorem yd6 {P : Program} {w : World} {base : Nat} {sp : Nat → Bool} {held : Bool} : ∀ (ts : List TypeId) (vs : List Value) (ds : List (DataW H)) (ps : List MemPlace),
  DataW.TrodAll enc P w base sp held ts vs ds ps → ds.length = ts.length
 | [], [], [], _, _ => rfl
 | [], [], _ :: _, _, h => h.elim
 | [], _ :: _, _, _, h => by cases ‹List (DataW H)› <;> exact h.elim
 | _ :: _, [], _, _, h => by cases ‹List (DataW H)› <;> exact h.elim
 | _ :: _, _ :: _, [], _, h => h.elim
 | t :: ts, v :: vs, d :: ds, ps, h => by
  obtain ⟨p, q, _, h2, _⟩ := h
  simp [yd6 ts vs ds q h2]
theorem yec {C : Checked} {os : Os} {f : FuncId} {fn : Func} {s : ChangeSpec} {tb : TypeId}
  (own : ownKnob C.prog.godebug = none) (started : os.Started) (noInit : C.prog.inits.idxOf? f = none) (hfn : C.prog.funcs[f]? = some fn)
  (witness : ∃ (w : World) (tape : Tape) (i : Input), w.os = os ∧ (w.forCall tape i).Shaped C.prog ∧ i.vars = [] ∧ Input.okWide C.prog (w.forCall tape i) .any w.heap.size f i ∧
   s.pre6 enc C.prog fn [] false (w.forCall tape i).memory i.args ∧ ({} : Assume).holds C.prog (lone (Frame.enter C.prog f i.args .normal) [] (w.forCall tape i)))
  (hl : laidOutB C.prog = true) (hpar : fn.params.toList.all (fun t => C.prog.readableRec t && decide (t < C.prog.types.size)) = true)
  (hvars : s.vars = []) (hres : fn.resultTypes = #[tb]) (htb : C.prog.underlying tb = some .bool)
  (hsp : ∀ ds : List (DataW H), ds.length = fn.params.toList.length → s.fn H ds = { results := [.lit (.bool true)], args := ds })
  (walk : ∀ (W : World) (base : Nat) (args : Array Value) (ds : List (DataW H)) (p : List MemPlace),
   (∀ (j : Nat) t v, fn.params[j]? = some t → args[j]? = some v → Value.okWide C.prog W .any base t v) →
   DataW.TrodAll enc C.prog W 0 (fun _ => true) true fn.params.toList args.toList ds p → (∀ x ∈ p, x.block < W.heap.size) →
   (DataW.weightsEach C.prog fn.params.toList ds).all (· ≤ reachBytes) = true →
   Calls C.prog f args W fun e W' => e = .returned (.bool true) ∧ Below W.heap.size W W') :
  ReturnsInHanded {} C os f .any (s.pre6 enc C.prog fn [] false) (s.post enc C.prog fn false true false false) := by
 refine returnsInHanded_of_change_sized (C := C) own started noInit hfn witness ?_
 intro W base args ds gs before hval hW _ hsz _
 have hW' := hW
 obtain ⟨p, q, hA, hV, rfl, _, _⟩ := hW
 rw [hvars] at hV
 obtain ⟨rfl, rfl⟩ := trodVars_none hV
 have hlt : ∀ x ∈ p, x.block < W.heap.size := fun x hx => hW'.lt x (qbu _ hx)
 have hsz' : (DataW.weightsEach C.prog fn.params.toList ds).all (· ≤ reachBytes) = true := by
  have e : s.plain.varTypes C.prog = [] := by simp [ChangeSpec.plain, DataSpec.varTypes, hvars]
  rw [e] at hsz
  simpa using hsz
 have hlen := yd6 _ _ _ _ hA
 refine (walk W base args ds p hval hA hlt hsz').mono fun e W' ⟨he, hb⟩ => ⟨_, he, ds, [], p ++ [], [], p, [], hW', ?_, ?_, ?_, hb.frame _, fun h => by cases h⟩
 ·rw [qa8, hsp ds hlen, hres]
  exact trodAll_mk1 (shut_bool htb true)
 ·rw [qa8, hsp ds hlen]
  exact yes hl hb _ _ _ _ hpar hA hlt
 ·rw [qa8, hsp ds hlen, hvars]
  rfl
end
section
variable {H : Type} {enc : TypeId × Value → H} {P : Program} {w : World} {base : Nat} {spare : Nat → Bool} {held : Bool}
def ydT (k : IntKind) (l : List (Int × Int)) : List Value := l.flatMap fun r => [.int k r.1, .int k r.2]
theorem ycm (k : IntKind) (r : Int × Int) (l : List (Int × Int)) : ydT k (r :: l) = .int k r.1 :: .int k r.2 :: ydT k l := rfl
theorem yge (k : IntKind) : ∀ (l : List (Int × Int)) (i : Nat) (h : i < l.length), (ydT k l)[i * 2]? = some (.int k l[i].1)
 | _ :: _, 0, _ => rfl
 | r :: l, i + 1, h => by
  rw [ycm, show (i + 1) * 2 = i * 2 + 1 + 1 from by omega]
  simpa using yge k l i (by simpa using h)
theorem yg8 (k : IntKind) : ∀ (l : List (Int × Int)) (i : Nat) (h : i < l.length), (ydT k l)[i * 2 + 1]? = some (.int k l[i].2)
 | _ :: _, 0, _ => rfl
 | r :: l, i + 1, h => by
  rw [ycm, show (i + 1) * 2 + 1 = i * 2 + 1 + 1 + 1 from by omega]
  simpa using yg8 k l i (by simpa using h)
theorem cell_lt {w : World} {a : Addr} {v : Value} (h : w.cell? a = some v) : a.block < w.heap.size := World.block_lt_of_cell? w _ h
end
def bc (l : List UInt8) : Array Value := (l.map fun b => Value.int .u8 (b.toNat : Int)).toArray
theorem ycy (l : List UInt8) : (bc l).size = l.length := by simp [bc]
theorem bc_get (l : List UInt8) (i : Nat) : (bc l)[i]? = (l[i]?).map fun b => Value.int .u8 (b.toNat : Int) := by simp [bc]
theorem bc_set (A C : List UInt8) (b c : UInt8) : (bc (A ++ b :: C)).setIfInBounds A.length (.int .u8 (c.toNat : Int)) = bc (A ++ c :: C) := by
 unfold bc
 rw [qab]
 congr 1
 simp
theorem bc_zero (n : Nat) : madeCells #[.int .u8 0] n = bc (List.replicate n 0) := by
 unfold bc
 apply Array.ext'
 simp [madeCells, Nat.mod_one]
 rw [qc0, qaC]
theorem ycv {w : World} {g : Nat} {t : TypeId} {l : List UInt8} (h : Blk w g t (bc l)) {i : Nat} {b : UInt8} (hi : l[i]? = some b) : w.cell? ⟨g, i, none⟩ = some (.int .u8 (b.toNat : Int)) := by
 rw [h.cell, bc_get, hi]
 rfl
theorem yd2 (l : List UInt8) (i : Nat) (h : i < (ByteArray.mk l.toArray).size) : (ByteArray.mk l.toArray)[i]'h = l[i]'(by rw [qbc] at h; simpa using h) := rfl
theorem ba_list (s : ByteArray) : s = ⟨s.data.toList.toArray⟩ := by simp
theorem push_fold (ns : List Int) : ∀ (s : List UInt8), (ns.foldl (fun r n => r.push (UInt8.ofNat n.toNat)) (ByteArray.mk s.toArray)) = ⟨(s ++ ns.map fun n => UInt8.ofNat n.toNat).toArray⟩ := by
 induction ns with
 | nil => intro s; simp
 | cons n t ih =>
  intro s
  rw [List.foldl_cons]
  have e : (ByteArray.mk s.toArray).push (UInt8.ofNat n.toNat) = ⟨(s ++ [UInt8.ofNat n.toNat]).toArray⟩ := by simp [ByteArray.push]
  rw [e, ih]
  simp
def ints (l : List Int) : List Value := l.map (Value.int .i64)
theorem yac (l : List Int) : (ints l).length = l.length := by simp [ints]
theorem yao (l : List Int) (i : Nat) (h : i < l.length) : (ints l)[i]? = some (.int .i64 l[i]) := by simp [ints, h]
theorem ycF {P : Program} {src dst e : TypeId} (hs : P.underlying src = some (.slice e)) (he : P.underlying e = some (.int .u8)) (hd : P.underlying dst = some .string)
  (w : World) (g off c : Nat) (l : List UInt8) (n : Nat) (hn : l.length = n) (h : ∀ j b, l[j]? = some b → w.cell? ⟨g, off + j, none⟩ = some (.int .u8 (b.toNat : Int))) :
  (convert src dst (.slice (some ⟨g, off, none⟩) n c)).run P w = .ok (.string ⟨l.toArray⟩) w := by
 subst hn
 rw [run_convert_bytes_string w src dst e _ _ _ hs he hd]
 have hl := run_loadCells_list (P := P) (w := w) ⟨g, off, none⟩ ((l.map fun b => (b.toNat : Int)).map (Value.int .u8)) (fun j v hv => by
  rw [yco]
  simp only [List.getElem?_map, Option.map_map] at hv
  cases hx : l[j]? with
  | none => rw [hx] at hv; cases hv
  | some b => rw [hx] at hv; simp at hv; subst hv; exact h j b hx)
 simp only [qaM] at hl
 rw [run_bytesToString w ⟨g, off, none⟩ l.length c (l.map fun b => (b.toNat : Int)) hl]
 have := push_fold (l.map fun b => (b.toNat : Int)) []
 rw [show ByteArray.empty = ByteArray.mk ([] : List UInt8).toArray from rfl, this, qaS, List.map_map]
 have e : ((fun n : Int => UInt8.ofNat n.toNat) ∘ fun b : UInt8 => (b.toNat : Int)) = id := by
  funext b
  simp
 rw [e, List.map_id]
theorem ygL {P : Program} {t e : TypeId} {i : TypeInfo} (ht : P.underlying t = some (.slice e)) (hi : P.info? e = some i) (hs : i.size = 1) (g off n c a b : Nat) (ha : a < b) (hb : b ≤ c) (w : World) :
  (Instr.slice t (.slice (some ⟨g, off, none⟩) n c) (some (.int .i64 (a : Int))) (some (.int .i64 (b : Int))) (some (.int .i64 (b : Int)))).run P w = .ok (.slice (some ⟨g, off + a, none⟩) (b - a) (b - a)) w := by
 have he : P.elem t = e := by simp [Program.elem, ht]
 rw [run_slice_lhm w t (some ⟨g, off, none⟩) n c (by rw [he]; exact ht) .i64 .i64 .i64 a b b (by omega) (by omega) (by omega) (by omega), he]
 simp [sizeOf, typeInfo, hi, hs, sliced, yco]
 omega
theorem or_i64 (x y : Int) (i : Nat) (hx : 0 ≤ x) (hxi : x < 2 ^ i) (hy : 0 ≤ y) (h : x + y * 2 ^ i < 9223372036854775808) : bits .or .i64 x (wrap64 (y * 2 ^ i)) = x + y * 2 ^ i := by
 have hp : (0 : Int) < 2 ^ i := Int.pow_pos (by omega)
 have hy0 : 0 ≤ y * 2 ^ i := Int.mul_nonneg hy (by omega)
 have hwr : wrap64 (y * 2 ^ i) = y * 2 ^ i := by unfold wrap64; omega
 rw [hwr]
 have hc : bits .or .i64 x (y * 2 ^ i) = bits .or .i64 (y * 2 ^ i) x := by simp only [bits, BitVec.or_comm]
 have e63 : (2 : Int) ^ 63 = 9223372036854775808 := by decide
 rw [hc, bits_join .i64 63 (by decide) (fun n h0 h1 => by
  rw [e63] at h1
  rw [qai]
  omega) i (y * 2 ^ i) x hy0 (Int.mul_emod_left y (2 ^ i)) (by rw [e63]; omega) hx hxi (by rw [e63]; omega), Int.add_comm]
theorem or_neg (x y : Int) (hy : -9223372036854775808 ≤ y) (hy' : y < 0) (hx : 0 ≤ x) (hx' : x < 9223372036854775808) : bits .or .i64 x y < 0 := by
 have hm : (BitVec.ofInt 64 y).msb = true := by
  rw [BitVec.msb_eq_toInt, BitVec.toInt_ofInt]
  simp [Int.bmod]
  omega
 have h2 : (BitVec.ofInt 64 x ||| BitVec.ofInt 64 y).msb = true := by rw [BitVec.msb_or, hm]; simp
 have h3 : (BitVec.ofInt 64 x ||| BitVec.ofInt 64 y).toInt < 0 := by
  rw [BitVec.msb_eq_toInt] at h2
  simpa using h2
 have e : bits .or .i64 x y = IntKind.i64.wrap ((BitVec.ofInt 64 x ||| BitVec.ofInt 64 y).toNat : Int) := rfl
 rw [e, qai]
 generalize (BitVec.ofInt 64 x ||| BitVec.ofInt 64 y) = v at *
 rw [BitVec.toInt_eq_toNat_cond] at h3
 have hv := v.isLt
 split at h3 <;> omega
theorem yaE (n : Nat) (h : n < 256) : (UInt8.ofNat n).toNat = n := by simp [UInt8.toNat_ofNat']; omega
theorem u8_lt (b : UInt8) : b.toNat < 256 := UInt8.toNat_lt b
theorem u8_eq {a b : UInt8} (h : a.toNat = b.toNat) : a = b := UInt8.toNat_inj.1 h
theorem iv {k : IntKind} {a b : Int} (h : a = b) : Value.int k a = Value.int k b := by rw [h]
theorem tv (a b c a' b' c' : Int) (h : (a, b, c) = (a', b', c')) : Ending.returned (.tuple #[.int .i64 a, .int .i64 b, .int .i64 c]) = Ending.returned (.tuple #[.int .i64 a', .int .i64 b', .int .i64 c']) := by
 simp only [qb3] at h
 obtain ⟨rfl, rfl, rfl⟩ := h
 rfl
structure Touch (w w' : World) (S : Nat → Prop) : Prop where
 os : w'.os = w.os
 tape : w'.tape = w.tape
 output : w'.output = w.output
 size : w.heap.size ≤ w'.heap.size
 block : ∀ k, k < w.heap.size → ¬ S k → w'.heap[k]? = w.heap[k]?
section
variable {w w' w'' : World} {S S' : Nat → Prop}
theorem Touch.refl (w : World) (S : Nat → Prop) : Touch w w S := ⟨rfl, rfl, rfl, qaf _, fun _ _ _ => rfl⟩
theorem Touch.mono (h : Touch w w' S) (hs : ∀ k, k < w.heap.size → S k → S' k) : Touch w w' S' := ⟨h.os, h.tape, h.output, h.size, fun k hk hn => h.block k hk fun e => hn (hs k hk e)⟩
theorem Touch.trans (h : Touch w w' S) (k : Touch w' w'' S) : Touch w w'' S :=
 ⟨k.os.trans h.os, k.tape.trans h.tape, k.output.trans h.output, qaG h.size k.size, fun i hi hn => (k.block i (qaZ hi h.size) hn).trans (h.block i hi hn)⟩
theorem Touch.next (h : Touch w w' S) (k : Touch w' w'' S') (hs : ∀ i, i < w.heap.size → S' i → S i) : Touch w w'' S :=
 ⟨k.os.trans h.os, k.tape.trans h.tape, k.output.trans h.output, qaG h.size k.size, fun i hi hn => (k.block i (qaZ hi h.size) (fun e => hn (hs i hi e))).trans (h.block i hi hn)⟩
theorem yai {B : Nat} (h : Below B w w') (hB : w.heap.size ≤ B) : Touch w w' S := ⟨h.os, h.tape, h.output, h.size, fun i hi _ => h.block i (by omega)⟩
theorem yaT {row : Option Nat} (h : w.grownBy w' row) : Touch w w' (fun k => some k = row) := ⟨h.os, h.tape, h.output, h.size, fun i hi hn => h.block i hi hn⟩
theorem Touch.set (h : Touch w w' S) {p : Addr} (hp : S p.block ∨ w.heap.size ≤ p.block) (u : Value) : Touch w (w'.setCell p u) S :=
 ⟨h.os, h.tape, h.output, by have := h.size; simpa [World.setCell] using this, fun i hi hn => by
  have e : i ≠ p.block := by
   rcases hp with hp | hp
   ·rintro rfl
    exact hn hp
   ·omega
  exact (Below.heap_setCell _ _ _ _ e).trans (h.block i hi hn)⟩
theorem Touch.alloc (h : Touch w w' S) (o : Obj) : Touch w (w'.alloc o) S := h.trans (yai ((qam _ _).alloc (qaf _) o) (qaf _))
theorem Touch.drewN (h : Touch w w' S) (n : Nat) : Touch w (w'.drewN n) S := ⟨h.os, h.tape, h.output, h.size, h.block⟩
theorem Touch.below {B : Nat} (h : Touch w w' S) (hS : ∀ k, k < w.heap.size → S k → B ≤ k) (hB : B ≤ w.heap.size) : Below B w w' :=
 ⟨h.os, h.tape, h.output, h.size, fun i hi => h.block i (by omega) (fun e => by have := hS i (by omega) e; omega)⟩
theorem Blk.touch {b : Nat} {t : TypeId} {cs : Array Value} (h : Blk w b t cs) (ht : Touch w w' S) (hb : ¬ S b) : Blk w' b t cs := (ht.block b h.lt hb).trans h
theorem Blk.grow' {b : Nat} {t : TypeId} {cs : Array Value} {row : Option Nat} (h : Blk w b t cs) (hg : w.grownBy w' row) (hb : row ≠ some b) : Blk w' b t cs := (hg.block b h.lt (fun e => hb e.symm)).trans h
theorem yaG {base size n : Nat} {e : TypeId} {v : Value} {xs : List Value} (h : w.ownsRow base e size v n xs) (ht : Touch w w' S) (hn : ∀ k, v.ownBlock = some k → ¬ S k) : w'.ownsRow base e size v n xs := by
 refine ⟨h.1, ?_⟩
 rcases h.2 with h0 | ⟨g, cap, cur, rfl, hb, hg, rest⟩
 ·exact .inl h0
 ·exact .inr ⟨g, cap, cur, rfl, hb, (ht.block g (Array.getElem?_eq_some_iff.1 hg).1 (hn g rfl)).trans hg, rest⟩
theorem yah {base size n B : Nat} {e : TypeId} {v : Value} {xs : List Value} (h : w.ownsRow base e size v n xs) (hb : Below B w w') (hB : w.heap.size ≤ B) : w'.ownsRow base e size v n xs :=
 yaG h (yai (S := fun _ => False) hb hB) (fun _ _ h => h)
theorem ya4 {base size n : Nat} {e t : TypeId} {v : Value} {xs : List Value} {cs : Array Value} {b : Nat} (h : w.ownsRow base e size v n xs) (hB : Blk w b t cs) (hne : e ≠ t) : v.ownBlock ≠ some b := by
 intro hv
 rcases h.2 with ⟨rfl, _⟩ | ⟨g, cap, cur, rfl, _, hg, _⟩
 ·cases hv
 ·injection hv with hv
  simp only at hv
  subst hv
  unfold Blk at hB
  rw [hB] at hg
  injection hg with hg
  injection hg with _ h2
  exact hne h2.symm
theorem yag {base size n : Nat} {e : TypeId} {v : Value} {xs : List Value} (h : w.ownsRow base e size v n xs) : ∃ A c, v = .slice A n c ∧ n ≤ c ∧ Reads w w.heap.size size A n xs := by
 obtain ⟨hl, ⟨rfl, h0⟩ | ⟨g, cap, cur, rfl, hb, hheap, hcap, hm, hcs, htk⟩⟩ := h
 ·subst h0
  refine ⟨none, 0, rfl, qaf _, hl, fun hn => absurd hn (by omega)⟩
 ·refine ⟨_, _, rfl, hcap, hl, fun _ => ⟨g, 0, rfl, ?_, fun j u hu => ?_⟩⟩
  ·rcases qbz g w.heap.size with hlt | hge
   ·exact hlt
   ·rw [Array.getElem?_eq_none hge] at hheap; cases hheap
  ·rw [cell_of_row w g _ cur e (0, 0) hheap, qaL, ← htk] at *
   rw [List.getElem?_take] at hu
   split at hu
   ·simpa using hu
   ·cases hu
end
theorem ybO {P : Program} {src dst e : TypeId} (hs : P.underlying src = some (.slice e)) (he : P.underlying e = some (.int .u8)) (hd : P.underlying dst = some .string)
  (w : World) (A : Option Addr) (c : Nat) (l : List UInt8) (hr : Reads w w.heap.size 1 A l.length (bc l).toList) :
  (convert src dst (.slice A l.length c)).run P w = .ok (.string ⟨l.toArray⟩) w := by
 rcases qba l.length with h0 | h0
 ·have hl := qaz.1 h0
  subst hl
  rw [run_convert_bytes_string w src dst e _ _ _ hs he hd]
  cases A with
  | none => rfl
  | some a => exact run_bytesToString w a 0 c [] (by simp [loadCells, loadCellsFrom])
 ·obtain ⟨b, off, rfl, _, hc⟩ := hr.2 h0
  exact ycF hs he hd w b off c l l.length rfl fun j u hj => hc j _ (by simp [bc, hj])
def Sep (w : World) (v v' : Value) : Prop := ∀ k, v'.ownBlock = some k → v.ownBlock = some k ∨ w.heap.size ≤ k
theorem yd7 {P : Program} (w : World) (base : Nat) (t ty e : TypeId) (i : TypeInfo) (z : Value) (size bytes : Nat) (ht : P.underlying t = some (.slice e)) (hi : P.info? e = some i) (hz : i.zero = some z)
  (hsize : i.size = size) (hby : i.bytes = bytes) (hzs : z.cells.size = size) (hsz : 0 < size)
  (v : Value) (n : Nat) (xs : List Value) (hown : w.ownsRow base e size v n xs)
  (Ax : Option Addr) (m c B : Nat) (news : List Value) (hr : Reads w B size Ax m news) (h1 : ∀ u ∈ news, u.oneCell' = true)
  (h63 : n + m ≤ maxLen) (hbytes : (n + m) * bytes ≤ 140737488355328) (hbase : base ≤ w.heap.size) :
  ∃ v' w', (Builtin.append_ #[t, t] ty #[v, .slice Ax m c]).run P w = .ok v' w' ∧ w'.ownsRow base e size v' (n + m) (xs ++ news) ∧ w.grownBy w' v.ownBlock ∧ Sep w v v' := by
 have hsmall : n + m ≤ 9223372036854775807 := by simp only [maxLen] at h63; omega
 have hnil : m = 0 → news = [] := fun hm => by
  have hl := hr.1
  rw [hm, qcB] at hl
  exact qaz.1 hl
 cases Ax with
 | none =>
  have hm : m = 0 := by
   rcases qba m with hm | hm
   ·exact hm
   ·obtain ⟨b, off, hA, _⟩ := hr.2 hm
    cases hA
  rw [hnil hm]
  subst hm
  refine ⟨v, w, ?_, by simpa using hown, ⟨rfl, rfl, rfl, qaf _, fun _ _ _ => rfl⟩, fun k hk => qas hk⟩
  rcases hown.2 with ⟨rfl, rfl⟩ | ⟨g, cap, cur, rfl, _, _, hcap, _⟩
  ·exact run_append_nothing w t t ty e i ht hi none 0 0 (qaf _) _ (Src.ofNil w ht c)
  ·exact run_append_nothing w t t ty e i ht hi _ n cap hcap _ (Src.ofNil w ht c)
 | some ad =>
  have hnews : ∀ j u, news[j]? = some u → w.cell? (ad.add j) = some u := fun j u hj => by
   rcases qba m with hm | hm
   ·rw [hnil hm] at hj
    simp at hj
   ·obtain ⟨b, off, hA, _, hc⟩ := hr.2 hm
    injection hA with hA
    subst hA
    rw [yco]
    exact hc j u hj
  have hl := hr.1
  obtain ⟨v', w', hrun, h2, h3, h4⟩ := run_append_own (P := P) w base t ty e i z size bytes ht hi hz hsize hby hzs hsz v n xs hown ad m c news hl hnews h1 h63 hbytes hbase
  refine ⟨v', w', hrun, h2, h3, ?_⟩
  subst hsize
  subst hby
  rcases hown.2 with ⟨rfl, rfl⟩ | ⟨g, cap, cur, rfl, hbg, hg, hnc, hcm, hcs, htake⟩
  ·rcases qba m with hm | hm
   ·rw [h4.2 ⟨rfl, hm⟩]
    exact fun k hk => qas hk
   ·have hr2 := run_append_nil (P := P) w t ty e i z ht hi hz ad m c news hl hnews (by omega) (by omega) (by have hb := hbytes; simp only [qaL] at hb; omega)
    rw [hr2] at hrun
    injection hrun with e1 _
    subst e1
    intro k hk
    injection hk with hk
    simp only at hk
    exact qaK (by omega)
  ·by_cases hroom : n + m ≤ cap
   ·have hfit : n * i.size + news.length ≤ cur.size := by rw [hl, hcs, ← qcy]; exact qcl _ hroom
    have hr2 := run_append_room (P := P) w t ty e i ht hi g n cap cur hg ad m c news hl hnews h1 hroom hfit
    rw [hr2] at hrun
    injection hrun with e1 _
    subst e1
    exact fun k hk => qas hk
   ·have holds : ∀ j u, xs[j]? = some u → w.cell? ((⟨g, 0, none⟩ : Addr).add j) = some u := hown.cells (g := g) rfl
    have hr2 := run_append_grow (P := P) w t ty e i z ht hi hz ⟨g, 0, none⟩ n cap xs hown.1 holds ad m c news hl hnews (by omega) (by omega) (growslice_fits (by omega) hbytes)
    rw [hr2] at hrun
    injection hrun with e1 _
    subst e1
    intro k hk
    injection hk with hk
    simp only at hk
    exact qaK (by omega)
theorem yan {P : Program} (w : World) {ops : Array Oper} {rest : List Oper} {o : Oper} {a : Act} {Q : Exit → Act → World → Prop} (hgd : o.guard = none) (s x : Operand) (t : TypeId)
  (ho : o.op = .call { callee := .builtin .append, args := #[s, x], argTypes := #[t, t] })
  (base : Nat) (e : TypeId) (i : TypeInfo) (z : Value) (size bytes : Nat) (ht : P.underlying t = some (.slice e)) (hi : P.info? e = some i) (hz : i.zero = some z)
  (hsize : i.size = size) (hby : i.bytes = bytes) (hzs : z.cells.size = size) (hsz : 0 < size)
  (v : Value) (n : Nat) (xs : List Value) (hs : a.eval s = v) (hown : w.ownsRow base e size v n xs)
  (Ax : Option Addr) (m c B : Nat) (news : List Value) (hx : a.eval x = .slice Ax m c) (hr : Reads w B size Ax m news) (h1 : ∀ u ∈ news, u.oneCell' = true)
  (h63 : n + m ≤ maxLen) (hbytes : (n + m) * bytes ≤ 140737488355328) (hbase : base ≤ w.heap.size)
  (h : ∀ v' w', w'.ownsRow base e size v' (n + m) (xs ++ news) → w.grownBy w' v.ownBlock → Sep w v v' → wpList P ops Q rest (a.put o.dst v') w') : wpList P ops Q (o :: rest) a w := by
 obtain ⟨v', w', hrun, h2, h3, h4⟩ := yd7 (P := P) w base t o.type e i z size bytes ht hi hz hsize hby hzs hsz v n xs hown Ax m c B news hr h1 h63 hbytes hbase
 refine wpList_plain hgd fun K hK => ?_
 unfold Oper.wp execOp
 simp only [ho, resolve, invoke, builtin, Sem.run_bind, Sem.run_pure, Result.andThen_ok, List.map_toArray, qcr, List.map_nil, hs, hx, hrun]
 exact hK _ _ (h v' w' h2 h3 h4)
theorem yaB (w : World) (t : TypeId) (cs : Array Value) (size n : Nat) (hl : cs.size = n * size) : Reads (w.alloc (.cells cs t)) (w.heap.size + 1) size (some ⟨w.heap.size, 0, none⟩) n cs.toList := by
 have := Reads.new w t cs.toList size n (by simpa using hl)
 simpa using this
theorem slt_cons (a b : UInt8) (x y : List UInt8) : Op.bytesLess (a :: x) (b :: y) = (decide (a < b) || (a == b && Op.bytesLess x y)) := rfl
theorem ydV (a b : UInt8) (x y : List UInt8) : Op.bytesLess (a :: x) (b :: y) = true ↔ a.toNat < b.toNat ∨ (a = b ∧ Op.bytesLess x y = true) := by
 rw [slt_cons]
 simp [UInt8.lt_iff_toNat_lt]
theorem ycZ (x : List UInt8) : Op.bytesLess x [] = false := by cases x <;> rfl
theorem ybF : ∀ x : List UInt8, Op.bytesLess x x = false
 | [] => rfl
 | a :: x => by
  rw [slt_cons, ybF x]
  simp
theorem slt_trans : ∀ x y z : List UInt8, Op.bytesLess x y = true → Op.bytesLess y z = true → Op.bytesLess x z = true
 | x, y, [], _, h => by rw [ycZ] at h; cases h
 | x, [], _ :: _, h, _ => by rw [ycZ] at h; cases h
 | [], _ :: _, _ :: _, _, _ => rfl
 | a :: x, b :: y, c :: z, h1, h2 => by
  rw [ydV] at h1 h2 ⊢
  rcases h1 with h1 | ⟨rfl, h1⟩
  ·rcases h2 with h2 | ⟨rfl, h2⟩
   ·exact qas (by omega)
   ·exact qas h1
  ·rcases h2 with h2 | ⟨rfl, h2⟩
   ·exact qas h2
   ·exact qaK ⟨rfl, slt_trans x y z h1 h2⟩
theorem ygS : ∀ x y : List UInt8, x ≠ y → Op.bytesLess x y = true ∨ Op.bytesLess y x = true
 | [], [], h => absurd rfl h
 | [], _ :: _, _ => qas rfl
 | _ :: _, [], _ => qaK rfl
 | a :: x, b :: y, h => by
  rw [ydV, ydV]
  by_cases e : a = b
  ·subst e
   rcases ygS x y (fun e => h (by rw [e])) with h2 | h2
   ·exact qas (qaK ⟨rfl, h2⟩)
   ·exact qaK (qaK ⟨rfl, h2⟩)
  ·have : a.toNat ≠ b.toNat := fun e2 => e (UInt8.toNat_inj.1 e2)
   rcases Nat.lt_or_gt_of_ne this with h2 | h2
   ·exact qas (qas h2)
   ·exact qaK (qas h2)
structure SOrd (lt : Nat → Nat → Bool) (n : Nat) : Prop where
 irr : ∀ p, lt p p = false
 tr : ∀ p q r, lt p q = true → lt q r = true → lt p r = true
 tot : ∀ p q, p < n → q < n → p ≠ q → lt p q = true ∨ lt q p = true
theorem SOrd.asym {lt : Nat → Nat → Bool} {n : Nat} (h : SOrd lt n) (p q : Nat) (h1 : lt p q = true) : lt q p = false := by
 cases h2 : lt q p with
 | false => rfl
 | true =>
  have := h.tr p q p h1 h2
  rw [h.irr] at this
  cases this
def yfd (lt : Nat → Nat → Bool) (l : List Nat) : Prop := l.Pairwise fun p q => lt p q = true
theorem yfs {lt : Nat → Nat → Bool} {n : Nat} (h : SOrd lt n) : ∀ (a b : List Nat), yfd lt a → yfd lt b → (∀ p, p ∈ a ↔ p ∈ b) → a = b
 | [], [], _, _, _ => rfl
 | [], q :: t, _, _, hm => by
  have := (hm q).2 (qa4 ..)
  cases this
 | p :: s, [], _, _, hm => by
  have := (hm p).1 (qa4 ..)
  cases this
 | p :: s, q :: t, ha, hb, hm => by
  have ha' := qa7.1 ha
  have hb' := qa7.1 hb
  have e : p = q := by
   rcases qaB.1 ((hm p).1 (qa4 ..)) with e | e
   ·exact e
   ·rcases qaB.1 ((hm q).2 (qa4 ..)) with e2 | e2
    ·exact e2.symm
    ·have h1 := hb'.1 p e
     have h2 := ha'.1 q e2
     rw [h.asym q p h1] at h2
     cases h2
  subst e
  rw [yfs h s t ha'.2 hb'.2 fun r => ?_]
  constructor
  ·intro hr
   rcases qaB.1 ((hm r).1 (qa3 _ hr)) with e | e
   ·subst e
    have := ha'.1 r hr
    rw [h.irr] at this
    cases this
   ·exact e
  ·intro hr
   rcases qaB.1 ((hm r).2 (qa3 _ hr)) with e | e
   ·subst e
    have := hb'.1 r hr
    rw [h.irr] at this
    cases this
   ·exact e
theorem ygY {lt : Nat → Nat → Bool} {n : Nat} (h : SOrd lt n) : ∀ l : List Nat, yfd lt l → l.Nodup
 | [], _ => List.nodup_nil
 | p :: t, hl => by
  have hl' := qa7.1 hl
  refine List.nodup_cons.2 ⟨fun hp => ?_, ygY h t hl'.2⟩
  have := hl'.1 p hp
  rw [h.irr] at this
  cases this
theorem ycN {lt : Nat → Nat → Bool} {l : List Nat} (h : yfd lt l) (i j : Nat) (hi : i < l.length) (hj : j < l.length) (hij : i < j) : lt l[i] l[j] = true := qbd.1 h i j hi hj hij
theorem ssort_of {lt : Nat → Nat → Bool} {l : List Nat} (h : ∀ i j (hi : i < l.length) (hj : j < l.length), i < j → lt l[i] l[j] = true) : yfd lt l := qbd.2 fun i j hi hj hij => h i j hi hj hij
def scut (lt : Nat → Nat → Bool) (p : Nat) : List Nat → Nat
 | [] => 0
 | q :: t => if lt q p = true then scut lt p t + 1 else 0
def sins (lt : Nat → Nat → Bool) (p : Nat) (l : List Nat) : List Nat := l.take (scut lt p l) ++ p :: l.drop (scut lt p l)
def slay (lt : Nat → Nat → Bool) : Nat → List Nat
 | 0 => []
 | k + 1 => sins lt k (slay lt k)
theorem scut_le (lt : Nat → Nat → Bool) (p : Nat) : ∀ l, scut lt p l ≤ l.length
 | [] => qaf _
 | q :: t => by
  have := scut_le lt p t
  unfold scut
  split <;> simp <;> omega
theorem scut_less (lt : Nat → Nat → Bool) (p : Nat) : ∀ (l : List Nat) (i : Nat) (h : i < l.length), i < scut lt p l → lt l[i] p = true
 | [], i, h, _ => absurd h (by simp)
 | q :: t, i, h, hc => by
  unfold scut at hc
  by_cases e : lt q p = true
  ·rw [qah e] at hc
   cases i with
   | zero => exact e
   | succ i => exact scut_less lt p t i (by simpa using h) (by omega)
  ·rw [qag e] at hc
   omega
theorem scut_more {lt : Nat → Nat → Bool} {n : Nat} (hl : SOrd lt n) (p : Nat) (hp : p < n) : ∀ (l : List Nat) (i : Nat) (h : i < l.length), yfd lt l → (∀ q ∈ l, q < n ∧ q ≠ p) → scut lt p l ≤ i → lt p l[i] = true
 | [], i, h, _, _, _ => absurd h (by simp)
 | q :: t, i, h, hs, hq, hc => by
  have hs' := qa7.1 hs
  unfold scut at hc
  by_cases e : lt q p = true
  ·rw [qah e] at hc
   cases i with
   | zero => omega
   | succ i => exact scut_more hl p hp t i (by simpa using h) hs'.2 (fun r hr => hq r (qa3 _ hr)) (by omega)
  ·have hqp := hq q (qa4 ..)
   have h1 : lt p q = true := by
    rcases hl.tot q p hqp.1 hp hqp.2 with h2 | h2
    ·exact absurd h2 e
    ·exact h2
   cases i with
   | zero => exact h1
   | succ i => exact hl.tr p q _ h1 (hs'.1 _ (qaq (by simpa using h)))
theorem sins_mem (lt : Nat → Nat → Bool) (p : Nat) (l : List Nat) (q : Nat) : q ∈ sins lt p l ↔ q = p ∨ q ∈ l := by
 unfold sins
 rw [qbm, qaB]
 have h := qax (scut lt p l) l
 have h2 : q ∈ l ↔ q ∈ l.take (scut lt p l) ∨ q ∈ l.drop (scut lt p l) := by rw [← qbm, h]
 rw [h2]
 constructor
 ·rintro (a | a | a)
  ·exact qaK (qas a)
  ·exact qas a
  ·exact qaK (qaK a)
 ·rintro (a | a | a)
  ·exact qaK (qas a)
  ·exact qas a
  ·exact qaK (qaK a)
theorem sins_sort {lt : Nat → Nat → Bool} {n : Nat} (hl : SOrd lt n) (p : Nat) (hp : p < n) (l : List Nat) (hs : yfd lt l) (hq : ∀ q ∈ l, q < n ∧ q ≠ p) : yfd lt (sins lt p l) := by
 have hc := scut_le lt p l
 have hmore : ∀ q ∈ l.drop (scut lt p l), lt p q = true := fun q hq2 => by
  obtain ⟨i, hi, rfl⟩ := qaI hq2
  rw [qat] at hi
  rw [qbX]
  exact scut_more hl p hp l _ (by omega) hs hq (by omega)
 have hless : ∀ q ∈ l.take (scut lt p l), lt q p = true := fun q hq2 => by
  obtain ⟨i, hi, rfl⟩ := qaI hq2
  rw [qao] at hi
  rw [List.getElem_take]
  exact scut_less lt p l i (by omega) (by omega)
 unfold sins yfd
 refine qa2.2 ⟨List.Pairwise.sublist (List.take_sublist _ _) hs, qa7.2 ⟨hmore, List.Pairwise.sublist (List.drop_sublist _ _) hs⟩, fun a ha b hb => ?_⟩
 rcases qaB.1 hb with rfl | hb
 ·exact hless a ha
 ·exact hl.tr a p b (hless a ha) (hmore b hb)
theorem yfD (lt : Nat → Nat → Bool) : ∀ k q, q ∈ slay lt k ↔ q < k
 | 0, q => by simp [slay]
 | k + 1, q => by
  show q ∈ sins lt k (slay lt k) ↔ _
  rw [sins_mem, yfD lt k q]
  omega
theorem ygT {lt : Nat → Nat → Bool} {n : Nat} (hl : SOrd lt n) : ∀ k, k ≤ n → yfd lt (slay lt k)
 | 0, _ => qb8
 | k + 1, hk => sins_sort hl k (by omega) _ (ygT hl k (by omega)) fun q hq => by
  have := (yfD lt k q).1 hq
  omega
theorem slay_len (lt : Nat → Nat → Bool) : ∀ k, (slay lt k).length = k
 | 0 => rfl
 | k + 1 => by
  show (sins lt k (slay lt k)).length = k + 1
  have h1 := slay_len lt k
  have h2 := scut_le lt k (slay lt k)
  unfold sins
  rw [qae, qau, qao, qat]
  omega
theorem slay_unique {lt : Nat → Nat → Bool} {n : Nat} (hl : SOrd lt n) (a : List Nat) (hs : yfd lt a) (hm : ∀ p, p ∈ a ↔ p < n) : a = slay lt n :=
 yfs hl a (slay lt n) hs (ygT hl n (qaf _)) fun p => by rw [hm p, yfD]
def slt (s : List UInt8) (p q : Nat) : Bool := Op.bytesLess (s.drop p) (s.drop q)
theorem yeZ (s : List UInt8) : SOrd (slt s) (s.length + 1) := by
 refine ⟨fun p => ybF _, fun p q r h1 h2 => slt_trans _ _ _ h1 h2, fun p q hp hq hne => ygS _ _ fun e => ?_⟩
 have := qbD List.length e
 rw [qat, qat] at this
 omega
def klt (keys : List Int) (p q : Nat) : Bool := decide (keys.getD p 0 < keys.getD q 0) || (decide (keys.getD p 0 = keys.getD q 0) && decide (p < q))
theorem yfc (keys : List Int) (p q : Nat) : klt keys p q = true ↔ keys.getD p 0 < keys.getD q 0 ∨ (keys.getD p 0 = keys.getD q 0 ∧ p < q) := by simp [klt]
theorem yfe (keys : List Int) (n : Nat) : SOrd (klt keys) n := by
 refine ⟨fun p => ?_, fun p q r h1 h2 => ?_, fun p q hp hq hne => ?_⟩
 ·cases h : klt keys p p with
  | false => rfl
  | true => rw [yfc] at h; omega
 ·rw [yfc] at h1 h2 ⊢
  omega
 ·rw [yfc, yfc]
  omega
def splc (l : List Nat) : List Int := l.map fun p : Nat => (p : Int)
theorem yaq (l : List Nat) : (splc l).length = l.length := by simp [splc]
theorem yfF (l : List Nat) (i : Nat) (h : i < (splc l).length) : (splc l)[i] = ((l[i]'(by rw [yaq] at h; exact h) : Nat) : Int) := by simp [splc]
theorem yf3 (a b : List Nat) : splc (a ++ b) = splc a ++ splc b := by simp [splc]
def sarr (s : List UInt8) : List Nat := slay (slt s) (s.length + 1)
def saF (s : List UInt8) : List Int × Int := if 20000 < s.length then ([], 3) else (splc (sarr s), 0)
theorem ybY (s : List UInt8) : (sarr s).length = s.length + 1 := slay_len _ _
theorem ycO (s : List UInt8) : yfd (slt s) (sarr s) := ygT (yeZ s) _ (qaf _)
theorem ydz (s : List UInt8) (p : Nat) : p ∈ sarr s ↔ p < s.length + 1 := yfD _ _ _
theorem sarr_le (s : List UInt8) (i : Nat) (h : i < (sarr s).length) : (sarr s)[i] ≤ s.length := by
 have := (ydz s _).1 (qaq h)
 omega
theorem yeY (s : List UInt8) : (sarr s).Nodup := ygY (yeZ s) _ (ycO s)
theorem ybg {l : List Nat} (hn : l.Nodup) {i j : Nat} (hi : i < l.length) (hj : j < l.length) (h : l[i] = l[j]) : i = j := by
 have hp := qbd.1 hn
 rcases qc2 i j with h1 | h1 | h1
 ·exact absurd h (hp i j hi hj h1)
 ·exact h1
 ·exact absurd h.symm (hp j i hj hi h1)
theorem sarr_inj (s : List UInt8) (i j : Nat) (hi : i < (sarr s).length) (hj : j < (sarr s).length) (h : (sarr s)[i] = (sarr s)[j]) : i = j := ybg (yeY s) hi hj h
theorem sarr_perm (s : List UInt8) : (sarr s).Perm (List.range (s.length + 1)) := by
 rw [List.perm_iff_count]
 intro p
 rw [(yeY s).count, List.nodup_range.count]
 by_cases h : p < s.length + 1
 ·rw [qah ((ydz s p).2 h), qah (qaU.2 h)]
 ·rw [qag fun h2 => h ((ydz s p).1 h2), qag fun h2 => h (qaU.1 h2)]
structure LTh where
 w : Int
 syms : List Nat
 leaf : Bool
def lle (a b : LTh) : Bool := decide (a.w < b.w) || (decide (a.w = b.w) && (a.leaf || !b.leaf))
def lput : List LTh → LTh → List LTh
 | [], x => [x]
 | y :: t, x => if lle y x = true then y :: lput t x else x :: y :: t
def ycd (a b : LTh) : LTh := ⟨a.w + b.w, a.syms ++ b.syms, false⟩
def yav : List LTh → List LTh
 | a :: b :: t => ycd a b :: yav t
 | _ => []
def lnext (row leaves : List LTh) : List LTh := leaves.foldl lput ((yav row).foldl lput [])
def lrow (leaves : List LTh) : Nat → List LTh
 | 0 => leaves
 | k + 1 => lnext (lrow leaves k) leaves
theorem yb3 (a b : LTh) : lle a b = true ↔ a.w < b.w ∨ (a.w = b.w ∧ (a.leaf = true ∨ b.leaf = false)) := by simp [lle]
theorem lle_w {a b : LTh} (h : lle a b = true) : a.w ≤ b.w := by rw [yb3] at h; omega
theorem yhq {a b c : LTh} (h : lle a b = true) (k : lle b c = true) : lle a c = true := by
 rw [yb3] at *
 rcases h with h | ⟨h, h2⟩ <;> rcases k with k | ⟨k, k2⟩
 ·exact qas (by omega)
 ·exact qas (by omega)
 ·exact qas (by omega)
 ·refine qaK ⟨by omega, ?_⟩
  rcases h2 with h2 | h2
  ·exact qas h2
  ·rcases k2 with k2 | k2
   ·rw [k2] at h2; cases h2
   ·exact qaK k2
theorem lle_total {a b : LTh} (h : lle a b = false) : lle b a = true := by
 have h' : ¬ lle a b = true := by rw [h]; decide
 rw [yb3] at *
 rcases Int.lt_trichotomy a.w b.w with h1 | h1 | h1
 ·exact absurd (qas h1) h'
 ·refine qaK ⟨h1.symm, ?_⟩
  cases hb : b.leaf with
  | true => exact qas rfl
  | false => exact absurd (qaK ⟨h1, qaK hb⟩) h'
 ·exact qas h1
theorem lle_refl (a : LTh) : lle a a = true := by
 rw [yb3]
 refine qaK ⟨rfl, ?_⟩
 cases a.leaf <;> simp
theorem ybh (x : LTh) : ∀ row : List LTh, ∃ r1 r2, row = r1 ++ r2 ∧ lput row x = r1 ++ x :: r2 ∧ (∀ y ∈ r1, lle y x = true) ∧ ∀ y t, r2 = y :: t → lle y x = false
 | [] => ⟨[], [], rfl, rfl, by simp, by simp⟩
 | y :: t => by
  obtain ⟨r1, r2, h1, h2, h3, h4⟩ := ybh x t
  by_cases h : lle y x = true
  ·refine ⟨y :: r1, r2, by rw [h1]; rfl, by unfold lput; rw [qah h, h2]; rfl, ?_, h4⟩
   intro z hz
   rcases qaB.1 hz with rfl | hz
   ·exact h
   ·exact h3 z hz
  ·refine ⟨[], y :: t, rfl, by unfold lput; rw [qag h]; rfl, by simp, ?_⟩
   intro z u e
   injection e with e _
   subst e
   simpa using h
structure LRow (leaves packs R : List LTh) : Prop where
 order : R.Pairwise (fun a b => lle a b = true)
 lv : R.filter (fun x => x.leaf) = leaves
 pk : R.filter (fun x => !x.leaf) = packs
theorem lput_end (x : LTh) : ∀ row : List LTh, (∀ y ∈ row, lle y x = true) → lput row x = row ++ [x]
 | [], _ => rfl
 | y :: t, h => by
  unfold lput
  rw [qah (h y (qa4 ..)), lput_end x t fun z hz => h z (qa3 _ hz)]
  rfl
theorem lput_all : ∀ (xs acc : List LTh), (acc ++ xs).Pairwise (fun a b => lle a b = true) → xs.foldl lput acc = acc ++ xs
 | [], acc, _ => by simp
 | x :: t, acc, h => by
  rw [List.foldl_cons, lput_end x acc fun y hy => (qa2.1 h).2.2 y hy x (qa4 ..)]
  rw [lput_all t (acc ++ [x]) (by rw [qak]; exact h), qak]
  rfl
theorem lput_leaf {leaves packs R : List LTh} (h : LRow leaves packs R) (x : LTh) (hx : x.leaf = true) (hle : ∀ y ∈ leaves, y.w ≤ x.w) : LRow (leaves ++ [x]) packs (lput R x) := by
 obtain ⟨r1, r2, h1, h2, h3, h4⟩ := ybh x R
 have ho := h.order
 rw [h1] at ho
 obtain ⟨o1, o2, o3⟩ := qa2.1 ho
 have hx2 : ∀ z ∈ r2, lle x z = true := by
  intro z hz
  cases hr : r2 with
  | nil => rw [hr] at hz; cases hz
  | cons y t =>
   have hy := lle_total (h4 y t hr)
   rw [hr] at hz o2
   rcases qaB.1 hz with rfl | hz
   ·exact hy
   ·exact yhq hy ((qa7.1 o2).1 z hz)
 have hnl : ∀ z ∈ r2, z.leaf = false := by
  intro z hz
  cases hzl : z.leaf with
  | false => rfl
  | true =>
   exfalso
   have hzw : z.w ≤ x.w := hle z (by rw [← h.lv, h1]; exact qaT.2 ⟨qbj _ hz, hzl⟩)
   cases hr : r2 with
   | nil => rw [hr] at hz; cases hz
   | cons y t =>
    have hy := h4 y t hr
    have hyz : lle y z = true := by
     rw [hr] at hz o2
     rcases qaB.1 hz with rfl | hz
     ·exact lle_refl _
     ·exact (qa7.1 o2).1 z hz
    have hzx : lle z x = true := by
     rw [yb3]
     rcases Int.lt_or_eq_of_le hzw with h5 | h5
     ·exact qas h5
     ·exact qaK ⟨h5, qas hzl⟩
    rw [yhq hyz hzx] at hy
    cases hy
 have hf2 : r2.filter (fun x => x.leaf) = [] := qcd.2 fun z hz => by rw [hnl z hz]; decide
 refine ⟨?_, ?_, ?_⟩
 ·rw [h2, qa2]
  refine ⟨o1, qa7.2 ⟨hx2, o2⟩, ?_⟩
  intro a ha b hb
  rcases qaB.1 hb with rfl | hb
  ·exact h3 a ha
  ·exact o3 a ha b hb
 ·rw [h2, ← h.lv, h1, qbq, qbq, qaD, hf2, qah (by simpa using hx), qa8]
 ·rw [h2, ← h.pk, h1, qbq, qbq, qaD, qag (by simp [hx])]
structure yaH (leaves : List LTh) : Prop where
 all : ∀ x ∈ leaves, x.leaf = true
 order : leaves.Pairwise (fun a b => a.w ≤ b.w)
theorem yfr : ∀ (xs leaves packs R : List LTh), LRow leaves packs R → (∀ x ∈ xs, x.leaf = true) → (leaves ++ xs).Pairwise (fun a b => a.w ≤ b.w) → LRow (leaves ++ xs) packs (xs.foldl lput R)
 | [], leaves, packs, R, h, _, _ => by simpa using h
 | x :: t, leaves, packs, R, h, ha, ho => by
  have h1 := lput_leaf h x (ha x (qa4 ..)) fun y hy => (qa2.1 ho).2.2 y hy x (qa4 ..)
  have := yfr t (leaves ++ [x]) packs (lput R x) h1 (fun z hz => ha z (qa3 _ hz)) (by rw [qak]; exact ho)
  rw [qak] at this
  exact this
theorem ybS : ∀ (R : List LTh), ∀ x ∈ yav R, x.leaf = false
 | [], x, h => by cases h
 | [_], x, h => by cases h
 | a :: b :: t, x, h => by
  rcases qaB.1 h with rfl | h
  ·rfl
  ·exact ybS t x h
theorem lpacks_ge : ∀ (R : List LTh) (c : Int), (∀ x ∈ R, c ≤ x.w) → ∀ x ∈ yav R, c + c ≤ x.w
 | [], c, _, x, h => by cases h
 | [_], c, _, x, h => by cases h
 | a :: b :: t, c, hc, x, h => by
  rcases qaB.1 h with rfl | h
  ·have h1 := hc a (by simp)
   have h2 := hc b (by simp)
   show c + c ≤ a.w + b.w
   omega
  ·exact lpacks_ge t c (fun y hy => hc y (by simp [hy])) x h
theorem ycK : ∀ (R : List LTh), R.Pairwise (fun a b => a.w ≤ b.w) → (yav R).Pairwise (fun a b => lle a b = true)
 | [], _ => qb8
 | [_], _ => qb8
 | a :: b :: t, h => by
  obtain ⟨h1, h2⟩ := qa7.1 h
  obtain ⟨h3, h4⟩ := qa7.1 h2
  refine qa7.2 ⟨?_, ycK t h4⟩
  intro x hx
  have hb := lpacks_ge t b.w h3 x hx
  have hab := h1 b (qa4 ..)
  rw [yb3]
  have hw : (ycd a b).w ≤ x.w := by show a.w + b.w ≤ x.w; omega
  rcases Int.lt_or_eq_of_le hw with h5 | h5
  ·exact qas h5
  ·exact qaK ⟨h5, qaK (ybS t x hx)⟩
theorem ych : ∀ (R : List LTh), (yav R).length = R.length / 2
 | [] => rfl
 | [_] => by simp [yav]
 | a :: b :: t => by
  show (yav t).length + 1 = (t.length + 1 + 1) / 2
  rw [ych t]
  omega
theorem yea {R : List LTh} (h : R.Pairwise (fun a b => lle a b = true)) : R.Pairwise (fun a b => a.w ≤ b.w) := h.imp lle_w
theorem ygz {leaves row : List LTh} (hl : yaH leaves) (hr : row.Pairwise (fun a b => a.w ≤ b.w)) : LRow leaves (yav row) (lnext row leaves) := by
 have hp := ycK row hr
 have h0 : LRow [] (yav row) ((yav row).foldl lput []) := by
  rw [lput_all (yav row) [] (by simpa using hp), qaS]
  exact ⟨hp, qcd.2 fun z hz => by rw [ybS row z hz]; decide, qc6.2 fun z hz => by rw [ybS row z hz]; rfl⟩
 have := yfr leaves [] (yav row) _ h0 hl.all (by simpa using hl.order)
 simpa [lnext] using this
theorem yeQ {leaves : List LTh} (hl : yaH leaves) : ∀ k, (lrow leaves k).Pairwise (fun a b => a.w ≤ b.w)
 | 0 => hl.order
 | k + 1 => yea (ygz hl (yeQ hl k)).order
theorem ybv {leaves : List LTh} (hl : yaH leaves) (k : Nat) : LRow leaves (yav (lrow leaves k)) (lrow leaves (k + 1)) := ygz hl (yeQ hl k)
theorem ydg (R : List LTh) : R.length = (R.filter (fun x => x.leaf)).length + (R.filter (fun x => !x.leaf)).length := by
 induction R with
 | nil => rfl
 | cons a t ih =>
  rw [qaD, qaD]
  cases a.leaf <;> simp <;> omega
theorem yfH {leaves : List LTh} (hl : yaH leaves) (k : Nat) : (lrow leaves (k + 1)).length = leaves.length + (lrow leaves k).length / 2 := by
 have h := ybv hl k
 rw [ydg, h.lv, h.pk, ych]
def lsum (f : LTh → Int) : List LTh → Int
 | [] => 0
 | x :: t => f x + lsum f t
theorem yc1 (f : LTh → Int) : ∀ a b : List LTh, lsum f (a ++ b) = lsum f a + lsum f b
 | [], b => by simp [lsum]
 | x :: t, b => by
  show f x + lsum f (t ++ b) = f x + lsum f t + lsum f b
  rw [yc1 f t b]
  omega
theorem lsum_parts (f : LTh → Int) (R : List LTh) : lsum f R = lsum f (R.filter (fun x => x.leaf)) + lsum f (R.filter (fun x => !x.leaf)) := by
 induction R with
 | nil => rfl
 | cons a t ih =>
  rw [qaD, qaD]
  cases a.leaf <;> simp [lsum] <;> omega
def LAdds (f : LTh → Int) : Prop := ∀ a b, f (ycd a b) = f a + f b
theorem yeS {f : LTh → Int} (hf : LAdds f) : ∀ (R : List LTh) (b : Nat), 2 * b ≤ R.length → lsum f ((yav R).take b) = lsum f (R.take (2 * b))
 | R, 0, _ => by simp [lsum]
 | [], b + 1, h => by simp at h
 | [_], b + 1, h => by simp at h; omega
 | x :: y :: t, b + 1, h => by
  have ih := yeS hf t b (by simp at h; omega)
  rw [show 2 * (b + 1) = 2 * b + 1 + 1 from by omega]
  show lsum f (ycd x y :: (yav t).take b) = lsum f (x :: y :: t.take (2 * b))
  simp only [lsum, ih, hf x y]
  omega
def lcnt (R : List LTh) (t : Nat) : Nat := ((R.take t).filter (fun x => x.leaf)).length
section
variable {leaves packs R : List LTh}
theorem LRow.take_lv (h : LRow leaves packs R) (t : Nat) : (R.take t).filter (fun x => x.leaf) = leaves.take (lcnt R t) := by
 have e : R.filter (fun x => x.leaf) = (R.take t).filter (fun x => x.leaf) ++ (R.drop t).filter (fun x => x.leaf) := by rw [← qbq, qax]
 rw [h.lv] at e
 rw [e]
 unfold lcnt
 rw [qbT rfl]
theorem LRow.take_pk (h : LRow leaves packs R) (t : Nat) (ht : t ≤ R.length) : (R.take t).filter (fun x => !x.leaf) = packs.take (t - lcnt R t) := by
 have e : R.filter (fun x => !x.leaf) = (R.take t).filter (fun x => !x.leaf) ++ (R.drop t).filter (fun x => !x.leaf) := by rw [← qbq, qax]
 rw [h.pk] at e
 have hl := ydg (R.take t)
 rw [qao, qbi ht] at hl
 rw [e, qbT (by unfold lcnt; omega)]
theorem lcnt_le (R : List LTh) (t : Nat) : lcnt R t ≤ t := by
 unfold lcnt
 have := qck (fun x : LTh => x.leaf) (R.take t)
 rw [qao] at this
 omega
theorem LRow.cnt_leaves (h : LRow leaves packs R) (t : Nat) : lcnt R t ≤ leaves.length := by
 have := qbD List.length (h.take_lv t)
 rw [qao] at this
 unfold lcnt at *
 omega
theorem LRow.cnt_packs (h : LRow leaves packs R) (t : Nat) (ht : t ≤ R.length) : t - lcnt R t ≤ packs.length := by
 have h1 := qbD List.length (h.take_pk t ht)
 have hl := ydg (R.take t)
 rw [qao, qbi ht] at hl
 rw [qao] at h1
 unfold lcnt at *
 omega
theorem LRow.take_sum (h : LRow leaves packs R) (f : LTh → Int) (t : Nat) (ht : t ≤ R.length) : lsum f (R.take t) = lsum f (leaves.take (lcnt R t)) + lsum f (packs.take (t - lcnt R t)) := by
 rw [lsum_parts, h.take_lv t, h.take_pk t ht]
end
def ydU (leaves : List LTh) : Nat → Nat → List Nat
 | 0, t => [t]
 | k + 1, t => lcnt (lrow leaves (k + 1)) t :: ydU leaves k (2 * (t - lcnt (lrow leaves (k + 1)) t))
theorem yds {leaves : List LTh} (hl : yaH leaves) (k t : Nat) (ht : t ≤ (lrow leaves (k + 1)).length) : 2 * (t - lcnt (lrow leaves (k + 1)) t) ≤ (lrow leaves k).length := by
 have := (ybv hl k).cnt_packs t ht
 rw [ych] at this
 omega
def nsum (g : Nat → Int) : List Nat → Int
 | [] => 0
 | x :: t => g x + nsum g t
theorem lprof_sum {leaves : List LTh} (hl : yaH leaves) {f : LTh → Int} (hf : LAdds f) : ∀ k t, t ≤ (lrow leaves k).length → lsum f ((lrow leaves k).take t) = nsum (fun a => lsum f (leaves.take a)) (ydU leaves k t)
 | 0, t, _ => by simp [ydU, nsum, lrow]
 | k + 1, t, ht => by
  have hn := yds hl k t ht
  rw [(ybv hl k).take_sum f t ht, yeS hf _ _ hn, lprof_sum hl hf k _ hn]
  rfl
theorem yex (leaves : List LTh) : ∀ k t, (ydU leaves k t).length = k + 1
 | 0, t => rfl
 | k + 1, t => by
  show (ydU leaves k _).length + 1 = _
  rw [yex leaves k]
theorem lprof_le {leaves : List LTh} (hl : yaH leaves) : ∀ k t, t ≤ (lrow leaves k).length → ∀ a ∈ ydU leaves k t, a ≤ leaves.length
 | 0, t, ht, a, ha => by
  simp [ydU] at ha
  subst ha
  exact ht
 | k + 1, t, ht, a, ha => by
  rcases qaB.1 ha with rfl | ha
  ·exact (ybv hl k).cnt_leaves t
  ·exact lprof_le hl k _ (yds hl k t ht) a ha
def lwid : List Nat → Nat
 | [] => 0
 | a :: t => 2 ^ t.length * a + lwid t
theorem lprof_wid {leaves : List LTh} : ∀ k t, lwid (ydU leaves k t) = 2 ^ k * t
 | 0, t => by simp [ydU, lwid]
 | k + 1, t => by
  show 2 ^ (ydU leaves k _).length * _ + lwid (ydU leaves k _) = _
  have hc := lcnt_le (lrow leaves (k + 1)) t
  rw [yex, lprof_wid k]
  generalize lcnt (lrow leaves (k + 1)) t = c at *
  obtain ⟨d, rfl⟩ : ∃ d, t = c + d := ⟨t - c, by omega⟩
  rw [show c + d - c = d from by omega, qaW, Nat.mul_add, qcm, qcm]
theorem LRow.drop_lv {leaves packs R : List LTh} (h : LRow leaves packs R) (t : Nat) : (R.drop t).filter (fun x => x.leaf) = leaves.drop (lcnt R t) := by
 have e : R.filter (fun x => x.leaf) = (R.take t).filter (fun x => x.leaf) ++ (R.drop t).filter (fun x => x.leaf) := by rw [← qbq, qax]
 rw [h.lv] at e
 rw [e]
 unfold lcnt
 rw [qbF rfl]
theorem lpacks_pos : ∀ (R : List LTh), (∀ x ∈ R, 0 < x.w) → ∀ p ∈ yav R, 0 < p.w
 | [], _, p, h => by cases h
 | [_], _, p, h => by cases h
 | a :: b :: t, hp, p, h => by
  rcases qaB.1 h with rfl | h
  ·have h1 := hp a (by simp)
   have h2 := hp b (by simp)
   show 0 < a.w + b.w
   omega
  ·exact lpacks_pos t (fun y hy => hp y (by simp [hy])) p h
theorem lrow_pos {leaves : List LTh} (hl : yaH leaves) (hp : ∀ x ∈ leaves, 0 < x.w) : ∀ k, ∀ x ∈ lrow leaves k, 0 < x.w
 | 0, x, h => hp x h
 | k + 1, x, h => by
  have hr := ybv hl k
  cases hx : x.leaf with
  | true => exact hp x (by rw [← hr.lv]; exact qaT.2 ⟨h, hx⟩)
  | false => exact lpacks_pos _ (lrow_pos hl hp k) x (by rw [← hr.pk]; exact qaT.2 ⟨h, by simp [hx]⟩)
theorem lpacks_has : ∀ (R : List LTh) (b : Nat), 2 * b ≤ R.length → (∀ x ∈ R, 0 < x.w) → ∀ x ∈ R.take (2 * b), ∃ p ∈ (yav R).take b, x.w < p.w
 | R, 0, _, _, x, h => by simp at h
 | [], b + 1, h, _, x, hx => by simp at h
 | [_], b + 1, h, _, x, hx => by simp at h; omega
 | y :: z :: t, b + 1, h, hp, x, hx => by
  rw [show 2 * (b + 1) = 2 * b + 1 + 1 from by omega] at hx
  have h1 := hp y (by simp)
  have h2 := hp z (by simp)
  rcases qaB.1 hx with rfl | hx
  ·exact ⟨ycd x z, qa4 .., by show x.w < x.w + z.w; omega⟩
  ·rcases qaB.1 hx with rfl | hx
   ·exact ⟨ycd y x, qa4 .., by show x.w < y.w + x.w; omega⟩
   ·obtain ⟨p, hp1, hp2⟩ := lpacks_has t b (by simp at h; omega) (fun u hu => hp u (by simp [hu])) x hx
    exact ⟨p, qa3 _ hp1, hp2⟩
theorem lrow_lv {leaves : List LTh} (hl : yaH leaves) (k s : Nat) : ((lrow leaves k).take s).filter (fun x => x.leaf) = leaves.take (lcnt (lrow leaves k) s) := by
 cases k with
 | zero =>
  have h1 : ∀ x ∈ leaves.take s, x.leaf = true := fun x hx => hl.all x (qaV hx)
  show (leaves.take s).filter _ = leaves.take ((leaves.take s).filter _).length
  rw [qc6.2 h1, qao]
  rcases Nat.le_total s leaves.length with h | h
  ·rw [qbi h]
  ·rw [Nat.min_eq_right h, qbQ, qa5 h]
 | succ k => exact (ybv hl k).take_lv s
theorem lcnt_nest {leaves : List LTh} (hl : yaH leaves) (hp : ∀ x ∈ leaves, 0 < x.w) (k t : Nat) (ht : t ≤ (lrow leaves (k + 1)).length) :
  lcnt (lrow leaves k) (2 * (t - lcnt (lrow leaves (k + 1)) t)) ≤ lcnt (lrow leaves (k + 1)) t := by
 have hr := ybv hl k
 have hn := yds hl k t ht
 have hlv := lrow_lv hl k (2 * (t - lcnt (lrow leaves (k + 1)) t))
 have hpk := hr.take_pk t ht
 have hdl := hr.drop_lv t
 generalize hc : lcnt (lrow leaves (k + 1)) t = c at *
 generalize hc2 : lcnt (lrow leaves k) (2 * (t - c)) = c2 at *
 rcases qbz c c2 with hlt | hge
 ·exfalso
  have hlen : c2 ≤ leaves.length := by
   have h1 := qbD List.length hlv
   rw [qao] at h1
   have h2 : ((List.take (2 * (t - c)) (lrow leaves k)).filter (fun x => x.leaf)).length = c2 := hc2
   omega
  have hcl : c < leaves.length := by omega
  have hm1 : leaves[c] ∈ leaves.take c2 := List.mem_iff_getElem.2 ⟨c, by rw [qao]; omega, by simp⟩
  rw [← hlv] at hm1
  obtain ⟨p, hp1, hp2⟩ := lpacks_has (lrow leaves k) (t - c) hn (lrow_pos hl hp k) leaves[c] (qaT.1 hm1).1
  rw [← hpk] at hp1
  have hpt := (qaT.1 hp1).1
  have hm2 : leaves[c] ∈ leaves.drop c := List.mem_iff_getElem.2 ⟨0, by rw [qat]; omega, by simp⟩
  rw [← hdl] at hm2
  have hxd := (qaT.1 hm2).1
  have ho := yea hr.order
  rw [← qax t (lrow leaves (k + 1))] at ho
  have := (qa2.1 ho).2.2 p hpt _ hxd
  omega
 ·exact hge
theorem lprof_head {leaves : List LTh} (hl : yaH leaves) : ∀ k t, t ≤ (lrow leaves k).length → ∃ l, ydU leaves k t = lcnt (lrow leaves k) t :: l
 | 0, t, ht => by
  refine ⟨[], ?_⟩
  have h1 : ∀ x ∈ leaves.take t, x.leaf = true := fun x hx => hl.all x (qaV hx)
  show [t] = [((leaves.take t).filter _).length]
  rw [qc6.2 h1, qao, qbi (show t ≤ leaves.length from ht)]
 | k + 1, t, _ => ⟨_, rfl⟩
theorem ygq {leaves : List LTh} (hl : yaH leaves) (hp : ∀ x ∈ leaves, 0 < x.w) : ∀ k t, t ≤ (lrow leaves k).length → (ydU leaves k t).Pairwise (fun a b => b ≤ a)
 | 0, t, _ => by simp [ydU]
 | k + 1, t, ht => by
  have hn := yds hl k t ht
  have ih := ygq hl hp k _ hn
  refine qa7.2 ⟨?_, ih⟩
  have hnest := lcnt_nest hl hp k t ht
  obtain ⟨l, hl2⟩ := lprof_head hl k _ hn
  rw [hl2] at ih ⊢
  intro a ha
  rcases qaB.1 ha with rfl | ha
  ·exact hnest
  ·exact qaG ((qa7.1 ih).1 a ha) hnest
def lof (A : List Nat) (r : Nat) : Nat := (A.filter (fun a => decide (r < a))).length
def lpart : List Nat → Nat → Nat
 | [], _ => 0
 | a :: t, r => (if r < a then 2 ^ t.length else 0) + lpart t r
def rsum (g : Nat → Nat) : Nat → Nat
 | 0 => 0
 | n + 1 => rsum g n + g n
theorem rsum_add (g h : Nat → Nat) : ∀ n, rsum (fun r => g r + h r) n = rsum g n + rsum h n
 | 0 => rfl
 | n + 1 => by
  simp only [rsum, rsum_add g h n]
  omega
theorem rsum_congr {g h : Nat → Nat} : ∀ n, (∀ r, r < n → g r = h r) → rsum g n = rsum h n
 | 0, _ => rfl
 | n + 1, e => by
  simp only [rsum]
  rw [rsum_congr n fun r hr => e r (by omega), e n (by omega)]
theorem yeK (c : Nat) : ∀ n, rsum (fun _ => c) n = c * n
 | 0 => rfl
 | n + 1 => by
  simp only [rsum, yeK c n, Nat.mul_succ]
theorem rsum_below (c a : Nat) : ∀ n, rsum (fun r => if r < a then c else 0) n = c * min a n
 | 0 => by simp [rsum]
 | n + 1 => by
  simp only [rsum, rsum_below c a n]
  by_cases h : n < a
  ·rw [qah h, Nat.min_eq_right (by omega), Nat.min_eq_right (by omega), Nat.mul_succ]
  ·rw [qag h, qbi (by omega), qbi (by omega)]
   rfl
theorem lpart_sum (m : Nat) : ∀ A : List Nat, (∀ a ∈ A, a ≤ m) → rsum (lpart A) m = lwid A
 | [], _ => by
  have := yeK 0 m
  simp at this
  exact this
 | a :: t, h => by
  have ih := lpart_sum m t fun x hx => h x (qa3 _ hx)
  have ha := h a (qa4 ..)
  show rsum (fun r => (if r < a then 2 ^ t.length else 0) + lpart t r) m = 2 ^ t.length * a + lwid t
  rw [rsum_add, rsum_below, qbi ha, ih]
theorem lof_le (A : List Nat) (r : Nat) : lof A r ≤ A.length := qck _ _
theorem yf4 (a : Nat) (t : List Nat) (r : Nat) : lof (a :: t) r = (if r < a then 1 else 0) + lof t r := by
 unfold lof
 rw [qaD]
 by_cases h : r < a
 ·simp [h]; omega
 ·simp [h]
theorem lpart_lof : ∀ (A : List Nat), A.Pairwise (fun a b => b ≤ a) → ∀ r, lpart A r + 2 ^ (A.length - lof A r) = 2 ^ A.length
 | [], _, r => by simp [lpart, lof]
 | a :: t, h, r => by
  obtain ⟨h1, h2⟩ := qa7.1 h
  have ih := lpart_lof t h2 r
  have hle := lof_le t r
  rw [yf4, qau]
  unfold lpart
  by_cases hr : r < a
  ·rw [qah hr, qah hr, show t.length + 1 - (1 + lof t r) = t.length - lof t r from by omega, qaW]
   omega
  ·have h0 : lof t r = 0 := by
    unfold lof
    rw [qaz, qcd]
    intro x hx
    have := h1 x hx
    simp
    omega
   rw [h0] at ih ⊢
   rw [qag hr, qag hr]
   simp only [Nat.sub_zero, qb0] at ih ⊢
   omega
theorem lof_mono (A : List Nat) {r r' : Nat} (h : r ≤ r') : lof A r' ≤ lof A r := by
 induction A with
 | nil => exact qaf _
 | cons a t ih =>
  rw [yf4, yf4]
  by_cases h1 : r' < a
  ·rw [qah h1, qah (by omega)]; omega
  ·rw [qag h1]; omega
theorem lof_full (A : List Nat) (m k : Nat) (hlen : A.length = k + 1) (hle : ∀ a ∈ A, a ≤ m) (hdec : A.Pairwise (fun a b => b ≤ a)) (hw : lwid A = 2 ^ k * (2 * m - 2)) (hm : 2 ≤ m) :
  rsum (fun r => 2 ^ (k + 1 - lof A r)) m = 2 ^ (k + 1) := by
 have h1 := lpart_sum m A hle
 have h2 : rsum (fun r => lpart A r + 2 ^ (k + 1 - lof A r)) m = 2 ^ (k + 1) * m := by
  rw [← yeK (2 ^ (k + 1)) m]
  refine rsum_congr m fun r _ => ?_
  have := lpart_lof A hdec r
  rw [hlen] at this
  exact this
 rw [rsum_add, h1, hw] at h2
 obtain ⟨j, rfl⟩ : ∃ j, m = j + 2 := ⟨m - 2, by omega⟩
 have e1 : 2 ^ k * (2 * (j + 2) - 2) = 2 * (2 ^ k * (j + 1)) := by rw [show 2 * (j + 2) - 2 = 2 * (j + 1) from by omega, Nat.mul_left_comm]
 have e2 : 2 ^ (k + 1) * (j + 2) = 2 * (2 ^ k * (j + 1)) + 2 ^ (k + 1) := by
  rw [Nat.mul_succ, qaW, qbO (2 ^ k) 2, qcm]
 rw [e1, e2] at h2
 omega
theorem rsum_ge (g : Nat → Nat) : ∀ n i, i < n → g i ≤ rsum g n
 | 0, i, h => by omega
 | n + 1, i, h => by
  simp only [rsum]
  rcases qbz i n with h1 | h1
  ·have := rsum_ge g n i h1; omega
  ·obtain rfl : i = n := by omega
   omega
theorem rsum_two (g : Nat → Nat) : ∀ n i j, i < n → j < n → i ≠ j → g i + g j ≤ rsum g n
 | 0, i, j, h, _, _ => by omega
 | n + 1, i, j, h, k, hne => by
  simp only [rsum]
  rcases qbz i n with h1 | h1
  ·rcases qbz j n with h2 | h2
   ·have := rsum_two g n i j h1 h2 hne; omega
   ·obtain rfl : j = n := by omega
    have := rsum_ge g j i h1; omega
  ·obtain rfl : i = n := by omega
   have := rsum_ge g i j (by omega); omega
theorem lof_pos (A : List Nat) (m k : Nat) (hfull : rsum (fun r => 2 ^ (k + 1 - lof A r)) m = 2 ^ (k + 1)) (hm : 2 ≤ m) (r : Nat) (hr : r < m) : 1 ≤ lof A r := by
 rcases qba (lof A r) with h0 | h0
 ·exfalso
  obtain ⟨j, hj, hne⟩ : ∃ j, j < m ∧ r ≠ j := by
   by_cases h : r = 0
   ·exact ⟨1, by omega, by omega⟩
   ·exact ⟨0, by omega, h⟩
  have := rsum_two (fun r => 2 ^ (k + 1 - lof A r)) m r j hr hj hne
  rw [hfull, h0, Nat.sub_zero] at this
  have hp : 0 < 2 ^ (k + 1 - lof A j) := qbf (by omega)
  omega
 ·exact h0
def ybU : List Nat → Nat
 | [] => 0
 | c :: t => c + ybU t / 2
theorem lfloor_wid : ∀ (c : List Nat) (k : Nat), c.length = k + 1 → lwid c < 2 ^ k * (ybU c + 1)
 | [c], 0, _ => by simp [lwid, ybU]
 | c :: d :: t, k + 1, h => by
  have hl : (d :: t).length = k + 1 := by simpa using h
  have ih := lfloor_wid (d :: t) k hl
  show 2 ^ (d :: t).length * c + lwid (d :: t) < 2 ^ (k + 1) * (c + ybU (d :: t) / 2 + 1)
  rw [hl]
  generalize ybU (d :: t) = F at *
  generalize lwid (d :: t) = W at *
  have h2 : F + 1 ≤ 2 * (F / 2 + 1) := by omega
  have h3 : 2 ^ k * (F + 1) ≤ 2 ^ k * (2 * (F / 2 + 1)) := qcp _ h2
  rw [← qcm, ← qaW] at h3
  rw [qcn, Nat.mul_add]
  generalize 2 ^ (k + 1) * (F / 2 + 1) = X at *
  generalize 2 ^ k * (F + 1) = Y at *
  generalize 2 ^ (k + 1) * c = Z at *
  omega
 | [c], k + 1, h => by simp at h
 | c :: d :: t, 0, h => by simp at h
 | [], k, h => by simp at h
theorem yhi {leaves : List LTh} (hl : yaH leaves) : ∀ (c : List Nat) (k : Nat), c.length = k + 1 → (∀ x ∈ c, x ≤ leaves.length) → ybU c ≤ (lrow leaves k).length
 | [c], 0, _, h => by
  have := h c (by simp)
  show c + 0 / 2 ≤ leaves.length
  omega
 | c :: d :: t, k + 1, h, hc => by
  have ih := yhi hl (d :: t) k (by simpa using h) fun x hx => hc x (qa3 _ hx)
  have h1 := hc c (qa4 ..)
  rw [yfH hl k]
  show c + ybU (d :: t) / 2 ≤ _
  omega
 | [c], k + 1, h, _ => by simp at h
 | c :: d :: t, 0, h, _ => by simp at h
 | [], k, h, _ => by simp at h
theorem yeh (f : LTh → Int) (τ : Int) : ∀ (l : List LTh) (a c : Nat), a ≤ l.length → c ≤ l.length → (∀ x ∈ l.take a, f x ≤ τ) → (∀ x ∈ l.drop a, τ ≤ f x) → lsum f (l.take a) - a * τ ≤ lsum f (l.take c) - c * τ
 | l, 0, 0, _, _, _, _ => qcw _
 | [], a + 1, c, h, _, _, _ => by simp at h
 | [], 0, c + 1, _, h, _, _ => by simp at h
 | x :: t, 0, c + 1, _, hc, h1, h2 => by
  have ih := yeh f τ t 0 c (by omega) (by simpa using hc) (by simp) (fun y hy => h2 y (qa3 _ hy))
  have hx := h2 x (qa4 ..)
  simp only [qaJ, qbb, lsum] at ih ⊢
  have e : ((c + 1 : Nat) : Int) * τ = c * τ + τ := by rw [qb7, Int.add_mul]; simp
  rw [e]
  omega
 | x :: t, a + 1, 0, ha, _, h1, h2 => by
  have ih := yeh f τ t a 0 (by simpa using ha) (by omega) (fun y hy => h1 y (qa3 _ hy)) h2
  have hx := h1 x (qa4 ..)
  simp only [qaJ, qbb, lsum] at ih ⊢
  have e : ((a + 1 : Nat) : Int) * τ = a * τ + τ := by rw [qb7, Int.add_mul]; simp
  rw [e]
  omega
 | x :: t, a + 1, c + 1, ha, hc, h1, h2 => by
  have ih := yeh f τ t a c (by simpa using ha) (by simpa using hc) (fun y hy => h1 y (qa3 _ hy)) h2
  simp only [qaJ, lsum] at ih ⊢
  have e1 : ((a + 1 : Nat) : Int) * τ = a * τ + τ := by rw [qb7, Int.add_mul]; simp
  have e2 : ((c + 1 : Nat) : Int) * τ = c * τ + τ := by rw [qb7, Int.add_mul]; simp
  rw [e1, e2]
  omega
theorem ycE (f : LTh → Int) : ∀ l : List LTh, (∀ x ∈ l, 0 ≤ f x) → 0 ≤ lsum f l
 | [], _ => by simp [lsum]
 | x :: t, h => by
  have h1 := h x (qa4 ..)
  have h2 := ycE f t fun y hy => h y (qa3 _ hy)
  show 0 ≤ f x + lsum f t
  omega
theorem LRow.exchange {leaves packs R : List LTh} (h : LRow leaves packs R) (hp : ∀ x ∈ R, 0 < x.w) (t c s : Nat) (ht : t ≤ R.length) (hc : c ≤ leaves.length) (hs : s ≤ packs.length) (hcs : t ≤ c + s) :
  lsum (·.w) (R.take t) ≤ lsum (·.w) (leaves.take c) + lsum (·.w) (packs.take s) := by
 rcases qba t with h0 | h0
 ·subst h0
  have h1 := ycE (·.w) (leaves.take c) fun x hx => by
   have := qaV hx
   rw [← h.lv] at this
   have := hp x (qaT.1 this).1
   show 0 ≤ x.w
   omega
  have h2 := ycE (·.w) (packs.take s) fun x hx => by
   have := qaV hx
   rw [← h.pk] at this
   have := hp x (qaT.1 this).1
   show 0 ≤ x.w
   omega
  simp only [qbb, lsum]
  omega
 ·have ho := yea h.order
  obtain ⟨τ, h1, h2, h3⟩ : ∃ τ : Int, (∀ x ∈ R.take t, x.w ≤ τ) ∧ (∀ x ∈ R.drop t, τ ≤ x.w) ∧ 0 ≤ τ := by
   have hlt : t - 1 < R.length := by omega
   refine ⟨R[t - 1].w, ?_, ?_, Int.le_of_lt (hp _ (qaq hlt))⟩
   ·intro x hx
    obtain ⟨i, hi, rfl⟩ := qaI hx
    rw [qao] at hi
    rw [List.getElem_take]
    rcases qbz i (t - 1) with h4 | h4
    ·exact qbd.1 ho i (t - 1) (by omega) hlt h4
    ·obtain rfl : i = t - 1 := by omega
     exact qcw _
   ·intro x hx
    obtain ⟨i, hi, rfl⟩ := qaI hx
    rw [qat] at hi
    rw [qbX]
    exact qbd.1 ho (t - 1) (t + i) hlt (by omega) (by omega)
  have e1 := h.take_lv t
  have e2 := h.take_pk t ht
  have e3 := h.drop_lv t
  have e4 : (R.drop t).filter (fun x => !x.leaf) = packs.drop (t - lcnt R t) := by
   have e : R.filter (fun x => !x.leaf) = (R.take t).filter (fun x => !x.leaf) ++ (R.drop t).filter (fun x => !x.leaf) := by rw [← qbq, qax]
   rw [h.pk, e2] at e
   have := qax (t - lcnt R t) packs
   rw [← this] at e
   exact (List.append_cancel_left (by rw [qax] at e ⊢; exact e)).symm
  have ha := h.cnt_leaves t
  have hb := h.cnt_packs t ht
  have hle := lcnt_le R t
  rw [h.take_sum (·.w) t ht]
  generalize lcnt R t = a at *
  have g1 := yeh (·.w) τ leaves a c ha hc (fun x hx => h1 x (by rw [← e1] at hx; exact (qaT.1 hx).1)) (fun x hx => h2 x (by rw [← e3] at hx; exact (qaT.1 hx).1))
  have g2 := yeh (·.w) τ packs (t - a) s hb hs (fun x hx => h1 x (by rw [← e2] at hx; exact (qaT.1 hx).1)) (fun x hx => h2 x (by rw [← e4] at hx; exact (qaT.1 hx).1))
  have g3 : (a : Int) * τ + ((t - a : Nat) : Int) * τ ≤ (c : Int) * τ + (s : Int) * τ := by
   rw [← Int.add_mul, ← Int.add_mul]
   exact Int.mul_le_mul_of_nonneg_right (by omega) h3
  omega
theorem lrow_least {leaves : List LTh} (hl : yaH leaves) (hp : ∀ x ∈ leaves, 0 < x.w) : ∀ (c : List Nat) (k t : Nat), c.length = k + 1 → (∀ x ∈ c, x ≤ leaves.length) → t ≤ ybU c →
  lsum (·.w) ((lrow leaves k).take t) ≤ nsum (fun a => lsum (·.w) (leaves.take a)) c
 | [c], 0, t, _, hc, ht => by
  have h1 : c ≤ leaves.length := hc c (by simp)
  have h2 : t ≤ c := by simpa [ybU] using ht
  show lsum (·.w) (leaves.take t) ≤ lsum (·.w) (leaves.take c) + 0
  have e : leaves.take c = leaves.take t ++ (leaves.take c).drop t := by
   conv => lhs; rw [← qax t (leaves.take c)]
   rw [List.take_take, qbi h2]
  rw [e, yc1]
  have := ycE (·.w) ((leaves.take c).drop t) fun x hx => Int.le_of_lt (hp x (qaV (qbt hx)))
  omega
 | c :: d :: u, k + 1, t, hlen, hc, ht => by
  have hlen2 : (d :: u).length = k + 1 := by simpa using hlen
  have hc2 : ∀ x ∈ d :: u, x ≤ leaves.length := fun x hx => hc x (qa3 _ hx)
  have hc1 := hc c (qa4 ..)
  have hfl := yhi hl (d :: u) k hlen2 hc2
  have ht2 : t ≤ c + ybU (d :: u) / 2 := ht
  have hrl := yfH hl k
  obtain ⟨s, hs1, hs2⟩ : ∃ s, t ≤ c + s ∧ 2 * s ≤ ybU (d :: u) := ⟨t - c, by omega, by omega⟩
  have ih := lrow_least hl hp (d :: u) k (2 * s) hlen2 hc2 hs2
  have hadd : LAdds (·.w) := fun a b => rfl
  have hex := (ybv hl k).exchange (lrow_pos hl hp (k + 1)) t c s (by omega) hc1 (by rw [ych]; omega) hs1
  rw [yeS hadd _ _ (by omega)] at hex
  show _ ≤ lsum (·.w) (leaves.take c) + nsum _ (d :: u)
  omega
 | [c], k + 1, t, h, _, _ => by simp at h
 | c :: d :: u, 0, t, h, _, _ => by simp at h
 | [], k, t, h, _, _ => by simp at h
def ybo : Nat → List Int → List LTh → List LTh
 | _, [], out => out
 | i, c :: t, out => ybo (i + 1) t (if 0 < c then lput out ⟨c, [i], true⟩ else out)
def yaa (counts : List Int) : List LTh := ybo 0 counts []
def isum (g : Nat → Int → Int) : Nat → List Int → Int
 | _, [] => 0
 | i, c :: t => g i c + isum g (i + 1) t
theorem yeF {g h : Nat → Int → Int} : ∀ (l : List Int) (i : Nat), (∀ j (hj : j < l.length), g (i + j) l[j] = h (i + j) l[j]) → isum g i l = isum h i l
 | [], _, _ => rfl
 | c :: t, i, e => by
  have h0 := e 0 (by simp)
  have ih : isum g (i + 1) t = isum h (i + 1) t := yeF t (i + 1) fun j hj => by
   have e2 := e (j + 1) (by simpa using hj)
   rw [show i + (j + 1) = i + 1 + j from by omega] at e2
   exact e2
  simp only [qb0, List.getElem_cons_zero] at h0
  show g i c + isum g (i + 1) t = h i c + isum h (i + 1) t
  rw [h0, ih]
theorem lsum_lput (f : LTh → Int) (x : LTh) (R : List LTh) : lsum f (lput R x) = lsum f R + f x := by
 obtain ⟨r1, r2, h1, h2, _, _⟩ := ybh x R
 rw [h2, h1, yc1, yc1]
 simp only [lsum]
 omega
theorem yeo (x y : LTh) (R : List LTh) : y ∈ lput R x ↔ y = x ∨ y ∈ R := by
 obtain ⟨r1, r2, h1, h2, _, _⟩ := ybh x R
 rw [h2, h1]
 simp only [qbm, qaB]
 constructor
 ·rintro (h | h | h)
  ·exact qaK (qas h)
  ·exact qas h
  ·exact qaK (qaK h)
 ·rintro (h | h | h)
  ·exact qaK (qas h)
  ·exact qas h
  ·exact qaK (qaK h)
theorem lput_order (x : LTh) (R : List LTh) (h : R.Pairwise (fun a b => lle a b = true)) : (lput R x).Pairwise (fun a b => lle a b = true) := by
 obtain ⟨r1, r2, h1, h2, h3, h4⟩ := ybh x R
 rw [h1] at h
 obtain ⟨o1, o2, o3⟩ := qa2.1 h
 rw [h2, qa2]
 have hx2 : ∀ z ∈ r2, lle x z = true := by
  intro z hz
  cases hr : r2 with
  | nil => rw [hr] at hz; cases hz
  | cons y t =>
   have hy := lle_total (h4 y t hr)
   rw [hr] at hz o2
   rcases qaB.1 hz with rfl | hz
   ·exact hy
   ·exact yhq hy ((qa7.1 o2).1 z hz)
 refine ⟨o1, qa7.2 ⟨hx2, o2⟩, ?_⟩
 intro a ha b hb
 rcases qaB.1 hb with rfl | hb
 ·exact h3 a ha
 ·exact o3 a ha b hb
theorem lput_dist (x : LTh) (R : List LTh) (h : R.Pairwise (fun a b => a.syms ≠ b.syms)) (hx : ∀ y ∈ R, y.syms ≠ x.syms) : (lput R x).Pairwise (fun a b => a.syms ≠ b.syms) := by
 obtain ⟨r1, r2, h1, h2, h3, h4⟩ := ybh x R
 rw [h1] at h hx
 obtain ⟨o1, o2, o3⟩ := qa2.1 h
 rw [h2, qa2]
 refine ⟨o1, qa7.2 ⟨fun z hz => (hx z (qbj _ hz)).symm, o2⟩, ?_⟩
 intro a ha b hb
 rcases qaB.1 hb with rfl | hb
 ·exact hx a (qbu _ ha)
 ·exact o3 a ha b hb
theorem lfirst_sum (f : LTh → Int) : ∀ (l : List Int) (i : Nat) (out : List LTh), lsum f (ybo i l out) = lsum f out + isum (fun j c => if 0 < c then f ⟨c, [j], true⟩ else 0) i l
 | [], i, out => by simp [ybo, isum]
 | c :: t, i, out => by
  have ih := lfirst_sum f t (i + 1) (if 0 < c then lput out ⟨c, [i], true⟩ else out)
  show lsum f (ybo (i + 1) t _) = lsum f out + ((if 0 < c then f ⟨c, [i], true⟩ else 0) + isum _ (i + 1) t)
  rw [ih]
  by_cases h : 0 < c
  ·rw [qah h, qah h, lsum_lput]; omega
  ·rw [qag h, qag h]; omega
theorem yfq : ∀ (l : List Int) (i : Nat) (out : List LTh), out.Pairwise (fun a b => lle a b = true) → (ybo i l out).Pairwise (fun a b => lle a b = true)
 | [], i, out, h => h
 | c :: t, i, out, h => by
  refine yfq t (i + 1) _ ?_
  split
  ·exact lput_order _ _ h
  ·exact h
theorem lfirst_mem : ∀ (l : List Int) (i : Nat) (out : List LTh) (x : LTh), x ∈ ybo i l out ↔ x ∈ out ∨ ∃ j, ∃ hj : j < l.length, 0 < l[j] ∧ x = ⟨l[j], [i + j], true⟩
 | [], i, out, x => by simp [ybo]
 | c :: t, i, out, x => by
  have ih := lfirst_mem t (i + 1) (if 0 < c then lput out ⟨c, [i], true⟩ else out) x
  show x ∈ ybo (i + 1) t _ ↔ _
  rw [ih]
  constructor
  ·rintro (h | ⟨j, hj, h1, h2⟩)
   ·by_cases hc : 0 < c
    ·rw [qah hc, yeo] at h
     rcases h with rfl | h
     ·exact qaK ⟨0, by simp, hc, rfl⟩
     ·exact qas h
    ·rw [qag hc] at h
     exact qas h
   ·exact qaK ⟨j + 1, by simpa using hj, h1, by rw [h2, show i + 1 + j = i + (j + 1) from by omega]; rfl⟩
  ·rintro (h | ⟨j, hj, h1, h2⟩)
   ·refine qas ?_
    split
    ·exact (yeo _ _ _).2 (qaK h)
    ·exact h
   ·cases j with
    | zero =>
     refine qas ?_
     rw [qah (show 0 < c from h1)]
     exact (yeo _ _ _).2 (qas h2)
    | succ j => exact qaK ⟨j, by simpa using hj, h1, by rw [h2, show i + 1 + j = i + (j + 1) from by omega]; rfl⟩
theorem yg4 : ∀ (l : List Int) (i : Nat) (out : List LTh), out.Pairwise (fun a b => a.syms ≠ b.syms) → (∀ x ∈ out, ∃ j, j < i ∧ x.syms = [j]) → (ybo i l out).Pairwise (fun a b => a.syms ≠ b.syms)
 | [], i, out, h, _ => h
 | c :: t, i, out, h, hs => by
  refine yg4 t (i + 1) _ ?_ ?_
  ·split
   ·refine lput_dist _ _ h fun y hy => ?_
    obtain ⟨j, hj, e⟩ := hs y hy
    rw [e]
    intro e2
    injection e2 with e2 _
    omega
   ·exact h
  ·intro x hx
   split at hx
   ·rcases (yeo _ _ _).1 hx with rfl | hx
    ·exact ⟨i, by omega, rfl⟩
    ·obtain ⟨j, hj, e⟩ := hs x hx
     exact ⟨j, by omega, e⟩
   ·obtain ⟨j, hj, e⟩ := hs x hx
    exact ⟨j, by omega, e⟩
section
variable (counts : List Int)
theorem yax (x : LTh) : x ∈ yaa counts ↔ ∃ j, ∃ hj : j < counts.length, 0 < counts[j] ∧ x = ⟨counts[j], [j], true⟩ := by
 unfold yaa
 rw [lfirst_mem]
 simp
theorem yaV : yaH (yaa counts) :=
 ⟨fun x hx => by obtain ⟨j, hj, _, rfl⟩ := (yax counts x).1 hx; rfl, yea (yfq counts 0 [] qb8)⟩
theorem ydO : ∀ x ∈ yaa counts, 0 < x.w := fun x hx => by
 obtain ⟨j, hj, h, rfl⟩ := (yax counts x).1 hx
 exact h
theorem lleaves_dist : (yaa counts).Pairwise (fun a b => a.syms ≠ b.syms) := yg4 counts 0 [] qb8 (by simp)
theorem ydS (f : LTh → Int) : lsum f (yaa counts) = isum (fun j c => if 0 < c then f ⟨c, [j], true⟩ else 0) 0 counts := by
 unfold yaa
 rw [lfirst_sum]
 simp [lsum]
end
def lhas (s : Nat) (x : LTh) : Int := (x.syms.count s : Nat)
theorem lhas_adds (s : Nat) : LAdds (lhas s) := fun a b => by
 show ((List.count s (a.syms ++ b.syms) : Nat) : Int) = _
 rw [List.count_append]
 rfl
theorem lpacks_val {f g : LTh → Int} (hf : LAdds f) (hg : LAdds g) : ∀ R : List LTh, (∀ x ∈ R, f x = g x) → ∀ x ∈ yav R, f x = g x
 | [], _, x, h => by cases h
 | [_], _, x, h => by cases h
 | a :: b :: t, e, x, h => by
  rcases qaB.1 h with rfl | h
  ·rw [hf, hg, e a (by simp), e b (by simp)]
  ·exact lpacks_val hf hg t (fun y hy => e y (by simp [hy])) x h
theorem lrow_val {leaves : List LTh} (hl : yaH leaves) {f g : LTh → Int} (hf : LAdds f) (hg : LAdds g) (h0 : ∀ x ∈ leaves, f x = g x) : ∀ k, ∀ x ∈ lrow leaves k, f x = g x
 | 0, x, h => h0 x h
 | k + 1, x, h => by
  have hr := ybv hl k
  cases hx : x.leaf with
  | true => exact h0 x (by rw [← hr.lv]; exact qaT.2 ⟨h, hx⟩)
  | false => exact lpacks_val hf hg _ (lrow_val hl hf hg h0 k) x (by rw [← hr.pk]; exact qaT.2 ⟨h, by simp [hx]⟩)
theorem yaM {f g : LTh → Int} : ∀ R : List LTh, (∀ x ∈ R, f x = g x) → lsum f R = lsum g R
 | [], _ => rfl
 | x :: t, e => by
  simp only [lsum]
  rw [e x (qa4 ..), yaM t fun y hy => e y (qa3 _ hy)]
def ltaken (counts : List Int) (most : Nat) : List LTh := (lrow (yaa counts) (most - 1)).take (2 * (yaa counts).length - 2)
def llen (counts : List Int) (most s : Nat) : Int := lsum (lhas s) (ltaken counts most)
def ya0 (counts : List Int) (most : Nat) : List Int :=
 if (yaa counts).length = 1 then counts.map (fun c => if 0 < c then 1 else 0) else (List.range counts.length).map fun s => llen counts most s
theorem ydy (counts : List Int) (most : Nat) : (ya0 counts most).length = counts.length := by
 unfold ya0
 split <;> simp
theorem yfE (f g : LTh → Int) : ∀ R : List LTh, lsum (fun x => f x + g x) R = lsum f R + lsum g R
 | [] => rfl
 | x :: t => by
  simp only [lsum, yfE f g t]
  omega
theorem ydw (c : Int) (f : LTh → Int) : ∀ R : List LTh, lsum (fun x => c * f x) R = c * lsum f R
 | [] => by simp [lsum]
 | x :: t => by
  simp only [lsum, ydw c f t, Int.mul_add]
theorem ydq (R : List LTh) : lsum (fun _ => 1) R = R.length := by
 induction R with
 | nil => rfl
 | cons x t ih => simp only [lsum, ih, qau]; omega
theorem ygI (f : LTh → Int) (p : LTh → Bool) (R : List LTh) : lsum f (R.filter p) = lsum (fun x => if p x = true then f x else 0) R := by
 induction R with
 | nil => rfl
 | cons x t ih =>
  rw [qaD]
  by_cases h : p x = true
  ·rw [qah h]; simp only [lsum, ih, qah h]
  ·rw [qag h]; simp only [lsum, ih, qag h]; omega
theorem lsum_first (p : LTh → Bool) : ∀ l : List LTh, l.Pairwise (fun a b => a.w ≤ b.w) → lsum (·.w) (l.take (l.filter p).length) ≤ lsum (·.w) (l.filter p)
 | [], _ => qcw _
 | a :: t, h => by
  obtain ⟨h1, h2⟩ := qa7.1 h
  have ih := lsum_first p t h2
  rw [qaD]
  by_cases hp : p a = true
  ·rw [qah hp, qau, qaJ]
   simp only [lsum]
   omega
  ·rw [qag hp]
   have hle := qck p t
   cases hn : (t.filter p).length with
   | zero =>
    have : t.filter p = [] := qaz.1 hn
    rw [this]
    simp [lsum]
   | succ n =>
    rw [hn] at ih hle
    rw [qap (by omega), yc1] at ih
    have h3 := h1 t[n] (qaq (by omega))
    simp only [qaJ, lsum] at ih ⊢
    omega
section
variable (ℓ : LTh → Nat) (leaves : List LTh)
def lcl : Nat → Nat → List Nat
 | _, 0 => []
 | d, k + 1 => (leaves.filter (fun x => decide (d + 1 ≤ ℓ x))).length :: lcl (d + 1) k
theorem lcl_len : ∀ k d, (lcl ℓ leaves d k).length = k
 | 0, _ => rfl
 | k + 1, d => by show (lcl ℓ leaves (d + 1) k).length + 1 = _; rw [lcl_len k]
theorem lcl_le : ∀ k d, ∀ x ∈ lcl ℓ leaves d k, x ≤ leaves.length
 | 0, _, x, h => by cases h
 | k + 1, d, x, h => by
  rcases qaB.1 h with rfl | h
  ·exact qck _ _
  ·exact lcl_le k (d + 1) x h
theorem lcl_wid : ∀ k d, (lwid (lcl ℓ leaves d k) : Int) + lsum (fun x => ((2 ^ (k - min (ℓ x - d) k) : Nat) : Int)) leaves = ((2 ^ k : Nat) : Int) * leaves.length
 | 0, d => by
  simp only [lcl, lwid]
  have : lsum (fun x => ((2 ^ (0 - min (ℓ x - d) 0) : Nat) : Int)) leaves = leaves.length := by
   rw [← ydq]
   exact yaM _ fun x _ => by simp
  rw [this]
  simp
 | k + 1, d => by
  have ih := lcl_wid k (d + 1)
  show (((2 ^ (lcl ℓ leaves (d + 1) k).length * (leaves.filter (fun x => decide (d + 1 ≤ ℓ x))).length + lwid (lcl ℓ leaves (d + 1) k) : Nat)) : Int) + _ = _
  rw [lcl_len]
  have e1 : ((leaves.filter (fun x => decide (d + 1 ≤ ℓ x))).length : Int) = lsum (fun x => if decide (d + 1 ≤ ℓ x) = true then 1 else 0) leaves := by rw [← ydq, ygI]
  have e2 : lsum (fun x => ((2 ^ k : Nat) : Int) * (if decide (d + 1 ≤ ℓ x) = true then 1 else 0) + ((2 ^ (k + 1 - min (ℓ x - d) (k + 1)) : Nat) : Int)) leaves = lsum (fun x => ((2 ^ k : Nat) : Int) * 1 + ((2 ^ (k - min (ℓ x - (d + 1)) k) : Nat) : Int)) leaves := by
   refine yaM _ fun x _ => ?_
   by_cases h : d + 1 ≤ ℓ x
   ·rw [qah (by simpa using h), show k + 1 - min (ℓ x - d) (k + 1) = k - min (ℓ x - (d + 1)) k from by omega]
   ·rw [qag (by simpa using h), show k + 1 - min (ℓ x - d) (k + 1) = k + 1 from by omega, show k - min (ℓ x - (d + 1)) k = k from by omega, qaW]
    omega
  rw [yfE, yfE, ydw, ydw, ydq, ← e1] at e2
  rw [qb7, qc1, qaW]
  have e3 : (((2 ^ k * 2 : Nat)) : Int) * leaves.length = ((2 ^ k : Nat) : Int) * leaves.length + ((2 ^ k : Nat) : Int) * leaves.length := by
   rw [qc1, Int.mul_assoc, Int.mul_comm ((2 : Nat) : Int), ← Int.mul_assoc]
   omega
  rw [e3]
  generalize ((2 ^ k : Nat) : Int) * ((leaves.filter (fun x => decide (d + 1 ≤ ℓ x))).length : Int) = a1 at *
  generalize ((2 ^ k : Nat) : Int) * (leaves.length : Int) = a2 at *
  generalize lsum (fun x => ((2 ^ (k + 1 - min (ℓ x - d) (k + 1)) : Nat) : Int)) leaves = a3 at *
  generalize lsum (fun x => ((2 ^ (k - min (ℓ x - (d + 1)) k) : Nat) : Int)) leaves = a4 at *
  omega
theorem lcl_cost (ho : leaves.Pairwise (fun a b => a.w ≤ b.w)) : ∀ k d, nsum (fun a => lsum (·.w) (leaves.take a)) (lcl ℓ leaves d k) ≤ lsum (fun x => x.w * ((min (ℓ x - d) k : Nat) : Int)) leaves
 | 0, d => by
  have : lsum (fun x => x.w * ((min (ℓ x - d) 0 : Nat) : Int)) leaves = lsum (fun x => 0 * x.w) leaves := yaM _ fun x _ => by simp
  rw [this, ydw]
  simp [lcl, nsum]
 | k + 1, d => by
  have ih := lcl_cost ho k (d + 1)
  have h1 := lsum_first (fun x => decide (d + 1 ≤ ℓ x)) leaves ho
  rw [ygI] at h1
  have e : lsum (fun x => x.w * ((min (ℓ x - d) (k + 1) : Nat) : Int)) leaves = lsum (fun x => (if decide (d + 1 ≤ ℓ x) = true then x.w else 0) + x.w * ((min (ℓ x - (d + 1)) k : Nat) : Int)) leaves := by
   refine yaM _ fun x _ => ?_
   by_cases h : d + 1 ≤ ℓ x
   ·rw [qah (by simpa using h), show min (ℓ x - d) (k + 1) = min (ℓ x - (d + 1)) k + 1 from by omega, qb7, Int.mul_add]
    simp
    omega
   ·rw [qag (by simpa using h), show min (ℓ x - d) (k + 1) = 0 from by omega, show min (ℓ x - (d + 1)) k = 0 from by omega]
    simp
  rw [e, yfE]
  show lsum (·.w) (leaves.take _) + nsum _ (lcl ℓ leaves (d + 1) k) ≤ _
  omega
end
theorem lrow_best {leaves : List LTh} (hl : yaH leaves) (hp : ∀ x ∈ leaves, 0 < x.w) (ℓ : LTh → Nat) (k : Nat) (h2 : 2 ≤ leaves.length) (hle : ∀ x ∈ leaves, ℓ x ≤ k + 1)
  (hk : lsum (fun x => ((2 ^ (k + 1 - ℓ x) : Nat) : Int)) leaves ≤ ((2 ^ (k + 1) : Nat) : Int)) : 2 * leaves.length - 2 ≤ (lrow leaves k).length ∧ lsum (·.w) ((lrow leaves k).take (2 * leaves.length - 2)) ≤ lsum (fun x => x.w * (ℓ x : Int)) leaves := by
 have hlen := lcl_len ℓ leaves (k + 1) 0
 have hcl := lcl_le ℓ leaves (k + 1) 0
 have hw := lcl_wid ℓ leaves (k + 1) 0
 have hf := lfloor_wid (lcl ℓ leaves 0 (k + 1)) k hlen
 have e1 : lsum (fun x => ((2 ^ (k + 1 - min (ℓ x - 0) (k + 1)) : Nat) : Int)) leaves = lsum (fun x => ((2 ^ (k + 1 - ℓ x) : Nat) : Int)) leaves := yaM _ fun x hx => by
  have := hle x hx
  rw [show min (ℓ x - 0) (k + 1) = ℓ x from by omega]
 rw [e1] at hw
 have ht : 2 * leaves.length - 2 ≤ ybU (lcl ℓ leaves 0 (k + 1)) := by
  rcases qbz (ybU (lcl ℓ leaves 0 (k + 1))) (2 * leaves.length - 2) with h | h
  ·exfalso
   have h3 : 2 ^ k * (ybU (lcl ℓ leaves 0 (k + 1)) + 1) ≤ 2 ^ k * (2 * leaves.length - 2) := qcp _ (by omega)
   obtain ⟨j, hj⟩ : ∃ j, leaves.length = j + 1 := ⟨leaves.length - 1, by omega⟩
   rw [hj] at h3 hw
   have e2 : 2 ^ k * (2 * (j + 1) - 2) = 2 ^ (k + 1) * j := by rw [show 2 * (j + 1) - 2 = 2 * j from by omega, ← qcm, ← qaW]
   have e3 : ((2 ^ (k + 1) : Nat) : Int) * ((j + 1 : Nat) : Int) = ((2 ^ (k + 1) * j : Nat) : Int) + ((2 ^ (k + 1) : Nat) : Int) := by
    rw [← qc1, Nat.mul_succ, qb7]
   rw [e3] at hw
   rw [e2] at h3
   omega
  ·exact h
 refine ⟨qaG ht (yhi hl _ k hlen hcl), ?_⟩
 have h4 := lrow_least hl hp _ k _ hlen hcl ht
 have h5 := lcl_cost ℓ leaves hl.order (k + 1) 0
 have e4 : lsum (fun x => x.w * ((min (ℓ x - 0) (k + 1) : Nat) : Int)) leaves = lsum (fun x => x.w * (ℓ x : Int)) leaves := yaM _ fun x hx => by
  have := hle x hx
  rw [show min (ℓ x - 0) (k + 1) = ℓ x from by omega]
 rw [e4] at h5
 omega
theorem ygn {leaves : List LTh} (hl : yaH leaves) (hp : ∀ x ∈ leaves, 0 < x.w) (k : Nat) (h2 : 2 ≤ leaves.length) (hm : leaves.length ≤ 2 ^ (k + 1)) : 2 * leaves.length - 2 ≤ (lrow leaves k).length := by
 refine (lrow_best hl hp (fun _ => k + 1) k h2 (fun _ _ => qaf _) ?_).1
 have : lsum (fun x => ((2 ^ (k + 1 - (k + 1)) : Nat) : Int)) leaves = leaves.length := by
  rw [← ydq]
  exact yaM _ fun x _ => by simp
 rw [this]
 omega
theorem ycu (s j : Nat) (x : LTh) (h : x.syms = [j]) : lhas s x = if j = s then 1 else 0 := by
 unfold lhas
 rw [h, List.count_singleton]
 by_cases e : j = s
 ·subst e; simp
 ·rw [qag e, qag (by simpa using e)]; rfl
theorem lhas_take (s : Nat) : ∀ (l : List LTh) (r a : Nat) (hr : r < l.length), l.Pairwise (fun a b => a.syms ≠ b.syms) → (∀ x ∈ l, ∃ j, x.syms = [j]) → l[r].syms = [s] → lsum (lhas s) (l.take a) = if r < a then 1 else 0
 | [], r, a, hr, _, _, _ => by simp at hr
 | x :: t, r, 0, _, _, _, _ => by simp [lsum]
 | x :: t, 0, a + 1, _, hd, hs, h => by
  have h' : x.syms = [s] := h
  obtain ⟨h1, h2⟩ := qa7.1 hd
  have h0 : lsum (lhas s) (t.take a) = lsum (fun x => 0 * x.w) (t.take a) := yaM _ fun y hy => by
   have hyt := qaV hy
   obtain ⟨j, hj⟩ := hs y (qa3 _ hyt)
   have hne := h1 y hyt
   rw [ycu s j y hj, qag (fun e => hne (by rw [h', hj, e]))]
   simp
  rw [ydw] at h0
  rw [qaJ]
  simp only [lsum, h0, ycu s s x h']
  simp
 | x :: t, r + 1, a + 1, hr, hd, hs, h => by
  obtain ⟨h1, h2⟩ := qa7.1 hd
  have hrt : r < t.length := by simpa using hr
  have ht : t[r].syms = [s] := by simpa using h
  have ih := lhas_take s t r a hrt h2 (fun y hy => hs y (qa3 _ hy)) ht
  obtain ⟨j, hj⟩ := hs x (qa4 ..)
  have hne := h1 t[r] (qaq hrt)
  rw [qaJ]
  simp only [lsum, ih, ycu s j x hj]
  rw [qag (fun e : j = s => hne (by rw [hj, ht, e]))]
  by_cases hra : r < a
  ·rw [qah hra, qah (by omega)]; omega
  ·rw [qag hra, qag (by omega)]; omega
theorem nsum_lof (r : Nat) : ∀ A : List Nat, nsum (fun a => if r < a then 1 else 0) A = (lof A r : Int)
 | [] => rfl
 | a :: t => by
  rw [yf4]
  simp only [nsum, nsum_lof r t]
  by_cases h : r < a
  ·rw [qah h, qah h]; omega
  ·rw [qag h, qag h]; omega
theorem nsum_congr {g h : Nat → Int} : ∀ A : List Nat, (∀ a ∈ A, g a = h a) → nsum g A = nsum h A
 | [], _ => rfl
 | a :: t, e => by
  simp only [nsum]
  rw [e a (qa4 ..), nsum_congr t fun x hx => e x (qa3 _ hx)]
theorem lsum_rank (f : LTh → Int) (g : Nat → Nat) (l : List LTh) (h : ∀ r (hr : r < l.length), f l[r] = (g r : Int)) : ∀ n, n ≤ l.length → lsum f (l.take n) = (rsum g n : Int)
 | 0, _ => by simp [lsum, rsum]
 | n + 1, hn => by
  have ih := lsum_rank f g l h n (by omega)
  rw [qap (by omega), yc1, ih]
  simp only [lsum, rsum, h n (by omega)]
  omega
section
variable (counts : List Int) (k : Nat)
def ydu : List Nat := ydU (yaa counts) k (2 * (yaa counts).length - 2)
variable {counts k}
theorem yep (h2 : 2 ≤ (yaa counts).length) (hm : (yaa counts).length ≤ 2 ^ (k + 1)) :
  rsum (fun r => 2 ^ (k + 1 - lof (ydu counts k) r)) (yaa counts).length = 2 ^ (k + 1) := by
 have hl := yaV counts
 have hp := ydO counts
 have ht := ygn hl hp k h2 hm
 exact lof_full _ _ k (yex _ _ _) (lprof_le hl k _ ht) (ygq hl hp k _ ht) (lprof_wid _ _) h2
theorem ye2 (h2 : 2 ≤ (yaa counts).length) (hm : (yaa counts).length ≤ 2 ^ (k + 1)) (s r : Nat) (hr : r < (yaa counts).length) (hs : (yaa counts)[r].syms = [s]) : llen counts (k + 1) s = (lof (ydu counts k) r : Int) := by
 have hl := yaV counts
 have ht := ygn hl (ydO counts) k h2 hm
 unfold llen ltaken
 rw [show k + 1 - 1 = k from rfl, lprof_sum hl (lhas_adds s) k _ ht, ← nsum_lof]
 refine nsum_congr _ fun a _ => ?_
 refine lhas_take s (yaa counts) r a hr (lleaves_dist counts) (fun x hx => ?_) hs
 obtain ⟨j, hj, _, rfl⟩ := (yax counts x).1 hx
 exact ⟨j, rfl⟩
theorem lrank_of (j : Nat) (hj : j < counts.length) (h : 0 < counts[j]) : ∃ r, ∃ hr : r < (yaa counts).length, (yaa counts)[r] = ⟨counts[j], [j], true⟩ := by
 obtain ⟨r, hr, e⟩ := qaI ((yax counts ⟨counts[j], [j], true⟩).2 ⟨j, hj, h, rfl⟩)
 exact ⟨r, hr, e⟩
theorem yg6 (most s : Nat) (h : ∀ hs : s < counts.length, counts[s] ≤ 0) : llen counts most s = 0 := by
 have hv := lrow_val (yaV counts) (lhas_adds s) (g := fun x => 0 * x.w) (fun a b => by simp) (fun x hx => by
  obtain ⟨j, hj, hp, rfl⟩ := (yax counts x).1 hx
  rw [ycu s j _ rfl, qag (fun e => by subst e; have := h hj; omega)]
  simp) (most - 1)
 have := yaM (f := lhas s) (g := fun x => 0 * x.w) (ltaken counts most) fun x hx => hv x (qaV hx)
 rw [ydw] at this
 simpa [llen] using this
theorem yfU (h2 : 2 ≤ (yaa counts).length) (hm : (yaa counts).length ≤ 2 ^ (k + 1)) (j : Nat) (hj : j < counts.length) (h : 0 < counts[j]) : 1 ≤ llen counts (k + 1) j ∧ llen counts (k + 1) j ≤ ((k + 1 : Nat) : Int) := by
 obtain ⟨r, hr, e⟩ := lrank_of j hj h
 rw [ye2 h2 hm j r hr (by rw [e])]
 have h1 := lof_pos _ _ k (yep h2 hm) h2 r hr
 have h3 := lof_le (ydu counts k) r
 have h4 : (ydu counts k).length = k + 1 := yex _ _ _
 omega
theorem llen_falls (h2 : 2 ≤ (yaa counts).length) (hm : (yaa counts).length ≤ 2 ^ (k + 1)) (i j : Nat) (hi : i < counts.length) (hj : j < counts.length) (h : counts[j] < counts[i]) (h0 : 0 < counts[j]) : llen counts (k + 1) i ≤ llen counts (k + 1) j := by
 obtain ⟨r, hr, e⟩ := lrank_of i hi (by omega)
 obtain ⟨q, hq, e2⟩ := lrank_of j hj h0
 rw [ye2 h2 hm i r hr (by rw [e]), ye2 h2 hm j q hq (by rw [e2])]
 have hqr : q ≤ r := by
  rcases qbz r q with hlt | hge
  ·exfalso
   have := qbd.1 (yaV counts).order r q hr hq hlt
   rw [e, e2] at this
   have h5 : counts[i] ≤ counts[j] := this
   omega
  ·exact hge
 have := lof_mono (ydu counts k) hqr
 omega
theorem llen_full (h2 : 2 ≤ (yaa counts).length) (hm : (yaa counts).length ≤ 2 ^ (k + 1)) : isum (fun j c => if 0 < c then ((2 ^ (k + 1 - (llen counts (k + 1) j).toNat) : Nat) : Int) else 0) 0 counts = ((2 ^ (k + 1) : Nat) : Int) := by
 have h := ydS counts (fun x => ((2 ^ (k + 1 - (llen counts (k + 1) (x.syms.headD 0)).toNat) : Nat) : Int))
 have h3 := lsum_rank (fun x => ((2 ^ (k + 1 - (llen counts (k + 1) (x.syms.headD 0)).toNat) : Nat) : Int)) (fun r => 2 ^ (k + 1 - lof (ydu counts k) r)) (yaa counts) (fun r hr => by
  obtain ⟨j, hj, hp, e⟩ := (yax counts _).1 (qaq hr)
  have := ye2 h2 hm j r hr (by rw [e])
  rw [e]
  show ((2 ^ (k + 1 - (llen counts (k + 1) j).toNat) : Nat) : Int) = _
  rw [this, qav]) _ (qaf _)
 rw [qbQ, yep h2 hm] at h3
 rw [h3] at h
 exact h.symm
end
def ya1 (l : List Int) : Nat := (l.filter (fun x => decide (0 < x))).length
theorem usedF_take (l : List Int) (k : Nat) (h : k < l.length) : ya1 (l.take (k + 1)) = ya1 (l.take k) + if 0 < l[k] then 1 else 0 := by
 unfold ya1
 rw [qap h, qbq, qae]
 congr 1
 by_cases hx : 0 < l[k]
 ·rw [qah hx, qaD, qah (by simpa using hx)]; rfl
 ·rw [qag hx, qaD, qag (by simpa using hx)]; rfl
theorem usedF_le (l : List Int) : ya1 l ≤ l.length := qck _ _
def yaA : List Int → Nat
 | [] => 0
 | x :: t => (if 0 < x then 2 ^ (15 - x.toNat) else 0) + yaA t
theorem partF_app : ∀ a b : List Int, yaA (a ++ b) = yaA a + yaA b
 | [], b => by simp [yaA]
 | x :: t, b => by
  show (if 0 < x then 2 ^ (15 - x.toNat) else 0) + yaA (t ++ b) = _
  rw [partF_app t b, ← qcn]
  rfl
theorem partF_take (l : List Int) (k : Nat) (h : k < l.length) : yaA (l.take (k + 1)) = yaA (l.take k) + if 0 < l[k] then 2 ^ (15 - l[k].toNat) else 0 := by
 rw [qap h, partF_app]
 simp [yaA]
def ydN (l : List Int) : Bool := l.all fun x => decide (0 ≤ x) && decide (x ≤ 15)
def sumF (l : List Int) : Int := if ydN l = true then (yaA l : Int) else -1
theorem ybK {l : List Int} (h : ydN l = true) (i : Nat) (hi : i < l.length) : 0 ≤ l[i] ∧ l[i] ≤ 15 := by
 unfold ydN at h
 rw [qb5] at h
 simpa using h l[i] (qaq hi)
theorem lgood_of {l : List Int} (h : ∀ i (hi : i < l.length), 0 ≤ l[i] ∧ l[i] ≤ 15) : ydN l = true := by
 unfold ydN
 rw [qb5]
 intro x hx
 obtain ⟨i, hi, rfl⟩ := qaI hx
 simpa using h i hi
section
variable (l : List Int) (A : Option Addr) (n c : Nat) (w : World)
theorem lcells {l : List Int} {A : Option Addr} {n : Nat} {w : World} {B : Nat} (hr : Reads w B 1 A n (ints l)) : Hid (0 < n → ∃ b off, A = some ⟨b, off, none⟩ ∧ b < B ∧ ∀ k, (hk : k < l.length) → w.cell? ⟨b, off + k, none⟩ = some (.int .i64 l[k])) := qaa fun h => by
 obtain ⟨b, off, e, hb, hc⟩ := hr.2 h
 exact ⟨b, off, e, hb, fun k hk => hc k _ (yao l k hk)⟩
def ya3 (l : List Int) : Int := if 257 < l.length then 3 else if sumF l = 0 ∨ sumF l = 32768 ∨ ((ya1 l : Int) = 1 ∧ sumF l = 16384) then 0 else 80
end
theorem yat {P : Program} {w : World} {ops : Array Oper} {o : Oper} {a : Act} {K : Act → World → Prop} {Q : Exit → Act → World → Prop} {E : Prop} (hgd : o.guard = none) (s x : Operand) (t : TypeId)
  (ho : o.op = .call { callee := .builtin .append, args := #[s, x], argTypes := #[t, t] })
  (base : Nat) (e : TypeId) (i : TypeInfo) (z : Value) (size bytes : Nat) (ht : P.underlying t = some (.slice e)) (hi : P.info? e = some i) (hz : i.zero = some z)
  (hsize : i.size = size) (hby : i.bytes = bytes) (hzs : z.cells.size = size) (hsz : 0 < size)
  (v : Value) (n : Nat) (xs : List Value) (hs : a.eval s = v) (hown : w.ownsRow base e size v n xs)
  (Ax : Option Addr) (m c B : Nat) (news : List Value) (hx : a.eval x = .slice Ax m c) (hr : Reads w B size Ax m news) (h1 : ∀ u ∈ news, u.oneCell' = true)
  (h63 : n + m ≤ maxLen) (hbytes : (n + m) * bytes ≤ 140737488355328) (hbase : base ≤ w.heap.size) (N : Nat) (hN : n + m = N)
  (h : ∀ A' c' w', w'.ownsRow base e size (.slice A' N c') N (xs ++ news) → w.grownBy w' v.ownBlock → Sep w v (.slice A' N c') → K (a.put o.dst (.slice A' N c')) w') :
  if Region.wanted o (yielded ops a.tmps) = true then Oper.wp P o a w K Q else E := by
 subst hN
 have hw : Region.wanted o (yielded ops a.tmps) = true := by simp [Region.wanted, hgd]
 rw [qah hw]
 obtain ⟨v', w', hrun, h2, h3, h4⟩ := yd7 (P := P) w base t o.type e i z size bytes ht hi hz hsize hby hzs hsz v n xs hown Ax m c B news hr h1 h63 hbytes hbase
 obtain ⟨A2, c2, rfl, _, _⟩ := yag h2
 unfold Oper.wp execOp
 simp only [ho, resolve, invoke, builtin, Sem.run_bind, Sem.run_pure, Result.andThen_ok, List.map_toArray, qcr, List.map_nil, hs, hx, hrun]
 exact h A2 c2 w' h2 h3 h4
def lsy (l : List Nat) : List Int := l.map (fun s : Nat => (s : Int))
def LOk (ok : Nat → Prop) (A : Option Addr) (n : Nat) : Prop := 0 < n → ∃ b off, A = some ⟨b, off, none⟩ ∧ ok b
section
variable {W W' : World} {B B' n : Nat} {ok : Nat → Prop} {A : Option Addr} {R : List LTh}
theorem lok_own {base size c : Nat} {e : TypeId} {xs : List Value} (h : W.ownsRow base e size (.slice A n c) n xs) (hf : ∀ b, base ≤ b → ok b) : LOk ok A n := fun hn => by
 rcases h.2 with ⟨h1, h2⟩ | ⟨g, cap, cur, h1, hb, _⟩
 ·omega
 ·injection h1 with h1 _ _
  exact ⟨g, 0, h1, hf g hb⟩
end
def wsum (p : Nat → Nat → Bool) : Nat → List Nat → Nat
 | _, [] => 0
 | i, x :: t => (if p i x = true then 2 ^ (15 - x) else 0) + wsum p (i + 1) t
theorem yct {p q : Nat → Nat → Bool} : ∀ (l : List Nat) (i : Nat), (∀ j (h : j < l.length), p (i + j) l[j] = q (i + j) l[j]) → wsum p i l = wsum q i l
 | [], _, _ => rfl
 | x :: t, i, h => by
  have h0 := h 0 (by simp)
  have ih := yct (p := p) (q := q) t (i + 1) fun j hj => by
   have := h (j + 1) (by simpa using hj)
   rw [show i + (j + 1) = i + 1 + j from by omega] at this
   exact this
  simp only [qb0, List.getElem_cons_zero] at h0
  show (if p i x = true then _ else 0) + wsum p (i + 1) t = _
  rw [h0, ih]
  rfl
theorem wsum_le {p q : Nat → Nat → Bool} : ∀ (l : List Nat) (i : Nat), (∀ j (h : j < l.length), p (i + j) l[j] = true → q (i + j) l[j] = true) → wsum p i l ≤ wsum q i l
 | [], _, _ => qaf _
 | x :: t, i, h => by
  have h0 := h 0 (by simp)
  have ih := wsum_le (p := p) (q := q) t (i + 1) fun j hj => by
   have := h (j + 1) (by simpa using hj)
   rw [show i + (j + 1) = i + 1 + j from by omega] at this
   exact this
  simp only [qb0, List.getElem_cons_zero] at h0
  show (if p i x = true then _ else 0) + wsum p (i + 1) t ≤ (if q i x = true then _ else 0) + wsum q (i + 1) t
  by_cases hp : p i x = true
  ·rw [qah hp, qah (h0 hp)]; omega
  ·rw [qag hp]; omega
theorem wsum_two {p q : Nat → Nat → Bool} : ∀ (l : List Nat) (i k : Nat) (hk : k < l.length), (∀ j (h : j < l.length), p (i + j) l[j] = true → q (i + j) l[j] = true) → p (i + k) l[k] = false → q (i + k) l[k] = true → wsum p i l + 2 ^ (15 - l[k]) ≤ wsum q i l
 | x :: t, i, 0, _, h, hp, hq => by
  simp only [qb0, List.getElem_cons_zero] at hp hq
  have ih := wsum_le (p := p) (q := q) t (i + 1) fun j hj => by
   have := h (j + 1) (by simpa using hj)
   rw [show i + (j + 1) = i + 1 + j from by omega] at this
   exact this
  show (if p i x = true then _ else 0) + wsum p (i + 1) t + 2 ^ (15 - x) ≤ (if q i x = true then _ else 0) + wsum q (i + 1) t
  rw [qag (by rw [hp]; decide), qah hq]
  omega
 | x :: t, i, k + 1, hk, h, hp, hq => by
  have h0 := h 0 (by simp)
  simp only [qb0, List.getElem_cons_zero] at h0
  have ih := wsum_two (p := p) (q := q) t (i + 1) k (by simpa using hk) (fun j hj => by
   have := h (j + 1) (by simpa using hj)
   rw [show i + (j + 1) = i + 1 + j from by omega] at this
   exact this) (by rw [show i + (k + 1) = i + 1 + k from by omega] at hp; exact hp) (by rw [show i + (k + 1) = i + 1 + k from by omega] at hq; exact hq)
  show (if p i x = true then _ else 0) + wsum p (i + 1) t + 2 ^ (15 - t[k]'(by simpa using hk)) ≤ (if q i x = true then _ else 0) + wsum q (i + 1) t
  by_cases hp2 : p i x = true
  ·rw [qah hp2, qah (h0 hp2)]; omega
  ·rw [qag hp2]; omega
theorem wsum_one {p q : Nat → Nat → Bool} : ∀ (l : List Nat) (i k : Nat) (hk : k < l.length), (∀ j (h : j < l.length), j ≠ k → p (i + j) l[j] = q (i + j) l[j]) → p (i + k) l[k] = false → q (i + k) l[k] = true → wsum p i l + 2 ^ (15 - l[k]) = wsum q i l
 | x :: t, i, 0, _, h, hp, hq => by
  simp only [qb0, List.getElem_cons_zero] at hp hq
  have ih := yct (p := p) (q := q) t (i + 1) fun j hj => by
   have := h (j + 1) (by simpa using hj) (by omega)
   rw [show i + (j + 1) = i + 1 + j from by omega] at this
   exact this
  show (if p i x = true then _ else 0) + wsum p (i + 1) t + 2 ^ (15 - x) = (if q i x = true then _ else 0) + wsum q (i + 1) t
  rw [qag (by rw [hp]; decide), qah hq, ih]
  omega
 | x :: t, i, k + 1, hk, h, hp, hq => by
  have h0 := h 0 (by simp) (by omega)
  simp only [qb0, List.getElem_cons_zero] at h0
  have ih := wsum_one (p := p) (q := q) t (i + 1) k (by simpa using hk) (fun j hj hne => by
   have := h (j + 1) (by simpa using hj) (by omega)
   rw [show i + (j + 1) = i + 1 + j from by omega] at this
   exact this) (by rw [show i + (k + 1) = i + 1 + k from by omega] at hp; exact hp) (by rw [show i + (k + 1) = i + 1 + k from by omega] at hq; exact hq)
  show (if p i x = true then _ else 0) + wsum p (i + 1) t + 2 ^ (15 - t[k]'(by simpa using hk)) = (if q i x = true then _ else 0) + wsum q (i + 1) t
  rw [h0]
  omega
theorem wsum_dvd {p : Nat → Nat → Bool} (n : Nat) (hn : n ≤ 15) : ∀ (l : List Nat) (i : Nat), (∀ j (h : j < l.length), p (i + j) l[j] = true → l[j] ≤ n) → 2 ^ (15 - n) ∣ wsum p i l
 | [], _, _ => ⟨0, rfl⟩
 | x :: t, i, h => by
  have h0 := h 0 (by simp)
  simp only [qb0, List.getElem_cons_zero] at h0
  have ih := wsum_dvd (p := p) n hn t (i + 1) fun j hj => by
   have := h (j + 1) (by simpa using hj)
   rw [show i + (j + 1) = i + 1 + j from by omega] at this
   exact this
  show 2 ^ (15 - n) ∣ (if p i x = true then _ else 0) + wsum p (i + 1) t
  refine Nat.dvd_add ?_ ih
  by_cases hp : p i x = true
  ·rw [qah hp]
   exact Nat.pow_dvd_pow 2 (by have := h0 hp; omega)
  ·rw [qag hp]
   exact ⟨0, rfl⟩
def call (ls : List Nat) : Nat := wsum (fun _ x => decide (0 < x)) 0 ls
def cpos (ls : List Nat) (n s : Nat) : Nat := wsum (fun j x => decide (0 < x) && (decide (x < n) || (decide (x = n) && decide (j < s)))) 0 ls
section
variable {ls : List Nat}
theorem ycP (s : Nat) : cpos ls 0 s = 0 := by
 have h : ∀ (l : List Nat) (i : Nat), wsum (fun j x => decide (0 < x) && (decide (x < 0) || (decide (x = 0) && decide (j < s)))) i l = 0 := by
  intro l
  induction l with
  | nil => intro i; rfl
  | cons x t ih =>
   intro i
   show (if _ then _ else 0) + wsum _ (i + 1) t = 0
   rw [ih (i + 1), qag (by simp; omega)]
 exact h ls 0
theorem yez (n s : Nat) (h : ls.length ≤ s) : cpos ls n s = cpos ls (n + 1) 0 := by
 refine yct ls 0 fun j hj => ?_
 rw [qaL]
 by_cases h1 : ls[j] < n
 ·simp [h1, show ls[j] < n + 1 by omega]
 ·by_cases h2 : ls[j] = n
  ·simp [h2, show j < s by omega]
  ·simp [h1, h2, show ¬ ls[j] < n + 1 by omega]
theorem ygK (n s : Nat) (h : ∀ hs : s < ls.length, ls[s] ≠ n) : cpos ls n (s + 1) = cpos ls n s := by
 refine yct ls 0 fun j hj => ?_
 rw [qaL]
 by_cases h2 : ls[j] = n
 ·by_cases e : j = s
  ·subst e; exact absurd h2 (h hj)
  ·simp [h2, show (j < s + 1) = (j < s) from by simp; omega]
 ·simp [h2]
theorem cpos_step (n s : Nat) (hs : s < ls.length) (h : ls[s] = n) (hn : 0 < n) : cpos ls n (s + 1) = cpos ls n s + 2 ^ (15 - n) := by
 have := wsum_one (p := fun j x => decide (0 < x) && (decide (x < n) || (decide (x = n) && decide (j < s)))) (q := fun j x => decide (0 < x) && (decide (x < n) || (decide (x = n) && decide (j < s + 1)))) ls 0 s hs (fun j hj hne => by
  rw [qaL]
  simp only [show decide (j < s + 1) = decide (j < s) from by simp; omega]) (by simp [h]) (by simp [h, hn])
 rw [h] at this
 exact this.symm
theorem cpos_dvd (n s : Nat) (hn : n ≤ 15) : 2 ^ (15 - n) ∣ cpos ls n s := wsum_dvd n hn ls 0 fun j hj h => by
 simp only [qbH, Bool.or_eq_true, qch] at h
 omega
theorem ybG (n s n' s' : Nat) (hs : s < ls.length) (h : ls[s] = n) (hn : 0 < n) (hl : n < n' ∨ (n = n' ∧ s < s')) : cpos ls n s + 2 ^ (15 - n) ≤ cpos ls n' s' := by
 have := wsum_two (p := fun j x => decide (0 < x) && (decide (x < n) || (decide (x = n) && decide (j < s)))) (q := fun j x => decide (0 < x) && (decide (x < n') || (decide (x = n') && decide (j < s')))) ls 0 s hs (fun j hj hp => by
  rw [qaL] at *
  simp only [qbH, Bool.or_eq_true, qch] at hp ⊢
  omega) (by simp [h]) (by
  rw [qaL, h]
  simp only [qbH, Bool.or_eq_true, qch]
  omega)
 rw [h] at this
 exact this
theorem cpos_all (n s : Nat) (hs : s < ls.length) (h : ls[s] = n) (hn : 0 < n) : cpos ls n s + 2 ^ (15 - n) ≤ call ls := by
 have := wsum_two (p := fun j x => decide (0 < x) && (decide (x < n) || (decide (x = n) && decide (j < s)))) (q := fun _ x => decide (0 < x)) ls 0 s hs (fun j hj hp => by
  simp only [qbH] at hp
  exact hp.1) (by simp [h]) (by simp [h, hn])
 rw [h] at this
 exact this
theorem cpos_end (h : ∀ x ∈ ls, x ≤ 15) : cpos ls 16 0 = call ls := by
 refine yct ls 0 fun j hj => ?_
 have := h ls[j] (qaq hj)
 simp [show ls[j] < 16 by omega]
theorem yeu (v : Nat) : ∀ n s, v < cpos ls n s → ∃ k, ∃ hk : k < ls.length, 0 < ls[k] ∧ cpos ls ls[k] k ≤ v ∧ v < cpos ls ls[k] k + 2 ^ (15 - ls[k])
 | 0, s, h => by rw [ycP] at h; omega
 | n + 1, 0, h => by
  rw [← yez n ls.length (qaf _)] at h
  exact yeu v n ls.length h
 | n + 1, s + 1, h => by
  by_cases hs : ∃ hs : s < ls.length, ls[s] = n + 1
  ·obtain ⟨hs, e⟩ := hs
   rw [cpos_step (n + 1) s hs e (by omega)] at h
   by_cases hv : v < cpos ls (n + 1) s
   ·exact yeu v (n + 1) s hv
   ·exact ⟨s, hs, by omega, by rw [e]; omega, by rw [e]; exact h⟩
  ·rw [ygK (n + 1) s fun hs2 e => hs ⟨hs2, e⟩] at h
   exact yeu v (n + 1) s h
termination_by n s => (n, s)
theorem cpos_only (v k k' : Nat) (hk : k < ls.length) (hk' : k' < ls.length) (h : 0 < ls[k]) (h' : 0 < ls[k']) (a : cpos ls ls[k] k ≤ v ∧ v < cpos ls ls[k] k + 2 ^ (15 - ls[k])) (b : cpos ls ls[k'] k' ≤ v ∧ v < cpos ls ls[k'] k' + 2 ^ (15 - ls[k'])) : k = k' := by
 rcases qc2 ls[k] ls[k'] with e | e | e
 ·have := ybG ls[k] k ls[k'] k' hk rfl h (qas e)
  omega
 ·rcases qc2 k k' with e2 | e2 | e2
  ·have := ybG ls[k] k ls[k'] k' hk rfl h (qaK ⟨e, e2⟩)
   omega
  ·exact e2
  ·have := ybG ls[k'] k' ls[k] k hk' rfl h' (qaK ⟨e.symm, e2⟩)
   omega
 ·have := ybG ls[k'] k' ls[k] k hk' rfl h' (qas e)
  omega
def yb7 (ls : List Nat) (n s : Nat) : Nat := cpos ls n s / 2 ^ (15 - n)
theorem ycs (n s : Nat) (hn : n ≤ 15) : yb7 ls n s * 2 ^ (15 - n) = cpos ls n s := Nat.div_mul_cancel (cpos_dvd n s hn)
theorem cword_lt (n s : Nat) (hs : s < ls.length) (h : ls[s] = n) (hn : 0 < n ∧ n ≤ 15) (hc : call ls ≤ 32768) : yb7 ls n s < 2 ^ n := by
 have h1 := cpos_all n s hs h hn.1
 have h2 := ycs (ls := ls) n s hn.2
 have h3 : (2 : Nat) ^ n * 2 ^ (15 - n) = 32768 := by rw [← qbJ, show n + (15 - n) = 15 from by omega]
 have h4 : 0 < (2 : Nat) ^ (15 - n) := qbf (by omega)
 rcases qbz (yb7 ls n s) (2 ^ n) with e | e
 ·exact e
 ·have := qcl (2 ^ (15 - n)) e
  omega
end
section
variable {w w' w'' : World} {g : Nat} {row : Option Nat}
theorem grow_refl (w : World) (row : Option Nat) : w.grownBy w row := ⟨rfl, rfl, rfl, qaf _, fun _ _ _ => rfl⟩
theorem grow_trans (h : w.grownBy w' row) (k : w'.grownBy w'' row) : w.grownBy w'' row :=
 ⟨k.os.trans h.os, k.tape.trans h.tape, k.output.trans h.output, qaG h.size k.size, fun i hi hr => (k.block i (qaZ hi h.size) hr).trans (h.block i hi hr)⟩
theorem grow_below {B : Nat} (h : Below B w w') (hB : w.heap.size ≤ B) : w.grownBy w' row := ⟨h.os, h.tape, h.output, h.size, fun i hi _ => h.block i (by omega)⟩
theorem ybE (h : w.grownBy w' (some g)) {p : Addr} (hp : p.block = g ∨ w.heap.size ≤ p.block) (u : Value) : w.grownBy (w'.setCell p u) (some g) :=
 ⟨h.os, h.tape, h.output, by have := h.size; simpa [World.setCell] using this, fun i hi hr => by
  have e : i ≠ p.block := by
   rcases hp with hp | hp
   ·exact fun e => hr (by rw [e, hp])
   ·omega
  exact (Below.heap_setCell _ _ _ _ e).trans (h.block i hi hr)⟩
theorem grow_alloc (h : w.grownBy w' row) (o : Obj) : w.grownBy (w'.alloc o) row := grow_trans h (World.grownBy_alloc w' o row)
theorem below_grow {B : Nat} (h : w.grownBy w' (some g)) (hB : B ≤ g) (hw : B ≤ w.heap.size) : Below B w w' := ⟨h.os, h.tape, h.output, h.size, fun i hi => h.block i (by omega) (fun e => by injection e with e; omega)⟩
theorem Blk.grow {b : Nat} {t : TypeId} {cs : Array Value} (h : Blk w b t cs) (hg : w.grownBy w' (some g)) (hb : b ≠ g) : Blk w' b t cs := (hg.block b h.lt (fun e => by injection e with e; exact hb e)).trans h
end
section
variable {w w' : World} {g : Nat} {t : TypeId} {cs : Array Value}
open Go.RowKit in
theorem grow_row (w : World) (g : Nat) (cs : Array Value) : w.grownBy (w.setRow g cs) (some g) :=
 ⟨rfl, rfl, rfl, by simp [World.setRow], fun k _ hk => setRow_other w g k cs (fun e => hk (by rw [e]))⟩
theorem Blk.row (h : Blk w g t cs) (cs' : Array Value) : Blk (w.setRow g cs') g t cs' := setRow_heap w g _ _ t _ h
end
def dig : Nat → Nat → List Nat
 | 0, _ => []
 | w + 1, n => dig w (n / 2) ++ [n % 2]
theorem yab : ∀ w n, (dig w n).length = w
 | 0, _ => rfl
 | w + 1, n => by simp [dig, yab w]
def Bin (l : List Nat) : Prop := ∀ d ∈ l, d < 2
theorem yeL : Bin [] := by simp [Bin]
theorem Bin.app {a b : List Nat} (h : Bin a) (k : Bin b) : Bin (a ++ b) := fun d hd => by
 rcases qbm.1 hd with hd | hd
 ·exact h d hd
 ·exact k d hd
theorem ycw : ∀ w n, Bin (dig w n)
 | 0, _ => yeL
 | w + 1, n => (ycw w (n / 2)).app fun d hd => by
  rw [qbZ] at hd
  omega
theorem ycA : ∀ (a b n : Nat), dig (a + b) n = dig a (n / 2 ^ b) ++ dig b n
 | a, 0, n => by simp [dig]
 | a, b + 1, n => by
  show dig (a + b) (n / 2) ++ [n % 2] = _
  rw [ycA a b (n / 2), qce, qbO 2, ← qaW, dig, qak]
theorem ye4 : ∀ w, dig w 0 = List.replicate w 0
 | 0 => rfl
 | w + 1 => by
  rw [dig, qcz, Nat.zero_div, ye4 w]
def num (l : List Nat) : Nat := l.foldl (fun s d => 2 * s + d) 0
theorem num_fold (l : List Nat) : ∀ s, l.foldl (fun s d => 2 * s + d) s = s * 2 ^ l.length + num l := by
 induction l with
 | nil => intro s; simp [num]
 | cons a t ih =>
  intro s
  have e : num (a :: t) = a * 2 ^ t.length + num t := by
   show (a :: t).foldl (fun s d => 2 * s + d) 0 = _
   rw [List.foldl_cons, ih]
   simp
  rw [List.foldl_cons, ih, e, qau, qaW]
  simp only [qcy]
  rw [qbO 2 s, qcm, qbO 2, qcn]
theorem ycl (a b : List Nat) : num (a ++ b) = num a * 2 ^ b.length + num b := by
 unfold num
 rw [List.foldl_append, num_fold]
 rfl
theorem yf6 (a : List Nat) (d : Nat) : num (a ++ [d]) = 2 * num a + d := by
 rw [ycl]
 simp [num]
 omega
theorem ydf : ∀ w n, num (dig w n) = n % 2 ^ w
 | 0, n => by simp [dig, num, Nat.mod_one]
 | w + 1, n => by
  rw [dig, yf6, ydf w, qaW, qbO (2 ^ w), Nat.mod_mul]
  omega
theorem Bin.snoc {l : List Nat} {d : Nat} (h : Bin (l ++ [d])) : Bin l ∧ d < 2 :=
 ⟨fun x hx => h x (by simp [hx]), h d (by simp)⟩
theorem snoc_of {n : Nat} {l : List Nat} (h : l.length = n + 1) : ∃ a d, l = a ++ [d] ∧ a.length = n := by
 have hne : l ≠ [] := by
  rintro rfl
  simp at h
 exact ⟨l.dropLast, l.getLast hne, (List.dropLast_concat_getLast hne).symm, by simp; omega⟩
theorem num_lt_of : ∀ (n : Nat) (l : List Nat), l.length = n → Bin l → num l < 2 ^ n
 | 0, l, h, _ => by
  rw [qaz.1 h]
  simp [num]
 | n + 1, l, h, hb => by
  obtain ⟨a, d, rfl, ha⟩ := snoc_of h
  have := num_lt_of n a ha hb.snoc.1
  have := hb.snoc.2
  rw [yf6, qaW]
  omega
theorem ye3 {l : List Nat} (h : Bin l) : num l < 2 ^ l.length := num_lt_of _ l rfl h
theorem ydh : ∀ (n : Nat) (l : List Nat), l.length = n → Bin l → dig n (num l) = l
 | 0, l, h, _ => by
  rw [qaz.1 h]
  rfl
 | n + 1, l, h, hb => by
  obtain ⟨a, d, rfl, ha⟩ := snoc_of h
  have h1 := ydh n a ha hb.snoc.1
  have := hb.snoc.2
  rw [yf6, dig, show (2 * num a + d) / 2 = num a from by omega, show (2 * num a + d) % 2 = d from by omega, h1]
theorem dig_num {l : List Nat} (h : Bin l) : dig l.length (num l) = l := ydh _ l rfl h
theorem dig_mid (a p c n : Nat) : ((dig (a + p + c) n).drop a).take p = dig p (n / 2 ^ c) := by
 rw [ycA (a + p) c, ycA a p, qak, qbF (yab _ _), qbT (yab _ _)]
def text : List Nat → List UInt8
 | [] => []
 | a :: t => UInt8.ofNat (num ((a :: t).take 8) * 2 ^ (8 - ((a :: t).take 8).length)) :: text (t.drop 7)
termination_by l => l.length
decreasing_by simp; omega
theorem yc5 : text [] = [] := by rw [text]
theorem ycJ (l : List Nat) (h : l ≠ []) : text l = UInt8.ofNat (num (l.take 8) * 2 ^ (8 - (l.take 8).length)) :: text (l.drop 8) := by
 cases l with
 | nil => exact absurd rfl h
 | cons a t => rw [text]; rfl
theorem ydp : ∀ (q : Nat) (A B : List Nat), A.length = 8 * q → text (A ++ B) = text A ++ text B
 | 0, A, B, h => by
  obtain rfl := qaz.1 (show A.length = 0 by omega)
  simp [yc5]
 | q + 1, A, B, h => by
  have hA : A ≠ [] := by
   rintro rfl
   simp at h
  rw [ycJ (A ++ B) (by simp [hA]), ycJ A hA, qbk (by omega), qaX (by omega), ydp q (A.drop 8) B (by simp; omega)]
  rfl
theorem yeG (B : List Nat) (h0 : 0 < B.length) (h8 : B.length ≤ 8) : text B = [UInt8.ofNat (num B * 2 ^ (8 - B.length))] := by
 rw [ycJ B (by rintro rfl; simp at h0), qa5 h8, qaO h8, yc5]
theorem yd5 : ∀ (n : Nat) (l : List Nat), l.length ≤ n → (text l).length = (l.length + 7) / 8
 | 0, l, h => by
  obtain rfl := qaz.1 (show l.length = 0 by omega)
  rw [yc5]
  rfl
 | n + 1, l, h => by
  by_cases hl : l = []
  ·subst hl
   rw [yc5]
   rfl
  ·have hpos : 0 < l.length := List.length_pos_iff.2 hl
   rw [ycJ l hl, qau, yd5 n _ (by simp; omega), qat]
   omega
theorem yc3 (l : List Nat) : (text l).length = (l.length + 7) / 8 := yd5 _ l (qaf _)
def fr (l : List Nat) : Nat := (8 - l.length % 8) % 8
theorem fr_lt (l : List Nat) : fr l < 8 := by unfold fr; omega
theorem text_new (R P : List Nat) (hR : fr R = 0) (h0 : 0 < P.length) (h8 : P.length ≤ 8) : text (R ++ P) = text R ++ [UInt8.ofNat (num P * 2 ^ (8 - P.length))] := by
 rw [ydp (R.length / 8) R P (by unfold fr at hR; omega), yeG P h0 h8]
theorem text_more (R P : List Nat) (f : Nat) (hR : fr R = f) (hf : 0 < f) (hb : Bin R) (hP : P.length ≤ f) :
  ∃ T b, text R = T ++ [b] ∧ text (R ++ P) = T ++ [UInt8.ofNat (b.toNat + num P * 2 ^ (f - P.length))] ∧ b.toNat % 2 ^ f = 0 := by
 have hf8 : f < 8 := by rw [← hR]; exact fr_lt R
 have hAl : (R.take (8 * (R.length / 8))).length = 8 * (R.length / 8) := by simp; omega
 have hBl : (R.drop (8 * (R.length / 8))).length = 8 - f := by simp; unfold fr at hR; omega
 have hsp := qax (8 * (R.length / 8)) R
 have hBb : Bin (R.drop (8 * (R.length / 8))) := fun d hd => hb d (qbt hd)
 generalize R.take (8 * (R.length / 8)) = A at *
 generalize R.drop (8 * (R.length / 8)) = B at *
 have hnB := ye3 hBb
 rw [hBl] at hnB
 have hsz : num B * 2 ^ f < 256 := by
  have h1 : num B * 2 ^ f < 2 ^ (8 - f) * 2 ^ f := qb6 hnB (qbf (by omega))
  rw [← qbJ, show 8 - f + f = 8 from by omega] at h1
  exact h1
 refine ⟨text A, UInt8.ofNat (num B * 2 ^ f), ?_, ?_, ?_⟩
 ·rw [← hsp, ydp _ A B hAl, yeG B (by omega) (by omega), hBl, show 8 - (8 - f) = f from by omega]
 ·rw [← hsp, qak, ydp _ A (B ++ P) hAl, yeG (B ++ P) (by rw [qae]; omega) (by rw [qae]; omega), ycl, qae, hBl,
   show 8 - (8 - f + P.length) = f - P.length from by omega, yaE _ hsz, qcy, qcm, ← qbJ, show P.length + (f - P.length) = f from by omega]
 ·rw [yaE _ hsz]
  exact Nat.mul_mod_left _ _
def yaf (s : List UInt8) : List Nat := s.flatMap fun b => dig 8 b.toNat
theorem ydZ (b : UInt8) (s : List UInt8) : yaf (b :: s) = dig 8 b.toNat ++ yaf s := rfl
theorem row_append (a b : List UInt8) : yaf (a ++ b) = yaf a ++ yaf b := by simp [yaf]
theorem yar (s : List UInt8) : (yaf s).length = 8 * s.length := by
 induction s with
 | nil => rfl
 | cons b s ih => rw [ydZ, qae, yab, ih, qau]; omega
theorem ycT : ∀ s, Bin (yaf s)
 | [] => yeL
 | b :: s => (ycw 8 b.toNat).app (ycT s)
theorem row_drop : ∀ (s : List UInt8) (q : Nat), (yaf s).drop (8 * q) = yaf (s.drop q)
 | s, 0 => by simp
 | [], q + 1 => by simp [yaf]
 | b :: s, q + 1 => by
  rw [ydZ, qbn, ← row_drop s q, show 8 * (q + 1) = 8 + 8 * q from by omega, ← qbh, qbF (yab _ _)]
theorem row_mid (s : List UInt8) (q r p : Nat) (hq : q < s.length) (hr : r + p ≤ 8) : ((yaf s).drop (8 * q + r)).take p = dig p (s[q].toNat / 2 ^ (8 - r - p)) := by
 rw [← qbh, row_drop, qa6 hq, ydZ, qaX (by rw [yab]; omega), qbk (by rw [qat, yab]; omega)]
 have := dig_mid r p (8 - r - p) s[q].toNat
 rwa [show r + p + (8 - r - p) = 8 from by omega] at this
theorem yfX : ∀ (n : Nat) (R : List Nat), R.length ≤ n → Bin R → yaf (text R) = R ++ List.replicate (fr R) 0
 | 0, R, h, _ => by
  obtain rfl := qaz.1 (show R.length = 0 by omega)
  rw [yc5]
  rfl
 | n + 1, R, h, hb => by
  by_cases hl : R = []
  ·subst hl
   rw [yc5]
   rfl
  ·have hpos : 0 < R.length := List.length_pos_iff.2 hl
   rw [ycJ R hl, ydZ, yfX n (R.drop 8) (by simp; omega) (fun d hd => hb d (qbt hd))]
   have hb8 : Bin (R.take 8) := fun d hd => hb d (qaV hd)
   have hnB := ye3 hb8
   have hl8 : (R.take 8).length ≤ 8 := by simp; omega
   have hsz : num (R.take 8) * 2 ^ (8 - (R.take 8).length) < 256 := by
    have h1 : num (R.take 8) * 2 ^ (8 - (R.take 8).length) < 2 ^ (R.take 8).length * 2 ^ (8 - (R.take 8).length) := qb6 hnB (qbf (by omega))
    rw [← qbJ, show (R.take 8).length + (8 - (R.take 8).length) = 8 from by omega] at h1
    exact h1
   rw [yaE _ hsz]
   have hd : dig 8 (num (R.take 8) * 2 ^ (8 - (R.take 8).length)) = R.take 8 ++ List.replicate (8 - (R.take 8).length) 0 := by
    have h1 := ycA (R.take 8).length (8 - (R.take 8).length) (num (R.take 8) * 2 ^ (8 - (R.take 8).length))
    rw [show (R.take 8).length + (8 - (R.take 8).length) = 8 from by omega, Nat.mul_div_cancel _ (qbf (by omega)), dig_num hb8] at h1
    rw [h1]
    congr 1
    have hz : num (dig (8 - (R.take 8).length) (num (R.take 8) * 2 ^ (8 - (R.take 8).length))) = 0 := by rw [ydf]; exact Nat.mul_mod_left _ _
    have h2 := dig_num (ycw (8 - (R.take 8).length) (num (R.take 8) * 2 ^ (8 - (R.take 8).length)))
    rw [hz, yab, ye4] at h2
    exact h2.symm
   rw [hd]
   by_cases h8 : 8 ≤ R.length
   ·rw [show (R.take 8).length = 8 from by simp; omega]
    simp only [qcc, List.replicate_zero, qa8]
    rw [← qak, qax]
    congr 2
    unfold fr
    simp
    omega
   ·rw [qa5 (by omega), qaO (by omega), qaS]
    have : fr ([] : List Nat) = 0 := rfl
    rw [this, List.replicate_zero, qa8]
    congr 2
    unfold fr
    omega
theorem row_text {R : List Nat} (h : Bin R) : yaf (text R) = R ++ List.replicate (fr R) 0 := yfX _ R (qaf _) h
def fits (n w : Int) : Prop := 0 ≤ w ∧ w ≤ 32 ∧ 0 ≤ n ∧ n < 2 ^ w.toNat
instance (n w : Int) : Decidable (fits n w) := by unfold fits; infer_instance
def digI (n w : Int) : List Nat := dig w.toNat n.toNat
def ybs (l : List Nat) (at_ w : Int) : Int × Int :=
 if w < 0 ∨ 32 < w then (0, 2) else if at_ + w > l.length then (0, 4) else ((num ((l.drop at_.toNat).take w.toNat) : Int), 0)
theorem yew : (prog.info? 3).map (fun i => (i.zero, i.size, i.bytes)) = some (some (.int .i64 0), 1, 8) := by kernel_rfl
theorem gints_zero (n : Nat) : madeCells #[.int .i64 0] n = (ints (List.replicate n 0)).toArray := by
 unfold ints
 apply Array.ext'
 simp [madeCells, Nat.mod_one]
 rw [qc0, qaC]
theorem yc0 (n : Int) (N : Nat) (hN : (N : Int) = n) (h : N ≤ 17592186044416) (w : World) :
  (Instr.makeSlice 28 (.int .i64 n) (.int .i64 n)).run prog w = .ok (.slice (some ⟨w.heap.size, 0, none⟩) N N) (w.alloc (.cells (ints (List.replicate N 0)).toArray 3)) := by
 subst hN
 rw [← gints_zero]
 exact run_make_row' (P := prog) 28 3 (.int .i64 0) 8 underlying28 yew rfl .i64 .i64 N (by omega) (by omega) w
theorem yaC (l : List Int) (k : Nat) (v : Int) : (ints l).toArray.setIfInBounds k (.int .i64 v) = (ints (l.set k v)).toArray := by
 rw [qab]
 simp [ints, qcs]
theorem ybz (l : List Int) : ∀ u ∈ ints l, u.oneCell' = true := by
 intro u hu
 obtain ⟨b, _, rfl⟩ := qbI.1 hu
 rfl
theorem yaY (a b : List Int) : ints (a ++ b) = ints a ++ ints b := by simp [ints]
theorem yap {w : World} {g n : Nat} {t : TypeId} {l : List Int} (h : Blk w g t (ints l).toArray) (hn : l.length = n) : Reads w w.heap.size 1 (some ⟨g, 0, none⟩) n (ints l) :=
 ⟨by rw [yac]; omega, fun _ => ⟨g, 0, rfl, h.lt, fun j u hu => by rw [qaL, h.cell]; simpa using hu⟩⟩
theorem yaJ {w : World} {g : Nat} {t : TypeId} {l : List Int} (h : Blk w g t (ints l).toArray) (k : Nat) (hk : k < l.length) : w.cell? ⟨g, k, none⟩ = some (.int .i64 l[k]) := by rw [h.cell, qan, yao l k hk]
theorem gcells_at {w : World} {A : Option Addr} {n : Nat} {l : List Int} (hr : Reads w w.heap.size 1 A n (ints l)) (hn : 0 < n) : ∃ b off, A = some ⟨b, off, none⟩ ∧ b < w.heap.size ∧ ∀ W, Below w.heap.size w W → ∀ k (hk : k < l.length), W.cell? ⟨b, off + k, none⟩ = some (.int .i64 l[k]) := by
 obtain ⟨b, off, e, hb, hc⟩ := hr.2 hn
 exact ⟨b, off, e, hb, fun W hW k hk => (hW.cell (p := ⟨b, off + k, none⟩) hb).trans (hc k _ (yao l k hk))⟩
theorem Reads.upto {w w' : World} {size n : Nat} {A : Option Addr} {xs : List Value} (h : Reads w w.heap.size size A n xs) (hb : Below w.heap.size w w') : Reads w' w'.heap.size size A n xs := (h.below hb).more hb.size
def LPost (w w' : World) (e : Ending) (F : List Int × Int) : Prop := ∃ A' c', e = .returned (.tuple #[.slice A' F.1.length c', .int .i64 F.2]) ∧ F.1.length ≤ c' ∧ Reads w' w'.heap.size 1 A' F.1.length (ints F.1) ∧ Below w.heap.size w w'
theorem lpost_none {w w' : World} {E : Int} (hb : Below w.heap.size w w') : LPost w w' (.returned (.tuple #[.slice none 0 0, .int .i64 E])) ([], E) := ⟨none, 0, rfl, qaf _, Reads.none_, hb⟩
theorem lpost_row {w w' : World} {l : List Int} {A : Option Addr} {k c : Nat} (hl : l.length = k) (hc : k ≤ c) (hr : Reads w' w'.heap.size 1 A k (ints l)) (hb : Below w.heap.size w w') : LPost w w' (.returned (.tuple #[.slice A k c, .int .i64 0])) (l, 0) := by
 subst hl
 exact ⟨A, c, rfl, hc, hr, hb⟩
theorem lpost_blk {w w' : World} {l : List Int} {g k : Nat} (hl : l.length = k) (hB : Blk w' g 3 (ints l).toArray) (hb : Below w.heap.size w w') : LPost w w' (.returned (.tuple #[.slice (some ⟨g, 0, none⟩) k k, .int .i64 0])) (l, 0) := lpost_row hl (qaf _) (yap hB hl) hb
theorem ybM {N : Nat} (W : World) (x : Int) (h : N ≤ W.heap.size) : (W.alloc (.cells #[.int .i64 x] 3)).ownsRow N 3 1 (.slice (some ⟨W.heap.size, 0, none⟩) 1 1) 1 (ints [x]) :=
 ⟨rfl, qaK ⟨W.heap.size, 1, #[.int .i64 x], rfl, h, Blk.new W _ _, qaf _, by unfold maxLen; omega, rfl, rfl⟩⟩
def rng (n : Nat) (f : Nat → Int) : List Int := (List.range n).map f
theorem ybJ (n : Nat) (f : Nat → Int) : (rng n f).length = n := by simp [rng]
theorem ycB (n : Nat) (f : Nat → Int) (k : Nat) (h : k < (rng n f).length) : (rng n f)[k] = f k := by simp [rng]
theorem rng_ext {n : Nat} {f g : Nat → Int} (h : ∀ k, k < n → f k = g k) : rng n f = rng n g := by
 unfold rng
 apply qc7
 intro k hk
 exact h k (qaU.1 hk)
theorem ygQ {n : Nat} {f g : Nat → Int} (k : Nat) (v : Int) (h : ∀ j, j < n → g j = if j = k then v else f j) : (rng n f).set k v = rng n g := by
 apply qbg
 ·rw [qbM, ybJ, ybJ]
 ·intro j h1 h2
  rw [ybJ] at h2
  rw [qcq, ycB, ycB, h j h2]
  by_cases e : k = j
  ·rw [qah e, qah e.symm]
  ·rw [qag e, qag fun h => e h.symm]
theorem rng_zero (n : Nat) : List.replicate n (0 : Int) = rng n fun _ => 0 := by
 apply qbg
 ·rw [ybJ, qaE]
 ·intro j h1 h2
  rw [ycB, qcf]
def bcnt (key : Nat → Nat) (row : List Nat) (k : Nat) : Nat := row.countP fun p => decide (key p = k)
def bsum (key : Nat → Nat) (row : List Nat) : Nat → Nat
 | 0 => 0
 | k + 1 => bsum key row k + bcnt key row k
def bk (key : Nat → Nat) (row : List Nat) (k : Nat) : List Nat := row.filter fun p => decide (key p = k)
def bks (key : Nat → Nat) (row : List Nat) : Nat → List Nat
 | 0 => []
 | m + 1 => bks key row m ++ bk key row m
theorem bk_len (key : Nat → Nat) (row : List Nat) (k : Nat) : (bk key row k).length = bcnt key row k := by
 unfold bk bcnt
 rw [List.countP_eq_length_filter]
theorem bks_len (key : Nat → Nat) (row : List Nat) : ∀ m, (bks key row m).length = bsum key row m
 | 0 => rfl
 | m + 1 => by
  show (bks key row m ++ bk key row m).length = bsum key row m + bcnt key row m
  rw [qae, bks_len key row m, bk_len]
theorem bks_mem (key : Nat → Nat) (row : List Nat) (p : Nat) : ∀ m, p ∈ bks key row m ↔ p ∈ row ∧ key p < m
 | 0 => by simp [bks]
 | m + 1 => by
  show p ∈ bks key row m ++ bk key row m ↔ _
  rw [qbm, bks_mem key row p m]
  unfold bk
  rw [qaT, qaR]
  constructor
  ·rintro (⟨a, b⟩ | ⟨a, b⟩)
   ·exact ⟨a, by omega⟩
   ·exact ⟨a, by omega⟩
  ·rintro ⟨a, b⟩
   by_cases e : key p = m
   ·exact qaK ⟨a, e⟩
   ·exact qas ⟨a, by omega⟩
theorem bks_pair {key : Nat → Nat} {row : List Nat} {R : Nat → Nat → Prop} (h : row.Pairwise R) : ∀ m, (bks key row m).Pairwise fun p q => key p < key q ∨ (key p = key q ∧ R p q)
 | 0 => qb8
 | m + 1 => by
  show (bks key row m ++ bk key row m).Pairwise _
  refine qa2.2 ⟨bks_pair h m, ?_, fun a ha b hb => ?_⟩
  ·have h1 : (bk key row m).Pairwise R := List.Pairwise.sublist List.filter_sublist h
   refine qbr (fun {a b} ha hb hab => qaK ⟨?_, hab⟩) h1
   unfold bk at ha hb
   rw [qaT, qaR] at ha hb
   rw [ha.2, hb.2]
  ·have h1 := (bks_mem key row a m).1 ha
   unfold bk at hb
   rw [qaT, qaR] at hb
   exact qas (by omega)
theorem ybX (key : Nat → Nat) (row : List Nat) (i k : Nat) : bcnt key (row.take i) k ≤ bcnt key row k := by
 unfold bcnt
 exact List.Sublist.countP_le (List.take_sublist _ _)
theorem yb1 (key : Nat → Nat) (row : List Nat) (i k : Nat) (hi : i < row.length) : bcnt key (row.take (i + 1)) k = bcnt key (row.take i) k + if key row[i] = k then 1 else 0 := by
 unfold bcnt
 rw [qap hi, qbK, List.countP_singleton]
 simp
theorem bcnt_room (key : Nat → Nat) (row : List Nat) (i : Nat) (hi : i < row.length) : bcnt key (row.take i) (key row[i]) < bcnt key row (key row[i]) := by
 have h1 := yb1 key row i (key row[i]) hi
 have h2 := ybX key row (i + 1) (key row[i])
 rw [qah rfl] at h1
 omega
theorem bcnt_le (key : Nat → Nat) (row : List Nat) (k : Nat) : bcnt key row k ≤ row.length := by
 unfold bcnt
 exact List.countP_le_length
theorem bsum_lt (key : Nat → Nat) (row : List Nat) : ∀ m, bsum key row m = row.countP fun p => decide (key p < m)
 | 0 => by
  unfold bsum
  symm
  rw [qc5]
  intro a _
  simp
 | m + 1 => by
  show bsum key row m + bcnt key row m = _
  rw [bsum_lt key row m]
  unfold bcnt
  induction row with
  | nil => rfl
  | cons a t ih =>
   simp only [qbG, qch]
   split <;> split <;> split <;> omega
theorem bsum_le (key : Nat → Nat) (row : List Nat) (m : Nat) : bsum key row m ≤ row.length := by
 rw [bsum_lt]
 exact List.countP_le_length
theorem ydr (key : Nat → Nat) (row : List Nat) (m : Nat) (h : ∀ p ∈ row, key p < m) : bsum key row m = row.length := by
 rw [bsum_lt, List.countP_eq_length]
 intro a ha
 exact qaP (h a ha)
theorem bsum_mono (key : Nat → Nat) (row : List Nat) (a b : Nat) (h : a ≤ b) : bsum key row a ≤ bsum key row b := by
 obtain ⟨d, rfl⟩ := Nat.exists_eq_add_of_le h
 induction d with
 | zero => exact qaf _
 | succ d ih =>
  have := ih (by omega)
  show bsum key row a ≤ bsum key row (a + d) + bcnt key row (a + d)
  omega
def bmid (key : Nat → Nat) (row : List Nat) (i : Nat) : Nat → List Int
 | 0 => []
 | m + 1 => bmid key row i m ++ (splc (bk key (row.take i) m) ++ List.replicate (bcnt key row m - bcnt key (row.take i) m) 0)
theorem yf8 (key : Nat → Nat) (row : List Nat) (i : Nat) : ∀ m, (bmid key row i m).length = bsum key row m
 | 0 => rfl
 | m + 1 => by
  have h := ybX key row i m
  show (bmid key row i m ++ (splc (bk key (row.take i) m) ++ List.replicate (bcnt key row m - bcnt key (row.take i) m) 0)).length = bsum key row m + bcnt key row m
  rw [qae, qae, yf8 key row i m, yaq, bk_len, qaE]
  omega
theorem yg3 (key : Nat → Nat) (row : List Nat) : ∀ m, bmid key row 0 m = List.replicate (bsum key row m) 0
 | 0 => rfl
 | m + 1 => by
  show bmid key row 0 m ++ (splc (bk key (row.take 0) m) ++ List.replicate (bcnt key row m - bcnt key (row.take 0) m) 0) = List.replicate (bsum key row m + bcnt key row m) 0
  rw [yg3 key row m, qbb]
  simp [bk, bcnt, splc, qci]
theorem bmid_all (key : Nat → Nat) (row : List Nat) : ∀ m, bmid key row row.length m = splc (bks key row m)
 | 0 => rfl
 | m + 1 => by
  show bmid key row row.length m ++ (splc (bk key (row.take row.length) m) ++ List.replicate (bcnt key row m - bcnt key (row.take row.length) m) 0) = splc (bks key row m ++ bk key row m)
  rw [bmid_all key row m, qbQ, qcc, List.replicate_zero, qa8, yf3]
theorem bk_step (key : Nat → Nat) (row : List Nat) (i k : Nat) (hi : i < row.length) : bk key (row.take (i + 1)) k = bk key (row.take i) k ++ if key row[i] = k then [row[i]] else [] := by
 unfold bk
 rw [qap hi, qbq]
 by_cases e : key row[i] = k <;> simp [e]
theorem ygt (key : Nat → Nat) (row : List Nat) (i : Nat) (hi : i < row.length) : ∀ m, key row[i] < m → (bmid key row i m).set (bsum key row (key row[i]) + bcnt key (row.take i) (key row[i])) (row[i] : Nat) = bmid key row (i + 1) m
 | 0, h => absurd h (by omega)
 | m + 1, h => by
  have hr := bcnt_room key row i hi
  have hl := yf8 key row i m
  show (bmid key row i m ++ (splc (bk key (row.take i) m) ++ List.replicate (bcnt key row m - bcnt key (row.take i) m) 0)).set _ _ = bmid key row (i + 1) m ++ (splc (bk key (row.take (i + 1)) m) ++ List.replicate (bcnt key row m - bcnt key (row.take (i + 1)) m) 0)
  by_cases e : key row[i] = m
  ·have same : bmid key row (i + 1) m = bmid key row i m := by
    have go : ∀ q, q ≤ m → bmid key row (i + 1) q = bmid key row i q := by
     intro q
     induction q with
     | zero => intro _; rfl
     | succ q ih =>
      intro hq
      show bmid key row (i + 1) q ++ (splc (bk key (row.take (i + 1)) q) ++ List.replicate (bcnt key row q - bcnt key (row.take (i + 1)) q) 0) = bmid key row i q ++ (splc (bk key (row.take i) q) ++ List.replicate (bcnt key row q - bcnt key (row.take i) q) 0)
      rw [ih (by omega), bk_step key row i q hi, yb1 key row i q hi, qag (by omega), qag (by omega), qa8, qb0]
    exact go m (qaf _)
   rw [same, bk_step key row i m hi, yb1 key row i m hi, qah e, qah e]
   rw [e] at hr ⊢
   have hb := bk_len key (row.take i) m
   rw [qbY _ _ (by omega), hl, show bsum key row m + bcnt key (row.take i) m - bsum key row m = bcnt key (row.take i) m from by omega, qbY _ _ (by rw [yaq, hb]; exact qaf _), yaq, hb, qcc, show bcnt key row m - bcnt key (row.take i) m = (bcnt key row m - (bcnt key (row.take i) m + 1)) + 1 from by omega, qby, qad, yf3, qak]
   rfl
  ·have hkm : key row[i] < m := by omega
   have h2 := bsum_mono key row (key row[i] + 1) m (by omega)
   have h3 : bsum key row (key row[i] + 1) = bsum key row (key row[i]) + bcnt key row (key row[i]) := rfl
   rw [List.set_append_left _ _ (by omega), ygt key row i hi m hkm, bk_step key row i m hi, yb1 key row i m hi, qag e, qag e, qa8]
   rfl
def bmax (key : Nat → Nat) (row : List Nat) : Nat → Nat
 | 0 => 0
 | i + 1 => max (bmax key row i) (key (row.getD i 0))
theorem bmax_ge (key : Nat → Nat) (row : List Nat) : ∀ i j, j < i → key (row.getD j 0) ≤ bmax key row i
 | 0, j, h => by omega
 | i + 1, j, h => by
  show _ ≤ max (bmax key row i) (key (row.getD i 0))
  by_cases e : j = i
  ·subst e; omega
  ·have := bmax_ge key row i j (by omega)
   omega
theorem bmax_le (key : Nat → Nat) (row : List Nat) (B : Nat) (hB : ∀ p ∈ row, key p ≤ B) : ∀ i, i ≤ row.length → bmax key row i ≤ B
 | 0, _ => qbE _
 | i + 1, h => by
  have h1 := bmax_le key row B hB i (by omega)
  have h2 := hB row[i] (qaq (by omega))
  show max (bmax key row i) (key (row.getD i 0)) ≤ B
  rw [qar, qaj (by omega)]
  simp only [qbW]
  omega
theorem yf9 (key : Nat → Nat) (row : List Nat) : ∀ p ∈ row, key p < bmax key row row.length + 1 := by
 intro p hp
 obtain ⟨i, hi, rfl⟩ := qaI hp
 have := bmax_ge key row row.length i hi
 rw [qar, qaj hi] at this
 simp only [qbW] at this
 omega
def bn1 (key : Nat → Nat) (row : List Nat) (m i : Nat) : List Int := rng (m + 2) fun j => if j = 0 then 0 else (bcnt key (row.take i) (j - 1) : Nat)
def bn2 (key : Nat → Nat) (row : List Nat) (m k : Nat) : List Int := rng (m + 2) fun j => if j ≤ k then (bsum key row j : Nat) else (bcnt key row (j - 1) : Nat)
def bn3 (key : Nat → Nat) (row : List Nat) (m i : Nat) : List Int := rng (m + 2) fun j => if j ≤ m then (bsum key row j + bcnt key (row.take i) j : Nat) else (bcnt key row (j - 1) : Nat)
theorem bn1_zero (key : Nat → Nat) (row : List Nat) (m : Nat) : bn1 key row m 0 = List.replicate (m + 2) 0 := by
 rw [rng_zero]
 refine rng_ext fun j _ => ?_
 split
 ·rfl
 ·simp [bcnt]
theorem bn1_step (key : Nat → Nat) (row : List Nat) (m i : Nat) (hi : i < row.length) : (bn1 key row m i).set (key row[i] + 1) ((bcnt key (row.take i) (key row[i]) : Nat) + 1 : Int) = bn1 key row m (i + 1) := by
 refine ygQ _ _ fun j _ => ?_
 by_cases e : j = key row[i] + 1
 ·subst e
  rw [qah rfl, qag (by omega), qbL, yb1 key row i _ hi, qah rfl]
  omega
 ·rw [qag e]
  split
  ·rfl
  ·rw [yb1 key row i _ hi, qag (by omega)]
   omega
theorem bn1_all (key : Nat → Nat) (row : List Nat) (m : Nat) : bn1 key row m row.length = bn2 key row m 0 := by
 refine rng_ext fun j _ => ?_
 rw [qbQ]
 by_cases e : j = 0
 ·subst e; rfl
 ·rw [qag e, qag (by omega)]
theorem bn2_step (key : Nat → Nat) (row : List Nat) (m k : Nat) : (bn2 key row m k).set (k + 1) ((bcnt key row k : Nat) + (bsum key row k : Nat) : Int) = bn2 key row m (k + 1) := by
 refine ygQ _ _ fun j _ => ?_
 by_cases e : j = k + 1
 ·subst e
  rw [qah rfl, qah (qaf _), show bsum key row (k + 1) = bsum key row k + bcnt key row k from rfl]
  omega
 ·rw [qag e]
  by_cases h : j ≤ k
  ·rw [qah h, qah (by omega)]
  ·rw [qag h, qag (by omega)]
theorem bn2_all (key : Nat → Nat) (row : List Nat) (m : Nat) : bn2 key row m m = bn3 key row m 0 := by
 refine rng_ext fun j _ => ?_
 split
 ·simp [bcnt]
 ·rfl
theorem bn3_step (key : Nat → Nat) (row : List Nat) (m i : Nat) (hi : i < row.length) (hk : key row[i] ≤ m) : (bn3 key row m i).set (key row[i]) ((bsum key row (key row[i]) + bcnt key (row.take i) (key row[i]) : Nat) + 1 : Int) = bn3 key row m (i + 1) := by
 refine ygQ _ _ fun j _ => ?_
 by_cases e : j = key row[i]
 ·subst e
  rw [qah rfl, qah hk, yb1 key row i _ hi, qah rfl]
  omega
 ·rw [qag e, yb1 key row i _ hi, qag (show ¬ key row[i] = j from fun h => e h.symm)]
  rfl
theorem bn1_get (key : Nat → Nat) (row : List Nat) (m i k : Nat) (h : k + 1 < (bn1 key row m i).length) : (bn1 key row m i)[k + 1] = (bcnt key (row.take i) k : Nat) :=
 (ycB _ _ _ h).trans (by rw [qag (by omega), qbL])
theorem bn2_get1 (key : Nat → Nat) (row : List Nat) (m k : Nat) (h : k + 1 < (bn2 key row m k).length) : (bn2 key row m k)[k + 1] = (bcnt key row k : Nat) :=
 (ycB _ _ _ h).trans (by rw [qag (by omega), qbL])
theorem bn2_get0 (key : Nat → Nat) (row : List Nat) (m k : Nat) (h : k < (bn2 key row m k).length) : (bn2 key row m k)[k] = (bsum key row k : Nat) :=
 (ycB _ _ _ h).trans (by rw [qah (qaf _)])
theorem bn3_get (key : Nat → Nat) (row : List Nat) (m i k : Nat) (hk : k ≤ m) (h : k < (bn3 key row m i).length) : (bn3 key row m i)[k] = (bsum key row k + bcnt key (row.take i) k : Nat) :=
 (ycB _ _ _ h).trans (by rw [qah hk])
theorem bn1_len (key : Nat → Nat) (row : List Nat) (m i : Nat) : (bn1 key row m i).length = m + 2 := ybJ _ _
theorem bn2_len (key : Nat → Nat) (row : List Nat) (m i : Nat) : (bn2 key row m i).length = m + 2 := ybJ _ _
theorem bn3_len (key : Nat → Nat) (row : List Nat) (m i : Nat) : (bn3 key row m i).length = m + 2 := ybJ _ _
theorem bplace_lt (key : Nat → Nat) (row : List Nat) (i : Nat) (hi : i < row.length) : bsum key row (key row[i]) + bcnt key (row.take i) (key row[i]) < row.length := by
 have h1 := bcnt_room key row i hi
 have h2 := bsum_le key row (key row[i] + 1)
 have h3 : bsum key row (key row[i] + 1) = bsum key row (key row[i]) + bcnt key row (key row[i]) := rfl
 omega
def knum (row : List Nat) (sm : Nat → Nat → Bool) : Nat → Nat → Nat
 | 0 => fun _ => 0
 | i + 1 => fun p => if i + 1 < row.length ∧ p = row.getD (i + 1) 0 then knum row sm i (row.getD i 0) + (if sm (row.getD i 0) (row.getD (i + 1) 0) = true then 0 else 1) else knum row sm i p
def kN (row : List Nat) (sm : Nat → Nat → Bool) : Nat → Nat
 | 0 => 0
 | i + 1 => kN row sm i + (if sm (row.getD i 0) (row.getD (i + 1) 0) = true then 0 else 1)
theorem yey {l : List Nat} (k : Nat) (hk : k < l.length) : l.getD k 0 = l[k] := by rw [qar, qaj hk]; rfl
theorem knum_at {row : List Nat} (hn : row.Nodup) (sm : Nat → Nat → Bool) : ∀ (i j : Nat) (hj : j < row.length), j ≤ i → knum row sm i row[j] = kN row sm j
 | 0, j, hj, h => by
  obtain rfl : j = 0 := by omega
  rfl
 | i + 1, j, hj, h => by
  show (if i + 1 < row.length ∧ row[j] = row.getD (i + 1) 0 then knum row sm i (row.getD i 0) + (if sm (row.getD i 0) (row.getD (i + 1) 0) = true then 0 else 1) else knum row sm i row[j]) = _
  by_cases e : j = i + 1
  ·subst e
   rw [qah ⟨hj, (yey _ hj).symm⟩, yey i (by omega), knum_at hn sm i i (by omega) (qaf _)]
   show _ = kN row sm i + _
   rw [yey i (by omega)]
  ·rw [qag ?_, knum_at hn sm i j hj (by omega)]
   rintro ⟨h1, h2⟩
   rw [yey _ h1] at h2
   exact e (ybg hn hj h1 h2)
theorem kN_le (row : List Nat) (sm : Nat → Nat → Bool) : ∀ i, kN row sm i ≤ i
 | 0 => qaf _
 | i + 1 => by
  have := kN_le row sm i
  show kN row sm i + _ ≤ _
  split <;> omega
theorem ygu (row : List Nat) (sm : Nat → Nat → Bool) (i : Nat) : ∀ d, kN row sm i ≤ kN row sm (i + d)
 | 0 => qaf _
 | d + 1 => by
  have := ygu row sm i d
  show _ ≤ kN row sm (i + d) + _
  omega
def pre (s : List UInt8) (h p : Nat) : List UInt8 := (s.drop p).take h
theorem pre_len (s : List UInt8) (h p : Nat) : (pre s h p).length = min h (s.length - p) := by
 unfold pre
 rw [qao, qat]
theorem pre_room {s : List UInt8} {h p q : Nat} (hp : p ≤ s.length) (hq : q ≤ s.length) (hne : p ≠ q) (he : pre s h p = pre s h q) : p + h ≤ s.length ∧ q + h ≤ s.length := by
 have := qbD List.length he
 rw [pre_len, pre_len] at this
 omega
theorem yeg : ∀ (h k : Nat) (x y : List UInt8), Op.bytesLess (x.take (h + k)) (y.take (h + k)) = true ↔ Op.bytesLess (x.take h) (y.take h) = true ∨ (x.take h = y.take h ∧ Op.bytesLess ((x.drop h).take k) ((y.drop h).take k) = true)
 | 0, k, x, y => by
  rw [qaL, qbb, qbb, ycZ]
  simp
 | h + 1, k, [], [] => by simp [ycZ]
 | h + 1, k, [], b :: y => by
  rw [show h + 1 + k = (h + k) + 1 from by omega]
  simp [Op.bytesLess]
 | h + 1, k, a :: x, [] => by
  simp [ycZ]
 | h + 1, k, a :: x, b :: y => by
  rw [show h + 1 + k = (h + k) + 1 from by omega]
  simp only [qaJ, qbn]
  rw [ydV, ydV, yeg h k x y]
  constructor
  ·rintro (h1 | ⟨rfl, h1 | ⟨h2, h3⟩⟩)
   ·exact qas (qas h1)
   ·exact qas (qaK ⟨rfl, h1⟩)
   ·exact qaK ⟨by rw [h2], h3⟩
  ·rintro ((h1 | ⟨rfl, h1⟩) | ⟨h1, h2⟩)
   ·exact qas h1
   ·exact qaK ⟨rfl, qas h1⟩
   ·injection h1 with h3 h4
    exact qaK ⟨h3, qaK ⟨h4, h2⟩⟩
theorem pre_less (s : List UInt8) (h k p q : Nat) : Op.bytesLess (pre s (h + k) p) (pre s (h + k) q) = true ↔ Op.bytesLess (pre s h p) (pre s h q) = true ∨ (pre s h p = pre s h q ∧ Op.bytesLess (pre s k (p + h)) (pre s k (q + h)) = true) := by
 unfold pre
 rw [yeg, qbh, qbh]
theorem pre_add (s : List UInt8) (h k p : Nat) : pre s (h + k) p = pre s h p ++ pre s k (p + h) := by
 unfold pre
 rw [qco, qbh]
theorem pre_more {s : List UInt8} {h k p q : Nat} (h1 : pre s h p = pre s h q) (h2 : pre s k (p + h) = pre s k (q + h)) : pre s (h + k) p = pre s (h + k) q := by
 rw [pre_add, pre_add, h1, h2]
theorem pre_fst {s : List UInt8} {h k p q : Nat} (h1 : pre s (h + k) p = pre s (h + k) q) : pre s h p = pre s h q := by
 have := qbD (List.take h) h1
 unfold pre at this ⊢
 rwa [List.take_take, List.take_take, qbi (by omega)] at this
theorem pre_snd {s : List UInt8} {h k p q : Nat} (h1 : pre s (h + k) p = pre s (h + k) q) : pre s k (p + h) = pre s k (q + h) := by
 have h2 := pre_fst h1
 rw [pre_add, pre_add, h2] at h1
 exact List.append_cancel_left h1
theorem pre_slt {s : List UInt8} {h p q : Nat} (h1 : Op.bytesLess (pre s h p) (pre s h q) = true) : slt s p q = true := by
 have := (pre_less s h s.length p q).2 (qas h1)
 unfold pre at this
 rwa [qa5 (by rw [qat]; omega), qa5 (by rw [qat]; omega)] at this
theorem ygA {s : List UInt8} {h p q : Nat} (h1 : ¬ Op.bytesLess (pre s h p) (pre s h q) = true) (h2 : ¬ Op.bytesLess (pre s h q) (pre s h p) = true) : pre s h p = pre s h q := by
 by_cases e : pre s h p = pre s h q
 ·exact e
 ·rcases ygS _ _ e with h | h
  ·exact absurd h h1
  ·exact absurd h h2
structure SE (s : List UInt8) (h : Nat) (row : List Nat) (kd : Nat → Nat) : Prop where
 len : row.length = s.length + 1
 nodup : row.Nodup
 mem : ∀ p, p ∈ row ↔ p ≤ s.length
 lt : ∀ p q, p ≤ s.length → q ≤ s.length → (kd p < kd q ↔ Op.bytesLess (pre s h p) (pre s h q) = true)
 up : ∀ i j (hj : j < row.length) (hij : i < j), kd row[i] ≤ kd row[j]
 first : ∀ (h : 0 < row.length), kd row[0] = 0
 step : ∀ i (hi : i + 1 < row.length), kd row[i + 1] ≤ kd row[i] + 1
theorem SE.eq {s : List UInt8} {h : Nat} {row : List Nat} {kd : Nat → Nat} (S : SE s h row kd) (p q : Nat) (hp : p ≤ s.length) (hq : q ≤ s.length) : kd p = kd q ↔ pre s h p = pre s h q := by
 constructor
 ·intro e
  refine ygA (fun h1 => ?_) (fun h1 => ?_)
  ·have := (S.lt p q hp hq).2 h1
   omega
  ·have := (S.lt q p hq hp).2 h1
   omega
 ·intro e
  have h1 : ¬ kd p < kd q := fun h1 => by
   have := (S.lt p q hp hq).1 h1
   rw [e, ybF] at this
   cases this
  have h2 : ¬ kd q < kd p := fun h1 => by
   have := (S.lt q p hq hp).1 h1
   rw [e, ybF] at this
   cases this
  omega
theorem SE.le {s : List UInt8} {h : Nat} {row : List Nat} {kd : Nat → Nat} (S : SE s h row kd) (i : Nat) (hi : i < row.length) : kd row[i] ≤ i := by
 induction i with
 | zero => exact Nat.le_of_eq (S.first hi)
 | succ i ih =>
  have := ih (by omega)
  have := S.step i hi
  omega
theorem SE.bound {s : List UInt8} {h : Nat} {row : List Nat} {kd : Nat → Nat} (S : SE s h row kd) (p : Nat) (hp : p ≤ s.length) : kd p ≤ s.length := by
 obtain ⟨i, hi, rfl⟩ := qaI ((S.mem p).2 hp)
 have := S.le i hi
 have := S.len
 omega
theorem SE.room {s : List UInt8} {h : Nat} {row : List Nat} {kd : Nat → Nat} (S : SE s h row kd) (p q : Nat) (hp : p ≤ s.length) (hq : q ≤ s.length) (hne : p ≠ q) (he : kd p = kd q) : p + h ≤ s.length ∧ q + h ≤ s.length :=
 pre_room hp hq hne ((S.eq p q hp hq).1 he)
theorem SE.apart {s : List UInt8} {h : Nat} {row : List Nat} {kd : Nat → Nat} (S : SE s h row kd) (ha : kd (row.getD s.length 0) = s.length) : row = sarr s := by
 have hl := S.len
 rw [yey _ (by omega)] at ha
 have hge : ∀ d (hd : d ≤ s.length), s.length - d ≤ kd (row[s.length - d]'(by omega)) := by
  intro d
  induction d with
  | zero => intro _; exact Nat.le_of_eq ha.symm
  | succ d ih =>
   intro hd
   have h1 := ih (by omega)
   have h2 := S.step (s.length - (d + 1)) (by omega)
   simp only [show s.length - (d + 1) + 1 = s.length - d from by omega] at h2
   omega
 have hk : ∀ i (hi : i < row.length), kd row[i] = i := fun i hi => by
  have h1 := hge (s.length - i) (by omega)
  simp only [show s.length - (s.length - i) = i from by omega] at h1
  have h2 := S.le i hi
  omega
 refine slay_unique (yeZ s) row (ssort_of fun i j hi hj hij => ?_) fun p => by rw [S.mem]; omega
 have hi' := (S.mem _).1 (qaq hi)
 have hj' := (S.mem _).1 (qaq hj)
 exact pre_slt ((S.lt _ _ hi' hj').1 (by rw [hk i hi, hk j hj]; exact hij))
theorem SE.more {s : List UInt8} {h : Nat} {row : List Nat} {kd : Nat → Nat} (S : SE s h row kd) (ha : kd (row.getD s.length 0) ≠ s.length) : h < s.length := by
 have hl := S.len
 rw [yey _ (by omega)] at ha
 by_cases hex : ∃ i, ∃ hi : i + 1 < row.length, kd row[i] = kd row[i + 1]
 ·obtain ⟨i, hi, he⟩ := hex
  have h1 := (S.mem _).1 (qaq (show i < row.length by omega))
  have h2 := (S.mem _).1 (qaq hi)
  have hne : row[i] ≠ row[i + 1] := fun e => by
   have := ybg S.nodup (by omega) hi e
   omega
  have := S.room _ _ h1 h2 hne he
  omega
 ·exfalso
  apply ha
  have hk : ∀ i (hi : i < row.length), kd row[i] = i := by
   intro i
   induction i with
   | zero => intro hi; exact S.first hi
   | succ i ih =>
    intro hi
    have h1 := ih (by omega)
    have h2 := S.step i hi
    have h3 := S.up i (i + 1) hi (by omega)
    have h4 : kd row[i] ≠ kd row[i + 1] := fun e => hex ⟨i, hi, e⟩
    omega
  exact hk _ _
theorem se_of {s : List UInt8} {h : Nat} {row : List Nat} {sm : Nat → Nat → Bool} (hl : row.length = s.length + 1) (hn : row.Nodup) (hm : ∀ p, p ∈ row ↔ p ≤ s.length)
  (hs : row.Pairwise fun p q => Op.bytesLess (pre s h q) (pre s h p) = false)
  (hsm : ∀ i (hi : i + 1 < row.length), sm row[i] row[i + 1] = true ↔ pre s h row[i] = pre s h row[i + 1]) : SE s h row (knum row sm s.length) := by
 have hk : ∀ j (hj : j < row.length), knum row sm s.length row[j] = kN row sm j := fun j hj => knum_at hn sm _ j hj (by omega)
 have hsrt : ∀ i j (hi : i < row.length) (hj : j < row.length), i < j → Op.bytesLess (pre s h row[j]) (pre s h row[i]) = false := fun i j hi hj hij => qbd.1 hs i j hi hj hij
 have e1 : ∀ i d (hi : i + d < row.length), kN row sm i = kN row sm (i + d) → pre s h row[i] = pre s h row[i + d] := by
  intro i d
  induction d with
  | zero => intro _ _; rfl
  | succ d ih =>
   intro hi he
   have h1 := ygu row sm i d
   have h2 : kN row sm (i + (d + 1)) = kN row sm (i + d) + (if sm (row.getD (i + d) 0) (row.getD (i + d + 1) 0) = true then 0 else 1) := rfl
   rw [yey _ (show i + d < row.length by omega), yey _ (show i + d + 1 < row.length by omega)] at h2
   have h3 : sm row[i + d] row[i + d + 1] = true := by
    by_cases h3 : sm row[i + d] row[i + d + 1] = true
    ·exact h3
    ·rw [qag h3] at h2
     omega
   rw [qah h3] at h2
   rw [ih (by omega) (by omega)]
   exact (hsm (i + d) (by omega)).1 h3
 have e2 : ∀ i d (hi : i + d < row.length), pre s h row[i] = pre s h row[i + d] → kN row sm i = kN row sm (i + d) := by
  intro i d
  induction d with
  | zero => intro _ _; rfl
  | succ d ih =>
   intro hi he
   have hd : d = 0 ∨ 0 < d := by omega
   have h1 : pre s h row[i] = pre s h row[i + d] := by
    rcases hd with rfl | hd
    ·rfl
    ·have h1 := hsrt i (i + d) (by omega) (by omega) (by omega)
     have h2 := hsrt (i + d) (i + (d + 1)) (by omega) hi (by omega)
     rw [← he] at h2
     exact ygA (by rw [h2]; decide) (by rw [h1]; decide)
   have h2 : kN row sm (i + (d + 1)) = kN row sm (i + d) + (if sm (row.getD (i + d) 0) (row.getD (i + d + 1) 0) = true then 0 else 1) := rfl
   rw [yey _ (show i + d < row.length by omega), yey _ (show i + d + 1 < row.length by omega), qah ((hsm (i + d) (by omega)).2 (h1.symm.trans he))] at h2
   rw [h2, ih (by omega) h1]
   rfl
 refine ⟨hl, hn, hm, fun p q hp hq => ?_, fun i j hj hij => ?_, fun h0 => ?_, fun i hi => ?_⟩
 ·obtain ⟨i, hi, rfl⟩ := qaI ((hm p).2 hp)
  obtain ⟨j, hj, rfl⟩ := qaI ((hm q).2 hq)
  rw [hk i hi, hk j hj]
  rcases qc2 i j with hij | hij | hij
  ·obtain ⟨d, rfl⟩ : ∃ d, j = i + (d + 1) := ⟨j - i - 1, by omega⟩
   have hmn := ygu row sm i (d + 1)
   constructor
   ·intro h1
    by_cases h2 : Op.bytesLess (pre s h row[i]) (pre s h row[i + (d + 1)]) = true
    ·exact h2
    ·have h3 := hsrt i (i + (d + 1)) hi hj (by omega)
     have := e2 i (d + 1) hj (ygA h2 (by rw [h3]; decide))
     omega
   ·intro h1
    by_cases h2 : kN row sm i = kN row sm (i + (d + 1))
    ·rw [e1 i (d + 1) hj h2, ybF] at h1
     cases h1
    ·omega
  ·subst hij
   rw [ybF]
   simp
  ·obtain ⟨d, rfl⟩ := Nat.exists_eq_add_of_lt hij
   have hmn := ygu row sm j (d + 1)
   have h3 := hsrt j (j + d + 1) hj hi (by omega)
   rw [h3]
   simp only [Bool.false_eq_true, iff_false]
   rw [show j + d + 1 = j + (d + 1) from by omega]
   omega
 ·rw [hk i (by omega), hk j hj]
  obtain ⟨d, rfl⟩ := Nat.exists_eq_add_of_lt hij
  exact ygu row sm i (d + 1)
 ·rw [hk 0 h0]
  rfl
 ·rw [hk _ hi, hk i (by omega)]
  show kN row sm i + _ ≤ _
  split <;> omega
theorem slen_of {l : List Nat} {n : Nat} (hn : l.Nodup) (hm : ∀ p, p ∈ l ↔ p < n) : l.length = n := by
 have : l.Perm (List.range n) := by
  rw [List.perm_iff_count]
  intro p
  rw [hn.count, List.nodup_range.count]
  by_cases h : p < n
  ·rw [qah ((hm p).2 h), qah (qaU.2 h)]
  ·rw [qag fun h2 => h ((hm p).1 h2), qag fun h2 => h (qaU.1 h2)]
 have h2 := this.length_eq
 rwa [qaC] at h2
def yaX (s : List UInt8) (p : Nat) : Nat := (s.getD p 0).toNat
def frow (s : List UInt8) (M : Nat) : List Nat := s.length :: bks (yaX s) (List.range s.length) M
def yfy (s : List UInt8) (a b : Nat) : Bool := decide (a < s.length) && (s.getD a 0 == s.getD b 0)
theorem pre_one {s : List UInt8} {p : Nat} (h : p < s.length) : pre s 1 p = [s[p]] := by
 unfold pre
 rw [qa6 h]
 rfl
theorem pre_end (s : List UInt8) (h : Nat) : pre s h s.length = [] := by
 unfold pre
 rw [List.drop_length]
 simp
theorem fkey_at {s : List UInt8} {p : Nat} (h : p < s.length) : yaX s p = s[p].toNat := by
 unfold yaX
 rw [qar, qaj h]
 rfl
theorem se_first (s : List UInt8) (M : Nat) (hM : ∀ p ∈ List.range s.length, yaX s p < M) : SE s 1 (frow s M) (knum (frow s M) (yfy s) s.length) := by
 have hmem : ∀ p, p ∈ bks (yaX s) (List.range s.length) M ↔ p < s.length := fun p => by
  rw [bks_mem, qaU]
  exact ⟨fun h => h.1, fun h => ⟨h, hM p (qaU.2 h)⟩⟩
 have hp : (bks (yaX s) (List.range s.length) M).Pairwise fun p q => yaX s p < yaX s q ∨ (yaX s p = yaX s q ∧ p < q) := bks_pair List.pairwise_lt_range M
 have hnd : (bks (yaX s) (List.range s.length) M).Nodup := List.Pairwise.imp (fun {a b} h => by
  rintro rfl
  omega) hp
 have hm : ∀ p, p ∈ frow s M ↔ p ≤ s.length := fun p => by
  unfold frow
  rw [qaB, hmem]
  omega
 have hn : (frow s M).Nodup := List.nodup_cons.2 ⟨fun h => by have := (hmem _).1 h; omega, hnd⟩
 have hs : (frow s M).Pairwise fun p q => Op.bytesLess (pre s 1 q) (pre s 1 p) = false := by
  refine qa7.2 ⟨fun q hq => by rw [pre_end, ycZ], ?_⟩
  refine qbr (fun {a b} ha hb hab => ?_) hp
  have ha' := (hmem a).1 ha
  have hb' := (hmem b).1 hb
  rw [fkey_at ha', fkey_at hb'] at hab
  rw [pre_one ha', pre_one hb']
  cases h : Op.bytesLess [s[b]] [s[a]] with
  | false => rfl
  | true =>
   rw [ydV, ycZ] at h
   simp at h
   omega
 refine se_of (slen_of hn fun p => by rw [hm]; omega) hn hm hs fun i hi => ?_
 have h1 := (hm _).1 (qaq (show i < (frow s M).length by omega))
 have h2 : (frow s M)[i + 1] < s.length := by
  have := (hm _).1 (qaq hi)
  have hne : (frow s M)[i + 1] ≠ s.length := fun e => by
   have h0 : (frow s M)[0]'(by omega) = s.length := rfl
   have := ybg hn hi (show 0 < (frow s M).length by omega) (e.trans h0.symm)
   omega
  omega
 generalize (frow s M)[i] = a at *
 generalize (frow s M)[i + 1] = b at *
 unfold yfy
 rw [qbH, qaR, beq_iff_eq]
 rw [pre_one h2]
 by_cases e : a < s.length
 ·rw [pre_one e, qar, qaj e, qar, qaj h2]
  simp [e]
 ·obtain rfl : a = s.length := by omega
  rw [pre_end]
  simp
def yb6 (n h : Nat) : List Nat := List.range' (n + 1 - h) h
def yaK (row : List Nat) (h : Nat) : List Nat := (row.filter fun p => decide (h ≤ p)).map fun p => p - h
def ycf (row : List Nat) (n h : Nat) : List Nat := yb6 n h ++ yaK row h
def ygx (kd : Nat → Nat) (h a b : Nat) : Bool := (kd a == kd b) && (kd (a + h) == kd (b + h))
theorem ydo (n h p : Nat) (hh : h ≤ n) : p ∈ yb6 n h ↔ n < p + h ∧ p ≤ n := by
 unfold yb6
 rw [List.mem_range'_1]
 omega
theorem ydJ (row : List Nat) (h p : Nat) : p ∈ yaK row h ↔ p + h ∈ row := by
 unfold yaK
 rw [qbI]
 constructor
 ·rintro ⟨q, hq, rfl⟩
  rw [qaT, qaR] at hq
  rw [Nat.sub_add_cancel hq.2]
  exact hq.1
 ·intro hp
  exact ⟨p + h, qaT.2 ⟨hp, by simp⟩, by omega⟩
theorem se_next {s : List UInt8} {h : Nat} {row : List Nat} {kd : Nat → Nat} (S : SE s h row kd) (hh : h ≤ s.length) (h1 : 1 ≤ h) (M : Nat) (hM : ∀ p ∈ ycf row s.length h, kd p < M) :
  SE s (h + h) (bks kd (ycf row s.length h) M) (knum (bks kd (ycf row s.length h) M) (ygx kd h) s.length) := by
 have hm0 : ∀ p, p ∈ ycf row s.length h ↔ p ≤ s.length := fun p => by
  unfold ycf
  rw [qbm, ydo _ _ _ hh, ydJ, S.mem]
  omega
 have hp0 : (ycf row s.length h).Pairwise fun p q => p ≠ q ∧ (p + h ≤ s.length → q + h ≤ s.length → kd (p + h) ≤ kd (q + h)) := by
  refine qa2.2 ⟨?_, ?_, fun a ha b hb => ?_⟩
  ·refine qbr (R := fun a b => a < b) (fun {a b} ha hb hab => ⟨by omega, fun h2 => ?_⟩) List.pairwise_lt_range'
   have := (ydo _ _ _ hh).1 ha
   omega
  ·unfold yaK
   refine List.pairwise_map.2 ?_
   have hrow : row.Pairwise fun p q => p ≠ q ∧ kd p ≤ kd q := qbd.2 fun i j hi hj hij => ⟨fun e => by have := ybg S.nodup hi hj e; omega, S.up i j hj hij⟩
   refine qbr (fun {a b} ha hb hab => ?_) (List.Pairwise.sublist (List.filter_sublist (p := fun p => decide (h ≤ p))) hrow)
   rw [qaT, qaR] at ha hb
   refine ⟨fun e => hab.1 (by omega), fun _ _ => ?_⟩
   rw [Nat.sub_add_cancel ha.2, Nat.sub_add_cancel hb.2]
   exact hab.2
  ·have h2 := (ydo _ _ _ hh).1 ha
   have h3 := (S.mem _).1 ((ydJ _ _ _).1 hb)
   exact ⟨fun e => by omega, fun h4 => by omega⟩
 have hm : ∀ p, p ∈ bks kd (ycf row s.length h) M ↔ p ≤ s.length := fun p => by
  rw [bks_mem, hm0]
  exact ⟨fun h => h.1, fun h => ⟨h, hM p ((hm0 p).2 h)⟩⟩
 have hp := bks_pair (key := kd) hp0 M
 have hn : (bks kd (ycf row s.length h) M).Nodup := List.Pairwise.imp (fun {a b} h => by
  rintro rfl
  rcases h with h | ⟨_, h, _⟩
  ·omega
  ·exact h rfl) hp
 have hs : (bks kd (ycf row s.length h) M).Pairwise fun p q => Op.bytesLess (pre s (h + h) q) (pre s (h + h) p) = false := by
  refine qbr (fun {a b} ha hb hab => ?_) hp
  have ha' := (hm a).1 ha
  have hb' := (hm b).1 hb
  cases h5 : Op.bytesLess (pre s (h + h) b) (pre s (h + h) a) with
  | false => rfl
  | true =>
   exfalso
   rw [pre_less, ← S.lt b a hb' ha', ← S.eq b a hb' ha'] at h5
   rcases hab with h2 | ⟨h2, h3, h4⟩
   ·rcases h5 with h5 | ⟨h5, _⟩ <;> omega
   ·rcases h5 with h5 | ⟨_, h5⟩
    ·omega
    ·have hr := S.room a b ha' hb' h3 h2
     rw [← S.lt (b + h) (a + h) hr.2 hr.1] at h5
     have := h4 hr.1 hr.2
     omega
 refine se_of (slen_of hn fun p => by rw [hm]; omega) hn hm hs fun i hi => ?_
 have ha := (hm _).1 (qaq (show i < (bks kd (ycf row s.length h) M).length by omega))
 have hb := (hm _).1 (qaq hi)
 have hne : (bks kd (ycf row s.length h) M)[i] ≠ (bks kd (ycf row s.length h) M)[i + 1] := fun e => by
  have := ybg hn (by omega) hi e
  omega
 generalize (bks kd (ycf row s.length h) M)[i] = a at *
 generalize (bks kd (ycf row s.length h) M)[i + 1] = b at *
 unfold ygx
 rw [qbH, beq_iff_eq, beq_iff_eq]
 constructor
 ·rintro ⟨h2, h3⟩
  have hr := S.room a b ha hb hne h2
  exact pre_more ((S.eq a b ha hb).1 h2) ((S.eq _ _ hr.1 hr.2).1 h3)
 ·intro h2
  have h3 := pre_fst h2
  have hr := pre_room ha hb hne h3
  exact ⟨(S.eq a b ha hb).2 h3, (S.eq _ _ hr.1 hr.2).2 (pre_snd h2)⟩
def yfW (n k : Nat) : List Int := rng n fun j => if j < k then (j : Int) else 0
theorem supto_zero (n : Nat) : yfW n 0 = List.replicate n 0 := by
 rw [rng_zero]
 exact rng_ext fun j _ => qag (by omega)
theorem supto_step (n k : Nat) : (yfW n k).set k (k : Int) = yfW n (k + 1) := by
 refine ygQ _ _ fun j _ => ?_
 by_cases e : j = k
 ·subst e
  rw [qah rfl, qah (by omega)]
 ·rw [qag e]
  by_cases h : j < k
  ·rw [qah h, qah (by omega)]
  ·rw [qag h, qag (by omega)]
theorem supto_all (n : Nat) : yfW n n = splc (List.range n) := by
 apply qbg
 ·rw [yaq, qaC]
  exact ybJ _ _
 ·intro j h1 h2
  rw [yfF, qbp]
  have : j < n := by
   have := ybJ n (fun j => if j < n then (j : Int) else 0)
   have h3 : j < (rng n fun j => if j < n then (j : Int) else 0).length := h1
   omega
  exact (ycB _ _ _ h1).trans (qah this)
theorem s_upto_any (n : Nat) (w : World) (hm : n ≤ 1000001) :
  Calls prog 159 #[.int .i64 (n : Int)] w fun e w' => e = .returned (.slice (some ⟨w.heap.size, 0, none⟩) n n) ∧ Blk w' w.heap.size 3 (ints (splc (List.range n))).toArray ∧ Below w.heap.size w w' := by
 have hni : (n : Int) ≤ 1000001 := by omega
 have hmk := fun w => yc0 (n : Int) n rfl (by omega) w
 rw [← supto_zero] at hmk
 have HB0 := qaa (Blk.new w 3 (ints (yfW n 0)).toArray)
 have HO0 := qaa ((qam w.heap.size w).alloc (qaf _) (.cells (ints (yfW n 0)).toArray 3))
 have Hset : Hid (∀ k, (ints (yfW n k)).toArray.setIfInBounds k (.int .i64 (k : Int)) = (ints (yfW n (k + 1))).toArray) := qaa fun k => by rw [yaC, supto_step]
 have Hlen : Hid (∀ k, (yfW n k).length = n) := qaa fun k => ybJ _ _
 have Hall := qaa (supto_all n)
 generalize hg : w.heap.size = g at *
 go_enter func159, ntmps159
 go_wp2
 go_loopw [9] (fun i wr => ∃ k : Nat, k ≤ n ∧ i = .int .i64 k ∧ Hid (Blk wr g 3 (ints (yfW n k)).toArray) ∧ Hid (Below g w wr)) (fun i _ => n - (intOf i).toNat)
 case atStart => exact ⟨0, by omega, rfl, HB0, HO0⟩
 case round =>
  obtain ⟨k, hk, rfl, HB, HO⟩ := hrel
  clear HB0 HO0 hmk
  by_cases hlt : k < n
  ·have hki : (k : Int) < (n : Int) := by omega
   have x1 := yaJ HB.out k (by rw [Hlen.out k]; exact hlt)
   have x2 := HB.out.frozen k
   have hgl := HB.out.lt
   have Hs := qaa (Hset.out k)
   generalize (yfW n k)[k]'(by rw [Hlen.out k]; exact hlt) = v0 at x1
   go_wp2
   go_roundw
   case rel => exact ⟨k + 1, by omega, iv (by omega), qaa (by rw [← Hs.out]; exact HB.out.set_ k _), qaa (HO.out.setCell (p := ⟨g, k, none⟩) (qaf _) _)⟩
   case measure => simp only [intOf]; omega
  ·obtain rfl : k = n := by omega
   have hii : ¬ (k : Int) < (k : Int) := by omega
   have HF : Hid (Blk wr g 3 (ints (splc (List.range k))).toArray) := qaa (by rw [← Hall.out]; exact HB.out)
   go_wp2
   go_ret
   exact ⟨rfl, HF.out, HO.out⟩
def KRow (w : World) (k : IntKind) (key : Nat → Nat) (B : Option Addr) (m : Nat) (row : List Nat) : Prop :=
 ∀ p ∈ row, p < m ∧ ∃ b off, B = some ⟨b, off, none⟩ ∧ b < w.heap.size ∧ ∀ W, Below w.heap.size w W → W.cell? ⟨b, off + p, none⟩ = some (.int k (key p : Int))
theorem splc_at (l : List Nat) (i : Nat) (h : i < l.length) : (ints (splc l))[i]? = some (.int .i64 ((l[i] : Nat) : Int)) := by
 rw [yao _ i (by rw [yaq]; exact h), yfF]
theorem ydn {w : World} {A : Option Addr} {n : Nat} {row : List Nat} (hn : row.length = n) (hr : Reads w w.heap.size 1 A n (ints (splc row))) : ∀ W, Below w.heap.size w W → ∀ k (hk : k < row.length), ∃ b off, A = some ⟨b, off, none⟩ ∧ b < w.heap.size ∧ W.cell? ⟨b, off + k, none⟩ = some (.int .i64 ((row[k] : Nat) : Int)) := fun W hW k hk => by
 obtain ⟨b, off, e, hb, hc⟩ := hr.2 (by omega)
 exact ⟨b, off, e, hb, (hW.cell (p := ⟨b, off + k, none⟩) hb).trans (hc k _ (splc_at row k hk))⟩
theorem KRow.at {w : World} {K : IntKind} {key : Nat → Nat} {B : Option Addr} {m : Nat} {row : List Nat} (h : KRow w K key B m row) (hkey : ∀ p ∈ row, key p ≤ 1000000) : ∀ W, Below w.heap.size w W → ∀ k (hk : k < row.length), row[k] < m ∧ key row[k] ≤ 1000000 ∧ key row[k] ≤ bmax key row row.length ∧ ∃ b off, B = some ⟨b, off, none⟩ ∧ b < w.heap.size ∧ W.cell? ⟨b, off + row[k], none⟩ = some (.int K (key row[k] : Int)) := fun W hW k hk => by
 obtain ⟨h1, b, off, e, hb, hc⟩ := h _ (qaq hk)
 exact ⟨h1, hkey _ (qaq hk), by have := yf9 key row _ (qaq hk); omega, b, off, e, hb, hc W hW⟩
theorem bmax_step (key : Nat → Nat) (row : List Nat) (k : Nat) (hk : k < row.length) : bmax key row (k + 1) = max (bmax key row k) (key row[k]) := by
 show max (bmax key row k) (key (row.getD k 0)) = _
 rw [yey k hk]
theorem s_sorted_int (row : List Nat) (key : Nat → Nat) (A B : Option Addr) (n c m d : Nat) (w : World) (hn : row.length = n) (hm : n ≤ 1000001) (hkey : ∀ p ∈ row, key p ≤ 1000000) (hr : Reads w w.heap.size 1 A n (ints (splc row))) (hk : KRow w .i64 key B m row) :
  Calls prog 162 #[.slice A n c, .slice B m d] w fun e w' => ∃ g M, e = .returned (.slice (some ⟨g, 0, none⟩) n n) ∧ w.heap.size ≤ g ∧ (∀ p ∈ row, key p < M) ∧ Blk w' g 3 (ints (splc (bks key row M))).toArray ∧ Below w.heap.size w w' := by
 have hni : (n : Int) ≤ 1000001 := by omega
 have Hrow := qaa (ydn hn hr)
 have Hkey := qaa (hk.at fun p hp => qaG (hkey p hp) (by omega))
 have Hmx := qaa (bmax_le key row 1000000 hkey)
 have Hall := qaa (yf9 key row)
 have Hstep := qaa (bmax_step key row)
 have Hn := qaa hn
 have HB0 := qaa (qam w.heap.size w)
 have Hg0 : Hid (∀ W : World, Below w.heap.size w W → w.heap.size ≤ W.heap.size) := qaa fun W h => h.size
 clear hr hk hkey hn
 go_enter func162, ntmps162
 go_wp2
 go_loop [5, 18] (fun mx i => ∃ k : Nat, k ≤ n ∧ i = .int .i64 k ∧ mx = .int .i64 (bmax key row k : Nat)) (fun _ i => n - (intOf i).toNat)
 case atStart => exact ⟨0, by omega, rfl, rfl⟩
 case round =>
  obtain ⟨k, hk, rfl, rfl⟩ := hrel
  by_cases hlt : k < n
  ·have hki : (0 : Int) ≤ (k : Int) ∧ (k : Int) < (n : Int) := by omega
   have hkl : k < row.length := by rw [Hn.out]; exact hlt
   obtain ⟨b, off, rfl, hbl, x1⟩ := Hrow.out w HB0.out k hkl
   obtain ⟨hp, hx, _, b2, off2, rfl, hbl2, x2⟩ := Hkey.out w HB0.out k hkl
   have Hs := qaa (Hstep.out k hkl)
   generalize row[k] = p at *
   generalize key p = x at *
   generalize bmax key row k = mx at *
   have hpi : (0 : Int) ≤ (p : Int) ∧ (p : Int) < (m : Int) := by omega
   by_cases hgt : mx < x
   ·have hgi : (mx : Int) < (x : Int) := by omega
    go_wp2
    go_round
    case rel => exact ⟨k + 1, by omega, iv (by omega), iv (by rw [Hs.out]; omega)⟩
    case measure => simp only [intOf]; omega
   ·have hgi : ¬ (mx : Int) < (x : Int) := by omega
    go_wp2
    go_round
    case rel => exact ⟨k + 1, by omega, iv (by omega), iv (by rw [Hs.out]; omega)⟩
    case measure => simp only [intOf]; omega
  ·obtain rfl : k = n := by omega
   have hmx := Hmx.out k (by rw [Hn.out]; exact qaf _)
   have Hmxn : Hid (bmax key row row.length = bmax key row k) := qaa (by rw [Hn.out])
   generalize hMX : bmax key row k = mx at *
   have hmk := fun w => yc0 ((mx : Int) + 2) (mx + 2) (by omega) (by omega) w
   rw [← bn1_zero key row mx] at hmk
   have hmxi : (0 : Int) ≤ (mx : Int) ∧ (mx : Int) ≤ 1000000 := by omega
   have HB1 := qaa (Blk.new w 3 (ints (bn1 key row mx 0)).toArray)
   have HO1 := qaa ((qam w.heap.size w).alloc (qaf _) (.cells (ints (bn1 key row mx 0)).toArray 3))
   have hii : ¬ (k : Int) < (k : Int) := by omega
   generalize hg : w.heap.size = g at *
   go_wp2
   clear hmk
   go_loopw [34] (fun i wr => ∃ j : Nat, j ≤ k ∧ i = .int .i64 j ∧ Hid (Blk wr g 3 (ints (bn1 key row mx j)).toArray) ∧ Hid (Below g w wr)) (fun i _ => k - (intOf i).toNat)
   case atStart => exact ⟨0, by omega, rfl, HB1, HO1⟩
   case round =>
    obtain ⟨j, hj, rfl, HB, HO⟩ := hrel
    clear HB1 HO1
    by_cases hlt : j < k
    ·have hki : (0 : Int) ≤ (j : Int) ∧ (j : Int) < (k : Int) := by omega
     have hkl : j < row.length := by rw [Hn.out]; exact hlt
     obtain ⟨b, off, rfl, hbl, x1⟩ := Hrow.out wr HO.out j hkl
     obtain ⟨hp, hx, hxm, b2, off2, rfl, hbl2, x2⟩ := Hkey.out wr HO.out j hkl
     rw [Hmxn.out] at hxm
     have hlen : key row[j] + 1 < (bn1 key row mx j).length := by rw [bn1_len]; omega
     have x3 := yaJ HB.out (key row[j] + 1) hlen
     rw [bn1_get] at x3
     have x4 := HB.out.frozen (key row[j] + 1)
     have hc := qaG (ybX key row j (key row[j])) (bcnt_le key row (key row[j]))
     rw [Hn.out] at hc
     have Hs := qaa (bn1_step key row mx j hkl)
     have hgl := HB.out.lt
     clear hlen
     generalize bcnt key (row.take j) (key row[j]) = cc at *
     generalize hpp : row[j] = p at *
     generalize key p = x at *
     have hpi : (0 : Int) ≤ (p : Int) ∧ (p : Int) < (m : Int) := by omega
     have hci : (0 : Int) ≤ (cc : Int) ∧ (cc : Int) ≤ 1000001 := by omega
     have hxi : (0 : Int) ≤ (x : Int) ∧ (x : Int) ≤ (mx : Int) := by omega
     clear hpp
     go_wp2
     go_roundw
     case rel => exact ⟨j + 1, by omega, iv (by omega), qaa (by rw [← Hs.out, ← yaC]; exact HB.out.set_ (x + 1) _), qaa (HO.out.setCell (p := ⟨g, x + 1, none⟩) (qaf _) _)⟩
     case measure => simp only [intOf]; omega
    ·obtain rfl : j = k := by omega
     have hii : ¬ (j : Int) < (j : Int) := by omega
     have HB2 : Hid (Blk wr g 3 (ints (bn2 key row mx 0)).toArray) := qaa (by rw [← bn1_all, Hn.out]; exact HB.out)
     have HO2 := qaa HO.out
     clear HB HO
     go_wp2
     go_loopw [50] (fun i W => ∃ q : Nat, q ≤ mx ∧ i = .int .i64 q ∧ Hid (Blk W g 3 (ints (bn2 key row mx q)).toArray) ∧ Hid (Below g w W)) (fun i _ => mx - (intOf i).toNat)
     case atStart => exact ⟨0, by omega, rfl, HB2, HO2⟩
     case round =>
      obtain ⟨q, hq, rfl, HB, HO⟩ := hrel
      clear HB2 HO2
      by_cases hlt : q < mx
      ·have hki : (0 : Int) ≤ (q : Int) ∧ (q : Int) < (mx : Int) := by omega
       have x1 := yaJ HB.out (q + 1) (by rw [bn2_len]; omega)
       have x2 := yaJ HB.out q (by rw [bn2_len]; omega)
       rw [bn2_get1] at x1
       rw [bn2_get0] at x2
       have x4 := HB.out.frozen (q + 1)
       have hc := bcnt_le key row q
       have hc2 := bsum_le key row q
       rw [Hn.out] at hc hc2
       have Hs := qaa (bn2_step key row mx q)
       have hgl := HB.out.lt
       generalize bcnt key row q = cc at *
       generalize bsum key row q = cs at *
       have hci : (0 : Int) ≤ (cc : Int) ∧ (cc : Int) ≤ 1000001 ∧ (0 : Int) ≤ (cs : Int) ∧ (cs : Int) ≤ 1000001 := by omega
       go_wp2
       have hw1 : IntKind.i64.wrap ((q : Int) + 1) = (q : Int) + 1 := by rw [qai]; omega
       have hw2 : IntKind.i64.wrap ((cc : Int) + (cs : Int)) = (cc : Int) + (cs : Int) := by rw [qai]; omega
       have hb1 : 0 ≤ (q : Int) + 1 ∧ (q : Int) + 1 < (mx : Int) + 2 := by omega
       have hb0 : 0 ≤ (q : Int) ∧ (q : Int) < (mx : Int) + 2 := by omega
       refine qb1 11 (by kernel_rfl) (by kernel_rfl) ?_
       simp only [qaJ, qbb, qbn, qb9]
       change wpStill _ _ (World.drew _) (fun a' => wpList _ _ _ _ a' (World.drew _)) _ _
       repeat still_step
       refine qcv ?_
       go_wp2
       go_roundw
       case rel => exact ⟨q + 1, by omega, iv (by omega), qaa (by rw [← Hs.out, ← yaC]; exact HB.out.drew.set_ (q + 1) _), qaa (HO.out.drew.setCell (p := ⟨g, q + 1, none⟩) (qaf _) _)⟩
       case measure => simp only [intOf]; omega
      ·obtain rfl : q = mx := by omega
       have hii2 : ¬ (q : Int) < (q : Int) := by omega
       have HB3 : Hid (Blk wr g 3 (ints (bn3 key row q 0)).toArray) := qaa (by rw [← bn2_all]; exact HB.out)
       have HO3 := qaa HO.out
       have hmk2 := fun w => yc0 (j : Int) j rfl (by omega) w
       have e2 : List.replicate j 0 = bmid key row 0 (q + 1) := by
        rw [yg3, ydr key row (q + 1) (fun p hp => by have := Hall.out p hp; rw [Hmxn.out] at this; exact this), Hn.out]
       rw [e2] at hmk2
       clear HB HO
       have hgl := HB3.out.lt
       have HN := qaa (Blk.new wr 3 (ints (bmid key row 0 (q + 1))).toArray)
       have HB4 := qaa (HB3.out.alloc (.cells (ints (bmid key row 0 (q + 1))).toArray 3))
       have HO4 := qaa (HO3.out.alloc (Nat.le_of_lt hgl) (.cells (ints (bmid key row 0 (q + 1))).toArray 3))
       generalize hg2 : wr.heap.size = g2 at *
       clear HB3 HO3
       go_wp2
       clear hmk2 e2
       go_loopw [70] (fun i V => ∃ u : Nat, u ≤ j ∧ i = .int .i64 u ∧ Hid (Blk V g 3 (ints (bn3 key row q u)).toArray) ∧ Hid (Blk V g2 3 (ints (bmid key row u (q + 1))).toArray) ∧ Hid (Below g w V)) (fun i _ => j - (intOf i).toNat)
       case atStart => exact ⟨0, by omega, rfl, HB4, HN, HO4⟩
       case round =>
        obtain ⟨u, hu, rfl, HB, HC, HO⟩ := hrel
        clear HB4 HN HO4
        by_cases hlt : u < j
        ·have hki : (0 : Int) ≤ (u : Int) ∧ (u : Int) < (j : Int) := by omega
         have hkl : u < row.length := by rw [Hn.out]; exact hlt
         obtain ⟨b, off, rfl, hbl, x1⟩ := Hrow.out _ HO.out u hkl
         obtain ⟨hp, hx, hxm, b2, off2, rfl, hbl2, x2⟩ := Hkey.out _ HO.out u hkl
         rw [Hmxn.out] at hxm
         have hpl := bplace_lt key row u hkl
         rw [Hn.out] at hpl
         have x3 := yaJ HB.out (key row[u]) (by rw [bn3_len]; omega)
         rw [bn3_get key row q u _ hxm] at x3
         have x4 := HB.out.frozen (key row[u])
         have hml : (bmid key row u (q + 1)).length = j := by
          rw [yf8, ydr key row (q + 1) (fun p hp => by have := Hall.out p hp; rw [Hmxn.out] at this; exact this), Hn.out]
         have x5 := yaJ HC.out (bsum key row (key row[u]) + bcnt key (row.take u) (key row[u])) (by rw [hml]; exact hpl)
         have x6 := HC.out.frozen (bsum key row (key row[u]) + bcnt key (row.take u) (key row[u]))
         have Hs := qaa (bn3_step key row q u hkl hxm)
         have Hs2 := qaa (ygt key row u hkl (q + 1) (by omega))
         have hgl := HB.out.lt
         have hgl2 := HC.out.lt
         generalize (bmid key row u (q + 1))[bsum key row (key row[u]) + bcnt key (row.take u) (key row[u])]'(by rw [hml]; exact hpl) = vv at x5
         generalize bsum key row (key row[u]) + bcnt key (row.take u) (key row[u]) = at_ at *
         generalize hpp : row[u] = p at *
         generalize key p = x at *
         have hpi : (0 : Int) ≤ (p : Int) ∧ (p : Int) < (m : Int) := by omega
         have hci : (0 : Int) ≤ (at_ : Int) ∧ (at_ : Int) < (j : Int) := by omega
         have hxi : (0 : Int) ≤ (x : Int) ∧ (x : Int) ≤ (q : Int) := by omega
         have hne : g ≠ g2 := by omega
         have hne2 : g2 ≠ g := by omega
         clear hpp hml
         go_wp2
         go_roundw
         case rel => exact ⟨u + 1, by omega, iv (by omega), qaa (by rw [← Hs.out, ← yaC]; exact (HB.out.far (p := ⟨g2, at_, none⟩) hne _).set_ x _), qaa (by rw [← Hs2.out, ← yaC]; exact (HC.out.set_ at_ _).far (p := ⟨g, x, none⟩) hne2 _), qaa ((HO.out.setCell (p := ⟨g2, at_, none⟩) (by show g ≤ g2; omega) _).setCell (p := ⟨g, x, none⟩) (qaf _) _)⟩
         case measure => simp only [intOf]; omega
        ·obtain rfl : u = j := by omega
         have hii3 : ¬ (u : Int) < (u : Int) := by omega
         have HF : Hid (Blk wr g2 3 (ints (splc (bks key row (q + 1)))).toArray) := qaa (by rw [← bmid_all, Hn.out]; exact HC.out)
         have HM : Hid (∀ p ∈ row, key p < q + 1) := qaa fun p hp => by have := Hall.out p hp; rw [Hmxn.out] at this; exact this
         have Hgg : Hid (g ≤ g2) := qaa (by omega)
         clear HB HC
         go_wp2
         go_ret
         first | exact ⟨g2, rfl, Hgg.out, q + 1, HM.out, HF.out, HO.out⟩ | exact ⟨g2, q + 1, rfl, Hgg.out, HM.out, HF.out, HO.out⟩
theorem yeD {P : Program} (w : World) {ops : Array Oper} {rest : List Oper} {o : Oper} {a : Act} {Q : Exit → Act → World → Prop} (hgd : o.guard = none) (s x : Operand) (t : TypeId)
  (ho : o.op = .call { callee := .builtin .append, args := #[s, x], argTypes := #[t, t] })
  (base : Nat) (e : TypeId) (i : TypeInfo) (z : Value) (size bytes : Nat) (ht : P.underlying t = some (.slice e)) (hi : P.info? e = some i) (hz : i.zero = some z)
  (hsize : i.size = size) (hby : i.bytes = bytes) (hzs : z.cells.size = size) (hsz : 0 < size)
  (v : Value) (n : Nat) (xs : List Value) (hs : a.eval s = v) (hown : w.ownsRow base e size v n xs)
  (Ax : Option Addr) (m c B : Nat) (news : List Value) (hx : a.eval x = .slice Ax m c) (hr : Reads w B size Ax m news) (h1 : ∀ u ∈ news, u.oneCell' = true)
  (h63 : n + m ≤ maxLen) (hbytes : (n + m) * bytes ≤ 140737488355328) (hbase : base ≤ w.heap.size)
  (h : ∀ v' w', w'.ownsRow base e size v' (n + m) (xs ++ news) → w.grownBy w' v.ownBlock → wpList P ops Q rest (a.put o.dst v') w') : wpList P ops Q (o :: rest) a w := by
 cases Ax with
 | some ad =>
  refine wpList_append_own w hgd s x t ho base e i z size bytes ht hi hz hsize hby hzs hsz v n xs hs hown ad m c news hx hr.1 (fun j u hj => ?_) h1 h63 hbytes hbase (fun v' w' h2 h3 _ => h v' w' h2 h3)
  rcases qba m with hm | hm
  ·subst hm
   have hl := hr.1
   rw [qcB] at hl
   rw [qaz.1 hl] at hj
   simp at hj
  ·obtain ⟨b, off, hA, _, hc⟩ := hr.2 hm
   injection hA with hA
   subst hA
   rw [yco]
   exact hc j u hj
 | none =>
  have hm : m = 0 := by
   rcases qba m with hm | hm
   ·exact hm
   ·obtain ⟨b, off, hA, _⟩ := hr.2 hm
    cases hA
  subst hm
  have hn : news = [] := by
   have hl := hr.1
   rw [qcB] at hl
   exact qaz.1 hl
  subst hn
  have hrun : ∀ ty, (Builtin.append_ #[t, t] ty #[v, .slice none 0 c]).run P w = .ok v w := fun ty => by
   rcases hown.2 with ⟨rfl, rfl⟩ | ⟨g, cap, cur, rfl, _, _, hcap, _⟩
   ·exact run_append_nothing w t t ty e i ht hi none 0 0 (qaf _) _ (Src.ofNil w ht c)
   ·exact run_append_nothing w t t ty e i ht hi _ n cap hcap _ (Src.ofNil w ht c)
  have hh := h v w (by simpa using hown) ⟨rfl, rfl, rfl, qaf _, fun _ _ _ => rfl⟩
  refine wpList_plain hgd fun K hK => ?_
  unfold Oper.wp execOp
  simp only [ho, resolve, invoke, builtin, Sem.run_bind, Sem.run_pure, Result.andThen_ok, List.map_toArray, qcr, List.map_nil, hs, hx, hrun]
  exact hK _ _ hh
end Go.Proofs.YtanjhbkbpalnaaaGreat
