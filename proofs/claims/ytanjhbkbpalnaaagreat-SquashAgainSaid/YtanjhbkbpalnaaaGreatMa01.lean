/-
 What the law of the last of these texts stands on, part 1.
-/
import Derived.Test.YtanjhbkbpalnaaaGreatMa00
import Derived.Test.YtanjhbkbpalnaaaGreatRows
import Derived.WalkKit
import Derived.WalkSpells
import Derived.WalkLawsBesides
import Derived.ProofKit
import Derived.OpenShut
import Derived.Handy
import Derived.SizedLaws
import Derived.JoinedOf
import Derived.KernelRfl
import Derived.Lib.Hide
import Derived.Lib.SmallJoins
import Derived.Deep.Slices
import Derived.Deep.Fields
import Derived.Deep.SlicePairs
import Derived.Deep.Draws
import Derived.Deep.AppendLies
import Derived.Deep.QuietTactic
import Derived.BigQuiet
import Derived.Deep.RegionHeld3
import Derived.StillTailTactics
import Derived.Laws.OwnMore
import Derived.Laws.Rows
import Derived.Below
import Derived.Carry
import Derived.WalkMore
import Derived.Laws.BytesString
import Derived.Laws.BitsLemmas
import Derived.Laws.Concat
import Derived.Deep.Upon
import Derived.Deep.RegionLaw
import Derived.Deep.OwnRows
set_option maxRecDepth 100000
set_option maxHeartbeats 8000000
open Go.Proofs.Tryz
namespace Go.Proofs.YtanjhbkbpalnaaaGreat
set_option linter.unusedSimpArgs false
set_option linter.unusedVariables false
open Go.ChangeShapes Go.WideShapes Go.ChangeAt Go.RowKit Go.Joins Go.Deep
theorem yaj {B : Nat} {a w : World} (h : Below B a w) (n : Nat) : Below B a (w.drewN n) := ⟨h.os, h.tape, h.output, h.size, h.block⟩
def Reads (w : World) (B size : Nat) (A : Option Addr) (n : Nat) (xs : List Value) : Prop :=
 xs.length = n * size ∧ (0 < n → ∃ b off, A = some ⟨b, off, none⟩ ∧ b < B ∧ ∀ j u, xs[j]? = some u → w.cell? ⟨b, off + j, none⟩ = some u)
theorem ydJ (b off k : Nat) : (⟨b, off, none⟩ : Addr).add k = ⟨b, off + k, none⟩ := by
 unfold Addr.add; split <;> simp_all
section
variable {w w' : World} {B B' size n : Nat} {A : Option Addr} {xs : List Value}
theorem Reads.none_ : Reads w B size A 0 [] := ⟨by simp, fun h => absurd h (by omega)⟩
theorem Reads.keep (h : Reads w B size A n xs) (hk : ∀ p : Addr, p.block < B → w'.cell? p = w.cell? p) : Reads w' B size A n xs :=
 ⟨h.1, fun hn => by
  obtain ⟨b, off, e, hb, hc⟩ := h.2 hn
  exact ⟨b, off, e, hb, fun j u hu => (hk _ hb).trans (hc j u hu)⟩⟩
theorem Reads.more (h : Reads w B size A n xs) (hB : B ≤ B') : Reads w B' size A n xs :=
 ⟨h.1, fun hn => by
  obtain ⟨b, off, e, hb, hc⟩ := h.2 hn
  exact ⟨b, off, e, by omega, hc⟩⟩
theorem Reads.below (h : Reads w B size A n xs) (hb : Below B w w') : Reads w' B size A n xs := h.keep fun _ hp => hb.cell hp
theorem Reads.drew (h : Reads w B size A n xs) : Reads w.drew B size A n xs := h
theorem Reads.drewN (h : Reads w B size A n xs) (k : Nat) : Reads (w.drewN k) B size A n xs := h
theorem Reads.alloc (h : Reads w B size A n xs) (hB : B ≤ w.heap.size) (o : Obj) : Reads (w.alloc o) B size A n xs := h.keep fun p hp => World.cell?_alloc_lt w o p (by omega)
theorem Reads.setCell (h : Reads w B size A n xs) {p : Addr} (hB : B ≤ p.block) (u : Value) : Reads (w.setCell p u) B size A n xs :=
 h.keep fun q hq => qc4 w p q u (fun e => by subst e; omega)
theorem Reads.cut (h : Reads w B size A n xs) {k cap : Nat} (hk : k ≤ n) (hc : n ≤ cap) :
  Reads w B size (if cap = k then A else A.map (·.add (k * size))) (n - k) (xs.drop (k * size)) := by
 refine ⟨by rw [qas, h.1, Nat.sub_mul], fun hn => ?_⟩
 obtain ⟨b, off, rfl, hb, hcell⟩ := h.2 (by omega)
 rw [qae (by omega)]
 refine ⟨b, off + k * size, by simp [ydJ], hb, fun j u hu => ?_⟩
 rw [qbU]
 exact hcell _ u (by rw [← hu, List.getElem?_drop])
theorem Reads.new (w : World) (t : TypeId) (cs : List Value) (size n : Nat) (hl : cs.length = n * size) :
  Reads (w.alloc (.cells cs.toArray t)) (w.heap.size + 1) size (some ⟨w.heap.size, 0, none⟩) n cs := by
 refine ⟨hl, fun _ => ⟨_, _, rfl, by simp, fun j u hu => ?_⟩⟩
 simp only [World.cell?, World.alloc]
 simp [hu]
end
theorem yby {P : Program} {t e : TypeId} {i : TypeInfo} {size : Nat} (ht : P.underlying t = some (.slice e)) (hi : P.info? e = some i) (hs : i.size = size) (A : Option Addr) (n c k : Nat) (hk : k ≤ n) (w : World) :
  (Instr.slice t (.slice A n c) (some (.int .i64 (k : Int))) none none).run P w = .ok (.slice (if c = k then A else A.map (·.add (k * size))) (n - k) (c - k)) w := by
 have he : P.elem t = e := by simp [Program.elem, ht]
 rw [run_slice_l w t A n c (by rw [he]; exact ht) .i64 k (by omega) (by omega), he]
 simp [sizeOf, typeInfo, hi, hs, sliced]
def Blk (w : World) (g : Nat) (t : TypeId) (cs : Array Value) : Prop := w.heap[g]? = some (.cells cs t (0, 0))
section
variable {w w' : World} {g : Nat} {t : TypeId} {cs : Array Value}
theorem Blk.lt (h : Blk w g t cs) : g < w.heap.size := by
 rcases qbe g w.heap.size with hlt | hge
 ·exact hlt
 ·unfold Blk at h; rw [Array.getElem?_eq_none hge] at h; cases h
theorem Blk.cell (h : Blk w g t cs) (i : Nat) : w.cell? ⟨g, i, none⟩ = cs[i]? := cell_of_row w g i cs t (0, 0) h
theorem Blk.frozen (h : Blk w g t cs) (i : Nat) : w.frozen? ⟨g, i, none⟩ = false := by
 unfold Blk at h
 simp [World.frozen?, h]
theorem Blk.new (w : World) (t : TypeId) (cs : Array Value) : Blk (w.alloc (.cells cs t)) w.heap.size t cs := heap_alloc_new w _
theorem Blk.drew (h : Blk w g t cs) : Blk w.drew g t cs := h
theorem Blk.drewN (h : Blk w g t cs) (n : Nat) : Blk (w.drewN n) g t cs := h
theorem Blk.alloc (h : Blk w g t cs) (o : Obj) : Blk (w.alloc o) g t cs := (Below.heap_alloc w o g h.lt).trans h
theorem Blk.set_ (h : Blk w g t cs) (i : Nat) (u : Value) : Blk (w.setCell ⟨g, i, none⟩ u) g t (cs.setIfInBounds i u) := by
 unfold Blk at h ⊢
 simp [World.setCell, Array.getElem?_modify, h]
theorem Blk.far (h : Blk w g t cs) {p : Addr} (hp : g ≠ p.block) (u : Value) : Blk (w.setCell p u) g t cs := (Below.heap_setCell w p u g hp).trans h
theorem Blk.two {x y : Value} (h : Blk w g t #[x, y]) : w.cell? ⟨g, 0, none⟩ = some x ∧ w.cell? ⟨g, 1, none⟩ = some y ∧ w.frozen? ⟨g, 0, none⟩ = false ∧ w.frozen? ⟨g, 1, none⟩ = false :=
 ⟨by rw [h.cell]; rfl, by rw [h.cell]; rfl, h.frozen 0, h.frozen 1⟩
theorem Blk.below {B : Nat} (h : Blk w g t cs) (hb : Below B w w') (hg : g < B) : Blk w' g t cs := (hb.block g hg).trans h
end
section
variable {H : Type} {enc : TypeId × Value → H}
theorem yeR {P : Program} (hl : laidOutB P = true) {W W' : World} (hb : Below W.heap.size W W') : ∀ (ts : List TypeId) (vs : List Value) (ds : List (DataW H)) (ps : List MemPlace),
  ts.all (fun t => P.readableRec t && decide (t < P.types.size)) = true → DataW.TrodAll enc P W 0 (fun _ => true) true ts vs ds ps → (∀ x ∈ ps, x.block < W.heap.size) →
  DataW.TrodAll enc P W' 0 (fun b => decide (b < W.heap.size)) true ts vs ds ps
 | [], [], [], _, _, h, _ => h
 | [], [], _ :: _, _, _, h, _ => h.elim
 | [], _ :: _, _, _, _, h, _ => by cases ‹List (DataW H)› <;> exact h.elim
 | _ :: _, [], _, _, _, h, _ => by cases ‹List (DataW H)› <;> exact h.elim
 | _ :: _, _ :: _, [], _, _, h, _ => h.elim
 | t :: ts, v :: vs, d :: ds, ps, ha, h, hlt => by
  obtain ⟨p, q, h1, h2, rfl⟩ := h
  simp only [List.all_cons, qca, qck] at ha
  exact ⟨p, q, Below.trod hl ha.1.1 ha.1.2 h1 hb (fun x hx => hlt x (qby _ hx)),
   yeR hl hb ts vs ds q ha.2 h2 (fun x hx => hlt x (qbp _ hx)), rfl⟩
theorem ydI {P : Program} {w : World} {base : Nat} {sp : Nat → Bool} {held : Bool} : ∀ (ts : List TypeId) (vs : List Value) (ds : List (DataW H)) (ps : List MemPlace),
  DataW.TrodAll enc P w base sp held ts vs ds ps → ds.length = ts.length
 | [], [], [], _, _ => rfl
 | [], [], _ :: _, _, h => h.elim
 | [], _ :: _, _, _, h => by cases ‹List (DataW H)› <;> exact h.elim
 | _ :: _, [], _, _, h => by cases ‹List (DataW H)› <;> exact h.elim
 | _ :: _, _ :: _, [], _, h => h.elim
 | t :: ts, v :: vs, d :: ds, ps, h => by
  obtain ⟨p, q, _, h2, _⟩ := h
  simp [ydI ts vs ds q h2]
theorem ye9 {C : Checked} {os : Os} {f : FuncId} {fn : Func} {s : ChangeSpec} {tb : TypeId}
  (own : ownKnob C.prog.godebug = none) (started : os.Started) (noInit : C.prog.inits.idxOf? f = none) (hfn : C.prog.funcs[f]? = some fn)
  (witness : ∃ (w : World) (tape : Tape) (i : Input), w.os = os ∧ (w.forCall tape i).Shaped C.prog ∧ i.vars = [] ∧ Input.okWide C.prog (w.forCall tape i) .any w.heap.size f i ∧
   s.pre6 enc C.prog fn [] false (w.forCall tape i).memory i.args ∧ ({} : Assume).holds C.prog (lone (Frame.enter C.prog f i.args .normal) [] (w.forCall tape i)))
  (hl : laidOutB C.prog = true) (hpar : fn.params.toList.all (fun t => C.prog.readableRec t && decide (t < C.prog.types.size)) = true)
  (hvars : s.vars = []) (hres : fn.resultTypes = #[tb]) (htb : C.prog.underlying tb = some .bool)
  (hsp : ∀ ds : List (DataW H), ds.length = fn.params.toList.length → s.fn H ds = { results := [.lit (.bool true)], args := ds })
  (walk : ∀ (W : World) (base : Nat) (args : Array Value) (ds : List (DataW H)) (p : List MemPlace),
   (∀ (j : Nat) t v, fn.params[j]? = some t → args[j]? = some v → Value.okWide C.prog W .any base t v) →
   DataW.TrodAll enc C.prog W 0 (fun _ => true) true fn.params.toList args.toList ds p → (∀ x ∈ p, x.block < W.heap.size) →
   (DataW.weightsEach C.prog fn.params.toList ds).all (· ≤ reachBytes) = true →
   Calls C.prog f args W fun e W' => e = .returned (.bool true) ∧ Below W.heap.size W W') :
  ReturnsInHanded {} C os f .any (s.pre6 enc C.prog fn [] false) (s.post enc C.prog fn false true false false) := by
 refine returnsInHanded_of_change_sized (C := C) own started noInit hfn witness ?_
 intro W base args ds gs before hval hW _ hsz _
 have hW' := hW
 obtain ⟨p, q, hA, hV, rfl, _, _⟩ := hW
 rw [hvars] at hV
 obtain ⟨rfl, rfl⟩ := trodVars_none hV
 have hlt : ∀ x ∈ p, x.block < W.heap.size := fun x hx => hW'.lt x (qby _ hx)
 have hsz' : (DataW.weightsEach C.prog fn.params.toList ds).all (· ≤ reachBytes) = true := by
  have e : s.plain.varTypes C.prog = [] := by simp [ChangeSpec.plain, DataSpec.varTypes, hvars]
  rw [e] at hsz
  simpa using hsz
 have hlen := ydI _ _ _ _ hA
 refine (walk W base args ds p hval hA hlt hsz').mono fun e W' ⟨he, hb⟩ => ⟨_, he, ds, [], p ++ [], [], p, [], hW', ?_, ?_, ?_, hb.frame _, fun h => by cases h⟩
 ·rw [qa8, hsp ds hlen, hres]
  exact trodAll_mk1 (shut_bool htb true)
 ·rw [qa8, hsp ds hlen]
  exact yeR hl hb _ _ _ _ hpar hA hlt
 ·rw [qa8, hsp ds hlen, hvars]
  rfl
end
section
variable {H : Type} {enc : TypeId × Value → H} {P : Program} {w : World} {base : Nat} {spare : Nat → Bool} {held : Bool}
def ybg (k : IntKind) (l : List (Int × Int)) : List Value := l.flatMap fun r => [.int k r.1, .int k r.2]
theorem ybI (k : IntKind) (r : Int × Int) (l : List (Int × Int)) : ybg k (r :: l) = .int k r.1 :: .int k r.2 :: ybg k l := rfl
theorem pairs_length (k : IntKind) (l : List (Int × Int)) : (ybg k l).length = l.length * 2 := by
 induction l with
 | nil => rfl
 | cons r l ih => rw [ybI]; simp [ih]; omega
theorem ydd (k : IntKind) : ∀ (l : List (Int × Int)) (i : Nat) (h : i < l.length), (ybg k l)[i * 2]? = some (.int k l[i].1)
 | _ :: _, 0, _ => rfl
 | r :: l, i + 1, h => by
  rw [ybI, show (i + 1) * 2 = i * 2 + 1 + 1 from by omega]
  simpa using ydd k l i (by simpa using h)
theorem ycU (k : IntKind) : ∀ (l : List (Int × Int)) (i : Nat) (h : i < l.length), (ybg k l)[i * 2 + 1]? = some (.int k l[i].2)
 | _ :: _, 0, _ => rfl
 | r :: l, i + 1, h => by
  rw [ybI, show (i + 1) * 2 + 1 = i * 2 + 1 + 1 + 1 from by omega]
  simpa using ycU k l i (by simpa using h)
theorem cell_lt {w : World} {a : Addr} {v : Value} (h : w.cell? a = some v) : a.block < w.heap.size := World.block_lt_of_cell? w _ h
end
def bc (l : List UInt8) : Array Value := (l.map fun b => Value.int .u8 (b.toNat : Int)).toArray
theorem yg1 (l : List UInt8) : (bc l).size = l.length := by simp [bc]
theorem bc_get (l : List UInt8) (i : Nat) : (bc l)[i]? = (l[i]?).map fun b => Value.int .u8 (b.toNat : Int) := by simp [bc]
theorem bc_set (A C : List UInt8) (b c : UInt8) : (bc (A ++ b :: C)).setIfInBounds A.length (.int .u8 (c.toNat : Int)) = bc (A ++ c :: C) := by
 unfold bc
 rw [qac]
 congr 1
 simp
theorem bc_zero (n : Nat) : madeCells #[.int .u8 0] n = bc (List.replicate n 0) := by
 unfold bc
 apply Array.ext'
 simp [madeCells, Nat.mod_one]
 rw [qcw, qa7]
theorem yc7 {w : World} {g : Nat} {t : TypeId} {l : List UInt8} (h : Blk w g t (bc l)) {i : Nat} {b : UInt8} (hi : l[i]? = some b) : w.cell? ⟨g, i, none⟩ = some (.int .u8 (b.toNat : Int)) := by
 rw [h.cell, bc_get, hi]
 rfl
theorem ycP (l : List UInt8) (i : Nat) (h : i < (ByteArray.mk l.toArray).size) : (ByteArray.mk l.toArray)[i]'h = l[i]'(by rw [qaL] at h; simpa using h) := rfl
theorem ba_list (s : ByteArray) : s = ⟨s.data.toList.toArray⟩ := by simp
theorem push_fold (ns : List Int) : ∀ (s : List UInt8), (ns.foldl (fun r n => r.push (UInt8.ofNat n.toNat)) (ByteArray.mk s.toArray)) = ⟨(s ++ ns.map fun n => UInt8.ofNat n.toNat).toArray⟩ := by
 induction ns with
 | nil => intro s; simp
 | cons n t ih =>
  intro s
  rw [List.foldl_cons]
  have e : (ByteArray.mk s.toArray).push (UInt8.ofNat n.toNat) = ⟨(s ++ [UInt8.ofNat n.toNat]).toArray⟩ := by simp [ByteArray.push]
  rw [e, ih]
  simp
def ints (l : List Int) : List Value := l.map (Value.int .i64)
theorem yab (l : List Int) : (ints l).length = l.length := by simp [ints]
theorem yai (l : List Int) (i : Nat) (h : i < l.length) : (ints l)[i]? = some (.int .i64 l[i]) := by simp [ints, h]
theorem ycB {P : Program} {src dst e : TypeId} (hs : P.underlying src = some (.slice e)) (he : P.underlying e = some (.int .u8)) (hd : P.underlying dst = some .string)
  (w : World) (g off c : Nat) (l : List UInt8) (n : Nat) (hn : l.length = n) (h : ∀ j b, l[j]? = some b → w.cell? ⟨g, off + j, none⟩ = some (.int .u8 (b.toNat : Int))) :
  (convert src dst (.slice (some ⟨g, off, none⟩) n c)).run P w = .ok (.string ⟨l.toArray⟩) w := by
 subst hn
 rw [run_convert_bytes_string w src dst e _ _ _ hs he hd]
 have hl := run_loadCells_list (P := P) (w := w) ⟨g, off, none⟩ ((l.map fun b => (b.toNat : Int)).map (Value.int .u8)) (fun j v hv => by
  rw [ydJ]
  simp only [List.getElem?_map, Option.map_map] at hv
  cases hx : l[j]? with
  | none => rw [hx] at hv; cases hv
  | some b => rw [hx] at hv; simp at hv; subst hv; exact h j b hx)
 simp only [qaD] at hl
 rw [run_bytesToString w ⟨g, off, none⟩ l.length c (l.map fun b => (b.toNat : Int)) hl]
 have := push_fold (l.map fun b => (b.toNat : Int)) []
 rw [show ByteArray.empty = ByteArray.mk ([] : List UInt8).toArray from rfl, this, qbc, List.map_map]
 have e : ((fun n : Int => UInt8.ofNat n.toNat) ∘ fun b : UInt8 => (b.toNat : Int)) = id := by
  funext b
  simp
 rw [e, List.map_id]
theorem ygT {P : Program} {t e : TypeId} {i : TypeInfo} (ht : P.underlying t = some (.slice e)) (hi : P.info? e = some i) (hs : i.size = 1) (g off n c a b : Nat) (ha : a < b) (hb : b ≤ c) (w : World) :
  (Instr.slice t (.slice (some ⟨g, off, none⟩) n c) (some (.int .i64 (a : Int))) (some (.int .i64 (b : Int))) (some (.int .i64 (b : Int)))).run P w = .ok (.slice (some ⟨g, off + a, none⟩) (b - a) (b - a)) w := by
 have he : P.elem t = e := by simp [Program.elem, ht]
 rw [run_slice_lhm w t (some ⟨g, off, none⟩) n c (by rw [he]; exact ht) .i64 .i64 .i64 a b b (by omega) (by omega) (by omega) (by omega), he]
 simp [sizeOf, typeInfo, hi, hs, sliced, ydJ]
 omega
theorem or_i64 (x y : Int) (i : Nat) (hx : 0 ≤ x) (hxi : x < 2 ^ i) (hy : 0 ≤ y) (h : x + y * 2 ^ i < 9223372036854775808) : bits .or .i64 x (wrap64 (y * 2 ^ i)) = x + y * 2 ^ i := by
 have hp : (0 : Int) < 2 ^ i := Int.pow_pos (by omega)
 have hy0 : 0 ≤ y * 2 ^ i := Int.mul_nonneg hy (by omega)
 have hwr : wrap64 (y * 2 ^ i) = y * 2 ^ i := by unfold wrap64; omega
 rw [hwr]
 have hc : bits .or .i64 x (y * 2 ^ i) = bits .or .i64 (y * 2 ^ i) x := by simp only [bits, BitVec.or_comm]
 have e63 : (2 : Int) ^ 63 = 9223372036854775808 := by decide
 rw [hc, bits_join .i64 63 (by decide) (fun n h0 h1 => by
  rw [e63] at h1
  rw [qal]
  omega) i (y * 2 ^ i) x hy0 (Int.mul_emod_left y (2 ^ i)) (by rw [e63]; omega) hx hxi (by rw [e63]; omega), Int.add_comm]
theorem or_neg (x y : Int) (hy : -9223372036854775808 ≤ y) (hy' : y < 0) (hx : 0 ≤ x) (hx' : x < 9223372036854775808) : bits .or .i64 x y < 0 := by
 have hm : (BitVec.ofInt 64 y).msb = true := by
  rw [BitVec.msb_eq_toInt, BitVec.toInt_ofInt]
  simp [Int.bmod]
  omega
 have h2 : (BitVec.ofInt 64 x ||| BitVec.ofInt 64 y).msb = true := by rw [BitVec.msb_or, hm]; simp
 have h3 : (BitVec.ofInt 64 x ||| BitVec.ofInt 64 y).toInt < 0 := by
  rw [BitVec.msb_eq_toInt] at h2
  simpa using h2
 have e : bits .or .i64 x y = IntKind.i64.wrap ((BitVec.ofInt 64 x ||| BitVec.ofInt 64 y).toNat : Int) := rfl
 rw [e, qal]
 generalize (BitVec.ofInt 64 x ||| BitVec.ofInt 64 y) = v at *
 rw [BitVec.toInt_eq_toNat_cond] at h3
 have hv := v.isLt
 split at h3 <;> omega
theorem yaz (n : Nat) (h : n < 256) : (UInt8.ofNat n).toNat = n := by simp [UInt8.toNat_ofNat']; omega
theorem u8_lt (b : UInt8) : b.toNat < 256 := UInt8.toNat_lt b
theorem u8_eq {a b : UInt8} (h : a.toNat = b.toNat) : a = b := qc7.1 h
theorem iv {k : IntKind} {a b : Int} (h : a = b) : Value.int k a = Value.int k b := by rw [h]
theorem tv (a b c a' b' c' : Int) (h : (a, b, c) = (a', b', c')) : Ending.returned (.tuple #[.int .i64 a, .int .i64 b, .int .i64 c]) = Ending.returned (.tuple #[.int .i64 a', .int .i64 b', .int .i64 c']) := by
 simp only [qb8] at h
 obtain ⟨rfl, rfl, rfl⟩ := h
 rfl
structure Touch (w w' : World) (S : Nat → Prop) : Prop where
 os : w'.os = w.os
 tape : w'.tape = w.tape
 output : w'.output = w.output
 size : w.heap.size ≤ w'.heap.size
 block : ∀ k, k < w.heap.size → ¬ S k → w'.heap[k]? = w.heap[k]?
section
variable {w w' w'' : World} {S S' : Nat → Prop}
theorem Touch.refl (w : World) (S : Nat → Prop) : Touch w w S := ⟨rfl, rfl, rfl, qad _, fun _ _ _ => rfl⟩
theorem Touch.mono (h : Touch w w' S) (hs : ∀ k, k < w.heap.size → S k → S' k) : Touch w w' S' := ⟨h.os, h.tape, h.output, h.size, fun k hk hn => h.block k hk fun e => hn (hs k hk e)⟩
theorem Touch.trans (h : Touch w w' S) (k : Touch w' w'' S) : Touch w w'' S :=
 ⟨k.os.trans h.os, k.tape.trans h.tape, k.output.trans h.output, qaA h.size k.size, fun i hi hn => (k.block i (qaZ hi h.size) hn).trans (h.block i hi hn)⟩
theorem Touch.next (h : Touch w w' S) (k : Touch w' w'' S') (hs : ∀ i, i < w.heap.size → S' i → S i) : Touch w w'' S :=
 ⟨k.os.trans h.os, k.tape.trans h.tape, k.output.trans h.output, qaA h.size k.size, fun i hi hn => (k.block i (qaZ hi h.size) (fun e => hn (hs i hi e))).trans (h.block i hi hn)⟩
theorem yal {B : Nat} (h : Below B w w') (hB : w.heap.size ≤ B) : Touch w w' S := ⟨h.os, h.tape, h.output, h.size, fun i hi _ => h.block i (by omega)⟩
theorem yaF {row : Option Nat} (h : w.grownBy w' row) : Touch w w' (fun k => some k = row) := ⟨h.os, h.tape, h.output, h.size, fun i hi hn => h.block i hi hn⟩
theorem Touch.set (h : Touch w w' S) {p : Addr} (hp : S p.block ∨ w.heap.size ≤ p.block) (u : Value) : Touch w (w'.setCell p u) S :=
 ⟨h.os, h.tape, h.output, by have := h.size; simpa [World.setCell] using this, fun i hi hn => by
  have e : i ≠ p.block := by
   rcases hp with hp | hp
   ·rintro rfl
    exact hn hp
   ·omega
  exact (Below.heap_setCell _ _ _ _ e).trans (h.block i hi hn)⟩
theorem Touch.alloc (h : Touch w w' S) (o : Obj) : Touch w (w'.alloc o) S := h.trans (yal ((qak _ _).alloc (qad _) o) (qad _))
theorem Touch.drewN (h : Touch w w' S) (n : Nat) : Touch w (w'.drewN n) S := ⟨h.os, h.tape, h.output, h.size, h.block⟩
theorem Touch.below {B : Nat} (h : Touch w w' S) (hS : ∀ k, k < w.heap.size → S k → B ≤ k) (hB : B ≤ w.heap.size) : Below B w w' :=
 ⟨h.os, h.tape, h.output, h.size, fun i hi => h.block i (by omega) (fun e => by have := hS i (by omega) e; omega)⟩
theorem Blk.touch {b : Nat} {t : TypeId} {cs : Array Value} (h : Blk w b t cs) (ht : Touch w w' S) (hb : ¬ S b) : Blk w' b t cs := (ht.block b h.lt hb).trans h
theorem Blk.grow' {b : Nat} {t : TypeId} {cs : Array Value} {row : Option Nat} (h : Blk w b t cs) (hg : w.grownBy w' row) (hb : row ≠ some b) : Blk w' b t cs := (hg.block b h.lt (fun e => hb e.symm)).trans h
theorem yay {base size n : Nat} {e : TypeId} {v : Value} {xs : List Value} (h : w.ownsRow base e size v n xs) (ht : Touch w w' S) (hn : ∀ k, v.ownBlock = some k → ¬ S k) : w'.ownsRow base e size v n xs := by
 refine ⟨h.1, ?_⟩
 rcases h.2 with h0 | ⟨g, cap, cur, rfl, hb, hg, rest⟩
 ·exact .inl h0
 ·exact .inr ⟨g, cap, cur, rfl, hb, (ht.block g (Array.getElem?_eq_some_iff.1 hg).1 (hn g rfl)).trans hg, rest⟩
theorem yah {base size n B : Nat} {e : TypeId} {v : Value} {xs : List Value} (h : w.ownsRow base e size v n xs) (hb : Below B w w') (hB : w.heap.size ≤ B) : w'.ownsRow base e size v n xs :=
 yay h (yal (S := fun _ => False) hb hB) (fun _ _ h => h)
theorem ya5 {base size n : Nat} {e t : TypeId} {v : Value} {xs : List Value} {cs : Array Value} {b : Nat} (h : w.ownsRow base e size v n xs) (hB : Blk w b t cs) (hne : e ≠ t) : v.ownBlock ≠ some b := by
 intro hv
 rcases h.2 with ⟨rfl, _⟩ | ⟨g, cap, cur, rfl, _, hg, _⟩
 ·cases hv
 ·injection hv with hv
  simp only at hv
  subst hv
  unfold Blk at hB
  rw [hB] at hg
  injection hg with hg
  injection hg with _ h2
  exact hne h2.symm
theorem yae {base size n : Nat} {e : TypeId} {v : Value} {xs : List Value} (h : w.ownsRow base e size v n xs) : ∃ A c, v = .slice A n c ∧ n ≤ c ∧ Reads w w.heap.size size A n xs := by
 obtain ⟨hl, ⟨rfl, h0⟩ | ⟨g, cap, cur, rfl, hb, hheap, hcap, hm, hcs, htk⟩⟩ := h
 ·subst h0
  refine ⟨none, 0, rfl, qad _, hl, fun hn => absurd hn (by omega)⟩
 ·refine ⟨_, _, rfl, hcap, hl, fun _ => ⟨g, 0, rfl, ?_, fun j u hu => ?_⟩⟩
  ·rcases qbe g w.heap.size with hlt | hge
   ·exact hlt
   ·rw [Array.getElem?_eq_none hge] at hheap; cases hheap
  ·rw [cell_of_row w g _ cur e (0, 0) hheap, qaz, ← htk] at *
   rw [qc2] at hu
   split at hu
   ·simpa using hu
   ·cases hu
end
theorem ybZ {P : Program} {src dst e : TypeId} (hs : P.underlying src = some (.slice e)) (he : P.underlying e = some (.int .u8)) (hd : P.underlying dst = some .string)
  (w : World) (A : Option Addr) (c : Nat) (l : List UInt8) (hr : Reads w w.heap.size 1 A l.length (bc l).toList) :
  (convert src dst (.slice A l.length c)).run P w = .ok (.string ⟨l.toArray⟩) w := by
 rcases qbm l.length with h0 | h0
 ·have hl := qa1.1 h0
  subst hl
  rw [run_convert_bytes_string w src dst e _ _ _ hs he hd]
  cases A with
  | none => rfl
  | some a => exact run_bytesToString w a 0 c [] (by simp [loadCells, loadCellsFrom])
 ·obtain ⟨b, off, rfl, _, hc⟩ := hr.2 h0
  exact ycB hs he hd w b off c l l.length rfl fun j u hj => hc j _ (by simp [bc, hj])
def Sep (w : World) (v v' : Value) : Prop := ∀ k, v'.ownBlock = some k → v.ownBlock = some k ∨ w.heap.size ≤ k
theorem ydH {P : Program} (w : World) (base : Nat) (t ty e : TypeId) (i : TypeInfo) (z : Value) (size bytes : Nat) (ht : P.underlying t = some (.slice e)) (hi : P.info? e = some i) (hz : i.zero = some z)
  (hsize : i.size = size) (hby : i.bytes = bytes) (hzs : z.cells.size = size) (hsz : 0 < size)
  (v : Value) (n : Nat) (xs : List Value) (hown : w.ownsRow base e size v n xs)
  (Ax : Option Addr) (m c B : Nat) (news : List Value) (hr : Reads w B size Ax m news) (h1 : ∀ u ∈ news, u.oneCell' = true)
  (h63 : n + m ≤ maxLen) (hbytes : (n + m) * bytes ≤ 140737488355328) (hbase : base ≤ w.heap.size) :
  ∃ v' w', (Builtin.append_ #[t, t] ty #[v, .slice Ax m c]).run P w = .ok v' w' ∧ w'.ownsRow base e size v' (n + m) (xs ++ news) ∧ w.grownBy w' v.ownBlock ∧ Sep w v v' := by
 have hsmall : n + m ≤ 9223372036854775807 := by simp only [maxLen] at h63; omega
 have hnil : m = 0 → news = [] := fun hm => by
  have hl := hr.1
  rw [hm, Nat.zero_mul] at hl
  exact qa1.1 hl
 cases Ax with
 | none =>
  have hm : m = 0 := by
   rcases qbm m with hm | hm
   ·exact hm
   ·obtain ⟨b, off, hA, _⟩ := hr.2 hm
    cases hA
  rw [hnil hm]
  subst hm
  refine ⟨v, w, ?_, by simpa using hown, ⟨rfl, rfl, rfl, qad _, fun _ _ _ => rfl⟩, fun k hk => qay hk⟩
  rcases hown.2 with ⟨rfl, rfl⟩ | ⟨g, cap, cur, rfl, _, _, hcap, _⟩
  ·exact run_append_nothing w t t ty e i ht hi none 0 0 (qad _) _ (Src.ofNil w ht c)
  ·exact run_append_nothing w t t ty e i ht hi _ n cap hcap _ (Src.ofNil w ht c)
 | some ad =>
  have hnews : ∀ j u, news[j]? = some u → w.cell? (ad.add j) = some u := fun j u hj => by
   rcases qbm m with hm | hm
   ·rw [hnil hm] at hj
    simp at hj
   ·obtain ⟨b, off, hA, _, hc⟩ := hr.2 hm
    injection hA with hA
    subst hA
    rw [ydJ]
    exact hc j u hj
  have hl := hr.1
  obtain ⟨v', w', hrun, h2, h3, h4⟩ := run_append_own (P := P) w base t ty e i z size bytes ht hi hz hsize hby hzs hsz v n xs hown ad m c news hl hnews h1 h63 hbytes hbase
  refine ⟨v', w', hrun, h2, h3, ?_⟩
  subst hsize
  subst hby
  rcases hown.2 with ⟨rfl, rfl⟩ | ⟨g, cap, cur, rfl, hbg, hg, hnc, hcm, hcs, htake⟩
  ·rcases qbm m with hm | hm
   ·rw [h4.2 ⟨rfl, hm⟩]
    exact fun k hk => qay hk
   ·have hr2 := run_append_nil (P := P) w t ty e i z ht hi hz ad m c news hl hnews (by omega) (by omega) (by have hb := hbytes; simp only [qaz] at hb; omega)
    rw [hr2] at hrun
    injection hrun with e1 _
    subst e1
    intro k hk
    injection hk with hk
    simp only at hk
    exact qaI (by omega)
  ·by_cases hroom : n + m ≤ cap
   ·have hfit : n * i.size + news.length ≤ cur.size := by rw [hl, hcs, ← qcs]; exact qct _ hroom
    have hr2 := run_append_room (P := P) w t ty e i ht hi g n cap cur hg ad m c news hl hnews h1 hroom hfit
    rw [hr2] at hrun
    injection hrun with e1 _
    subst e1
    exact fun k hk => qay hk
   ·have holds : ∀ j u, xs[j]? = some u → w.cell? ((⟨g, 0, none⟩ : Addr).add j) = some u := hown.cells (g := g) rfl
    have hr2 := run_append_grow (P := P) w t ty e i z ht hi hz ⟨g, 0, none⟩ n cap xs hown.1 holds ad m c news hl hnews (by omega) (by omega) (growslice_fits (by omega) hbytes)
    rw [hr2] at hrun
    injection hrun with e1 _
    subst e1
    intro k hk
    injection hk with hk
    simp only at hk
    exact qaI (by omega)
theorem yaf {P : Program} (w : World) {ops : Array Oper} {rest : List Oper} {o : Oper} {a : Act} {Q : Exit → Act → World → Prop} (hgd : o.guard = none) (s x : Operand) (t : TypeId)
  (ho : o.op = .call { callee := .builtin .append, args := #[s, x], argTypes := #[t, t] })
  (base : Nat) (e : TypeId) (i : TypeInfo) (z : Value) (size bytes : Nat) (ht : P.underlying t = some (.slice e)) (hi : P.info? e = some i) (hz : i.zero = some z)
  (hsize : i.size = size) (hby : i.bytes = bytes) (hzs : z.cells.size = size) (hsz : 0 < size)
  (v : Value) (n : Nat) (xs : List Value) (hs : a.eval s = v) (hown : w.ownsRow base e size v n xs)
  (Ax : Option Addr) (m c B : Nat) (news : List Value) (hx : a.eval x = .slice Ax m c) (hr : Reads w B size Ax m news) (h1 : ∀ u ∈ news, u.oneCell' = true)
  (h63 : n + m ≤ maxLen) (hbytes : (n + m) * bytes ≤ 140737488355328) (hbase : base ≤ w.heap.size)
  (h : ∀ v' w', w'.ownsRow base e size v' (n + m) (xs ++ news) → w.grownBy w' v.ownBlock → Sep w v v' → wpList P ops Q rest (a.put o.dst v') w') : wpList P ops Q (o :: rest) a w := by
 obtain ⟨v', w', hrun, h2, h3, h4⟩ := ydH (P := P) w base t o.type e i z size bytes ht hi hz hsize hby hzs hsz v n xs hown Ax m c B news hr h1 h63 hbytes hbase
 refine wpList_plain hgd fun K hK => ?_
 unfold Oper.wp execOp
 simp only [ho, resolve, invoke, builtin, Sem.run_bind, Sem.run_pure, Result.andThen_ok, List.map_toArray, qcz, List.map_nil, hs, hx, hrun]
 exact hK _ _ (h v' w' h2 h3 h4)
theorem ya0 (w : World) (t : TypeId) (cs : Array Value) (size n : Nat) (hl : cs.size = n * size) : Reads (w.alloc (.cells cs t)) (w.heap.size + 1) size (some ⟨w.heap.size, 0, none⟩) n cs.toList := by
 have := Reads.new w t cs.toList size n (by simpa using hl)
 simpa using this
theorem slt_cons (a b : UInt8) (x y : List UInt8) : Op.bytesLess (a :: x) (b :: y) = (decide (a < b) || (a == b && Op.bytesLess x y)) := rfl
theorem ydb (a b : UInt8) (x y : List UInt8) : Op.bytesLess (a :: x) (b :: y) = true ↔ a.toNat < b.toNat ∨ (a = b ∧ Op.bytesLess x y = true) := by
 rw [slt_cons]
 simp [UInt8.lt_iff_toNat_lt]
theorem ycr (x : List UInt8) : Op.bytesLess x [] = false := by cases x <;> rfl
theorem ybF : ∀ x : List UInt8, Op.bytesLess x x = false
 | [] => rfl
 | a :: x => by
  rw [slt_cons, ybF x]
  simp
theorem slt_trans : ∀ x y z : List UInt8, Op.bytesLess x y = true → Op.bytesLess y z = true → Op.bytesLess x z = true
 | x, y, [], _, h => by rw [ycr] at h; cases h
 | x, [], _ :: _, h, _ => by rw [ycr] at h; cases h
 | [], _ :: _, _ :: _, _, _ => rfl
 | a :: x, b :: y, c :: z, h1, h2 => by
  rw [ydb] at h1 h2 ⊢
  rcases h1 with h1 | ⟨rfl, h1⟩
  ·rcases h2 with h2 | ⟨rfl, h2⟩
   ·exact qay (by omega)
   ·exact qay h1
  ·rcases h2 with h2 | ⟨rfl, h2⟩
   ·exact qay h2
   ·exact qaI ⟨rfl, slt_trans x y z h1 h2⟩
theorem yhk : ∀ x y : List UInt8, x ≠ y → Op.bytesLess x y = true ∨ Op.bytesLess y x = true
 | [], [], h => absurd rfl h
 | [], _ :: _, _ => qay rfl
 | _ :: _, [], _ => qaI rfl
 | a :: x, b :: y, h => by
  rw [ydb, ydb]
  by_cases e : a = b
  ·subst e
   rcases yhk x y (fun e => h (by rw [e])) with h2 | h2
   ·exact qay (qaI ⟨rfl, h2⟩)
   ·exact qaI (qaI ⟨rfl, h2⟩)
  ·have : a.toNat ≠ b.toNat := fun e2 => e (qc7.1 e2)
   rcases Nat.lt_or_gt_of_ne this with h2 | h2
   ·exact qay (qay h2)
   ·exact qaI (qay h2)
structure SOrd (lt : Nat → Nat → Bool) (n : Nat) : Prop where
 irr : ∀ p, lt p p = false
 tr : ∀ p q r, lt p q = true → lt q r = true → lt p r = true
 tot : ∀ p q, p < n → q < n → p ≠ q → lt p q = true ∨ lt q p = true
theorem SOrd.asym {lt : Nat → Nat → Bool} {n : Nat} (h : SOrd lt n) (p q : Nat) (h1 : lt p q = true) : lt q p = false := by
 cases h2 : lt q p with
 | false => rfl
 | true =>
  have := h.tr p q p h1 h2
  rw [h.irr] at this
  cases this
def yfo (lt : Nat → Nat → Bool) (l : List Nat) : Prop := l.Pairwise fun p q => lt p q = true
theorem yfA {lt : Nat → Nat → Bool} {n : Nat} (h : SOrd lt n) : ∀ (a b : List Nat), yfo lt a → yfo lt b → (∀ p, p ∈ a ↔ p ∈ b) → a = b
 | [], [], _, _, _ => rfl
 | [], q :: t, _, _, hm => by
  have := (hm q).2 (qa5 ..)
  cases this
 | p :: s, [], _, _, hm => by
  have := (hm p).1 (qa5 ..)
  cases this
 | p :: s, q :: t, ha, hb, hm => by
  have ha' := qa9.1 ha
  have hb' := qa9.1 hb
  have e : p = q := by
   rcases qaC.1 ((hm p).1 (qa5 ..)) with e | e
   ·exact e
   ·rcases qaC.1 ((hm q).2 (qa5 ..)) with e2 | e2
    ·exact e2.symm
    ·have h1 := hb'.1 p e
     have h2 := ha'.1 q e2
     rw [h.asym q p h1] at h2
     cases h2
  subst e
  rw [yfA h s t ha'.2 hb'.2 fun r => ?_]
  constructor
  ·intro hr
   rcases qaC.1 ((hm r).1 (qa4 _ hr)) with e | e
   ·subst e
    have := ha'.1 r hr
    rw [h.irr] at this
    cases this
   ·exact e
  ·intro hr
   rcases qaC.1 ((hm r).2 (qa4 _ hr)) with e | e
   ·subst e
    have := hb'.1 r hr
    rw [h.irr] at this
    cases this
   ·exact e
theorem yhy {lt : Nat → Nat → Bool} {n : Nat} (h : SOrd lt n) : ∀ l : List Nat, yfo lt l → l.Nodup
 | [], _ => List.nodup_nil
 | p :: t, hl => by
  have hl' := qa9.1 hl
  refine List.nodup_cons.2 ⟨fun hp => ?_, yhy h t hl'.2⟩
  have := hl'.1 p hp
  rw [h.irr] at this
  cases this
theorem yb6 {lt : Nat → Nat → Bool} {l : List Nat} (h : yfo lt l) (i j : Nat) (hi : i < l.length) (hj : j < l.length) (hij : i < j) : lt l[i] l[j] = true := qaV.1 h i j hi hj hij
theorem ssort_of {lt : Nat → Nat → Bool} {l : List Nat} (h : ∀ i j (hi : i < l.length) (hj : j < l.length), i < j → lt l[i] l[j] = true) : yfo lt l := qaV.2 fun i j hi hj hij => h i j hi hj hij
def scut (lt : Nat → Nat → Bool) (p : Nat) : List Nat → Nat
 | [] => 0
 | q :: t => if lt q p = true then scut lt p t + 1 else 0
def sins (lt : Nat → Nat → Bool) (p : Nat) (l : List Nat) : List Nat := l.take (scut lt p l) ++ p :: l.drop (scut lt p l)
def slay (lt : Nat → Nat → Bool) : Nat → List Nat
 | 0 => []
 | k + 1 => sins lt k (slay lt k)
theorem scut_le (lt : Nat → Nat → Bool) (p : Nat) : ∀ l, scut lt p l ≤ l.length
 | [] => qad _
 | q :: t => by
  have := scut_le lt p t
  unfold scut
  split <;> simp <;> omega
theorem scut_is (lt : Nat → Nat → Bool) (p : Nat) : ∀ (l : List Nat) (c : Nat), c ≤ l.length → (∀ i (h : i < l.length), i < c → lt l[i] p = true) → (∀ i (h : i < l.length), i = c → lt l[i] p = false) → scut lt p l = c
 | [], c, hc, _, _ => by simp at hc; subst hc; rfl
 | q :: t, 0, _, _, h2 => by
  have := h2 0 (by simp) rfl
  simp only [qaE] at this
  unfold scut
  rw [qae (by rw [this]; decide)]
 | q :: t, c + 1, hc, h1, h2 => by
  have h0 := h1 0 (by simp) (by omega)
  simp only [qaE] at h0
  unfold scut
  rw [qag h0, scut_is lt p t c (by simpa using hc) (fun i hi hic => by
   have := h1 (i + 1) (by simpa using hi) (by omega)
   simpa using this) (fun i hi hic => by
   have := h2 (i + 1) (by simpa using hi) (by omega)
   simpa using this)]
theorem scut_less (lt : Nat → Nat → Bool) (p : Nat) : ∀ (l : List Nat) (i : Nat) (h : i < l.length), i < scut lt p l → lt l[i] p = true
 | [], i, h, _ => absurd h (by simp)
 | q :: t, i, h, hc => by
  unfold scut at hc
  by_cases e : lt q p = true
  ·rw [qag e] at hc
   cases i with
   | zero => exact e
   | succ i => exact scut_less lt p t i (by simpa using h) (by omega)
  ·rw [qae e] at hc
   omega
theorem scut_more {lt : Nat → Nat → Bool} {n : Nat} (hl : SOrd lt n) (p : Nat) (hp : p < n) : ∀ (l : List Nat) (i : Nat) (h : i < l.length), yfo lt l → (∀ q ∈ l, q < n ∧ q ≠ p) → scut lt p l ≤ i → lt p l[i] = true
 | [], i, h, _, _, _ => absurd h (by simp)
 | q :: t, i, h, hs, hq, hc => by
  have hs' := qa9.1 hs
  unfold scut at hc
  by_cases e : lt q p = true
  ·rw [qag e] at hc
   cases i with
   | zero => omega
   | succ i => exact scut_more hl p hp t i (by simpa using h) hs'.2 (fun r hr => hq r (qa4 _ hr)) (by omega)
  ·have hqp := hq q (qa5 ..)
   have h1 : lt p q = true := by
    rcases hl.tot q p hqp.1 hp hqp.2 with h2 | h2
    ·exact absurd h2 e
    ·exact h2
   cases i with
   | zero => exact h1
   | succ i => exact hl.tr p q _ h1 (hs'.1 _ (qaq (by simpa using h)))
theorem sins_mem (lt : Nat → Nat → Bool) (p : Nat) (l : List Nat) (q : Nat) : q ∈ sins lt p l ↔ q = p ∨ q ∈ l := by
 unfold sins
 rw [qbk, qaC]
 have h := qax (scut lt p l) l
 have h2 : q ∈ l ↔ q ∈ l.take (scut lt p l) ∨ q ∈ l.drop (scut lt p l) := by rw [← qbk, h]
 rw [h2]
 constructor
 ·rintro (a | a | a)
  ·exact qaI (qay a)
  ·exact qay a
  ·exact qaI (qaI a)
 ·rintro (a | a | a)
  ·exact qaI (qay a)
  ·exact qay a
  ·exact qaI (qaI a)
theorem sins_sort {lt : Nat → Nat → Bool} {n : Nat} (hl : SOrd lt n) (p : Nat) (hp : p < n) (l : List Nat) (hs : yfo lt l) (hq : ∀ q ∈ l, q < n ∧ q ≠ p) : yfo lt (sins lt p l) := by
 have hc := scut_le lt p l
 have hmore : ∀ q ∈ l.drop (scut lt p l), lt p q = true := fun q hq2 => by
  obtain ⟨i, hi, rfl⟩ := qaJ hq2
  rw [qas] at hi
  rw [qbL]
  exact scut_more hl p hp l _ (by omega) hs hq (by omega)
 have hless : ∀ q ∈ l.take (scut lt p l), lt q p = true := fun q hq2 => by
  obtain ⟨i, hi, rfl⟩ := qaJ hq2
  rw [qao] at hi
  rw [qc9]
  exact scut_less lt p l i (by omega) (by omega)
 unfold sins yfo
 refine qa2.2 ⟨List.Pairwise.sublist (List.take_sublist _ _) hs, qa9.2 ⟨hmore, List.Pairwise.sublist (List.drop_sublist _ _) hs⟩, fun a ha b hb => ?_⟩
 rcases qaC.1 hb with rfl | hb
 ·exact hless a ha
 ·exact hl.tr a p b (hless a ha) (hmore b hb)
theorem yeI (lt : Nat → Nat → Bool) : ∀ k q, q ∈ slay lt k ↔ q < k
 | 0, q => by simp [slay]
 | k + 1, q => by
  show q ∈ sins lt k (slay lt k) ↔ _
  rw [sins_mem, yeI lt k q]
  omega
theorem yeN {lt : Nat → Nat → Bool} {n : Nat} (hl : SOrd lt n) : ∀ k, k ≤ n → yfo lt (slay lt k)
 | 0, _ => qbA
 | k + 1, hk => sins_sort hl k (by omega) _ (yeN hl k (by omega)) fun q hq => by
  have := (yeI lt k q).1 hq
  omega
theorem ygd (lt : Nat → Nat → Bool) : ∀ k, (slay lt k).length = k
 | 0 => rfl
 | k + 1 => by
  show (sins lt k (slay lt k)).length = k + 1
  have h1 := ygd lt k
  have h2 := scut_le lt k (slay lt k)
  unfold sins
  rw [qab, qap, qao, qas]
  omega
theorem slay_unique {lt : Nat → Nat → Bool} {n : Nat} (hl : SOrd lt n) (a : List Nat) (hs : yfo lt a) (hm : ∀ p, p ∈ a ↔ p < n) : a = slay lt n :=
 yfA hl a (slay lt n) hs (yeN hl n (qad _)) fun p => by rw [hm p, yeI]
def slt (s : List UInt8) (p q : Nat) : Bool := Op.bytesLess (s.drop p) (s.drop q)
theorem yco (s : List UInt8) : SOrd (slt s) (s.length + 1) := by
 refine ⟨fun p => ybF _, fun p q r h1 h2 => slt_trans _ _ _ h1 h2, fun p q hp hq hne => yhk _ _ fun e => ?_⟩
 have := qbC List.length e
 rw [qas, qas] at this
 omega
def klt (keys : List Int) (p q : Nat) : Bool := decide (keys.getD p 0 < keys.getD q 0) || (decide (keys.getD p 0 = keys.getD q 0) && decide (p < q))
theorem yeh (keys : List Int) (p q : Nat) : klt keys p q = true ↔ keys.getD p 0 < keys.getD q 0 ∨ (keys.getD p 0 = keys.getD q 0 ∧ p < q) := by simp [klt]
theorem ydP (keys : List Int) (n : Nat) : SOrd (klt keys) n := by
 refine ⟨fun p => ?_, fun p q r h1 h2 => ?_, fun p q hp hq hne => ?_⟩
 ·cases h : klt keys p p with
  | false => rfl
  | true => rw [yeh] at h; omega
 ·rw [yeh] at h1 h2 ⊢
  omega
 ·rw [yeh, yeh]
  omega
def splc (l : List Nat) : List Int := l.map fun p : Nat => (p : Int)
theorem yao (l : List Nat) : (splc l).length = l.length := by simp [splc]
theorem yeJ (l : List Nat) (i : Nat) (h : i < (splc l).length) : (splc l)[i] = ((l[i]'(by rw [yao] at h; exact h) : Nat) : Int) := by simp [splc]
theorem splc_take (l : List Nat) (k : Nat) : (splc l).take k = splc (l.take k) := by simp [splc]
theorem splc_drop (l : List Nat) (k : Nat) : (splc l).drop k = splc (l.drop k) := by simp [splc]
theorem ygm (a b : List Nat) : splc (a ++ b) = splc a ++ splc b := by simp [splc]
def sarr (s : List UInt8) : List Nat := slay (slt s) (s.length + 1)
def saF (s : List UInt8) : List Int × Int := if 20000 < s.length then ([], 3) else (splc (sarr s), 0)
theorem yb0 (s : List UInt8) : (sarr s).length = s.length + 1 := ygd _ _
theorem ybU (s : List UInt8) : yfo (slt s) (sarr s) := yeN (yco s) _ (qad _)
theorem yd7 (s : List UInt8) (p : Nat) : p ∈ sarr s ↔ p < s.length + 1 := yeI _ _ _
theorem sarr_le (s : List UInt8) (i : Nat) (h : i < (sarr s).length) : (sarr s)[i] ≤ s.length := by
 have := (yd7 s _).1 (qaq h)
 omega
theorem yeW (s : List UInt8) : (sarr s).Nodup := yhy (yco s) _ (ybU s)
theorem ybj {l : List Nat} (hn : l.Nodup) {i j : Nat} (hi : i < l.length) (hj : j < l.length) (h : l[i] = l[j]) : i = j := by
 have hp := qaV.1 hn
 rcases qcA i j with h1 | h1 | h1
 ·exact absurd h (hp i j hi hj h1)
 ·exact h1
 ·exact absurd h.symm (hp j i hj hi h1)
theorem sarr_inj (s : List UInt8) (i j : Nat) (hi : i < (sarr s).length) (hj : j < (sarr s).length) (h : (sarr s)[i] = (sarr s)[j]) : i = j := ybj (yeW s) hi hj h
theorem sarr_next (s : List UInt8) (i : Nat) (h : i + 1 < (sarr s).length) : Op.bytesLess (s.drop (sarr s)[i]) (s.drop (sarr s)[i + 1]) = true := yb6 (ybU s) i (i + 1) (by omega) h (by omega)
theorem yen (s : List UInt8) : (sarr s).Perm (List.range (s.length + 1)) := by
 rw [List.perm_iff_count]
 intro p
 rw [(yeW s).count, List.nodup_range.count]
 by_cases h : p < s.length + 1
 ·rw [qag ((yd7 s p).2 h), qag (qaS.2 h)]
 ·rw [qae fun h2 => h ((yd7 s p).1 h2), qae fun h2 => h (qaS.1 h2)]
structure LTh where
 w : Int
 syms : List Nat
 leaf : Bool
def lle (a b : LTh) : Bool := decide (a.w < b.w) || (decide (a.w = b.w) && (a.leaf || !b.leaf))
def lput : List LTh → LTh → List LTh
 | [], x => [x]
 | y :: t, x => if lle y x = true then y :: lput t x else x :: y :: t
def yb5 (a b : LTh) : LTh := ⟨a.w + b.w, a.syms ++ b.syms, false⟩
def yas : List LTh → List LTh
 | a :: b :: t => yb5 a b :: yas t
 | _ => []
def ygx (row leaves : List LTh) : List LTh := leaves.foldl lput ((yas row).foldl lput [])
def lrow (leaves : List LTh) : Nat → List LTh
 | 0 => leaves
 | k + 1 => ygx (lrow leaves k) leaves
theorem ybn (a b : LTh) : lle a b = true ↔ a.w < b.w ∨ (a.w = b.w ∧ (a.leaf = true ∨ b.leaf = false)) := by simp [lle]
theorem lle_w {a b : LTh} (h : lle a b = true) : a.w ≤ b.w := by rw [ybn] at h; omega
theorem ygv {a b c : LTh} (h : lle a b = true) (k : lle b c = true) : lle a c = true := by
 rw [ybn] at *
 rcases h with h | ⟨h, h2⟩ <;> rcases k with k | ⟨k, k2⟩
 ·exact qay (by omega)
 ·exact qay (by omega)
 ·exact qay (by omega)
 ·refine qaI ⟨by omega, ?_⟩
  rcases h2 with h2 | h2
  ·exact qay h2
  ·rcases k2 with k2 | k2
   ·rw [k2] at h2; cases h2
   ·exact qaI k2
theorem lle_total {a b : LTh} (h : lle a b = false) : lle b a = true := by
 have h' : ¬ lle a b = true := by rw [h]; decide
 rw [ybn] at *
 rcases Int.lt_trichotomy a.w b.w with h1 | h1 | h1
 ·exact absurd (qay h1) h'
 ·refine qaI ⟨h1.symm, ?_⟩
  cases hb : b.leaf with
  | true => exact qay rfl
  | false => exact absurd (qaI ⟨h1, qaI hb⟩) h'
 ·exact qay h1
theorem lle_refl (a : LTh) : lle a a = true := by
 rw [ybn]
 refine qaI ⟨rfl, ?_⟩
 cases a.leaf <;> simp
theorem yaY (x : LTh) : ∀ row : List LTh, ∃ r1 r2, row = r1 ++ r2 ∧ lput row x = r1 ++ x :: r2 ∧ (∀ y ∈ r1, lle y x = true) ∧ ∀ y t, r2 = y :: t → lle y x = false
 | [] => ⟨[], [], rfl, rfl, by simp, by simp⟩
 | y :: t => by
  obtain ⟨r1, r2, h1, h2, h3, h4⟩ := yaY x t
  by_cases h : lle y x = true
  ·refine ⟨y :: r1, r2, by rw [h1]; rfl, by unfold lput; rw [qag h, h2]; rfl, ?_, h4⟩
   intro z hz
   rcases qaC.1 hz with rfl | hz
   ·exact h
   ·exact h3 z hz
  ·refine ⟨[], y :: t, rfl, by unfold lput; rw [qae h]; rfl, by simp, ?_⟩
   intro z u e
   injection e with e _
   subst e
   simpa using h
structure LRow (leaves packs R : List LTh) : Prop where
 order : R.Pairwise (fun a b => lle a b = true)
 lv : R.filter (fun x => x.leaf) = leaves
 pk : R.filter (fun x => !x.leaf) = packs
theorem lput_end (x : LTh) : ∀ row : List LTh, (∀ y ∈ row, lle y x = true) → lput row x = row ++ [x]
 | [], _ => rfl
 | y :: t, h => by
  unfold lput
  rw [qag (h y (qa5 ..)), lput_end x t fun z hz => h z (qa4 _ hz)]
  rfl
theorem lput_all : ∀ (xs acc : List LTh), (acc ++ xs).Pairwise (fun a b => lle a b = true) → xs.foldl lput acc = acc ++ xs
 | [], acc, _ => by simp
 | x :: t, acc, h => by
  rw [List.foldl_cons, lput_end x acc fun y hy => (qa2.1 h).2.2 y hy x (qa5 ..)]
  rw [lput_all t (acc ++ [x]) (by rw [qam]; exact h), qam]
  rfl
theorem lput_leaf {leaves packs R : List LTh} (h : LRow leaves packs R) (x : LTh) (hx : x.leaf = true) (hle : ∀ y ∈ leaves, y.w ≤ x.w) : LRow (leaves ++ [x]) packs (lput R x) := by
 obtain ⟨r1, r2, h1, h2, h3, h4⟩ := yaY x R
 have ho := h.order
 rw [h1] at ho
 obtain ⟨o1, o2, o3⟩ := qa2.1 ho
 have hx2 : ∀ z ∈ r2, lle x z = true := by
  intro z hz
  cases hr : r2 with
  | nil => rw [hr] at hz; cases hz
  | cons y t =>
   have hy := lle_total (h4 y t hr)
   rw [hr] at hz o2
   rcases qaC.1 hz with rfl | hz
   ·exact hy
   ·exact ygv hy ((qa9.1 o2).1 z hz)
 have hnl : ∀ z ∈ r2, z.leaf = false := by
  intro z hz
  cases hzl : z.leaf with
  | false => rfl
  | true =>
   exfalso
   have hzw : z.w ≤ x.w := hle z (by rw [← h.lv, h1]; exact qaT.2 ⟨qbp _ hz, hzl⟩)
   cases hr : r2 with
   | nil => rw [hr] at hz; cases hz
   | cons y t =>
    have hy := h4 y t hr
    have hyz : lle y z = true := by
     rw [hr] at hz o2
     rcases qaC.1 hz with rfl | hz
     ·exact lle_refl _
     ·exact (qa9.1 o2).1 z hz
    have hzx : lle z x = true := by
     rw [ybn]
     rcases Int.lt_or_eq_of_le hzw with h5 | h5
     ·exact qay h5
     ·exact qaI ⟨h5, qay hzl⟩
    rw [ygv hyz hzx] at hy
    cases hy
 have hf2 : r2.filter (fun x => x.leaf) = [] := qcg.2 fun z hz => by rw [hnl z hz]; decide
 refine ⟨?_, ?_, ?_⟩
 ·rw [h2, qa2]
  refine ⟨o1, qa9.2 ⟨hx2, o2⟩, ?_⟩
  intro a ha b hb
  rcases qaC.1 hb with rfl | hb
  ·exact h3 a ha
  ·exact o3 a ha b hb
 ·rw [h2, ← h.lv, h1, qbr, qbr, qaG, hf2, qag (by simpa using hx), qa8]
 ·rw [h2, ← h.pk, h1, qbr, qbr, qaG, qae (by simp [hx])]
structure yaP (leaves : List LTh) : Prop where
 all : ∀ x ∈ leaves, x.leaf = true
 order : leaves.Pairwise (fun a b => a.w ≤ b.w)
theorem yf6 : ∀ (xs leaves packs R : List LTh), LRow leaves packs R → (∀ x ∈ xs, x.leaf = true) → (leaves ++ xs).Pairwise (fun a b => a.w ≤ b.w) → LRow (leaves ++ xs) packs (xs.foldl lput R)
 | [], leaves, packs, R, h, _, _ => by simpa using h
 | x :: t, leaves, packs, R, h, ha, ho => by
  have h1 := lput_leaf h x (ha x (qa5 ..)) fun y hy => (qa2.1 ho).2.2 y hy x (qa5 ..)
  have := yf6 t (leaves ++ [x]) packs (lput R x) h1 (fun z hz => ha z (qa4 _ hz)) (by rw [qam]; exact ho)
  rw [qam] at this
  exact this
theorem ybS : ∀ (R : List LTh), ∀ x ∈ yas R, x.leaf = false
 | [], x, h => by cases h
 | [_], x, h => by cases h
 | a :: b :: t, x, h => by
  rcases qaC.1 h with rfl | h
  ·rfl
  ·exact ybS t x h
theorem lpacks_ge : ∀ (R : List LTh) (c : Int), (∀ x ∈ R, c ≤ x.w) → ∀ x ∈ yas R, c + c ≤ x.w
 | [], c, _, x, h => by cases h
 | [_], c, _, x, h => by cases h
 | a :: b :: t, c, hc, x, h => by
  rcases qaC.1 h with rfl | h
  ·have h1 := hc a (by simp)
   have h2 := hc b (by simp)
   show c + c ≤ a.w + b.w
   omega
  ·exact lpacks_ge t c (fun y hy => hc y (by simp [hy])) x h
theorem ydk : ∀ (R : List LTh), R.Pairwise (fun a b => a.w ≤ b.w) → (yas R).Pairwise (fun a b => lle a b = true)
 | [], _ => qbA
 | [_], _ => qbA
 | a :: b :: t, h => by
  obtain ⟨h1, h2⟩ := qa9.1 h
  obtain ⟨h3, h4⟩ := qa9.1 h2
  refine qa9.2 ⟨?_, ydk t h4⟩
  intro x hx
  have hb := lpacks_ge t b.w h3 x hx
  have hab := h1 b (qa5 ..)
  rw [ybn]
  have hw : (yb5 a b).w ≤ x.w := by show a.w + b.w ≤ x.w; omega
  rcases Int.lt_or_eq_of_le hw with h5 | h5
  ·exact qay h5
  ·exact qaI ⟨h5, qaI (ybS t x hx)⟩
theorem ycw : ∀ (R : List LTh), (yas R).length = R.length / 2
 | [] => rfl
 | [_] => by simp [yas]
 | a :: b :: t => by
  show (yas t).length + 1 = (t.length + 1 + 1) / 2
  rw [ycw t]
  omega
theorem yeM {R : List LTh} (h : R.Pairwise (fun a b => lle a b = true)) : R.Pairwise (fun a b => a.w ≤ b.w) := h.imp lle_w
theorem ygC {leaves row : List LTh} (hl : yaP leaves) (hr : row.Pairwise (fun a b => a.w ≤ b.w)) : LRow leaves (yas row) (ygx row leaves) := by
 have hp := ydk row hr
 have h0 : LRow [] (yas row) ((yas row).foldl lput []) := by
  rw [lput_all (yas row) [] (by simpa using hp), qbc]
  exact ⟨hp, qcg.2 fun z hz => by rw [ybS row z hz]; decide, qcE.2 fun z hz => by rw [ybS row z hz]; rfl⟩
 have := yf6 leaves [] (yas row) _ h0 hl.all (by simpa using hl.order)
 simpa [ygx] using this
theorem yfc {leaves : List LTh} (hl : yaP leaves) : ∀ k, (lrow leaves k).Pairwise (fun a b => a.w ≤ b.w)
 | 0 => hl.order
 | k + 1 => yeM (ygC hl (yfc hl k)).order
theorem yb1 {leaves : List LTh} (hl : yaP leaves) (k : Nat) : LRow leaves (yas (lrow leaves k)) (lrow leaves (k + 1)) := ygC hl (yfc hl k)
theorem ydf (R : List LTh) : R.length = (R.filter (fun x => x.leaf)).length + (R.filter (fun x => !x.leaf)).length := by
 induction R with
 | nil => rfl
 | cons a t ih =>
  rw [qaG, qaG]
  cases a.leaf <;> simp <;> omega
theorem ygj {leaves : List LTh} (hl : yaP leaves) (k : Nat) : (lrow leaves (k + 1)).length = leaves.length + (lrow leaves k).length / 2 := by
 have h := yb1 hl k
 rw [ydf, h.lv, h.pk, ycw]
def lsum (f : LTh → Int) : List LTh → Int
 | [] => 0
 | x :: t => f x + lsum f t
theorem ycJ (f : LTh → Int) : ∀ a b : List LTh, lsum f (a ++ b) = lsum f a + lsum f b
 | [], b => by simp [lsum]
 | x :: t, b => by
  show f x + lsum f (t ++ b) = f x + lsum f t + lsum f b
  rw [ycJ f t b]
  omega
theorem lsum_parts (f : LTh → Int) (R : List LTh) : lsum f R = lsum f (R.filter (fun x => x.leaf)) + lsum f (R.filter (fun x => !x.leaf)) := by
 induction R with
 | nil => rfl
 | cons a t ih =>
  rw [qaG, qaG]
  cases a.leaf <;> simp [lsum] <;> omega
def LAdds (f : LTh → Int) : Prop := ∀ a b, f (yb5 a b) = f a + f b
theorem yeT {f : LTh → Int} (hf : LAdds f) : ∀ (R : List LTh) (b : Nat), 2 * b ≤ R.length → lsum f ((yas R).take b) = lsum f (R.take (2 * b))
 | R, 0, _ => by simp [lsum]
 | [], b + 1, h => by simp at h
 | [_], b + 1, h => by simp at h; omega
 | x :: y :: t, b + 1, h => by
  have ih := yeT hf t b (by simp at h; omega)
  rw [show 2 * (b + 1) = 2 * b + 1 + 1 from by omega]
  show lsum f (yb5 x y :: (yas t).take b) = lsum f (x :: y :: t.take (2 * b))
  simp only [lsum, ih, hf x y]
  omega
def lcnt (R : List LTh) (t : Nat) : Nat := ((R.take t).filter (fun x => x.leaf)).length
section
variable {leaves packs R : List LTh}
theorem LRow.take_lv (h : LRow leaves packs R) (t : Nat) : (R.take t).filter (fun x => x.leaf) = leaves.take (lcnt R t) := by
 have e : R.filter (fun x => x.leaf) = (R.take t).filter (fun x => x.leaf) ++ (R.drop t).filter (fun x => x.leaf) := by rw [← qbr, qax]
 rw [h.lv] at e
 rw [e]
 unfold lcnt
 rw [qcd rfl]
theorem LRow.take_pk (h : LRow leaves packs R) (t : Nat) (ht : t ≤ R.length) : (R.take t).filter (fun x => !x.leaf) = packs.take (t - lcnt R t) := by
 have e : R.filter (fun x => !x.leaf) = (R.take t).filter (fun x => !x.leaf) ++ (R.drop t).filter (fun x => !x.leaf) := by rw [← qbr, qax]
 rw [h.pk] at e
 have hl := ydf (R.take t)
 rw [qao, qbf ht] at hl
 rw [e, qcd (by unfold lcnt; omega)]
theorem lcnt_le (R : List LTh) (t : Nat) : lcnt R t ≤ t := by
 unfold lcnt
 have := qcn (fun x : LTh => x.leaf) (R.take t)
 rw [qao] at this
 omega
theorem LRow.cnt_leaves (h : LRow leaves packs R) (t : Nat) : lcnt R t ≤ leaves.length := by
 have := qbC List.length (h.take_lv t)
 rw [qao] at this
 unfold lcnt at *
 omega
theorem LRow.cnt_packs (h : LRow leaves packs R) (t : Nat) (ht : t ≤ R.length) : t - lcnt R t ≤ packs.length := by
 have h1 := qbC List.length (h.take_pk t ht)
 have hl := ydf (R.take t)
 rw [qao, qbf ht] at hl
 rw [qao] at h1
 unfold lcnt at *
 omega
theorem LRow.take_sum (h : LRow leaves packs R) (f : LTh → Int) (t : Nat) (ht : t ≤ R.length) : lsum f (R.take t) = lsum f (leaves.take (lcnt R t)) + lsum f (packs.take (t - lcnt R t)) := by
 rw [lsum_parts, h.take_lv t, h.take_pk t ht]
end
def yej (leaves : List LTh) : Nat → Nat → List Nat
 | 0, t => [t]
 | k + 1, t => lcnt (lrow leaves (k + 1)) t :: yej leaves k (2 * (t - lcnt (lrow leaves (k + 1)) t))
theorem yd4 {leaves : List LTh} (hl : yaP leaves) (k t : Nat) (ht : t ≤ (lrow leaves (k + 1)).length) : 2 * (t - lcnt (lrow leaves (k + 1)) t) ≤ (lrow leaves k).length := by
 have := (yb1 hl k).cnt_packs t ht
 rw [ycw] at this
 omega
def nsum (g : Nat → Int) : List Nat → Int
 | [] => 0
 | x :: t => g x + nsum g t
theorem lprof_sum {leaves : List LTh} (hl : yaP leaves) {f : LTh → Int} (hf : LAdds f) : ∀ k t, t ≤ (lrow leaves k).length → lsum f ((lrow leaves k).take t) = nsum (fun a => lsum f (leaves.take a)) (yej leaves k t)
 | 0, t, _ => by simp [yej, nsum, lrow]
 | k + 1, t, ht => by
  have hn := yd4 hl k t ht
  rw [(yb1 hl k).take_sum f t ht, yeT hf _ _ hn, lprof_sum hl hf k _ hn]
  rfl
theorem yeO (leaves : List LTh) : ∀ k t, (yej leaves k t).length = k + 1
 | 0, t => rfl
 | k + 1, t => by
  show (yej leaves k _).length + 1 = _
  rw [yeO leaves k]
theorem lprof_le {leaves : List LTh} (hl : yaP leaves) : ∀ k t, t ≤ (lrow leaves k).length → ∀ a ∈ yej leaves k t, a ≤ leaves.length
 | 0, t, ht, a, ha => by
  simp [yej] at ha
  subst ha
  exact ht
 | k + 1, t, ht, a, ha => by
  rcases qaC.1 ha with rfl | ha
  ·exact (yb1 hl k).cnt_leaves t
  ·exact lprof_le hl k _ (yd4 hl k t ht) a ha
def lwid : List Nat → Nat
 | [] => 0
 | a :: t => 2 ^ t.length * a + lwid t
theorem lprof_wid {leaves : List LTh} : ∀ k t, lwid (yej leaves k t) = 2 ^ k * t
 | 0, t => by simp [yej, lwid]
 | k + 1, t => by
  show 2 ^ (yej leaves k _).length * _ + lwid (yej leaves k _) = _
  have hc := lcnt_le (lrow leaves (k + 1)) t
  rw [yeO, lprof_wid k]
  generalize lcnt (lrow leaves (k + 1)) t = c at *
  obtain ⟨d, rfl⟩ : ∃ d, t = c + d := ⟨t - c, by omega⟩
  rw [show c + d - c = d from by omega, qaR, Nat.mul_add, qcl, qcl]
theorem LRow.drop_lv {leaves packs R : List LTh} (h : LRow leaves packs R) (t : Nat) : (R.drop t).filter (fun x => x.leaf) = leaves.drop (lcnt R t) := by
 have e : R.filter (fun x => x.leaf) = (R.take t).filter (fun x => x.leaf) ++ (R.drop t).filter (fun x => x.leaf) := by rw [← qbr, qax]
 rw [h.lv] at e
 rw [e]
 unfold lcnt
 rw [qbK rfl]
theorem lpacks_pos : ∀ (R : List LTh), (∀ x ∈ R, 0 < x.w) → ∀ p ∈ yas R, 0 < p.w
 | [], _, p, h => by cases h
 | [_], _, p, h => by cases h
 | a :: b :: t, hp, p, h => by
  rcases qaC.1 h with rfl | h
  ·have h1 := hp a (by simp)
   have h2 := hp b (by simp)
   show 0 < a.w + b.w
   omega
  ·exact lpacks_pos t (fun y hy => hp y (by simp [hy])) p h
theorem lrow_pos {leaves : List LTh} (hl : yaP leaves) (hp : ∀ x ∈ leaves, 0 < x.w) : ∀ k, ∀ x ∈ lrow leaves k, 0 < x.w
 | 0, x, h => hp x h
 | k + 1, x, h => by
  have hr := yb1 hl k
  cases hx : x.leaf with
  | true => exact hp x (by rw [← hr.lv]; exact qaT.2 ⟨h, hx⟩)
  | false => exact lpacks_pos _ (lrow_pos hl hp k) x (by rw [← hr.pk]; exact qaT.2 ⟨h, by simp [hx]⟩)
theorem lpacks_has : ∀ (R : List LTh) (b : Nat), 2 * b ≤ R.length → (∀ x ∈ R, 0 < x.w) → ∀ x ∈ R.take (2 * b), ∃ p ∈ (yas R).take b, x.w < p.w
 | R, 0, _, _, x, h => by simp at h
 | [], b + 1, h, _, x, hx => by simp at h
 | [_], b + 1, h, _, x, hx => by simp at h; omega
 | y :: z :: t, b + 1, h, hp, x, hx => by
  rw [show 2 * (b + 1) = 2 * b + 1 + 1 from by omega] at hx
  have h1 := hp y (by simp)
  have h2 := hp z (by simp)
  rcases qaC.1 hx with rfl | hx
  ·exact ⟨yb5 x z, qa5 .., by show x.w < x.w + z.w; omega⟩
  ·rcases qaC.1 hx with rfl | hx
   ·exact ⟨yb5 y x, qa5 .., by show x.w < y.w + x.w; omega⟩
   ·obtain ⟨p, hp1, hp2⟩ := lpacks_has t b (by simp at h; omega) (fun u hu => hp u (by simp [hu])) x hx
    exact ⟨p, qa4 _ hp1, hp2⟩
theorem lrow_lv {leaves : List LTh} (hl : yaP leaves) (k s : Nat) : ((lrow leaves k).take s).filter (fun x => x.leaf) = leaves.take (lcnt (lrow leaves k) s) := by
 cases k with
 | zero =>
  have h1 : ∀ x ∈ leaves.take s, x.leaf = true := fun x hx => hl.all x (qaN hx)
  show (leaves.take s).filter _ = leaves.take ((leaves.take s).filter _).length
  rw [qcE.2 h1, qao]
  rcases Nat.le_total s leaves.length with h | h
  ·rw [qbf h]
  ·rw [Nat.min_eq_right h, qbT, qar h]
 | succ k => exact (yb1 hl k).take_lv s
theorem lcnt_nest {leaves : List LTh} (hl : yaP leaves) (hp : ∀ x ∈ leaves, 0 < x.w) (k t : Nat) (ht : t ≤ (lrow leaves (k + 1)).length) :
  lcnt (lrow leaves k) (2 * (t - lcnt (lrow leaves (k + 1)) t)) ≤ lcnt (lrow leaves (k + 1)) t := by
 have hr := yb1 hl k
 have hn := yd4 hl k t ht
 have hlv := lrow_lv hl k (2 * (t - lcnt (lrow leaves (k + 1)) t))
 have hpk := hr.take_pk t ht
 have hdl := hr.drop_lv t
 generalize hc : lcnt (lrow leaves (k + 1)) t = c at *
 generalize hc2 : lcnt (lrow leaves k) (2 * (t - c)) = c2 at *
 rcases qbe c c2 with hlt | hge
 ·exfalso
  have hlen : c2 ≤ leaves.length := by
   have h1 := qbC List.length hlv
   rw [qao] at h1
   have h2 : ((List.take (2 * (t - c)) (lrow leaves k)).filter (fun x => x.leaf)).length = c2 := hc2
   omega
  have hcl : c < leaves.length := by omega
  have hm1 : leaves[c] ∈ leaves.take c2 := List.mem_iff_getElem.2 ⟨c, by rw [qao]; omega, by simp⟩
  rw [← hlv] at hm1
  obtain ⟨p, hp1, hp2⟩ := lpacks_has (lrow leaves k) (t - c) hn (lrow_pos hl hp k) leaves[c] (qaT.1 hm1).1
  rw [← hpk] at hp1
  have hpt := (qaT.1 hp1).1
  have hm2 : leaves[c] ∈ leaves.drop c := List.mem_iff_getElem.2 ⟨0, by rw [qas]; omega, by simp⟩
  rw [← hdl] at hm2
  have hxd := (qaT.1 hm2).1
  have ho := yeM hr.order
  rw [← qax t (lrow leaves (k + 1))] at ho
  have := (qa2.1 ho).2.2 p hpt _ hxd
  omega
 ·exact hge
theorem lprof_head {leaves : List LTh} (hl : yaP leaves) : ∀ k t, t ≤ (lrow leaves k).length → ∃ l, yej leaves k t = lcnt (lrow leaves k) t :: l
 | 0, t, ht => by
  refine ⟨[], ?_⟩
  have h1 : ∀ x ∈ leaves.take t, x.leaf = true := fun x hx => hl.all x (qaN hx)
  show [t] = [((leaves.take t).filter _).length]
  rw [qcE.2 h1, qao, qbf (show t ≤ leaves.length from ht)]
 | k + 1, t, _ => ⟨_, rfl⟩
theorem ygU {leaves : List LTh} (hl : yaP leaves) (hp : ∀ x ∈ leaves, 0 < x.w) : ∀ k t, t ≤ (lrow leaves k).length → (yej leaves k t).Pairwise (fun a b => b ≤ a)
 | 0, t, _ => by simp [yej]
 | k + 1, t, ht => by
  have hn := yd4 hl k t ht
  have ih := ygU hl hp k _ hn
  refine qa9.2 ⟨?_, ih⟩
  have hnest := lcnt_nest hl hp k t ht
  obtain ⟨l, hl2⟩ := lprof_head hl k _ hn
  rw [hl2] at ih ⊢
  intro a ha
  rcases qaC.1 ha with rfl | ha
  ·exact hnest
  ·exact qaA ((qa9.1 ih).1 a ha) hnest
def lof (A : List Nat) (r : Nat) : Nat := (A.filter (fun a => decide (r < a))).length
def lpart : List Nat → Nat → Nat
 | [], _ => 0
 | a :: t, r => (if r < a then 2 ^ t.length else 0) + lpart t r
def rsum (g : Nat → Nat) : Nat → Nat
 | 0 => 0
 | n + 1 => rsum g n + g n
theorem rsum_add (g h : Nat → Nat) : ∀ n, rsum (fun r => g r + h r) n = rsum g n + rsum h n
 | 0 => rfl
 | n + 1 => by
  simp only [rsum, rsum_add g h n]
  omega
theorem rsum_congr {g h : Nat → Nat} : ∀ n, (∀ r, r < n → g r = h r) → rsum g n = rsum h n
 | 0, _ => rfl
 | n + 1, e => by
  simp only [rsum]
  rw [rsum_congr n fun r hr => e r (by omega), e n (by omega)]
theorem yfr (c : Nat) : ∀ n, rsum (fun _ => c) n = c * n
 | 0 => rfl
 | n + 1 => by
  simp only [rsum, yfr c n, Nat.mul_succ]
theorem rsum_below (c a : Nat) : ∀ n, rsum (fun r => if r < a then c else 0) n = c * min a n
 | 0 => by simp [rsum]
 | n + 1 => by
  simp only [rsum, rsum_below c a n]
  by_cases h : n < a
  ·rw [qag h, Nat.min_eq_right (by omega), Nat.min_eq_right (by omega), Nat.mul_succ]
  ·rw [qae h, qbf (by omega), qbf (by omega)]
   rfl
theorem lpart_sum (m : Nat) : ∀ A : List Nat, (∀ a ∈ A, a ≤ m) → rsum (lpart A) m = lwid A
 | [], _ => by
  have := yfr 0 m
  simp at this
  exact this
 | a :: t, h => by
  have ih := lpart_sum m t fun x hx => h x (qa4 _ hx)
  have ha := h a (qa5 ..)
  show rsum (fun r => (if r < a then 2 ^ t.length else 0) + lpart t r) m = 2 ^ t.length * a + lwid t
  rw [rsum_add, rsum_below, qbf ha, ih]
theorem lof_le (A : List Nat) (r : Nat) : lof A r ≤ A.length := qcn _ _
theorem ygl (a : Nat) (t : List Nat) (r : Nat) : lof (a :: t) r = (if r < a then 1 else 0) + lof t r := by
 unfold lof
 rw [qaG]
 by_cases h : r < a
 ·simp [h]; omega
 ·simp [h]
theorem lpart_lof : ∀ (A : List Nat), A.Pairwise (fun a b => b ≤ a) → ∀ r, lpart A r + 2 ^ (A.length - lof A r) = 2 ^ A.length
 | [], _, r => by simp [lpart, lof]
 | a :: t, h, r => by
  obtain ⟨h1, h2⟩ := qa9.1 h
  have ih := lpart_lof t h2 r
  have hle := lof_le t r
  rw [ygl, qap]
  unfold lpart
  by_cases hr : r < a
  ·rw [qag hr, qag hr, show t.length + 1 - (1 + lof t r) = t.length - lof t r from by omega, qaR]
   omega
  ·have h0 : lof t r = 0 := by
    unfold lof
    rw [qa1, qcg]
    intro x hx
    have := h1 x hx
    simp
    omega
   rw [h0] at ih ⊢
   rw [qae hr, qae hr]
   simp only [qc1, qbv] at ih ⊢
   omega
theorem lof_mono (A : List Nat) {r r' : Nat} (h : r ≤ r') : lof A r' ≤ lof A r := by
 induction A with
 | nil => exact qad _
 | cons a t ih =>
  rw [ygl, ygl]
  by_cases h1 : r' < a
  ·rw [qag h1, qag (by omega)]; omega
  ·rw [qae h1]; omega
theorem lof_full (A : List Nat) (m k : Nat) (hlen : A.length = k + 1) (hle : ∀ a ∈ A, a ≤ m) (hdec : A.Pairwise (fun a b => b ≤ a)) (hw : lwid A = 2 ^ k * (2 * m - 2)) (hm : 2 ≤ m) :
  rsum (fun r => 2 ^ (k + 1 - lof A r)) m = 2 ^ (k + 1) := by
 have h1 := lpart_sum m A hle
 have h2 : rsum (fun r => lpart A r + 2 ^ (k + 1 - lof A r)) m = 2 ^ (k + 1) * m := by
  rw [← yfr (2 ^ (k + 1)) m]
  refine rsum_congr m fun r _ => ?_
  have := lpart_lof A hdec r
  rw [hlen] at this
  exact this
 rw [rsum_add, h1, hw] at h2
 obtain ⟨j, rfl⟩ : ∃ j, m = j + 2 := ⟨m - 2, by omega⟩
 have e1 : 2 ^ k * (2 * (j + 2) - 2) = 2 * (2 ^ k * (j + 1)) := by rw [show 2 * (j + 2) - 2 = 2 * (j + 1) from by omega, Nat.mul_left_comm]
 have e2 : 2 ^ (k + 1) * (j + 2) = 2 * (2 ^ k * (j + 1)) + 2 ^ (k + 1) := by
  rw [Nat.mul_succ, qaR, qb6 (2 ^ k) 2, qcl]
 rw [e1, e2] at h2
 omega
theorem rsum_ge (g : Nat → Nat) : ∀ n i, i < n → g i ≤ rsum g n
 | 0, i, h => by omega
 | n + 1, i, h => by
  simp only [rsum]
  rcases qbe i n with h1 | h1
  ·have := rsum_ge g n i h1; omega
  ·obtain rfl : i = n := by omega
   omega
theorem rsum_two (g : Nat → Nat) : ∀ n i j, i < n → j < n → i ≠ j → g i + g j ≤ rsum g n
 | 0, i, j, h, _, _ => by omega
 | n + 1, i, j, h, k, hne => by
  simp only [rsum]
  rcases qbe i n with h1 | h1
  ·rcases qbe j n with h2 | h2
   ·have := rsum_two g n i j h1 h2 hne; omega
   ·obtain rfl : j = n := by omega
    have := rsum_ge g j i h1; omega
  ·obtain rfl : i = n := by omega
   have := rsum_ge g i j (by omega); omega
theorem lof_pos (A : List Nat) (m k : Nat) (hfull : rsum (fun r => 2 ^ (k + 1 - lof A r)) m = 2 ^ (k + 1)) (hm : 2 ≤ m) (r : Nat) (hr : r < m) : 1 ≤ lof A r := by
 rcases qbm (lof A r) with h0 | h0
 ·exfalso
  obtain ⟨j, hj, hne⟩ : ∃ j, j < m ∧ r ≠ j := by
   by_cases h : r = 0
   ·exact ⟨1, by omega, by omega⟩
   ·exact ⟨0, by omega, h⟩
  have := rsum_two (fun r => 2 ^ (k + 1 - lof A r)) m r j hr hj hne
  rw [hfull, h0, qc1] at this
  have hp : 0 < 2 ^ (k + 1 - lof A j) := qaX (by omega)
  omega
 ·exact h0
def ycc : List Nat → Nat
 | [] => 0
 | c :: t => c + ycc t / 2
theorem lfloor_wid : ∀ (c : List Nat) (k : Nat), c.length = k + 1 → lwid c < 2 ^ k * (ycc c + 1)
 | [c], 0, _ => by simp [lwid, ycc]
 | c :: d :: t, k + 1, h => by
  have hl : (d :: t).length = k + 1 := by simpa using h
  have ih := lfloor_wid (d :: t) k hl
  show 2 ^ (d :: t).length * c + lwid (d :: t) < 2 ^ (k + 1) * (c + ycc (d :: t) / 2 + 1)
  rw [hl]
  generalize ycc (d :: t) = F at *
  generalize lwid (d :: t) = W at *
  have h2 : F + 1 ≤ 2 * (F / 2 + 1) := by omega
  have h3 : 2 ^ k * (F + 1) ≤ 2 ^ k * (2 * (F / 2 + 1)) := qci _ h2
  rw [← qcl, ← qaR] at h3
  rw [qbU, Nat.mul_add]
  generalize 2 ^ (k + 1) * (F / 2 + 1) = X at *
  generalize 2 ^ k * (F + 1) = Y at *
  generalize 2 ^ (k + 1) * c = Z at *
  omega
 | [c], k + 1, h => by simp at h
 | c :: d :: t, 0, h => by simp at h
 | [], k, h => by simp at h
theorem yg8 {leaves : List LTh} (hl : yaP leaves) : ∀ (c : List Nat) (k : Nat), c.length = k + 1 → (∀ x ∈ c, x ≤ leaves.length) → ycc c ≤ (lrow leaves k).length
 | [c], 0, _, h => by
  have := h c (by simp)
  show c + 0 / 2 ≤ leaves.length
  omega
 | c :: d :: t, k + 1, h, hc => by
  have ih := yg8 hl (d :: t) k (by simpa using h) fun x hx => hc x (qa4 _ hx)
  have h1 := hc c (qa5 ..)
  rw [ygj hl k]
  show c + ycc (d :: t) / 2 ≤ _
  omega
 | [c], k + 1, h, _ => by simp at h
 | c :: d :: t, 0, h, _ => by simp at h
 | [], k, h, _ => by simp at h
theorem yez (f : LTh → Int) (τ : Int) : ∀ (l : List LTh) (a c : Nat), a ≤ l.length → c ≤ l.length → (∀ x ∈ l.take a, f x ≤ τ) → (∀ x ∈ l.drop a, τ ≤ f x) → lsum f (l.take a) - a * τ ≤ lsum f (l.take c) - c * τ
 | l, 0, 0, _, _, _, _ => Int.le_refl _
 | [], a + 1, c, h, _, _, _ => by simp at h
 | [], 0, c + 1, _, h, _, _ => by simp at h
 | x :: t, 0, c + 1, _, hc, h1, h2 => by
  have ih := yez f τ t 0 c (by omega) (by simpa using hc) (by simp) (fun y hy => h2 y (qa4 _ hy))
  have hx := h2 x (qa5 ..)
  simp only [qaM, qbb, lsum] at ih ⊢
  have e : ((c + 1 : Nat) : Int) * τ = c * τ + τ := by rw [qbB, Int.add_mul]; simp
  rw [e]
  omega
 | x :: t, a + 1, 0, ha, _, h1, h2 => by
  have ih := yez f τ t a 0 (by simpa using ha) (by omega) (fun y hy => h1 y (qa4 _ hy)) h2
  have hx := h1 x (qa5 ..)
  simp only [qaM, qbb, lsum] at ih ⊢
  have e : ((a + 1 : Nat) : Int) * τ = a * τ + τ := by rw [qbB, Int.add_mul]; simp
  rw [e]
  omega
 | x :: t, a + 1, c + 1, ha, hc, h1, h2 => by
  have ih := yez f τ t a c (by simpa using ha) (by simpa using hc) (fun y hy => h1 y (qa4 _ hy)) h2
  simp only [qaM, lsum] at ih ⊢
  have e1 : ((a + 1 : Nat) : Int) * τ = a * τ + τ := by rw [qbB, Int.add_mul]; simp
  have e2 : ((c + 1 : Nat) : Int) * τ = c * τ + τ := by rw [qbB, Int.add_mul]; simp
  rw [e1, e2]
  omega
theorem ycE (f : LTh → Int) : ∀ l : List LTh, (∀ x ∈ l, 0 ≤ f x) → 0 ≤ lsum f l
 | [], _ => by simp [lsum]
 | x :: t, h => by
  have h1 := h x (qa5 ..)
  have h2 := ycE f t fun y hy => h y (qa4 _ hy)
  show 0 ≤ f x + lsum f t
  omega
theorem LRow.exchange {leaves packs R : List LTh} (h : LRow leaves packs R) (hp : ∀ x ∈ R, 0 < x.w) (t c s : Nat) (ht : t ≤ R.length) (hc : c ≤ leaves.length) (hs : s ≤ packs.length) (hcs : t ≤ c + s) :
  lsum (·.w) (R.take t) ≤ lsum (·.w) (leaves.take c) + lsum (·.w) (packs.take s) := by
 rcases qbm t with h0 | h0
 ·subst h0
  have h1 := ycE (·.w) (leaves.take c) fun x hx => by
   have := qaN hx
   rw [← h.lv] at this
   have := hp x (qaT.1 this).1
   show 0 ≤ x.w
   omega
  have h2 := ycE (·.w) (packs.take s) fun x hx => by
   have := qaN hx
   rw [← h.pk] at this
   have := hp x (qaT.1 this).1
   show 0 ≤ x.w
   omega
  simp only [qbb, lsum]
  omega
 ·have ho := yeM h.order
  obtain ⟨τ, h1, h2, h3⟩ : ∃ τ : Int, (∀ x ∈ R.take t, x.w ≤ τ) ∧ (∀ x ∈ R.drop t, τ ≤ x.w) ∧ 0 ≤ τ := by
   have hlt : t - 1 < R.length := by omega
   refine ⟨R[t - 1].w, ?_, ?_, Int.le_of_lt (hp _ (qaq hlt))⟩
   ·intro x hx
    obtain ⟨i, hi, rfl⟩ := qaJ hx
    rw [qao] at hi
    rw [qc9]
    rcases qbe i (t - 1) with h4 | h4
    ·exact qaV.1 ho i (t - 1) (by omega) hlt h4
    ·obtain rfl : i = t - 1 := by omega
     exact Int.le_refl _
   ·intro x hx
    obtain ⟨i, hi, rfl⟩ := qaJ hx
    rw [qas] at hi
    rw [qbL]
    exact qaV.1 ho (t - 1) (t + i) hlt (by omega) (by omega)
  have e1 := h.take_lv t
  have e2 := h.take_pk t ht
  have e3 := h.drop_lv t
  have e4 : (R.drop t).filter (fun x => !x.leaf) = packs.drop (t - lcnt R t) := by
   have e : R.filter (fun x => !x.leaf) = (R.take t).filter (fun x => !x.leaf) ++ (R.drop t).filter (fun x => !x.leaf) := by rw [← qbr, qax]
   rw [h.pk, e2] at e
   have := qax (t - lcnt R t) packs
   rw [← this] at e
   exact (List.append_cancel_left (by rw [qax] at e ⊢; exact e)).symm
  have ha := h.cnt_leaves t
  have hb := h.cnt_packs t ht
  have hle := lcnt_le R t
  rw [h.take_sum (·.w) t ht]
  generalize lcnt R t = a at *
  have g1 := yez (·.w) τ leaves a c ha hc (fun x hx => h1 x (by rw [← e1] at hx; exact (qaT.1 hx).1)) (fun x hx => h2 x (by rw [← e3] at hx; exact (qaT.1 hx).1))
  have g2 := yez (·.w) τ packs (t - a) s hb hs (fun x hx => h1 x (by rw [← e2] at hx; exact (qaT.1 hx).1)) (fun x hx => h2 x (by rw [← e4] at hx; exact (qaT.1 hx).1))
  have g3 : (a : Int) * τ + ((t - a : Nat) : Int) * τ ≤ (c : Int) * τ + (s : Int) * τ := by
   rw [← Int.add_mul, ← Int.add_mul]
   exact qco (by omega) h3
  omega
theorem lrow_least {leaves : List LTh} (hl : yaP leaves) (hp : ∀ x ∈ leaves, 0 < x.w) : ∀ (c : List Nat) (k t : Nat), c.length = k + 1 → (∀ x ∈ c, x ≤ leaves.length) → t ≤ ycc c →
  lsum (·.w) ((lrow leaves k).take t) ≤ nsum (fun a => lsum (·.w) (leaves.take a)) c
 | [c], 0, t, _, hc, ht => by
  have h1 : c ≤ leaves.length := hc c (by simp)
  have h2 : t ≤ c := by simpa [ycc] using ht
  show lsum (·.w) (leaves.take t) ≤ lsum (·.w) (leaves.take c) + 0
  have e : leaves.take c = leaves.take t ++ (leaves.take c).drop t := by
   conv => lhs; rw [← qax t (leaves.take c)]
   rw [List.take_take, qbf h2]
  rw [e, ycJ]
  have := ycE (·.w) ((leaves.take c).drop t) fun x hx => Int.le_of_lt (hp x (qaN (qbg hx)))
  omega
 | c :: d :: u, k + 1, t, hlen, hc, ht => by
  have hlen2 : (d :: u).length = k + 1 := by simpa using hlen
  have hc2 : ∀ x ∈ d :: u, x ≤ leaves.length := fun x hx => hc x (qa4 _ hx)
  have hc1 := hc c (qa5 ..)
  have hfl := yg8 hl (d :: u) k hlen2 hc2
  have ht2 : t ≤ c + ycc (d :: u) / 2 := ht
  have hrl := ygj hl k
  obtain ⟨s, hs1, hs2⟩ : ∃ s, t ≤ c + s ∧ 2 * s ≤ ycc (d :: u) := ⟨t - c, by omega, by omega⟩
  have ih := lrow_least hl hp (d :: u) k (2 * s) hlen2 hc2 hs2
  have hadd : LAdds (·.w) := fun a b => rfl
  have hex := (yb1 hl k).exchange (lrow_pos hl hp (k + 1)) t c s (by omega) hc1 (by rw [ycw]; omega) hs1
  rw [yeT hadd _ _ (by omega)] at hex
  show _ ≤ lsum (·.w) (leaves.take c) + nsum _ (d :: u)
  omega
 | [c], k + 1, t, h, _, _ => by simp at h
 | c :: d :: u, 0, t, h, _, _ => by simp at h
 | [], k, t, h, _, _ => by simp at h
theorem yac {P : Program} {w : World} {ops : Array Oper} {o : Oper} {a : Act} {K : Act → World → Prop} {Q : Exit → Act → World → Prop} {E : Prop} (hgd : o.guard = none) (s x : Operand) (t : TypeId)
  (ho : o.op = .call { callee := .builtin .append, args := #[s, x], argTypes := #[t, t] })
  (base : Nat) (e : TypeId) (i : TypeInfo) (z : Value) (size bytes : Nat) (ht : P.underlying t = some (.slice e)) (hi : P.info? e = some i) (hz : i.zero = some z)
  (hsize : i.size = size) (hby : i.bytes = bytes) (hzs : z.cells.size = size) (hsz : 0 < size)
  (v : Value) (n : Nat) (xs : List Value) (hs : a.eval s = v) (hown : w.ownsRow base e size v n xs)
  (Ax : Option Addr) (m c B : Nat) (news : List Value) (hx : a.eval x = .slice Ax m c) (hr : Reads w B size Ax m news) (h1 : ∀ u ∈ news, u.oneCell' = true)
  (h63 : n + m ≤ maxLen) (hbytes : (n + m) * bytes ≤ 140737488355328) (hbase : base ≤ w.heap.size) (N : Nat) (hN : n + m = N)
  (h : ∀ A' c' w', w'.ownsRow base e size (.slice A' N c') N (xs ++ news) → w.grownBy w' v.ownBlock → Sep w v (.slice A' N c') → K (a.put o.dst (.slice A' N c')) w') :
  if Region.wanted o (yielded ops a.tmps) = true then Oper.wp P o a w K Q else E := by
 subst hN
 have hw : Region.wanted o (yielded ops a.tmps) = true := by simp [Region.wanted, hgd]
 rw [qag hw]
 obtain ⟨v', w', hrun, h2, h3, h4⟩ := ydH (P := P) w base t o.type e i z size bytes ht hi hz hsize hby hzs hsz v n xs hown Ax m c B news hr h1 h63 hbytes hbase
 obtain ⟨A2, c2, rfl, _, _⟩ := yae h2
 unfold Oper.wp execOp
 simp only [ho, resolve, invoke, builtin, Sem.run_bind, Sem.run_pure, Result.andThen_ok, List.map_toArray, qcz, List.map_nil, hs, hx, hrun]
 exact h A2 c2 w' h2 h3 h4
def wsum (p : Nat → Nat → Bool) : Nat → List Nat → Nat
 | _, [] => 0
 | i, x :: t => (if p i x = true then 2 ^ (15 - x) else 0) + wsum p (i + 1) t
theorem yc3 {p q : Nat → Nat → Bool} : ∀ (l : List Nat) (i : Nat), (∀ j (h : j < l.length), p (i + j) l[j] = q (i + j) l[j]) → wsum p i l = wsum q i l
 | [], _, _ => rfl
 | x :: t, i, h => by
  have h0 := h 0 (by simp)
  have ih := yc3 (p := p) (q := q) t (i + 1) fun j hj => by
   have := h (j + 1) (by simpa using hj)
   rw [show i + (j + 1) = i + 1 + j from by omega] at this
   exact this
  simp only [qbv, qaE] at h0
  show (if p i x = true then _ else 0) + wsum p (i + 1) t = _
  rw [h0, ih]
  rfl
theorem wsum_le {p q : Nat → Nat → Bool} : ∀ (l : List Nat) (i : Nat), (∀ j (h : j < l.length), p (i + j) l[j] = true → q (i + j) l[j] = true) → wsum p i l ≤ wsum q i l
 | [], _, _ => qad _
 | x :: t, i, h => by
  have h0 := h 0 (by simp)
  have ih := wsum_le (p := p) (q := q) t (i + 1) fun j hj => by
   have := h (j + 1) (by simpa using hj)
   rw [show i + (j + 1) = i + 1 + j from by omega] at this
   exact this
  simp only [qbv, qaE] at h0
  show (if p i x = true then _ else 0) + wsum p (i + 1) t ≤ (if q i x = true then _ else 0) + wsum q (i + 1) t
  by_cases hp : p i x = true
  ·rw [qag hp, qag (h0 hp)]; omega
  ·rw [qae hp]; omega
theorem wsum_two {p q : Nat → Nat → Bool} : ∀ (l : List Nat) (i k : Nat) (hk : k < l.length), (∀ j (h : j < l.length), p (i + j) l[j] = true → q (i + j) l[j] = true) → p (i + k) l[k] = false → q (i + k) l[k] = true → wsum p i l + 2 ^ (15 - l[k]) ≤ wsum q i l
 | x :: t, i, 0, _, h, hp, hq => by
  simp only [qbv, qaE] at hp hq
  have ih := wsum_le (p := p) (q := q) t (i + 1) fun j hj => by
   have := h (j + 1) (by simpa using hj)
   rw [show i + (j + 1) = i + 1 + j from by omega] at this
   exact this
  show (if p i x = true then _ else 0) + wsum p (i + 1) t + 2 ^ (15 - x) ≤ (if q i x = true then _ else 0) + wsum q (i + 1) t
  rw [qae (by rw [hp]; decide), qag hq]
  omega
 | x :: t, i, k + 1, hk, h, hp, hq => by
  have h0 := h 0 (by simp)
  simp only [qbv, qaE] at h0
  have ih := wsum_two (p := p) (q := q) t (i + 1) k (by simpa using hk) (fun j hj => by
   have := h (j + 1) (by simpa using hj)
   rw [show i + (j + 1) = i + 1 + j from by omega] at this
   exact this) (by rw [show i + (k + 1) = i + 1 + k from by omega] at hp; exact hp) (by rw [show i + (k + 1) = i + 1 + k from by omega] at hq; exact hq)
  show (if p i x = true then _ else 0) + wsum p (i + 1) t + 2 ^ (15 - t[k]'(by simpa using hk)) ≤ (if q i x = true then _ else 0) + wsum q (i + 1) t
  by_cases hp2 : p i x = true
  ·rw [qag hp2, qag (h0 hp2)]; omega
  ·rw [qae hp2]; omega
theorem wsum_one {p q : Nat → Nat → Bool} : ∀ (l : List Nat) (i k : Nat) (hk : k < l.length), (∀ j (h : j < l.length), j ≠ k → p (i + j) l[j] = q (i + j) l[j]) → p (i + k) l[k] = false → q (i + k) l[k] = true → wsum p i l + 2 ^ (15 - l[k]) = wsum q i l
 | x :: t, i, 0, _, h, hp, hq => by
  simp only [qbv, qaE] at hp hq
  have ih := yc3 (p := p) (q := q) t (i + 1) fun j hj => by
   have := h (j + 1) (by simpa using hj) (by omega)
   rw [show i + (j + 1) = i + 1 + j from by omega] at this
   exact this
  show (if p i x = true then _ else 0) + wsum p (i + 1) t + 2 ^ (15 - x) = (if q i x = true then _ else 0) + wsum q (i + 1) t
  rw [qae (by rw [hp]; decide), qag hq, ih]
  omega
 | x :: t, i, k + 1, hk, h, hp, hq => by
  have h0 := h 0 (by simp) (by omega)
  simp only [qbv, qaE] at h0
  have ih := wsum_one (p := p) (q := q) t (i + 1) k (by simpa using hk) (fun j hj hne => by
   have := h (j + 1) (by simpa using hj) (by omega)
   rw [show i + (j + 1) = i + 1 + j from by omega] at this
   exact this) (by rw [show i + (k + 1) = i + 1 + k from by omega] at hp; exact hp) (by rw [show i + (k + 1) = i + 1 + k from by omega] at hq; exact hq)
  show (if p i x = true then _ else 0) + wsum p (i + 1) t + 2 ^ (15 - t[k]'(by simpa using hk)) = (if q i x = true then _ else 0) + wsum q (i + 1) t
  rw [h0]
  omega
theorem wsum_dvd {p : Nat → Nat → Bool} (n : Nat) (hn : n ≤ 15) : ∀ (l : List Nat) (i : Nat), (∀ j (h : j < l.length), p (i + j) l[j] = true → l[j] ≤ n) → 2 ^ (15 - n) ∣ wsum p i l
 | [], _, _ => ⟨0, rfl⟩
 | x :: t, i, h => by
  have h0 := h 0 (by simp)
  simp only [qbv, qaE] at h0
  have ih := wsum_dvd (p := p) n hn t (i + 1) fun j hj => by
   have := h (j + 1) (by simpa using hj)
   rw [show i + (j + 1) = i + 1 + j from by omega] at this
   exact this
  show 2 ^ (15 - n) ∣ (if p i x = true then _ else 0) + wsum p (i + 1) t
  refine Nat.dvd_add ?_ ih
  by_cases hp : p i x = true
  ·rw [qag hp]
   exact Nat.pow_dvd_pow 2 (by have := h0 hp; omega)
  ·rw [qae hp]
   exact ⟨0, rfl⟩
def call (ls : List Nat) : Nat := wsum (fun _ x => decide (0 < x)) 0 ls
def cpos (ls : List Nat) (n s : Nat) : Nat := wsum (fun j x => decide (0 < x) && (decide (x < n) || (decide (x = n) && decide (j < s)))) 0 ls
section
variable {ls : List Nat}
theorem ycz (s : Nat) : cpos ls 0 s = 0 := by
 have h : ∀ (l : List Nat) (i : Nat), wsum (fun j x => decide (0 < x) && (decide (x < 0) || (decide (x = 0) && decide (j < s)))) i l = 0 := by
  intro l
  induction l with
  | nil => intro i; rfl
  | cons x t ih =>
   intro i
   show (if _ then _ else 0) + wsum _ (i + 1) t = 0
   rw [ih (i + 1), qae (by simp; omega)]
 exact h ls 0
theorem ycu (n s : Nat) (h : ls.length ≤ s) : cpos ls n s = cpos ls (n + 1) 0 := by
 refine yc3 ls 0 fun j hj => ?_
 rw [qaz]
 by_cases h1 : ls[j] < n
 ·simp [h1, show ls[j] < n + 1 by omega]
 ·by_cases h2 : ls[j] = n
  ·simp [h2, show j < s by omega]
  ·simp [h1, h2, show ¬ ls[j] < n + 1 by omega]
theorem yey (n s : Nat) (h : ∀ hs : s < ls.length, ls[s] ≠ n) : cpos ls n (s + 1) = cpos ls n s := by
 refine yc3 ls 0 fun j hj => ?_
 rw [qaz]
 by_cases h2 : ls[j] = n
 ·by_cases e : j = s
  ·subst e; exact absurd h2 (h hj)
  ·simp [h2, show (j < s + 1) = (j < s) from by simp; omega]
 ·simp [h2]
theorem ygY (n s : Nat) (hs : s < ls.length) (h : ls[s] = n) (hn : 0 < n) : cpos ls n (s + 1) = cpos ls n s + 2 ^ (15 - n) := by
 have := wsum_one (p := fun j x => decide (0 < x) && (decide (x < n) || (decide (x = n) && decide (j < s)))) (q := fun j x => decide (0 < x) && (decide (x < n) || (decide (x = n) && decide (j < s + 1)))) ls 0 s hs (fun j hj hne => by
  rw [qaz]
  simp only [show decide (j < s + 1) = decide (j < s) from by simp; omega]) (by simp [h]) (by simp [h, hn])
 rw [h] at this
 exact this.symm
theorem cpos_dvd (n s : Nat) (hn : n ≤ 15) : 2 ^ (15 - n) ∣ cpos ls n s := wsum_dvd n hn ls 0 fun j hj h => by
 simp only [qca, Bool.or_eq_true, qck] at h
 omega
theorem ybJ (n s n' s' : Nat) (hs : s < ls.length) (h : ls[s] = n) (hn : 0 < n) (hl : n < n' ∨ (n = n' ∧ s < s')) : cpos ls n s + 2 ^ (15 - n) ≤ cpos ls n' s' := by
 have := wsum_two (p := fun j x => decide (0 < x) && (decide (x < n) || (decide (x = n) && decide (j < s)))) (q := fun j x => decide (0 < x) && (decide (x < n') || (decide (x = n') && decide (j < s')))) ls 0 s hs (fun j hj hp => by
  rw [qaz] at *
  simp only [qca, Bool.or_eq_true, qck] at hp ⊢
  omega) (by simp [h]) (by
  rw [qaz, h]
  simp only [qca, Bool.or_eq_true, qck]
  omega)
 rw [h] at this
 exact this
theorem cpos_all (n s : Nat) (hs : s < ls.length) (h : ls[s] = n) (hn : 0 < n) : cpos ls n s + 2 ^ (15 - n) ≤ call ls := by
 have := wsum_two (p := fun j x => decide (0 < x) && (decide (x < n) || (decide (x = n) && decide (j < s)))) (q := fun _ x => decide (0 < x)) ls 0 s hs (fun j hj hp => by
  simp only [qca] at hp
  exact hp.1) (by simp [h]) (by simp [h, hn])
 rw [h] at this
 exact this
theorem cpos_end (h : ∀ x ∈ ls, x ≤ 15) : cpos ls 16 0 = call ls := by
 refine yc3 ls 0 fun j hj => ?_
 have := h ls[j] (qaq hj)
 simp [show ls[j] < 16 by omega]
theorem yeB (v : Nat) : ∀ n s, v < cpos ls n s → ∃ k, ∃ hk : k < ls.length, 0 < ls[k] ∧ cpos ls ls[k] k ≤ v ∧ v < cpos ls ls[k] k + 2 ^ (15 - ls[k])
 | 0, s, h => by rw [ycz] at h; omega
 | n + 1, 0, h => by
  rw [← ycu n ls.length (qad _)] at h
  exact yeB v n ls.length h
 | n + 1, s + 1, h => by
  by_cases hs : ∃ hs : s < ls.length, ls[s] = n + 1
  ·obtain ⟨hs, e⟩ := hs
   rw [ygY (n + 1) s hs e (by omega)] at h
   by_cases hv : v < cpos ls (n + 1) s
   ·exact yeB v (n + 1) s hv
   ·exact ⟨s, hs, by omega, by rw [e]; omega, by rw [e]; exact h⟩
  ·rw [yey (n + 1) s fun hs2 e => hs ⟨hs2, e⟩] at h
   exact yeB v (n + 1) s h
termination_by n s => (n, s)
theorem cpos_only (v k k' : Nat) (hk : k < ls.length) (hk' : k' < ls.length) (h : 0 < ls[k]) (h' : 0 < ls[k']) (a : cpos ls ls[k] k ≤ v ∧ v < cpos ls ls[k] k + 2 ^ (15 - ls[k])) (b : cpos ls ls[k'] k' ≤ v ∧ v < cpos ls ls[k'] k' + 2 ^ (15 - ls[k'])) : k = k' := by
 rcases qcA ls[k] ls[k'] with e | e | e
 ·have := ybJ ls[k] k ls[k'] k' hk rfl h (qay e)
  omega
 ·rcases qcA k k' with e2 | e2 | e2
  ·have := ybJ ls[k] k ls[k'] k' hk rfl h (qaI ⟨e, e2⟩)
   omega
  ·exact e2
  ·have := ybJ ls[k'] k' ls[k] k hk' rfl h' (qaI ⟨e.symm, e2⟩)
   omega
 ·have := ybJ ls[k'] k' ls[k] k hk' rfl h' (qay e)
  omega
def ybs (ls : List Nat) (n s : Nat) : Nat := cpos ls n s / 2 ^ (15 - n)
theorem ycx (n s : Nat) (hn : n ≤ 15) : ybs ls n s * 2 ^ (15 - n) = cpos ls n s := Nat.div_mul_cancel (cpos_dvd n s hn)
theorem cword_lt (n s : Nat) (hs : s < ls.length) (h : ls[s] = n) (hn : 0 < n ∧ n ≤ 15) (hc : call ls ≤ 32768) : ybs ls n s < 2 ^ n := by
 have h1 := cpos_all n s hs h hn.1
 have h2 := ycx (ls := ls) n s hn.2
 have h3 : (2 : Nat) ^ n * 2 ^ (15 - n) = 32768 := by rw [← qbF, show n + (15 - n) = 15 from by omega]
 have h4 : 0 < (2 : Nat) ^ (15 - n) := qaX (by omega)
 rcases qbe (ybs ls n s) (2 ^ n) with e | e
 ·exact e
 ·have := qct (2 ^ (15 - n)) e
  omega
end
section
variable {w w' w'' : World} {g : Nat} {row : Option Nat}
theorem ycT (w : World) (row : Option Nat) : w.grownBy w row := ⟨rfl, rfl, rfl, qad _, fun _ _ _ => rfl⟩
theorem grow_trans (h : w.grownBy w' row) (k : w'.grownBy w'' row) : w.grownBy w'' row :=
 ⟨k.os.trans h.os, k.tape.trans h.tape, k.output.trans h.output, qaA h.size k.size, fun i hi hr => (k.block i (qaZ hi h.size) hr).trans (h.block i hi hr)⟩
theorem grow_below {B : Nat} (h : Below B w w') (hB : w.heap.size ≤ B) : w.grownBy w' row := ⟨h.os, h.tape, h.output, h.size, fun i hi _ => h.block i (by omega)⟩
theorem ybe (h : w.grownBy w' (some g)) {p : Addr} (hp : p.block = g ∨ w.heap.size ≤ p.block) (u : Value) : w.grownBy (w'.setCell p u) (some g) :=
 ⟨h.os, h.tape, h.output, by have := h.size; simpa [World.setCell] using this, fun i hi hr => by
  have e : i ≠ p.block := by
   rcases hp with hp | hp
   ·exact fun e => hr (by rw [e, hp])
   ·omega
  exact (Below.heap_setCell _ _ _ _ e).trans (h.block i hi hr)⟩
theorem ydC (h : w.grownBy w' row) (o : Obj) : w.grownBy (w'.alloc o) row := grow_trans h (World.grownBy_alloc w' o row)
theorem ydB {B : Nat} (h : w.grownBy w' (some g)) (hB : B ≤ g) (hw : B ≤ w.heap.size) : Below B w w' := ⟨h.os, h.tape, h.output, h.size, fun i hi => h.block i (by omega) (fun e => by injection e with e; omega)⟩
theorem Blk.grow {b : Nat} {t : TypeId} {cs : Array Value} (h : Blk w b t cs) (hg : w.grownBy w' (some g)) (hb : b ≠ g) : Blk w' b t cs := (hg.block b h.lt (fun e => by injection e with e; exact hb e)).trans h
end
section
variable {w w' : World} {g : Nat} {t : TypeId} {cs : Array Value}
open Go.RowKit in
theorem grow_row (w : World) (g : Nat) (cs : Array Value) : w.grownBy (w.setRow g cs) (some g) :=
 ⟨rfl, rfl, rfl, by simp [World.setRow], fun k _ hk => setRow_other w g k cs (fun e => hk (by rw [e]))⟩
theorem Blk.row (h : Blk w g t cs) (cs' : Array Value) : Blk (w.setRow g cs') g t cs' := setRow_heap w g _ _ t _ h
end
theorem ydc : (prog.info? 3).map (fun i => (i.zero, i.size, i.bytes)) = some (some (.int .i64 0), 1, 8) := by kernel_rfl
theorem gints_zero (n : Nat) : madeCells #[.int .i64 0] n = (ints (List.replicate n 0)).toArray := by
 unfold ints
 apply Array.ext'
 simp [madeCells, Nat.mod_one]
 rw [qcw, qa7]
theorem ycM (n : Int) (N : Nat) (hN : (N : Int) = n) (h : N ≤ 17592186044416) (w : World) :
  (Instr.makeSlice 28 (.int .i64 n) (.int .i64 n)).run prog w = .ok (.slice (some ⟨w.heap.size, 0, none⟩) N N) (w.alloc (.cells (ints (List.replicate N 0)).toArray 3)) := by
 subst hN
 rw [← gints_zero]
 exact run_make_row' (P := prog) 28 3 (.int .i64 0) 8 underlying28 ydc rfl .i64 .i64 N (by omega) (by omega) w
theorem yaH (l : List Int) (k : Nat) (v : Int) : (ints l).toArray.setIfInBounds k (.int .i64 v) = (ints (l.set k v)).toArray := by
 rw [qac]
 simp [ints, qcu]
theorem ya4 (l : List Int) : ∀ u ∈ ints l, u.oneCell' = true := by
 intro u hu
 obtain ⟨b, _, rfl⟩ := qb5.1 hu
 rfl
theorem yav (a b : List Int) : ints (a ++ b) = ints a ++ ints b := by simp [ints]
theorem gints_take (l : List Int) (k : Nat) : (ints l).take k = ints (l.take k) := by simp [ints]
theorem gints_drop (l : List Int) (k : Nat) : (ints l).drop k = ints (l.drop k) := by simp [ints]
theorem yar {w : World} {g n : Nat} {t : TypeId} {l : List Int} (h : Blk w g t (ints l).toArray) (hn : l.length = n) : Reads w w.heap.size 1 (some ⟨g, 0, none⟩) n (ints l) :=
 ⟨by rw [yab]; omega, fun _ => ⟨g, 0, rfl, h.lt, fun j u hu => by rw [qaz, h.cell]; simpa using hu⟩⟩
theorem yaL {w : World} {g : Nat} {t : TypeId} {l : List Int} (h : Blk w g t (ints l).toArray) (k : Nat) (hk : k < l.length) : w.cell? ⟨g, k, none⟩ = some (.int .i64 l[k]) := by rw [h.cell, qaB, yai l k hk]
theorem yhm {w : World} {A : Option Addr} {n : Nat} {l : List Int} (hr : Reads w w.heap.size 1 A n (ints l)) (hn : 0 < n) : ∃ b off, A = some ⟨b, off, none⟩ ∧ b < w.heap.size ∧ ∀ W, Below w.heap.size w W → ∀ k (hk : k < l.length), W.cell? ⟨b, off + k, none⟩ = some (.int .i64 l[k]) := by
 obtain ⟨b, off, e, hb, hc⟩ := hr.2 hn
 exact ⟨b, off, e, hb, fun W hW k hk => (hW.cell (p := ⟨b, off + k, none⟩) hb).trans (hc k _ (yai l k hk))⟩
theorem Reads.upto {w w' : World} {size n : Nat} {A : Option Addr} {xs : List Value} (h : Reads w w.heap.size size A n xs) (hb : Below w.heap.size w w') : Reads w' w'.heap.size size A n xs := (h.below hb).more hb.size
def yfR (w w' : World) (e : Ending) (F : List Int × Int) : Prop := ∃ A' c', e = .returned (.tuple #[.slice A' F.1.length c', .int .i64 F.2]) ∧ F.1.length ≤ c' ∧ Reads w' w'.heap.size 1 A' F.1.length (ints F.1) ∧ Below w.heap.size w w'
theorem yfx {w w' : World} {E : Int} (hb : Below w.heap.size w w') : yfR w w' (.returned (.tuple #[.slice none 0 0, .int .i64 E])) ([], E) := ⟨none, 0, rfl, qad _, Reads.none_, hb⟩
theorem yhv {w w' : World} {l : List Int} {A : Option Addr} {k c : Nat} (hl : l.length = k) (hc : k ≤ c) (hr : Reads w' w'.heap.size 1 A k (ints l)) (hb : Below w.heap.size w w') : yfR w w' (.returned (.tuple #[.slice A k c, .int .i64 0])) (l, 0) := by
 subst hl
 exact ⟨A, c, rfl, hc, hr, hb⟩
theorem lpost_blk {w w' : World} {l : List Int} {g k : Nat} (hl : l.length = k) (hB : Blk w' g 3 (ints l).toArray) (hb : Below w.heap.size w w') : yfR w w' (.returned (.tuple #[.slice (some ⟨g, 0, none⟩) k k, .int .i64 0])) (l, 0) := yhv hl (qad _) (yar hB hl) hb
theorem yca {N : Nat} (W : World) (x : Int) (h : N ≤ W.heap.size) : (W.alloc (.cells #[.int .i64 x] 3)).ownsRow N 3 1 (.slice (some ⟨W.heap.size, 0, none⟩) 1 1) 1 (ints [x]) :=
 ⟨rfl, qaI ⟨W.heap.size, 1, #[.int .i64 x], rfl, h, Blk.new W _ _, qad _, by unfold maxLen; omega, rfl, rfl⟩⟩
def rng (n : Nat) (f : Nat → Int) : List Int := (List.range n).map f
theorem ybR (n : Nat) (f : Nat → Int) : (rng n f).length = n := by simp [rng]
theorem yc9 (n : Nat) (f : Nat → Int) (k : Nat) (h : k < (rng n f).length) : (rng n f)[k] = f k := by simp [rng]
theorem rng_ext {n : Nat} {f g : Nat → Int} (h : ∀ k, k < n → f k = g k) : rng n f = rng n g := by
 unfold rng
 apply qcD
 intro k hk
 exact h k (qaS.1 hk)
theorem yh7 {n : Nat} {f g : Nat → Int} (k : Nat) (v : Int) (h : ∀ j, j < n → g j = if j = k then v else f j) : (rng n f).set k v = rng n g := by
 apply qaY
 ·rw [qbJ, ybR, ybR]
 ·intro j h1 h2
  rw [ybR] at h2
  rw [qcx, yc9, yc9, h j h2]
  by_cases e : k = j
  ·rw [qag e, qag e.symm]
  ·rw [qae e, qae fun h => e h.symm]
theorem rng_zero (n : Nat) : List.replicate n (0 : Int) = rng n fun _ => 0 := by
 apply qaY
 ·rw [ybR, qav]
 ·intro j h1 h2
  rw [yc9, qbW]
def bcnt (key : Nat → Nat) (row : List Nat) (k : Nat) : Nat := row.countP fun p => decide (key p = k)
def bsum (key : Nat → Nat) (row : List Nat) : Nat → Nat
 | 0 => 0
 | k + 1 => bsum key row k + bcnt key row k
def bk (key : Nat → Nat) (row : List Nat) (k : Nat) : List Nat := row.filter fun p => decide (key p = k)
def bks (key : Nat → Nat) (row : List Nat) : Nat → List Nat
 | 0 => []
 | m + 1 => bks key row m ++ bk key row m
theorem bk_len (key : Nat → Nat) (row : List Nat) (k : Nat) : (bk key row k).length = bcnt key row k := by
 unfold bk bcnt
 rw [List.countP_eq_length_filter]
theorem bks_len (key : Nat → Nat) (row : List Nat) : ∀ m, (bks key row m).length = bsum key row m
 | 0 => rfl
 | m + 1 => by
  show (bks key row m ++ bk key row m).length = bsum key row m + bcnt key row m
  rw [qab, bks_len key row m, bk_len]
theorem bks_mem (key : Nat → Nat) (row : List Nat) (p : Nat) : ∀ m, p ∈ bks key row m ↔ p ∈ row ∧ key p < m
 | 0 => by simp [bks]
 | m + 1 => by
  show p ∈ bks key row m ++ bk key row m ↔ _
  rw [qbk, bks_mem key row p m]
  unfold bk
  rw [qaT, qba]
  constructor
  ·rintro (⟨a, b⟩ | ⟨a, b⟩)
   ·exact ⟨a, by omega⟩
   ·exact ⟨a, by omega⟩
  ·rintro ⟨a, b⟩
   by_cases e : key p = m
   ·exact qaI ⟨a, e⟩
   ·exact qay ⟨a, by omega⟩
theorem bks_pair {key : Nat → Nat} {row : List Nat} {R : Nat → Nat → Prop} (h : row.Pairwise R) : ∀ m, (bks key row m).Pairwise fun p q => key p < key q ∨ (key p = key q ∧ R p q)
 | 0 => qbA
 | m + 1 => by
  show (bks key row m ++ bk key row m).Pairwise _
  refine qa2.2 ⟨bks_pair h m, ?_, fun a ha b hb => ?_⟩
  ·have h1 : (bk key row m).Pairwise R := List.Pairwise.sublist List.filter_sublist h
   refine qbs (fun {a b} ha hb hab => qaI ⟨?_, hab⟩) h1
   unfold bk at ha hb
   rw [qaT, qba] at ha hb
   rw [ha.2, hb.2]
  ·have h1 := (bks_mem key row a m).1 ha
   unfold bk at hb
   rw [qaT, qba] at hb
   exact qay (by omega)
theorem ycg (key : Nat → Nat) (row : List Nat) (i k : Nat) : bcnt key (row.take i) k ≤ bcnt key row k := by
 unfold bcnt
 exact List.Sublist.countP_le (List.take_sublist _ _)
theorem yb4 (key : Nat → Nat) (row : List Nat) (i k : Nat) (hi : i < row.length) : bcnt key (row.take (i + 1)) k = bcnt key (row.take i) k + if key row[i] = k then 1 else 0 := by
 unfold bcnt
 rw [qat hi, qbD, qc0]
 simp
theorem bcnt_room (key : Nat → Nat) (row : List Nat) (i : Nat) (hi : i < row.length) : bcnt key (row.take i) (key row[i]) < bcnt key row (key row[i]) := by
 have h1 := yb4 key row i (key row[i]) hi
 have h2 := ycg key row (i + 1) (key row[i])
 rw [qag rfl] at h1
 omega
theorem bcnt_le (key : Nat → Nat) (row : List Nat) (k : Nat) : bcnt key row k ≤ row.length := by
 unfold bcnt
 exact List.countP_le_length
theorem bsum_lt (key : Nat → Nat) (row : List Nat) : ∀ m, bsum key row m = row.countP fun p => decide (key p < m)
 | 0 => by
  unfold bsum
  symm
  rw [qcF]
  intro a _
  simp
 | m + 1 => by
  show bsum key row m + bcnt key row m = _
  rw [bsum_lt key row m]
  unfold bcnt
  induction row with
  | nil => rfl
  | cons a t ih =>
   simp only [qbI, qck]
   split <;> split <;> split <;> omega
theorem bsum_le (key : Nat → Nat) (row : List Nat) (m : Nat) : bsum key row m ≤ row.length := by
 rw [bsum_lt]
 exact List.countP_le_length
theorem ydy (key : Nat → Nat) (row : List Nat) (m : Nat) (h : ∀ p ∈ row, key p < m) : bsum key row m = row.length := by
 rw [bsum_lt, List.countP_eq_length]
 intro a ha
 exact qbZ (h a ha)
theorem bsum_mono (key : Nat → Nat) (row : List Nat) (a b : Nat) (h : a ≤ b) : bsum key row a ≤ bsum key row b := by
 obtain ⟨d, rfl⟩ := Nat.exists_eq_add_of_le h
 induction d with
 | zero => exact qad _
 | succ d ih =>
  have := ih (by omega)
  show bsum key row a ≤ bsum key row (a + d) + bcnt key row (a + d)
  omega
def bmid (key : Nat → Nat) (row : List Nat) (i : Nat) : Nat → List Int
 | 0 => []
 | m + 1 => bmid key row i m ++ (splc (bk key (row.take i) m) ++ List.replicate (bcnt key row m - bcnt key (row.take i) m) 0)
theorem yfY (key : Nat → Nat) (row : List Nat) (i : Nat) : ∀ m, (bmid key row i m).length = bsum key row m
 | 0 => rfl
 | m + 1 => by
  have h := ycg key row i m
  show (bmid key row i m ++ (splc (bk key (row.take i) m) ++ List.replicate (bcnt key row m - bcnt key (row.take i) m) 0)).length = bsum key row m + bcnt key row m
  rw [qab, qab, yfY key row i m, yao, bk_len, qav]
  omega
theorem yhe (key : Nat → Nat) (row : List Nat) : ∀ m, bmid key row 0 m = List.replicate (bsum key row m) 0
 | 0 => rfl
 | m + 1 => by
  show bmid key row 0 m ++ (splc (bk key (row.take 0) m) ++ List.replicate (bcnt key row m - bcnt key (row.take 0) m) 0) = List.replicate (bsum key row m + bcnt key row m) 0
  rw [yhe key row m, qbb]
  simp [bk, bcnt, splc, qcj]
theorem bmid_all (key : Nat → Nat) (row : List Nat) : ∀ m, bmid key row row.length m = splc (bks key row m)
 | 0 => rfl
 | m + 1 => by
  show bmid key row row.length m ++ (splc (bk key (row.take row.length) m) ++ List.replicate (bcnt key row m - bcnt key (row.take row.length) m) 0) = splc (bks key row m ++ bk key row m)
  rw [bmid_all key row m, qbT, qbS, qcG, qa8, ygm]
theorem bk_step (key : Nat → Nat) (row : List Nat) (i k : Nat) (hi : i < row.length) : bk key (row.take (i + 1)) k = bk key (row.take i) k ++ if key row[i] = k then [row[i]] else [] := by
 unfold bk
 rw [qat hi, qbr]
 by_cases e : key row[i] = k <;> simp [e]
theorem ygo (key : Nat → Nat) (row : List Nat) (i : Nat) (hi : i < row.length) : ∀ m, key row[i] < m → (bmid key row i m).set (bsum key row (key row[i]) + bcnt key (row.take i) (key row[i])) (row[i] : Nat) = bmid key row (i + 1) m
 | 0, h => absurd h (by omega)
 | m + 1, h => by
  have hr := bcnt_room key row i hi
  have hl := yfY key row i m
  show (bmid key row i m ++ (splc (bk key (row.take i) m) ++ List.replicate (bcnt key row m - bcnt key (row.take i) m) 0)).set _ _ = bmid key row (i + 1) m ++ (splc (bk key (row.take (i + 1)) m) ++ List.replicate (bcnt key row m - bcnt key (row.take (i + 1)) m) 0)
  by_cases e : key row[i] = m
  ·have same : bmid key row (i + 1) m = bmid key row i m := by
    have go : ∀ q, q ≤ m → bmid key row (i + 1) q = bmid key row i q := by
     intro q
     induction q with
     | zero => intro _; rfl
     | succ q ih =>
      intro hq
      show bmid key row (i + 1) q ++ (splc (bk key (row.take (i + 1)) q) ++ List.replicate (bcnt key row q - bcnt key (row.take (i + 1)) q) 0) = bmid key row i q ++ (splc (bk key (row.take i) q) ++ List.replicate (bcnt key row q - bcnt key (row.take i) q) 0)
      rw [ih (by omega), bk_step key row i q hi, yb4 key row i q hi, qae (by omega), qae (by omega), qa8, qbv]
    exact go m (qad _)
   rw [same, bk_step key row i m hi, yb4 key row i m hi, qag e, qag e]
   rw [e] at hr ⊢
   have hb := bk_len key (row.take i) m
   rw [qcc _ _ (by omega), hl, show bsum key row m + bcnt key (row.take i) m - bsum key row m = bcnt key (row.take i) m from by omega, qcc _ _ (by rw [yao, hb]; exact qad _), yao, hb, qbS, show bcnt key row m - bcnt key (row.take i) m = (bcnt key row m - (bcnt key (row.take i) m + 1)) + 1 from by omega, qaP, qai, ygm, qam]
   rfl
  ·have hkm : key row[i] < m := by omega
   have h2 := bsum_mono key row (key row[i] + 1) m (by omega)
   have h3 : bsum key row (key row[i] + 1) = bsum key row (key row[i]) + bcnt key row (key row[i]) := rfl
   rw [List.set_append_left _ _ (by omega), ygo key row i hi m hkm, bk_step key row i m hi, yb4 key row i m hi, qae e, qae e, qa8]
   rfl
def bmax (key : Nat → Nat) (row : List Nat) : Nat → Nat
 | 0 => 0
 | i + 1 => max (bmax key row i) (key (row.getD i 0))
theorem bmax_ge (key : Nat → Nat) (row : List Nat) : ∀ i j, j < i → key (row.getD j 0) ≤ bmax key row i
 | 0, j, h => by omega
 | i + 1, j, h => by
  show _ ≤ max (bmax key row i) (key (row.getD i 0))
  by_cases e : j = i
  ·subst e; omega
  ·have := bmax_ge key row i j (by omega)
   omega
theorem bmax_le (key : Nat → Nat) (row : List Nat) (B : Nat) (hB : ∀ p ∈ row, key p ≤ B) : ∀ i, i ≤ row.length → bmax key row i ≤ B
 | 0, _ => qcb _
 | i + 1, h => by
  have h1 := bmax_le key row B hB i (by omega)
  have h2 := hB row[i] (qaq (by omega))
  show max (bmax key row i) (key (row.getD i 0)) ≤ B
  rw [qaj, qah (by omega)]
  simp only [qbG]
  omega
theorem ygh (key : Nat → Nat) (row : List Nat) : ∀ p ∈ row, key p < bmax key row row.length + 1 := by
 intro p hp
 obtain ⟨i, hi, rfl⟩ := qaJ hp
 have := bmax_ge key row row.length i hi
 rw [qaj, qah hi] at this
 simp only [qbG] at this
 omega
def bn1 (key : Nat → Nat) (row : List Nat) (m i : Nat) : List Int := rng (m + 2) fun j => if j = 0 then 0 else (bcnt key (row.take i) (j - 1) : Nat)
def bn2 (key : Nat → Nat) (row : List Nat) (m k : Nat) : List Int := rng (m + 2) fun j => if j ≤ k then (bsum key row j : Nat) else (bcnt key row (j - 1) : Nat)
def bn3 (key : Nat → Nat) (row : List Nat) (m i : Nat) : List Int := rng (m + 2) fun j => if j ≤ m then (bsum key row j + bcnt key (row.take i) j : Nat) else (bcnt key row (j - 1) : Nat)
theorem bn1_zero (key : Nat → Nat) (row : List Nat) (m : Nat) : bn1 key row m 0 = List.replicate (m + 2) 0 := by
 rw [rng_zero]
 refine rng_ext fun j _ => ?_
 split
 ·rfl
 ·simp [bcnt]
theorem bn1_step (key : Nat → Nat) (row : List Nat) (m i : Nat) (hi : i < row.length) : (bn1 key row m i).set (key row[i] + 1) ((bcnt key (row.take i) (key row[i]) : Nat) + 1 : Int) = bn1 key row m (i + 1) := by
 refine yh7 _ _ fun j _ => ?_
 by_cases e : j = key row[i] + 1
 ·subst e
  rw [qag rfl, qae (by omega), qbQ, yb4 key row i _ hi, qag rfl]
  omega
 ·rw [qae e]
  split
  ·rfl
  ·rw [yb4 key row i _ hi, qae (by omega)]
   omega
theorem bn1_all (key : Nat → Nat) (row : List Nat) (m : Nat) : bn1 key row m row.length = bn2 key row m 0 := by
 refine rng_ext fun j _ => ?_
 rw [qbT]
 by_cases e : j = 0
 ·subst e; rfl
 ·rw [qae e, qae (by omega)]
theorem bn2_step (key : Nat → Nat) (row : List Nat) (m k : Nat) : (bn2 key row m k).set (k + 1) ((bcnt key row k : Nat) + (bsum key row k : Nat) : Int) = bn2 key row m (k + 1) := by
 refine yh7 _ _ fun j _ => ?_
 by_cases e : j = k + 1
 ·subst e
  rw [qag rfl, qag (qad _), show bsum key row (k + 1) = bsum key row k + bcnt key row k from rfl]
  omega
 ·rw [qae e]
  by_cases h : j ≤ k
  ·rw [qag h, qag (by omega)]
  ·rw [qae h, qae (by omega)]
theorem bn2_all (key : Nat → Nat) (row : List Nat) (m : Nat) : bn2 key row m m = bn3 key row m 0 := by
 refine rng_ext fun j _ => ?_
 split
 ·simp [bcnt]
 ·rfl
theorem bn3_step (key : Nat → Nat) (row : List Nat) (m i : Nat) (hi : i < row.length) (hk : key row[i] ≤ m) : (bn3 key row m i).set (key row[i]) ((bsum key row (key row[i]) + bcnt key (row.take i) (key row[i]) : Nat) + 1 : Int) = bn3 key row m (i + 1) := by
 refine yh7 _ _ fun j _ => ?_
 by_cases e : j = key row[i]
 ·subst e
  rw [qag rfl, qag hk, yb4 key row i _ hi, qag rfl]
  omega
 ·rw [qae e, yb4 key row i _ hi, qae (show ¬ key row[i] = j from fun h => e h.symm)]
  rfl
theorem bn1_get (key : Nat → Nat) (row : List Nat) (m i k : Nat) (h : k + 1 < (bn1 key row m i).length) : (bn1 key row m i)[k + 1] = (bcnt key (row.take i) k : Nat) :=
 (yc9 _ _ _ h).trans (by rw [qae (by omega), qbQ])
theorem bn2_get1 (key : Nat → Nat) (row : List Nat) (m k : Nat) (h : k + 1 < (bn2 key row m k).length) : (bn2 key row m k)[k + 1] = (bcnt key row k : Nat) :=
 (yc9 _ _ _ h).trans (by rw [qae (by omega), qbQ])
theorem bn2_get0 (key : Nat → Nat) (row : List Nat) (m k : Nat) (h : k < (bn2 key row m k).length) : (bn2 key row m k)[k] = (bsum key row k : Nat) :=
 (yc9 _ _ _ h).trans (by rw [qag (qad _)])
theorem bn3_get (key : Nat → Nat) (row : List Nat) (m i k : Nat) (hk : k ≤ m) (h : k < (bn3 key row m i).length) : (bn3 key row m i)[k] = (bsum key row k + bcnt key (row.take i) k : Nat) :=
 (yc9 _ _ _ h).trans (by rw [qag hk])
theorem bn1_len (key : Nat → Nat) (row : List Nat) (m i : Nat) : (bn1 key row m i).length = m + 2 := ybR _ _
theorem bn2_len (key : Nat → Nat) (row : List Nat) (m i : Nat) : (bn2 key row m i).length = m + 2 := ybR _ _
theorem bn3_len (key : Nat → Nat) (row : List Nat) (m i : Nat) : (bn3 key row m i).length = m + 2 := ybR _ _
theorem bplace_lt (key : Nat → Nat) (row : List Nat) (i : Nat) (hi : i < row.length) : bsum key row (key row[i]) + bcnt key (row.take i) (key row[i]) < row.length := by
 have h1 := bcnt_room key row i hi
 have h2 := bsum_le key row (key row[i] + 1)
 have h3 : bsum key row (key row[i] + 1) = bsum key row (key row[i]) + bcnt key row (key row[i]) := rfl
 omega
end Go.Proofs.YtanjhbkbpalnaaaGreat
