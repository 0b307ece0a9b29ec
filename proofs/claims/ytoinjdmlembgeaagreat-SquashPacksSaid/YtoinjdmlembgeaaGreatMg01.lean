/-
 What the law of the last of these texts stands on, part 1.
-/
import Derived.WalkKit
import Derived.WalkSpells
import Derived.WalkLawsBesides
import Derived.ProofKit
import Derived.OpenShut
import Derived.Handy
import Derived.SizedLaws
import Derived.JoinedOf
import Derived.KernelRfl
import Derived.Lib.Hide
import Derived.Lib.SmallJoins
import Derived.Deep.Slices
import Derived.Deep.Fields
import Derived.Deep.SlicePairs
import Derived.Deep.Draws
import Derived.Deep.AppendLies
import Derived.Deep.QuietTactic
import Derived.BigQuiet
import Derived.Deep.RegionHeld3
import Derived.StillTailTactics
import Derived.Laws.OwnMore
import Derived.Laws.Rows
import Derived.Below
import Derived.Carry
import Derived.WalkMore
import Derived.Laws.BytesString
import Derived.Laws.BitsLemmas
import Derived.Laws.Concat
import Derived.Deep.Upon
import Derived.Deep.RegionLaw
namespace Go.Proofs.YtoinjdmlembgeaaGreat
set_option linter.unusedSimpArgs false
set_option linter.unusedVariables false
open Go.ChangeShapes Go.WideShapes Go.ChangeAt Go.RowKit Go.Joins Go.Deep
theorem yaj {B : Nat} {a w : World} (h : Below B a w) (n : Nat) : Below B a (w.drewN n) := ⟨h.os, h.tape, h.output, h.size, h.block⟩
def Reads (w : World) (B size : Nat) (A : Option Addr) (n : Nat) (xs : List Value) : Prop :=
 xs.length = n * size ∧ (0 < n → ∃ b off, A = some ⟨b, off, none⟩ ∧ b < B ∧ ∀ j u, xs[j]? = some u → w.cell? ⟨b, off + j, none⟩ = some u)
theorem ydW (b off k : Nat) : (⟨b, off, none⟩ : Addr).add k = ⟨b, off + k, none⟩ := by
 unfold Addr.add; split <;> simp_all
section
variable {w w' : World} {B B' size n : Nat} {A : Option Addr} {xs : List Value}
theorem Reads.none_ : Reads w B size A 0 [] := ⟨by simp, fun h => absurd h (by omega)⟩
theorem Reads.keep (h : Reads w B size A n xs) (hk : ∀ p : Addr, p.block < B → w'.cell? p = w.cell? p) : Reads w' B size A n xs :=
 ⟨h.1, fun hn => by
  obtain ⟨b, off, e, hb, hc⟩ := h.2 hn
  exact ⟨b, off, e, hb, fun j u hu => (hk _ hb).trans (hc j u hu)⟩⟩
theorem Reads.more (h : Reads w B size A n xs) (hB : B ≤ B') : Reads w B' size A n xs :=
 ⟨h.1, fun hn => by
  obtain ⟨b, off, e, hb, hc⟩ := h.2 hn
  exact ⟨b, off, e, by omega, hc⟩⟩
theorem Reads.below (h : Reads w B size A n xs) (hb : Below B w w') : Reads w' B size A n xs := h.keep fun _ hp => hb.cell hp
theorem Reads.drew (h : Reads w B size A n xs) : Reads w.drew B size A n xs := h
theorem Reads.drewN (h : Reads w B size A n xs) (k : Nat) : Reads (w.drewN k) B size A n xs := h
theorem Reads.alloc (h : Reads w B size A n xs) (hB : B ≤ w.heap.size) (o : Obj) : Reads (w.alloc o) B size A n xs := h.keep fun p hp => World.cell?_alloc_lt w o p (by omega)
theorem Reads.setCell (h : Reads w B size A n xs) {p : Addr} (hB : B ≤ p.block) (u : Value) : Reads (w.setCell p u) B size A n xs :=
 h.keep fun q hq => World.cell?_setCell_other w p q u (fun e => by subst e; omega)
theorem Reads.cut (h : Reads w B size A n xs) {k cap : Nat} (hk : k ≤ n) (hc : n ≤ cap) :
  Reads w B size (if cap = k then A else A.map (·.add (k * size))) (n - k) (xs.drop (k * size)) := by
 refine ⟨by rw [List.length_drop, h.1, Nat.sub_mul], fun hn => ?_⟩
 obtain ⟨b, off, rfl, hb, hcell⟩ := h.2 (by omega)
 rw [if_neg (by omega)]
 refine ⟨b, off + k * size, by simp [ydW], hb, fun j u hu => ?_⟩
 rw [Nat.add_assoc]
 exact hcell _ u (by rw [← hu, List.getElem?_drop])
theorem Reads.new (w : World) (t : TypeId) (cs : List Value) (size n : Nat) (hl : cs.length = n * size) :
  Reads (w.alloc (.cells cs.toArray t)) (w.heap.size + 1) size (some ⟨w.heap.size, 0, none⟩) n cs := by
 refine ⟨hl, fun _ => ⟨_, _, rfl, by simp, fun j u hu => ?_⟩⟩
 simp only [World.cell?, World.alloc]
 simp [hu]
end
theorem yb5 {P : Program} {t e : TypeId} {i : TypeInfo} {size : Nat} (ht : P.underlying t = some (.slice e)) (hi : P.info? e = some i) (hs : i.size = size) (A : Option Addr) (n c k : Nat) (hk : k ≤ n) (w : World) :
  (Instr.slice t (.slice A n c) (some (.int .i64 (k : Int))) none none).run P w = .ok (.slice (if c = k then A else A.map (·.add (k * size))) (n - k) (c - k)) w := by
 have he : P.elem t = e := by simp [Program.elem, ht]
 rw [run_slice_l w t A n c (by rw [he]; exact ht) .i64 k (by omega) (by omega), he]
 simp [sizeOf, typeInfo, hi, hs, sliced]
def Blk (w : World) (g : Nat) (t : TypeId) (cs : Array Value) : Prop := w.heap[g]? = some (.cells cs t (0, 0))
section
variable {w w' : World} {g : Nat} {t : TypeId} {cs : Array Value}
theorem Blk.lt (h : Blk w g t cs) : g < w.heap.size := by
 rcases Nat.lt_or_ge g w.heap.size with hlt | hge
 ·exact hlt
 ·unfold Blk at h; rw [Array.getElem?_eq_none hge] at h; cases h
theorem Blk.cell (h : Blk w g t cs) (i : Nat) : w.cell? ⟨g, i, none⟩ = cs[i]? := cell_of_row w g i cs t (0, 0) h
theorem Blk.frozen (h : Blk w g t cs) (i : Nat) : w.frozen? ⟨g, i, none⟩ = false := by
 unfold Blk at h
 simp [World.frozen?, h]
theorem Blk.new (w : World) (t : TypeId) (cs : Array Value) : Blk (w.alloc (.cells cs t)) w.heap.size t cs := heap_alloc_new w _
theorem Blk.drew (h : Blk w g t cs) : Blk w.drew g t cs := h
theorem Blk.drewN (h : Blk w g t cs) (n : Nat) : Blk (w.drewN n) g t cs := h
theorem Blk.alloc (h : Blk w g t cs) (o : Obj) : Blk (w.alloc o) g t cs := (Below.heap_alloc w o g h.lt).trans h
theorem Blk.set_ (h : Blk w g t cs) (i : Nat) (u : Value) : Blk (w.setCell ⟨g, i, none⟩ u) g t (cs.setIfInBounds i u) := by
 unfold Blk at h ⊢
 simp [World.setCell, Array.getElem?_modify, h]
theorem Blk.far (h : Blk w g t cs) {p : Addr} (hp : g ≠ p.block) (u : Value) : Blk (w.setCell p u) g t cs := (Below.heap_setCell w p u g hp).trans h
theorem Blk.two {x y : Value} (h : Blk w g t #[x, y]) : w.cell? ⟨g, 0, none⟩ = some x ∧ w.cell? ⟨g, 1, none⟩ = some y ∧ w.frozen? ⟨g, 0, none⟩ = false ∧ w.frozen? ⟨g, 1, none⟩ = false :=
 ⟨by rw [h.cell]; rfl, by rw [h.cell]; rfl, h.frozen 0, h.frozen 1⟩
theorem Blk.below {B : Nat} (h : Blk w g t cs) (hb : Below B w w') (hg : g < B) : Blk w' g t cs := (hb.block g hg).trans h
end
section
variable {H : Type} {enc : TypeId × Value → H}
theorem yew {P : Program} (hl : laidOutB P = true) {W W' : World} (hb : Below W.heap.size W W') : ∀ (ts : List TypeId) (vs : List Value) (ds : List (DataW H)) (ps : List MemPlace),
  ts.all (fun t => P.readableRec t && decide (t < P.types.size)) = true → DataW.TrodAll enc P W 0 (fun _ => true) true ts vs ds ps → (∀ x ∈ ps, x.block < W.heap.size) →
  DataW.TrodAll enc P W' 0 (fun b => decide (b < W.heap.size)) true ts vs ds ps
 | [], [], [], _, _, h, _ => h
 | [], [], _ :: _, _, _, h, _ => h.elim
 | [], _ :: _, _, _, _, h, _ => by cases ‹List (DataW H)› <;> exact h.elim
 | _ :: _, [], _, _, _, h, _ => by cases ‹List (DataW H)› <;> exact h.elim
 | _ :: _, _ :: _, [], _, _, h, _ => h.elim
 | t :: ts, v :: vs, d :: ds, ps, ha, h, hlt => by
  obtain ⟨p, q, h1, h2, rfl⟩ := h
  simp only [List.all_cons, Bool.and_eq_true, decide_eq_true_eq] at ha
  exact ⟨p, q, Below.trod hl ha.1.1 ha.1.2 h1 hb (fun x hx => hlt x (List.mem_append_left _ hx)),
   yew hl hb ts vs ds q ha.2 h2 (fun x hx => hlt x (List.mem_append_right _ hx)), rfl⟩
theorem ydR {P : Program} {w : World} {base : Nat} {sp : Nat → Bool} {held : Bool} : ∀ (ts : List TypeId) (vs : List Value) (ds : List (DataW H)) (ps : List MemPlace),
  DataW.TrodAll enc P w base sp held ts vs ds ps → ds.length = ts.length
 | [], [], [], _, _ => rfl
 | [], [], _ :: _, _, h => h.elim
 | [], _ :: _, _, _, h => by cases ‹List (DataW H)› <;> exact h.elim
 | _ :: _, [], _, _, h => by cases ‹List (DataW H)› <;> exact h.elim
 | _ :: _, _ :: _, [], _, h => h.elim
 | t :: ts, v :: vs, d :: ds, ps, h => by
  obtain ⟨p, q, _, h2, _⟩ := h
  simp [ydR ts vs ds q h2]
theorem yeW {C : Checked} {os : Os} {f : FuncId} {fn : Func} {s : ChangeSpec} {tb : TypeId}
  (own : ownKnob C.prog.godebug = none) (started : os.Started) (noInit : C.prog.inits.idxOf? f = none) (hfn : C.prog.funcs[f]? = some fn)
  (witness : ∃ (w : World) (tape : Tape) (i : Input), w.os = os ∧ (w.forCall tape i).Shaped C.prog ∧ i.vars = [] ∧ Input.okWide C.prog (w.forCall tape i) .any w.heap.size f i ∧
   s.pre6 enc C.prog fn [] false (w.forCall tape i).memory i.args ∧ ({} : Assume).holds C.prog (lone (Frame.enter C.prog f i.args .normal) [] (w.forCall tape i)))
  (hl : laidOutB C.prog = true) (hpar : fn.params.toList.all (fun t => C.prog.readableRec t && decide (t < C.prog.types.size)) = true)
  (hvars : s.vars = []) (hres : fn.resultTypes = #[tb]) (htb : C.prog.underlying tb = some .bool)
  (hsp : ∀ ds : List (DataW H), ds.length = fn.params.toList.length → s.fn H ds = { results := [.lit (.bool true)], args := ds })
  (walk : ∀ (W : World) (base : Nat) (args : Array Value) (ds : List (DataW H)) (p : List MemPlace),
   (∀ (j : Nat) t v, fn.params[j]? = some t → args[j]? = some v → Value.okWide C.prog W .any base t v) →
   DataW.TrodAll enc C.prog W 0 (fun _ => true) true fn.params.toList args.toList ds p → (∀ x ∈ p, x.block < W.heap.size) →
   (DataW.weightsEach C.prog fn.params.toList ds).all (· ≤ reachBytes) = true →
   Calls C.prog f args W fun e W' => e = .returned (.bool true) ∧ Below W.heap.size W W') :
  ReturnsInHanded {} C os f .any (s.pre6 enc C.prog fn [] false) (s.post enc C.prog fn false true false false) := by
 refine returnsInHanded_of_change_sized (C := C) own started noInit hfn witness ?_
 intro W base args ds gs before hval hW _ hsz _
 have hW' := hW
 obtain ⟨p, q, hA, hV, rfl, _, _⟩ := hW
 rw [hvars] at hV
 obtain ⟨rfl, rfl⟩ := trodVars_none hV
 have hlt : ∀ x ∈ p, x.block < W.heap.size := fun x hx => hW'.lt x (List.mem_append_left _ hx)
 have hsz' : (DataW.weightsEach C.prog fn.params.toList ds).all (· ≤ reachBytes) = true := by
  have e : s.plain.varTypes C.prog = [] := by simp [ChangeSpec.plain, DataSpec.varTypes, hvars]
  rw [e] at hsz
  simpa using hsz
 have hlen := ydR _ _ _ _ hA
 refine (walk W base args ds p hval hA hlt hsz').mono fun e W' ⟨he, hb⟩ => ⟨_, he, ds, [], p ++ [], [], p, [], hW', ?_, ?_, ?_, hb.frame _, fun h => by cases h⟩
 ·rw [List.append_nil, hsp ds hlen, hres]
  exact trodAll_mk1 (shut_bool htb true)
 ·rw [List.append_nil, hsp ds hlen]
  exact yew hl hb _ _ _ _ hpar hA hlt
 ·rw [List.append_nil, hsp ds hlen, hvars]
  rfl
end
section
variable {H : Type} {enc : TypeId × Value → H} {P : Program} {w : World} {base : Nat} {spare : Nat → Bool} {held : Bool}
def ybi (k : IntKind) (l : List (Int × Int)) : List Value := l.flatMap fun r => [.int k r.1, .int k r.2]
theorem ybL (k : IntKind) (r : Int × Int) (l : List (Int × Int)) : ybi k (r :: l) = .int k r.1 :: .int k r.2 :: ybi k l := rfl
theorem pairs_length (k : IntKind) (l : List (Int × Int)) : (ybi k l).length = l.length * 2 := by
 induction l with
 | nil => rfl
 | cons r l ih => rw [ybL]; simp [ih]; omega
theorem ydx (k : IntKind) : ∀ (l : List (Int × Int)) (i : Nat) (h : i < l.length), (ybi k l)[i * 2]? = some (.int k l[i].1)
 | _ :: _, 0, _ => rfl
 | r :: l, i + 1, h => by
  rw [ybL, show (i + 1) * 2 = i * 2 + 1 + 1 from by omega]
  simpa using ydx k l i (by simpa using h)
theorem ydm (k : IntKind) : ∀ (l : List (Int × Int)) (i : Nat) (h : i < l.length), (ybi k l)[i * 2 + 1]? = some (.int k l[i].2)
 | _ :: _, 0, _ => rfl
 | r :: l, i + 1, h => by
  rw [ybL, show (i + 1) * 2 + 1 = i * 2 + 1 + 1 + 1 from by omega]
  simpa using ydm k l i (by simpa using h)
theorem cell_lt {w : World} {a : Addr} {v : Value} (h : w.cell? a = some v) : a.block < w.heap.size := World.block_lt_of_cell? w _ h
end
def bc (l : List UInt8) : Array Value := (l.map fun b => Value.int .u8 (b.toNat : Int)).toArray
theorem ygS (l : List UInt8) : (bc l).size = l.length := by simp [bc]
theorem bc_get (l : List UInt8) (i : Nat) : (bc l)[i]? = (l[i]?).map fun b => Value.int .u8 (b.toNat : Int) := by simp [bc]
theorem bc_set (A C : List UInt8) (b c : UInt8) : (bc (A ++ b :: C)).setIfInBounds A.length (.int .u8 (c.toNat : Int)) = bc (A ++ c :: C) := by
 unfold bc
 rw [List.setIfInBounds_toArray]
 congr 1
 simp
theorem bc_zero (n : Nat) : madeCells #[.int .u8 0] n = bc (List.replicate n 0) := by
 unfold bc
 apply Array.ext'
 simp [madeCells, Nat.mod_one]
 rw [List.map_const', List.length_range]
theorem ycO {w : World} {g : Nat} {t : TypeId} {l : List UInt8} (h : Blk w g t (bc l)) {i : Nat} {b : UInt8} (hi : l[i]? = some b) : w.cell? ⟨g, i, none⟩ = some (.int .u8 (b.toNat : Int)) := by
 rw [h.cell, bc_get, hi]
 rfl
theorem ycZ (l : List UInt8) (i : Nat) (h : i < (ByteArray.mk l.toArray).size) : (ByteArray.mk l.toArray)[i]'h = l[i]'(by rw [ByteArray.size_mk'] at h; simpa using h) := rfl
theorem ba_list (s : ByteArray) : s = ⟨s.data.toList.toArray⟩ := by simp
theorem push_fold (ns : List Int) : ∀ (s : List UInt8), (ns.foldl (fun r n => r.push (UInt8.ofNat n.toNat)) (ByteArray.mk s.toArray)) = ⟨(s ++ ns.map fun n => UInt8.ofNat n.toNat).toArray⟩ := by
 induction ns with
 | nil => intro s; simp
 | cons n t ih =>
  intro s
  rw [List.foldl_cons]
  have e : (ByteArray.mk s.toArray).push (UInt8.ofNat n.toNat) = ⟨(s ++ [UInt8.ofNat n.toNat]).toArray⟩ := by simp [ByteArray.push]
  rw [e, ih]
  simp
def ints (l : List Int) : List Value := l.map (Value.int .i64)
theorem yab (l : List Int) : (ints l).length = l.length := by simp [ints]
theorem yai (l : List Int) (i : Nat) (h : i < l.length) : (ints l)[i]? = some (.int .i64 l[i]) := by simp [ints, h]
theorem ycN {P : Program} {src dst e : TypeId} (hs : P.underlying src = some (.slice e)) (he : P.underlying e = some (.int .u8)) (hd : P.underlying dst = some .string)
  (w : World) (g off c : Nat) (l : List UInt8) (n : Nat) (hn : l.length = n) (h : ∀ j b, l[j]? = some b → w.cell? ⟨g, off + j, none⟩ = some (.int .u8 (b.toNat : Int))) :
  (convert src dst (.slice (some ⟨g, off, none⟩) n c)).run P w = .ok (.string ⟨l.toArray⟩) w := by
 subst hn
 rw [run_convert_bytes_string w src dst e _ _ _ hs he hd]
 have hl := run_loadCells_list (P := P) (w := w) ⟨g, off, none⟩ ((l.map fun b => (b.toNat : Int)).map (Value.int .u8)) (fun j v hv => by
  rw [ydW]
  simp only [List.getElem?_map, Option.map_map] at hv
  cases hx : l[j]? with
  | none => rw [hx] at hv; cases hv
  | some b => rw [hx] at hv; simp at hv; subst hv; exact h j b hx)
 simp only [List.length_map] at hl
 rw [run_bytesToString w ⟨g, off, none⟩ l.length c (l.map fun b => (b.toNat : Int)) hl]
 have := push_fold (l.map fun b => (b.toNat : Int)) []
 rw [show ByteArray.empty = ByteArray.mk ([] : List UInt8).toArray from rfl, this, List.nil_append, List.map_map]
 have e : ((fun n : Int => UInt8.ofNat n.toNat) ∘ fun b : UInt8 => (b.toNat : Int)) = id := by
  funext b
  simp
 rw [e, List.map_id]
theorem yhl {P : Program} {t e : TypeId} {i : TypeInfo} (ht : P.underlying t = some (.slice e)) (hi : P.info? e = some i) (hs : i.size = 1) (g off n c a b : Nat) (ha : a < b) (hb : b ≤ c) (w : World) :
  (Instr.slice t (.slice (some ⟨g, off, none⟩) n c) (some (.int .i64 (a : Int))) (some (.int .i64 (b : Int))) (some (.int .i64 (b : Int)))).run P w = .ok (.slice (some ⟨g, off + a, none⟩) (b - a) (b - a)) w := by
 have he : P.elem t = e := by simp [Program.elem, ht]
 rw [run_slice_lhm w t (some ⟨g, off, none⟩) n c (by rw [he]; exact ht) .i64 .i64 .i64 a b b (by omega) (by omega) (by omega) (by omega), he]
 simp [sizeOf, typeInfo, hi, hs, sliced, ydW]
 omega
theorem or_i64 (x y : Int) (i : Nat) (hx : 0 ≤ x) (hxi : x < 2 ^ i) (hy : 0 ≤ y) (h : x + y * 2 ^ i < 9223372036854775808) : bits .or .i64 x (wrap64 (y * 2 ^ i)) = x + y * 2 ^ i := by
 have hp : (0 : Int) < 2 ^ i := Int.pow_pos (by omega)
 have hy0 : 0 ≤ y * 2 ^ i := Int.mul_nonneg hy (by omega)
 have hwr : wrap64 (y * 2 ^ i) = y * 2 ^ i := by unfold wrap64; omega
 rw [hwr]
 have hc : bits .or .i64 x (y * 2 ^ i) = bits .or .i64 (y * 2 ^ i) x := by simp only [bits, BitVec.or_comm]
 have e63 : (2 : Int) ^ 63 = 9223372036854775808 := by decide
 rw [hc, bits_join .i64 63 (by decide) (fun n h0 h1 => by
  rw [e63] at h1
  rw [IntKind.wrap_i64]
  omega) i (y * 2 ^ i) x hy0 (Int.mul_emod_left y (2 ^ i)) (by rw [e63]; omega) hx hxi (by rw [e63]; omega), Int.add_comm]
theorem or_neg (x y : Int) (hy : -9223372036854775808 ≤ y) (hy' : y < 0) (hx : 0 ≤ x) (hx' : x < 9223372036854775808) : bits .or .i64 x y < 0 := by
 have hm : (BitVec.ofInt 64 y).msb = true := by
  rw [BitVec.msb_eq_toInt, BitVec.toInt_ofInt]
  simp [Int.bmod]
  omega
 have h2 : (BitVec.ofInt 64 x ||| BitVec.ofInt 64 y).msb = true := by rw [BitVec.msb_or, hm]; simp
 have h3 : (BitVec.ofInt 64 x ||| BitVec.ofInt 64 y).toInt < 0 := by
  rw [BitVec.msb_eq_toInt] at h2
  simpa using h2
 have e : bits .or .i64 x y = IntKind.i64.wrap ((BitVec.ofInt 64 x ||| BitVec.ofInt 64 y).toNat : Int) := rfl
 rw [e, IntKind.wrap_i64]
 generalize (BitVec.ofInt 64 x ||| BitVec.ofInt 64 y) = v at *
 rw [BitVec.toInt_eq_toNat_cond] at h3
 have hv := v.isLt
 split at h3 <;> omega
theorem ya0 (n : Nat) (h : n < 256) : (UInt8.ofNat n).toNat = n := by simp [UInt8.toNat_ofNat']; omega
theorem u8_lt (b : UInt8) : b.toNat < 256 := UInt8.toNat_lt b
theorem u8_eq {a b : UInt8} (h : a.toNat = b.toNat) : a = b := UInt8.toNat_inj.1 h
theorem iv {k : IntKind} {a b : Int} (h : a = b) : Value.int k a = Value.int k b := by rw [h]
theorem tv (a b c a' b' c' : Int) (h : (a, b, c) = (a', b', c')) : Ending.returned (.tuple #[.int .i64 a, .int .i64 b, .int .i64 c]) = Ending.returned (.tuple #[.int .i64 a', .int .i64 b', .int .i64 c']) := by
 simp only [Prod.mk.injEq] at h
 obtain ⟨rfl, rfl, rfl⟩ := h
 rfl
structure Touch (w w' : World) (S : Nat → Prop) : Prop where
 os : w'.os = w.os
 tape : w'.tape = w.tape
 output : w'.output = w.output
 size : w.heap.size ≤ w'.heap.size
 block : ∀ k, k < w.heap.size → ¬ S k → w'.heap[k]? = w.heap[k]?
section
variable {w w' w'' : World} {S S' : Nat → Prop}
theorem Touch.refl (w : World) (S : Nat → Prop) : Touch w w S := ⟨rfl, rfl, rfl, Nat.le_refl _, fun _ _ _ => rfl⟩
theorem Touch.mono (h : Touch w w' S) (hs : ∀ k, k < w.heap.size → S k → S' k) : Touch w w' S' := ⟨h.os, h.tape, h.output, h.size, fun k hk hn => h.block k hk fun e => hn (hs k hk e)⟩
theorem Touch.trans (h : Touch w w' S) (k : Touch w' w'' S) : Touch w w'' S :=
 ⟨k.os.trans h.os, k.tape.trans h.tape, k.output.trans h.output, Nat.le_trans h.size k.size, fun i hi hn => (k.block i (Nat.lt_of_lt_of_le hi h.size) hn).trans (h.block i hi hn)⟩
theorem Touch.next (h : Touch w w' S) (k : Touch w' w'' S') (hs : ∀ i, i < w.heap.size → S' i → S i) : Touch w w'' S :=
 ⟨k.os.trans h.os, k.tape.trans h.tape, k.output.trans h.output, Nat.le_trans h.size k.size, fun i hi hn => (k.block i (Nat.lt_of_lt_of_le hi h.size) (fun e => hn (hs i hi e))).trans (h.block i hi hn)⟩
theorem yak {B : Nat} (h : Below B w w') (hB : w.heap.size ≤ B) : Touch w w' S := ⟨h.os, h.tape, h.output, h.size, fun i hi _ => h.block i (by omega)⟩
theorem yaq {row : Option Nat} (h : w.grownBy w' row) : Touch w w' (fun k => some k = row) := ⟨h.os, h.tape, h.output, h.size, fun i hi hn => h.block i hi hn⟩
theorem Touch.set (h : Touch w w' S) {p : Addr} (hp : S p.block ∨ w.heap.size ≤ p.block) (u : Value) : Touch w (w'.setCell p u) S :=
 ⟨h.os, h.tape, h.output, by have := h.size; simpa [World.setCell] using this, fun i hi hn => by
  have e : i ≠ p.block := by
   rcases hp with hp | hp
   ·rintro rfl
    exact hn hp
   ·omega
  exact (Below.heap_setCell _ _ _ _ e).trans (h.block i hi hn)⟩
theorem Touch.alloc (h : Touch w w' S) (o : Obj) : Touch w (w'.alloc o) S := h.trans (yak ((Below.refl _ _).alloc (Nat.le_refl _) o) (Nat.le_refl _))
theorem Touch.drewN (h : Touch w w' S) (n : Nat) : Touch w (w'.drewN n) S := ⟨h.os, h.tape, h.output, h.size, h.block⟩
theorem Touch.below {B : Nat} (h : Touch w w' S) (hS : ∀ k, k < w.heap.size → S k → B ≤ k) (hB : B ≤ w.heap.size) : Below B w w' :=
 ⟨h.os, h.tape, h.output, h.size, fun i hi => h.block i (by omega) (fun e => by have := hS i (by omega) e; omega)⟩
theorem Blk.touch {b : Nat} {t : TypeId} {cs : Array Value} (h : Blk w b t cs) (ht : Touch w w' S) (hb : ¬ S b) : Blk w' b t cs := (ht.block b h.lt hb).trans h
theorem Blk.grow' {b : Nat} {t : TypeId} {cs : Array Value} {row : Option Nat} (h : Blk w b t cs) (hg : w.grownBy w' row) (hb : row ≠ some b) : Blk w' b t cs := (hg.block b h.lt (fun e => hb e.symm)).trans h
theorem yaz {base size n : Nat} {e : TypeId} {v : Value} {xs : List Value} (h : w.ownsRow base e size v n xs) (ht : Touch w w' S) (hn : ∀ k, v.ownBlock = some k → ¬ S k) : w'.ownsRow base e size v n xs := by
 refine ⟨h.1, ?_⟩
 rcases h.2 with h0 | ⟨g, cap, cur, rfl, hb, hg, rest⟩
 ·exact .inl h0
 ·exact .inr ⟨g, cap, cur, rfl, hb, (ht.block g (Array.getElem?_eq_some_iff.1 hg).1 (hn g rfl)).trans hg, rest⟩
theorem yah {base size n B : Nat} {e : TypeId} {v : Value} {xs : List Value} (h : w.ownsRow base e size v n xs) (hb : Below B w w') (hB : w.heap.size ≤ B) : w'.ownsRow base e size v n xs :=
 yaz h (yak (S := fun _ => False) hb hB) (fun _ _ h => h)
theorem ya7 {base size n : Nat} {e t : TypeId} {v : Value} {xs : List Value} {cs : Array Value} {b : Nat} (h : w.ownsRow base e size v n xs) (hB : Blk w b t cs) (hne : e ≠ t) : v.ownBlock ≠ some b := by
 intro hv
 rcases h.2 with ⟨rfl, _⟩ | ⟨g, cap, cur, rfl, _, hg, _⟩
 ·cases hv
 ·injection hv with hv
  simp only at hv
  subst hv
  unfold Blk at hB
  rw [hB] at hg
  injection hg with hg
  injection hg with _ h2
  exact hne h2.symm
theorem yae {base size n : Nat} {e : TypeId} {v : Value} {xs : List Value} (h : w.ownsRow base e size v n xs) : ∃ A c, v = .slice A n c ∧ n ≤ c ∧ Reads w w.heap.size size A n xs := by
 obtain ⟨hl, ⟨rfl, h0⟩ | ⟨g, cap, cur, rfl, hb, hheap, hcap, hm, hcs, htk⟩⟩ := h
 ·subst h0
  refine ⟨none, 0, rfl, Nat.le_refl _, hl, fun hn => absurd hn (by omega)⟩
 ·refine ⟨_, _, rfl, hcap, hl, fun _ => ⟨g, 0, rfl, ?_, fun j u hu => ?_⟩⟩
  ·rcases Nat.lt_or_ge g w.heap.size with hlt | hge
   ·exact hlt
   ·rw [Array.getElem?_eq_none hge] at hheap; cases hheap
  ·rw [cell_of_row w g _ cur e (0, 0) hheap, Nat.zero_add, ← htk] at *
   rw [List.getElem?_take] at hu
   split at hu
   ·simpa using hu
   ·cases hu
end
theorem ycV {P : Program} {src dst e : TypeId} (hs : P.underlying src = some (.slice e)) (he : P.underlying e = some (.int .u8)) (hd : P.underlying dst = some .string)
  (w : World) (A : Option Addr) (c : Nat) (l : List UInt8) (hr : Reads w w.heap.size 1 A l.length (bc l).toList) :
  (convert src dst (.slice A l.length c)).run P w = .ok (.string ⟨l.toArray⟩) w := by
 rcases Nat.eq_zero_or_pos l.length with h0 | h0
 ·have hl := List.length_eq_zero_iff.1 h0
  subst hl
  rw [run_convert_bytes_string w src dst e _ _ _ hs he hd]
  cases A with
  | none => rfl
  | some a => exact run_bytesToString w a 0 c [] (by simp [loadCells, loadCellsFrom])
 ·obtain ⟨b, off, rfl, _, hc⟩ := hr.2 h0
  exact ycN hs he hd w b off c l l.length rfl fun j u hj => hc j _ (by simp [bc, hj])
def Sep (w : World) (v v' : Value) : Prop := ∀ k, v'.ownBlock = some k → v.ownBlock = some k ∨ w.heap.size ≤ k
theorem ydS {P : Program} (w : World) (base : Nat) (t ty e : TypeId) (i : TypeInfo) (z : Value) (size bytes : Nat) (ht : P.underlying t = some (.slice e)) (hi : P.info? e = some i) (hz : i.zero = some z)
  (hsize : i.size = size) (hby : i.bytes = bytes) (hzs : z.cells.size = size) (hsz : 0 < size)
  (v : Value) (n : Nat) (xs : List Value) (hown : w.ownsRow base e size v n xs)
  (Ax : Option Addr) (m c B : Nat) (news : List Value) (hr : Reads w B size Ax m news) (h1 : ∀ u ∈ news, u.oneCell' = true)
  (h63 : n + m ≤ maxLen) (hbytes : (n + m) * bytes ≤ 140737488355328) (hbase : base ≤ w.heap.size) :
  ∃ v' w', (Builtin.append_ #[t, t] ty #[v, .slice Ax m c]).run P w = .ok v' w' ∧ w'.ownsRow base e size v' (n + m) (xs ++ news) ∧ w.grownBy w' v.ownBlock ∧ Sep w v v' := by
 have hsmall : n + m ≤ 9223372036854775807 := by simp only [maxLen] at h63; omega
 have hnil : m = 0 → news = [] := fun hm => by
  have hl := hr.1
  rw [hm, Nat.zero_mul] at hl
  exact List.length_eq_zero_iff.1 hl
 cases Ax with
 | none =>
  have hm : m = 0 := by
   rcases Nat.eq_zero_or_pos m with hm | hm
   ·exact hm
   ·obtain ⟨b, off, hA, _⟩ := hr.2 hm
    cases hA
  rw [hnil hm]
  subst hm
  refine ⟨v, w, ?_, by simpa using hown, ⟨rfl, rfl, rfl, Nat.le_refl _, fun _ _ _ => rfl⟩, fun k hk => Or.inl hk⟩
  rcases hown.2 with ⟨rfl, rfl⟩ | ⟨g, cap, cur, rfl, _, _, hcap, _⟩
  ·exact run_append_nothing w t t ty e i ht hi none 0 0 (Nat.le_refl _) _ (Src.ofNil w ht c)
  ·exact run_append_nothing w t t ty e i ht hi _ n cap hcap _ (Src.ofNil w ht c)
 | some ad =>
  have hnews : ∀ j u, news[j]? = some u → w.cell? (ad.add j) = some u := fun j u hj => by
   rcases Nat.eq_zero_or_pos m with hm | hm
   ·rw [hnil hm] at hj
    simp at hj
   ·obtain ⟨b, off, hA, _, hc⟩ := hr.2 hm
    injection hA with hA
    subst hA
    rw [ydW]
    exact hc j u hj
  have hl := hr.1
  obtain ⟨v', w', hrun, h2, h3, h4⟩ := run_append_own (P := P) w base t ty e i z size bytes ht hi hz hsize hby hzs hsz v n xs hown ad m c news hl hnews h1 h63 hbytes hbase
  refine ⟨v', w', hrun, h2, h3, ?_⟩
  subst hsize
  subst hby
  rcases hown.2 with ⟨rfl, rfl⟩ | ⟨g, cap, cur, rfl, hbg, hg, hnc, hcm, hcs, htake⟩
  ·rcases Nat.eq_zero_or_pos m with hm | hm
   ·rw [h4.2 ⟨rfl, hm⟩]
    exact fun k hk => Or.inl hk
   ·have hr2 := run_append_nil (P := P) w t ty e i z ht hi hz ad m c news hl hnews (by omega) (by omega) (by have hb := hbytes; simp only [Nat.zero_add] at hb; omega)
    rw [hr2] at hrun
    injection hrun with e1 _
    subst e1
    intro k hk
    injection hk with hk
    simp only at hk
    exact Or.inr (by omega)
  ·by_cases hroom : n + m ≤ cap
   ·have hfit : n * i.size + news.length ≤ cur.size := by rw [hl, hcs, ← Nat.add_mul]; exact Nat.mul_le_mul_right _ hroom
    have hr2 := run_append_room (P := P) w t ty e i ht hi g n cap cur hg ad m c news hl hnews h1 hroom hfit
    rw [hr2] at hrun
    injection hrun with e1 _
    subst e1
    exact fun k hk => Or.inl hk
   ·have holds : ∀ j u, xs[j]? = some u → w.cell? ((⟨g, 0, none⟩ : Addr).add j) = some u := hown.cells (g := g) rfl
    have hr2 := run_append_grow (P := P) w t ty e i z ht hi hz ⟨g, 0, none⟩ n cap xs hown.1 holds ad m c news hl hnews (by omega) (by omega) (growslice_fits (by omega) hbytes)
    rw [hr2] at hrun
    injection hrun with e1 _
    subst e1
    intro k hk
    injection hk with hk
    simp only at hk
    exact Or.inr (by omega)
theorem yaf {P : Program} (w : World) {ops : Array Oper} {rest : List Oper} {o : Oper} {a : Act} {Q : Exit → Act → World → Prop} (hgd : o.guard = none) (s x : Operand) (t : TypeId)
  (ho : o.op = .call { callee := .builtin .append, args := #[s, x], argTypes := #[t, t] })
  (base : Nat) (e : TypeId) (i : TypeInfo) (z : Value) (size bytes : Nat) (ht : P.underlying t = some (.slice e)) (hi : P.info? e = some i) (hz : i.zero = some z)
  (hsize : i.size = size) (hby : i.bytes = bytes) (hzs : z.cells.size = size) (hsz : 0 < size)
  (v : Value) (n : Nat) (xs : List Value) (hs : a.eval s = v) (hown : w.ownsRow base e size v n xs)
  (Ax : Option Addr) (m c B : Nat) (news : List Value) (hx : a.eval x = .slice Ax m c) (hr : Reads w B size Ax m news) (h1 : ∀ u ∈ news, u.oneCell' = true)
  (h63 : n + m ≤ maxLen) (hbytes : (n + m) * bytes ≤ 140737488355328) (hbase : base ≤ w.heap.size)
  (h : ∀ v' w', w'.ownsRow base e size v' (n + m) (xs ++ news) → w.grownBy w' v.ownBlock → Sep w v v' → wpList P ops Q rest (a.put o.dst v') w') : wpList P ops Q (o :: rest) a w := by
 obtain ⟨v', w', hrun, h2, h3, h4⟩ := ydS (P := P) w base t o.type e i z size bytes ht hi hz hsize hby hzs hsz v n xs hown Ax m c B news hr h1 h63 hbytes hbase
 refine wpList_plain hgd fun K hK => ?_
 unfold Oper.wp execOp
 simp only [ho, resolve, invoke, builtin, Sem.run_bind, Sem.run_pure, Result.andThen_ok, List.map_toArray, List.map_cons, List.map_nil, hs, hx, hrun]
 exact hK _ _ (h v' w' h2 h3 h4)
theorem ya1 (w : World) (t : TypeId) (cs : Array Value) (size n : Nat) (hl : cs.size = n * size) : Reads (w.alloc (.cells cs t)) (w.heap.size + 1) size (some ⟨w.heap.size, 0, none⟩) n cs.toList := by
 have := Reads.new w t cs.toList size n (by simpa using hl)
 simpa using this
structure LTh where
 w : Int
 syms : List Nat
 leaf : Bool
def lle (a b : LTh) : Bool := decide (a.w < b.w) || (decide (a.w = b.w) && (a.leaf || !b.leaf))
def lput : List LTh → LTh → List LTh
 | [], x => [x]
 | y :: t, x => if lle y x = true then y :: lput t x else x :: y :: t
def yb8 (a b : LTh) : LTh := ⟨a.w + b.w, a.syms ++ b.syms, false⟩
def yas : List LTh → List LTh
 | a :: b :: t => yb8 a b :: yas t
 | _ => []
def yhF (row leaves : List LTh) : List LTh := leaves.foldl lput ((yas row).foldl lput [])
def lrow (leaves : List LTh) : Nat → List LTh
 | 0 => leaves
 | k + 1 => yhF (lrow leaves k) leaves
theorem ybq (a b : LTh) : lle a b = true ↔ a.w < b.w ∨ (a.w = b.w ∧ (a.leaf = true ∨ b.leaf = false)) := by simp [lle]
theorem lle_w {a b : LTh} (h : lle a b = true) : a.w ≤ b.w := by rw [ybq] at h; omega
theorem yh0 {a b c : LTh} (h : lle a b = true) (k : lle b c = true) : lle a c = true := by
 rw [ybq] at *
 rcases h with h | ⟨h, h2⟩ <;> rcases k with k | ⟨k, k2⟩
 ·exact Or.inl (by omega)
 ·exact Or.inl (by omega)
 ·exact Or.inl (by omega)
 ·refine Or.inr ⟨by omega, ?_⟩
  rcases h2 with h2 | h2
  ·exact Or.inl h2
  ·rcases k2 with k2 | k2
   ·rw [k2] at h2; cases h2
   ·exact Or.inr k2
theorem lle_total {a b : LTh} (h : lle a b = false) : lle b a = true := by
 have h' : ¬ lle a b = true := by rw [h]; decide
 rw [ybq] at *
 rcases Int.lt_trichotomy a.w b.w with h1 | h1 | h1
 ·exact absurd (Or.inl h1) h'
 ·refine Or.inr ⟨h1.symm, ?_⟩
  cases hb : b.leaf with
  | true => exact Or.inl rfl
  | false => exact absurd (Or.inr ⟨h1, Or.inr hb⟩) h'
 ·exact Or.inl h1
theorem lle_refl (a : LTh) : lle a a = true := by
 rw [ybq]
 refine Or.inr ⟨rfl, ?_⟩
 cases a.leaf <;> simp
theorem ybc (x : LTh) : ∀ row : List LTh, ∃ r1 r2, row = r1 ++ r2 ∧ lput row x = r1 ++ x :: r2 ∧ (∀ y ∈ r1, lle y x = true) ∧ ∀ y t, r2 = y :: t → lle y x = false
 | [] => ⟨[], [], rfl, rfl, by simp, by simp⟩
 | y :: t => by
  obtain ⟨r1, r2, h1, h2, h3, h4⟩ := ybc x t
  by_cases h : lle y x = true
  ·refine ⟨y :: r1, r2, by rw [h1]; rfl, by unfold lput; rw [if_pos h, h2]; rfl, ?_, h4⟩
   intro z hz
   rcases List.mem_cons.1 hz with rfl | hz
   ·exact h
   ·exact h3 z hz
  ·refine ⟨[], y :: t, rfl, by unfold lput; rw [if_neg h]; rfl, by simp, ?_⟩
   intro z u e
   injection e with e _
   subst e
   simpa using h
structure LRow (leaves packs R : List LTh) : Prop where
 order : R.Pairwise (fun a b => lle a b = true)
 lv : R.filter (fun x => x.leaf) = leaves
 pk : R.filter (fun x => !x.leaf) = packs
theorem lput_end (x : LTh) : ∀ row : List LTh, (∀ y ∈ row, lle y x = true) → lput row x = row ++ [x]
 | [], _ => rfl
 | y :: t, h => by
  unfold lput
  rw [if_pos (h y (List.mem_cons_self ..)), lput_end x t fun z hz => h z (List.mem_cons_of_mem _ hz)]
  rfl
theorem lput_all : ∀ (xs acc : List LTh), (acc ++ xs).Pairwise (fun a b => lle a b = true) → xs.foldl lput acc = acc ++ xs
 | [], acc, _ => by simp
 | x :: t, acc, h => by
  rw [List.foldl_cons, lput_end x acc fun y hy => (List.pairwise_append.1 h).2.2 y hy x (List.mem_cons_self ..)]
  rw [lput_all t (acc ++ [x]) (by rw [List.append_assoc]; exact h), List.append_assoc]
  rfl
theorem lput_leaf {leaves packs R : List LTh} (h : LRow leaves packs R) (x : LTh) (hx : x.leaf = true) (hle : ∀ y ∈ leaves, y.w ≤ x.w) : LRow (leaves ++ [x]) packs (lput R x) := by
 obtain ⟨r1, r2, h1, h2, h3, h4⟩ := ybc x R
 have ho := h.order
 rw [h1] at ho
 obtain ⟨o1, o2, o3⟩ := List.pairwise_append.1 ho
 have hx2 : ∀ z ∈ r2, lle x z = true := by
  intro z hz
  cases hr : r2 with
  | nil => rw [hr] at hz; cases hz
  | cons y t =>
   have hy := lle_total (h4 y t hr)
   rw [hr] at hz o2
   rcases List.mem_cons.1 hz with rfl | hz
   ·exact hy
   ·exact yh0 hy ((List.pairwise_cons.1 o2).1 z hz)
 have hnl : ∀ z ∈ r2, z.leaf = false := by
  intro z hz
  cases hzl : z.leaf with
  | false => rfl
  | true =>
   exfalso
   have hzw : z.w ≤ x.w := hle z (by rw [← h.lv, h1]; exact List.mem_filter.2 ⟨List.mem_append_right _ hz, hzl⟩)
   cases hr : r2 with
   | nil => rw [hr] at hz; cases hz
   | cons y t =>
    have hy := h4 y t hr
    have hyz : lle y z = true := by
     rw [hr] at hz o2
     rcases List.mem_cons.1 hz with rfl | hz
     ·exact lle_refl _
     ·exact (List.pairwise_cons.1 o2).1 z hz
    have hzx : lle z x = true := by
     rw [ybq]
     rcases Int.lt_or_eq_of_le hzw with h5 | h5
     ·exact Or.inl h5
     ·exact Or.inr ⟨h5, Or.inl hzl⟩
    rw [yh0 hyz hzx] at hy
    cases hy
 have hf2 : r2.filter (fun x => x.leaf) = [] := List.filter_eq_nil_iff.2 fun z hz => by rw [hnl z hz]; decide
 refine ⟨?_, ?_, ?_⟩
 ·rw [h2, List.pairwise_append]
  refine ⟨o1, List.pairwise_cons.2 ⟨hx2, o2⟩, ?_⟩
  intro a ha b hb
  rcases List.mem_cons.1 hb with rfl | hb
  ·exact h3 a ha
  ·exact o3 a ha b hb
 ·rw [h2, ← h.lv, h1, List.filter_append, List.filter_append, List.filter_cons, hf2, if_pos (by simpa using hx), List.append_nil]
 ·rw [h2, ← h.pk, h1, List.filter_append, List.filter_append, List.filter_cons, if_neg (by simp [hx])]
structure yaO (leaves : List LTh) : Prop where
 all : ∀ x ∈ leaves, x.leaf = true
 order : leaves.Pairwise (fun a b => a.w ≤ b.w)
theorem yfC : ∀ (xs leaves packs R : List LTh), LRow leaves packs R → (∀ x ∈ xs, x.leaf = true) → (leaves ++ xs).Pairwise (fun a b => a.w ≤ b.w) → LRow (leaves ++ xs) packs (xs.foldl lput R)
 | [], leaves, packs, R, h, _, _ => by simpa using h
 | x :: t, leaves, packs, R, h, ha, ho => by
  have h1 := lput_leaf h x (ha x (List.mem_cons_self ..)) fun y hy => (List.pairwise_append.1 ho).2.2 y hy x (List.mem_cons_self ..)
  have := yfC t (leaves ++ [x]) packs (lput R x) h1 (fun z hz => ha z (List.mem_cons_of_mem _ hz)) (by rw [List.append_assoc]; exact ho)
  rw [List.append_assoc] at this
  exact this
theorem ybY : ∀ (R : List LTh), ∀ x ∈ yas R, x.leaf = false
 | [], x, h => by cases h
 | [_], x, h => by cases h
 | a :: b :: t, x, h => by
  rcases List.mem_cons.1 h with rfl | h
  ·rfl
  ·exact ybY t x h
theorem lpacks_ge : ∀ (R : List LTh) (c : Int), (∀ x ∈ R, c ≤ x.w) → ∀ x ∈ yas R, c + c ≤ x.w
 | [], c, _, x, h => by cases h
 | [_], c, _, x, h => by cases h
 | a :: b :: t, c, hc, x, h => by
  rcases List.mem_cons.1 h with rfl | h
  ·have h1 := hc a (by simp)
   have h2 := hc b (by simp)
   show c + c ≤ a.w + b.w
   omega
  ·exact lpacks_ge t c (fun y hy => hc y (by simp [hy])) x h
theorem ydo : ∀ (R : List LTh), R.Pairwise (fun a b => a.w ≤ b.w) → (yas R).Pairwise (fun a b => lle a b = true)
 | [], _ => List.Pairwise.nil
 | [_], _ => List.Pairwise.nil
 | a :: b :: t, h => by
  obtain ⟨h1, h2⟩ := List.pairwise_cons.1 h
  obtain ⟨h3, h4⟩ := List.pairwise_cons.1 h2
  refine List.pairwise_cons.2 ⟨?_, ydo t h4⟩
  intro x hx
  have hb := lpacks_ge t b.w h3 x hx
  have hab := h1 b (List.mem_cons_self ..)
  rw [ybq]
  have hw : (yb8 a b).w ≤ x.w := by show a.w + b.w ≤ x.w; omega
  rcases Int.lt_or_eq_of_le hw with h5 | h5
  ·exact Or.inl h5
  ·exact Or.inr ⟨h5, Or.inr (ybY t x hx)⟩
theorem yc4 : ∀ (R : List LTh), (yas R).length = R.length / 2
 | [] => rfl
 | [_] => by simp [yas]
 | a :: b :: t => by
  show (yas t).length + 1 = (t.length + 1 + 1) / 2
  rw [yc4 t]
  omega
theorem yeZ {R : List LTh} (h : R.Pairwise (fun a b => lle a b = true)) : R.Pairwise (fun a b => a.w ≤ b.w) := h.imp lle_w
theorem ygY {leaves row : List LTh} (hl : yaO leaves) (hr : row.Pairwise (fun a b => a.w ≤ b.w)) : LRow leaves (yas row) (yhF row leaves) := by
 have hp := ydo row hr
 have h0 : LRow [] (yas row) ((yas row).foldl lput []) := by
  rw [lput_all (yas row) [] (by simpa using hp), List.nil_append]
  exact ⟨hp, List.filter_eq_nil_iff.2 fun z hz => by rw [ybY row z hz]; decide, List.filter_eq_self.2 fun z hz => by rw [ybY row z hz]; rfl⟩
 have := yfC leaves [] (yas row) _ h0 hl.all (by simpa using hl.order)
 simpa [yhF] using this
theorem yfj {leaves : List LTh} (hl : yaO leaves) : ∀ k, (lrow leaves k).Pairwise (fun a b => a.w ≤ b.w)
 | 0 => hl.order
 | k + 1 => yeZ (ygY hl (yfj hl k)).order
theorem yb2 {leaves : List LTh} (hl : yaO leaves) (k : Nat) : LRow leaves (yas (lrow leaves k)) (lrow leaves (k + 1)) := ygY hl (yfj hl k)
theorem ydd (R : List LTh) : R.length = (R.filter (fun x => x.leaf)).length + (R.filter (fun x => !x.leaf)).length := by
 induction R with
 | nil => rfl
 | cons a t ih =>
  rw [List.filter_cons, List.filter_cons]
  cases a.leaf <;> simp <;> omega
theorem ygw {leaves : List LTh} (hl : yaO leaves) (k : Nat) : (lrow leaves (k + 1)).length = leaves.length + (lrow leaves k).length / 2 := by
 have h := yb2 hl k
 rw [ydd, h.lv, h.pk, yc4]
def lsum (f : LTh → Int) : List LTh → Int
 | [] => 0
 | x :: t => f x + lsum f t
theorem ycH (f : LTh → Int) : ∀ a b : List LTh, lsum f (a ++ b) = lsum f a + lsum f b
 | [], b => by simp [lsum]
 | x :: t, b => by
  show f x + lsum f (t ++ b) = f x + lsum f t + lsum f b
  rw [ycH f t b]
  omega
theorem lsum_parts (f : LTh → Int) (R : List LTh) : lsum f R = lsum f (R.filter (fun x => x.leaf)) + lsum f (R.filter (fun x => !x.leaf)) := by
 induction R with
 | nil => rfl
 | cons a t ih =>
  rw [List.filter_cons, List.filter_cons]
  cases a.leaf <;> simp [lsum] <;> omega
def LAdds (f : LTh → Int) : Prop := ∀ a b, f (yb8 a b) = f a + f b
theorem yfx {f : LTh → Int} (hf : LAdds f) : ∀ (R : List LTh) (b : Nat), 2 * b ≤ R.length → lsum f ((yas R).take b) = lsum f (R.take (2 * b))
 | R, 0, _ => by simp [lsum]
 | [], b + 1, h => by simp at h
 | [_], b + 1, h => by simp at h; omega
 | x :: y :: t, b + 1, h => by
  have ih := yfx hf t b (by simp at h; omega)
  rw [show 2 * (b + 1) = 2 * b + 1 + 1 from by omega]
  show lsum f (yb8 x y :: (yas t).take b) = lsum f (x :: y :: t.take (2 * b))
  simp only [lsum, ih, hf x y]
  omega
def lcnt (R : List LTh) (t : Nat) : Nat := ((R.take t).filter (fun x => x.leaf)).length
section
variable {leaves packs R : List LTh}
theorem LRow.take_lv (h : LRow leaves packs R) (t : Nat) : (R.take t).filter (fun x => x.leaf) = leaves.take (lcnt R t) := by
 have e : R.filter (fun x => x.leaf) = (R.take t).filter (fun x => x.leaf) ++ (R.drop t).filter (fun x => x.leaf) := by rw [← List.filter_append, List.take_append_drop]
 rw [h.lv] at e
 rw [e]
 unfold lcnt
 rw [List.take_left' rfl]
theorem LRow.take_pk (h : LRow leaves packs R) (t : Nat) (ht : t ≤ R.length) : (R.take t).filter (fun x => !x.leaf) = packs.take (t - lcnt R t) := by
 have e : R.filter (fun x => !x.leaf) = (R.take t).filter (fun x => !x.leaf) ++ (R.drop t).filter (fun x => !x.leaf) := by rw [← List.filter_append, List.take_append_drop]
 rw [h.pk] at e
 have hl := ydd (R.take t)
 rw [List.length_take, Nat.min_eq_left ht] at hl
 rw [e, List.take_left' (by unfold lcnt; omega)]
theorem lcnt_le (R : List LTh) (t : Nat) : lcnt R t ≤ t := by
 unfold lcnt
 have := List.length_filter_le (fun x : LTh => x.leaf) (R.take t)
 rw [List.length_take] at this
 omega
theorem LRow.cnt_leaves (h : LRow leaves packs R) (t : Nat) : lcnt R t ≤ leaves.length := by
 have := congrArg List.length (h.take_lv t)
 rw [List.length_take] at this
 unfold lcnt at *
 omega
theorem LRow.cnt_packs (h : LRow leaves packs R) (t : Nat) (ht : t ≤ R.length) : t - lcnt R t ≤ packs.length := by
 have h1 := congrArg List.length (h.take_pk t ht)
 have hl := ydd (R.take t)
 rw [List.length_take, Nat.min_eq_left ht] at hl
 rw [List.length_take] at h1
 unfold lcnt at *
 omega
theorem LRow.take_sum (h : LRow leaves packs R) (f : LTh → Int) (t : Nat) (ht : t ≤ R.length) : lsum f (R.take t) = lsum f (leaves.take (lcnt R t)) + lsum f (packs.take (t - lcnt R t)) := by
 rw [lsum_parts, h.take_lv t, h.take_pk t ht]
end
def yei (leaves : List LTh) : Nat → Nat → List Nat
 | 0, t => [t]
 | k + 1, t => lcnt (lrow leaves (k + 1)) t :: yei leaves k (2 * (t - lcnt (lrow leaves (k + 1)) t))
theorem ydM {leaves : List LTh} (hl : yaO leaves) (k t : Nat) (ht : t ≤ (lrow leaves (k + 1)).length) : 2 * (t - lcnt (lrow leaves (k + 1)) t) ≤ (lrow leaves k).length := by
 have := (yb2 hl k).cnt_packs t ht
 rw [yc4] at this
 omega
def nsum (g : Nat → Int) : List Nat → Int
 | [] => 0
 | x :: t => g x + nsum g t
theorem lprof_sum {leaves : List LTh} (hl : yaO leaves) {f : LTh → Int} (hf : LAdds f) : ∀ k t, t ≤ (lrow leaves k).length → lsum f ((lrow leaves k).take t) = nsum (fun a => lsum f (leaves.take a)) (yei leaves k t)
 | 0, t, _ => by simp [yei, nsum, lrow]
 | k + 1, t, ht => by
  have hn := ydM hl k t ht
  rw [(yb2 hl k).take_sum f t ht, yfx hf _ _ hn, lprof_sum hl hf k _ hn]
  rfl
theorem yeN (leaves : List LTh) : ∀ k t, (yei leaves k t).length = k + 1
 | 0, t => rfl
 | k + 1, t => by
  show (yei leaves k _).length + 1 = _
  rw [yeN leaves k]
theorem lprof_le {leaves : List LTh} (hl : yaO leaves) : ∀ k t, t ≤ (lrow leaves k).length → ∀ a ∈ yei leaves k t, a ≤ leaves.length
 | 0, t, ht, a, ha => by
  simp [yei] at ha
  subst ha
  exact ht
 | k + 1, t, ht, a, ha => by
  rcases List.mem_cons.1 ha with rfl | ha
  ·exact (yb2 hl k).cnt_leaves t
  ·exact lprof_le hl k _ (ydM hl k t ht) a ha
def lwid : List Nat → Nat
 | [] => 0
 | a :: t => 2 ^ t.length * a + lwid t
theorem lprof_wid {leaves : List LTh} : ∀ k t, lwid (yei leaves k t) = 2 ^ k * t
 | 0, t => by simp [yei, lwid]
 | k + 1, t => by
  show 2 ^ (yei leaves k _).length * _ + lwid (yei leaves k _) = _
  have hc := lcnt_le (lrow leaves (k + 1)) t
  rw [yeN, lprof_wid k]
  generalize lcnt (lrow leaves (k + 1)) t = c at *
  obtain ⟨d, rfl⟩ : ∃ d, t = c + d := ⟨t - c, by omega⟩
  rw [show c + d - c = d from by omega, Nat.pow_succ, Nat.mul_add, Nat.mul_assoc, Nat.mul_assoc]
theorem LRow.drop_lv {leaves packs R : List LTh} (h : LRow leaves packs R) (t : Nat) : (R.drop t).filter (fun x => x.leaf) = leaves.drop (lcnt R t) := by
 have e : R.filter (fun x => x.leaf) = (R.take t).filter (fun x => x.leaf) ++ (R.drop t).filter (fun x => x.leaf) := by rw [← List.filter_append, List.take_append_drop]
 rw [h.lv] at e
 rw [e]
 unfold lcnt
 rw [List.drop_left' rfl]
theorem lpacks_pos : ∀ (R : List LTh), (∀ x ∈ R, 0 < x.w) → ∀ p ∈ yas R, 0 < p.w
 | [], _, p, h => by cases h
 | [_], _, p, h => by cases h
 | a :: b :: t, hp, p, h => by
  rcases List.mem_cons.1 h with rfl | h
  ·have h1 := hp a (by simp)
   have h2 := hp b (by simp)
   show 0 < a.w + b.w
   omega
  ·exact lpacks_pos t (fun y hy => hp y (by simp [hy])) p h
theorem lrow_pos {leaves : List LTh} (hl : yaO leaves) (hp : ∀ x ∈ leaves, 0 < x.w) : ∀ k, ∀ x ∈ lrow leaves k, 0 < x.w
 | 0, x, h => hp x h
 | k + 1, x, h => by
  have hr := yb2 hl k
  cases hx : x.leaf with
  | true => exact hp x (by rw [← hr.lv]; exact List.mem_filter.2 ⟨h, hx⟩)
  | false => exact lpacks_pos _ (lrow_pos hl hp k) x (by rw [← hr.pk]; exact List.mem_filter.2 ⟨h, by simp [hx]⟩)
theorem lpacks_has : ∀ (R : List LTh) (b : Nat), 2 * b ≤ R.length → (∀ x ∈ R, 0 < x.w) → ∀ x ∈ R.take (2 * b), ∃ p ∈ (yas R).take b, x.w < p.w
 | R, 0, _, _, x, h => by simp at h
 | [], b + 1, h, _, x, hx => by simp at h
 | [_], b + 1, h, _, x, hx => by simp at h; omega
 | y :: z :: t, b + 1, h, hp, x, hx => by
  rw [show 2 * (b + 1) = 2 * b + 1 + 1 from by omega] at hx
  have h1 := hp y (by simp)
  have h2 := hp z (by simp)
  rcases List.mem_cons.1 hx with rfl | hx
  ·exact ⟨yb8 x z, List.mem_cons_self .., by show x.w < x.w + z.w; omega⟩
  ·rcases List.mem_cons.1 hx with rfl | hx
   ·exact ⟨yb8 y x, List.mem_cons_self .., by show x.w < y.w + x.w; omega⟩
   ·obtain ⟨p, hp1, hp2⟩ := lpacks_has t b (by simp at h; omega) (fun u hu => hp u (by simp [hu])) x hx
    exact ⟨p, List.mem_cons_of_mem _ hp1, hp2⟩
theorem lrow_lv {leaves : List LTh} (hl : yaO leaves) (k s : Nat) : ((lrow leaves k).take s).filter (fun x => x.leaf) = leaves.take (lcnt (lrow leaves k) s) := by
 cases k with
 | zero =>
  have h1 : ∀ x ∈ leaves.take s, x.leaf = true := fun x hx => hl.all x (List.mem_of_mem_take hx)
  show (leaves.take s).filter _ = leaves.take ((leaves.take s).filter _).length
  rw [List.filter_eq_self.2 h1, List.length_take]
  rcases Nat.le_total s leaves.length with h | h
  ·rw [Nat.min_eq_left h]
  ·rw [Nat.min_eq_right h, List.take_length, List.take_of_length_le h]
 | succ k => exact (yb2 hl k).take_lv s
theorem lcnt_nest {leaves : List LTh} (hl : yaO leaves) (hp : ∀ x ∈ leaves, 0 < x.w) (k t : Nat) (ht : t ≤ (lrow leaves (k + 1)).length) :
  lcnt (lrow leaves k) (2 * (t - lcnt (lrow leaves (k + 1)) t)) ≤ lcnt (lrow leaves (k + 1)) t := by
 have hr := yb2 hl k
 have hn := ydM hl k t ht
 have hlv := lrow_lv hl k (2 * (t - lcnt (lrow leaves (k + 1)) t))
 have hpk := hr.take_pk t ht
 have hdl := hr.drop_lv t
 generalize hc : lcnt (lrow leaves (k + 1)) t = c at *
 generalize hc2 : lcnt (lrow leaves k) (2 * (t - c)) = c2 at *
 rcases Nat.lt_or_ge c c2 with hlt | hge
 ·exfalso
  have hlen : c2 ≤ leaves.length := by
   have h1 := congrArg List.length hlv
   rw [List.length_take] at h1
   have h2 : ((List.take (2 * (t - c)) (lrow leaves k)).filter (fun x => x.leaf)).length = c2 := hc2
   omega
  have hcl : c < leaves.length := by omega
  have hm1 : leaves[c] ∈ leaves.take c2 := List.mem_iff_getElem.2 ⟨c, by rw [List.length_take]; omega, by simp⟩
  rw [← hlv] at hm1
  obtain ⟨p, hp1, hp2⟩ := lpacks_has (lrow leaves k) (t - c) hn (lrow_pos hl hp k) leaves[c] (List.mem_filter.1 hm1).1
  rw [← hpk] at hp1
  have hpt := (List.mem_filter.1 hp1).1
  have hm2 : leaves[c] ∈ leaves.drop c := List.mem_iff_getElem.2 ⟨0, by rw [List.length_drop]; omega, by simp⟩
  rw [← hdl] at hm2
  have hxd := (List.mem_filter.1 hm2).1
  have ho := yeZ hr.order
  rw [← List.take_append_drop t (lrow leaves (k + 1))] at ho
  have := (List.pairwise_append.1 ho).2.2 p hpt _ hxd
  omega
 ·exact hge
theorem lprof_head {leaves : List LTh} (hl : yaO leaves) : ∀ k t, t ≤ (lrow leaves k).length → ∃ l, yei leaves k t = lcnt (lrow leaves k) t :: l
 | 0, t, ht => by
  refine ⟨[], ?_⟩
  have h1 : ∀ x ∈ leaves.take t, x.leaf = true := fun x hx => hl.all x (List.mem_of_mem_take hx)
  show [t] = [((leaves.take t).filter _).length]
  rw [List.filter_eq_self.2 h1, List.length_take, Nat.min_eq_left (show t ≤ leaves.length from ht)]
 | k + 1, t, _ => ⟨_, rfl⟩
theorem ygW {leaves : List LTh} (hl : yaO leaves) (hp : ∀ x ∈ leaves, 0 < x.w) : ∀ k t, t ≤ (lrow leaves k).length → (yei leaves k t).Pairwise (fun a b => b ≤ a)
 | 0, t, _ => by simp [yei]
 | k + 1, t, ht => by
  have hn := ydM hl k t ht
  have ih := ygW hl hp k _ hn
  refine List.pairwise_cons.2 ⟨?_, ih⟩
  have hnest := lcnt_nest hl hp k t ht
  obtain ⟨l, hl2⟩ := lprof_head hl k _ hn
  rw [hl2] at ih ⊢
  intro a ha
  rcases List.mem_cons.1 ha with rfl | ha
  ·exact hnest
  ·exact Nat.le_trans ((List.pairwise_cons.1 ih).1 a ha) hnest
def lof (A : List Nat) (r : Nat) : Nat := (A.filter (fun a => decide (r < a))).length
def lpart : List Nat → Nat → Nat
 | [], _ => 0
 | a :: t, r => (if r < a then 2 ^ t.length else 0) + lpart t r
def rsum (g : Nat → Nat) : Nat → Nat
 | 0 => 0
 | n + 1 => rsum g n + g n
theorem rsum_add (g h : Nat → Nat) : ∀ n, rsum (fun r => g r + h r) n = rsum g n + rsum h n
 | 0 => rfl
 | n + 1 => by
  simp only [rsum, rsum_add g h n]
  omega
theorem rsum_congr {g h : Nat → Nat} : ∀ n, (∀ r, r < n → g r = h r) → rsum g n = rsum h n
 | 0, _ => rfl
 | n + 1, e => by
  simp only [rsum]
  rw [rsum_congr n fun r hr => e r (by omega), e n (by omega)]
theorem yfl (c : Nat) : ∀ n, rsum (fun _ => c) n = c * n
 | 0 => rfl
 | n + 1 => by
  simp only [rsum, yfl c n, Nat.mul_succ]
theorem rsum_below (c a : Nat) : ∀ n, rsum (fun r => if r < a then c else 0) n = c * min a n
 | 0 => by simp [rsum]
 | n + 1 => by
  simp only [rsum, rsum_below c a n]
  by_cases h : n < a
  ·rw [if_pos h, Nat.min_eq_right (by omega), Nat.min_eq_right (by omega), Nat.mul_succ]
  ·rw [if_neg h, Nat.min_eq_left (by omega), Nat.min_eq_left (by omega)]
   rfl
theorem lpart_sum (m : Nat) : ∀ A : List Nat, (∀ a ∈ A, a ≤ m) → rsum (lpart A) m = lwid A
 | [], _ => by
  have := yfl 0 m
  simp at this
  exact this
 | a :: t, h => by
  have ih := lpart_sum m t fun x hx => h x (List.mem_cons_of_mem _ hx)
  have ha := h a (List.mem_cons_self ..)
  show rsum (fun r => (if r < a then 2 ^ t.length else 0) + lpart t r) m = 2 ^ t.length * a + lwid t
  rw [rsum_add, rsum_below, Nat.min_eq_left ha, ih]
theorem lof_le (A : List Nat) (r : Nat) : lof A r ≤ A.length := List.length_filter_le _ _
theorem ygx (a : Nat) (t : List Nat) (r : Nat) : lof (a :: t) r = (if r < a then 1 else 0) + lof t r := by
 unfold lof
 rw [List.filter_cons]
 by_cases h : r < a
 ·simp [h]; omega
 ·simp [h]
theorem lpart_lof : ∀ (A : List Nat), A.Pairwise (fun a b => b ≤ a) → ∀ r, lpart A r + 2 ^ (A.length - lof A r) = 2 ^ A.length
 | [], _, r => by simp [lpart, lof]
 | a :: t, h, r => by
  obtain ⟨h1, h2⟩ := List.pairwise_cons.1 h
  have ih := lpart_lof t h2 r
  have hle := lof_le t r
  rw [ygx, List.length_cons]
  unfold lpart
  by_cases hr : r < a
  ·rw [if_pos hr, if_pos hr, show t.length + 1 - (1 + lof t r) = t.length - lof t r from by omega, Nat.pow_succ]
   omega
  ·have h0 : lof t r = 0 := by
    unfold lof
    rw [List.length_eq_zero_iff, List.filter_eq_nil_iff]
    intro x hx
    have := h1 x hx
    simp
    omega
   rw [h0] at ih ⊢
   rw [if_neg hr, if_neg hr]
   simp only [Nat.sub_zero, Nat.add_zero] at ih ⊢
   omega
theorem lof_mono (A : List Nat) {r r' : Nat} (h : r ≤ r') : lof A r' ≤ lof A r := by
 induction A with
 | nil => exact Nat.le_refl _
 | cons a t ih =>
  rw [ygx, ygx]
  by_cases h1 : r' < a
  ·rw [if_pos h1, if_pos (by omega)]; omega
  ·rw [if_neg h1]; omega
theorem lof_full (A : List Nat) (m k : Nat) (hlen : A.length = k + 1) (hle : ∀ a ∈ A, a ≤ m) (hdec : A.Pairwise (fun a b => b ≤ a)) (hw : lwid A = 2 ^ k * (2 * m - 2)) (hm : 2 ≤ m) :
  rsum (fun r => 2 ^ (k + 1 - lof A r)) m = 2 ^ (k + 1) := by
 have h1 := lpart_sum m A hle
 have h2 : rsum (fun r => lpart A r + 2 ^ (k + 1 - lof A r)) m = 2 ^ (k + 1) * m := by
  rw [← yfl (2 ^ (k + 1)) m]
  refine rsum_congr m fun r _ => ?_
  have := lpart_lof A hdec r
  rw [hlen] at this
  exact this
 rw [rsum_add, h1, hw] at h2
 obtain ⟨j, rfl⟩ : ∃ j, m = j + 2 := ⟨m - 2, by omega⟩
 have e1 : 2 ^ k * (2 * (j + 2) - 2) = 2 * (2 ^ k * (j + 1)) := by rw [show 2 * (j + 2) - 2 = 2 * (j + 1) from by omega, Nat.mul_left_comm]
 have e2 : 2 ^ (k + 1) * (j + 2) = 2 * (2 ^ k * (j + 1)) + 2 ^ (k + 1) := by
  rw [Nat.mul_succ, Nat.pow_succ, Nat.mul_comm (2 ^ k) 2, Nat.mul_assoc]
 rw [e1, e2] at h2
 omega
theorem rsum_ge (g : Nat → Nat) : ∀ n i, i < n → g i ≤ rsum g n
 | 0, i, h => by omega
 | n + 1, i, h => by
  simp only [rsum]
  rcases Nat.lt_or_ge i n with h1 | h1
  ·have := rsum_ge g n i h1; omega
  ·obtain rfl : i = n := by omega
   omega
theorem rsum_two (g : Nat → Nat) : ∀ n i j, i < n → j < n → i ≠ j → g i + g j ≤ rsum g n
 | 0, i, j, h, _, _ => by omega
 | n + 1, i, j, h, k, hne => by
  simp only [rsum]
  rcases Nat.lt_or_ge i n with h1 | h1
  ·rcases Nat.lt_or_ge j n with h2 | h2
   ·have := rsum_two g n i j h1 h2 hne; omega
   ·obtain rfl : j = n := by omega
    have := rsum_ge g j i h1; omega
  ·obtain rfl : i = n := by omega
   have := rsum_ge g i j (by omega); omega
theorem lof_pos (A : List Nat) (m k : Nat) (hfull : rsum (fun r => 2 ^ (k + 1 - lof A r)) m = 2 ^ (k + 1)) (hm : 2 ≤ m) (r : Nat) (hr : r < m) : 1 ≤ lof A r := by
 rcases Nat.eq_zero_or_pos (lof A r) with h0 | h0
 ·exfalso
  obtain ⟨j, hj, hne⟩ : ∃ j, j < m ∧ r ≠ j := by
   by_cases h : r = 0
   ·exact ⟨1, by omega, by omega⟩
   ·exact ⟨0, by omega, h⟩
  have := rsum_two (fun r => 2 ^ (k + 1 - lof A r)) m r j hr hj hne
  rw [hfull, h0, Nat.sub_zero] at this
  have hp : 0 < 2 ^ (k + 1 - lof A j) := Nat.pow_pos (by omega)
  omega
 ·exact h0
def yci : List Nat → Nat
 | [] => 0
 | c :: t => c + yci t / 2
theorem lfloor_wid : ∀ (c : List Nat) (k : Nat), c.length = k + 1 → lwid c < 2 ^ k * (yci c + 1)
 | [c], 0, _ => by simp [lwid, yci]
 | c :: d :: t, k + 1, h => by
  have hl : (d :: t).length = k + 1 := by simpa using h
  have ih := lfloor_wid (d :: t) k hl
  show 2 ^ (d :: t).length * c + lwid (d :: t) < 2 ^ (k + 1) * (c + yci (d :: t) / 2 + 1)
  rw [hl]
  generalize yci (d :: t) = F at *
  generalize lwid (d :: t) = W at *
  have h2 : F + 1 ≤ 2 * (F / 2 + 1) := by omega
  have h3 : 2 ^ k * (F + 1) ≤ 2 ^ k * (2 * (F / 2 + 1)) := Nat.mul_le_mul_left _ h2
  rw [← Nat.mul_assoc, ← Nat.pow_succ] at h3
  rw [Nat.add_assoc, Nat.mul_add]
  generalize 2 ^ (k + 1) * (F / 2 + 1) = X at *
  generalize 2 ^ k * (F + 1) = Y at *
  generalize 2 ^ (k + 1) * c = Z at *
  omega
 | [c], k + 1, h => by simp at h
 | c :: d :: t, 0, h => by simp at h
 | [], k, h => by simp at h
theorem yhk {leaves : List LTh} (hl : yaO leaves) : ∀ (c : List Nat) (k : Nat), c.length = k + 1 → (∀ x ∈ c, x ≤ leaves.length) → yci c ≤ (lrow leaves k).length
 | [c], 0, _, h => by
  have := h c (by simp)
  show c + 0 / 2 ≤ leaves.length
  omega
 | c :: d :: t, k + 1, h, hc => by
  have ih := yhk hl (d :: t) k (by simpa using h) fun x hx => hc x (List.mem_cons_of_mem _ hx)
  have h1 := hc c (List.mem_cons_self ..)
  rw [ygw hl k]
  show c + yci (d :: t) / 2 ≤ _
  omega
 | [c], k + 1, h, _ => by simp at h
 | c :: d :: t, 0, h, _ => by simp at h
 | [], k, h, _ => by simp at h
theorem yeC (f : LTh → Int) (τ : Int) : ∀ (l : List LTh) (a c : Nat), a ≤ l.length → c ≤ l.length → (∀ x ∈ l.take a, f x ≤ τ) → (∀ x ∈ l.drop a, τ ≤ f x) → lsum f (l.take a) - a * τ ≤ lsum f (l.take c) - c * τ
 | l, 0, 0, _, _, _, _ => Int.le_refl _
 | [], a + 1, c, h, _, _, _ => by simp at h
 | [], 0, c + 1, _, h, _, _ => by simp at h
 | x :: t, 0, c + 1, _, hc, h1, h2 => by
  have ih := yeC f τ t 0 c (by omega) (by simpa using hc) (by simp) (fun y hy => h2 y (List.mem_cons_of_mem _ hy))
  have hx := h2 x (List.mem_cons_self ..)
  simp only [List.take_succ_cons, List.take_zero, lsum] at ih ⊢
  have e : ((c + 1 : Nat) : Int) * τ = c * τ + τ := by rw [Int.natCast_add, Int.add_mul]; simp
  rw [e]
  omega
 | x :: t, a + 1, 0, ha, _, h1, h2 => by
  have ih := yeC f τ t a 0 (by simpa using ha) (by omega) (fun y hy => h1 y (List.mem_cons_of_mem _ hy)) h2
  have hx := h1 x (List.mem_cons_self ..)
  simp only [List.take_succ_cons, List.take_zero, lsum] at ih ⊢
  have e : ((a + 1 : Nat) : Int) * τ = a * τ + τ := by rw [Int.natCast_add, Int.add_mul]; simp
  rw [e]
  omega
 | x :: t, a + 1, c + 1, ha, hc, h1, h2 => by
  have ih := yeC f τ t a c (by simpa using ha) (by simpa using hc) (fun y hy => h1 y (List.mem_cons_of_mem _ hy)) h2
  simp only [List.take_succ_cons, lsum] at ih ⊢
  have e1 : ((a + 1 : Nat) : Int) * τ = a * τ + τ := by rw [Int.natCast_add, Int.add_mul]; simp
  have e2 : ((c + 1 : Nat) : Int) * τ = c * τ + τ := by rw [Int.natCast_add, Int.add_mul]; simp
  rw [e1, e2]
  omega
theorem ycT (f : LTh → Int) : ∀ l : List LTh, (∀ x ∈ l, 0 ≤ f x) → 0 ≤ lsum f l
 | [], _ => by simp [lsum]
 | x :: t, h => by
  have h1 := h x (List.mem_cons_self ..)
  have h2 := ycT f t fun y hy => h y (List.mem_cons_of_mem _ hy)
  show 0 ≤ f x + lsum f t
  omega
theorem LRow.exchange {leaves packs R : List LTh} (h : LRow leaves packs R) (hp : ∀ x ∈ R, 0 < x.w) (t c s : Nat) (ht : t ≤ R.length) (hc : c ≤ leaves.length) (hs : s ≤ packs.length) (hcs : t ≤ c + s) :
  lsum (·.w) (R.take t) ≤ lsum (·.w) (leaves.take c) + lsum (·.w) (packs.take s) := by
 rcases Nat.eq_zero_or_pos t with h0 | h0
 ·subst h0
  have h1 := ycT (·.w) (leaves.take c) fun x hx => by
   have := List.mem_of_mem_take hx
   rw [← h.lv] at this
   have := hp x (List.mem_filter.1 this).1
   show 0 ≤ x.w
   omega
  have h2 := ycT (·.w) (packs.take s) fun x hx => by
   have := List.mem_of_mem_take hx
   rw [← h.pk] at this
   have := hp x (List.mem_filter.1 this).1
   show 0 ≤ x.w
   omega
  simp only [List.take_zero, lsum]
  omega
 ·have ho := yeZ h.order
  obtain ⟨τ, h1, h2, h3⟩ : ∃ τ : Int, (∀ x ∈ R.take t, x.w ≤ τ) ∧ (∀ x ∈ R.drop t, τ ≤ x.w) ∧ 0 ≤ τ := by
   have hlt : t - 1 < R.length := by omega
   refine ⟨R[t - 1].w, ?_, ?_, Int.le_of_lt (hp _ (List.getElem_mem hlt))⟩
   ·intro x hx
    obtain ⟨i, hi, rfl⟩ := List.getElem_of_mem hx
    rw [List.length_take] at hi
    rw [List.getElem_take]
    rcases Nat.lt_or_ge i (t - 1) with h4 | h4
    ·exact List.pairwise_iff_getElem.1 ho i (t - 1) (by omega) hlt h4
    ·obtain rfl : i = t - 1 := by omega
     exact Int.le_refl _
   ·intro x hx
    obtain ⟨i, hi, rfl⟩ := List.getElem_of_mem hx
    rw [List.length_drop] at hi
    rw [List.getElem_drop]
    exact List.pairwise_iff_getElem.1 ho (t - 1) (t + i) hlt (by omega) (by omega)
  have e1 := h.take_lv t
  have e2 := h.take_pk t ht
  have e3 := h.drop_lv t
  have e4 : (R.drop t).filter (fun x => !x.leaf) = packs.drop (t - lcnt R t) := by
   have e : R.filter (fun x => !x.leaf) = (R.take t).filter (fun x => !x.leaf) ++ (R.drop t).filter (fun x => !x.leaf) := by rw [← List.filter_append, List.take_append_drop]
   rw [h.pk, e2] at e
   have := List.take_append_drop (t - lcnt R t) packs
   rw [← this] at e
   exact (List.append_cancel_left (by rw [List.take_append_drop] at e ⊢; exact e)).symm
  have ha := h.cnt_leaves t
  have hb := h.cnt_packs t ht
  have hle := lcnt_le R t
  rw [h.take_sum (·.w) t ht]
  generalize lcnt R t = a at *
  have g1 := yeC (·.w) τ leaves a c ha hc (fun x hx => h1 x (by rw [← e1] at hx; exact (List.mem_filter.1 hx).1)) (fun x hx => h2 x (by rw [← e3] at hx; exact (List.mem_filter.1 hx).1))
  have g2 := yeC (·.w) τ packs (t - a) s hb hs (fun x hx => h1 x (by rw [← e2] at hx; exact (List.mem_filter.1 hx).1)) (fun x hx => h2 x (by rw [← e4] at hx; exact (List.mem_filter.1 hx).1))
  have g3 : (a : Int) * τ + ((t - a : Nat) : Int) * τ ≤ (c : Int) * τ + (s : Int) * τ := by
   rw [← Int.add_mul, ← Int.add_mul]
   exact Int.mul_le_mul_of_nonneg_right (by omega) h3
  omega
theorem lrow_least {leaves : List LTh} (hl : yaO leaves) (hp : ∀ x ∈ leaves, 0 < x.w) : ∀ (c : List Nat) (k t : Nat), c.length = k + 1 → (∀ x ∈ c, x ≤ leaves.length) → t ≤ yci c →
  lsum (·.w) ((lrow leaves k).take t) ≤ nsum (fun a => lsum (·.w) (leaves.take a)) c
 | [c], 0, t, _, hc, ht => by
  have h1 : c ≤ leaves.length := hc c (by simp)
  have h2 : t ≤ c := by simpa [yci] using ht
  show lsum (·.w) (leaves.take t) ≤ lsum (·.w) (leaves.take c) + 0
  have e : leaves.take c = leaves.take t ++ (leaves.take c).drop t := by
   conv => lhs; rw [← List.take_append_drop t (leaves.take c)]
   rw [List.take_take, Nat.min_eq_left h2]
  rw [e, ycH]
  have := ycT (·.w) ((leaves.take c).drop t) fun x hx => Int.le_of_lt (hp x (List.mem_of_mem_take (List.mem_of_mem_drop hx)))
  omega
 | c :: d :: u, k + 1, t, hlen, hc, ht => by
  have hlen2 : (d :: u).length = k + 1 := by simpa using hlen
  have hc2 : ∀ x ∈ d :: u, x ≤ leaves.length := fun x hx => hc x (List.mem_cons_of_mem _ hx)
  have hc1 := hc c (List.mem_cons_self ..)
  have hfl := yhk hl (d :: u) k hlen2 hc2
  have ht2 : t ≤ c + yci (d :: u) / 2 := ht
  have hrl := ygw hl k
  obtain ⟨s, hs1, hs2⟩ : ∃ s, t ≤ c + s ∧ 2 * s ≤ yci (d :: u) := ⟨t - c, by omega, by omega⟩
  have ih := lrow_least hl hp (d :: u) k (2 * s) hlen2 hc2 hs2
  have hadd : LAdds (·.w) := fun a b => rfl
  have hex := (yb2 hl k).exchange (lrow_pos hl hp (k + 1)) t c s (by omega) hc1 (by rw [yc4]; omega) hs1
  rw [yfx hadd _ _ (by omega)] at hex
  show _ ≤ lsum (·.w) (leaves.take c) + nsum _ (d :: u)
  omega
 | [c], k + 1, t, h, _, _ => by simp at h
 | c :: d :: u, 0, t, h, _, _ => by simp at h
 | [], k, t, h, _, _ => by simp at h
theorem yac {P : Program} {w : World} {ops : Array Oper} {o : Oper} {a : Act} {K : Act → World → Prop} {Q : Exit → Act → World → Prop} {E : Prop} (hgd : o.guard = none) (s x : Operand) (t : TypeId)
  (ho : o.op = .call { callee := .builtin .append, args := #[s, x], argTypes := #[t, t] })
  (base : Nat) (e : TypeId) (i : TypeInfo) (z : Value) (size bytes : Nat) (ht : P.underlying t = some (.slice e)) (hi : P.info? e = some i) (hz : i.zero = some z)
  (hsize : i.size = size) (hby : i.bytes = bytes) (hzs : z.cells.size = size) (hsz : 0 < size)
  (v : Value) (n : Nat) (xs : List Value) (hs : a.eval s = v) (hown : w.ownsRow base e size v n xs)
  (Ax : Option Addr) (m c B : Nat) (news : List Value) (hx : a.eval x = .slice Ax m c) (hr : Reads w B size Ax m news) (h1 : ∀ u ∈ news, u.oneCell' = true)
  (h63 : n + m ≤ maxLen) (hbytes : (n + m) * bytes ≤ 140737488355328) (hbase : base ≤ w.heap.size) (N : Nat) (hN : n + m = N)
  (h : ∀ A' c' w', w'.ownsRow base e size (.slice A' N c') N (xs ++ news) → w.grownBy w' v.ownBlock → Sep w v (.slice A' N c') → K (a.put o.dst (.slice A' N c')) w') :
  if Region.wanted o (yielded ops a.tmps) = true then Oper.wp P o a w K Q else E := by
 subst hN
 have hw : Region.wanted o (yielded ops a.tmps) = true := by simp [Region.wanted, hgd]
 rw [if_pos hw]
 obtain ⟨v', w', hrun, h2, h3, h4⟩ := ydS (P := P) w base t o.type e i z size bytes ht hi hz hsize hby hzs hsz v n xs hown Ax m c B news hr h1 h63 hbytes hbase
 obtain ⟨A2, c2, rfl, _, _⟩ := yae h2
 unfold Oper.wp execOp
 simp only [ho, resolve, invoke, builtin, Sem.run_bind, Sem.run_pure, Result.andThen_ok, List.map_toArray, List.map_cons, List.map_nil, hs, hx, hrun]
 exact h A2 c2 w' h2 h3 h4
section
variable {w w' w'' : World} {g : Nat} {row : Option Nat}
theorem ydq (w : World) (row : Option Nat) : w.grownBy w row := ⟨rfl, rfl, rfl, Nat.le_refl _, fun _ _ _ => rfl⟩
theorem grow_trans (h : w.grownBy w' row) (k : w'.grownBy w'' row) : w.grownBy w'' row :=
 ⟨k.os.trans h.os, k.tape.trans h.tape, k.output.trans h.output, Nat.le_trans h.size k.size, fun i hi hr => (k.block i (Nat.lt_of_lt_of_le hi h.size) hr).trans (h.block i hi hr)⟩
theorem grow_below {B : Nat} (h : Below B w w') (hB : w.heap.size ≤ B) : w.grownBy w' row := ⟨h.os, h.tape, h.output, h.size, fun i hi _ => h.block i (by omega)⟩
theorem ybg (h : w.grownBy w' (some g)) {p : Addr} (hp : p.block = g ∨ w.heap.size ≤ p.block) (u : Value) : w.grownBy (w'.setCell p u) (some g) :=
 ⟨h.os, h.tape, h.output, by have := h.size; simpa [World.setCell] using this, fun i hi hr => by
  have e : i ≠ p.block := by
   rcases hp with hp | hp
   ·exact fun e => hr (by rw [e, hp])
   ·omega
  exact (Below.heap_setCell _ _ _ _ e).trans (h.block i hi hr)⟩
theorem ydP (h : w.grownBy w' row) (o : Obj) : w.grownBy (w'.alloc o) row := grow_trans h (World.grownBy_alloc w' o row)
theorem ydH {B : Nat} (h : w.grownBy w' (some g)) (hB : B ≤ g) (hw : B ≤ w.heap.size) : Below B w w' := ⟨h.os, h.tape, h.output, h.size, fun i hi => h.block i (by omega) (fun e => by injection e with e; omega)⟩
theorem Blk.grow {b : Nat} {t : TypeId} {cs : Array Value} (h : Blk w b t cs) (hg : w.grownBy w' (some g)) (hb : b ≠ g) : Blk w' b t cs := (hg.block b h.lt (fun e => by injection e with e; exact hb e)).trans h
end
section
variable {w w' : World} {g : Nat} {t : TypeId} {cs : Array Value}
open Go.RowKit in
theorem grow_row (w : World) (g : Nat) (cs : Array Value) : w.grownBy (w.setRow g cs) (some g) :=
 ⟨rfl, rfl, rfl, by simp [World.setRow], fun k _ hk => setRow_other w g k cs (fun e => hk (by rw [e]))⟩
theorem Blk.row (h : Blk w g t cs) (cs' : Array Value) : Blk (w.setRow g cs') g t cs' := setRow_heap w g _ _ t _ h
end
end Go.Proofs.YtoinjdmlembgeaaGreat
