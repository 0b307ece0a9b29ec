/-
  What texts over bytes share, over any program: the cells of a row of bytes, one of them written, a row of bytes as a string, a string's byte, a slice cut with three indexes, and a small or on numbers.
-/
import Derived.Test.YtjodckinfoldgaaBase
import Derived.WalkMore
import Derived.Laws.BytesString
import Derived.Laws.BitsLemmas
import Derived.Laws.Concat
namespace Go.Proofs.Ytjodckinfoldgaa
set_option linter.unusedSimpArgs false
set_option linter.unusedVariables false
open Go.ChangeShapes Go.WideShapes Go.ChangeAt Go.RowKit Go.Joins Go.Deep
def bc (l : List UInt8) : Array Value := (l.map fun b => Value.int .u8 (b.toNat : Int)).toArray
theorem bc_get (l : List UInt8) (i : Nat) : (bc l)[i]? = (l[i]?).map fun b => Value.int .u8 (b.toNat : Int) := by simp [bc]
theorem bc_set (A C : List UInt8) (b c : UInt8) : (bc (A ++ b :: C)).setIfInBounds A.length (.int .u8 (c.toNat : Int)) = bc (A ++ c :: C) := by
  unfold bc
  rw [List.setIfInBounds_toArray]
  congr 1
  simp
theorem bc_zero (n : Nat) : madeCells #[.int .u8 0] n = bc (List.replicate n 0) := by
  unfold bc
  apply Array.ext'
  simp [madeCells, Nat.mod_one]
  rw [List.map_const', List.length_range]
theorem blk_byte {w : World} {g : Nat} {t : TypeId} {l : List UInt8} (h : Blk w g t (bc l)) {i : Nat} {b : UInt8} (hi : l[i]? = some b) : w.cell? ⟨g, i, none⟩ = some (.int .u8 (b.toNat : Int)) := by
  rw [h.cell, bc_get, hi]
  rfl
theorem ba_get (l : List UInt8) (i : Nat) (h : i < (ByteArray.mk l.toArray).size) : (ByteArray.mk l.toArray)[i]'h = l[i]'(by rw [ByteArray.size_mk'] at h; simpa using h) := rfl
theorem ba_list (s : ByteArray) : s = ⟨s.data.toList.toArray⟩ := by simp
theorem push_fold (ns : List Int) : ∀ (s : List UInt8), (ns.foldl (fun r n => r.push (UInt8.ofNat n.toNat)) (ByteArray.mk s.toArray)) = ⟨(s ++ ns.map fun n => UInt8.ofNat n.toNat).toArray⟩ := by
  induction ns with
  | nil => intro s; simp
  | cons n t ih =>
    intro s
    rw [List.foldl_cons]
    have e : (ByteArray.mk s.toArray).push (UInt8.ofNat n.toNat) = ⟨(s ++ [UInt8.ofNat n.toNat]).toArray⟩ := by simp [ByteArray.push]
    rw [e, ih]
    simp
def ints (l : List Int) : List Value := l.map (Value.int .i64)
theorem ints_length (l : List Int) : (ints l).length = l.length := by simp [ints]
theorem ints_get (l : List Int) (i : Nat) (h : i < l.length) : (ints l)[i]? = some (.int .i64 l[i]) := by simp [ints, h]
theorem run_bytes_str {P : Program} {src dst e : TypeId} (hs : P.underlying src = some (.slice e)) (he : P.underlying e = some (.int .u8)) (hd : P.underlying dst = some .string)
    (w : World) (g off c : Nat) (l : List UInt8) (n : Nat) (hn : l.length = n) (h : ∀ j b, l[j]? = some b → w.cell? ⟨g, off + j, none⟩ = some (.int .u8 (b.toNat : Int))) :
    (convert src dst (.slice (some ⟨g, off, none⟩) n c)).run P w = .ok (.string ⟨l.toArray⟩) w := by
  subst hn
  rw [run_convert_bytes_string w src dst e _ _ _ hs he hd]
  have hl := run_loadCells_list (P := P) (w := w) ⟨g, off, none⟩ ((l.map fun b => (b.toNat : Int)).map (Value.int .u8)) (fun j v hv => by
    rw [add_mk]
    simp only [List.getElem?_map, Option.map_map] at hv
    cases hx : l[j]? with
    | none => rw [hx] at hv; cases hv
    | some b => rw [hx] at hv; simp at hv; subst hv; exact h j b hx)
  simp only [List.length_map] at hl
  rw [run_bytesToString w ⟨g, off, none⟩ l.length c (l.map fun b => (b.toNat : Int)) hl]
  have := push_fold (l.map fun b => (b.toNat : Int)) []
  rw [show ByteArray.empty = ByteArray.mk ([] : List UInt8).toArray from rfl, this, List.nil_append, List.map_map]
  have e : ((fun n : Int => UInt8.ofNat n.toNat) ∘ fun b : UInt8 => (b.toNat : Int)) = id := by
    funext b
    simp
  rw [e, List.map_id]
theorem run_slice_three {P : Program} {t e : TypeId} {i : TypeInfo} (ht : P.underlying t = some (.slice e)) (hi : P.info? e = some i) (hs : i.size = 1) (g off n c a b : Nat) (ha : a < b) (hb : b ≤ c) (w : World) :
    (Instr.slice t (.slice (some ⟨g, off, none⟩) n c) (some (.int .i64 (a : Int))) (some (.int .i64 (b : Int))) (some (.int .i64 (b : Int)))).run P w = .ok (.slice (some ⟨g, off + a, none⟩) (b - a) (b - a)) w := by
  have he : P.elem t = e := by simp [Program.elem, ht]
  rw [run_slice_lhm w t (some ⟨g, off, none⟩) n c (by rw [he]; exact ht) .i64 .i64 .i64 a b b (by omega) (by omega) (by omega) (by omega), he]
  simp [sizeOf, typeInfo, hi, hs, sliced, add_mk]
  omega
theorem or_i64 (x y : Int) (i : Nat) (hx : 0 ≤ x) (hxi : x < 2 ^ i) (hy : 0 ≤ y) (h : x + y * 2 ^ i < 9223372036854775808) : bits .or .i64 x (wrap64 (y * 2 ^ i)) = x + y * 2 ^ i := by
  have hp : (0 : Int) < 2 ^ i := Int.pow_pos (by omega)
  have hy0 : 0 ≤ y * 2 ^ i := Int.mul_nonneg hy (by omega)
  have hwr : wrap64 (y * 2 ^ i) = y * 2 ^ i := by unfold wrap64; omega
  rw [hwr]
  have hc : bits .or .i64 x (y * 2 ^ i) = bits .or .i64 (y * 2 ^ i) x := by simp only [bits, BitVec.or_comm]
  have e63 : (2 : Int) ^ 63 = 9223372036854775808 := by decide
  rw [hc, bits_join .i64 63 (by decide) (fun n h0 h1 => by
    rw [e63] at h1
    rw [IntKind.wrap_i64]
    omega) i (y * 2 ^ i) x hy0 (Int.mul_emod_left y (2 ^ i)) (by rw [e63]; omega) hx hxi (by rw [e63]; omega), Int.add_comm]
theorem or_neg (x y : Int) (hy : -9223372036854775808 ≤ y) (hy' : y < 0) (hx : 0 ≤ x) (hx' : x < 9223372036854775808) : bits .or .i64 x y < 0 := by
  have hm : (BitVec.ofInt 64 y).msb = true := by
    rw [BitVec.msb_eq_toInt, BitVec.toInt_ofInt]
    simp [Int.bmod]
    omega
  have h2 : (BitVec.ofInt 64 x ||| BitVec.ofInt 64 y).msb = true := by rw [BitVec.msb_or, hm]; simp
  have h3 : (BitVec.ofInt 64 x ||| BitVec.ofInt 64 y).toInt < 0 := by
    rw [BitVec.msb_eq_toInt] at h2
    simpa using h2
  have e : bits .or .i64 x y = IntKind.i64.wrap ((BitVec.ofInt 64 x ||| BitVec.ofInt 64 y).toNat : Int) := rfl
  rw [e, IntKind.wrap_i64]
  generalize (BitVec.ofInt 64 x ||| BitVec.ofInt 64 y) = v at *
  rw [BitVec.toInt_eq_toNat_cond] at h3
  have hv := v.isLt
  split at h3 <;> omega
end Go.Proofs.Ytjodckinfoldgaa
