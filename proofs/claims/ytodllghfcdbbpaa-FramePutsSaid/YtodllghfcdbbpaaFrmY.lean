/-
  Layer 16: what the laws lean on.
-/
import Derived.Test.YtodllghfcdbbpaaFrmX
import Derived.Test.YtodllghfcdbbpaaFrmU
import Derived.Laws.StructEq
namespace Go.Proofs.Ytodllghfcdbbpaa
set_option linter.unusedSimpArgs false
set_option linter.unusedVariables false
open Go.ChangeShapes Go.WideShapes Go.ChangeAt Go.RowKit Go.Joins Go.Deep
theorem Reads.on16 {w w' : World} {size n : Nat} {A : Option Addr} {xs : List Value} (h : Reads w w.heap.size size A n xs) (hb : Below w.heap.size w w') : Reads w' w'.heap.size size A n xs := (h.below hb).more hb.size
theorem frec_same (k a o : Int) (d : List UInt8) (w : World) : (Op.equalIn 10000 31 (.agg #[.int .i64 k, .string ⟨d.toArray⟩, .int .i64 a, .int .i64 o]) (.agg #[.int .i64 k, .string ⟨d.toArray⟩, .int .i64 a, .int .i64 o])).run Try.prog w = .ok true w := by
  simp [go_sem]
theorem frec_guard : Try.prog.eqGuardType Try.prog.depth 31 = false := by kernel_rfl
theorem fhead (l : List UInt8) (p : Nat) (hp : p ≤ l.length) (w : World) :
    (Instr.slice 9 (.string ⟨l.toArray⟩) none (some (.int .i64 (p : Int))) none).run Try.prog w = .ok (.string ⟨(l.take p).toArray⟩) w := by
  rw [run_slice_string_h w 9 ⟨l.toArray⟩ Try.underlying9 .i64 (p : Int) (by omega) (by rw [ByteArray.size_mk', List.size_toArray]; omega), ByteArray.extract_mk, List.drop_zero, Nat.sub_zero, Int.toNat_natCast]
theorem fgR_short (k c : Nat) (b : List UInt8) (h1 : 1 ≤ k) (h4 : k ≤ 4) (hb : b.length ≤ 60000) (h5 : 5 ≤ c) (hc : c < 9 + b.length) : (fgR ((fB k b).take c)).2.2.2 = 4 := by
  have hl : ((fB k b).take c).length = c := by rw [List.length_take, fB_len]; omega
  have e1 : fB k b = UInt8.ofNat k :: (fx 4 b.length ++ (b ++ fsum (fhd k b))) := by
    unfold fB
    rw [show fhd k b ++ fsum (fhd k b) = UInt8.ofNat k :: (fx 4 b.length ++ b ++ fsum (fhd k b)) from rfl, List.append_assoc]
  obtain ⟨c2, rfl⟩ : ∃ c2, c = c2 + 1 := ⟨c - 1, by omega⟩
  have x1 : ((fB k b).take (c2 + 1)).getD 0 0 = UInt8.ofNat k := by rw [e1]; rfl
  have x2 : (((fB k b).take (c2 + 1)).drop 1).take 4 = fx 4 b.length := by
    rw [e1, List.take_succ_cons, List.drop_succ_cons, List.drop_zero, List.take_take, Nat.min_eq_left (by omega)]
    exact List.take_left' (fx_length 4 _)
  generalize (fB k b).take (c2 + 1) = t at *
  have hv : val8 (fx 4 b.length) = b.length := fx_val 4 _ (by omega)
  have hk : (UInt8.ofNat k).toNat = k := u8_ofNat k (by omega)
  unfold fgR
  rw [x1, x2, hv, hk, if_neg (by omega), if_neg (by omega), if_neg (by omega), if_pos (by omega)]
theorem fgetF_put (pre u b : List UInt8) (k : Nat) (h1 : 1 ≤ k) (h4 : k ≤ 4) (hb : b.length ≤ 60000) (p : Int) (hp : p = (pre.length : Int)) : fgetF (pre ++ (fB k b ++ u)) p = (((k : Int), b, p, p + ((9 + b.length : Nat) : Int)), 0) := by
  subst hp
  have hd : (pre ++ (fB k b ++ u)).drop pre.length = fB k b ++ u := List.drop_left' rfl
  have hg := fgR_put k b u h1 h4 hb
  rw [← hd] at hg
  rw [fgetF_yes (by rw [List.length_append]; omega) (by rw [hg]), hg]
theorem fscan_told {s : List UInt8} {L : List Fr} {e : Nat} (h : FScan s 0 L e) : fscanF s 0 = (L, (e : Int)) := by
  obtain ⟨e2, h2, h3⟩ := fscan_is s 0 (Nat.zero_le _)
  obtain ⟨h4, h5⟩ := h.only h2
  subst h5
  exact Prod.ext h4 h3
theorem fslice_head {P : Program} {t e : TypeId} {i : TypeInfo} {size : Nat} (ht : P.underlying t = some (.slice e)) (hi : P.info? e = some i) (hs : i.size = size) (A : Option Addr) (n c k : Nat) (hk : k ≤ c) (w : World) :
    (Instr.slice t (.slice A n c) none (some (.int .i64 (k : Int))) none).run P w = .ok (.slice A k c) w := by
  have he : P.elem t = e := by simp [Program.elem, ht]
  rw [run_slice_h w t A n c (by rw [he]; exact ht) .i64 k (by omega) (by omega), he]
  simp [sizeOf, typeInfo, hi, hs, sliced]
  cases A with
  | none => simp
  | some a => simp [Addr.add]
theorem Reads.front {w : World} {B size n k : Nat} {A : Option Addr} {xs ys : List Value} (h : Reads w B size A n (xs ++ ys)) (hk : xs.length = k * size) (hkn : k ≤ n) : Reads w B size A k xs := by
  refine ⟨hk, fun h0 => ?_⟩
  obtain ⟨b, off, hA, hb, hc⟩ := h.2 (by omega)
  refine ⟨b, off, hA, hb, fun j u hu => hc j u ?_⟩
  have hj := (List.getElem?_eq_some_iff.1 hu).1
  rw [List.getElem?_append_left hj]
  exact hu
end Go.Proofs.Ytodllghfcdbbpaa
