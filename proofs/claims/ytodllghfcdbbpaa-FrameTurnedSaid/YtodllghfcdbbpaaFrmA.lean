/-
  Layer 16: frames in memory (four cells each); the document's sum and Put (ahead of the code's landing).
-/
import Derived.Test.YtodllghfcdbbpaaFrmM
import Derived.Test.YtodllghfcdbbpaaBase
import Derived.Test.YtodllghfcdbbpaaBytes
import Derived.Test.YtodllghfcdbbpaaVarR
import Derived.Test.YtodllghfcdbbpaaCrcT
import Derived.Test.YtodllghfcdbbpaaCrcR
import Derived.Test.YtodllghfcdbbpaaCrcW
namespace Go.Proofs.Ytodllghfcdbbpaa
set_option linter.unusedSimpArgs false
set_option linter.unusedVariables false
open Go.ChangeShapes Go.WideShapes Go.ChangeAt Go.RowKit Go.Joins Go.Deep
def fcs (l : List Fr) : List Value := l.flatMap fun r => [.int .i64 r.1, .string ⟨r.2.1.toArray⟩, .int .i64 r.2.2.1, .int .i64 r.2.2.2]
theorem fcs_cons (r : Fr) (l : List Fr) : fcs (r :: l) = .int .i64 r.1 :: .string ⟨r.2.1.toArray⟩ :: .int .i64 r.2.2.1 :: .int .i64 r.2.2.2 :: fcs l := rfl
theorem fcs_length (l : List Fr) : (fcs l).length = l.length * 4 := by
  induction l with
  | nil => rfl
  | cons r l ih => rw [fcs_cons]; simp [ih]; omega
theorem fcs_app (a b : List Fr) : fcs (a ++ b) = fcs a ++ fcs b := by simp [fcs]
theorem fcs_at (l : List Fr) : ∀ (i : Nat) (h : i < l.length), (fcs l)[i * 4]? = some (.int .i64 l[i].1) ∧ (fcs l)[i * 4 + 1]? = some (.string ⟨l[i].2.1.toArray⟩) ∧ (fcs l)[i * 4 + 2]? = some (.int .i64 l[i].2.2.1) ∧ (fcs l)[i * 4 + 3]? = some (.int .i64 l[i].2.2.2) := by
  induction l with
  | nil => intro i h; cases h
  | cons r l ih =>
    intro i h
    cases i with
    | zero => exact ⟨rfl, rfl, rfl, rfl⟩
    | succ i =>
      rw [fcs_cons, show (i + 1) * 4 = i * 4 + 1 + 1 + 1 + 1 from by omega]
      simpa using ih i (by simpa using h)
theorem frm_cells {w : World} {B n : Nat} {A : Option Addr} {l : List Fr} (hr : Reads w B 4 A n (fcs l)) (hl : l.length = n) (k : Nat) (hk : k < n) :
    ∃ b off, A = some ⟨b, off, none⟩ ∧ b < B ∧ ∀ i (hi : i < l.length), w.cell? ⟨b, off + i * 4, none⟩ = some (.int .i64 l[i].1) ∧ w.cell? ⟨b, off + i * 4 + 1, none⟩ = some (.string ⟨l[i].2.1.toArray⟩) ∧ w.cell? ⟨b, off + i * 4 + 2, none⟩ = some (.int .i64 l[i].2.2.1) ∧ w.cell? ⟨b, off + i * 4 + 3, none⟩ = some (.int .i64 l[i].2.2.2) := by
  obtain ⟨b, off, e, hb, hc⟩ := hr.2 (by omega)
  refine ⟨b, off, e, hb, fun i hi => ?_⟩
  obtain ⟨h0, h1, h2, h3⟩ := fcs_at l i hi
  exact ⟨hc _ _ h0, hc _ _ h1, hc _ _ h2, hc _ _ h3⟩
theorem fix4 (n : Nat) (h : n < 4294967296) : fixB (n : Int) 4 = fx 4 n ∧ fixE (n : Int) 4 = 0 := by
  unfold fixB fixE
  have h2 : (1 : Int) ≤ 4 ∧ (4 : Int) ≤ 8 ∧ (0 : Int) ≤ (n : Int) ∧ (n : Int) < 256 ^ (4 : Int).toNat := ⟨by decide, by decide, by omega, by show (n : Int) < 256 ^ 4; omega⟩
  rw [if_pos h2, if_pos h2]
  exact ⟨rfl, rfl⟩
set_option maxRecDepth 100000 in
theorem fref_sum_any (l : List UInt8) (hl : l.length ≤ 1000000) (w : World) :
    Calls Try.prog 22 #[.agg (tab T0).toArray, .string ⟨l.toArray⟩] w fun e w' => e = .returned (.string ⟨(fsum l).toArray⟩) ∧ Below w.heap.size w w' := by
  have hm := fun W => refMore_any T0 T0_len 0#32 l (by omega) W
  rw [show (((0#32 : BitVec 32).toNat : Nat) : Int) = 0 from rfl] at hm
  have hlt := w_lt (moreT T0 0#32 l)
  have hf := fun W => refFix_any ((moreT T0 0#32 l).toNat : Int) 4 W (by omega)
  obtain ⟨e1, e2⟩ := fix4 (moreT T0 0#32 l).toNat (by omega)
  rw [e1, e2] at hf
  unfold strInt at hf
  have hz : (0 : Int) ≤ ((moreT T0 0#32 l).toNat : Int) := by omega
  have Hi := Lib.hid (hi_tab (tab_256 T0_len))
  have e3 : fsum l = fx 4 (moreT T0 0#32 l).toNat := rfl
  rw [e3]
  replace hm := Lib.hid hm
  replace hf := Lib.hid hf
  clear e1 e2 e3
  generalize fx 4 (moreT T0 0#32 l).toNat = X at *
  generalize ((moreT T0 0#32 l).toNat : Int) = z at *
  generalize tab T0 = C at *
  go_enter Try.func22, Try.ntmps22
  go_wp2_with (first
    | (refine wpList_load_mid rfl 49 _ rfl _ 0 rfl C _ (range_new _ _ _) Try.underlying49 rfl Hi.out ?_)
    | (go_at_call 30; (with_reducible refine (hm.out _).mono ?_); rintro e w1 ⟨rfl, hb1⟩; have HB1 := Lib.hid (below_box hb1); clear hb1 hm)
    | (go_at_call 21; (with_reducible refine (hf.out _).mono ?_); rintro e w2 ⟨rfl, hb2⟩; have HB2 := Lib.hid (HB1.out.trans (hb2.mono HB1.out.size)); clear hb2 hf))
  go_ret
  exact ⟨rfl, HB2.out⟩
theorem fsize_alloc (w : World) (o : Obj) : w.heap.size ≤ (w.alloc o).heap.size := by rw [World.size_alloc]; omega
theorem fadd (a b : List UInt8) (h : a.length + b.length ≤ 9223372036854775807) (w : World) : (Op.stringOp .add ⟨a.toArray⟩ ⟨b.toArray⟩).run Try.prog w = .ok (.string ⟨(a ++ b).toArray⟩) w := by
  rw [run_string_add_sum w _ _ (by rw [ByteArray.size_mk', ByteArray.size_mk', List.size_toArray, List.size_toArray]; exact h), ByteArray.mk_append_mk]
set_option maxRecDepth 100000 in
set_option maxHeartbeats 2000000 in
theorem fref_put_any (k : Int) (b : List UInt8) (w : World) (hb : b.length ≤ 900000) :
    Calls Try.prog 10 #[.int .i64 k, .string ⟨b.toArray⟩] w fun e w' => e = .returned (.tuple #[.string ⟨(fputF k b).1.toArray⟩, .int .i64 (fputF k b).2]) ∧ Below w.heap.size w w' := by
  by_cases h1 : k < 1
  · rw [show fputF k b = ([], 160) from if_pos (Or.inl h1)]
    go_enter Try.func10, Try.ntmps10
    go_wp2
    go_ret2
    exact ⟨rfl, by go_grown⟩
  by_cases h4 : 4 < k
  · rw [show fputF k b = ([], 160) from if_pos (Or.inr h4)]
    go_enter Try.func10, Try.ntmps10
    go_wp2
    go_ret2
    exact ⟨rfl, by go_grown⟩
  by_cases h6 : 60000 < b.length
  · have h6i : (60000 : Int) < (b.length : Int) := by omega
    rw [show fputF k b = ([], 3) from by unfold fputF; rw [if_neg (by omega), if_pos h6]]
    go_enter Try.func10, Try.ntmps10
    go_wp2
    go_ret2
    exact ⟨rfl, by go_grown⟩
  have h6i : ¬ (60000 : Int) < (b.length : Int) := by omega
  rw [show fputF k b = (fB k.toNat b, 0) from by unfold fputF; rw [if_neg (by omega), if_neg h6]]
  have hf := fun W => refFix_any (b.length : Int) 4 W (by omega)
  obtain ⟨e1, e2⟩ := fix4 b.length (by omega)
  rw [e1, e2] at hf
  unfold strInt at hf
  have ht := fun W => refTable_any W
  have hs := fun W => fref_sum_any (fhd k.toNat b) (by rw [fhd_len]; omega) W
  have hkk : ((UInt8.ofNat k.toNat).toNat : Int) = k := by rw [u8_ofNat _ (by omega)]; omega
  have ho := fun W => one_byte k (UInt8.ofNat k.toNat) hkk W
  have hl := fx_length 4 b.length
  have a1 := fun W => fadd [UInt8.ofNat k.toNat] (fx 4 b.length) (by rw [hl, List.length_singleton]; omega) W
  have a2 := fun W => fadd ([UInt8.ofNat k.toNat] ++ fx 4 b.length) b (by rw [List.length_append, hl, List.length_singleton]; omega) W
  have a3 := fun W => fadd (fhd k.toNat b) (fsum (fhd k.toNat b)) (by rw [fsum_len, fhd_len]; omega) W
  have e3 : [UInt8.ofNat k.toNat] ++ fx 4 b.length ++ b = fhd k.toNat b := rfl
  have e4 : fhd k.toNat b ++ fsum (fhd k.toNat b) = fB k.toNat b := rfl
  rw [e3] at a2
  rw [e4] at a3
  replace hf := Lib.hid hf
  replace ht := Lib.hid ht
  replace hs := Lib.hid hs
  clear e1 e2 e3 e4 hl hkk
  have hw8 : IntKind.u8.wrap k = k := by rw [IntKind.wrap_u8]; omega
  generalize fsum (fhd k.toNat b) = X at *
  generalize [UInt8.ofNat k.toNat] ++ fx 4 b.length = M at *
  generalize UInt8.ofNat k.toNat = q at *
  generalize fB k.toNat b = Y at *
  generalize fhd k.toNat b = H at *
  generalize fx 4 b.length = Z at *
  generalize tab T0 = C at *
  go_enter Try.func10, Try.ntmps10
  go_wp2_with (first
    | (go_at_call 21; (with_reducible refine (hf.out _).mono ?_); rintro e w1 ⟨rfl, hb1⟩; have HB1 := Lib.hid hb1; clear hb1 hf)
    | (go_at_call 23; (with_reducible refine (ht.out _).mono ?_); rintro e w2 ⟨rfl, hb2⟩; have HB2 := Lib.hid ((HB1.out.alloc HB1.out.size _).trans (hb2.mono (Nat.le_trans HB1.out.size (fsize_alloc _ _)))); clear hb2 ht)
    | (go_at_call 22; (with_reducible refine (hs.out _).mono ?_); rintro e w3 ⟨rfl, hb3⟩; have HB3 := Lib.hid (HB2.out.trans (hb3.mono HB2.out.size)); clear hb3 hs))
  go_ret2
  exact ⟨rfl, HB3.out⟩
end Go.Proofs.Ytodllghfcdbbpaa
