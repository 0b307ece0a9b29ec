/-
  Layer 2: what the document's own Size, Put and Fix return, for every argument.
-/
import Derived.Test.YtjodckinfoldgaaVarP
import Derived.Outline
namespace Go.Proofs.Ytjodckinfoldgaa
set_option linter.unusedSimpArgs false
set_option linter.unusedVariables false
open Go.ChangeShapes Go.WideShapes Go.ChangeAt Go.RowKit Go.Joins Go.Deep
theorem one_byte (x : Int) (b : UInt8) (h : (b.toNat : Int) = x) (W : World) :
    (convert 74 9 (.slice (some ⟨W.heap.size, 0, none⟩) 1 1)).run Try.prog (W.alloc (.cells #[.int .u8 x] 5)) = .ok (.string ⟨#[b]⟩) (W.alloc (.cells #[.int .u8 x] 5)) := by
  subst h
  exact run_str (W.alloc (.cells #[.int .u8 (b.toNat : Int)] 5)) W.heap.size 1 1 5 [b] rfl (Blk.new W 5 (bc [b]))
theorem add_bytes (a b : List UInt8) (h : a.length + b.length ≤ 9223372036854775807) (w : World) : (Op.stringOp .add ⟨a.toArray⟩ ⟨b.toArray⟩).run Try.prog w = .ok (.string ⟨(a ++ b).toArray⟩) w := by
  rw [run_string_add_sum w _ _ (by rw [ByteArray.size_mk', ByteArray.size_mk', List.size_toArray, List.size_toArray]; exact h), ByteArray.mk_append_mk]
theorem w_div (m d : Nat) (hd : 0 < d) (h : m < 9223372036854775808) : wrap64 ((m : Int).tdiv (d : Int)) = ((m / d : Nat) : Int) := by
  rw [Int.tdiv_eq_ediv_of_nonneg (by omega), ← Int.natCast_ediv]
  have := Nat.div_le_self m d
  generalize m / d = q at *
  unfold wrap64
  omega
theorem lt_63 {f m : Nat} (hf : f ≤ 8) (hm : m < 128 ^ (f + 1)) : m < 9223372036854775808 := by
  rw [← pow9]
  exact Nat.lt_of_lt_of_le hm (Nat.pow_le_pow_right (by omega) (by omega))
set_option maxRecDepth 100000 in
theorem refPut_small (m : Int) (b : UInt8) (w : World) (hb : (b.toNat : Int) = m) (h0 : 0 ≤ m) (h1 : m < 128) : Calls Try.prog 40 #[.int .i64 m] w fun e w' => e = .returned (strInt [b] 0) ∧ Below w.heap.size w w' := by
  have hcv := one_byte m b hb w
  clear hb
  go_enter Try.func40, Try.ntmps40
  go_wp2
  go_ret2
  exact ⟨rfl, by go_grown⟩
theorem refPut_step (m : Int) (b : UInt8) (t : List UInt8) (w : World) (h1 : 128 ≤ m) (hb : (b.toNat : Int) = m % 128 + 128) (ht : t.length ≤ 9)
    (ih : Hid (Calls Try.prog 40 #[.int .i64 (wrap64 (m.tdiv 128))] w fun e w' => e = .returned (.tuple #[.string ⟨t.toArray⟩, .int .i64 0]) ∧ Below w.heap.size w w')) :
    Calls Try.prog 40 #[.int .i64 m] w fun e w' => e = .returned (strInt (b :: t) 0) ∧ Below w.heap.size w w' := by
  have hcv := one_byte (128 + m % 128) b (by omega)
  have had := add_bytes [b] t (by simp; omega)
  have e1 : (ByteArray.mk [b].toArray) = ⟨#[b]⟩ := rfl
  rw [e1] at had
  clear hb ht
  go_enter Try.func40, Try.ntmps40
  go_wp2_with (refine ih.out.mono ?_; rintro e w1 ⟨rfl, hb1⟩)
  go_ret2
  have hs1 := hb1.size
  exact ⟨rfl, by go_grown⟩
theorem refPut_in : ∀ (f m : Nat) (w : World), f ≤ 8 → m < 128 ^ (f + 1) → Calls Try.prog 40 #[.int .i64 m] w fun e w' => e = .returned (strInt (dg (f + 1) m) 0) ∧ Below w.heap.size w w'
  | f, m, w, hf, hm => by
    by_cases h1 : m < 128
    · have e : dg (f + 1) m = [UInt8.ofNat m] := by rw [dg, if_pos h1]
      rw [e]
      exact refPut_small (m : Int) _ w (by rw [u8_ofNat _ (by omega)]) (by omega) (by omega)
    · cases f with
      | zero => simp at hm; omega
      | succ f =>
        have hdiv : m / 128 < 128 ^ (f + 1) := by rw [Nat.div_lt_iff_lt_mul (by omega)]; rw [Nat.pow_succ] at hm; exact hm
        have ih := refPut_in f (m / 128) w (by omega) hdiv
        have hm63 := lt_63 (f := f + 1) hf hm
        have e : dg (f + 1 + 1) m = UInt8.ofNat (128 + m % 128) :: dg (f + 1) (m / 128) := by rw [dg, if_neg h1]
        have hle := dg_le (f + 1) (m / 128)
        rw [e]
        exact refPut_step (m : Int) _ (dg (f + 1) (m / 128)) w (by omega) (by rw [u8_ofNat _ (by omega)]; omega) (by omega) (Lib.hid (by rw [show (128 : Int) = ((128 : Nat) : Int) from rfl, w_div m 128 (by omega) hm63]; exact ih))
theorem refPut_any (n : Int) (w : World) (h : n < 9223372036854775808) : Calls Try.prog 40 #[.int .i64 n] w fun e w' => e = .returned (strInt (putB n) (putE n)) ∧ Below w.heap.size w w' := by
  by_cases h0 : n < 0
  · have e1 : putB n = [] := by simp [putB, h0]
    have e2 : putE n = 2 := by simp [putE, h0]
    rw [e1, e2]
    clear e1 e2
    go_enter Try.func40, Try.ntmps40
    go_wp2
    go_ret2
    exact ⟨rfl, by go_grown⟩
  · obtain ⟨m, rfl⟩ := Int.eq_ofNat_of_zero_le (by omega : 0 ≤ n)
    have e1 : putB (m : Int) = dg 9 m := by rw [putB_of (by omega), Int.toNat_natCast]
    have e2 : putE (m : Int) = 0 := by unfold putE; rw [if_neg h0]
    rw [e1, e2]
    exact refPut_in 8 m w (by omega) (by rw [pow9]; omega)
end Go.Proofs.Ytjodckinfoldgaa
