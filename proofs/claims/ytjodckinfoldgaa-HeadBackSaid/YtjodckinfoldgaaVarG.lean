/-
  Layer 2: what Size of package varint returns, for every argument: it leaves the world as it was.
-/
import Derived.Test.YtjodckinfoldgaaVarG0
namespace Go.Proofs.Ytjodckinfoldgaa
set_option linter.unusedSimpArgs false
set_option linter.unusedVariables false
open Go.ChangeShapes Go.WideShapes Go.ChangeAt Go.RowKit Go.Joins Go.Deep
theorem size_any (n : Int) (w : World) (h : n < 9223372036854775808) : Calls Try.prog 45 #[.int .i64 n] w fun e w' => e = .returned (.int .i64 (sizeF n)) ∧ w = w' := by
  by_cases h0 : n < 0
  · have fin : sizeF n = 0 := by simp [sizeF, putB, h0]
    rw [fin]
    clear fin
    go_enter Try.func45, Try.ntmps45
    go_wp2
    go_ret
    exact ⟨rfl, rfl⟩
  · obtain ⟨m, rfl⟩ := Int.eq_ofNat_of_zero_le (by omega : 0 ≤ n)
    have hm : m < 128 ^ (8 + 1) := by rw [pow9]; omega
    have fin : sizeF (m : Int) = ((dg 9 m).length : Int) := by unfold sizeF; rw [putB_of (by omega), Int.toNat_natCast]
    rw [fin]
    clear fin
    have st : Hid (m < 128 ^ (8 + 1) ∧ 1 + (dg (8 + 1) m).length = (dg 9 m).length + 1) := Lib.hid ⟨hm, Nat.add_comm _ _⟩
    clear hm
    generalize hL : (dg 9 m).length = L at st ⊢
    have hL' := Lib.hid hL
    clear hL
    go_enter Try.func45, Try.ntmps45
    go_wp2
    go_loop [0, 3] (fun n s => ∃ (f k c : Nat), n = .int .i64 (k : Int) ∧ s = .int .i64 (c : Int) ∧ c + f ≤ 9 ∧ (k : Int) < 9223372036854775808 ∧ Hid (k < 128 ^ (f + 1) ∧ c + (dg (f + 1) k).length = L + 1)) (fun n _ => match n with | .int _ m => m.toNat | _ => 0)
    case atStart => exact ⟨8, m, 1, rfl, rfl, by omega, by omega, ⟨st.1, by rw [← hL'.out]; exact Nat.add_comm _ _⟩⟩
    case round =>
      obtain ⟨f, k, c, rfl, rfl, hc, hk, hd⟩ := hrel
      clear st hL' h h0
      by_cases h128 : 128 ≤ (k : Int)
      · go_wp2
        obtain ⟨hd1, hd2⟩ := hd.out
        cases f with
        | zero => exfalso; simp at hd1; omega
        | succ f =>
          have hdiv : k / 128 < 128 ^ (f + 1) := by rw [Nat.div_lt_iff_lt_mul (by omega)]; rw [Nat.pow_succ] at hd1; exact hd1
          have e : dg (f + 1 + 1) k = UInt8.ofNat (128 + k % 128) :: dg (f + 1) (k / 128) := by rw [dg, if_neg (by omega)]
          rw [e, List.length_cons] at hd2
          refine ⟨⟨f, k / 128, c + 1, iv (by omega), iv (by omega), by omega, by omega, hdiv, by omega⟩, ?_⟩
          show Int.toNat _ < Int.toNat _
          omega
      · go_wp2
        obtain ⟨hd1, hd2⟩ := hd.out
        have e : dg (f + 1) k = [UInt8.ofNat k] := by rw [dg, if_pos (by omega)]
        rw [e] at hd2
        go_ret
        exact ⟨congrArg Ending.returned (iv (by simp at hd2; omega)), rfl⟩
end Go.Proofs.Ytjodckinfoldgaa
