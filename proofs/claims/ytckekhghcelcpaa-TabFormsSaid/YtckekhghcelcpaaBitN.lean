/-
  Layer 4: a reader's Gamma where it fails: the error, and the reader stays.
-/
import Derived.Test.YtckekhghcelcpaaBitH
namespace Go.Proofs.Ytckekhghcelcpaa
set_option linter.unusedSimpArgs false
set_option linter.unusedVariables false
open Go.ChangeShapes Go.WideShapes Go.ChangeAt Go.RowKit Go.Joins Go.Deep

set_option maxRecDepth 100000 in
set_option maxHeartbeats 1000000 in
theorem rgamma_no (l : List UInt8) (p g : Nat) (e : Int) (w : World) (hl : l.length ≤ 1099511627776) (hp : p ≤ 8 * l.length) (hB : RHold w g l p) (he : (ungam ((rowOf l).drop p)).2.2 = e) (hne : e ≠ 0) :
    Calls Try.prog 41 #[.pointer (some ⟨g, 0, none⟩)] w fun r w' => r = .returned (.tuple #[.int .i64 0, .int .i64 e]) ∧ ∃ k, w.drewN k = w' := by
  have hlen : ((rowOf l).drop p).length = 8 * l.length - p := by rw [List.length_drop, row_length]
  have hzl := lz_le ((rowOf l).drop p)
  unfold ungam at he
  rw [hlen] at he hzl
  have Hnou := Lib.hid fun v hB => noughts_any l p g v hl hp hB
  have Hleft := Lib.hid fun v hB => bleft_any l p g v (by omega) hp hB
  have hMi : ((8 * l.length - p : Nat) : Int) ≤ 8796093022208 := by omega
  obtain ⟨c1, c2, z1, z2⟩ := Blk.two hB
  have hg := Blk.lt hB
  have HB := Lib.hid hB
  clear hB hl hp hlen
  generalize lz ((rowOf l).drop p) = z at *
  generalize 8 * l.length - p = M at *
  by_cases a1 : z = M
  · rw [if_pos a1] at he
    subst he
    have b1 : (z : Int) = (M : Int) := by omega
    have b2 : ((z : Int) == (M : Int)) = true := by simp; omega
    subst a1
    go_enter Try.func41, Try.ntmps41
    go_wp2_with (first
      | (go_at_call 29; refine (some_is g _).mono ?_; rintro e w1 ⟨rfl, rfl⟩)
      | (go_at_call 49; refine (Hnou.out _ (HB.out.drewN 0)).mono ?_; rintro e w1 ⟨rfl, k0, rfl⟩)
      | (go_at_call 18; refine (Hleft.out _ (HB.out.drewN _)).mono ?_; rintro e w1 ⟨rfl, k1, rfl⟩))
    go_ret2
    exact ⟨rfl, _, rfl⟩
  · rw [if_neg a1] at he
    have b1 : ¬ (z : Int) = (M : Int) := by omega
    have b2 : ((z : Int) == (M : Int)) = false := by simp; omega
    by_cases a2 : 32 ≤ z
    · rw [if_pos a2] at he
      subst he
      have b3 : (32 : Int) ≤ (z : Int) := by omega
      go_enter Try.func41, Try.ntmps41
      go_wp2_with (first
        | (go_at_call 29; refine (some_is g _).mono ?_; rintro e w1 ⟨rfl, rfl⟩)
        | (go_at_call 49; refine (Hnou.out _ (HB.out.drewN 0)).mono ?_; rintro e w1 ⟨rfl, k0, rfl⟩)
        | (go_at_call 18; refine (Hleft.out _ (HB.out.drewN _)).mono ?_; rintro e w1 ⟨rfl, k1, rfl⟩))
      go_ret2
      exact ⟨rfl, _, rfl⟩
    · rw [if_neg a2] at he
      by_cases a3 : M < 2 * z + 1
      · rw [if_pos a3] at he
        subst he
        have b3 : ¬ (32 : Int) ≤ (z : Int) := by omega
        have b4 : (M : Int) < 2 * (z : Int) + 1 := by omega
        go_enter Try.func41, Try.ntmps41
        go_wp2_with (first
          | (go_at_call 29; refine (some_is g _).mono ?_; rintro e w1 ⟨rfl, rfl⟩)
          | (go_at_call 49; refine (Hnou.out _ (HB.out.drewN 0)).mono ?_; rintro e w1 ⟨rfl, k0, rfl⟩)
          | (go_at_call 18; refine (Hleft.out _ (HB.out.drewN _)).mono ?_; rintro e w1 ⟨rfl, k1, rfl⟩))
        go_ret2
        exact ⟨rfl, ⟨_, rfl⟩⟩
      · rw [if_neg a3] at he
        exact absurd he.symm hne
end Go.Proofs.Ytckekhghcelcpaa
