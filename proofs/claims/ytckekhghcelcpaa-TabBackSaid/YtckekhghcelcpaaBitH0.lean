/-
  Layer 4: a reader's Get.
-/
import Derived.Test.YtckekhghcelcpaaBitD
namespace Go.Proofs.Ytckekhghcelcpaa
set_option linter.unusedSimpArgs false
set_option linter.unusedVariables false
open Go.ChangeShapes Go.WideShapes Go.ChangeAt Go.RowKit Go.Joins Go.Deep

/-! ### Get, Gamma, Done -/
/-- A reader at block g stands at a place of a text. -/
def RHold (w : World) (g : Nat) (l : List UInt8) (p : Nat) : Prop := Blk w g 59 #[.string ⟨l.toArray⟩, .int .i64 p]
section
variable {w w' : World} {g : Nat} {l : List UInt8} {p : Nat} {S : Nat → Prop}
theorem RHold.drewN (h : RHold w g l p) (n : Nat) : RHold (w.drewN n) g l p := h
theorem RHold.go (h : RHold w g l p) (n : Nat) (q : Int) (e : q = ((p + n : Nat) : Int)) : RHold (w.setCell ⟨g, 1, none⟩ (.int .i64 q)) g l (p + n) := by
  subst e
  exact Blk.set_ h 1 _
end

set_option maxRecDepth 100000 in
set_option maxHeartbeats 1000000 in
theorem get_yes (l : List UInt8) (p W g : Nat) (w : World) (hl : l.length ≤ 1099511627776) (hp : p + W ≤ 8 * l.length) (hW : W ≤ 32) (hB : RHold w g l p) :
    Calls Try.prog 40 #[.pointer (some ⟨g, 0, none⟩), .int .i64 W] w fun e w' => e = .returned (.tuple #[.int .i64 (num (((rowOf l).drop p).take W)), .int .i64 0]) ∧ RHold w' g l (p + W) ∧ Touch w w' (fun k => k = g) := by
  have hnum := fun v hB => number_any l p W g p v hl hp hW hB
  have hleft := fun v hB => bleft_any l p g v (by omega) (by omega) hB
  have hle : (W : Int) ≤ ((8 * l.length - p : Nat) : Int) := by omega
  have hWi : (W : Int) ≤ 32 := by omega
  have hpl : (p : Int) ≤ 8796093022208 := by omega
  have hg := Blk.lt hB
  obtain ⟨c1, c2, z1, z2⟩ := Blk.two hB
  have HB := Lib.hid hB
  clear hB hl hp
  generalize num (((rowOf l).drop p).take W) = N at *
  generalize 8 * l.length - p = M at *
  go_enter Try.func40, Try.ntmps40
  go_wp2_with (first
    | (go_at_call 29; refine (some_is g _).mono ?_; rintro e w1 ⟨rfl, rfl⟩)
    | (go_at_call 18; refine (hleft _ HB.out).mono ?_; rintro e w1 ⟨rfl, k1, rfl⟩)
    | (go_at_call 48; refine (hnum _ (HB.out.drewN _)).mono ?_; rintro e w1 ⟨rfl, k2, rfl⟩))
  go_ret2
  exact ⟨rfl, RHold.go (HB.out.drewN _) W _ (by omega), ((Touch.refl w (fun k => k = g)).drewN _).set (p := ⟨g, 1, none⟩) (Or.inl rfl) _⟩

set_option maxRecDepth 100000 in
set_option maxHeartbeats 1000000 in
theorem get_no (l : List UInt8) (p g : Nat) (width e : Int) (w : World) (hl : l.length ≤ 1099511627776) (hp : p ≤ 8 * l.length) (hB : RHold w g l p) (he : (bgetF (rowOf l) p width).2 = e) (hne : e ≠ 0) :
    Calls Try.prog 40 #[.pointer (some ⟨g, 0, none⟩), .int .i64 width] w fun r w' => r = .returned (.tuple #[.int .i64 0, .int .i64 e]) ∧ ∃ k, w.drewN k = w' := by
  by_cases h1 : width < 0
  · have : e = 2 := by rw [← he]; unfold bgetF; rw [if_pos (Or.inl h1)]
    subst this
    clear he hne hl
    go_enter Try.func40, Try.ntmps40
    go_wp2
    go_ret2
    exact ⟨rfl, 0, rfl⟩
  · by_cases h2 : 32 < width
    · have : e = 2 := by rw [← he]; unfold bgetF; rw [if_pos (Or.inr h2)]
      subst this
      clear he hne hl
      go_enter Try.func40, Try.ntmps40
      go_wp2
      go_ret2
      exact ⟨rfl, 0, rfl⟩
    · by_cases h3 : (p : Int) + width > (rowOf l).length
      · have : e = 4 := by rw [← he]; unfold bgetF; rw [if_neg (by omega), if_pos h3]
        subst this
        rw [row_length] at h3
        have hleft := fun v hB => bleft_any l p g v (by omega) (by omega) hB
        have hle : ((8 * l.length - p : Nat) : Int) < width := by omega
        clear he hne hl h3
        have HB := Lib.hid hB
        clear hB hp
        generalize 8 * l.length - p = M at *
        go_enter Try.func40, Try.ntmps40
        go_wp2_with (first
          | (go_at_call 29; refine (some_is g _).mono ?_; rintro e w1 ⟨rfl, rfl⟩)
          | (go_at_call 18; refine (hleft _ HB.out).mono ?_; rintro e w1 ⟨rfl, k1, rfl⟩))
        go_ret2
        exact ⟨rfl, k1, rfl⟩
      · exfalso
        apply hne
        rw [← he]
        unfold bgetF
        rw [if_neg (by omega), if_neg h3]

end Go.Proofs.Ytckekhghcelcpaa
