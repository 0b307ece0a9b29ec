/-
  Layer 4: does a width fit; a reader's and a writer's plain methods.
-/
import Derived.Test.YtckekhghcelcpaaBitM
import Derived.Test.YtckekhghcelcpaaRows
namespace Go.Proofs.Ytckekhghcelcpaa
set_option linter.unusedSimpArgs false
set_option linter.unusedVariables false
open Go.ChangeShapes Go.WideShapes Go.ChangeAt Go.RowKit Go.Joins Go.Deep

theorem bfits_no (n width : Int) (w : World) (h : ¬ fits n width) : Calls Try.prog 23 #[.int .i64 n, .int .i64 width] w fun e w' => e = .returned (.bool false) ∧ w = w' := by
  by_cases h1 : 0 ≤ width
  · by_cases h2 : width ≤ 32
    · by_cases h3 : 0 ≤ n
      · obtain ⟨W, rfl⟩ := Int.eq_ofNat_of_zero_le h1
        obtain ⟨N, rfl⟩ := Int.eq_ofNat_of_zero_le h3
        have hd : ¬ (N : Int) / 2 ^ W = 0 := fun e => h ⟨h1, h2, h3, by
          have := Int.lt_mul_of_ediv_lt (Int.pow_pos (by decide : (0 : Int) < 2) : (0 : Int) < 2 ^ W) (by omega : (N : Int) / 2 ^ W < 1)
          simpa using this⟩
        have Hd := Lib.hid hd
        clear hd h
        go_enter Try.func23, Try.ntmps23
        go_wp2
        go_ret
        refine ⟨?_, rfl⟩
        show Ending.returned (.bool ((N : Int) / 2 ^ W == 0)) = _
        rw [beq_eq_false_iff_ne.2 Hd.out]
      · clear h
        go_enter Try.func23, Try.ntmps23
        go_wp2
        go_ret
        exact ⟨rfl, rfl⟩
    · clear h
      go_enter Try.func23, Try.ntmps23
      go_wp2
      go_ret
      exact ⟨rfl, rfl⟩
  · clear h
    go_enter Try.func23, Try.ntmps23
    go_wp2
    go_ret
    exact ⟨rfl, rfl⟩
theorem bfits_yes (n width : Int) (w : World) (h : fits n width) : Calls Try.prog 23 #[.int .i64 n, .int .i64 width] w fun e w' => e = .returned (.bool true) ∧ w = w' := by
  obtain ⟨h1, h2, h3, h4⟩ := h
  obtain ⟨W, rfl⟩ := Int.eq_ofNat_of_zero_le h1
  obtain ⟨N, rfl⟩ := Int.eq_ofNat_of_zero_le h3
  go_enter Try.func23, Try.ntmps23
  go_wp2
  go_ret
  refine ⟨?_, rfl⟩
  have hd : (N : Int) / 2 ^ W = 0 := Int.ediv_eq_zero_of_lt h3 (by simpa using h4)
  show Ending.returned (.bool ((N : Int) / 2 ^ W == 0)) = _
  rw [hd]
  rfl

theorem some_is (g : Nat) (w : World) : Calls Try.prog 29 #[.pointer (some ⟨g, 0, none⟩)] w fun e w' => e = .returned (.pointer (some ⟨g, 0, none⟩)) ∧ w = w' := by
  go_enter Try.func29, Try.ntmps29
  go_wp2
  go_ret
  exact ⟨rfl, rfl⟩
theorem newreader_any (s : ByteArray) (w : World) : Calls Try.prog 16 #[.string s] w fun e w' => e = .returned (.pointer (some ⟨w.heap.size, 0, none⟩)) ∧ w.alloc (.cells #[.string s, .int .i64 0] 59) = w' := by
  go_enter Try.func16, Try.ntmps16
  go_wp2
  go_ret
  exact ⟨rfl, rfl⟩
theorem bleft_any (l : List UInt8) (p : Nat) (g : Nat) (w : World) (hl : l.length ≤ 4611686018427387) (hp : p ≤ 8 * l.length) (hB : Blk w g 59 #[.string ⟨l.toArray⟩, .int .i64 p]) :
    Calls Try.prog 18 #[.pointer (some ⟨g, 0, none⟩)] w fun e w' => e = .returned (.int .i64 ((8 * l.length - p : Nat) : Int)) ∧ ∃ k, w.drewN k = w' := by
  obtain ⟨c1, c2, _, _⟩ := hB.two
  go_enter Try.func18, Try.ntmps18
  go_wp2_with (go_at_call 29; refine (some_is g _).mono ?_; rintro e w1 ⟨rfl, rfl⟩)
  go_quiet (fail)
  go_wp2
  go_ret
  exact ⟨congrArg Ending.returned (iv (by omega)), _, rfl⟩

/-! ### A writer -/
/-- A writer at block g has the bits R; v is its slice of bytes. -/
def WHold (w : World) (B g : Nat) (v : Value) (R : List Nat) : Prop :=
  Blk w g 34 #[v, .int .i64 (fr R)] ∧ w.ownsRow B 5 1 v (text R).length (bc (text R)).toList ∧ Bin R
section
variable {w w' : World} {B g : Nat} {v : Value} {R : List Nat} {S : Nat → Prop}
theorem WHold.touch (h : WHold w B g v R) (ht : Touch w w' S) (hg : ¬ S g) (hv : ∀ k, v.ownBlock = some k → ¬ S k) : WHold w' B g v R := ⟨h.1.touch ht hg, owns_touch h.2.1 ht hv, h.2.2⟩
theorem WHold.below (h : WHold w B g v R) {C : Nat} (hb : Below C w w') (hC : w.heap.size ≤ C) : WHold w' B g v R := h.touch (touch_below (S := fun _ => False) hb hC) (fun h => h) (fun _ _ h => h)
end
theorem wtext_any (B g : Nat) (v : Value) (R : List Nat) (w : World) (hH : WHold w B g v R) :
    Calls Try.prog 19 #[.pointer (some ⟨g, 0, none⟩)] w fun e w' => e = .returned (.string ⟨(text R).toArray⟩) ∧ w = w' := by
  obtain ⟨A, c, rfl, hc, hr⟩ := owns_cells hH.2.1
  obtain ⟨c1, c2, _, _⟩ := hH.1.two
  have hcv : (convert 32 9 (.slice A (text R).length c)).run Try.prog w = .ok (.string ⟨(text R).toArray⟩) w := run_str_any Try.underlying32 Try.underlying5 Try.underlying9 w A c _ hr
  have hg := hH.1.lt
  clear hH hr hc
  generalize (text R).length = n at *
  generalize (text R).toArray = a at *
  go_enter Try.func19, Try.ntmps19
  go_wp2
  go_ret
  exact ⟨rfl, rfl⟩
end Go.Proofs.Ytckekhghcelcpaa
