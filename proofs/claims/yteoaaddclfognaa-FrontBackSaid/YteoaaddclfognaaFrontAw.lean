/-
  Layer 6: the probe that each statement of the layer asks beside itself returns true.
-/
import Derived.Test.YteoaaddclfognaaFrontS
namespace Go.Proofs.Yteoaaddclfognaa
set_option linter.unusedSimpArgs false
set_option linter.unusedVariables false
open Go.ChangeShapes Go.WideShapes Go.ChangeAt Go.RowKit Go.Joins Go.Deep

theorem aw6_ranks (w : World) : Calls Try.prog 11 #[.string ⟨#[97, 97, 98]⟩] w fun e w' => ∃ b off c, e = .returned (.slice (some ⟨b, off, none⟩) 3 c) ∧ 3 ≤ c ∧ b < w'.heap.size ∧
    w'.cell? ⟨b, off, none⟩ = some (.int .i64 97) ∧ w'.cell? ⟨b, off + 1, none⟩ = some (.int .i64 0) ∧ w'.cell? ⟨b, off + 2, none⟩ = some (.int .i64 98) ∧ Below w.heap.size w w' := by
  refine (fr_ranks_any [97, 97, 98] (by decide) w).mono ?_
  rintro e w' ⟨A, c, rfl, hc, hr, hb⟩
  obtain ⟨b, off, rfl, hlt, hcell⟩ := hr.2 (by decide)
  have e0 : rks row0 [97, 97, 98] = [97, 0, 98] := by decide +kernel
  rw [e0] at hcell
  exact ⟨b, off, c, rfl, hc, hlt, hcell 0 _ rfl, hcell 1 _ rfl, hcell 2 _ rfl, hb⟩
theorem aw6_text (cs : Array Value) (n : Nat) (ks : List Int) (s : List UInt8) (x : Int) (he : cs = (ints ks).toArray) (hn : ks.length = n) (h1 : n ≤ 1000000) (ht : rtextF ks = (s, x)) (w : World) :
    Calls Try.prog 8 #[.slice (some ⟨w.heap.size, 0, none⟩) n n] (w.alloc (.cells cs 3)) fun e w' => e = .returned (.tuple #[.string ⟨s.toArray⟩, .int .i64 x]) ∧ Below w.heap.size w w' := by
  subst he
  have hr := reads_new w 3 (ints ks).toArray 1 n (by simp [ints_length, hn])
  refine (fr_text_any _ n n ks (w.alloc (.cells (ints ks).toArray 3)) h1 (hr.more (by simp))).mono ?_
  rintro e w' ⟨rfl, hb⟩
  rw [ht]
  exact ⟨rfl, ((Below.refl _ _).alloc (Nat.le_refl _) _).trans (hb.mono (by simp))⟩
theorem aw6_row (w : World) : ∃ R : List UInt8, R.length = 256 ∧ R.take 3 = [98, 97, 0] ∧ ∀ w, Calls Try.prog 13 #[.string ⟨#[97, 97, 98]⟩] w fun e w' => e = .returned (.string ⟨R.toArray⟩) ∧ Below w.heap.size w w' :=
  ⟨rowS row0 [97, 97, 98], (row0_whole.rowS _).len, by decide +kernel, fun w => fr_row_any [97, 97, 98] (by decide) w⟩

set_option maxRecDepth 100000 in
set_option maxHeartbeats 4000000 in
theorem awake6_any (w : World) : Calls Try.prog 7 #[] w fun e w' => e = .returned (.bool true) ∧ Below w.heap.size w w' := by
  have Hrk := Lib.hid aw6_ranks
  have ht1 : ∀ w : World, Calls Try.prog 8 #[.slice (some ⟨w.heap.size, 0, none⟩) 3 3] (w.alloc (.cells #[.int .i64 97, .int .i64 0, .int .i64 98] 3)) fun e w' => e = .returned (.tuple #[.string ⟨#[97, 97, 98]⟩, .int .i64 0]) ∧ Below w.heap.size w w' :=
    fun w => aw6_text _ 3 [97, 0, 98] [97, 97, 98] 0 rfl rfl (by decide) (by decide +kernel) w
  have ht2 : ∀ w : World, Calls Try.prog 8 #[.slice (some ⟨w.heap.size, 0, none⟩) 1 1] (w.alloc (.cells #[.int .i64 256] 3)) fun e w' => e = .returned (.tuple #[.string ⟨#[]⟩, .int .i64 60]) ∧ Below w.heap.size w w' :=
    fun w => aw6_text _ 1 [256] [] 60 rfl rfl (by decide) (by decide +kernel) w
  obtain ⟨R, hRl, hR3, hRow⟩ := aw6_row w
  have hsl : ∀ w, (Instr.slice 9 (.string ⟨R.toArray⟩) none (some (.int .i64 3)) none).run Try.prog w = .ok (.string ⟨#[98, 97, 0]⟩) w := fun w => by
    have := str_head R 3 (by omega) w
    rw [hR3] at this
    exact this
  have Ht1 := Lib.hid ht1
  have Ht2 := Lib.hid ht2
  have Hrow := Lib.hid hRow
  clear ht1 ht2 hRow hR3
  go_enter Try.func7, Try.ntmps7
  go_wp2_with (first
    | (go_at_call 11; refine (Hrk.out _).mono ?_; rintro e w1 ⟨b, off, c, rfl, hc, hbl, h0, h1, h2, hb1⟩; have Hb1 := Lib.hid hb1; clear hb1)
    | (go_at_call 8; (with_reducible refine (Ht1.out _).mono ?_); rintro e w2 ⟨rfl, hb2⟩; have Hb2 := Lib.hid hb2; clear hb2)
    | (go_at_call 8; (with_reducible refine (Ht2.out _).mono ?_); rintro e w3 ⟨rfl, hb3⟩; have k0 := (hb3.cell (p := ⟨b, off, none⟩) (Nat.lt_of_lt_of_le hbl Hb2.out.size)).trans ((Hb2.out.cell (p := ⟨b, off, none⟩) hbl).trans h0); have k1 := (hb3.cell (p := ⟨b, off + 1, none⟩) (Nat.lt_of_lt_of_le hbl Hb2.out.size)).trans ((Hb2.out.cell (p := ⟨b, off + 1, none⟩) hbl).trans h1); have k2 := (hb3.cell (p := ⟨b, off + 2, none⟩) (Nat.lt_of_lt_of_le hbl Hb2.out.size)).trans ((Hb2.out.cell (p := ⟨b, off + 2, none⟩) hbl).trans h2); have Hb3 := Lib.hid (Hb1.out.trans ((Hb2.out.trans (hb3.mono Hb2.out.size)).mono Hb1.out.size)); clear hb3)
    | (go_at_call 13; refine (Hrow.out _).mono ?_; rintro e w4 ⟨rfl, hb4⟩; have Hb3 := Lib.hid (Hb3.out.trans (hb4.mono Hb3.out.size)); clear hb4))
  go_ret
  exact ⟨rfl, Hb3.out⟩
end Go.Proofs.Yteoaaddclfognaa
