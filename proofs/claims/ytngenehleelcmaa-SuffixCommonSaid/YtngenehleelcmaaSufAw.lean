/-
  Layer 12: the probe that each statement of the layer asks beside itself returns true.
-/
import Derived.Test.YtngenehleelcmaaSufX
import Derived.Test.YtngenehleelcmaaSame
namespace Go.Proofs.Ytngenehleelcmaa
set_option linter.unusedSimpArgs false
set_option linter.unusedVariables false
open Go.ChangeShapes Go.WideShapes Go.ChangeAt Go.RowKit Go.Joins Go.Deep

theorem saw_a : saF [98, 97, 110, 97, 110, 97] = ([6, 5, 3, 1, 0, 4, 2], 0) := by decide +kernel
theorem saw_f : sfF [98, 97, 110, 97, 110, 97] [6, 5, 3, 1, 0, 4, 2] [97, 110] = ((2, 3), 0) := by decide +kernel
theorem saw_c : scF [98, 97, 110, 97, 110, 97] [6, 5, 3, 1, 0, 4, 2] = ([0, 0, 1, 3, 0, 0, 2], 0) := by decide +kernel
theorem saw_k : skF [6, 5, 3, 1, 0, 4, 2] = ([4, 3, 6, 2, 5, 1, 0], 0) := by decide +kernel
theorem saw_p : ksF [2, 0, 2, 1] 2 = ([1, 3, 0, 2], 0) := by decide +kernel
theorem saw_n : skF [0, 0] = ([], 2) := by decide +kernel
section
variable {cs : Array Value} {xs : List Int} {n : Nat}
theorem sfresh (hcs : cs = (ints xs).toArray) (hn : xs.length = n) (w : World) : Reads (w.alloc (.cells cs 3)) (w.alloc (.cells cs 3)).heap.size 1 (some ⟨w.heap.size, 0, none⟩) n (ints xs) := by
  subst hcs
  have := reads_new w 3 (ints xs).toArray 1 n (by simp [ints_length, hn])
  exact this.more (by simp)
theorem sqback {w w' : World} {o : Obj} (hb : Below (w.alloc o).heap.size (w.alloc o) w') : Below w.heap.size w w' := ((Below.refl _ _).alloc (Nat.le_refl _) o).trans (hb.mono (by simp))
theorem aw12_same (A : Option Addr) (c : Nat) (hcs : cs = (ints xs).toArray) (hn : xs.length = n) (hm : n ≤ 1000) (W : World) (hr : Reads W W.heap.size 1 A n (ints xs)) :
    Calls Try.prog 13 #[.slice A n c, .slice (some ⟨W.heap.size, 0, none⟩) n n] (W.alloc (.cells cs 3)) fun r w' => r = .returned (.bool true) ∧ Below W.heap.size W w' := by
  have hb : Below W.heap.size W (W.alloc (.cells cs 3)) := (Below.refl _ _).alloc (Nat.le_refl _) _
  refine (same_any A (some ⟨W.heap.size, 0, none⟩) n n c n xs xs _ ((hr.below hb).more hb.size) (sfresh hcs hn W) (by omega) (by omega)).mono ?_
  rintro r w' ⟨rfl, hb2⟩
  exact ⟨by simp, sqback hb2⟩
theorem aw12_sort {ys : List Int} {N : Nat} {e most : Int} (hcs : cs = (ints xs).toArray) (hn : xs.length = n) (hm : n ≤ 1000) (hN : ys.length = N) (h : ksF xs most = (ys, e)) (w : World) :
    Calls Try.prog 11 #[.slice (some ⟨w.heap.size, 0, none⟩) n n, .int .i64 most] (w.alloc (.cells cs 3)) fun r w' => ∃ A c, r = .returned (.tuple #[.slice A N c, .int .i64 e]) ∧ Reads w' w'.heap.size 1 A N (ints ys) ∧ Below w.heap.size w w' := by
  refine (p_ssort_any xs most _ n n _ (by omega) (sfresh hcs hn w)).mono ?_
  rw [h]
  unfold LPost
  rintro r w' ⟨A, c, rfl, _, hr, hb⟩
  subst hN
  exact ⟨A, c, rfl, hr, sqback hb⟩
theorem aw12_ranks {ys : List Int} {N : Nat} {e : Int} (hcs : cs = (ints xs).toArray) (hn : xs.length = n) (hm : n ≤ 1000) (hN : ys.length = N) (h : skF xs = (ys, e)) (w : World) :
    Calls Try.prog 14 #[.slice (some ⟨w.heap.size, 0, none⟩) n n] (w.alloc (.cells cs 3)) fun r w' => ∃ A c, r = .returned (.tuple #[.slice A N c, .int .i64 e]) ∧ Reads w' w'.heap.size 1 A N (ints ys) ∧ Below w.heap.size w w' := by
  refine (p_sranks_any xs _ n n _ (by omega) (sfresh hcs hn w)).mono ?_
  rw [h]
  unfold LPost
  rintro r w' ⟨A, c, rfl, _, hr, hb⟩
  subst hN
  exact ⟨A, c, rfl, hr, sqback hb⟩
end

set_option maxRecDepth 100000 in
set_option maxHeartbeats 8000000 in
theorem awake12_any (w : World) : Calls Try.prog 8 #[] w fun e w' => e = .returned (.bool true) ∧ Below w.heap.size w w' := by
  have PA : Hid (∀ w, Calls Try.prog 9 #[.string ⟨#[98, 97, 110, 97, 110, 97]⟩] w fun r w' => ∃ A c, r = .returned (.tuple #[.slice A 7 c, .int .i64 0]) ∧ Reads w' w'.heap.size 1 A 7 (ints [6, 5, 3, 1, 0, 4, 2]) ∧ Below w.heap.size w w') := Lib.hid fun w => by
    have := p_sarray_any [98, 97, 110, 97, 110, 97] w (by decide)
    rw [saw_a] at this
    refine this.mono ?_
    unfold LPost
    rintro r w' ⟨A, c, rfl, _, hr, hb⟩
    exact ⟨A, c, rfl, hr, hb⟩
  have PF : Hid (∀ A c w, Reads w w.heap.size 1 A 7 (ints [6, 5, 3, 1, 0, 4, 2]) → Calls Try.prog 18 #[.string ⟨#[98, 97, 110, 97, 110, 97]⟩, .slice A 7 c, .string ⟨#[97, 110]⟩] w fun r w' => r = .returned (.tuple #[.agg #[.int .i64 2, .int .i64 3], .int .i64 0]) ∧ Below w.heap.size w w') := Lib.hid fun A c w hr => by
    have := p_sfind_any [98, 97, 110, 97, 110, 97] [6, 5, 3, 1, 0, 4, 2] [97, 110] A 7 c w (by decide) (by decide) (by decide) hr
    rwa [saw_f] at this
  have PC : Hid (∀ A c w, Reads w w.heap.size 1 A 7 (ints [6, 5, 3, 1, 0, 4, 2]) → Calls Try.prog 16 #[.string ⟨#[98, 97, 110, 97, 110, 97]⟩, .slice A 7 c] w fun r w' => ∃ A c, r = .returned (.tuple #[.slice A 7 c, .int .i64 0]) ∧ Reads w' w'.heap.size 1 A 7 (ints [0, 0, 1, 3, 0, 0, 2]) ∧ Below w.heap.size w w') := Lib.hid fun A c w hr => by
    have := p_scommon_any [98, 97, 110, 97, 110, 97] [6, 5, 3, 1, 0, 4, 2] A 7 c w (by decide) (by decide) hr
    rw [saw_c] at this
    refine this.mono ?_
    unfold LPost
    rintro r w' ⟨A, c, rfl, _, hr, hb⟩
    exact ⟨A, c, rfl, hr, hb⟩
  have PK : Hid (∀ A c w, Reads w w.heap.size 1 A 7 (ints [6, 5, 3, 1, 0, 4, 2]) → Calls Try.prog 14 #[.slice A 7 c] w fun r w' => ∃ b off c, r = .returned (.tuple #[.slice (some ⟨b, off, none⟩) 7 c, .int .i64 0]) ∧ b < w'.heap.size ∧ w'.cell? ⟨b, off + 6, none⟩ = some (.int .i64 0) ∧ Below w.heap.size w w') := Lib.hid fun A c w hr => by
    have := p_sranks_any [6, 5, 3, 1, 0, 4, 2] A 7 c w (by decide) hr
    rw [saw_k] at this
    refine this.mono ?_
    unfold LPost
    rintro r w' ⟨A, c, rfl, _, hr, hb⟩
    obtain ⟨b, off, rfl, hb2, hc⟩ := hr.2 (by decide)
    exact ⟨b, off, c, rfl, hb2, hc 6 _ rfl, hb⟩
  have PS := Lib.hid fun w => aw12_sort (cs := #[.int .i64 2, .int .i64 0, .int .i64 2, .int .i64 1]) (n := 4) (N := 4) rfl rfl (by decide) rfl saw_p w
  have PN := Lib.hid fun w => aw12_ranks (cs := #[.int .i64 0, .int .i64 0]) (n := 2) (N := 0) rfl rfl (by decide) rfl saw_n w
  have S1 := Lib.hid fun A c W h => aw12_same (cs := #[.int .i64 6, .int .i64 5, .int .i64 3, .int .i64 1, .int .i64 0, .int .i64 4, .int .i64 2]) (n := 7) (xs := [6, 5, 3, 1, 0, 4, 2]) A c rfl rfl (by decide) W h
  have S2 := Lib.hid fun A c W h => aw12_same (cs := #[.int .i64 0, .int .i64 0, .int .i64 1, .int .i64 3, .int .i64 0, .int .i64 0, .int .i64 2]) (n := 7) (xs := [0, 0, 1, 3, 0, 0, 2]) A c rfl rfl (by decide) W h
  have S3 := Lib.hid fun A c W h => aw12_same (cs := #[.int .i64 1, .int .i64 3, .int .i64 0, .int .i64 2]) (n := 4) (xs := [1, 3, 0, 2]) A c rfl rfl (by decide) W h
  go_enter Try.func8, Try.ntmps8
  go_wp2_with (first
    | (go_at_call 9; (with_reducible refine (PA.out _).mono ?_); rintro e w1 ⟨A1, c1, rfl, hr1, hb1⟩; have H1 := Lib.hid hr1; have Hb := Lib.hid hb1; clear hb1 hr1 PA)
    | (go_at_call 18; (with_reducible refine (PF.out _ _ _ H1.out).mono ?_); rintro e w2 ⟨rfl, hb2⟩; have hx2 := (Below.refl w2.heap.size w2).alloc (Nat.le_refl _) (.cells #[.int .i64 2, .int .i64 3] 38); have HR := Lib.hid (Blk.new w2 38 #[.int .i64 2, .int .i64 3]); replace H1 := Lib.hid ((H1.out.upto hb2).upto hx2); replace Hb := Lib.hid ((Hb.out.trans (hb2.mono Hb.out.size)).alloc (Nat.le_trans Hb.out.size hb2.size) (.cells #[.int .i64 2, .int .i64 3] 38)); clear hb2 hx2 PF)
    | (go_at_call 16; (with_reducible refine (PC.out _ _ _ H1.out).mono ?_); rintro e w3 ⟨A3, c3, rfl, hr3, hb3⟩; have H3 := Lib.hid hr3; replace H1 := Lib.hid (H1.out.upto hb3); replace HR := Lib.hid (HR.out.below hb3 HR.out.lt); replace Hb := Lib.hid (Hb.out.trans (hb3.mono Hb.out.size)); clear hb3 hr3 PC)
    | (go_at_call 14; (with_reducible refine (PK.out _ _ _ H1.out).mono ?_); rintro e w4 ⟨b4, o4, c4, rfl, hl4, hc4, hb4⟩; have Hl4 := Lib.hid hl4; have Hc4 := Lib.hid hc4; replace H1 := Lib.hid (H1.out.upto hb4); replace H3 := Lib.hid (H3.out.upto hb4); replace HR := Lib.hid (HR.out.below hb4 HR.out.lt); replace Hb := Lib.hid (Hb.out.trans (hb4.mono Hb.out.size)); clear hb4 hl4 hc4 PK)
    | (go_at_call 11; (with_reducible refine (PS.out _).mono ?_); rintro e w5 ⟨A5, c5, rfl, hr5, hb5⟩; have H5 := Lib.hid hr5; replace Hc4 := Lib.hid ((hb5.cell (p := ⟨b4, o4 + 6, none⟩) Hl4.out).trans Hc4.out); replace Hl4 := Lib.hid (Nat.lt_of_lt_of_le Hl4.out hb5.size); replace H1 := Lib.hid (H1.out.upto hb5); replace H3 := Lib.hid (H3.out.upto hb5); replace HR := Lib.hid (HR.out.below hb5 HR.out.lt); replace Hb := Lib.hid (Hb.out.trans (hb5.mono Hb.out.size)); clear hb5 hr5 PS)
    | (go_at_call 14; (with_reducible refine (PN.out _).mono ?_); rintro e w6 ⟨A6, c6, rfl, hr6, hb6⟩; replace Hc4 := Lib.hid ((hb6.cell (p := ⟨b4, o4 + 6, none⟩) Hl4.out).trans Hc4.out); replace Hl4 := Lib.hid (Nat.lt_of_lt_of_le Hl4.out hb6.size); replace H1 := Lib.hid (H1.out.upto hb6); replace H3 := Lib.hid (H3.out.upto hb6); replace H5 := Lib.hid (H5.out.upto hb6); replace HR := Lib.hid (HR.out.below hb6 HR.out.lt); replace Hb := Lib.hid (Hb.out.trans (hb6.mono Hb.out.size)); clear hb6 hr6 PN)
    | (go_at_call 13; (with_reducible refine (S1.out _ _ _ H1.out).mono ?_); rintro e w7 ⟨rfl, hb7⟩; replace Hc4 := Lib.hid ((hb7.cell (p := ⟨b4, o4 + 6, none⟩) Hl4.out).trans Hc4.out); replace Hl4 := Lib.hid (Nat.lt_of_lt_of_le Hl4.out hb7.size); replace H3 := Lib.hid (H3.out.upto hb7); replace H5 := Lib.hid (H5.out.upto hb7); have HR7 := HR.out.below hb7 HR.out.lt; obtain ⟨d1, d2, d3, d4⟩ := Blk.two HR7; replace Hb := Lib.hid (Hb.out.trans (hb7.mono Hb.out.size)); clear hb7 S1 H1 HR HR7)
    | (go_at_call 13; (with_reducible refine (S2.out _ _ _ H3.out).mono ?_); rintro e w8 ⟨rfl, hb8⟩; have x8 := (hb8.cell (p := ⟨b4, o4 + 6, none⟩) Hl4.out).trans Hc4.out; replace H5 := Lib.hid (H5.out.upto hb8); replace Hb := Lib.hid (Hb.out.trans (hb8.mono Hb.out.size)); clear hb8 S2 H3 d1 d2 d3 d4)
    | (go_at_call 13; (with_reducible refine (S3.out _ _ _ H5.out).mono ?_); rintro e w9 ⟨rfl, hb9⟩; replace Hb := Lib.hid (Hb.out.trans (hb9.mono Hb.out.size)); clear hb9 S3 H5))
  go_ret
  exact ⟨rfl, Hb.out⟩
end Go.Proofs.Ytngenehleelcmaa
