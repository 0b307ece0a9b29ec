/-
  Layer 19: the contracts of what landed.
-/
import Derived.Test.YtgoahcmgpjacjaaGreatFilW
import Derived.Laws.StructEq
namespace Go.Proofs.YtgoahcmgpjacjaaGreat
set_option linter.unusedSimpArgs false
set_option linter.unusedVariables false
open Go.ChangeShapes Go.WideShapes Go.ChangeAt Go.RowKit Go.Joins Go.Deep
set_option maxRecDepth 100000 in
set_option maxHeartbeats 2000000 in
theorem p_flleft_no (a b mark : List UInt8) (cut : Int) (w : World) (h : flpre (a, b) = false) :
    Calls Tryz.prog 80 #[.agg #[.string ⟨a.toArray⟩, .string ⟨b.toArray⟩], .int .i64 cut, .string ⟨mark.toArray⟩] w fun e w' => e = .returned (.string ⟨(flleft (a, b) cut mark).toArray⟩) ∧ Below w.heap.size w w' := by
  have hF : flleft (a, b) cut mark = if 0 < cut then b else a := by unfold flleft; rw [if_neg (by rw [h]; decide)]
  rw [hF]
  have P := fun W => p_flcp_any a b W
  rw [h, if_neg (by decide)] at P
  replace P := Lib.hid P
  clear hF h
  have Hf := Lib.hid (Blk.new w 78 #[.string ⟨a.toArray⟩, .string ⟨b.toArray⟩])
  have HBn := Lib.hid ((Below.refl w.heap.size w).alloc (Nat.le_refl _) (.cells #[.string ⟨a.toArray⟩, .string ⟨b.toArray⟩] 78))
  by_cases hc : 0 < cut
  · rw [if_pos hc]
    go_enter Tryz.func80, Tryz.ntmps80
    go_wp2_with (go_at_call 84; (with_reducible refine (P.out _).mono ?_); rintro e w1 ⟨rfl, hb1⟩; have Hf2 := Hf.out.below hb1 Hf.out.lt; have HB := Lib.hid (HBn.out.trans (hb1.mono HBn.out.size)); clear hb1 Hf; have xf0 := Hf2.cell 0; have xf1 := Hf2.cell 1; simp only [List.getElem?_toArray, List.getElem?_cons_zero, List.getElem?_cons_succ] at xf0 xf1)
    go_ret
    exact ⟨rfl, HB.out⟩
  · rw [if_neg hc]
    go_enter Tryz.func80, Tryz.ntmps80
    go_wp2_with (go_at_call 84; (with_reducible refine (P.out _).mono ?_); rintro e w1 ⟨rfl, hb1⟩; have Hf2 := Hf.out.below hb1 Hf.out.lt; have HB := Lib.hid (HBn.out.trans (hb1.mono HBn.out.size)); clear hb1 Hf; have xf0 := Hf2.cell 0; have xf1 := Hf2.cell 1; simp only [List.getElem?_toArray, List.getElem?_cons_zero, List.getElem?_cons_succ] at xf0 xf1)
    go_ret
    exact ⟨rfl, HB.out⟩
set_option maxRecDepth 100000 in
set_option maxHeartbeats 2000000 in
theorem p_flleft_yes (a b mark : List UInt8) (cut : Int) (w : World) (h : flpre (a, b) = true) (ha : a.length ≤ 1000000000) (hb : b.length ≤ 1000000000) (hm : mark.length ≤ 1000000000) :
    Calls Tryz.prog 80 #[.agg #[.string ⟨a.toArray⟩, .string ⟨b.toArray⟩], .int .i64 cut, .string ⟨mark.toArray⟩] w fun e w' => e = .returned (.string ⟨(flleft (a, b) cut mark).toArray⟩) ∧ Below w.heap.size w w' := by
  have hF : flleft (a, b) cut mark = a ++ ((b.drop a.length).take (fln (a, b) cut - flm (a, b) cut mark) ++ mark.drop (mark.length - flm (a, b) cut mark)) := by unfold flleft; rw [if_pos h]
  have hn := of_decide_eq_true h
  dsimp only at hn
  have HN := fln_le (a, b) cut hn.1
  dsimp only at HN
  obtain ⟨k, hk⟩ : ∃ k, fln (a, b) cut = k := ⟨_, rfl⟩
  obtain ⟨B, hB⟩ : ∃ B, b.drop a.length = B := ⟨_, rfl⟩
  have hBl : B.length = b.length - a.length := by rw [← hB, List.length_drop]
  have hgn : flgn (B.take k) mark = flm (a, b) cut mark := by unfold flgn flm; rw [hk, List.length_take]; omega
  have hG : flgF (B.take k) mark = (b.drop a.length).take (fln (a, b) cut - flm (a, b) cut mark) ++ mark.drop (mark.length - flm (a, b) cut mark) := by
    have hmm := flm_le (a, b) cut mark
    unfold flgF
    rw [hgn, hB, hk, List.take_take, List.length_take]
    congr 2
    omega
  rw [← hG] at hF
  have hGl : (flgF (B.take k) mark).length ≤ 2000000000 := by
    unfold flgF
    rw [List.length_append, List.length_take, List.length_drop, List.length_take]
    omega
  rw [hF]
  have P := fun W => p_flcp_any a b W
  rw [h, if_pos rfl, hB] at P
  replace P := Lib.hid P
  have Q := Lib.hid (fun W => p_flgarb_any (B.take k) mark W (by rw [List.length_take]; omega) hm)
  have hadd := fun W => fl_add a (flgF (B.take k) mark) (by omega) W
  have hsl := fun W => fl_head B k (by omega) W
  have hk2 : (k : Int) = if (B.length : Int) < cut then (B.length : Int) else if 0 < cut then cut else 0 := by
    rw [← hk]
    unfold fln
    dsimp only
    by_cases h1 : (B.length : Int) < cut
    · rw [if_pos h1, if_neg (show ¬ cut < (b.length : Int) - (a.length : Int) by omega)]
      omega
    · rw [if_neg h1]
      by_cases h2 : 0 < cut
      · rw [if_pos h2]
        by_cases h3 : cut < (b.length : Int) - (a.length : Int)
        · rw [if_pos h3]; omega
        · rw [if_neg h3]; omega
      · rw [if_neg h2]
        by_cases h3 : cut < (b.length : Int) - (a.length : Int)
        · rw [if_pos h3]; omega
        · rw [if_neg h3]; omega
  clear hF hG hgn HN hk hB
  generalize flgF (B.take k) mark = G at *
  generalize hT : B.take k = T at *
  have Hf := Lib.hid (Blk.new w 78 #[.string ⟨a.toArray⟩, .string ⟨b.toArray⟩])
  have HBn := Lib.hid ((Below.refl w.heap.size w).alloc (Nat.le_refl _) (.cells #[.string ⟨a.toArray⟩, .string ⟨b.toArray⟩] 78))
  clear ha hb hm hn hBl hGl h
  by_cases h1 : (B.length : Int) < cut <;> by_cases h2 : (0 : Int) < cut <;> by_cases h3 : (0 : Int) < (B.length : Int)
  · rw [if_pos h1] at hk2
    obtain rfl : k = B.length := by omega
    clear hk2
    go_enter Tryz.func80, Tryz.ntmps80
    go_wp2_with (go_at_call 84; (with_reducible refine (P.out _).mono ?_); rintro e w1 ⟨rfl, hb1⟩; have Hf2 := Hf.out.below hb1 Hf.out.lt; have HB := Lib.hid (HBn.out.trans (hb1.mono HBn.out.size)); clear hb1 Hf; have xf0 := Hf2.cell 0; have xf1 := Hf2.cell 1; simp only [List.getElem?_toArray, List.getElem?_cons_zero, List.getElem?_cons_succ] at xf0 xf1)
    have hlt : w.heap.size < w1.drew.heap.size := Hf2.lt
    go_region_with (go_at_call 85; (with_reducible refine (Q.out _).mono ?_); rintro e w2 ⟨rfl, hb2⟩; replace xf0 := (hb2.cell (p := ⟨w.heap.size, 0, none⟩) hlt).trans xf0; replace HB := Lib.hid (HB.out.drew.trans (hb2.mono HB.out.drew.size)); clear hb2)
    all_goals (go_wp2; go_ret; exact ⟨rfl, HB.out⟩)
  · rw [if_pos h1] at hk2
    obtain rfl : k = 0 := by omega
    have h4 : (B.length : Int) = 0 := by omega
    rw [List.take_zero] at hT
    subst hT
    replace Q : Hid (∀ W, Calls Tryz.prog 85 #[.string ByteArray.empty, .string ⟨mark.toArray⟩] W fun e w2 => e = .returned (.string ⟨G.toArray⟩) ∧ Below W.heap.size W w2) := Q
    clear hk2
    go_enter Tryz.func80, Tryz.ntmps80
    go_wp2_with (go_at_call 84; (with_reducible refine (P.out _).mono ?_); rintro e w1 ⟨rfl, hb1⟩; have Hf2 := Hf.out.below hb1 Hf.out.lt; have HB := Lib.hid (HBn.out.trans (hb1.mono HBn.out.size)); clear hb1 Hf; have xf0 := Hf2.cell 0; have xf1 := Hf2.cell 1; simp only [List.getElem?_toArray, List.getElem?_cons_zero, List.getElem?_cons_succ] at xf0 xf1)
    have hlt : w.heap.size < w1.drew.heap.size := Hf2.lt
    go_region_with (go_at_call 85; (with_reducible refine (Q.out _).mono ?_); rintro e w2 ⟨rfl, hb2⟩; replace xf0 := (hb2.cell (p := ⟨w.heap.size, 0, none⟩) hlt).trans xf0; replace HB := Lib.hid (HB.out.drew.trans (hb2.mono HB.out.drew.size)); clear hb2)
    all_goals (go_wp2; go_ret; exact ⟨rfl, HB.out⟩)
  · omega
  · omega
  · rw [if_neg h1, if_pos h2] at hk2
    subst hk2
    go_enter Tryz.func80, Tryz.ntmps80
    go_wp2_with (go_at_call 84; (with_reducible refine (P.out _).mono ?_); rintro e w1 ⟨rfl, hb1⟩; have Hf2 := Hf.out.below hb1 Hf.out.lt; have HB := Lib.hid (HBn.out.trans (hb1.mono HBn.out.size)); clear hb1 Hf; have xf0 := Hf2.cell 0; have xf1 := Hf2.cell 1; simp only [List.getElem?_toArray, List.getElem?_cons_zero, List.getElem?_cons_succ] at xf0 xf1)
    have hlt : w.heap.size < w1.drew.heap.size := Hf2.lt
    go_region_with (go_at_call 85; (with_reducible refine (Q.out _).mono ?_); rintro e w2 ⟨rfl, hb2⟩; replace xf0 := (hb2.cell (p := ⟨w.heap.size, 0, none⟩) hlt).trans xf0; replace HB := Lib.hid (HB.out.drew.trans (hb2.mono HB.out.drew.size)); clear hb2)
    all_goals (go_wp2; go_ret; exact ⟨rfl, HB.out⟩)
  · omega
  · rw [if_neg h1, if_neg h2] at hk2
    obtain rfl : k = 0 := by omega
    rw [List.take_zero] at hT
    subst hT
    replace Q : Hid (∀ W, Calls Tryz.prog 85 #[.string ByteArray.empty, .string ⟨mark.toArray⟩] W fun e w2 => e = .returned (.string ⟨G.toArray⟩) ∧ Below W.heap.size W w2) := Q
    clear hk2
    go_enter Tryz.func80, Tryz.ntmps80
    go_wp2_with (go_at_call 84; (with_reducible refine (P.out _).mono ?_); rintro e w1 ⟨rfl, hb1⟩; have Hf2 := Hf.out.below hb1 Hf.out.lt; have HB := Lib.hid (HBn.out.trans (hb1.mono HBn.out.size)); clear hb1 Hf; have xf0 := Hf2.cell 0; have xf1 := Hf2.cell 1; simp only [List.getElem?_toArray, List.getElem?_cons_zero, List.getElem?_cons_succ] at xf0 xf1)
    have hlt : w.heap.size < w1.drew.heap.size := Hf2.lt
    go_region_with (go_at_call 85; (with_reducible refine (Q.out _).mono ?_); rintro e w2 ⟨rfl, hb2⟩; replace xf0 := (hb2.cell (p := ⟨w.heap.size, 0, none⟩) hlt).trans xf0; replace HB := Lib.hid (HB.out.drew.trans (hb2.mono HB.out.drew.size)); clear hb2)
    all_goals (go_wp2; go_ret; exact ⟨rfl, HB.out⟩)
  · rw [if_neg h1, if_neg h2] at hk2
    obtain rfl : k = 0 := by omega
    rw [List.take_zero] at hT
    subst hT
    replace Q : Hid (∀ W, Calls Tryz.prog 85 #[.string ByteArray.empty, .string ⟨mark.toArray⟩] W fun e w2 => e = .returned (.string ⟨G.toArray⟩) ∧ Below W.heap.size W w2) := Q
    clear hk2
    go_enter Tryz.func80, Tryz.ntmps80
    go_wp2_with (go_at_call 84; (with_reducible refine (P.out _).mono ?_); rintro e w1 ⟨rfl, hb1⟩; have Hf2 := Hf.out.below hb1 Hf.out.lt; have HB := Lib.hid (HBn.out.trans (hb1.mono HBn.out.size)); clear hb1 Hf; have xf0 := Hf2.cell 0; have xf1 := Hf2.cell 1; simp only [List.getElem?_toArray, List.getElem?_cons_zero, List.getElem?_cons_succ] at xf0 xf1)
    have hlt : w.heap.size < w1.drew.heap.size := Hf2.lt
    go_region_with (go_at_call 85; (with_reducible refine (Q.out _).mono ?_); rintro e w2 ⟨rfl, hb2⟩; replace xf0 := (hb2.cell (p := ⟨w.heap.size, 0, none⟩) hlt).trans xf0; replace HB := Lib.hid (HB.out.drew.trans (hb2.mono HB.out.drew.size)); clear hb2)
    all_goals (go_wp2; go_ret; exact ⟨rfl, HB.out⟩)
set_option maxRecDepth 100000 in
set_option maxHeartbeats 2000000 in
theorem p_flleft_any (a b mark : List UInt8) (cut : Int) (w : World) (ha : a.length ≤ 1000000000) (hb : b.length ≤ 1000000000) (hm : mark.length ≤ 1000000000) :
    Calls Tryz.prog 80 #[.agg #[.string ⟨a.toArray⟩, .string ⟨b.toArray⟩], .int .i64 cut, .string ⟨mark.toArray⟩] w fun e w' => e = .returned (.string ⟨(flleft (a, b) cut mark).toArray⟩) ∧ Below w.heap.size w w' := by
  cases h : flpre (a, b) with
  | false => exact p_flleft_no a b mark cut w h
  | true => exact p_flleft_yes a b mark cut w h ha hb hm
set_option maxRecDepth 100000 in
set_option maxHeartbeats 2000000 in
theorem p_flapp_any (a b s : List UInt8) (w : World) (hb : b.length ≤ 1000000000) (hs : s.length ≤ 1000000000) :
    Calls Tryz.prog 46 #[.agg #[.string ⟨a.toArray⟩, .string ⟨b.toArray⟩], .string ⟨s.toArray⟩] w fun e w' => e = .returned (.tuple #[.agg (flc (flappF (a, b) s).1), .int .i64 (flappF (a, b) s).2]) ∧ Below w.heap.size w w' := by
  have hw : IntKind.i64.wrap ((1000000 : Int) - (s.length : Int)) = 1000000 - (s.length : Int) := by rw [IntKind.wrap_i64]; omega
  by_cases h : 1000000 < b.length + s.length
  · rw [show flappF (a, b) s = (([], []), 3) from if_pos h]
    have hi : 1000000 - (s.length : Int) < (b.length : Int) := by omega
    dsimp only
    go_enter Tryz.func46, Tryz.ntmps46
    go_wp2
    refine bodyPost_ret (v := .tuple #[.agg (flc ([], [])), .int .i64 3]) (by simp [results, Tryz.results46, go_sem]) rfl ⟨rfl, by go_grown⟩
  · rw [show flappF (a, b) s = ((a, b ++ s), 0) from if_neg h]
    have hi : ¬ 1000000 - (s.length : Int) < (b.length : Int) := by omega
    have hadd := fun W => fl_add b s (by omega) W
    dsimp only
    generalize b ++ s = c at *
    go_enter Tryz.func46, Tryz.ntmps46
    go_wp2
    refine bodyPost_ret (v := .tuple #[.agg (flc (a, c)), .int .i64 0]) (by simp [results, Tryz.results46, go_sem]) rfl ⟨rfl, by go_grown⟩
set_option maxRecDepth 100000 in
set_option maxHeartbeats 2000000 in
theorem p_flsync_any (a b : List UInt8) (w : World) :
    Calls Tryz.prog 49 #[.agg #[.string ⟨a.toArray⟩, .string ⟨b.toArray⟩]] w fun e w' => e = .returned (.agg (flc (b, b))) ∧ Below w.heap.size w w' := by
  go_enter Tryz.func49, Tryz.ntmps49
  go_wp2
  refine bodyPost_ret (v := .agg (flc (b, b))) (by simp [results, Tryz.results49, go_sem]) rfl ⟨rfl, by go_grown⟩
set_option maxRecDepth 100000 in
set_option maxHeartbeats 2000000 in
theorem p_flcut_any (a b : List UInt8) (n : Int) (w : World) :
    Calls Tryz.prog 66 #[.agg #[.string ⟨a.toArray⟩, .string ⟨b.toArray⟩], .int .i64 n] w fun e w' => e = .returned (.tuple #[.agg (flc (flcutF (a, b) n).1), .int .i64 (flcutF (a, b) n).2]) ∧ Below w.heap.size w w' := by
  by_cases h : n < 0
  · rw [show flcutF (a, b) n = (([], []), 2) from if_pos (.inl h)]
    dsimp only
    go_enter Tryz.func66, Tryz.ntmps66
    go_wp2
    refine bodyPost_ret (v := .tuple #[.agg (flc ([], [])), .int .i64 2]) (by simp [results, Tryz.results66, go_sem]) rfl ⟨rfl, by go_grown⟩
  by_cases h2 : (b.length : Int) < n
  · rw [show flcutF (a, b) n = (([], []), 2) from if_pos (.inr h2)]
    dsimp only
    go_enter Tryz.func66, Tryz.ntmps66
    go_wp2
    refine bodyPost_ret (v := .tuple #[.agg (flc ([], [])), .int .i64 2]) (by simp [results, Tryz.results66, go_sem]) rfl ⟨rfl, by go_grown⟩
  · rw [show flcutF (a, b) n = ((a, b.take n.toNat), 0) from if_neg (by dsimp only; omega)]
    obtain ⟨k, rfl⟩ := Int.eq_ofNat_of_zero_le (show 0 ≤ n by omega)
    rw [Int.toNat_natCast]
    have hsl := fun W => fl_head b k (by omega) W
    dsimp only
    generalize b.take k = c at *
    go_enter Tryz.func66, Tryz.ntmps66
    go_wp2
    go_region
    all_goals go_wp2
    all_goals refine bodyPost_ret (v := .tuple #[.agg (flc (a, c)), .int .i64 0]) (by simp [results, Tryz.results66, go_sem]) rfl ⟨rfl, by go_grown⟩
theorem fl_equal (a b a' b' : List UInt8) (w : World) : (Op.equalIn 10000 78 (.agg #[.string ⟨a.toArray⟩, .string ⟨b.toArray⟩]) (.agg #[.string ⟨a'.toArray⟩, .string ⟨b'.toArray⟩])).run Tryz.prog w = .ok (decide (a = a' ∧ b = b')) w := by
  by_cases h1 : a = a' <;> by_cases h2 : b = b' <;> simp [go_sem, h1, h2]
theorem fl_guard : Tryz.prog.eqGuardType Tryz.prog.depth 78 = false := by kernel_rfl
theorem fl_stored2 {W : World} {g : Nat} {t : TypeId} {x0 x1 : Value} (h : Blk W g t #[x0, x1]) (a b : Value) :
    (W.setCell ⟨g, 0, none⟩ a).cell? ⟨g, 0, none⟩ = some a ∧ ((W.setCell ⟨g, 0, none⟩ a).setCell ⟨g, 1, none⟩ b).cell? ⟨g, 1, none⟩ = some b ∧ Below g W ((W.setCell ⟨g, 0, none⟩ a).setCell ⟨g, 1, none⟩ b) :=
  ⟨(h.set_ 0 a).cell 0, ((h.set_ 0 a).set_ 1 b).cell 1, ((Below.refl g W).setCell (p := ⟨g, 0, none⟩) (Nat.le_refl _) _).setCell (p := ⟨g, 1, none⟩) (Nat.le_refl _) _⟩
set_option maxRecDepth 100000 in
set_option maxHeartbeats 2000000 in
theorem p_flfall_any (a b mark : List UInt8) (cut : Int) (w : World) (ha : a.length ≤ 1000000000) (hb : b.length ≤ 1000000000) (hm : mark.length ≤ 1000000000) :
    Calls Tryz.prog 72 #[.agg #[.string ⟨a.toArray⟩, .string ⟨b.toArray⟩], .int .i64 cut, .string ⟨mark.toArray⟩] w fun e w' => e = .returned (.agg (flc (flleft (a, b) cut mark, flleft (a, b) cut mark))) ∧ Below w.heap.size w w' := by
  have P := Lib.hid (fun W => p_flleft_any a b mark cut W ha hb hm)
  have Q := Lib.hid (fun W => p_flsync_any [] (flleft (a, b) cut mark) W)
  unfold flc at Q ⊢
  clear ha hb hm
  generalize flleft (a, b) cut mark = L at *
  dsimp only at Q ⊢
  have HR := Blk.new (w.alloc (.cells #[.string ⟨a.toArray⟩, .string ⟨b.toArray⟩] 78)) 78 #[.string ⟨#[]⟩, .string ⟨#[]⟩]
  rw [World.size_alloc] at HR
  replace HR := Lib.hid HR
  have HBn := Lib.hid (((Below.refl w.heap.size w).alloc (Nat.le_refl _) (.cells #[.string ⟨a.toArray⟩, .string ⟨b.toArray⟩] 78)).alloc (by rw [World.size_alloc]; omega) (.cells #[.string ⟨#[]⟩, .string ⟨#[]⟩] 78))
  go_enter Tryz.func72, Tryz.ntmps72
  go_wp2_with (first
    | (go_at_call 80; (with_reducible refine (P.out _).mono ?_); rintro e w1 ⟨rfl, hb1⟩; have HB := Lib.hid (hb1); clear hb1)
    | (go_at_call 49; (with_reducible refine (Q.out _).mono ?_); rintro e w2 ⟨rfl, hb2⟩; have Hg := (HR.out.below HB.out HR.out.lt).below hb2 (HR.out.below HB.out HR.out.lt).lt; have xg0 := Hg.cell 0; have xg1 := Hg.cell 1; have yg0 := Hg.frozen 0; have yg1 := Hg.frozen 1; simp only [List.getElem?_toArray, List.getElem?_cons_zero, List.getElem?_cons_succ] at xg0 xg1; have HH := Lib.hid Hg; have HB2 := Lib.hid ((HBn.out.trans (HB.out.mono HBn.out.size)).trans (hb2.mono (HBn.out.trans (HB.out.mono HBn.out.size)).size)); clear hb2 Hg))
  obtain ⟨q0, q1, q2⟩ := fl_stored2 HH.out (.string ⟨L.toArray⟩) (.string ⟨L.toArray⟩)
  refine bodyPost_ret (v := .agg #[.string ⟨L.toArray⟩, .string ⟨L.toArray⟩]) (by simp [results, Tryz.results72, go_sem, q0, q1]) rfl ⟨rfl, HB2.out.trans (q2.mono ?_)⟩
  exact Nat.le_succ _
set_option maxRecDepth 100000 in
set_option maxHeartbeats 2000000 in
theorem p_flloose_any (a b : List UInt8) (w : World) :
    Calls Tryz.prog 71 #[.agg #[.string ⟨a.toArray⟩, .string ⟨b.toArray⟩]] w fun e w' => e = .returned (.bool (decide (a ≠ b))) ∧ Below w.heap.size w w' := by
  have P := Lib.hid (fun W => p_flsync_any a b W)
  unfold flc at P
  dsimp only at P
  have heq := fun W => fl_equal a b b b W
  have hgu := fl_guard
  have hq : decide (a ≠ b) = !(decide (a = b ∧ b = b)) := by by_cases h : a = b <;> simp [h]
  rw [hq]
  clear hq
  generalize decide (a = b ∧ b = b) = q at *
  have Hf := Lib.hid (Blk.new w 78 #[.string ⟨a.toArray⟩, .string ⟨b.toArray⟩])
  have HB := Lib.hid (((Below.refl w.heap.size w).alloc (Nat.le_refl _) (.cells #[.string ⟨a.toArray⟩, .string ⟨b.toArray⟩] 78)).drew)
  go_enter Tryz.func71, Tryz.ntmps71
  go_wp2
  go_region_with (go_at_call 49; (with_reducible refine (P.out _).mono ?_); rintro e w2 ⟨rfl, hb2⟩; have Hg := Hf.out.drew.below hb2 Hf.out.lt; have xf0 := Hg.cell 0; have xf1 := Hg.cell 1; simp only [List.getElem?_toArray, List.getElem?_cons_zero, List.getElem?_cons_succ] at xf0 xf1; replace HB := Lib.hid (HB.out.trans (hb2.mono HB.out.size)); clear hb2)
  all_goals (go_wp2; go_ret; exact ⟨rfl, HB.out⟩)
end Go.Proofs.YtgoahcmgpjacjaaGreat
