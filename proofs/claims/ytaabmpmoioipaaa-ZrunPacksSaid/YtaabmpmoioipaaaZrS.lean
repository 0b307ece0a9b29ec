/-
  Layer 7: what the document's own Count and Pack return.
-/
import Derived.Test.YtaabmpmoioipaaaZrR
namespace Go.Proofs.Ytaabmpmoioipaaa
set_option linter.unusedSimpArgs false
set_option linter.unusedVariables false
open Go.ChangeShapes Go.WideShapes Go.ChangeAt Go.RowKit Go.Joins Go.Deep Go.Shelf

theorem zct_end_cons (d : List Int) (s : Int) (t : List Int) (h : ¬(0 ≤ s ∧ s ≤ 1)) : zct d (s :: t) = zv d + zone s + zct [] t := by
  conv => lhs; unfold zct
  rw [if_neg h]
  rfl
theorem zct_more (d : List Int) (s : Int) (t : List Int) (h : 0 ≤ s ∧ s ≤ 1) : zct d (s :: t) = zct (d ++ [s]) t := by
  conv => lhs; unfold zct
  rw [if_pos h]

/-- A row that has one number more. -/
theorem zown_more {w : World} {B : Nat} {v : Value} {D : List Int} {x : Int} {n : Nat} (h : w.ownsRow B 3 1 v n ((ints D) ++ [.int .i64 x])) : w.ownsRow B 3 1 v n (ints (D ++ [x])) := by
  simpa [ints] using h

set_option maxRecDepth 100000 in
set_option maxHeartbeats 4000000 in
theorem zref_count_any (l : List Int) (A : Option Addr) (n c : Nat) (w : World) (hm : n ≤ 1000000) (hr : Reads w w.heap.size 1 A n (ints l)) :
    Calls Try.prog 16 #[.slice A n c] w fun e w' => e = .returned (.int .i64 (zcountF l : Int)) ∧ Below w.heap.size w w' := by
  obtain ⟨i0, hi, hz0, hz1, hz2⟩ := info_parts zint_info
  have en : l.length = n := by have := hr.1; rw [ints_length] at this; omega
  have Hcell : Hid (0 < n → ∃ b off, A = some ⟨b, off, none⟩ ∧ ∀ wr, Below w.heap.size w wr → ∀ k, (hk : k < l.length) → wr.cell? ⟨b, off + k, none⟩ = some (.int .i64 l[k])) := Lib.hid fun h => by
    obtain ⟨b, off, e, hb, hc⟩ := hr.2 h
    exact ⟨b, off, e, fun wr hw k hk => (hw.cell (p := ⟨b, off + k, none⟩) hb).trans (hc k _ (ints_get l k hk))⟩
  obtain ⟨T, hT⟩ : ∃ T, zcountF l = T := ⟨_, rfl⟩
  have Hstart : Hid (min (0 + zct [] (l.drop 0)) 100001 = T) := Lib.hid (by rw [← hT, Nat.zero_add]; rfl)
  rw [hT]
  have En := Lib.hid en
  have hnn : (n : Int) ≤ 1000000 := by omega
  clear hr hT en
  go_enter Try.func16, Try.ntmps16
  go_wp2
  go_loopw [3, 4, 5] (fun a v i wr => ∃ (k s : Nat) (d : List Int), k ≤ n + 1 ∧ s ≤ 100001 ∧ a = .int .i64 s ∧ i = .int .i64 k ∧ Hid (d.length ≤ k ∧ (k = n + 1 → d = []) ∧ zgood 1 d = true ∧ min (s + zct d (l.drop k)) 100001 = T) ∧ Hid (wr.ownsRow w.heap.size 3 1 v d.length (ints (d.map (· + 1)))) ∧ Hid (Below w.heap.size w wr)) (fun _ _ i _ => n + 1 - (intOf i).toNat)
  case atStart => exact ⟨0, 0, [], by omega, by omega, rfl, rfl, Lib.hid ⟨Nat.le_refl _, fun _ => rfl, rfl, Hstart.out⟩, World.ownsRow_nil _ _ _ _, Below.refl _ _⟩
  case round =>
    obtain ⟨k, s, d, hk, hs, rfl, rfl, Hd, Hown, Hb⟩ := hrel
    have hszr := Hb.out.size
    by_cases hlt : k < n
    · have hki : (0 : Int) ≤ (k : Int) ∧ (k : Int) < n ∧ (k : Int) ≤ n := by omega
      have hkl : k < l.length := by rw [En.out]; exact hlt
      obtain ⟨b, off, rfl, hcell⟩ := Hcell.out (by omega)
      have hx := hcell wr Hb.out k hkl
      have hdrop : l.drop k = l[k] :: l.drop (k + 1) := List.drop_eq_getElem_cons hkl
      have hd := Hd.out
      rw [hdrop] at hd
      have hdl := hd.1
      have hval : ∀ A c W, Reads W W.heap.size 1 A d.length (ints (d.map (· + 1))) → Calls Try.prog 25 #[.slice A d.length c] W fun e w' => e = .returned (.int .i64 (zval d : Int)) ∧ w' = W := fun A c W h => zref_value_any d hd.2.2.1 A _ c W (by omega) h
      have Hval := Lib.hid hval
      clear hcell hval Hd
      by_cases hin : 0 ≤ l[k] ∧ l[k] ≤ 1
      · rw [zct_more _ _ _ hin] at hd
        have Hd2 : Hid ((d ++ [l[k]]).length ≤ k + 1 ∧ (k + 1 = n + 1 → d ++ [l[k]] = []) ∧ zgood 1 (d ++ [l[k]]) = true ∧ min (s + zct (d ++ [l[k]]) (l.drop (k + 1))) 100001 = T) := Lib.hid ⟨by rw [List.length_append]; simp; omega, fun h => by omega, by rw [zgood_app, zgood_cons]; exact ⟨hd.2.2.1, hin, rfl⟩, hd.2.2.2⟩
        clear hd hdrop
        generalize l[k] = x at *
        have hmapx : (d ++ [x]).map (· + 1) = d.map (· + 1) ++ [x + 1] := by simp
        have Hown0 := Lib.hid hmapx
        have hlen : d.length ≤ 1000000 := by omega
        have hDl : (d.map (· + 1)).length = d.length := List.length_map ..
        have HDl := Lib.hid hDl
        clear hDl
        clear hmapx
        generalize d.map (· + 1) = D at *
        have hx01 : x = 0 ∨ x = 1 := by omega
        rcases hx01 with rfl | rfl
        · go_wp2_with (at_builtin; refine wpList_append_sep _ rfl _ _ 22 rfl w.heap.size 3 i0 (.int .i64 0) 1 8 Try.underlying22 hi hz0 hz1 hz2 rfl (by decide) _ _ _ rfl (Hown.out.alloc _) _ 1 1 _ _ rfl (reads_new wr 3 #[.int .i64 1] 1 1 rfl) ?c1 ?c2 ?c3 ?c4 ?_)
          case c1 => exact rfl
          case c2 => unfold maxLen; omega
          case c3 => omega
          case c4 => simp; omega
          intro v2 w2 hown2 hgrow hsep
          have Hb2 : Hid (Below w.heap.size w w2) := Lib.hid ((Hb.out.trans ((Below.refl _ _).alloc hszr _)).grown hgrow (by simp; omega) (fun g hg => (Hown.out.lt g hg).1))
          have Hown2 : Hid (w2.ownsRow w.heap.size 3 1 v2 (d ++ [(0 : Int)]).length (ints ((d ++ [(0 : Int)]).map (· + 1)))) := Lib.hid (by
            rw [Hown0.out, List.length_append]
            exact zown_more hown2)
          clear hown2 hgrow hsep
          go_wp2
          go_roundw
          case rel => exact ⟨k + 1, s, d ++ [0], by omega, hs, rfl, iv (by omega), Hd2.out, Hown2.out, Hb2.out⟩
          case measure => simp only [intOf]; omega
        · go_wp2_with (at_builtin; refine wpList_append_sep _ rfl _ _ 22 rfl w.heap.size 3 i0 (.int .i64 0) 1 8 Try.underlying22 hi hz0 hz1 hz2 rfl (by decide) _ _ _ rfl (Hown.out.alloc _) _ 1 1 _ _ rfl (reads_new wr 3 #[.int .i64 2] 1 1 rfl) ?c1 ?c2 ?c3 ?c4 ?_)
          case c1 => exact rfl
          case c2 => unfold maxLen; omega
          case c3 => omega
          case c4 => simp; omega
          intro v2 w2 hown2 hgrow hsep
          have Hb2 : Hid (Below w.heap.size w w2) := Lib.hid ((Hb.out.trans ((Below.refl _ _).alloc hszr _)).grown hgrow (by simp; omega) (fun g hg => (Hown.out.lt g hg).1))
          have Hown2 : Hid (w2.ownsRow w.heap.size 3 1 v2 (d ++ [(1 : Int)]).length (ints ((d ++ [(1 : Int)]).map (· + 1)))) := Lib.hid (by
            rw [Hown0.out, List.length_append]
            exact zown_more hown2)
          clear hown2 hgrow hsep
          go_wp2
          go_roundw
          case rel => exact ⟨k + 1, s, d ++ [1], by omega, hs, rfl, iv (by omega), Hd2.out, Hown2.out, Hb2.out⟩
          case measure => simp only [intOf]; omega
      · rw [zct_end_cons _ _ _ hin] at hd
        obtain ⟨A2, c2, rfl, hc2, hr2⟩ := owns_cells Hown.out
        have Hv2 := Lib.hid (Hval.out A2 c2 wr hr2)
        have hzv : zval d ≤ 100001 := by unfold zval; omega
        have hv1 : min (zv d) 100001 = zval d := rfl
        have hdt := hd.2.2.2
        have hx0 : ¬ l[k] = 0 := by omega
        have hx1 : ¬ l[k] = 1 := by omega
        generalize zval d = z at *
        have hfin : ∀ s2 : Nat, s2 = min (s + z + zone l[k]) 100001 → min (s2 + zct [] (l.drop (k + 1))) 100001 = T := fun s2 h => by omega
        have Hfin := Lib.hid hfin
        have hzi : (0 : Int) ≤ (z : Int) ∧ (z : Int) ≤ 100001 ∧ (0 : Int) ≤ (s : Int) ∧ (s : Int) ≤ 100001 := by omega
        have HS : Hid ((s : Int) = (s : Int) ∧ (z : Int) = (z : Int)) := Lib.hid ⟨rfl, rfl⟩
        clear hd hdrop hdt hv1 hr2 hfin
        obtain ⟨S, hS⟩ : ∃ S : Int, (s : Int) = S := ⟨_, rfl⟩
        obtain ⟨Z, hZ⟩ : ∃ Z : Int, (z : Int) = Z := ⟨_, rfl⟩
        rw [hZ] at Hv2 hzi
        rw [hS] at hzi ⊢
        have HSZ := Lib.hid (And.intro hS hZ)
        have Hs := Lib.hid hs
        have Hzv := Lib.hid hzv
        clear hS hZ HS hs hzv
        by_cases h2 : 2 ≤ l[k]
        · by_cases h256 : l[k] ≤ 256
          · have e1 : zone l[k] = 1 := by unfold zone; rw [if_pos ⟨h2, h256⟩]
            rw [e1] at Hfin
            clear e1
            generalize l[k] = x at *
            have hb0 : (x == 0) = false := by simpa using hx0
            have hb1 : (x == 1) = false := by simpa using hx1
            by_cases hcap : (100001 : Int) < S + Z + 1
            · go_wp2_with (go_at_call 25; refine Hv2.out.mono ?_; rintro e w1 ⟨rfl, rfl⟩)
              go_roundw
              case rel => exact ⟨k + 1, 100001, [], by omega, by omega, rfl, iv (by omega), Lib.hid ⟨by simp, fun _ => rfl, rfl, Hfin.out 100001 (by have := HSZ.out; omega)⟩, World.ownsRow_nil _ _ _ _, Hb.out⟩
              case measure => simp only [intOf]; omega
            · go_wp2_with (go_at_call 25; refine Hv2.out.mono ?_; rintro e w1 ⟨rfl, rfl⟩)
              go_roundw
              case rel => exact ⟨k + 1, s + z + 1, [], by omega, by have := HSZ.out; omega, iv (by have := HSZ.out; omega), iv (by omega), Lib.hid ⟨by simp, fun _ => rfl, rfl, Hfin.out (s + z + 1) (by have := HSZ.out; omega)⟩, World.ownsRow_nil _ _ _ _, Hb.out⟩
              case measure => simp only [intOf]; omega
          · have e1 : zone l[k] = 0 := by unfold zone; rw [if_neg (by omega)]
            rw [e1] at Hfin
            clear e1
            generalize l[k] = x at *
            have hb0 : (x == 0) = false := by simpa using hx0
            have hb1 : (x == 1) = false := by simpa using hx1
            by_cases hcap : (100001 : Int) < S + Z
            · go_wp2_with (go_at_call 25; refine Hv2.out.mono ?_; rintro e w1 ⟨rfl, rfl⟩)
              go_roundw
              case rel => exact ⟨k + 1, 100001, [], by omega, by omega, rfl, iv (by omega), Lib.hid ⟨by simp, fun _ => rfl, rfl, Hfin.out 100001 (by have := HSZ.out; omega)⟩, World.ownsRow_nil _ _ _ _, Hb.out⟩
              case measure => simp only [intOf]; omega
            · go_wp2_with (go_at_call 25; refine Hv2.out.mono ?_; rintro e w1 ⟨rfl, rfl⟩)
              go_roundw
              case rel => exact ⟨k + 1, s + z, [], by omega, by have := HSZ.out; omega, iv (by have := HSZ.out; omega), iv (by omega), Lib.hid ⟨by simp, fun _ => rfl, rfl, Hfin.out (s + z) (by have := HSZ.out; omega)⟩, World.ownsRow_nil _ _ _ _, Hb.out⟩
              case measure => simp only [intOf]; omega
        · have e1 : zone l[k] = 0 := by unfold zone; rw [if_neg (by omega)]
          rw [e1] at Hfin
          clear e1
          generalize l[k] = x at *
          have hb0 : (x == 0) = false := by simpa using hx0
          have hb1 : (x == 1) = false := by simpa using hx1
          by_cases hcap : (100001 : Int) < S + Z
          · go_wp2_with (go_at_call 25; refine Hv2.out.mono ?_; rintro e w1 ⟨rfl, rfl⟩)
            go_roundw
            case rel => exact ⟨k + 1, 100001, [], by omega, by omega, rfl, iv (by omega), Lib.hid ⟨by simp, fun _ => rfl, rfl, Hfin.out 100001 (by have := HSZ.out; omega)⟩, World.ownsRow_nil _ _ _ _, Hb.out⟩
            case measure => simp only [intOf]; omega
          · go_wp2_with (go_at_call 25; refine Hv2.out.mono ?_; rintro e w1 ⟨rfl, rfl⟩)
            go_roundw
            case rel => exact ⟨k + 1, s + z, [], by omega, by have := HSZ.out; omega, iv (by have := HSZ.out; omega), iv (by omega), Lib.hid ⟨by simp, fun _ => rfl, rfl, Hfin.out (s + z) (by have := HSZ.out; omega)⟩, World.ownsRow_nil _ _ _ _, Hb.out⟩
            case measure => simp only [intOf]; omega
    · rcases Nat.lt_or_ge n k with hgt | hge
      · obtain rfl : k = n + 1 := by omega
        obtain ⟨-, h1, -, h2⟩ := Hd.out
        have h3 := h1 rfl
        subst h3
        rw [List.drop_of_length_le (by have := En.out; omega)] at h2
        have Hs : Hid (s = T) := Lib.hid (by simp [zct, zv] at h2; omega)
        have hgi : (n : Int) < ((n + 1 : Nat) : Int) := by omega
        clear h1 h2 Hd
        go_wp2
        go_ret
        exact ⟨by rw [← Hs.out]; rfl, Hb.out⟩
      · obtain rfl : k = n := by omega
        obtain ⟨h0, -, h1, h2⟩ := Hd.out
        rw [List.drop_of_length_le (by have := En.out; omega)] at h2
        have h2' : min (s + zv d) 100001 = T := h2
        obtain ⟨A2, c2, rfl, hc2, hr2⟩ := owns_cells Hown.out
        have Hv2 := Lib.hid (zref_value_any d h1 A2 _ c2 wr (by omega) hr2)
        have hzv : zval d ≤ 100001 := by unfold zval; omega
        have hv1 : min (zv d) 100001 = zval d := rfl
        generalize zval d = z at *
        have hfin : ∀ s2 : Nat, s2 = min (s + z) 100001 → min (s2 + zct [] (l.drop (k + 1))) 100001 = T := fun s2 h => by rw [List.drop_of_length_le (by have := En.out; omega)]; simp [zct, zv]; omega
        have Hfin := Lib.hid hfin
        have hzi : (0 : Int) ≤ (z : Int) ∧ (z : Int) ≤ 100001 ∧ (0 : Int) ≤ (s : Int) ∧ (s : Int) ≤ 100001 := by omega
        have HS : Hid ((s : Int) = (s : Int) ∧ (z : Int) = (z : Int)) := Lib.hid ⟨rfl, rfl⟩
        clear h0 h1 h2 h2' hr2 hv1 hfin Hd
        obtain ⟨S, hS⟩ : ∃ S : Int, (s : Int) = S := ⟨_, rfl⟩
        obtain ⟨Z, hZ⟩ : ∃ Z : Int, (z : Int) = Z := ⟨_, rfl⟩
        rw [hZ] at Hv2 hzi
        rw [hS] at hzi ⊢
        have HSZ := Lib.hid (And.intro hS hZ)
        have Hs := Lib.hid hs
        have Hzv := Lib.hid hzv
        clear hS hZ HS hs hzv
        by_cases hcap : (100001 : Int) < S + Z
        · go_wp2_with (go_at_call 25; refine Hv2.out.mono ?_; rintro e w1 ⟨rfl, rfl⟩)
          go_roundw
          case rel => exact ⟨k + 1, 100001, [], by omega, by omega, rfl, iv (by omega), Lib.hid ⟨by simp, fun _ => rfl, rfl, Hfin.out 100001 (by have := HSZ.out; omega)⟩, World.ownsRow_nil _ _ _ _, Hb.out⟩
          case measure => simp only [intOf]; omega
        · go_wp2_with (go_at_call 25; refine Hv2.out.mono ?_; rintro e w1 ⟨rfl, rfl⟩)
          go_roundw
          case rel => exact ⟨k + 1, s + z, [], by omega, by have := HSZ.out; omega, iv (by have := HSZ.out; omega), iv (by omega), Lib.hid ⟨by simp, fun _ => rfl, rfl, Hfin.out (s + z) (by have := HSZ.out; omega)⟩, World.ownsRow_nil _ _ _ _, Hb.out⟩
          case measure => simp only [intOf]; omega
end Go.Proofs.Ytaabmpmoioipaaa
