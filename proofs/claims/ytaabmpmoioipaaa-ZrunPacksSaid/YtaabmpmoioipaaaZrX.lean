/-
  Layer 7: what the document's own Unpack returns, for every list.
-/
import Derived.Test.YtaabmpmoioipaaaZrT
namespace Go.Proofs.Ytaabmpmoioipaaa
set_option linter.unusedSimpArgs false
set_option linter.unusedVariables false
open Go.ChangeShapes Go.WideShapes Go.ChangeAt Go.RowKit Go.Joins Go.Deep Go.Shelf

theorem zun_more (d : List Int) (s : Int) (t : List Int) (h : 0 ≤ s ∧ s ≤ 1) : zun d (s :: t) = zun (d ++ [s]) t := by
  conv => lhs; unfold zun
  rw [if_pos h]
theorem zun_other (d : List Int) (s : Int) (t : List Int) (h : ¬(0 ≤ s ∧ s ≤ 1)) : zun d (s :: t) = List.replicate (zv d) 0 ++ (s - 1) :: zun [] t := by
  conv => lhs; unfold zun
  rw [if_neg h]
theorem zunF_no (l : List Int) (most : Int) (k : Nat) (hk : k < l.length) (h : ¬(0 ≤ l[k] ∧ l[k] ≤ 256)) : zunF l most = ([], 70) := by
  unfold zunF
  rw [zgood_bad k hk h]
  rfl

set_option maxRecDepth 100000 in
set_option maxHeartbeats 8000000 in
theorem zref_unpack_any (l : List Int) (most : Int) (A : Option Addr) (n c : Nat) (w : World) (hm : n ≤ 1000000) (hr : Reads w w.heap.size 1 A n (ints l)) :
    Calls Try.prog 14 #[.slice A n c, .int .i64 most] w fun e w' => ∃ A' c', e = .returned (.tuple #[.slice A' (zunF l most).1.length c', .int .i64 (zunF l most).2]) ∧ (zunF l most).1.length ≤ c' ∧ Reads w' w'.heap.size 1 A' (zunF l most).1.length (ints (zunF l most).1) ∧ Below w.heap.size w w' := by
  obtain ⟨i0, hi, hz0, hz1, hz2⟩ := info_parts zint_info
  have en : l.length = n := by have := hr.1; rw [ints_length] at this; omega
  have Hcell : Hid (0 < n → ∃ b off, A = some ⟨b, off, none⟩ ∧ ∀ wr, Below w.heap.size w wr → ∀ k, (hk : k < l.length) → wr.cell? ⟨b, off + k, none⟩ = some (.int .i64 l[k])) := Lib.hid fun h => by
    obtain ⟨b, off, e, hb, hc⟩ := hr.2 h
    exact ⟨b, off, e, fun wr hw k hk => (hw.cell (p := ⟨b, off + k, none⟩) hb).trans (hc k _ (ints_get l k hk))⟩
  have Hcount := Lib.hid (zref_count_any l A n c w hm hr)
  have Hbad : Hid (∀ k (hk : k < l.length), ¬(0 ≤ l[k] ∧ l[k] ≤ 256) → zunF l most = ([], 70)) := Lib.hid (zunF_no l most)
  have Hbig : Hid (zgood 256 l = true → ((zcountF l : Int) > most ∨ (zcountF l : Int) > 100000) → zunF l most = ([], 3)) := Lib.hid fun h h2 => by unfold zunF; rw [if_pos h, if_pos h2]
  have Hok : Hid (zgood 256 l = true → ¬((zcountF l : Int) > most ∨ (zcountF l : Int) > 100000) → zunF l most = (zun [] l, 0) ∧ (zun [] l).length ≤ 100000) := Lib.hid fun h h2 => by
    refine ⟨by unfold zunF; rw [if_pos h, if_neg h2], ?_⟩
    rw [zun_len l [] h]
    unfold zcountF at h2
    omega
  have En := Lib.hid en
  have hnn : (n : Int) ≤ 1000000 := by omega
  have Hstart : Hid ([] ++ zun [] (l.drop 0) = zun [] l) := Lib.hid rfl
  clear hr en
  generalize zunF l most = F at *
  generalize zun [] l = T at *
  generalize (zcountF l : Int) = C at *
  go_enter Try.func14, Try.ntmps14
  go_wp2
  go_loop [6] (fun i => ∃ k : Nat, k ≤ n ∧ i = .int .i64 k ∧ Hid (zgood 256 (l.take k) = true)) (fun i => n - (intOf i).toNat)
  case atStart => exact ⟨0, by omega, rfl, rfl⟩
  case round =>
    obtain ⟨k, hk, rfl, Hg⟩ := hrel
    by_cases hlt : k < n
    · have hki : (0 : Int) ≤ (k : Int) ∧ (k : Int) < n := by omega
      have hkl : k < l.length := by rw [En.out]; exact hlt
      obtain ⟨b, off, rfl, hcell⟩ := Hcell.out (by omega)
      have hx := hcell w (Below.refl _ _) k hkl
      have Htk : Hid (0 ≤ l[k] ∧ l[k] ≤ 256 → zgood 256 (l.take (k + 1)) = true) := Lib.hid fun h => by
        rw [List.take_succ_eq_append_getElem hkl, zgood_app, zgood_cons]
        exact ⟨Hg.out, h, rfl⟩
      have Hb70 := Lib.hid (Hbad.out k hkl)
      clear hcell Hbad
      generalize l[k] = x at *
      by_cases hneg : x < 0
      · have Hf := Lib.hid (Hb70.out (by omega))
        go_wp2
        go_ret2
        rw [Hf.out]
        exact ⟨none, 0, rfl, Nat.le_refl _, Reads.none_, Below.refl _ _⟩
      · by_cases hbig : 256 < x
        · have Hf := Lib.hid (Hb70.out (by omega))
          go_wp2
          go_ret2
          rw [Hf.out]
          exact ⟨none, 0, rfl, Nat.le_refl _, Reads.none_, Below.refl _ _⟩
        · have Htk2 := Lib.hid (Htk.out (by omega))
          go_wp2
          go_round
          case rel => exact ⟨k + 1, by omega, iv (by omega), Htk2.out⟩
          case measure => simp only [intOf]; omega
    · obtain rfl : k = n := by omega
      have hgl := Hg.out
      rw [List.take_of_length_le (by have := En.out; omega)] at hgl
      by_cases hcb : C > most ∨ C > 100000
      · have Hf := Lib.hid (Hbig.out hgl hcb)
        clear hgl Hbad Hok Hbig
        by_cases h1 : most < C
        · clear hcb
          go_wp2_with (go_at_call 16; refine Hcount.out.mono ?_; rintro e w1 ⟨rfl, hb1⟩; have Hb1 := Lib.hid hb1; clear hb1)
          go_ret2
          rw [Hf.out]
          exact ⟨none, 0, rfl, Nat.le_refl _, Reads.none_, Hb1.out⟩
        · have h2 : 100000 < C := by omega
          clear hcb
          go_wp2_with (go_at_call 16; refine Hcount.out.mono ?_; rintro e w1 ⟨rfl, hb1⟩; have Hb1 := Lib.hid hb1; clear hb1)
          go_ret2
          rw [Hf.out]
          exact ⟨none, 0, rfl, Nat.le_refl _, Reads.none_, Hb1.out⟩
      · obtain ⟨hf1, hTl⟩ := Hok.out hgl hcb
        have Hf := Lib.hid hf1
        have HTl := Lib.hid hTl
        have Hgl := Lib.hid hgl
        have h1 : ¬ most < C := by omega
        have h2 : ¬ 100000 < C := by omega
        clear hf1 hTl hgl hcb Hbad Hbig Hok Hg
        go_wp2_with (go_at_call 16; refine Hcount.out.mono ?_; rintro e w1 ⟨rfl, hb1⟩; have Hb1 := Lib.hid hb1; clear hb1)
        go_loopw [8, 9, 10] (fun v vd i wr => ∃ (p : Nat) (o d : List Int), p ≤ k + 1 ∧ i = .int .i64 p ∧ Hid (d.length ≤ p ∧ (p = k + 1 → d = []) ∧ zgood 1 d = true ∧ o ++ zun d (l.drop p) = T) ∧ Hid (wr.ownsRow w.heap.size 3 1 v o.length (ints o)) ∧ Hid (wr.ownsRow w.heap.size 3 1 vd d.length (ints (d.map (· + 1)))) ∧ Hid (∀ b, vd.ownBlock = some b → v.ownBlock ≠ some b) ∧ Hid (Below w.heap.size w wr)) (fun _ _ i _ => k + 1 - (intOf i).toNat)
        case atStart => exact ⟨0, [], [], by omega, rfl, Lib.hid ⟨Nat.le_refl _, fun _ => rfl, rfl, Hstart.out⟩, World.ownsRow_nil _ _ _ _, World.ownsRow_nil _ _ _ _, Lib.hid fun b hb => by (cases hb), Hb1.out⟩
        case round =>
          obtain ⟨p, o, d, hp, rfl, Hd, Hown, HownD, Hne, Hb⟩ := hrel
          have hszr := Hb.out.size
          have hol : o.length ≤ 100000 := by
            have h3 := congrArg List.length Hd.out.2.2.2
            have h4 := HTl.out
            rw [List.length_append] at h3
            omega
          by_cases hlt : p < k
          · have hki : (0 : Int) ≤ (p : Int) ∧ (p : Int) < k ∧ (p : Int) ≤ k := by omega
            have hkl : p < l.length := by rw [En.out]; exact hlt
            obtain ⟨b, off, rfl, hcell⟩ := Hcell.out (by omega)
            have hx := hcell wr Hb.out p hkl
            have Hx2 : Hid (∀ W, Below w.heap.size w W → W.cell? ⟨b, off + p, none⟩ = some (.int .i64 l[p])) := Lib.hid fun W hW => hcell W hW p hkl
            have hxg := zgood_get Hgl.out p hkl
            have hdrop : l.drop p = l[p] :: l.drop (p + 1) := List.drop_eq_getElem_cons hkl
            have hd := Hd.out
            rw [hdrop] at hd
            clear hcell hdrop Hd
            generalize l[p] = x at *
            by_cases hx2 : x < 2
            · rw [zun_more d x _ (by omega)] at hd
              have Hd2 : Hid ((d ++ [x]).length ≤ p + 1 ∧ (p + 1 = k + 1 → d ++ [x] = []) ∧ zgood 1 (d ++ [x]) = true ∧ o ++ zun (d ++ [x]) (l.drop (p + 1)) = T) := Lib.hid ⟨by rw [List.length_append]; simp; omega, fun h => by omega, by rw [zgood_app, zgood_cons]; exact ⟨hd.2.2.1, by omega, rfl⟩, hd.2.2.2⟩
              have hdl : d.length ≤ 1000000 := by omega
              have Hmap : Hid ((d ++ [x]).map (· + 1) = d.map (· + 1) ++ [x + 1]) := Lib.hid (by simp)
              clear hd
              generalize d.map (· + 1) = D at *
              go_wp2_with (at_builtin; refine wpList_append_sep _ rfl _ _ 22 rfl w.heap.size 3 i0 (.int .i64 0) 1 8 Try.underlying22 hi hz0 hz1 hz2 rfl (by decide) _ _ _ rfl (HownD.out.alloc _) _ 1 1 _ _ rfl (reads_new _ 3 #[.int .i64 (x + 1)] 1 1 rfl) ?c1 ?c2 ?c3 ?c4 ?_)
              case c1 => exact rfl
              case c2 => unfold maxLen; omega
              case c3 => omega
              case c4 => simp; omega
              intro v2 w2 hown2 hgrow hsep
              have Hb2 : Hid (Below w.heap.size w w2) := Lib.hid ((Hb.out.trans ((Below.refl _ _).alloc hszr _)).grown hgrow (by simp; omega) (fun g hg => (HownD.out.lt g hg).1))
              have HownD2 : Hid (w2.ownsRow w.heap.size 3 1 v2 (d ++ [x]).length (ints ((d ++ [x]).map (· + 1)))) := Lib.hid (by
                rw [Hmap.out, List.length_append]
                exact zown_more hown2)
              have Hown2 := Lib.hid (owns_touch (Hown.out.alloc (.cells #[.int .i64 (x + 1)] 3)) (touch_grow hgrow) fun k2 hk2 e => Hne.out k2 e.symm hk2)
              have Hne2 := Lib.hid fun b2 (hb2 : v2.ownBlock = some b2) => show ¬ _ = some b2 from fun e => by
                rcases hsep b2 hb2 with h | h
                · exact Hne.out b2 h e
                · have := (Hown.out.lt b2 e).2
                  simp at h
                  omega
              clear hown2 hgrow hsep
              go_wp2
              go_roundw
              case rel => exact ⟨p + 1, o, d ++ [x], by omega, iv (by omega), Hd2.out, Hown2.out, HownD2.out, Hne2.out, Hb2.out⟩
              case measure => simp only [intOf]; omega
            · rw [zun_other d x _ (by omega)] at hd
              obtain ⟨hdl, -, hdg, hdt⟩ := hd
              have hzl : o.length + zv d ≤ 100000 := by
                have h3 := congrArg List.length hdt
                have h4 := HTl.out
                rw [List.length_append, List.length_append, List.length_replicate] at h3
                omega
              obtain ⟨A2, c2, rfl, hc2, hr2⟩ := owns_cells HownD.out
              have hv2 := zref_value_any d hdg A2 _ c2 wr (by omega) hr2
              rw [show zval d = zv d from by unfold zval; omega] at hv2
              have Hv2 := Lib.hid hv2
              have Hd4 : Hid (((o ++ List.replicate (zv d) 0) ++ [x - 1]) ++ zun [] (l.drop (p + 1)) = T) := Lib.hid (by rw [← hdt]; simp)
              clear hv2 hr2 hdt hdg
              generalize zv d = Z at *
              go_wp2_with (go_at_call 25; refine Hv2.out.mono ?_; rintro e w1 ⟨rfl, rfl⟩)
              go_loopw [8, 11] (fun v j W => ∃ (q : Nat) (acc : List Int), q ≤ Z ∧ j = .int .i64 q ∧ Hid (acc.length + q = o.length + Z) ∧ Hid (acc ++ List.replicate q 0 = o ++ List.replicate Z 0) ∧ Hid (W.ownsRow w.heap.size 3 1 v acc.length (ints acc)) ∧ Hid (Below w.heap.size w W)) (fun _ j _ => (intOf j).toNat)
              case atStart => exact ⟨Z, o, by omega, rfl, Lib.hid rfl, Lib.hid rfl, Hown.out, Hb.out⟩
              case round =>
                obtain ⟨q, acc, hq, rfl, Hal, Hacc, HownA, HbA⟩ := hrel
                have hszA := HbA.out.size
                by_cases hlq : 0 < q
                · have hqi : (0 : Int) < (q : Int) ∧ (q : Int) ≤ 100000 := by omega
                  have hqw : IntKind.i64.wrap ((q : Int) - 1) = (q : Int) - 1 := by rw [IntKind.wrap_i64]; omega
                  have Hac2 : Hid ((acc ++ [0]) ++ List.replicate (q - 1) 0 = o ++ List.replicate Z 0) := Lib.hid (by
                    rw [← Hacc.out, List.append_assoc]
                    congr 1
                    obtain ⟨q2, rfl⟩ : ∃ q2, q = q2 + 1 := ⟨q - 1, by omega⟩
                    rw [List.replicate_succ]
                    rfl)
                  have Hal2 : Hid ((acc ++ [(0 : Int)]).length + (q - 1) = o.length + Z) := Lib.hid (by rw [List.length_append]; have := Hal.out; simp; omega)
                  have hacl : acc.length ≤ 200000 := by have := Hal.out; omega
                  go_wp2_with (at_builtin; refine wpList_append_sep _ rfl _ _ 22 rfl w.heap.size 3 i0 (.int .i64 0) 1 8 Try.underlying22 hi hz0 hz1 hz2 rfl (by decide) _ _ _ rfl (HownA.out.alloc _) _ 1 1 _ _ rfl (reads_new _ 3 #[.int .i64 0] 1 1 rfl) ?c1 ?c2 ?c3 ?c4 ?_)
                  case c1 => exact rfl
                  case c2 => unfold maxLen; omega
                  case c3 => omega
                  case c4 => simp; omega
                  intro v2 w2 hown2 hgrow hsep
                  have Hb2 : Hid (Below w.heap.size w w2) := Lib.hid ((HbA.out.trans ((Below.refl _ _).alloc hszA _)).grown hgrow (by simp; omega) (fun g hg => (HownA.out.lt g hg).1))
                  have Hown2 : Hid (w2.ownsRow w.heap.size 3 1 v2 (acc ++ [(0 : Int)]).length (ints (acc ++ [(0 : Int)]))) := Lib.hid (by
                    rw [List.length_append]
                    exact zown_more hown2)
                  clear hown2 hgrow hsep
                  go_wp2
                  go_roundw
                  case rel => exact ⟨q - 1, acc ++ [0], by omega, iv (by omega), Hal2.out, Hac2.out, Hown2.out, Hb2.out⟩
                  case measure => simp only [intOf]; omega
                · obtain rfl : q = 0 := by omega
                  have hac := Hacc.out
                  rw [List.replicate_zero, List.append_nil] at hac
                  have Hac3 := Lib.hid hac
                  have hal := Hal.out
                  clear Hacc Hal hac
                  have hx3 := Hx2.out _ HbA.out
                  have hacl : acc.length ≤ 200000 := by omega
                  go_wp2_with (at_builtin; refine wpList_append_sep _ rfl _ _ 22 rfl w.heap.size 3 i0 (.int .i64 0) 1 8 Try.underlying22 hi hz0 hz1 hz2 rfl (by decide) _ _ _ rfl (HownA.out.alloc _) _ 1 1 _ _ rfl (reads_new _ 3 #[.int .i64 (x - 1)] 1 1 rfl) ?c1 ?c2 ?c3 ?c4 ?_)
                  case c1 => exact rfl
                  case c2 => unfold maxLen; omega
                  case c3 => omega
                  case c4 => simp; omega
                  intro v2 w2 hown2 hgrow hsep
                  have Hb2 : Hid (Below w.heap.size w w2) := Lib.hid ((HbA.out.trans ((Below.refl _ _).alloc hszA _)).grown hgrow (by simp; omega) (fun g hg => (HownA.out.lt g hg).1))
                  have Hown2 : Hid (w2.ownsRow w.heap.size 3 1 v2 (acc ++ [x - 1]).length (ints (acc ++ [x - 1]))) := Lib.hid (by
                    rw [List.length_append]
                    exact zown_more hown2)
                  have Hd5 : Hid ((acc ++ [x - 1]) ++ zun [] (l.drop (p + 1)) = T) := Lib.hid (by rw [Hac3.out]; exact Hd4.out)
                  clear hown2 hgrow hsep
                  go_wp2
                  go_roundw
                  case rel => exact ⟨p + 1, acc ++ [x - 1], [], by omega, iv (by omega), Lib.hid ⟨by simp, fun _ => rfl, rfl, Hd5.out⟩, Hown2.out, World.ownsRow_nil _ _ _ _, Lib.hid fun b hb => by (cases hb), Hb2.out⟩
                  case measure => simp only [intOf]; omega
          · rcases Nat.lt_or_ge k p with hgt | hge
            · obtain rfl : p = k + 1 := by omega
              obtain ⟨-, h0, -, h3⟩ := Hd.out
              have h4 := h0 rfl
              subst h4
              rw [List.drop_of_length_le (by have := En.out; omega)] at h3
              have Ho : Hid (o = T) := Lib.hid (by simpa [zun, zv] using h3)
              have hgi : (k : Int) < ((k + 1 : Nat) : Int) := by omega
              obtain ⟨A2, c2, rfl, hc2, hr2⟩ := owns_cells Hown.out
              have Hr2 := Lib.hid hr2
              have Hc2 := Lib.hid hc2
              clear h0 h3 Hd hr2 hc2
              go_wp2
              go_ret2
              rw [Hf.out]
              refine ⟨A2, c2, ?_, ?_, ?_, Hb.out⟩
              · show _ = Ending.returned (Value.tuple #[Value.slice A2 T.length c2, Value.int .i64 0])
                rw [← Ho.out]
                rfl
              · show T.length ≤ c2
                rw [← Ho.out]
                exact Hc2.out
              · show Reads _ _ 1 A2 T.length (ints T)
                rw [← Ho.out]
                exact Hr2.out
            · obtain rfl : p = k := by omega
              obtain ⟨hdl, -, hdg, hdt⟩ := Hd.out
              rw [List.drop_of_length_le (by have := En.out; omega)] at hdt
              have hdt2 : o ++ List.replicate (zv d) 0 = T := hdt
              have hzl : o.length + zv d ≤ 100000 := by
                have h3 := congrArg List.length hdt2
                have h4 := HTl.out
                rw [List.length_append, List.length_replicate] at h3
                omega
              obtain ⟨A2, c2, rfl, hc2, hr2⟩ := owns_cells HownD.out
              have hv2 := zref_value_any d hdg A2 _ c2 wr (by omega) hr2
              rw [show zval d = zv d from by unfold zval; omega] at hv2
              have Hv2 := Lib.hid hv2
              have Hd4 : Hid ((o ++ List.replicate (zv d) 0) ++ zun [] (l.drop (p + 1)) = T) := Lib.hid (by rw [List.drop_of_length_le (by have := En.out; omega)]; simpa [zun, zv] using hdt2)
              clear hv2 hr2 hdt hdt2 hdg Hd
              generalize zv d = Z at *
              go_wp2_with (go_at_call 25; refine Hv2.out.mono ?_; rintro e w1 ⟨rfl, rfl⟩)
              go_loopw [8, 11] (fun v j W => ∃ (q : Nat) (acc : List Int), q ≤ Z ∧ j = .int .i64 q ∧ Hid (acc.length + q = o.length + Z) ∧ Hid (acc ++ List.replicate q 0 = o ++ List.replicate Z 0) ∧ Hid (W.ownsRow w.heap.size 3 1 v acc.length (ints acc)) ∧ Hid (Below w.heap.size w W)) (fun _ j _ => (intOf j).toNat)
              case atStart => exact ⟨Z, o, by omega, rfl, Lib.hid rfl, Lib.hid rfl, Hown.out, Hb.out⟩
              case round =>
                obtain ⟨q, acc, hq, rfl, Hal, Hacc, HownA, HbA⟩ := hrel
                have hszA := HbA.out.size
                by_cases hlq : 0 < q
                · have hqi : (0 : Int) < (q : Int) ∧ (q : Int) ≤ 100000 := by omega
                  have hqw : IntKind.i64.wrap ((q : Int) - 1) = (q : Int) - 1 := by rw [IntKind.wrap_i64]; omega
                  have Hac2 : Hid ((acc ++ [0]) ++ List.replicate (q - 1) 0 = o ++ List.replicate Z 0) := Lib.hid (by
                    rw [← Hacc.out, List.append_assoc]
                    congr 1
                    obtain ⟨q2, rfl⟩ : ∃ q2, q = q2 + 1 := ⟨q - 1, by omega⟩
                    rw [List.replicate_succ]
                    rfl)
                  have Hal2 : Hid ((acc ++ [(0 : Int)]).length + (q - 1) = o.length + Z) := Lib.hid (by rw [List.length_append]; have := Hal.out; simp; omega)
                  have hacl : acc.length ≤ 200000 := by have := Hal.out; omega
                  go_wp2_with (at_builtin; refine wpList_append_sep _ rfl _ _ 22 rfl w.heap.size 3 i0 (.int .i64 0) 1 8 Try.underlying22 hi hz0 hz1 hz2 rfl (by decide) _ _ _ rfl (HownA.out.alloc _) _ 1 1 _ _ rfl (reads_new _ 3 #[.int .i64 0] 1 1 rfl) ?c1 ?c2 ?c3 ?c4 ?_)
                  case c1 => exact rfl
                  case c2 => unfold maxLen; omega
                  case c3 => omega
                  case c4 => simp; omega
                  intro v2 w2 hown2 hgrow hsep
                  have Hb2 : Hid (Below w.heap.size w w2) := Lib.hid ((HbA.out.trans ((Below.refl _ _).alloc hszA _)).grown hgrow (by simp; omega) (fun g hg => (HownA.out.lt g hg).1))
                  have Hown2 : Hid (w2.ownsRow w.heap.size 3 1 v2 (acc ++ [(0 : Int)]).length (ints (acc ++ [(0 : Int)]))) := Lib.hid (by
                    rw [List.length_append]
                    exact zown_more hown2)
                  clear hown2 hgrow hsep
                  go_wp2
                  go_roundw
                  case rel => exact ⟨q - 1, acc ++ [0], by omega, iv (by omega), Hal2.out, Hac2.out, Hown2.out, Hb2.out⟩
                  case measure => simp only [intOf]; omega
                · obtain rfl : q = 0 := by omega
                  have hac := Hacc.out
                  rw [List.replicate_zero, List.append_nil] at hac
                  have Hac3 := Lib.hid hac
                  have hal := Hal.out
                  clear Hacc Hal hac
                  have Hd5 : Hid (acc ++ zun [] (l.drop (p + 1)) = T) := Lib.hid (by rw [Hac3.out]; exact Hd4.out)
                  go_wp2
                  go_roundw
                  case rel => exact ⟨p + 1, acc, [], by omega, iv (by omega), Lib.hid ⟨by simp, fun _ => rfl, rfl, Hd5.out⟩, HownA.out, World.ownsRow_nil _ _ _ _, Lib.hid fun b hb => by (cases hb), HbA.out⟩
                  case measure => simp only [intOf]; omega
end Go.Proofs.Ytaabmpmoioipaaa
