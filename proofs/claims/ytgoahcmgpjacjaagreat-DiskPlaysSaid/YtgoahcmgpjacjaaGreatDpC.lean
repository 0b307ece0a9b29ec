/-
  Layer 20: what the function values of changes do to a directory; change.
-/
import Derived.Test.YtgoahcmgpjacjaaGreatDpB
namespace Go.Proofs.YtgoahcmgpjacjaaGreat
set_option linter.unusedSimpArgs false
set_option linter.unusedVariables false
open Go.ChangeShapes Go.WideShapes Go.ChangeAt Go.RowKit Go.Joins Go.Deep
def DIn (w w' : World) (fb : List Nat) (b : Nat) (l : List Ent) : Prop := (∃ M, w'.ownsMap Tryz.prog 9 ptE b (Maps.size M) M ∧ DIs fb M l) ∧ Touch w w' (fun k => k = b)
set_option maxRecDepth 100000 in
set_option maxHeartbeats 2000000 in
theorem p_dmore {fb : List Nat} {b n : Nat} {M : DataW Unit} {l : List Ent} (s : List UInt8) (q : Int) (w : World) (hm : w.ownsMap Tryz.prog 9 ptE b n M) (hi : DIs fb M l) (hn : n ≤ 1000000) (hl : DNm l) (h1 : s ≠ []) (h2 : s.length ≤ 64) (hq : 0 ≤ q) :
    Calls Tryz.prog 44 #[.agg #[.string ⟨s.toArray⟩, .pointer (some ⟨fbk fb q, 0, none⟩)], .map (some b)] w fun e w' => e = .returned (.tuple #[]) ∧ DIn w w' fb b (dchgd l ([], (s, q))) := by
  have HM := Lib.hid (hm.alloc (.cells #[.string ⟨s.toArray⟩, .pointer (some ⟨fbk fb q, 0, none⟩)] 80))
  have HT := Lib.hid ((Touch.refl w (fun k => k = b)).alloc (.cells #[.string ⟨s.toArray⟩, .pointer (some ⟨fbk fb q, 0, none⟩)] 80))
  have HD : Hid (DIs fb (M.put (.string s) (pv (fbk fb q))) (dchgd l ([], (s, q)))) := Lib.hid (hi.put hm.isMap (by rw [dfind_at _ _ _ hl, if_pos ⟨h1, rfl⟩]; exact hq) (by rw [dfind_at _ _ _ hl, if_pos ⟨h1, rfl⟩]) fun x hx => by
    rw [dfind_at _ _ _ hl, if_neg (fun h => hx h.2), if_neg (fun h => h.1 rfl)])
  have hk := dkey s (by unfold maxLen; omega)
  have hn2 : n < maxLen := by unfold maxLen; omega
  clear hm hi hl h1 h2 hq hn
  generalize fbk fb q = fq at *
  go_enter Tryz.func44, Tryz.ntmps44
  go_wp2_with (at_mapUpdate; refine wpList_mapUpdate_own _ rfl _ _ _ 57 rfl 9 74 dlaw Tryz.underlying57 ptE b n M rfl HM.out hn2 _ _ _ rfl rfl hk (pv fq) [] (ptE_mk fq) ?_; intro w1 hown1 hgrow1; have HO := Lib.hid hown1; have HG := Lib.hid hgrow1; clear hown1 hgrow1)
  go_end0
  exact ⟨rfl, ⟨_, map_tight HO.out, HD.out⟩, HT.out.trans ((touch_grow HG.out).mono fun k _ h => by injection h)⟩
set_option maxRecDepth 100000 in
set_option maxHeartbeats 2000000 in
theorem p_dless {fb : List Nat} {b n : Nat} {M : DataW Unit} {l : List Ent} (s : List UInt8) (q : Int) (w : World) (hm : w.ownsMap Tryz.prog 9 ptE b n M) (hi : DIs fb M l) (hl : DNm l) (h1 : s ≠ []) (h2 : s.length ≤ 64) :
    Calls Tryz.prog 68 #[.agg #[.string ⟨s.toArray⟩], .map (some b)] w fun e w' => e = .returned (.tuple #[]) ∧ DIn w w' fb b (dchgd l (s, ([], q))) := by
  have HM := Lib.hid (hm.alloc (.cells #[.string ⟨s.toArray⟩] 112))
  have HT := Lib.hid ((Touch.refl w (fun k => k = b)).alloc (.cells #[.string ⟨s.toArray⟩] 112))
  have HD : Hid (DIs fb (M.del (.string s)) (dchgd l (s, ([], q)))) := Lib.hid (hi.del (by rw [dfind_at _ _ _ hl, if_neg (fun h => h.1 rfl), if_pos ⟨h1, rfl⟩]; omega) fun x hx => by
    rw [dfind_at _ _ _ hl, if_neg (fun h => h.1 rfl), if_neg (fun h => hx h.2)])
  have hk := dkey s (by unfold maxLen; omega)
  clear hm hi hl h1 h2
  go_enter Tryz.func68, Tryz.ntmps68
  go_wp2_with (at_delete; refine wpList_delete_own _ rfl _ _ 57 9 rfl 74 dlaw Tryz.underlying57 ptE b n M rfl HM.out _ _ rfl hk ?_; intro w1 hown1 hturn1; have HO := Lib.hid hown1; have HG := Lib.hid hturn1.grown; clear hown1 hturn1)
  go_end0
  exact ⟨rfl, ⟨_, map_tight HO.out, HD.out⟩, HT.out.trans ((touch_grow HG.out).mono fun k _ h => by injection h)⟩
set_option maxRecDepth 100000 in
set_option maxHeartbeats 2000000 in
theorem p_dmoved {fb : List Nat} {b n : Nat} {M : DataW Unit} {l : List Ent} (s u : List UInt8) (w : World) (hm : w.ownsMap Tryz.prog 9 ptE b n M) (hi : DIs fb M l) (hn : n ≤ 1000000) (hl : DNm l) (h1 : s ≠ []) (h2 : s.length ≤ 64) (h3 : u ≠ []) (h4 : u.length ≤ 64) (h5 : s ≠ u) (h6 : 0 ≤ dfindL s l) :
    Calls Tryz.prog 67 #[.agg #[.string ⟨s.toArray⟩, .string ⟨u.toArray⟩], .map (some b)] w fun e w' => e = .returned (.tuple #[]) ∧ DIn w w' fb b (dchgd l (s, (u, dfindL s l))) := by
  have hlk := map_look (hm.alloc (.cells #[.string ⟨s.toArray⟩, .string ⟨u.toArray⟩] 110)) hi s (by unfold maxLen; omega)
  unfold fpt at hlk
  rw [if_pos h6] at hlk
  have HM := Lib.hid (hm.alloc (.cells #[.string ⟨s.toArray⟩, .string ⟨u.toArray⟩] 110))
  have HT := Lib.hid ((Touch.refl w (fun k => k = b)).alloc (.cells #[.string ⟨s.toArray⟩, .string ⟨u.toArray⟩] 110))
  have HB := Lib.hid (Blk.new w 110 #[.string ⟨s.toArray⟩, .string ⟨u.toArray⟩])
  have hne : b ≠ w.heap.size := by have := hm.lt; omega
  have HD1 : Hid (DIs fb (M.put (.string u) (pv (fbk fb (dfindL s l)))) (dchgd l ([], (u, dfindL s l)))) := Lib.hid (hi.put hm.isMap (by rw [dfind_at _ _ _ hl, if_pos ⟨h3, rfl⟩]; exact h6) (by rw [dfind_at _ _ _ hl, if_pos ⟨h3, rfl⟩]) fun x hx => by
    rw [dfind_at _ _ _ hl, if_neg (fun h => hx h.2), if_neg (fun h => h.1 rfl)])
  have HD : Hid (DIs fb ((M.put (.string u) (pv (fbk fb (dfindL s l)))).del (.string s)) (dchgd l (s, (u, dfindL s l)))) := Lib.hid (HD1.out.del (by rw [dfind_at _ _ _ hl, if_neg (fun h => h5 h.2), if_pos ⟨h1, rfl⟩]; omega) fun x hx => by
    rw [dfind_at _ _ _ hl, dfind_at _ _ _ hl]
    by_cases h7 : x = u
    · rw [if_pos ⟨h3, h7⟩, if_pos ⟨h3, h7⟩]
    · rw [if_neg (fun h => h7 h.2), if_neg (fun h => hx h.2), if_neg (fun h => h7 h.2), if_neg (fun h => h.1 rfl)])
  have hk := dkey s (by unfold maxLen; omega)
  have hk2 := dkey u (by unfold maxLen; omega)
  have hn2 : n < maxLen := by unfold maxLen; omega
  clear hm hi hl h1 h2 h3 h4 h5 h6 hn HD1
  generalize fbk fb (dfindL s l) = fq at *
  go_enter Tryz.func67, Tryz.ntmps67
  go_wp2_with (first
    | (at_mapUpdate; refine wpList_mapUpdate_own _ rfl _ _ _ 57 rfl 9 74 dlaw Tryz.underlying57 ptE b n M rfl HM.out hn2 _ _ _ rfl rfl hk2 (pv fq) [] (ptE_mk fq) ?_; intro w1 hown1 hgrow1; have HO := Lib.hid hown1; have HG := Lib.hid hgrow1; have hb1 := HB.out.grow' hgrow1 (fun e => by injection e with e; exact hne e); have x0 := hb1.cell 0; simp only [List.getElem?_toArray, List.getElem?_cons_zero, List.getElem?_cons_succ] at x0; clear hown1 hgrow1 hb1)
    | (at_delete; refine wpList_delete_own _ rfl _ _ 57 9 rfl 74 dlaw Tryz.underlying57 ptE b _ _ rfl HO.out _ _ rfl hk ?_; intro w2 hown2 hturn2; have HO2 := Lib.hid hown2; have HG2 := Lib.hid hturn2.grown; clear hown2 hturn2)
    | fail)
  go_end0
  exact ⟨rfl, ⟨_, map_tight HO2.out, HD.out⟩, (HT.out.trans ((touch_grow HG.out).mono fun k _ h => by injection h)).trans ((touch_grow HG2.out).mono fun k _ h => by injection h)⟩
theorem cfv_is (fb : List Nat) (c : Chg) : ∃ (F : FuncId) (x : Value), cfv fb c = .func (.func F) #[x] #[] ∧ (∀ args w, (callFunc F args).run Tryz.prog w = .ok (.enter F args) w) ∧
    ∀ (w : World) (b n : Nat) (M : DataW Unit) (l : List Ent), w.ownsMap Tryz.prog 9 ptE b n M → DIs fb M l → n ≤ 1000000 → DNm l → DCk l c →
      Calls Tryz.prog F #[x, .map (some b)] w fun e w' => e = .returned (.tuple #[]) ∧ DIn w w' fb b (dchgd l c) := by
  obtain ⟨c1, c2, c3⟩ := c
  by_cases h1 : c1 = []
  · subst h1
    refine ⟨44, .agg #[.string ⟨c2.toArray⟩, .pointer (some ⟨fbk fb c3, 0, none⟩)], if_pos rfl, enters_of Tryz.func44 (by kernel_rfl) rfl, fun w b n M l hm hi hn hl hk => ?_⟩
    rcases hk with hk | hk | hk
    · exact p_dmore c2 c3 w hm hi hn hl hk.2.1 hk.2.2.1 hk.2.2.2
    · exact absurd rfl hk.1
    · exact absurd rfl hk.1
  · by_cases h2 : c2 = []
    · subst h2
      refine ⟨68, .agg #[.string ⟨c1.toArray⟩], (if_neg h1).trans (if_pos rfl), enters_of Tryz.func68 (by kernel_rfl) rfl, fun w b n M l hm hi hn hl hk => ?_⟩
      rcases hk with hk | hk | hk
      · exact absurd hk.1 h1
      · exact p_dless c1 c3 w hm hi hl h1 hk.2.2
      · exact absurd rfl hk.2.1
    · refine ⟨67, .agg #[.string ⟨c1.toArray⟩, .string ⟨c2.toArray⟩], (if_neg h1).trans (if_neg h2), enters_of Tryz.func67 (by kernel_rfl) rfl, fun w b n M l hm hi hn hl hk => ?_⟩
      rcases hk with hk | hk | hk
      · exact absurd hk.1 h1
      · exact absurd hk.2.1 h2
      · obtain ⟨k1, k2, k3, k4, k5, k6, k7⟩ := hk
        dsimp only at k3 k4 k5 k6 k7
        rw [k7]
        exact p_dmoved c1 c2 w hm hi hn hl h1 k4 h2 k5 k3 k6
theorem dchg_info : (Tryz.prog.info? 87).map (fun i => (i.zero, i.size, i.bytes)) = some (some .nilFunc, 1, 8) := by kernel_rfl
theorem DMm.chg_ {w w1 w2 : World} {g : Nat} {D : Dk} {fb : List Nat} {bn bs : Nat} {Mn Ms : DataW Unit} {A A2 : Option Addr} {c c2 : Nat} {lf : Int} {o : Obj} (h : DMm w g D fb bn bs Mn Ms A c lf) (hH : DHist D) {x : Chg} (hx : DCk D.dir x)
    (hin : DIn w w1 fb bn (dchgd D.dir x)) (hown : w2.ownsRow 0 87 1 (.slice A2 (D.chg.length + 1) c2) (D.chg.length + 1) (D.chg.map (cfv fb) ++ [cfv fb x]))
    (hg : (w1.alloc o).grownBy w2 (Value.slice A D.chg.length c).ownBlock) (hs : Sep (w1.alloc o) (.slice A D.chg.length c) (.slice A2 (D.chg.length + 1) c2)) :
    ∃ M', DMm (w2.setCell ⟨g, 4, none⟩ (.slice A2 (D.chg.length + 1) c2)) g { D with dir := dchgd D.dir x, chg := D.chg ++ [x] } fb bn bs M' Ms A2 c2 lf ∧
      Touch w (w2.setCell ⟨g, 4, none⟩ (.slice A2 (D.chg.length + 1) c2)) (DSet g fb bn bs A) ∧ ∀ k, DSet g fb bn bs A2 k → DSet g fb bn bs A k ∨ w.heap.size ≤ k := by
  obtain ⟨⟨M', hM, hD⟩, ht⟩ := hin
  have hgn : g ≠ bn := blk_map h.box h.now
  have hgs : g ≠ bs := blk_map h.box h.syn
  have hsz : w.heap.size ≤ (w1.alloc o).heap.size := by have := ht.size; simp only [World.size_alloc]; omega
  have hbx1 : Blk (w1.alloc o) g 60 (dbx D bn bs A c lf) := (h.box.touch ht hgn).alloc o
  have hbx2 := hbx1.grow' hg (fun e => (h.rg e).1 rfl)
  have hgr : (Value.slice A2 (D.chg.length + 1) c2).ownBlock ≠ some g := owns_apart hown hbx2 (by decide)
  have T : Touch w (w2.setCell ⟨g, 4, none⟩ (.slice A2 (D.chg.length + 1) c2)) (fun k => k = g ∨ k = bn ∨ (Value.slice A D.chg.length c).ownBlock = some k) :=
    ((((ht.alloc o).mono fun k _ e => .inr (.inl e)).trans ((touch_grow hg).mono fun k _ e => .inr (.inr e.symm))).set (p := ⟨g, 4, none⟩) (.inl (.inl rfl)) _)
  have T2 : Touch w2 (w2.setCell ⟨g, 4, none⟩ (.slice A2 (D.chg.length + 1) c2)) (fun k => k = g) := (Touch.refl w2 (fun k => k = g)).set (p := ⟨g, 4, none⟩) (.inl rfl) _
  refine ⟨M', ⟨?_, ?_, ?_, ?_, h.fln, fun n h1 h2 => ?_, h.inj, h.two, hD, h.iss, h.lf, ?_⟩, T.mono fun k _ hk => ?_, fun k hk => ?_⟩
  · have := hbx2.set_ 4 (.slice A2 (D.chg.length + 1) c2)
    unfold dbx at this ⊢
    dsimp only
    rw [List.length_append]
    simpa using this
  · have h1 := map_touch (hM.alloc o) (touch_grow hg) (fun e => (row_map h.row h.now e.symm) rfl)
    exact map_touch h1 T2 (fun e => hgn e.symm)
  · exact map_touch h.syn T (fun e => by
      rcases e with e | e | e
      · exact hgs e.symm
      · exact h.two e.symm
      · exact row_map h.row h.syn e rfl)
  · have h1 := owns_touch hown T2 (fun k hk e => hgr (by rw [hk, e]))
    dsimp only
    rw [List.length_append, List.map_append]
    exact h1
  · have h3 := h.fg h1 h2
    exact (h.fl n h1 h2).touch T (fun e => by
      rcases e with e | e | e
      · exact h3.1 e
      · exact h3.2.1 e
      · exact (h.rg e).2.2.2 n h1 h2 rfl)
  · exact (h.gd.change_ hH.dir hx).of rfl rfl
  · rcases hk with rfl | rfl | e
    · exact .inl rfl
    · exact .inr (.inl rfl)
    · exact .inr (.inr (.inr (.inr (own_set e))))
  · rcases hk with hk | hk | hk | hk | ⟨p, hp, hpk⟩
    · exact .inl (.inl hk)
    · exact .inl (.inr (.inl hk))
    · exact .inl (.inr (.inr (.inl hk)))
    · exact .inl (.inr (.inr (.inr (.inl hk))))
    · have h1 := (owns_at hown hp hpk).1
      rcases hs k h1 with h2 | h2
      · exact .inl (.inr (.inr (.inr (.inr (own_set h2)))))
      · exact .inr (Nat.le_trans hsz h2)
set_option maxRecDepth 100000 in
set_option maxHeartbeats 4000000 in
theorem p_dchange {D : Dk} {fb : List Nat} {bn bs : Nat} {Mn Ms : DataW Unit} {A : Option Addr} {c g : Nat} {lf : Int} {S : Nat → Prop} (w : World) (h : DMm w g D fb bn bs Mn Ms A c lf) (hS : ∀ k, DSet g fb bn bs A k → S k) (hH : DHist D) (hd : D.dead = false)
    (hsz : Maps.size Mn ≤ 1000000) (hcl : D.chg.length ≤ 1000000) (ho : 0 ≤ D.ops ∧ D.ops ≤ 1000000) (x : Chg) (hx : DCk D.dir x) :
    Calls Tryz.prog 43 #[.pointer (some ⟨g, 0, none⟩), cfv fb x] w fun e w' => e = .returned (.int .i64 D.told) ∧ DTo w w' S g (D.change x) := by
  obtain ⟨F, rc, hF, hen, hin⟩ := cfv_is fb x
  obtain ⟨i0, hi, hz0, hz1, hz9⟩ := info_parts dchg_info
  have HI := Lib.hid (hin w bn _ _ _ h.now h.isn hsz (h.gd.dir_ hH).2 hx)
  have hgn : g ≠ bn := blk_map h.box h.now
  have x2 := h.box.cell 2
  unfold dbx at x2
  simp only [List.getElem?_toArray, List.getElem?_cons_zero, List.getElem?_cons_succ] at x2
  have HM := Lib.hid h
  have HS := Lib.hid hS
  have HF := Lib.hid hF
  have HX := Lib.hid hx
  have HD := Lib.hid hd
  have HH := Lib.hid hH
  have HO := Lib.hid ho
  rw [hF]
  clear h hS hin hx hd hH hF ho
  go_enter Tryz.func43, Tryz.ntmps43
  go_wp2_with (first
    | (refine HI.out.mono ?_; rintro e w1 ⟨rfl, hin1⟩; have HN := Lib.hid hin1; have HR := Lib.hid (owns_touch HM.out.row hin1.2 (fun k hk => (HM.out.rg hk).2.1)); have hb1 := HM.out.box.touch hin1.2 hgn; unfold dbx at hb1; have x4 := hb1.cell 4; have z4 := hb1.frozen 4; have HB1 := Lib.hid hb1; simp only [List.getElem?_toArray, List.getElem?_cons_zero, List.getElem?_cons_succ] at x4; clear hin1 hb1)
    | (at_builtin; refine wpList_append_sep _ rfl _ _ 58 rfl 0 87 i0 .nilFunc 1 8 Tryz.underlying58 hi hz0 hz1 hz9 rfl (by decide) _ _ _ rfl (HR.out.alloc _) _ 1 1 _ _ rfl (reads_new w1 87 #[.func (.func F) #[rc] #[]] 1 1 rfl) ?c1 ?c2 ?c3 ?c4 ?_)
    | fail)
  case c1 => first | exact rfl | (intro u hu; simp only [List.mem_singleton] at hu; subst hu; rfl)
  case c2 => unfold maxLen; omega
  case c3 => omega
  case c4 => exact Nat.zero_le _
  intro v2 w2 hown2 hgrow hsep
  obtain ⟨A2, c2, rfl, -, -⟩ := owns_cells hown2
  have hbx2 := (HB1.out.alloc (.cells #[.func (.func F) #[rc] #[]] 87)).grow' hgrow (fun e => (HM.out.rg e).1 rfl)
  have y4 := hbx2.cell 4
  have u4 := hbx2.frozen 4
  simp only [List.getElem?_toArray, List.getElem?_cons_zero, List.getElem?_cons_succ] at y4
  have hc := HM.out.chg_ HH.out HX.out HN.out (by rw [HF.out]; exact hown2) hgrow hsep
  obtain ⟨M', hm3, ht3, hs3⟩ := hc
  have HM3 := Lib.hid hm3
  have HT3 := Lib.hid ht3
  have HS3 := Lib.hid hs3
  have hb3 := hm3.box
  unfold dbx at hb3
  dsimp only at hb3
  rw [HD.out, List.length_append] at hb3
  have hop := p_dop D.ops lf _ hb3 HO.out HM.out.lf.2
  have het : (if lf = 1 then (200 : Int) else 0) = D.told := by
    rw [HM.out.lf.1 HD.out]
    unfold Dk.told Dk.last
    by_cases h1 : D.armed = 1
    · rw [if_pos h1, decide_eq_true h1, if_pos rfl]
    · rw [if_neg h1, decide_eq_false h1, if_neg (by decide)]
  rw [het] at hop
  have HOp := Lib.hid hop
  clear hop het
  clear hm3 ht3 hs3 hb3 hown2 hgrow hsep hbx2 HR HB1 x2 x4 z4 HN
  go_wp2_with (first | (go_at_call 48; (with_reducible refine HOp.out.mono ?_); rintro e w4 ⟨rfl, hb4, ht4⟩; have HB4 := Lib.hid hb4; have HT4 := Lib.hid ht4; clear hb4 ht4) | fail)
  go_ret
  have hm4 := HM3.out.counted_ HD.out (by dsimp only; rw [List.length_append]; exact HB4.out) HT4.out
  exact ⟨rfl, (HT3.out.mono (fun k _ hk => HS.out k hk)).trans (HT4.out.mono fun k _ e => by rw [e]; exact HS.out g (.inl rfl)), fb, bn, bs, M', Ms, A2, c2, _, hm4, fun k hk => (HS3.out k hk).imp (HS.out k) id⟩
end Go.Proofs.YtgoahcmgpjacjaaGreat
