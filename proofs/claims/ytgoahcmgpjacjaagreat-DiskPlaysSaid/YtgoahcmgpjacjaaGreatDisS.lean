/-
  Layer 20, the document's: Create (ahead of the code's landing).
-/
import Derived.Test.YtgoahcmgpjacjaaGreatDisR
namespace Go.Proofs.YtgoahcmgpjacjaaGreat
set_option linter.unusedSimpArgs false
set_option linter.unusedVariables false
open Go.ChangeShapes Go.WideShapes Go.ChangeAt Go.RowKit Go.Joins Go.Deep
theorem fl_reads0 {W : World} {g : Nat} {f : Fl} (h : Blk W g 91 #[.string ⟨f.1.toArray⟩, .string ⟨f.2.toArray⟩]) : Reads W W.heap.size 2 (some ⟨g, 0, none⟩) 1 (dcs ffc [f]) := by
  refine ⟨rfl, fun _ => ⟨g, 0, rfl, h.lt, fun j u hj => ?_⟩⟩
  rw [Nat.zero_add, h.cell j]
  simpa [dcs] using hj
theorem fl_row {W : World} {N n c : Nat} {A : Option Addr} {xs : List Value} {p : Addr} {u : Value} (h : W.ownsRow N 91 2 (.slice A n c) n xs) (hn : 0 < n) (hp : p.block < N) : Reads (W.setCell p u) (W.setCell p u).heap.size 2 A n xs ∧ n ≤ c := by
  obtain ⟨g, cur, rfl, h1, h2, h3, h4, h5⟩ := owns_blk h hn
  exact ⟨blk_reads_m (h2.far (by omega) u) h5 (by rw [h4]; exact Nat.mul_le_mul_right 2 h3), h3⟩
set_option maxRecDepth 100000 in
set_option maxHeartbeats 4000000 in
theorem dref_cre_e (D : Dk) (a : DAd) (s : List UInt8) (w : World) (hM : DkMem w D a) (hd : D.dir.length ≤ 1000000) (hx : s.length ≤ 1000000) (hc : D.chg.length ≤ 1000000) (hf : D.files.length ≤ 1000000) (ho : 0 ≤ D.ops ∧ D.ops ≤ 1000000) (ha : -9223372036854775808 ≤ D.armed ∧ D.armed < 9223372036854775808) (h1 : D.dead = false) (h2 : nchkF s = 0) (h3 : ¬ 0 ≤ D.find s) (h4 : ¬ 200 ≤ D.dir.length) : Calls Tryz.prog 21 #[.agg (dkc D a), .string ⟨s.toArray⟩] w fun e w' => DPost a w w' e (dcreateF D s) := by
  have hck := fun W => nref_check_any s W hx
  have hfi := fun W hb => dref_find_any D a s W (hM.on hb) hd
  have Hmem := Lib.hid hM
  unfold DPost dcreateF
  rw [if_neg (by rw [h1]; simp), if_neg (by rw [h2]; simp), if_neg h3, if_neg h4]
  obtain ⟨i0, hi, hz0, hz1, hz9⟩ := info_parts flr_info
  have hch := fun a' W hm => dref_change_any { D with files := D.files ++ [([], [])] } a' [] s (D.files.length : Int) W hm hd hc ho ha
  unfold DPost at hch
  dsimp only at hch
  clear hM hd hx hc ho ha
  · dsimp only
    rw [h2] at hck
    clear h2
    rw [show D.told = Dk.told { D with files := D.files ++ [([], [])] } from rfl]
    generalize Dk.change { D with files := D.files ++ [([], [])] } ([], (s, (D.files.length : Int))) = F at *
    generalize Dk.told { D with files := D.files ++ [([], [])] } = R at *
    generalize D.find s = FN at *
    have Hck := Lib.hid hck
    clear hck
    unfold dkc at hfi hch ⊢
    dsimp only at hch
    obtain ⟨fs, dr, sf, cg, cap, ops, arm, dd⟩ := D
    obtain ⟨a1, a2, a3, a4, c1, c2, c3, c4⟩ := a
    dsimp only at *
    obtain ⟨n1, hn1⟩ : ∃ n, fs.length = n := ⟨_, rfl⟩
    obtain ⟨n2, hn2⟩ : ∃ n, dr.length = n := ⟨_, rfl⟩
    obtain ⟨n3, hn3⟩ : ∃ n, sf.length = n := ⟨_, rfl⟩
    obtain ⟨n4, hn4⟩ : ∃ n, cg.length = n := ⟨_, rfl⟩
    have HL1 := Lib.hid hn1
    have HL2 := Lib.hid hn2
    have HL3 := Lib.hid hn3
    have HL4 := Lib.hid hn4
    subst h1
    rw [List.length_append, List.length_singleton] at hch
    rw [hn1, hn2, hn3, hn4] at hfi hch
    rw [hn1] at hf
    rw [hn2] at h4
    have h5 : ¬ (200 : Int) ≤ (n2 : Int) := by omega
    have Hfi := Lib.hid hfi
    have Hch := Lib.hid hch
    have HRd : Hid (∀ W, Below w.heap.size w W → Reads W w.heap.size 2 a1 n1 (dcs ffc fs)) := Lib.hid fun W h => by rw [← hn1]; exact Hmem.out.files.below h
    try rw [hn1, hn2, hn3, hn4]
    clear hn1 hn2 hn3 hn4 hfi hch
    have h1 := (Blk.new w 33 #[.slice a1 n1 c1, .slice a2 n2 c2, .slice a3 n3 c3, .slice a4 n4 c4, .int .i64 cap, .int .i64 ops, .int .i64 arm, .bool false]).alloc (.cells #[.slice none 0 0, .slice none 0 0, .slice none 0 0, .slice none 0 0, .int .i64 0, .int .i64 0, .int .i64 0, .bool false] 33)
    have h3 := Blk.new (w.alloc (.cells #[.slice a1 n1 c1, .slice a2 n2 c2, .slice a3 n3 c3, .slice a4 n4 c4, .int .i64 cap, .int .i64 ops, .int .i64 arm, .bool false] 33)) 33 #[.slice none 0 0, .slice none 0 0, .slice none 0 0, .slice none 0 0, .int .i64 0, .int .i64 0, .int .i64 0, .bool false]
    simp only [World.size_alloc] at h3
    have H1 := Lib.hid h1
    have H3 := Lib.hid h3
    have HB0 : Hid (Below w.heap.size w ((w.alloc (.cells #[.slice a1 n1 c1, .slice a2 n2 c2, .slice a3 n3 c3, .slice a4 n4 c4, .int .i64 cap, .int .i64 ops, .int .i64 arm, .bool false] 33)).alloc (.cells #[.slice none 0 0, .slice none 0 0, .slice none 0 0, .slice none 0 0, .int .i64 0, .int .i64 0, .int .i64 0, .bool false] 33))) := Lib.hid (by go_grown)
    clear h1 h3
    have hY0 := H1.out.lt
    obtain ⟨Y, hY⟩ : ∃ Y, ((w.alloc (.cells #[.slice a1 n1 c1, .slice a2 n2 c2, .slice a3 n3 c3, .slice a4 n4 c4, .int .i64 cap, .int .i64 ops, .int .i64 arm, .bool false] 33)).alloc (.cells #[.slice none 0 0, .slice none 0 0, .slice none 0 0, .slice none 0 0, .int .i64 0, .int .i64 0, .int .i64 0, .bool false] 33)) = Y := ⟨_, rfl⟩
    go_enter Tryz.func21, Tryz.ntmps21
    have p0 := 0; have p1 := 0; have p2 := 0; have p3 := 0; have p4 := 0; have p5 := 0; have p6 := 0; have p7 := 0
    clear hY hY0
    go_upto_region 11 with (first
      | (go_at_call 54; (with_reducible refine (Hck.out _).mono ?_); rintro e w4 ⟨rfl, hw4⟩; obtain rfl := hw4.symm)
      | (go_at_call 55; (with_reducible refine (Hfi.out _ HB0.out).mono ?_); rintro e w1 ⟨rfl, hb1⟩; clear p0 p1 p2 p3 p4 p5 p6 p7; replace H1 := Lib.hid (H1.out.below hb1 H1.out.lt); replace H3 := Lib.hid (H3.out.below hb1 H3.out.lt); replace HB0 := Lib.hid (HB0.out.trans (hb1.mono HB0.out.size)); clear hb1; have p0 := H1.out.cell 0; have p1 := H1.out.cell 1; have p2 := H1.out.cell 2; have p3 := H1.out.cell 3; have p4 := H1.out.cell 4; have p5 := H1.out.cell 5; have p6 := H1.out.cell 6; have p7 := H1.out.cell 7; simp only [List.getElem?_toArray, List.getElem?_cons_zero, List.getElem?_cons_succ] at p0 p1 p2 p3 p4 p5 p6 p7))
    obtain ⟨N0, hN0⟩ : ∃ N0, w1.heap.size = N0 := ⟨_, rfl⟩
    have hlt := H3.out.lt
    rw [hN0] at hlt
    have H1a := Lib.hid (H1.out.alloc (.cells #[] 91))
    have H3a := Lib.hid (H3.out.alloc (.cells #[] 91))
    have HBa := Lib.hid (HB0.out.alloc HB0.out.size (.cells #[] 91))
    have HO : Hid ((w1.alloc (.cells #[] 91)).ownsRow N0 91 2 (.slice (some ⟨N0, 0, none⟩) 0 0) 0 []) := Lib.hid (by subst hN0; exact d_nothing w1 (Nat.le_refl _))
    have HR := Lib.hid (HRd.out _ HBa.out)
    have hs1 : (w1.alloc (.cells #[] 91)).heap.size = N0 + 1 := by rw [World.size_alloc, hN0]
    have HS1 := Lib.hid hs1
    clear hs1 HRd
    have pa := H1a.out.cell 0
    simp only [List.getElem?_toArray, List.getElem?_cons_zero] at pa
    go_wp2_with (refine wpList_append_any _ rfl _ _ 29 rfl N0 91 i0 (.agg #[.string ⟨#[]⟩, .string ⟨#[]⟩]) 2 32 Tryz.underlying29 hi hz0 hz1 hz9 rfl (by decide) _ _ _ rfl HO.out a1 n1 c1 _ _ rfl HR.out (ffc_cell fs) ?c1 ?c2 ?c3 ?_)
    case c1 => unfold maxLen; omega
    case c2 => omega
    case c3 => have := HS1.out; omega
    · intro v' wa hoa hga
      try simp only [Nat.zero_add, List.nil_append] at hoa
      obtain ⟨A', c', rfl, hc', _⟩ := owns_cells hoa
      have H1b := Lib.hid ((H1a.out.grow' hga (d_old HO.out (by omega))).alloc (.cells #[.string ⟨#[]⟩, .string ⟨#[]⟩] 91))
      have H3b := Lib.hid ((H3a.out.grow' hga (d_old HO.out (by omega))).alloc (.cells #[.string ⟨#[]⟩, .string ⟨#[]⟩] 91))
      have HBb0 : Below w.heap.size w wa := HBa.out.grown hga HBa.out.size fun b hb => by have := (HO.out.lt b hb).1; omega
      have HBb := Lib.hid (HBb0.alloc HBb0.size (.cells #[.string ⟨#[]⟩, .string ⟨#[]⟩] 91))
      have hza := ((Below.refl N0 (w1.alloc (.cells #[] 91))).grown hga (by have := HS1.out; omega) (fun b hb => (HO.out.lt b hb).1)).size
      have HOb := Lib.hid (hoa.alloc (.cells #[.string ⟨#[]⟩, .string ⟨#[]⟩] 91))
      have hlt2 : w.heap.size + 1 < wa.heap.size := by have := HS1.out; omega
      have hz0a : N0 ≤ wa.heap.size := by have := HS1.out; omega
      have HZ := Lib.hid hz0a
      obtain ⟨Na, hNa⟩ : ∃ Na, wa.heap.size = Na := ⟨_, rfl⟩
      have HRb : Hid (Reads (wa.alloc (.cells #[.string ⟨#[]⟩, .string ⟨#[]⟩] 91)) (wa.alloc (.cells #[.string ⟨#[]⟩, .string ⟨#[]⟩] 91)).heap.size 2 (some ⟨Na, 0, none⟩) 1 (dcs ffc [([], [])])) := Lib.hid (by subst hNa; exact fl_reads0 (f := ([], [])) (Blk.new wa 91 #[.string ⟨#[]⟩, .string ⟨#[]⟩]))
      have pb := H1b.out.cell 0
      have zb := H1b.out.frozen 0
      simp only [List.getElem?_toArray, List.getElem?_cons_zero] at pb
      clear H1a H3a HBa HO HR pa p0 p1 p2 p3 p4 p5 p6 p7 hza hoa hga HBb0 H1 H3 HB0
      go_wp2_with (refine wpList_append_any _ rfl _ _ 29 rfl N0 91 i0 (.agg #[.string ⟨#[]⟩, .string ⟨#[]⟩]) 2 32 Tryz.underlying29 hi hz0 hz1 hz9 rfl (by decide) _ _ _ rfl HOb.out (some ⟨Na, 0, none⟩) 1 1 _ _ rfl HRb.out (ffc_cell [([], [])]) ?c1 ?c2 ?c3 ?_)
      case c1 => unfold maxLen; omega
      case c2 => omega
      case c3 => have := HZ.out; rw [World.size_alloc]; omega
      · intro v2 wb hob hgb
        obtain ⟨A5, c5, rfl, hc5, _⟩ := owns_cells hob
        have HA5 := Lib.hid (owns_new (w := w) hob (by omega))
        have H1c := Lib.hid (H1b.out.grow' hgb (d_old HOb.out (by omega)))
        have H3c := Lib.hid (H3b.out.grow' hgb (d_old HOb.out (by omega)))
        have HBc : Hid (Below w.heap.size w wb) := Lib.hid (HBb.out.grown hgb HBb.out.size fun b hb => by have := (HOb.out.lt b hb).1; omega)
        have HQ := Lib.hid (fl_row (p := ⟨w.heap.size, 0, none⟩) (u := .slice A5 (n1 + 1) c5) hob (by omega) (by show w.heap.size < N0; omega))
        have hM9 := (Hmem.out.on HBc.out).off H1c.out (by simp) (dtouch_set wb (p := ⟨w.heap.size, 0, none⟩) (.slice A5 (n1 + 1) c5))
        have HM9 := Lib.hid hM9
        have pc := H1c.out.cell 0
        have zc := H1c.out.frozen 0
        simp only [List.getElem?_toArray, List.getElem?_cons_zero] at pc
        have H1 : Hid (Blk (wb.setCell ⟨w.heap.size, 0, none⟩ (.slice A5 (n1 + 1) c5)) w.heap.size 33 #[.slice A5 (n1 + 1) c5, .slice a2 n2 c2, .slice a3 n3 c3, .slice a4 n4 c4, .int .i64 cap, .int .i64 ops, .int .i64 arm, .bool false]) := Lib.hid (by simpa using H1c.out.set_ 0 (.slice A5 (n1 + 1) c5))
        have H3 := Lib.hid (H3c.out.far (p := ⟨w.heap.size, 0, none⟩) (by show w.heap.size + 1 ≠ w.heap.size; omega) (.slice A5 (n1 + 1) c5))
        have HB0 := Lib.hid (HBc.out.setCell (p := ⟨w.heap.size, 0, none⟩) (Nat.le_refl _) (.slice A5 (n1 + 1) c5))
        clear H1b H3b HBb HOb HRb pb zb hgb hob hM9 HBc
        replace HA5 := Lib.hid (AN.mono (w3 := wb.setCell ⟨w.heap.size, 0, none⟩ (.slice A5 (n1 + 1) c5)) HA5.out (Nat.le_refl _) (by rw [World.size_setCell]; exact Nat.le_refl _))
        go_upto_region 12 with fail
        clear pc zc H1c H3c
        generalize wb.setCell ⟨w.heap.size, 0, none⟩ (.slice A5 (n1 + 1) c5) = X at *
        have HMX : Hid (DkMem X { files := fs ++ [([], [])], dir := dr, safe := sf, chg := cg, cap := cap, ops := ops, armed := arm, dead := false } ⟨A5, a2, a3, a4, c5, c2, c3, c4⟩) := Lib.hid ⟨by
          show Reads X X.heap.size 2 A5 (fs ++ [([], [])]).length (dcs ffc (fs ++ [([], [])]))
          rw [List.length_append, HL1.out, dcs_app]
          exact HQ.out.1, HM9.out.dir, HM9.out.safe, HM9.out.chg, by
          show (fs ++ [([], [])]).length ≤ c5
          rw [List.length_append, HL1.out]
          exact HQ.out.2, HM9.out.k2, HM9.out.k3, HM9.out.k4⟩
        have hch9 := Hch.out ⟨A5, a2, a3, a4, c5, c2, c3, c4⟩ X HMX.out
        dsimp only at hch9
        have Hch9 := Lib.hid hch9
        clear hch9 Hch
        have p0 := H1.out.cell 0; have p1 := H1.out.cell 1; have p2 := H1.out.cell 2; have p3 := H1.out.cell 3; have p4 := H1.out.cell 4; have p5 := H1.out.cell 5; have p6 := H1.out.cell 6; have p7 := H1.out.cell 7; simp only [List.getElem?_toArray, List.getElem?_cons_zero, List.getElem?_cons_succ] at p0 p1 p2 p3 p4 p5 p6 p7
        go_wp2_with (go_at_call 56; (with_reducible refine Hch9.out.mono ?_); rintro e w2 ⟨a5, rfl, hm5, hb2, hk5⟩; have HM5 := Lib.hid hm5; have HK5 := Lib.hid (DkN.trans (show DkN w w2 ⟨a1, a2, a3, a4, c1, c2, c3, c4⟩ ⟨A5, a2, a3, a4, c5, c2, c3, c4⟩ from ⟨(HA5.out.mono (Nat.le_refl _) hb2.size).up (.inl rfl), .inr (.inr (.inl rfl)), .inr (.inr (.inr (.inl rfl))), .inr (.inr (.inr (.inr (.inl rfl))))⟩) (hk5.mono (w := w) HB0.out.size (Nat.le_refl _))); clear hk5; clear Hch9; replace H1 := Lib.hid (H1.out.below hb2 H1.out.lt); replace H3 := Lib.hid (H3.out.below hb2 H3.out.lt); replace HB0 := Lib.hid (HB0.out.trans (hb2.mono HB0.out.size)); clear hb2; have q0 := H3.out.cell 0; have q1 := H3.out.cell 1; have q2 := H3.out.cell 2; have q3 := H3.out.cell 3; have q4 := H3.out.cell 4; have q5 := H3.out.cell 5; have q6 := H3.out.cell 6; have q7 := H3.out.cell 7; simp only [List.getElem?_toArray, List.getElem?_cons_zero, List.getElem?_cons_succ] at q0 q1 q2 q3 q4 q5 q6 q7; have v0 := H3.out.frozen 0; have v1 := H3.out.frozen 1; have v2 := H3.out.frozen 2; have v3 := H3.out.frozen 3; have v4 := H3.out.frozen 4; have v5 := H3.out.frozen 5; have v6 := H3.out.frozen 6; have v7 := H3.out.frozen 7)
        generalize hX9 : ((((((((w2.setCell ⟨w.heap.size + 1, 0, none⟩ (.slice a5.a1 F.files.length a5.c1)).setCell ⟨w.heap.size + 1, 1, none⟩ (.slice a5.a2 F.dir.length a5.c2)).setCell ⟨w.heap.size + 1, 2, none⟩ (.slice a5.a3 F.safe.length a5.c3)).setCell ⟨w.heap.size + 1, 3, none⟩ (.slice a5.a4 F.chg.length a5.c4)).setCell ⟨w.heap.size + 1, 4, none⟩ (.int .i64 F.cap)).setCell ⟨w.heap.size + 1, 5, none⟩ (.int .i64 F.ops)).setCell ⟨w.heap.size + 1, 6, none⟩ (.int .i64 F.armed)).setCell ⟨w.heap.size + 1, 7, none⟩ (.bool F.dead)) = X9
        obtain ⟨y1, y2⟩ := oset8 H3.out hX9
        have HB9 := HB0.out.trans (y2.below (fun k _ e => by omega) HB0.out.size)
        have x0 := y1.cell 0; have x1 := y1.cell 1; have x2 := y1.cell 2; have x3 := y1.cell 3; have x4 := y1.cell 4; have x5 := y1.cell 5; have x6 := y1.cell 6; have x7 := y1.cell 7; simp only [List.getElem?_toArray, List.getElem?_cons_zero, List.getElem?_cons_succ] at x0 x1 x2 x3 x4 x5 x6 x7
        refine bodyPost_ret (v := .tuple #[.agg #[.slice a5.a1 F.files.length a5.c1, .slice a5.a2 F.dir.length a5.c2, .slice a5.a3 F.safe.length a5.c3, .slice a5.a4 F.chg.length a5.c4, .int .i64 F.cap, .int .i64 F.ops, .int .i64 F.armed, .bool F.dead], .int .i64 R]) (by simp [results, Tryz.results21, go_sem, x0, x1, x2, x3, x4, x5, x6, x7]) rfl ?_
        exact ⟨a5, rfl, HM5.out.off H3.out (by simp) y2, HB9, HK5.out.late y2.size⟩
theorem dref_cre_any (D : Dk) (a : DAd) (s : List UInt8) (w : World) (hM : DkMem w D a) (hd : D.dir.length ≤ 1000000) (hx : s.length ≤ 1000000) (hc : D.chg.length ≤ 1000000) (hf : D.files.length ≤ 1000000) (ho : 0 ≤ D.ops ∧ D.ops ≤ 1000000) (ha : -9223372036854775808 ≤ D.armed ∧ D.armed < 9223372036854775808) : Calls Tryz.prog 21 #[.agg (dkc D a), .string ⟨s.toArray⟩] w fun e w' => DPost a w w' e (dcreateF D s) := by
  cases h1 : D.dead with
  | true => exact dref_cre_a D a s w hM hd hx h1
  | false =>
    by_cases h2 : nchkF s = 0
    · by_cases h3 : 0 ≤ D.find s
      · exact dref_cre_c D a s w hM hd hx h1 h2 h3
      · by_cases h4 : 200 ≤ D.dir.length
        · exact dref_cre_d D a s w hM hd hx h1 h2 h3 h4
        · exact dref_cre_e D a s w hM hd hx hc hf ho ha h1 h2 h3 h4
    · exact dref_cre_b D a s w hM hd hx h1 h2
end Go.Proofs.YtgoahcmgpjacjaaGreat
