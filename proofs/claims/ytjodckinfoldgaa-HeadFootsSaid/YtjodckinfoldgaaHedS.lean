/-
  Layer 21, the document's: get, Get (ahead of the code's landing).
-/
import Derived.Test.YtjodckinfoldgaaHedR
import Derived.Test.YtjodckinfoldgaaVarP
import Derived.Test.YtjodckinfoldgaaMore
import Derived.OwnWalk
namespace Go.Proofs.Ytjodckinfoldgaa
set_option linter.unusedSimpArgs false
set_option linter.unusedVariables false
open Go.ChangeShapes Go.WideShapes Go.ChangeAt Go.RowKit Go.Joins Go.Deep
theorem hint_info : (Try.prog.info? 3).map (fun i => (i.zero, i.size, i.bytes)) = some (some (.int .i64 0), 1, 8) := by kernel_rfl
def HGP (w w' : World) (e : Ending) (G : List Int × Int × Int) : Prop := ∃ A c, e = .returned (.tuple #[.slice A G.1.length c, .int .i64 G.2.1, .int .i64 G.2.2]) ∧ Reads w' w'.heap.size 1 A G.1.length (ints G.1) ∧ Below w.heap.size w w'
set_option maxRecDepth 100000 in
set_option maxHeartbeats 4000000 in
theorem href_gets_any (l : List UInt8) (p : Int) (n : Nat) (w : World) (hl : l.length ≤ 1000000) (hn : n ≤ 1000) :
    Calls Try.prog 32 #[.string ⟨l.toArray⟩, .int .i64 p, .int .i64 (n : Int)] w fun e w' => HGP w w' e (gets l n p []) := by
  obtain ⟨i0, hi, hz0, hz1, hz2⟩ := info_parts hint_info
  have Hl := Lib.hid hl
  obtain ⟨r, hr⟩ : ∃ r, gets l n p [] = r := ⟨_, rfl⟩
  have HR := Lib.hid hr
  rw [hr]
  clear hl hr
  go_enter Try.func32, Try.ntmps32
  go_wp2
  go_loopw [1, 9, 10, 11, 12, 13] (fun atv v iv _ _ _ wr => ∃ (k : Nat) (q : Int) (acc : List Int), k ≤ n ∧ iv = .int .i64 (k : Int) ∧ atv = .int .i64 q ∧ Hid (acc.length = k) ∧ Hid (wr.ownsRow w.heap.size 3 1 v acc.length (ints acc)) ∧ Hid (Below w.heap.size w wr) ∧ Hid (gets l (n - k) q acc = r)) (fun _ _ iv _ _ _ _ => n - (intOf iv).toNat)
  case atStart => exact ⟨0, p, [], by omega, rfl, rfl, rfl, World.ownsRow_nil _ _ _ _, Below.refl _ _, Lib.hid HR.out⟩
  case round =>
    obtain ⟨k, q, acc, hk, rfl, rfl, Hacc, Hown, Hb, Hg⟩ := hrel
    by_cases hlt : k < n
    · obtain ⟨n', t', e', hq'⟩ : ∃ n' t' e', getF l q = (n', t', e') := ⟨_, _, _, rfl⟩
      have hget := refGet_any l q wr (by have := Hl.out; omega)
      rw [hq'] at hget
      unfold trip at hget
      dsimp only at hget
      have hstep : gets l (n - k) q acc = if e' = 0 then gets l (n - (k + 1)) t' (acc ++ [n']) else ([], 0, e') := by
        rw [show n - k = (n - (k + 1)) + 1 from by omega, gets, hq']
      have hki : (0 : Int) ≤ (k : Int) ∧ (k : Int) < (n : Int) := by omega
      have hszr := Hb.out.size
      have HG := Lib.hid hget
      clear hget hq'
      by_cases he' : e' = 0
      · subst he'
        have Hnext : Hid (gets l (n - (k + 1)) t' (acc ++ [n']) = r) := Lib.hid (by rw [← Hg.out, hstep]; rfl)
        clear hstep Hg
        go_wp2_with (first
          | (go_at_call 44; (with_reducible refine HG.out.mono ?_); rintro e w1 ⟨rfl, rfl⟩)
          | (at_builtin; refine wpList_append_own _ rfl _ _ 60 rfl w.heap.size 3 i0 (.int .i64 0) 1 8 Try.underlying60 hi hz0 hz1 hz2 rfl (by decide) _ _ _ rfl (Hown.out.alloc _) ⟨wr.heap.size, 0, none⟩ 1 1 [.int .i64 n'] rfl rfl ?c1 ?c2 ?c3 ?c4 ?c5 ?_))
        case c1 =>
          intro j u hj
          match j, hj with
          | 0, hj => simp at hj; subst hj; simp [Addr.add]
        case c2 => intro u hu; simp at hu; subst hu; rfl
        case c3 => have := Hacc.out; unfold maxLen; omega
        case c4 => have := Hacc.out; omega
        case c5 => simp; omega
        · intro v' w1 hown' hgrow _
          have hb' : Below w.heap.size w w1 := (Below.trans Hb.out (by go_grown)).grown hgrow (by simp; omega) (fun g hg => (Hown.out.lt g hg).1)
          have Hb' := Lib.hid hb'
          have hown2 : w1.ownsRow w.heap.size 3 1 v' (acc ++ [n']).length (ints (acc ++ [n'])) := by
            have e1 : (acc ++ [n']).length = acc.length + 1 := by simp
            have e2 : ints (acc ++ [n']) = ints acc ++ [.int .i64 n'] := by simp [ints]
            rw [e1, e2]
            exact hown'
          have Hown' := Lib.hid hown2
          clear hown' hgrow hb' hown2
          go_wp2
          go_roundw
          case rel => exact ⟨k + 1, t', acc ++ [n'], by omega, iv (by omega), rfl, Lib.hid (by have := Hacc.out; simp; omega), Hown', Hb', Hnext⟩
          case measure => simp only [intOf]; omega
      · have Hend : Hid (r = ([], 0, e')) := Lib.hid (by rw [← Hg.out, hstep, if_neg he'])
        have hq : (e' == 0) = false := by rw [beq_eq_false_iff_ne]; exact he'
        have hend := Hend.out
        clear hstep Hg Hend HR
        subst hend
        go_wp2_with (first
          | (go_at_call 44; (with_reducible refine HG.out.mono ?_); rintro e w1 ⟨rfl, rfl⟩) | fail)
        go_ret3
        unfold HGP
        exact ⟨none, 0, rfl, Reads.none_, Hb.out⟩
    · obtain rfl : k = n := by omega
      have hz : ¬ (k : Int) < (k : Int) := by omega
      have Hend : Hid (r = (acc, q, 0)) := Lib.hid (by rw [← Hg.out, Nat.sub_self]; rfl)
      obtain ⟨A, c, hv, hc, hrd⟩ := owns_cells Hown.out
      have Hrd := Lib.hid hrd
      clear Hg hrd hlt
      subst hv
      have hend := Hend.out
      clear Hend HR
      subst hend
      go_wp2
      go_ret3
      unfold HGP
      exact ⟨A, c, rfl, Hrd.out, Hb.out⟩
theorem hstored {W : World} {g : Nat} {t : TypeId} {x0 x1 x2 : Value} (h : Blk W g t #[x0, x1, x2]) (a b c : Value) :
    (W.setCell ⟨g, 0, none⟩ a).cell? ⟨g, 0, none⟩ = some a ∧ ((W.setCell ⟨g, 0, none⟩ a).setCell ⟨g, 1, none⟩ b).cell? ⟨g, 1, none⟩ = some b ∧ (((W.setCell ⟨g, 0, none⟩ a).setCell ⟨g, 1, none⟩ b).setCell ⟨g, 2, none⟩ c).cell? ⟨g, 2, none⟩ = some c :=
  ⟨(h.set_ 0 a).cell 0, ((h.set_ 0 a).set_ 1 b).cell 1, (((h.set_ 0 a).set_ 1 b).set_ 2 c).cell 2⟩
theorem hstored_below {W w : World} {g : Nat} (hb : Below w.heap.size w W) (hg : w.heap.size ≤ g) (a b c : Value) : Below w.heap.size w (((W.setCell ⟨g, 0, none⟩ a).setCell ⟨g, 1, none⟩ b).setCell ⟨g, 2, none⟩ c) :=
  ((hb.setCell (p := ⟨g, 0, none⟩) hg _).setCell (p := ⟨g, 1, none⟩) hg _).setCell (p := ⟨g, 2, none⟩) hg _
set_option maxRecDepth 100000 in
set_option maxHeartbeats 4000000 in
theorem href_hget_a (s : List UInt8) (w : World) (hs : s.length ≤ 1000000) (G : List Int × Int × Int) (hG : gets s 3 0 [] = G) (h : G.2.2 ≠ 0) : Calls Try.prog 11 #[.string ⟨s.toArray⟩] w fun e w' => e = .returned (.tuple #[.agg #[.int .i64 0, .int .i64 0, .int .i64 0], .int .i64 G.2.2]) ∧ Below w.heap.size w w' := by
  have P : Hid (∀ W, Calls Try.prog 32 #[.string ⟨s.toArray⟩, .int .i64 0, .int .i64 3] W fun e w' => HGP W w' e (gets s 3 0 [])) := Lib.hid fun W => href_gets_any s 0 3 W hs (by omega)
  obtain ⟨g, to, er⟩ := G
  rw [hG] at P
  dsimp only at *
  have HX := Lib.hid (Blk.new w 23 #[.int .i64 0, .int .i64 0, .int .i64 0])
  have HB := Lib.hid ((Below.refl w.heap.size w).alloc (Nat.le_refl _) (.cells #[.int .i64 0, .int .i64 0, .int .i64 0] 23))
  have hq : (er == 0) = false := by rw [beq_eq_false_iff_ne]; exact h
  clear hG h hs
  go_enter Try.func11, Try.ntmps11
  go_wp2_with (first | (go_at_call 32; (with_reducible refine (P.out _).mono ?_); unfold HGP; rintro e w1 ⟨A, c, rfl, hr, hb1⟩; replace HX := Lib.hid (HX.out.below hb1 HX.out.lt); replace HB := Lib.hid (HB.out.trans (hb1.mono HB.out.size)); have HR := Lib.hid hr; clear hb1 hr; have x0 := HX.out.cell 0; have x1 := HX.out.cell 1; have x2 := HX.out.cell 2; have z0 := HX.out.frozen 0; have z1 := HX.out.frozen 1; have z2 := HX.out.frozen 2; simp only [List.getElem?_toArray, List.getElem?_cons_zero, List.getElem?_cons_succ] at x0 x1 x2) | fail)
  obtain ⟨q0, q1, q2⟩ := hstored HX.out (.int .i64 0) (.int .i64 0) (.int .i64 0)
  refine bodyPost_ret (v := .tuple #[.agg #[.int .i64 0, .int .i64 0, .int .i64 0], .int .i64 er]) (by simp [results, Try.results11, go_sem, q0, q1, q2]) rfl ⟨rfl, hstored_below HB.out (Nat.le_refl _) _ _ _⟩
set_option maxRecDepth 100000 in
set_option maxHeartbeats 4000000 in
theorem href_hget_b (s : List UInt8) (w : World) (hs : s.length ≤ 1000000) (G : List Int × Int × Int) (hG : gets s 3 0 [] = G) (h : G.2.2 = 0) (h2 : G.2.1 < s.length) : Calls Try.prog 11 #[.string ⟨s.toArray⟩] w fun e w' => e = .returned (.tuple #[.agg #[.int .i64 0, .int .i64 0, .int .i64 0], .int .i64 6]) ∧ Below w.heap.size w w' := by
  have P : Hid (∀ W, Calls Try.prog 32 #[.string ⟨s.toArray⟩, .int .i64 0, .int .i64 3] W fun e w' => HGP W w' e (gets s 3 0 [])) := Lib.hid fun W => href_gets_any s 0 3 W hs (by omega)
  obtain ⟨g, to, er⟩ := G
  rw [hG] at P
  dsimp only at *
  have HX := Lib.hid (Blk.new w 23 #[.int .i64 0, .int .i64 0, .int .i64 0])
  have HB := Lib.hid ((Below.refl w.heap.size w).alloc (Nat.le_refl _) (.cells #[.int .i64 0, .int .i64 0, .int .i64 0] 23))
  subst h
  clear hG hs
  go_enter Try.func11, Try.ntmps11
  go_wp2_with (first | (go_at_call 32; (with_reducible refine (P.out _).mono ?_); unfold HGP; rintro e w1 ⟨A, c, rfl, hr, hb1⟩; replace HX := Lib.hid (HX.out.below hb1 HX.out.lt); replace HB := Lib.hid (HB.out.trans (hb1.mono HB.out.size)); have HR := Lib.hid hr; clear hb1 hr; have x0 := HX.out.cell 0; have x1 := HX.out.cell 1; have x2 := HX.out.cell 2; have z0 := HX.out.frozen 0; have z1 := HX.out.frozen 1; have z2 := HX.out.frozen 2; simp only [List.getElem?_toArray, List.getElem?_cons_zero, List.getElem?_cons_succ] at x0 x1 x2) | fail)
  obtain ⟨q0, q1, q2⟩ := hstored HX.out (.int .i64 0) (.int .i64 0) (.int .i64 0)
  refine bodyPost_ret (v := .tuple #[.agg #[.int .i64 0, .int .i64 0, .int .i64 0], .int .i64 6]) (by simp [results, Try.results11, go_sem, q0, q1, q2]) rfl ⟨rfl, hstored_below HB.out (Nat.le_refl _) _ _ _⟩
set_option maxRecDepth 100000 in
set_option maxHeartbeats 4000000 in
theorem href_hget_c (s : List UInt8) (w : World) (hs : s.length ≤ 1000000) (a b c : Int) (to : Int) (hG : gets s 3 0 [] = ([a, b, c], to, 0)) (h2 : ¬ to < s.length) (hk : hdok (a, b, c) = true) : Calls Try.prog 11 #[.string ⟨s.toArray⟩] w fun e w' => e = .returned (.tuple #[.agg #[.int .i64 a, .int .i64 b, .int .i64 c], .int .i64 0]) ∧ Below w.heap.size w w' := by
  have P : Hid (∀ W, Calls Try.prog 32 #[.string ⟨s.toArray⟩, .int .i64 0, .int .i64 3] W fun e w' => HGP W w' e (gets s 3 0 [])) := Lib.hid fun W => href_gets_any s 0 3 W hs (by omega)
  rw [hG] at P
  have C := Lib.hid fun W => href_chk_any (a, b, c) W
  unfold hchkF hdc at C
  rw [if_pos hk] at C
  dsimp only at C
  have HX := Lib.hid (Blk.new w 23 #[.int .i64 0, .int .i64 0, .int .i64 0])
  have HB := Lib.hid ((Below.refl w.heap.size w).alloc (Nat.le_refl _) (.cells #[.int .i64 0, .int .i64 0, .int .i64 0] 23))
  clear hG hs hk
  go_enter Try.func11, Try.ntmps11
  go_wp2_with (first | (go_at_call 32; (with_reducible refine (P.out _).mono ?_); unfold HGP; rintro e w1 ⟨A, cc, rfl, hr, hb1⟩; replace HX := Lib.hid (HX.out.below hb1 HX.out.lt); replace HB := Lib.hid (HB.out.trans (hb1.mono HB.out.size)); have HR := Lib.hid hr; clear hb1 hr; have x0 := HX.out.cell 0; have x1 := HX.out.cell 1; have x2 := HX.out.cell 2; have z0 := HX.out.frozen 0; have z1 := HX.out.frozen 1; have z2 := HX.out.frozen 2; simp only [List.getElem?_toArray, List.getElem?_cons_zero, List.getElem?_cons_succ] at x0 x1 x2) | fail)
  obtain ⟨b0, off, hA, hlt, hcell⟩ := HR.out.2 (by simp)
  subst hA
  have r0 := hcell 0 (.int .i64 a) rfl
  have r1 := hcell 1 (.int .i64 b) rfl
  have r2 := hcell 2 (.int .i64 c) rfl
  rw [Nat.add_zero] at r0
  clear hcell HR
  go_region
  have HY := Lib.hid (Blk.new w1 23 #[.int .i64 a, .int .i64 b, .int .i64 c]).drew
  have HX2 := Lib.hid (HX.out.alloc (.cells #[.int .i64 a, .int .i64 b, .int .i64 c] 23)).drew
  have HB2 := Lib.hid (HB.out.alloc HB.out.size (.cells #[.int .i64 a, .int .i64 b, .int .i64 c] 23)).drew
  clear x0 x1 x2 z0 z1 z2 r0 r1 r2 HX HB hlt
  go_wp2_with (first | (go_at_call 13; (with_reducible refine (C.out _).mono ?_); rintro e w2 ⟨rfl, hb2⟩; have HX := Lib.hid (HX2.out.below hb2 HX2.out.lt); replace HY := Lib.hid (HY.out.below hb2 HY.out.lt); have HB := Lib.hid (HB2.out.trans (hb2.mono HB2.out.size)); clear hb2 HX2 HB2; have x0 := HX.out.cell 0; have x1 := HX.out.cell 1; have x2 := HX.out.cell 2; have z0 := HX.out.frozen 0; have z1 := HX.out.frozen 1; have z2 := HX.out.frozen 2; simp only [List.getElem?_toArray, List.getElem?_cons_zero, List.getElem?_cons_succ] at x0 x1 x2; have y0 := HY.out.cell 0; have y1 := HY.out.cell 1; have y2 := HY.out.cell 2; simp only [List.getElem?_toArray, List.getElem?_cons_zero, List.getElem?_cons_succ] at y0 y1 y2) | fail)
  obtain ⟨q0, q1, q2⟩ := hstored HX.out (.int .i64 a) (.int .i64 b) (.int .i64 c)
  refine bodyPost_ret (v := .tuple #[.agg #[.int .i64 a, .int .i64 b, .int .i64 c], .int .i64 0]) (by simp [results, Try.results11, go_sem, q0, q1, q2]) rfl ⟨rfl, hstored_below HB.out (Nat.le_refl _) _ _ _⟩
set_option maxRecDepth 100000 in
set_option maxHeartbeats 4000000 in
theorem href_hget_d (s : List UInt8) (w : World) (hs : s.length ≤ 1000000) (a b c : Int) (to : Int) (hG : gets s 3 0 [] = ([a, b, c], to, 0)) (h2 : ¬ to < s.length) (hk : hdok (a, b, c) = false) : Calls Try.prog 11 #[.string ⟨s.toArray⟩] w fun e w' => e = .returned (.tuple #[.agg #[.int .i64 0, .int .i64 0, .int .i64 0], .int .i64 210]) ∧ Below w.heap.size w w' := by
  have P : Hid (∀ W, Calls Try.prog 32 #[.string ⟨s.toArray⟩, .int .i64 0, .int .i64 3] W fun e w' => HGP W w' e (gets s 3 0 [])) := Lib.hid fun W => href_gets_any s 0 3 W hs (by omega)
  rw [hG] at P
  have C := Lib.hid fun W => href_chk_any (a, b, c) W
  unfold hchkF hdc at C
  rw [if_neg (by rw [hk]; decide)] at C
  dsimp only at C
  have HX := Lib.hid (Blk.new w 23 #[.int .i64 0, .int .i64 0, .int .i64 0])
  have HB := Lib.hid ((Below.refl w.heap.size w).alloc (Nat.le_refl _) (.cells #[.int .i64 0, .int .i64 0, .int .i64 0] 23))
  clear hG hs hk
  go_enter Try.func11, Try.ntmps11
  go_wp2_with (first | (go_at_call 32; (with_reducible refine (P.out _).mono ?_); unfold HGP; rintro e w1 ⟨A, cc, rfl, hr, hb1⟩; replace HX := Lib.hid (HX.out.below hb1 HX.out.lt); replace HB := Lib.hid (HB.out.trans (hb1.mono HB.out.size)); have HR := Lib.hid hr; clear hb1 hr; have x0 := HX.out.cell 0; have x1 := HX.out.cell 1; have x2 := HX.out.cell 2; have z0 := HX.out.frozen 0; have z1 := HX.out.frozen 1; have z2 := HX.out.frozen 2; simp only [List.getElem?_toArray, List.getElem?_cons_zero, List.getElem?_cons_succ] at x0 x1 x2) | fail)
  obtain ⟨b0, off, hA, hlt, hcell⟩ := HR.out.2 (by simp)
  subst hA
  have r0 := hcell 0 (.int .i64 a) rfl
  have r1 := hcell 1 (.int .i64 b) rfl
  have r2 := hcell 2 (.int .i64 c) rfl
  rw [Nat.add_zero] at r0
  clear hcell HR
  go_region
  have HY := Lib.hid (Blk.new w1 23 #[.int .i64 a, .int .i64 b, .int .i64 c]).drew
  have HX2 := Lib.hid (HX.out.alloc (.cells #[.int .i64 a, .int .i64 b, .int .i64 c] 23)).drew
  have HB2 := Lib.hid (HB.out.alloc HB.out.size (.cells #[.int .i64 a, .int .i64 b, .int .i64 c] 23)).drew
  clear x0 x1 x2 z0 z1 z2 r0 r1 r2 HX HB hlt
  go_wp2_with (first | (go_at_call 13; (with_reducible refine (C.out _).mono ?_); rintro e w2 ⟨rfl, hb2⟩; have HX := Lib.hid (HX2.out.below hb2 HX2.out.lt); replace HY := Lib.hid (HY.out.below hb2 HY.out.lt); have HB := Lib.hid (HB2.out.trans (hb2.mono HB2.out.size)); clear hb2 HX2 HB2; have x0 := HX.out.cell 0; have x1 := HX.out.cell 1; have x2 := HX.out.cell 2; have z0 := HX.out.frozen 0; have z1 := HX.out.frozen 1; have z2 := HX.out.frozen 2; simp only [List.getElem?_toArray, List.getElem?_cons_zero, List.getElem?_cons_succ] at x0 x1 x2; have y0 := HY.out.cell 0; have y1 := HY.out.cell 1; have y2 := HY.out.cell 2; simp only [List.getElem?_toArray, List.getElem?_cons_zero, List.getElem?_cons_succ] at y0 y1 y2) | fail)
  obtain ⟨q0, q1, q2⟩ := hstored HX.out (.int .i64 0) (.int .i64 0) (.int .i64 0)
  refine bodyPost_ret (v := .tuple #[.agg #[.int .i64 0, .int .i64 0, .int .i64 0], .int .i64 210]) (by simp [results, Try.results11, go_sem, q0, q1, q2]) rfl ⟨rfl, hstored_below HB.out (Nat.le_refl _) _ _ _⟩
theorem href_hget_any (s : List UInt8) (w : World) (hs : s.length ≤ 1000000) : Calls Try.prog 11 #[.string ⟨s.toArray⟩] w fun e w' => e = .returned (.tuple #[.agg (hdc (hgetF s).1), .int .i64 (hgetF s).2]) ∧ Below w.heap.size w w' := by
  unfold hgetF
  by_cases h1 : (gets s 3 0 []).2.2 ≠ 0
  · rw [if_pos h1]
    exact href_hget_a s w hs _ rfl h1
  rw [if_neg h1]
  by_cases h2 : (gets s 3 0 []).2.1 < s.length
  · rw [if_pos h2]
    exact href_hget_b s w hs _ rfl (by simpa using h1) h2
  rw [if_neg h2]
  obtain ⟨l, e1, e2, -⟩ := gets_acc s 3 0 [] (by simpa using h1) (Int.le_refl _) (by omega)
  rw [List.nil_append] at e1
  match l, e2 with
  | [a, b, c], _ =>
    have hG : gets s 3 0 [] = ([a, b, c], (gets s 3 0 []).2.1, 0) := by
      obtain ⟨x, y, z⟩ : ∃ x y z, gets s 3 0 [] = (x, y, z) := ⟨_, _, _, rfl⟩
      generalize gets s 3 0 [] = G at *
      obtain ⟨g, to, er⟩ := G
      dsimp only at *
      rw [e1, show er = 0 from by simpa using h1]
    rw [e1]
    cases hk : hdok (hof [a, b, c]) with
    | true =>
      rw [if_pos rfl]
      exact href_hget_c s w hs a b c _ hG h2 hk
    | false =>
      rw [if_neg (by decide)]
      exact href_hget_d s w hs a b c _ hG h2 hk
end Go.Proofs.Ytjodckinfoldgaa
