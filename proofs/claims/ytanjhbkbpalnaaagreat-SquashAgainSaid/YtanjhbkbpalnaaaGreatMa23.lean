/-
 What the law of the last of these texts stands on, part 23.
-/
import Derived.Test.YtanjhbkbpalnaaaGreatMa18
set_option maxRecDepth 100000
set_option maxHeartbeats 8000000
open Go.Proofs.Tryz
namespace Go.Proofs.YtanjhbkbpalnaaaGreat
set_option linter.unusedSimpArgs false
set_option linter.unusedVariables false
open Go.ChangeShapes Go.WideShapes Go.ChangeAt Go.RowKit Go.Joins Go.Deep
theorem c_none_no (g : Nat) (w : World) (x : w.cell? ⟨g, 0, none⟩ = some (.bool true)) : Calls prog 127 #[.pointer (some ⟨g, 0, none⟩)] w fun e w' => e = .returned (.bool false) ∧ w = w' := by
 have hg := cell_lt x
 go_enter func127, ntmps127
 go_wp2
 go_ret
 exact ⟨rfl, rfl⟩
def ycO (ws : List (Int × Int)) (s : Int) : (Int × Int) × Int := if 0 ≤ s ∧ s < ws.length ∧ (ws.getD s.toNat (0, 0)).2 ≠ 0 then (ws.getD s.toNat (0, 0), 0) else ((0, 0), 70)
theorem pword_ref (ws : List (Int × Int)) (s : Int) : (ycO ws s).2 = (yaC ws s).2 ∧ ((ycO ws s).2 = 0 → (yaC ws s).1 = digI (ycO ws s).1.1 (ycO ws s).1.2 ∧ (ycO ws s).1 ∈ ws) := by
 unfold ycO yaC
 by_cases h : 0 ≤ s ∧ s < ws.length ∧ (ws.getD s.toNat (0, 0)).2 ≠ 0
 ·rw [qag h, qag h]
  refine ⟨rfl, fun _ => ⟨rfl, ?_⟩⟩
  have hl : s.toNat < ws.length := by omega
  show ws.getD s.toNat (0, 0) ∈ ws
  rw [qaj, qah hl]
  exact qaq hl
 ·rw [qae h, qae h]
  exact ⟨rfl, fun h => absurd h (by decide)⟩
def wordV (F : (Int × Int) × Int) : Value := .tuple #[.agg #[.int .i64 F.1.1, .int .i64 F.1.2], .int .i64 F.2]
theorem c_word_any (ls : List Nat) (B g : Nat) (s : Int) (w : World) (h : CCode w B g ls) (hl : ls.length ≤ 1000000) : Calls prog 151 #[.pointer (some ⟨g, 0, none⟩), .int .i64 s] w fun e w' => e = .returned (wordV (ycO (wat ls 16 0) s)) ∧ Below w.heap.size w w' := by
 have Hn : Hid (∀ W, Below w.heap.size w W → Calls prog 127 #[.pointer (some ⟨g, 0, none⟩)] W fun e w' => e = .returned (.bool false) ∧ W = w') := qaa fun W hW => c_none_no g W ((hW.cell (p := ⟨g, 0, none⟩) h.at.2).trans h.made)
 obtain ⟨b, hb, x1, hB⟩ := h.words
 have hg := h.at.2
 have hbl := hB.lt
 have hwl := yaD ls 16 0
 obtain ⟨F, hF⟩ : ∃ F, ycO (wat ls 16 0) s = F := ⟨_, rfl⟩
 rw [hF]
 unfold ycO at hF
 rw [hwl] at hF
 obtain ⟨n, hn⟩ : ∃ n, ls.length = n := ⟨_, rfl⟩
 rw [hn] at hF x1 hl hwl
 have hni : (n : Int) ≤ 1000000 := by omega
 clear h
 by_cases h0 : s < 0
 ·rw [qae (by omega)] at hF
  subst hF
  clear hB
  go_enter func151, ntmps151
  go_wp2_with (go_at_call 127; refine (Hn.out _ ((qak _ _).alloc (qad _) _)).mono ?_; rintro e w1 ⟨rfl, rfl⟩)
  refine qbw (v := .tuple #[.agg #[.int .i64 0, .int .i64 0], .int .i64 70]) (by simp [results, results151, go_sem]) rfl ⟨rfl, by go_grown⟩
 ·by_cases h1 : (n : Int) ≤ s
  ·rw [qae (by omega)] at hF
   subst hF
   clear hB
   go_enter func151, ntmps151
   go_wp2_with (go_at_call 127; refine (Hn.out _ ((qak _ _).alloc (qad _) _)).mono ?_; rintro e w1 ⟨rfl, rfl⟩)
   refine qbw (v := .tuple #[.agg #[.int .i64 0, .int .i64 0], .int .i64 70]) (by simp [results, results151, go_sem]) rfl ⟨rfl, by go_grown⟩
  ·obtain ⟨k, rfl⟩ := qaF (by omega : 0 ≤ s)
   have hk : k < n := by omega
   have hki : (0 : Int) ≤ (k : Int) ∧ (k : Int) < (n : Int) := by omega
   have hkw : k < (wat ls 16 0).length := by rw [hwl]; exact hk
   rw [qan, qaj, qah hkw, qbG] at hF
   have y1 := hB.cell (k * 2)
   rw [qaB, ydd .i64 _ k hkw] at y1
   have y2 := hB.cell (k * 2 + 1)
   rw [qaB, ycU .i64 _ k hkw] at y2
   clear hB
   generalize (wat ls 16 0)[k] = f at *
   obtain ⟨fn, fw⟩ := f
   dsimp only at y1 y2 hF
   by_cases hz : fw = 0
   ·rw [qae (fun h => h.2.2 hz)] at hF
    subst hF
    subst hz
    clear hkw hwl h0 h1
    go_enter func151, ntmps151
    go_wp2_with (go_at_call 127; refine (Hn.out _ ((qak _ _).alloc (qad _) _)).mono ?_; rintro e w1 ⟨rfl, rfl⟩)
    refine qbw (v := .tuple #[.agg #[.int .i64 0, .int .i64 0], .int .i64 70]) (by simp [results, results151, go_sem]) rfl ⟨rfl, by go_grown⟩
   ·rw [qag ⟨by omega, by omega, hz⟩] at hF
    subst hF
    have hz2 : (fw == (0 : Int)) = false := by simpa using hz
    clear hkw hwl h0 h1
    go_enter func151, ntmps151
    go_wp2_with (go_at_call 127; refine (Hn.out _ ((qak _ _).alloc (qad _) _)).mono ?_; rintro e w1 ⟨rfl, rfl⟩)
    refine qbw (v := .tuple #[.agg #[.int .i64 fn, .int .i64 fw], .int .i64 0]) (by simp [results, results151, go_sem]) rfl ⟨rfl, by go_grown⟩
theorem tref_bits_own (l : List Int) (A : Option Addr) (n c : Nat) (w : World) (hm : n ≤ 257) (hg : yde l = true) (hr : Reads w w.heap.size 1 A n (ints l)) :
  Calls prog 113 #[.slice A n c] w fun e w' => ∃ A' c', e = .returned (.slice A' (yaw l).length c') ∧ w'.ownsRow w.heap.size 3 1 (.slice A' (yaw l).length c') (yaw l).length (bcs (yaw l)) ∧ Below w.heap.size w w' := by
 obtain ⟨i0, hi, hz0, hz1, hz9⟩ := qb1 yhn
 have el : l.length = n := by have := hr.1; rw [yab] at this; omega
 have Hc : Hid (0 < n → ∃ b off, A = some ⟨b, off, none⟩ ∧ ∀ wr, Below w.heap.size w wr → ∀ k, (hk : k < l.length) → wr.cell? ⟨b, off + k, none⟩ = some (.int .i64 l[k])) := qaa fun h => by
  obtain ⟨b, off, e, hb, hc⟩ := hr.2 h
  exact ⟨b, off, e, fun wr hw k hk => (hw.cell (p := ⟨b, off + k, none⟩) hb).trans (hc k _ (yai l k hk))⟩
 have Hgood := qaa fun i hi => yaJ hg i hi
 have El := qaa el
 have hni : (n : Int) ≤ 257 := by omega
 clear hr hg el
 go_enter func113, ntmps113
 go_wp2
 go_loopw [3, 4, 5, 6, 7, 8, 9] (fun v ix kx dx okx gx oy wr => ∃ (i : Nat) (acc : List Nat), i ≤ n ∧ ix = .int .i64 i ∧ Hid (acc.length ≤ 67 * i) ∧ Hid (wr.ownsRow w.heap.size 3 1 v acc.length (bcs acc)) ∧ Hid (acc ++ yaw (l.drop i) = yaw l) ∧ Hid (Below w.heap.size w wr)) (fun _ ix _ _ _ _ _ _ => n - (intOf ix).toNat)
 case atStart => exact ⟨0, [], by omega, rfl, qaa (by simp), qaa (qbn _ _ _ _), qaa (by simp), qak _ _⟩
 case round =>
  obtain ⟨i, acc, hin, rfl, Hacc, Hown, HT, HB⟩ := hrel
  by_cases hlt : i < n
  ·have hii : (0 : Int) ≤ (i : Int) ∧ (i : Int) < (n : Int) := by omega
   have hil : i < l.length := by rw [El.out]; exact hlt
   obtain ⟨b, off, rfl, hcell⟩ := Hc.out (by omega)
   have Hcell := qaa hcell
   clear hcell
   obtain ⟨x, hxe⟩ : ∃ x, l[i] = x := ⟨_, rfl⟩
   have hgx := Hgood.out i hil
   rw [hxe] at hgx
   have hfit : fits x 4 := ⟨by omega, by omega, by omega, by show x < 16; omega⟩
   have Hrun : Hid (∀ k, i < k → k ≤ n → (∀ j (hj : j < l.length), i ≤ j → j < k → l[j] = x) → (∀ hj : k < l.length, l[k] ≠ x) → ∀ acc, acc ++ yaw (l.drop i) = yaw l → (acc ++ (digI x 4 ++ gam (k - i))) ++ yaw (l.drop k) = yaw l) := qaa fun k h1 h2 h3 h4 acc h5 => by
    rw [tbits_at l x i k h1 (by rw [El.out]; exact h2) h3 h4] at h5
    rw [← h5, qam]
    rfl
   have Hx1 : Hid (∀ W, Below w.heap.size w W → W.cell? ⟨b, off + i, none⟩ = some (.int .i64 x)) := qaa fun W hW => by
    have := Hcell.out W hW i hil
    rwa [hxe] at this
   have Hall0 : Hid (∀ j (hj : j < l.length), i ≤ j → j < i → l[j] = x) := qaa fun j hj a b => by omega
   have Hii : Hid (l[i] = x) := hxe
   clear Hc Hgood hxe hgx
   go_wp2
   go_loopw [5] (fun kx W => ∃ k : Nat, i ≤ k ∧ k ≤ n ∧ kx = .int .i64 k ∧ Hid (∀ j (hj : j < l.length), i ≤ j → j < k → l[j] = x) ∧ Hid (W.ownsRow w.heap.size 3 1 u3 acc.length (bcs acc)) ∧ Hid (Below w.heap.size w W)) (fun kx _ => n - (intOf kx).toNat)
   case atStart => exact ⟨i, by omega, by omega, rfl, Hall0, Hown, HB⟩
   case round =>
    obtain ⟨k, hik0, hkn, rfl, Hall, HO2, HB2⟩ := hrel
    have x1 := Hx1.out wr HB2.out
    by_cases hkt : k < n
    ·have hki : (0 : Int) ≤ (k : Int) ∧ (k : Int) < (n : Int) := by omega
     have hkl : k < l.length := by rw [El.out]; exact hkt
     have x2 := Hcell.out wr HB2.out k hkl
     by_cases hy : l[k] = x
     ·have Hall2 : Hid (∀ j (hj : j < l.length), i ≤ j → j < k + 1 → l[j] = x) := qaa fun j hj a b => by
       rcases qbe j k with h | h
       ·exact Hall.out j hj a h
       ·obtain rfl : j = k := by omega
        exact hy
      rw [hy] at x2
      have hb1 : (x == x) = true := by simp
      clear hy Hall Hrun
      go_wp2
      go_quiet (fail)
      go_wp2
      go_roundw
      case rel => exact ⟨k + 1, by omega, by omega, iv (by omega), Hall2, HO2.out, yaj HB2.out _⟩
      case measure => simp only [intOf]; omega
     ·have hstop : ∀ hj : k < l.length, l[k] ≠ x := fun _ => hy
      have hik : i < k := by
       rcases qbe i k with h | h
       ·exact h
       ·obtain rfl : k = i := by omega
        exact absurd Hii.out hy
      obtain ⟨y, hye⟩ : ∃ y, l[k] = y := ⟨_, rfl⟩
      have hb1 : (y == x) = false := by rw [← hye]; simpa using hy
      rw [hye] at x2
      clear hye hy
      have Hst := qaa (Hrun.out k hik hkn Hall.out hstop acc HT.out)
      have hdk : (k : Int) - (i : Int) = ((k - i : Nat) : Int) := by omega
      obtain ⟨d, hd⟩ : ∃ d, k - i = d := ⟨_, rfl⟩
      rw [hd] at hdk Hst
      have hdn : 1 ≤ d ∧ d ≤ 257 := by omega
      have Hgam := qaa fun W => yfD (d : Int) W (by unfold hasG; omega)
      rw [qan] at Hgam
      have Hdig := qaa fun W => ydx x 4 W hfit
      have hdl : (digI x 4).length = 4 := by unfold digI; rw [yad]; rfl
      have hgl := gam_len d (by omega) (by omega)
      have HAc := Hacc.out
      have hlk : 67 * i + 67 ≤ 67 * k := by omega
      clear Hall hstop hd hik Hrun
      generalize digI x 4 = D at *
      generalize gam d = G at *
      obtain ⟨gl, hgle⟩ : ∃ gl, G.length = gl := ⟨_, rfl⟩
      rw [hgle] at Hgam hgl
      have HGl := qaa hgle
      have HDl := qaa hdl
      clear hgle hdl
      obtain ⟨al, hal⟩ : ∃ al, acc.length = al := ⟨_, rfl⟩
      rw [hal] at HO2 HAc
      have Hal := qaa hal
      clear hal Hown Hacc
      go_wp2
      go_quiet (fail)
      have HOd : Hid ((wr.drewN nq).ownsRow w.heap.size 3 1 u3 al (bcs acc)) := qaa HO2.out
      have HBd : Hid (Below w.heap.size w (wr.drewN nq)) := qaa (yaj HB2.out nq)
      clear HO2 HB2 x1
      generalize wr.drewN nq = Wd at *
      have x1 := Hx1.out Wd HBd.out
      have hsz0 := HBd.out.size
      go_wp2_with (first
       | (go_at_call 156; refine (Hdig.out _).mono ?_; rintro e w2 ⟨g, rfl, hB2, hg2, hb2⟩; have HBg := qaa hB2; have Hb2 := qaa hb2; have hz2 := hb2.size; clear hB2 hb2)
       | (go_at_call 157; refine (Hgam.out _).mono ?_; rintro e w3 ⟨Ag, cg, rfl, ho3, hb3⟩; have Ho3 := qaa ho3; have Hb3 := qaa hb3; have hz3 := hb3.size; clear ho3 hb3)
       | (at_builtin; refine yaf _ rfl _ _ 28 rfl w.heap.size 3 i0 (.int .i64 0) 1 8 underlying28 hi hz0 hz1 hz9 rfl (by decide) _ _ _ rfl (yah (yah HOd.out Hb2.out (qad _)) Hb3.out (qad _)) _ 4 4 _ _ rfl (yeS _ (Blk.below HBg.out Hb3.out HBg.out.lt) 4 (by rw [ydE]; exact HDl.out)) ?c1 ?c2 ?c3 ?c4 ?_))
      case c1 => exact yfl _
      case c2 => unfold maxLen; omega
      case c3 => omega
      case c4 => omega
      intro v4 w4 ho4 hg4 _
      have Ho4 := qaa ho4
      have Hb4 : Hid (Below w.heap.size w w4) := qaa (((HBd.out.trans (Hb2.out.mono hsz0)).trans (Hb3.out.mono (by omega))).grown hg4 (by omega) (fun b hb => (HOd.out.lt b hb).1))
      have Ho5 := qaa (yay Ho3.out (yaF hg4) fun b hb e => by
       have h1 := (Ho3.out.lt b hb).1
       have h2 := (HOd.out.lt b e.symm).2
       omega)
      have hsz4 : w.heap.size ≤ w4.heap.size := Hb4.out.size
      obtain ⟨Ag2, cg2, eg, _, hrg⟩ := yae Ho5.out
      injection eg with eg1 _ eg2
      subst eg1 eg2
      have Hrg := qaa hrg
      clear ho4 hg4 hrg HOd Ho3
      go_wp2_with (at_builtin; refine yaf _ rfl _ _ 28 rfl w.heap.size 3 i0 (.int .i64 0) 1 8 underlying28 hi hz0 hz1 hz9 rfl (by decide) _ _ _ rfl Ho4.out _ gl _ _ _ rfl Hrg.out ?d1 ?d2 ?d3 ?d4 ?_)
      case d1 => exact yfl _
      case d2 => unfold maxLen; omega
      case d3 => omega
      first
       | (case d4 => exact hsz4)
       | skip
      intro v6 w6 ho6 hg6 _
      have Ho6 : Hid (w6.ownsRow w.heap.size 3 1 v6 (acc ++ (D ++ G)).length (bcs (acc ++ (D ++ G)))) := qaa (by
       have e : (acc ++ (D ++ G)).length = al + 4 + gl := by rw [qab, qab, Hal.out, HDl.out, HGl.out]; omega
       rw [e, ybG, ybG]
       first
        | exact ho6
        | (rw [← qam]; exact ho6))
      have Hb6 : Hid (Below w.heap.size w w6) := qaa (Hb4.out.grown hg6 hsz4 (fun b hb => (Ho4.out.lt b hb).1))
      have Hlen : Hid ((acc ++ (D ++ G)).length ≤ 67 * k) := qaa (by
       rw [qab, qab, Hal.out, HDl.out, HGl.out]
       omega)
      clear ho6 hg6
      go_wp2
      go_roundw
      case rel => exact ⟨k, acc ++ (D ++ G), hkn, rfl, Hlen, Ho6, Hst, Hb6⟩
      case measure => simp only [intOf]; omega
    ·obtain rfl : k = n := by omega
     have hki : ¬ (k : Int) < (k : Int) := by omega
     have hstop : ∀ hj : k < l.length, l[k] ≠ x := fun hj => absurd hj (by rw [El.out]; omega)
     have hik : i < k := hlt
     have Hst := qaa (Hrun.out k hik hkn Hall.out hstop acc HT.out)
     have hdk : (k : Int) - (i : Int) = ((k - i : Nat) : Int) := by omega
     obtain ⟨d, hd⟩ : ∃ d, k - i = d := ⟨_, rfl⟩
     rw [hd] at hdk Hst
     have hdn : 1 ≤ d ∧ d ≤ 257 := by omega
     have Hgam := qaa fun W => yfD (d : Int) W (by unfold hasG; omega)
     rw [qan] at Hgam
     have Hdig := qaa fun W => ydx x 4 W hfit
     have hdl : (digI x 4).length = 4 := by unfold digI; rw [yad]; rfl
     have hgl := gam_len d (by omega) (by omega)
     have HAc := Hacc.out
     have hlk : 67 * i + 67 ≤ 67 * k := by omega
     clear Hall hstop hd hik Hrun
     generalize digI x 4 = D at *
     generalize gam d = G at *
     obtain ⟨gl, hgle⟩ : ∃ gl, G.length = gl := ⟨_, rfl⟩
     rw [hgle] at Hgam hgl
     have HGl := qaa hgle
     have HDl := qaa hdl
     clear hgle hdl
     obtain ⟨al, hal⟩ : ∃ al, acc.length = al := ⟨_, rfl⟩
     rw [hal] at HO2 HAc
     have Hal := qaa hal
     clear hal Hown Hacc
     go_wp2
     go_quiet (fail)
     have HOd : Hid ((wr.drewN nq).ownsRow w.heap.size 3 1 u3 al (bcs acc)) := qaa HO2.out
     have HBd : Hid (Below w.heap.size w (wr.drewN nq)) := qaa (yaj HB2.out nq)
     clear HO2 HB2 x1
     generalize wr.drewN nq = Wd at *
     have x1 := Hx1.out Wd HBd.out
     have hsz0 := HBd.out.size
     go_wp2_with (first
      | (go_at_call 156; refine (Hdig.out _).mono ?_; rintro e w2 ⟨g, rfl, hB2, hg2, hb2⟩; have HBg := qaa hB2; have Hb2 := qaa hb2; have hz2 := hb2.size; clear hB2 hb2)
      | (go_at_call 157; refine (Hgam.out _).mono ?_; rintro e w3 ⟨Ag, cg, rfl, ho3, hb3⟩; have Ho3 := qaa ho3; have Hb3 := qaa hb3; have hz3 := hb3.size; clear ho3 hb3)
      | (at_builtin; refine yaf _ rfl _ _ 28 rfl w.heap.size 3 i0 (.int .i64 0) 1 8 underlying28 hi hz0 hz1 hz9 rfl (by decide) _ _ _ rfl (yah (yah HOd.out Hb2.out (qad _)) Hb3.out (qad _)) _ 4 4 _ _ rfl (yeS _ (Blk.below HBg.out Hb3.out HBg.out.lt) 4 (by rw [ydE]; exact HDl.out)) ?f1 ?f2 ?f3 ?f4 ?_))
     case f1 => exact yfl _
     case f2 => unfold maxLen; omega
     case f3 => omega
     case f4 => omega
     intro v4 w4 ho4 hg4 _
     have Ho4 := qaa ho4
     have Hb4 : Hid (Below w.heap.size w w4) := qaa (((HBd.out.trans (Hb2.out.mono hsz0)).trans (Hb3.out.mono (by omega))).grown hg4 (by omega) (fun b hb => (HOd.out.lt b hb).1))
     have Ho5 := qaa (yay Ho3.out (yaF hg4) fun b hb e => by
      have h1 := (Ho3.out.lt b hb).1
      have h2 := (HOd.out.lt b e.symm).2
      omega)
     have hsz4 : w.heap.size ≤ w4.heap.size := Hb4.out.size
     obtain ⟨Ag2, cg2, eg, _, hrg⟩ := yae Ho5.out
     injection eg with eg1 _ eg2
     subst eg1 eg2
     have Hrg := qaa hrg
     clear ho4 hg4 hrg HOd Ho3
     go_wp2_with (at_builtin; refine yaf _ rfl _ _ 28 rfl w.heap.size 3 i0 (.int .i64 0) 1 8 underlying28 hi hz0 hz1 hz9 rfl (by decide) _ _ _ rfl Ho4.out _ gl _ _ _ rfl Hrg.out ?g1 ?g2 ?g3 ?g4 ?_)
     case g1 => exact yfl _
     case g2 => unfold maxLen; omega
     case g3 => omega
     first
      | (case g4 => exact hsz4)
      | skip
     intro v6 w6 ho6 hg6 _
     have Ho6 : Hid (w6.ownsRow w.heap.size 3 1 v6 (acc ++ (D ++ G)).length (bcs (acc ++ (D ++ G)))) := qaa (by
      have e : (acc ++ (D ++ G)).length = al + 4 + gl := by rw [qab, qab, Hal.out, HDl.out, HGl.out]; omega
      rw [e, ybG, ybG]
      first
       | exact ho6
       | (rw [← qam]; exact ho6))
     have Hb6 : Hid (Below w.heap.size w w6) := qaa (Hb4.out.grown hg6 hsz4 (fun b hb => (Ho4.out.lt b hb).1))
     have Hlen : Hid ((acc ++ (D ++ G)).length ≤ 67 * k) := qaa (by
      rw [qab, qab, Hal.out, HDl.out, HGl.out]
      omega)
     clear ho6 hg6
     go_wp2
     go_roundw
     case rel => exact ⟨k, acc ++ (D ++ G), hkn, rfl, Hlen, Ho6, Hst, Hb6⟩
     case measure => simp only [intOf]; omega
  ·obtain rfl : i = n := by omega
   have hii : ¬ (i : Int) < (i : Int) := by omega
   have ht := HT.out
   rw [qaH (by rw [El.out]; exact qad _)] at ht
   have hO := Hown.out
   have e : acc = yaw l := by rw [← ht]; simp [yaw]
   rw [e] at hO
   obtain ⟨At, ct, rfl, _, hrt⟩ := yae hO
   have Hrt := qaa hO
   clear hrt hO ht e
   go_wp2
   go_ret
   exact ⟨At, ct, rfl, Hrt.out, HB.out⟩
def CGet2 (w w' : World) (e : Ending) (gr : Nat) (l : List UInt8) (p : Nat) (F : Int × Int × Int) : Prop := e = .returned (.tuple #[.int .i64 F.1, .int .i64 F.2.2]) ∧ RHold w' gr l (p + F.2.1.toNat) ∧ Touch w w' (fun k => k = gr)
theorem RHold.below {w w' : World} {g B p : Nat} {l : List UInt8} (h : RHold w g l p) (hb : Below B w w') (hg : g < B) : RHold w' g l p := Blk.below h hb hg
theorem cget_after {w wr w5 : World} (hB : Below w.heap.size w wr) (ht : Touch wr w5 (fun k => k = w.heap.size)) : Below w.heap.size w w5 := hB.trans (ht.below (fun k _ e => by omega) hB.size)
theorem c_get_far (ls : List Nat) (ok : Nat → Prop) (g gr : Nat) (l : List UInt8) (p : Nat) (w : World) (hfar : CFar w g ls ok) (h15 : ∀ x ∈ ls, x ≤ 15) (hca : call ls ≤ 32768) (hD : yaA ls ls.length = 1 ∨ call ls = 32768) (hlen : ls.length ≤ 257) (hgr : ¬ ok gr) (hR : RHold w gr l p) (hl : l.length ≤ 1099511627776) (hp : p ≤ 8 * l.length) :
  Calls prog 89 #[.pointer (some ⟨g, 0, none⟩), .pointer (some ⟨gr, 0, none⟩)] w fun e w' => CGet2 w w' e gr l p (ybl (wat ls 16 0) (yag l) p) := by
 obtain ⟨B, hBw, h⟩ := hfar.code
 have Hfar : ∀ W, Touch w W (fun k => k = gr) → ∃ B2, B2 ≤ W.heap.size ∧ CCode W B2 g ls := fun W hW => (hfar.touch hW (fun k hk e => hgr (e ▸ hk))).code
 have Hn : Hid (Calls prog 127 #[.pointer (some ⟨g, 0, none⟩)] w fun e w' => e = .returned (.bool false) ∧ w = w') := qaa (c_none_no g w h.made)
 obtain ⟨c1, c2, z1, z2⟩ := Blk.two hR
 have hgl := Blk.lt hR
 have hpi : (p : Int) ≤ 8796093022208 := by omega
 have hbin : Bin ((yag l).drop p) := fun d hd => yc8 l d (qbg hd)
 have hRl : ((yag l).drop p).length = 8 * l.length - p := by rw [qas, yax]
 obtain ⟨F, hF⟩ : ∃ F, ybl (wat ls 16 0) (yag l) p = F := ⟨_, rfl⟩
 rw [hF]
 unfold ybl at hF
 have hE : (yag l).drop p = [] → (if p = (yag l).length then (4 : Int) else 40) = 4 := fun e => by
  rw [qag]
  have := qbC List.length e
  rw [qas, qbx] at this
  rw [yax] at this ⊢
  omega
 have hE2 : (yag l).drop p ≠ [] → (if p = (yag l).length then (4 : Int) else 40) = 40 := fun e => by
  rw [qae]
  intro e2
  exact e (qaH (by omega))
 have hg1 := yc0 (ls := ls) ls.length
 have hg2 := yeF (ls := ls) (fun s hs => h15 _ (qaq hs)) ls.length (qad _)
 have hg3 : ∀ s (hs : s < ls.length), ls[s] ≤ yaA ls ls.length := fun s hs => cdeep_ge _ (qad _) s hs hs
 -- what is found
 have Hshort : Hid (∀ wd, 0 < wd → wd ≤ yaA ls ls.length → 8 * l.length - p + 1 = wd → cpos ls wd 0 ≤ v15 ((yag l).drop p) → F = (0, 0, 4)) := qaa fun wd a1 a2 a3 a4 => by
  rw [← hF]
  exact cgo_short h15 hca hbin wd _ a1 a2 (by rw [hRl]; exact a3) a4 hD _ hE
 have Hhit : Hid (∀ wd k s : Nat, 0 < wd → wd ≤ yaA ls ls.length → wd ≤ 8 * l.length - p → num (((yag l).drop p).take wd) = cst ls wd + k → (crow ls ls.length wd)[k]? = some s → F = ((s : Int), (wd : Int), 0)) := qaa fun wd k s a1 a2 a3 a4 a5 => by
  rw [← hF]
  exact cgo_hit h15 hca hbin _ wd a1 (by omega) (by rw [hRl]; exact a3) k s a4 a5
 have Hmiss : Hid (∀ wd, wd ≤ yaA ls ls.length → wd ≤ 8 * l.length - p → cst ls wd + (crow ls ls.length wd).length ≤ num (((yag l).drop p).take wd) → cpos ls (wd + 1) 0 ≤ v15 ((yag l).drop p)) := qaa fun wd a1 a2 a3 => cgo_miss hbin wd (by omega) (by rw [hRl]; exact a2) a3
 have Hle : Hid (∀ wd, wd ≤ yaA ls ls.length → wd ≤ 8 * l.length - p → cpos ls wd 0 ≤ v15 ((yag l).drop p) → cst ls wd ≤ num (((yag l).drop p).take wd)) := qaa fun wd a1 a2 a3 => cgo_le hbin wd (by omega) (by rw [hRl]; exact a2) a3
 have Hend : Hid (yaA ls ls.length ≤ 8 * l.length - p → cpos ls (yaA ls ls.length + 1) 0 ≤ v15 ((yag l).drop p) → F = (0, 0, 40)) := qaa fun a1 a2 => by
  rw [← hF, cgo_end h15 hca hbin _ hg1 hg2 hg3 (by rw [hRl]; exact a1) a2, hE2]
  intro e
  rw [e, qbx] at hRl
  omega
 have Hnum : Hid (∀ m, m < 8 * l.length - p → ∃ b, b ≤ 1 ∧ num (((yag l).drop (p + m)).take 1) = b ∧ num (((yag l).drop p).take (m + 1)) = 2 * num (((yag l).drop p).take m) + b) := qaa fun m hm => by
  have hm2 : m < ((yag l).drop p).length := by rw [hRl]; exact hm
  refine ⟨((yag l).drop p)[m], ?_, ?_, cgo_num m hm2⟩
  ·have := hbin _ (qaq hm2)
   omega
  ·rw [← qbt]
   exact cgo_bit hbin m hm2
 have Hbig : Hid (∀ m, m ≤ 15 → num (((yag l).drop p).take m) < 32768) := qaa fun m hm => by
  have h1 := ydN (l := ((yag l).drop p).take m) fun d hd => hbin d (qaN hd)
  have h2 : (2 : Nat) ^ (((yag l).drop p).take m).length ≤ 2 ^ 15 := qa0 (by omega) (by rw [qao]; omega)
  omega
 have Hstl : Hid (∀ j, j ≤ 15 → cst ls j ≤ 32768) := qaa fun j hj => cst_le j hj hca
 have Hcnt : Hid (∀ j, (crow ls ls.length j).length ≤ 257) := qaa fun j => by
  have := yei (ls := ls) ls.length j
  omega
 have hPos : cpos ls 1 0 = 0 := by rw [← ycu 0 ls.length (qad _)]; exact ycz _
 have Hpos : Hid (cpos ls 1 0 ≤ v15 ((yag l).drop p)) := qaa (by rw [hPos]; exact qcb _)
 -- the code's cells in a later world
 have Hdeep : Hid (∀ W, Touch w W (fun k => k = gr) → W.cell? ⟨g, 34, none⟩ = some (.int .i64 (yaA ls ls.length : Nat)) ∧ g < W.heap.size) := qaa fun W hW => by
  obtain ⟨B2, _, h2⟩ := Hfar W hW
  exact ⟨h2.deep, h2.at.2⟩
 have Hstart : Hid (∀ W, Touch w W (fun k => k = gr) → ∀ j, 1 ≤ j → j ≤ yaA ls ls.length → W.cell? ⟨g, 2 + j, none⟩ = some (.int .i64 (cst ls j : Int))) := qaa fun W hW j a1 a2 => by
  obtain ⟨B2, _, h2⟩ := Hfar W hW
  exact h2.start j a1 a2 (by omega)
 have Hrow : Hid (∀ W, Touch w W (fun k => k = gr) → ∀ j, j < 16 → ∃ A c, W.cell? ⟨g, 18 + j, none⟩ = some (.slice A (crow ls ls.length j).length c) ∧ (0 < (crow ls ls.length j).length → ∃ b off, A = some ⟨b, off, none⟩ ∧ b < W.heap.size ∧ ∀ k s : Nat, (crow ls ls.length j)[k]? = some s → W.cell? ⟨b, off + k, none⟩ = some (.int .i64 (s : Int)))) := qaa fun W hW j a1 => by
  obtain ⟨B2, hb2, h2⟩ := Hfar W hW
  obtain ⟨A, c, e1, e2⟩ := h2.row j a1
  refine ⟨A, c, e1, fun hn => ?_⟩
  obtain ⟨b, off, e3, hb, e4⟩ := e2 hn
  exact ⟨b, off, e3, qaZ hb hb2, e4⟩
 have HR := qaa hR
 have hPL : 8 * l.length - p ≤ 8796093022208 := by omega
 have Hget : Hid (∀ W (ga m : Nat), m + 1 ≤ 8 * l.length - p → RHold W ga l (p + m) → Calls prog 128 #[.pointer (some ⟨ga, 0, none⟩), .int .i64 1] W fun e w' => e = .returned (.tuple #[.int .i64 (num (((yag l).drop (p + m)).take 1)), .int .i64 0]) ∧ RHold w' ga l (p + m + 1) ∧ Touch W w' (fun k => k = ga)) := qaa fun W ga m hm hH => get_yes l (p + m) 1 ga W hl (by omega) (by omega) hH
 have Hno := qaa fun W (ga : Nat) (hH : RHold W ga l (p + (8 * l.length - p))) => get_no l (p + (8 * l.length - p)) ga 1 4 W hl (by omega) hH (by
  unfold ybq
  rw [qae (by omega), qag (by rw [yax]; omega)]) (by omega)
 have Hmove := qaa fun W (wd : Nat) (hm : wd ≤ 8 * l.length - p) (hw : wd ≤ 15) (hH : RHold W gr l p) => get_yes l p wd gr W hl (by omega) (by omega) hH
 clear h hfar Hfar hBw h15 hca hD hlen hR hl hp hF hE hE2 hbin hRl hg3 hPos
 generalize yaA ls ls.length = D at *
 generalize 8 * l.length - p = M at *
 have hDi : (1 : Int) ≤ (D : Int) ∧ (D : Int) ≤ 15 := by omega
 go_enter func89, ntmps89
 go_wp2_with (go_at_call 127; refine Hn.out.mono ?_; rintro e w1 ⟨rfl, rfl⟩)
 have HA0 : Hid (RHold (w.alloc (.cells #[.string ⟨l.toArray⟩, .int .i64 p] 174)) w.heap.size l (p + 0)) := qaa (Blk.new w _ _)
 have HB0 : Hid (Below w.heap.size w (w.alloc (.cells #[.string ⟨l.toArray⟩, .int .i64 p] 174))) := qaa ((qak _ _).alloc (qad _) _)
 generalize w.alloc (.cells #[.string ⟨l.toArray⟩, .int .i64 p] 174) = wz at *
 go_loopw [7, 8, 9, 10, 11] (fun nx wx bx ex kx W => ∃ (m wd N : Nat), m + 1 = wd ∧ m ≤ D ∧ m ≤ M ∧ nx = .int .i64 N ∧ wx = .int .i64 wd ∧ Hid (num (((yag l).drop p).take m) = N) ∧ Hid (cpos ls wd 0 ≤ v15 ((yag l).drop p)) ∧ Hid (RHold W w.heap.size l (p + m)) ∧ Hid (Below w.heap.size w W)) (fun _ wx _ _ _ _ => D + 1 - (intOf wx).toNat)
 case atStart => exact ⟨0, 1, 0, by omega, by omega, by omega, rfl, rfl, qaa rfl, Hpos, HA0, HB0⟩
 case round =>
  obtain ⟨m, wd, N, hwd, hmD, hmM, rfl, rfl, HN, HV, HA, HB⟩ := hrel
  clear HA0 HB0 Hpos
  have hBW : Touch w wr (fun k => k = gr) := yal HB.out (qad _)
  obtain ⟨x1, x2⟩ := Hdeep.out wr hBW
  have HBW := qaa hBW
  clear hBW
  by_cases hlt : wd ≤ D
  ·have hwi : (wd : Int) ≤ (D : Int) := by omega
   by_cases hend : m = M
   ·subst hend
    have Hf := qaa (Hshort.out wd (by omega) hlt hwd HV.out)
    have Hn2 := qaa (Hno.out wr w.heap.size HA.out)
    clear Hno Hget Hmove Hstart Hrow Hnum
    go_wp2_with (go_at_call 128; refine Hn2.out.mono ?_; rintro e w5 ⟨rfl, k5, rfl⟩)
    go_ret2
    rw [Hf.out]
    have hb2 : Below w.heap.size w (wr.drewN k5) := yaj HB.out _
    exact ⟨rfl, Blk.below HR.out hb2 hgl, yal hb2 (qad _)⟩
   ·have hm1 : m + 1 ≤ M := by omega
    have hwM : wd ≤ M := by omega
    have hw15 : wd ≤ 15 := by omega
    have hw16 : wd < 16 := by omega
    obtain ⟨b, hb1, hb2, hb3⟩ := Hnum.out m (by omega)
    have Hg := qaa fun hH => Hget.out wr w.heap.size m hm1 hH
    rw [hb2] at Hg
    have hN1 := Hbig.out m (by omega)
    have hL := Hle.out wd hlt hwM HV.out
    have hst := Hstl.out wd hw15
    have hcnt := Hcnt.out wd
    have hH := fun k s => Hhit.out wd k s (by omega) hlt hwM
    have hMs := Hmiss.out wd hlt hwM
    rw [HN.out, hwd] at hb3
    rw [hb3] at hL hH hMs
    rw [HN.out] at hN1
    obtain ⟨q, hq⟩ : ∃ q, 2 * N + b - cst ls wd = q := ⟨_, rfl⟩
    have Hst2 := qaa fun W2 hW2 => Hstart.out W2 hW2 wd (by omega) hlt
    have Hrow2 := qaa fun W2 hW2 => Hrow.out W2 hW2 wd hw16
    have Hh := qaa hH
    have Hm := qaa hMs
    have HN2 : Hid (num (((yag l).drop p).take (m + 1)) = 2 * N + b) := qaa (by rw [hwd]; exact hb3)
    have Hmv := qaa fun W2 hH => Hmove.out W2 wd hwM hw15 hH
    clear Hget Hno Hmove Hstart Hrow Hnum Hshort Hhit Hmiss Hle hb2 hb3 hH hMs Hbig
    generalize num (((yag l).drop p).take wd) = NW at *
    obtain ⟨C, hC⟩ : ∃ C, crow ls ls.length wd = C := ⟨_, rfl⟩
    rw [hC] at Hrow2 Hh Hm hcnt
    have hCC := qaa hC
    clear hC
    obtain ⟨cn, hcn⟩ : ∃ cn, C.length = cn := ⟨_, rfl⟩
    rw [hcn] at Hrow2 Hm hcnt
    have Hcn := qaa hcn
    clear hcn
    generalize cst ls wd = st at *
    have hk : 2 * (N : Int) + (b : Int) - (st : Int) = (q : Int) := by omega
    have hbi : (0 : Int) ≤ (b : Int) ∧ (b : Int) ≤ 1 ∧ (N : Int) < 32768 ∧ (st : Int) ≤ 32768 ∧ (cn : Int) ≤ 257 := by omega
    by_cases hqc : q < cn
    ·have hqi : (0 : Int) ≤ (q : Int) ∧ (q : Int) < (cn : Int) := by omega
     obtain ⟨sy, hsy⟩ : ∃ sy, C[q]? = some sy := ⟨_, qah (by rw [Hcn.out]; exact hqc)⟩
     have Hf := qaa (Hh.out q sy (by omega) hsy)
     have Hrow3 : Hid (∀ W2, Touch w W2 (fun k => k = gr) → ∃ b off c, W2.cell? ⟨g, 18 + wd, none⟩ = some (.slice (some ⟨b, off, none⟩) cn c) ∧ W2.cell? ⟨b, off + q, none⟩ = some (.int .i64 (sy : Int))) := qaa fun W2 hW2 => by
      obtain ⟨A, c, e1, e2⟩ := Hrow2.out W2 hW2
      obtain ⟨b, off, rfl, _, e3⟩ := e2 (by omega)
      exact ⟨b, off, c, e1, e3 q sy hsy⟩
     clear Hrow2 hsy Hm Hh hq hL
     go_wp2_with (first
      | (go_at_call 128; (with_reducible refine (Hg.out HA.out).mono ?_); rintro e w5 ⟨rfl, hr5, ht5⟩; have Hb5 := qaa (cget_after HB.out ht5); clear hr5 ht5; have y1 := Hst2.out w5 (yal Hb5.out (qad _)); obtain ⟨b5, o5, c5, y2, _⟩ := Hrow3.out w5 (yal Hb5.out (qad _)); obtain ⟨y3, y4⟩ := Hdeep.out w5 (yal Hb5.out (qad _)))
      | (go_at_call 128; (with_reducible refine (Hmv.out w5 (RHold.below HR.out Hb5.out hgl)).mono ?_); rintro e w6 ⟨rfl, hr6, ht6⟩; have Hr6 := qaa hr6; have Ht6 := qaa ht6; clear hr6 ht6; obtain ⟨b6, o6, c6, y5, y6⟩ := Hrow3.out w6 ((yal Hb5.out (qad _)).trans Ht6.out); obtain ⟨y7, y8⟩ := Hdeep.out w6 ((yal Hb5.out (qad _)).trans Ht6.out)))
     go_ret2
     rw [Hf.out]
     exact ⟨rfl, Hr6.out, (yal Hb5.out (qad _)).trans Ht6.out⟩
    ·have hqi : ¬ (q : Int) < (cn : Int) := by omega
     have HV2 := qaa (Hm.out (by omega))
     have Hrow3 : Hid (∀ W2, Touch w W2 (fun k => k = gr) → ∃ A c, W2.cell? ⟨g, 18 + wd, none⟩ = some (.slice A cn c)) := qaa fun W2 hW2 => by
      obtain ⟨A, c, e1, _⟩ := Hrow2.out W2 hW2
      exact ⟨A, c, e1⟩
     clear Hrow2 Hm Hh hq hL
     go_wp2_with (go_at_call 128; (with_reducible refine (Hg.out HA.out).mono ?_); rintro e w5 ⟨rfl, hr5, ht5⟩; have Hb5 := qaa (cget_after HB.out ht5); have Ha5 := qaa hr5; clear hr5 ht5; have y1 := Hst2.out w5 (yal Hb5.out (qad _)); obtain ⟨A5, c5, y2⟩ := Hrow3.out w5 (yal Hb5.out (qad _)); obtain ⟨y3, y4⟩ := Hdeep.out w5 (yal Hb5.out (qad _)))
     go_roundw
     case rel => exact ⟨m + 1, wd + 1, 2 * N + b, by omega, by omega, by omega, iv (by omega), iv (by omega), HN2, HV2, Ha5, Hb5⟩
     case measure => simp only [intOf]; omega
  ·obtain rfl : wd = D + 1 := by omega
   have hwi : ¬ ((D + 1 : Nat) : Int) ≤ (D : Int) := by omega
   have Hf := qaa (Hend.out (by omega) HV.out)
   go_wp2
   go_ret2
   rw [Hf.out]
   exact ⟨rfl, Blk.below HR.out HB.out hgl, yal HB.out (qad _)⟩
end Go.Proofs.YtanjhbkbpalnaaaGreat
