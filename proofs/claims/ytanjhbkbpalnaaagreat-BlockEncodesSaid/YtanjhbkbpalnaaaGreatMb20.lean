/-
 What the law of the last of these texts stands on, part 20.
-/
import Derived.Test.YtanjhbkbpalnaaaGreatMb12
set_option maxRecDepth 100000
set_option maxHeartbeats 8000000
open Go.Proofs.Tryz
namespace Go.Proofs.YtanjhbkbpalnaaaGreat
set_option linter.unusedSimpArgs false
set_option linter.unusedVariables false
open Go.ChangeShapes Go.WideShapes Go.ChangeAt Go.RowKit Go.Joins Go.Deep
theorem tref_bits_own (l : List Int) (A : Option Addr) (n c : Nat) (w : World) (hm : n ≤ 257) (hg : ydq l = true) (hr : Reads w w.heap.size 1 A n (ints l)) :
  Calls prog 113 #[.slice A n c] w fun e w' => ∃ A' c', e = .returned (.slice A' (ya3 l).length c') ∧ w'.ownsRow w.heap.size 3 1 (.slice A' (ya3 l).length c') (ya3 l).length (bcs (ya3 l)) ∧ Below w.heap.size w w' := by
 obtain ⟨i0, hi, hz0, hz1, hz9⟩ := qbn ygb
 have el : l.length = n := by have := hr.1; rw [yae] at this; omega
 have Hc : Hid (0 < n → ∃ b off, A = some ⟨b, off, none⟩ ∧ ∀ wr, Below w.heap.size w wr → ∀ k, (hk : k < l.length) → wr.cell? ⟨b, off + k, none⟩ = some (.int .i64 l[k])) := qaa fun h => by
  obtain ⟨b, off, e, hb, hc⟩ := hr.2 h
  exact ⟨b, off, e, fun wr hw k hk => (hw.cell (p := ⟨b, off + k, none⟩) hb).trans (hc k _ (yak l k hk))⟩
 have Hgood := qaa fun i hi => yaY hg i hi
 have El := qaa el
 have hni : (n : Int) ≤ 257 := by omega
 clear hr hg el
 go_enter func113, ntmps113
 go_wp2
 go_loopw [3, 4, 5, 6, 7, 8, 9] (fun v ix kx dx okx gx oy wr => ∃ (i : Nat) (acc : List Nat), i ≤ n ∧ ix = .int .i64 i ∧ Hid (acc.length ≤ 67 * i) ∧ Hid (wr.ownsRow w.heap.size 3 1 v acc.length (bcs acc)) ∧ Hid (acc ++ ya3 (l.drop i) = ya3 l) ∧ Hid (Below w.heap.size w wr)) (fun _ ix _ _ _ _ _ _ => n - (intOf ix).toNat)
 case atStart => exact ⟨0, [], by omega, rfl, qaa (by simp), qaa (qbg _ _ _ _), qaa (by simp), qaj _ _⟩
 case round =>
  obtain ⟨i, acc, hin, rfl, Hacc, Hown, HT, HB⟩ := hrel
  by_cases hlt : i < n
  ·have hii : (0 : Int) ≤ (i : Int) ∧ (i : Int) < (n : Int) := by omega
   have hil : i < l.length := by rw [El.out]; exact hlt
   obtain ⟨b, off, rfl, hcell⟩ := Hc.out (by omega)
   have Hcell := qaa hcell
   clear hcell
   obtain ⟨x, hxe⟩ : ∃ x, l[i] = x := ⟨_, rfl⟩
   have hgx := Hgood.out i hil
   rw [hxe] at hgx
   have hfit : fits x 4 := ⟨by omega, by omega, by omega, by show x < 16; omega⟩
   have Hrun : Hid (∀ k, i < k → k ≤ n → (∀ j (hj : j < l.length), i ≤ j → j < k → l[j] = x) → (∀ hj : k < l.length, l[k] ≠ x) → ∀ acc, acc ++ ya3 (l.drop i) = ya3 l → (acc ++ (digI x 4 ++ gam (k - i))) ++ ya3 (l.drop k) = ya3 l) := qaa fun k h1 h2 h3 h4 acc h5 => by
    rw [tbits_at l x i k h1 (by rw [El.out]; exact h2) h3 h4] at h5
    rw [← h5, qak]
    rfl
   have Hx1 : Hid (∀ W, Below w.heap.size w W → W.cell? ⟨b, off + i, none⟩ = some (.int .i64 x)) := qaa fun W hW => by
    have := Hcell.out W hW i hil
    rwa [hxe] at this
   have Hall0 : Hid (∀ j (hj : j < l.length), i ≤ j → j < i → l[j] = x) := qaa fun j hj a b => by omega
   have Hii : Hid (l[i] = x) := hxe
   clear Hc Hgood hxe hgx
   go_wp2
   go_loopw [5] (fun kx W => ∃ k : Nat, i ≤ k ∧ k ≤ n ∧ kx = .int .i64 k ∧ Hid (∀ j (hj : j < l.length), i ≤ j → j < k → l[j] = x) ∧ Hid (W.ownsRow w.heap.size 3 1 u3 acc.length (bcs acc)) ∧ Hid (Below w.heap.size w W)) (fun kx _ => n - (intOf kx).toNat)
   case atStart => exact ⟨i, by omega, by omega, rfl, Hall0, Hown, HB⟩
   case round =>
    obtain ⟨k, hik0, hkn, rfl, Hall, HO2, HB2⟩ := hrel
    have x1 := Hx1.out wr HB2.out
    by_cases hkt : k < n
    ·have hki : (0 : Int) ≤ (k : Int) ∧ (k : Int) < (n : Int) := by omega
     have hkl : k < l.length := by rw [El.out]; exact hkt
     have x2 := Hcell.out wr HB2.out k hkl
     by_cases hy : l[k] = x
     ·have Hall2 : Hid (∀ j (hj : j < l.length), i ≤ j → j < k + 1 → l[j] = x) := qaa fun j hj a b => by
       rcases qaZ j k with h | h
       ·exact Hall.out j hj a h
       ·obtain rfl : j = k := by omega
        exact hy
      rw [hy] at x2
      have hb1 : (x == x) = true := by simp
      clear hy Hall Hrun
      go_wp2
      go_quiet (fail)
      go_wp2
      go_roundw
      case rel => exact ⟨k + 1, by omega, by omega, iv (by omega), Hall2, HO2.out, yaj HB2.out _⟩
      case measure => simp only [intOf]; omega
     ·have hstop : ∀ hj : k < l.length, l[k] ≠ x := fun _ => hy
      have hik : i < k := by
       rcases qaZ i k with h | h
       ·exact h
       ·obtain rfl : k = i := by omega
        exact absurd Hii.out hy
      obtain ⟨y, hye⟩ : ∃ y, l[k] = y := ⟨_, rfl⟩
      have hb1 : (y == x) = false := by rw [← hye]; simpa using hy
      rw [hye] at x2
      clear hye hy
      have Hst := qaa (Hrun.out k hik hkn Hall.out hstop acc HT.out)
      have hdk : (k : Int) - (i : Int) = ((k - i : Nat) : Int) := by omega
      obtain ⟨d, hd⟩ : ∃ d, k - i = d := ⟨_, rfl⟩
      rw [hd] at hdk Hst
      have hdn : 1 ≤ d ∧ d ≤ 257 := by omega
      have Hgam := qaa fun W => yeU (d : Int) W (by unfold hasG; omega)
      rw [qap] at Hgam
      have Hdig := qaa fun W => ydb x 4 W hfit
      have hdl : (digI x 4).length = 4 := by unfold digI; rw [yai]; rfl
      have hgl := gam_len d (by omega) (by omega)
      have HAc := Hacc.out
      have hlk : 67 * i + 67 ≤ 67 * k := by omega
      clear Hall hstop hd hik Hrun
      generalize digI x 4 = D at *
      generalize gam d = G at *
      obtain ⟨gl, hgle⟩ : ∃ gl, G.length = gl := ⟨_, rfl⟩
      rw [hgle] at Hgam hgl
      have HGl := qaa hgle
      have HDl := qaa hdl
      clear hgle hdl
      obtain ⟨al, hal⟩ : ∃ al, acc.length = al := ⟨_, rfl⟩
      rw [hal] at HO2 HAc
      have Hal := qaa hal
      clear hal Hown Hacc
      go_wp2
      go_quiet (fail)
      have HOd : Hid ((wr.drewN nq).ownsRow w.heap.size 3 1 u3 al (bcs acc)) := qaa HO2.out
      have HBd : Hid (Below w.heap.size w (wr.drewN nq)) := qaa (yaj HB2.out nq)
      clear HO2 HB2 x1
      generalize wr.drewN nq = Wd at *
      have x1 := Hx1.out Wd HBd.out
      have hsz0 := HBd.out.size
      go_wp2_with (first
       | (go_at_call 156; refine (Hdig.out _).mono ?_; rintro e w2 ⟨g, rfl, hB2, hg2, hb2⟩; have HBg := qaa hB2; have Hb2 := qaa hb2; have hz2 := hb2.size; clear hB2 hb2)
       | (go_at_call 157; refine (Hgam.out _).mono ?_; rintro e w3 ⟨Ag, cg, rfl, ho3, hb3⟩; have Ho3 := qaa ho3; have Hb3 := qaa hb3; have hz3 := hb3.size; clear ho3 hb3)
       | (at_builtin; refine yaf _ rfl _ _ 28 rfl w.heap.size 3 i0 (.int .i64 0) 1 8 underlying28 hi hz0 hz1 hz9 rfl (by decide) _ _ _ rfl (yah (yah HOd.out Hb2.out (qaf _)) Hb3.out (qaf _)) _ 4 4 _ _ rfl (ydS _ (Blk.below HBg.out Hb3.out HBg.out.lt) 4 (by rw [ydk]; exact HDl.out)) ?c1 ?c2 ?c3 ?c4 ?_))
      case c1 => exact yey _
      case c2 => unfold maxLen; omega
      case c3 => omega
      case c4 => omega
      intro v4 w4 ho4 hg4 _
      have Ho4 := qaa ho4
      have Hb4 : Hid (Below w.heap.size w w4) := qaa (((HBd.out.trans (Hb2.out.mono hsz0)).trans (Hb3.out.mono (by omega))).grown hg4 (by omega) (fun b hb => (HOd.out.lt b hb).1))
      have Ho5 := qaa (ya5 Ho3.out (yaN hg4) fun b hb e => by
       have h1 := (Ho3.out.lt b hb).1
       have h2 := (HOd.out.lt b e.symm).2
       omega)
      have hsz4 : w.heap.size ≤ w4.heap.size := Hb4.out.size
      obtain ⟨Ag2, cg2, eg, _, hrg⟩ := yad Ho5.out
      injection eg with eg1 _ eg2
      subst eg1 eg2
      have Hrg := qaa hrg
      clear ho4 hg4 hrg HOd Ho3
      go_wp2_with (at_builtin; refine yaf _ rfl _ _ 28 rfl w.heap.size 3 i0 (.int .i64 0) 1 8 underlying28 hi hz0 hz1 hz9 rfl (by decide) _ _ _ rfl Ho4.out _ gl _ _ _ rfl Hrg.out ?d1 ?d2 ?d3 ?d4 ?_)
      case d1 => exact yey _
      case d2 => unfold maxLen; omega
      case d3 => omega
      first
       | (case d4 => exact hsz4)
       | skip
      intro v6 w6 ho6 hg6 _
      have Ho6 : Hid (w6.ownsRow w.heap.size 3 1 v6 (acc ++ (D ++ G)).length (bcs (acc ++ (D ++ G)))) := qaa (by
       have e : (acc ++ (D ++ G)).length = al + 4 + gl := by rw [qae, qae, Hal.out, HDl.out, HGl.out]; omega
       rw [e, ybC, ybC]
       first
        | exact ho6
        | (rw [← qak]; exact ho6))
      have Hb6 : Hid (Below w.heap.size w w6) := qaa (Hb4.out.grown hg6 hsz4 (fun b hb => (Ho4.out.lt b hb).1))
      have Hlen : Hid ((acc ++ (D ++ G)).length ≤ 67 * k) := qaa (by
       rw [qae, qae, Hal.out, HDl.out, HGl.out]
       omega)
      clear ho6 hg6
      go_wp2
      go_roundw
      case rel => exact ⟨k, acc ++ (D ++ G), hkn, rfl, Hlen, Ho6, Hst, Hb6⟩
      case measure => simp only [intOf]; omega
    ·obtain rfl : k = n := by omega
     have hki : ¬ (k : Int) < (k : Int) := by omega
     have hstop : ∀ hj : k < l.length, l[k] ≠ x := fun hj => absurd hj (by rw [El.out]; omega)
     have hik : i < k := hlt
     have Hst := qaa (Hrun.out k hik hkn Hall.out hstop acc HT.out)
     have hdk : (k : Int) - (i : Int) = ((k - i : Nat) : Int) := by omega
     obtain ⟨d, hd⟩ : ∃ d, k - i = d := ⟨_, rfl⟩
     rw [hd] at hdk Hst
     have hdn : 1 ≤ d ∧ d ≤ 257 := by omega
     have Hgam := qaa fun W => yeU (d : Int) W (by unfold hasG; omega)
     rw [qap] at Hgam
     have Hdig := qaa fun W => ydb x 4 W hfit
     have hdl : (digI x 4).length = 4 := by unfold digI; rw [yai]; rfl
     have hgl := gam_len d (by omega) (by omega)
     have HAc := Hacc.out
     have hlk : 67 * i + 67 ≤ 67 * k := by omega
     clear Hall hstop hd hik Hrun
     generalize digI x 4 = D at *
     generalize gam d = G at *
     obtain ⟨gl, hgle⟩ : ∃ gl, G.length = gl := ⟨_, rfl⟩
     rw [hgle] at Hgam hgl
     have HGl := qaa hgle
     have HDl := qaa hdl
     clear hgle hdl
     obtain ⟨al, hal⟩ : ∃ al, acc.length = al := ⟨_, rfl⟩
     rw [hal] at HO2 HAc
     have Hal := qaa hal
     clear hal Hown Hacc
     go_wp2
     go_quiet (fail)
     have HOd : Hid ((wr.drewN nq).ownsRow w.heap.size 3 1 u3 al (bcs acc)) := qaa HO2.out
     have HBd : Hid (Below w.heap.size w (wr.drewN nq)) := qaa (yaj HB2.out nq)
     clear HO2 HB2 x1
     generalize wr.drewN nq = Wd at *
     have x1 := Hx1.out Wd HBd.out
     have hsz0 := HBd.out.size
     go_wp2_with (first
      | (go_at_call 156; refine (Hdig.out _).mono ?_; rintro e w2 ⟨g, rfl, hB2, hg2, hb2⟩; have HBg := qaa hB2; have Hb2 := qaa hb2; have hz2 := hb2.size; clear hB2 hb2)
      | (go_at_call 157; refine (Hgam.out _).mono ?_; rintro e w3 ⟨Ag, cg, rfl, ho3, hb3⟩; have Ho3 := qaa ho3; have Hb3 := qaa hb3; have hz3 := hb3.size; clear ho3 hb3)
      | (at_builtin; refine yaf _ rfl _ _ 28 rfl w.heap.size 3 i0 (.int .i64 0) 1 8 underlying28 hi hz0 hz1 hz9 rfl (by decide) _ _ _ rfl (yah (yah HOd.out Hb2.out (qaf _)) Hb3.out (qaf _)) _ 4 4 _ _ rfl (ydS _ (Blk.below HBg.out Hb3.out HBg.out.lt) 4 (by rw [ydk]; exact HDl.out)) ?f1 ?f2 ?f3 ?f4 ?_))
     case f1 => exact yey _
     case f2 => unfold maxLen; omega
     case f3 => omega
     case f4 => omega
     intro v4 w4 ho4 hg4 _
     have Ho4 := qaa ho4
     have Hb4 : Hid (Below w.heap.size w w4) := qaa (((HBd.out.trans (Hb2.out.mono hsz0)).trans (Hb3.out.mono (by omega))).grown hg4 (by omega) (fun b hb => (HOd.out.lt b hb).1))
     have Ho5 := qaa (ya5 Ho3.out (yaN hg4) fun b hb e => by
      have h1 := (Ho3.out.lt b hb).1
      have h2 := (HOd.out.lt b e.symm).2
      omega)
     have hsz4 : w.heap.size ≤ w4.heap.size := Hb4.out.size
     obtain ⟨Ag2, cg2, eg, _, hrg⟩ := yad Ho5.out
     injection eg with eg1 _ eg2
     subst eg1 eg2
     have Hrg := qaa hrg
     clear ho4 hg4 hrg HOd Ho3
     go_wp2_with (at_builtin; refine yaf _ rfl _ _ 28 rfl w.heap.size 3 i0 (.int .i64 0) 1 8 underlying28 hi hz0 hz1 hz9 rfl (by decide) _ _ _ rfl Ho4.out _ gl _ _ _ rfl Hrg.out ?g1 ?g2 ?g3 ?g4 ?_)
     case g1 => exact yey _
     case g2 => unfold maxLen; omega
     case g3 => omega
     first
      | (case g4 => exact hsz4)
      | skip
     intro v6 w6 ho6 hg6 _
     have Ho6 : Hid (w6.ownsRow w.heap.size 3 1 v6 (acc ++ (D ++ G)).length (bcs (acc ++ (D ++ G)))) := qaa (by
      have e : (acc ++ (D ++ G)).length = al + 4 + gl := by rw [qae, qae, Hal.out, HDl.out, HGl.out]; omega
      rw [e, ybC, ybC]
      first
       | exact ho6
       | (rw [← qak]; exact ho6))
     have Hb6 : Hid (Below w.heap.size w w6) := qaa (Hb4.out.grown hg6 hsz4 (fun b hb => (Ho4.out.lt b hb).1))
     have Hlen : Hid ((acc ++ (D ++ G)).length ≤ 67 * k) := qaa (by
      rw [qae, qae, Hal.out, HDl.out, HGl.out]
      omega)
     clear ho6 hg6
     go_wp2
     go_roundw
     case rel => exact ⟨k, acc ++ (D ++ G), hkn, rfl, Hlen, Ho6, Hst, Hb6⟩
     case measure => simp only [intOf]; omega
  ·obtain rfl : i = n := by omega
   have hii : ¬ (i : Int) < (i : Int) := by omega
   have ht := HT.out
   rw [qaJ (by rw [El.out]; exact qaf _)] at ht
   have hO := Hown.out
   have e : acc = ya3 l := by rw [← ht]; simp [ya3]
   rw [e] at hO
   obtain ⟨At, ct, rfl, _, hrt⟩ := yad hO
   have Hrt := qaa hO
   clear hrt hO ht e
   go_wp2
   go_ret
   exact ⟨At, ct, rfl, Hrt.out, HB.out⟩
end Go.Proofs.YtanjhbkbpalnaaaGreat
