/-
  What the law of the last of these texts stands on, part 37.
-/
import Derived.Test.YtpocpckhcciecaaRows
import Derived.Test.YtpocpckhcciecaaMg01
import Derived.Test.YtpocpckhcciecaaMg02
import Derived.Test.YtpocpckhcciecaaMg03
import Derived.Test.YtpocpckhcciecaaMg04
import Derived.Test.YtpocpckhcciecaaMg05
import Derived.Test.YtpocpckhcciecaaMg06
import Derived.Test.YtpocpckhcciecaaMg07
import Derived.Test.YtpocpckhcciecaaMg08
import Derived.Test.YtpocpckhcciecaaMg09
import Derived.Test.YtpocpckhcciecaaMg10
import Derived.Test.YtpocpckhcciecaaMg11
import Derived.Test.YtpocpckhcciecaaMg12
import Derived.Test.YtpocpckhcciecaaMg13
import Derived.Test.YtpocpckhcciecaaMg14
import Derived.Test.YtpocpckhcciecaaMg15
import Derived.Test.YtpocpckhcciecaaMg23
import Derived.Test.YtpocpckhcciecaaMg24
import Derived.Test.YtpocpckhcciecaaMg25
import Derived.Test.YtpocpckhcciecaaMg26
import Derived.Test.YtpocpckhcciecaaMg27
import Derived.Test.YtpocpckhcciecaaMg28
import Derived.Test.YtpocpckhcciecaaMg29
import Derived.Test.YtpocpckhcciecaaMg30
import Derived.Test.YtpocpckhcciecaaMg31
import Derived.Test.YtpocpckhcciecaaMg32
import Derived.Test.YtpocpckhcciecaaMg33
import Derived.Test.YtpocpckhcciecaaMg36
import Derived.WalkKit
import Derived.WalkSpells
import Derived.WalkLawsBesides
import Derived.ProofKit
import Derived.OpenShut
import Derived.Handy
import Derived.SizedLaws
import Derived.JoinedOf
import Derived.KernelRfl
import Derived.Lib.Hide
import Derived.Lib.SmallJoins
import Derived.Deep.Slices
import Derived.Deep.Fields
import Derived.Deep.SlicePairs
import Derived.Deep.Draws
import Derived.Deep.AppendLies
import Derived.Deep.QuietTactic
import Derived.BigQuiet
import Derived.Deep.RegionHeld3
import Derived.StillTailTactics
import Derived.Laws.OwnMore
import Derived.Laws.Rows
import Derived.Below
import Derived.Carry
import Derived.Lib.BitFns
import Derived.Deep.OwnRows
import Derived.WalkMore
import Derived.Laws.BytesString
import Derived.Laws.BitsLemmas
import Derived.Laws.Concat
import Derived.Deep.Upon
import Derived.OwnWalk
import Derived.Shelf.Spec.SlicesGrow
import Derived.Lib.OwnBridge
import Derived.Shelf.SlSorted.Search
import Derived.Deep.RegionWith
import Derived.Laws.EntriesVeiled
import Derived.Sort.WalkB2
import Derived.Sort.WalkB12
import Derived.Deep.LoopGhost
import Derived.Shelf.SlSortCmp.KitK
import Derived.Deep.RegionLaw
import Derived.Laws.CopyOwn
import Derived.Laws.Bits64b
namespace Go.Proofs.Ytpocpckhcciecaa
set_option linter.unusedSimpArgs false
set_option linter.unusedVariables false
open Go.ChangeShapes Go.WideShapes Go.ChangeAt Go.RowKit Go.Joins Go.Deep
set_option maxRecDepth 100000 in
set_option maxHeartbeats 16000000 in
theorem tref_bits_own (l : List Int) (A : Option Addr) (n c : Nat) (w : World) (hm : n ≤ 257) (hg : lgood l = true) (hr : Reads w w.heap.size 1 A n (ints l)) :
    Calls Try.prog 49 #[.slice A n c] w fun e w' => ∃ A' c', e = .returned (.slice A' (tbits l).length c') ∧ w'.ownsRow w.heap.size 3 1 (.slice A' (tbits l).length c') (tbits l).length (bcs (tbits l)) ∧ Below w.heap.size w w' := by
  obtain ⟨i0, hi, hz0, hz1, hz9⟩ := info_parts bint_info
  have el : l.length = n := by have := hr.1; rw [ints_length] at this; omega
  have Hc : Hid (0 < n → ∃ b off, A = some ⟨b, off, none⟩ ∧ ∀ wr, Below w.heap.size w wr → ∀ k, (hk : k < l.length) → wr.cell? ⟨b, off + k, none⟩ = some (.int .i64 l[k])) := Lib.hid fun h => by
    obtain ⟨b, off, e, hb, hc⟩ := hr.2 h
    exact ⟨b, off, e, fun wr hw k hk => (hw.cell (p := ⟨b, off + k, none⟩) hb).trans (hc k _ (ints_get l k hk))⟩
  have Hgood := Lib.hid fun i hi => lgood_get hg i hi
  have El := Lib.hid el
  have hni : (n : Int) ≤ 257 := by omega
  clear hr hg el
  go_enter Try.func49, Try.ntmps49
  go_wp2
  go_loopw [3, 4, 5, 6, 7, 8, 9] (fun v ix kx dx okx gx oy wr => ∃ (i : Nat) (acc : List Nat), i ≤ n ∧ ix = .int .i64 i ∧ Hid (acc.length ≤ 67 * i) ∧ Hid (wr.ownsRow w.heap.size 3 1 v acc.length (bcs acc)) ∧ Hid (acc ++ tbits (l.drop i) = tbits l) ∧ Hid (Below w.heap.size w wr)) (fun _ ix _ _ _ _ _ _ => n - (intOf ix).toNat)
  case atStart => exact ⟨0, [], by omega, rfl, Lib.hid (by simp), Lib.hid (World.ownsRow_nil _ _ _ _), Lib.hid (by simp), Below.refl _ _⟩
  case round =>
    obtain ⟨i, acc, hin, rfl, Hacc, Hown, HT, HB⟩ := hrel
    by_cases hlt : i < n
    · have hii : (0 : Int) ≤ (i : Int) ∧ (i : Int) < (n : Int) := by omega
      have hil : i < l.length := by rw [El.out]; exact hlt
      obtain ⟨b, off, rfl, hcell⟩ := Hc.out (by omega)
      have Hcell := Lib.hid hcell
      clear hcell
      obtain ⟨x, hxe⟩ : ∃ x, l[i] = x := ⟨_, rfl⟩
      have hgx := Hgood.out i hil
      rw [hxe] at hgx
      have hfit : fits x 4 := ⟨by omega, by omega, by omega, by show x < 16; omega⟩
      have Hrun : Hid (∀ k, i < k → k ≤ n → (∀ j (hj : j < l.length), i ≤ j → j < k → l[j] = x) → (∀ hj : k < l.length, l[k] ≠ x) → ∀ acc, acc ++ tbits (l.drop i) = tbits l → (acc ++ (digI x 4 ++ gam (k - i))) ++ tbits (l.drop k) = tbits l) := Lib.hid fun k h1 h2 h3 h4 acc h5 => by
        rw [tbits_at l x i k h1 (by rw [El.out]; exact h2) h3 h4] at h5
        rw [← h5, List.append_assoc]
        rfl
      have Hx1 : Hid (∀ W, Below w.heap.size w W → W.cell? ⟨b, off + i, none⟩ = some (.int .i64 x)) := Lib.hid fun W hW => by
        have := Hcell.out W hW i hil
        rwa [hxe] at this
      have Hall0 : Hid (∀ j (hj : j < l.length), i ≤ j → j < i → l[j] = x) := Lib.hid fun j hj a b => by omega
      have Hii : Hid (l[i] = x) := hxe
      clear Hc Hgood hxe hgx
      go_wp2
      go_loopw [5] (fun kx W => ∃ k : Nat, i ≤ k ∧ k ≤ n ∧ kx = .int .i64 k ∧ Hid (∀ j (hj : j < l.length), i ≤ j → j < k → l[j] = x) ∧ Hid (W.ownsRow w.heap.size 3 1 u3 acc.length (bcs acc)) ∧ Hid (Below w.heap.size w W)) (fun kx _ => n - (intOf kx).toNat)
      case atStart => exact ⟨i, by omega, by omega, rfl, Hall0, Hown, HB⟩
      case round =>
        obtain ⟨k, hik0, hkn, rfl, Hall, HO2, HB2⟩ := hrel
        have x1 := Hx1.out wr HB2.out
        by_cases hkt : k < n
        · have hki : (0 : Int) ≤ (k : Int) ∧ (k : Int) < (n : Int) := by omega
          have hkl : k < l.length := by rw [El.out]; exact hkt
          have x2 := Hcell.out wr HB2.out k hkl
          by_cases hy : l[k] = x
          · have Hall2 : Hid (∀ j (hj : j < l.length), i ≤ j → j < k + 1 → l[j] = x) := Lib.hid fun j hj a b => by
              rcases Nat.lt_or_ge j k with h | h
              · exact Hall.out j hj a h
              · obtain rfl : j = k := by omega
                exact hy
            rw [hy] at x2
            have hb1 : (x == x) = true := by simp
            clear hy Hall Hrun
            go_wp2
            go_quiet (fail)
            go_wp2
            go_roundw
            case rel => exact ⟨k + 1, by omega, by omega, iv (by omega), Hall2, HO2.out, below_drewN HB2.out _⟩
            case measure => simp only [intOf]; omega
          · have hstop : ∀ hj : k < l.length, l[k] ≠ x := fun _ => hy
            have hik : i < k := by
              rcases Nat.lt_or_ge i k with h | h
              · exact h
              · obtain rfl : k = i := by omega
                exact absurd Hii.out hy
            obtain ⟨y, hye⟩ : ∃ y, l[k] = y := ⟨_, rfl⟩
            have hb1 : (y == x) = false := by rw [← hye]; simpa using hy
            rw [hye] at x2
            clear hye hy
            have Hst := Lib.hid (Hrun.out k hik hkn Hall.out hstop acc HT.out)
            have hdk : (k : Int) - (i : Int) = ((k - i : Nat) : Int) := by omega
            obtain ⟨d, hd⟩ : ∃ d, k - i = d := ⟨_, rfl⟩
            rw [hd] at hdk Hst
            have hdn : 1 ≤ d ∧ d ≤ 257 := by omega
            have Hgam := Lib.hid fun W => refGamma_yes (d : Int) W (by unfold hasG; omega)
            rw [Int.toNat_natCast] at Hgam
            have Hdig := Lib.hid fun W => refDig_yes x 4 W hfit
            have hdl : (digI x 4).length = 4 := by unfold digI; rw [dig_length]; rfl
            have hgl := gam_len d (by omega) (by omega)
            have HAc := Hacc.out
            have hlk : 67 * i + 67 ≤ 67 * k := by omega
            clear Hall hstop hd hik Hrun
            generalize digI x 4 = D at *
            generalize gam d = G at *
            obtain ⟨gl, hgle⟩ : ∃ gl, G.length = gl := ⟨_, rfl⟩
            rw [hgle] at Hgam hgl
            have HGl := Lib.hid hgle
            have HDl := Lib.hid hdl
            clear hgle hdl
            obtain ⟨al, hal⟩ : ∃ al, acc.length = al := ⟨_, rfl⟩
            rw [hal] at HO2 HAc
            have Hal := Lib.hid hal
            clear hal Hown Hacc
            go_wp2
            go_quiet (fail)
            have HOd : Hid ((wr.drewN nq).ownsRow w.heap.size 3 1 u3 al (bcs acc)) := Lib.hid HO2.out
            have HBd : Hid (Below w.heap.size w (wr.drewN nq)) := Lib.hid (below_drewN HB2.out nq)
            clear HO2 HB2 x1
            generalize wr.drewN nq = Wd at *
            have x1 := Hx1.out Wd HBd.out
            have hsz0 := HBd.out.size
            go_wp2_with (first
              | (go_at_call 70; refine (Hdig.out _).mono ?_; rintro e w2 ⟨g, rfl, hB2, hg2, hb2⟩; have HBg := Lib.hid hB2; have Hb2 := Lib.hid hb2; have hz2 := hb2.size; clear hB2 hb2)
              | (go_at_call 71; refine (Hgam.out _).mono ?_; rintro e w3 ⟨Ag, cg, rfl, ho3, hb3⟩; have Ho3 := Lib.hid ho3; have Hb3 := Lib.hid hb3; have hz3 := hb3.size; clear ho3 hb3)
              | (at_builtin; refine wpList_append_sep _ rfl _ _ 22 rfl w.heap.size 3 i0 (.int .i64 0) 1 8 Try.underlying22 hi hz0 hz1 hz9 rfl (by decide) _ _ _ rfl (owns_below (owns_below HOd.out Hb2.out (Nat.le_refl _)) Hb3.out (Nat.le_refl _)) _ 4 4 _ _ rfl (blk_reads _ (Blk.below HBg.out Hb3.out HBg.out.lt) 4 (by rw [bcs_length]; exact HDl.out)) ?c1 ?c2 ?c3 ?c4 ?_))
            case c1 => exact bcs_one _
            case c2 => unfold maxLen; omega
            case c3 => omega
            case c4 => omega
            intro v4 w4 ho4 hg4 _
            have Ho4 := Lib.hid ho4
            have Hb4 : Hid (Below w.heap.size w w4) := Lib.hid (((HBd.out.trans (Hb2.out.mono hsz0)).trans (Hb3.out.mono (by omega))).grown hg4 (by omega) (fun b hb => (HOd.out.lt b hb).1))
            have Ho5 := Lib.hid (owns_touch Ho3.out (touch_grow hg4) fun b hb e => by
              have h1 := (Ho3.out.lt b hb).1
              have h2 := (HOd.out.lt b e.symm).2
              omega)
            have hsz4 : w.heap.size ≤ w4.heap.size := Hb4.out.size
            obtain ⟨Ag2, cg2, eg, _, hrg⟩ := owns_cells Ho5.out
            injection eg with eg1 _ eg2
            subst eg1 eg2
            have Hrg := Lib.hid hrg
            clear ho4 hg4 hrg HOd Ho3
            go_wp2_with (at_builtin; refine wpList_append_sep _ rfl _ _ 22 rfl w.heap.size 3 i0 (.int .i64 0) 1 8 Try.underlying22 hi hz0 hz1 hz9 rfl (by decide) _ _ _ rfl Ho4.out _ gl _ _ _ rfl Hrg.out ?d1 ?d2 ?d3 ?d4 ?_)
            case d1 => exact bcs_one _
            case d2 => unfold maxLen; omega
            case d3 => omega
            first
              | (case d4 => exact hsz4)
              | skip
            intro v6 w6 ho6 hg6 _
            have Ho6 : Hid (w6.ownsRow w.heap.size 3 1 v6 (acc ++ (D ++ G)).length (bcs (acc ++ (D ++ G)))) := Lib.hid (by
              have e : (acc ++ (D ++ G)).length = al + 4 + gl := by rw [List.length_append, List.length_append, Hal.out, HDl.out, HGl.out]; omega
              rw [e, bcs_append, bcs_append]
              first
                | exact ho6
                | (rw [← List.append_assoc]; exact ho6))
            have Hb6 : Hid (Below w.heap.size w w6) := Lib.hid (Hb4.out.grown hg6 hsz4 (fun b hb => (Ho4.out.lt b hb).1))
            have Hlen : Hid ((acc ++ (D ++ G)).length ≤ 67 * k) := Lib.hid (by
              rw [List.length_append, List.length_append, Hal.out, HDl.out, HGl.out]
              omega)
            clear ho6 hg6
            go_wp2
            go_roundw
            case rel => exact ⟨k, acc ++ (D ++ G), hkn, rfl, Hlen, Ho6, Hst, Hb6⟩
            case measure => simp only [intOf]; omega
        · obtain rfl : k = n := by omega
          have hki : ¬ (k : Int) < (k : Int) := by omega
          have hstop : ∀ hj : k < l.length, l[k] ≠ x := fun hj => absurd hj (by rw [El.out]; omega)
          have hik : i < k := hlt
          have Hst := Lib.hid (Hrun.out k hik hkn Hall.out hstop acc HT.out)
          have hdk : (k : Int) - (i : Int) = ((k - i : Nat) : Int) := by omega
          obtain ⟨d, hd⟩ : ∃ d, k - i = d := ⟨_, rfl⟩
          rw [hd] at hdk Hst
          have hdn : 1 ≤ d ∧ d ≤ 257 := by omega
          have Hgam := Lib.hid fun W => refGamma_yes (d : Int) W (by unfold hasG; omega)
          rw [Int.toNat_natCast] at Hgam
          have Hdig := Lib.hid fun W => refDig_yes x 4 W hfit
          have hdl : (digI x 4).length = 4 := by unfold digI; rw [dig_length]; rfl
          have hgl := gam_len d (by omega) (by omega)
          have HAc := Hacc.out
          have hlk : 67 * i + 67 ≤ 67 * k := by omega
          clear Hall hstop hd hik Hrun
          generalize digI x 4 = D at *
          generalize gam d = G at *
          obtain ⟨gl, hgle⟩ : ∃ gl, G.length = gl := ⟨_, rfl⟩
          rw [hgle] at Hgam hgl
          have HGl := Lib.hid hgle
          have HDl := Lib.hid hdl
          clear hgle hdl
          obtain ⟨al, hal⟩ : ∃ al, acc.length = al := ⟨_, rfl⟩
          rw [hal] at HO2 HAc
          have Hal := Lib.hid hal
          clear hal Hown Hacc
          go_wp2
          go_quiet (fail)
          have HOd : Hid ((wr.drewN nq).ownsRow w.heap.size 3 1 u3 al (bcs acc)) := Lib.hid HO2.out
          have HBd : Hid (Below w.heap.size w (wr.drewN nq)) := Lib.hid (below_drewN HB2.out nq)
          clear HO2 HB2 x1
          generalize wr.drewN nq = Wd at *
          have x1 := Hx1.out Wd HBd.out
          have hsz0 := HBd.out.size
          go_wp2_with (first
            | (go_at_call 70; refine (Hdig.out _).mono ?_; rintro e w2 ⟨g, rfl, hB2, hg2, hb2⟩; have HBg := Lib.hid hB2; have Hb2 := Lib.hid hb2; have hz2 := hb2.size; clear hB2 hb2)
            | (go_at_call 71; refine (Hgam.out _).mono ?_; rintro e w3 ⟨Ag, cg, rfl, ho3, hb3⟩; have Ho3 := Lib.hid ho3; have Hb3 := Lib.hid hb3; have hz3 := hb3.size; clear ho3 hb3)
            | (at_builtin; refine wpList_append_sep _ rfl _ _ 22 rfl w.heap.size 3 i0 (.int .i64 0) 1 8 Try.underlying22 hi hz0 hz1 hz9 rfl (by decide) _ _ _ rfl (owns_below (owns_below HOd.out Hb2.out (Nat.le_refl _)) Hb3.out (Nat.le_refl _)) _ 4 4 _ _ rfl (blk_reads _ (Blk.below HBg.out Hb3.out HBg.out.lt) 4 (by rw [bcs_length]; exact HDl.out)) ?f1 ?f2 ?f3 ?f4 ?_))
          case f1 => exact bcs_one _
          case f2 => unfold maxLen; omega
          case f3 => omega
          case f4 => omega
          intro v4 w4 ho4 hg4 _
          have Ho4 := Lib.hid ho4
          have Hb4 : Hid (Below w.heap.size w w4) := Lib.hid (((HBd.out.trans (Hb2.out.mono hsz0)).trans (Hb3.out.mono (by omega))).grown hg4 (by omega) (fun b hb => (HOd.out.lt b hb).1))
          have Ho5 := Lib.hid (owns_touch Ho3.out (touch_grow hg4) fun b hb e => by
            have h1 := (Ho3.out.lt b hb).1
            have h2 := (HOd.out.lt b e.symm).2
            omega)
          have hsz4 : w.heap.size ≤ w4.heap.size := Hb4.out.size
          obtain ⟨Ag2, cg2, eg, _, hrg⟩ := owns_cells Ho5.out
          injection eg with eg1 _ eg2
          subst eg1 eg2
          have Hrg := Lib.hid hrg
          clear ho4 hg4 hrg HOd Ho3
          go_wp2_with (at_builtin; refine wpList_append_sep _ rfl _ _ 22 rfl w.heap.size 3 i0 (.int .i64 0) 1 8 Try.underlying22 hi hz0 hz1 hz9 rfl (by decide) _ _ _ rfl Ho4.out _ gl _ _ _ rfl Hrg.out ?g1 ?g2 ?g3 ?g4 ?_)
          case g1 => exact bcs_one _
          case g2 => unfold maxLen; omega
          case g3 => omega
          first
            | (case g4 => exact hsz4)
            | skip
          intro v6 w6 ho6 hg6 _
          have Ho6 : Hid (w6.ownsRow w.heap.size 3 1 v6 (acc ++ (D ++ G)).length (bcs (acc ++ (D ++ G)))) := Lib.hid (by
            have e : (acc ++ (D ++ G)).length = al + 4 + gl := by rw [List.length_append, List.length_append, Hal.out, HDl.out, HGl.out]; omega
            rw [e, bcs_append, bcs_append]
            first
              | exact ho6
              | (rw [← List.append_assoc]; exact ho6))
          have Hb6 : Hid (Below w.heap.size w w6) := Lib.hid (Hb4.out.grown hg6 hsz4 (fun b hb => (Ho4.out.lt b hb).1))
          have Hlen : Hid ((acc ++ (D ++ G)).length ≤ 67 * k) := Lib.hid (by
            rw [List.length_append, List.length_append, Hal.out, HDl.out, HGl.out]
            omega)
          clear ho6 hg6
          go_wp2
          go_roundw
          case rel => exact ⟨k, acc ++ (D ++ G), hkn, rfl, Hlen, Ho6, Hst, Hb6⟩
          case measure => simp only [intOf]; omega
    · obtain rfl : i = n := by omega
      have hii : ¬ (i : Int) < (i : Int) := by omega
      have ht := HT.out
      rw [List.drop_of_length_le (by rw [El.out]; exact Nat.le_refl _)] at ht
      have hO := Hown.out
      have e : acc = tbits l := by rw [← ht]; simp [tbits]
      rw [e] at hO
      obtain ⟨At, ct, rfl, _, hrt⟩ := owns_cells hO
      have Hrt := Lib.hid hO
      clear hrt hO ht e
      go_wp2
      go_ret
      exact ⟨At, ct, rfl, Hrt.out, HB.out⟩
end Go.Proofs.Ytpocpckhcciecaa
namespace Go.Proofs.Ytpocpckhcciecaa
set_option linter.unusedSimpArgs false
set_option linter.unusedVariables false
open Go.ChangeShapes Go.WideShapes Go.ChangeAt Go.RowKit Go.Joins Go.Deep
/-- What the document's Bits answers. -/
def hbitF (l : List Int) : List Nat × Int := if (hcF l).2 = 0 then (hB l, 0) else ([], (hcF l).2)
def HBPost (w w' : World) (e : Ending) (F : List Nat × Int) : Prop := ∃ A' c', e = .returned (.tuple #[.slice A' F.1.length c', .int .i64 F.2]) ∧ Reads w' w'.heap.size 1 A' F.1.length (bcs F.1) ∧ Below w.heap.size w w'
theorem cbits_snoc (ws : List (Int × Int)) (l : List Int) (k : Nat) (hk : k < l.length) : cbits ws (l.take (k + 1)) = cbits ws (l.take k) ++ (cwordF ws l[k]).1 := by
  rw [List.take_succ_eq_append_getElem hk]
  unfold cbits
  rw [List.flatMap_append, List.flatMap_singleton]
theorem Reads.onto {w w' : World} {size n : Nat} {A : Option Addr} {xs : List Value} (h : Reads w w.heap.size size A n xs) (hb : Below w.heap.size w w') : Reads w' w'.heap.size size A n xs := (h.below hb).more hb.size
section
variable {l : List Int} (hl : l.length ≤ 100000)
theorem hb_best (W : World) (A : Option Addr) (c : Nat) (hr : Reads W W.heap.size 1 A 257 (ints (hcount l))) (hl : l.length ≤ 100000) :
    Calls Try.prog 47 #[.slice A 257 c, .int .i64 15] W fun e w' => ∃ A' c', e = .returned (.tuple #[.slice A' 257 c', .int .i64 0]) ∧ Reads w' w'.heap.size 1 A' 257 (ints (hL l)) ∧ Below W.heap.size W w' := by
  have := lref_best_any (hcount l) 15 A 257 c W (by omega) hr
  rw [hbest hl] at this
  refine this.mono ?_
  rintro e w' ⟨A', c', rfl, _, h2, h3⟩
  rw [hL_len] at h2 ⊢
  exact ⟨A', c', rfl, h2, h3⟩
theorem hb_words (W : World) (A : Option Addr) (c : Nat) (hr : Reads W W.heap.size 1 A 257 (ints (hL l))) (hl : l.length ≤ 100000) :
    Calls Try.prog 48 #[.slice A 257 c] W fun e w' => ∃ A' c', e = .returned (.tuple #[.slice A' 257 c', .int .i64 0]) ∧ Reads w' w'.heap.size 2 A' 257 (pairs .i64 (hws l)) ∧ Below W.heap.size W w' := by
  have := cref_words_any (hL l) A 257 c W (by omega) hr
  rw [cwords_ok (hL_check hl)] at this
  refine this.mono ?_
  rintro e w' ⟨A', c', rfl, _, h2, h3⟩
  have e2 : (wat ((hL l).map Int.toNat) 16 0).length = 257 := by rw [wat_len, List.length_map, hL_len]
  rw [e2] at h2 ⊢
  exact ⟨A', c', rfl, h2, h3⟩
theorem hws_len : (hws l).length = 257 := by unfold hws; rw [wat_len, List.length_map, hL_len]
end
set_option maxRecDepth 100000 in
set_option maxHeartbeats 8000000 in
theorem href_bits_any (l : List Int) (A : Option Addr) (n c : Nat) (w : World) (hm : n ≤ 1000000) (hr : Reads w w.heap.size 1 A n (ints l)) :
    Calls Try.prog 24 #[.slice A n c] w fun e w' => HBPost w w' e (hbitF l) := by
  obtain ⟨i0, hi, hz0, hz1, hz9⟩ := info_parts tint_info
  have en : l.length = n := by have := hr.1; rw [ints_length] at this; omega
  have hcnt := href_counts_any l A n c w hm hr
  by_cases hE : (hcF l).2 = 0
  · obtain ⟨hl, hin0, hf⟩ := hc_ok hE
    have hbf : hbitF l = (hB l, 0) := if_pos hE
    rw [hf] at hcnt
    rw [hbf]
    have hc2 : Calls Try.prog 10 #[.slice A n c] w fun e w' => ∃ A' c', e = .returned (.tuple #[.slice A' 257 c', .int .i64 0]) ∧ Reads w' w'.heap.size 1 A' 257 (ints (hcount l)) ∧ Below w.heap.size w w' := by
      refine hcnt.mono ?_
      rintro e w' ⟨A', c', rfl, _, h2, h3⟩
      rw [hcount_len] at h2 ⊢
      exact ⟨A', c', rfl, h2, h3⟩
    have Hcnt := Lib.hid hc2
    have Hbest := Lib.hid fun W A c hr => hb_best (l := l) W A c hr hl
    have Hwords := Lib.hid fun W A c hr => hb_words (l := l) W A c hr hl
    have Hbits := Lib.hid fun W A c hr => tref_bits_own (hL l) A 257 c W (by omega) (tcheck_ok (hL_check hl)).2 hr
    have Hword := Lib.hid fun W A c s hr => cref_word_any (hws l) A 257 c s W hws_len (by omega) hr (hfit l hl)
    have Hcell : Hid (∀ W, Below w.heap.size w W → ∀ k (hk : k < l.length), ∃ b off, A = some ⟨b, off, none⟩ ∧ W.cell? ⟨b, off + k, none⟩ = some (.int .i64 l[k])) := Lib.hid fun W hW k hk => by
      obtain ⟨b, off, e, hb, hc⟩ := hr.2 (by omega)
      exact ⟨b, off, e, (hW.cell (p := ⟨b, off + k, none⟩) hb).trans (hc k _ (ints_get l k hk))⟩
    have Hsnoc := Lib.hid (cbits_snoc (hws l) l)
    have Hsm := Lib.hid fun s => (cword_small (hfit l hl) s).1
    have Hlen := Lib.hid fun k => hcbits_len (hfit l hl) (l.take k)
    have Htl := Lib.hid (htbits_len l)
    have Hlast : Hid (cbits (hws l) (l.take n) = cbits (hws l) l) := Lib.hid (by rw [List.take_of_length_le (by omega)])
    have HBe : Hid (tbits (hL l) ++ cbits (hws l) l = hB l) := Lib.hid rfl
    have En := Lib.hid en
    have hni : (n : Int) ≤ 100000 := by omega
    have hnn : n ≤ 100000 := by omega
    clear hr hcnt hc2 hE hl hin0 hf hbf en hm
    generalize hws l = ws at *
    generalize tbits (hL l) = T at *
    generalize hB l = BB at *
    go_enter Try.func24, Try.ntmps24
    go_wp2_with (first
      | (go_at_call 10; refine Hcnt.out.mono ?_; rintro e w2 ⟨A2, c2, rfl, h2, hb2⟩; have H2 := Lib.hid h2; have Hb2 := Lib.hid hb2; clear h2 hb2)
      | (go_at_call 47; refine (Hbest.out _ _ _ H2.out).mono ?_; rintro e w3 ⟨A3, c3, rfl, h3, hb3⟩; have H3 := Lib.hid h3; have Hb3 := Lib.hid (Hb2.out.trans (hb3.mono Hb2.out.size)); clear h3 hb3)
      | (go_at_call 48; refine (Hwords.out _ _ _ H3.out).mono ?_; rintro e w4 ⟨A4, c4, rfl, h4, hb4⟩; have H4 := Lib.hid h4; have H3b := Lib.hid (H3.out.onto hb4); have Hb4 := Lib.hid (Hb3.out.trans (hb4.mono Hb3.out.size)); clear h4 hb4)
      | (go_at_call 49; refine (Hbits.out _ _ _ H3b.out).mono ?_; rintro e w5 ⟨A5, c5, rfl, h5, hb5⟩; have H5 := Lib.hid h5; have Hb5 := Lib.hid hb5; clear h5 hb5))
    have H50 : Hid (w5.ownsRow w4.heap.size 3 1 (.slice A5 T.length c5) T.length (bcs (T ++ cbits ws (l.take 0)))) := Lib.hid (by rw [List.take_zero]; show w5.ownsRow _ _ _ _ _ (bcs (T ++ [])); rw [List.append_nil]; exact H5.out)
    have HL0 : Hid (T.length = T.length + (cbits ws (l.take 0)).length) := Lib.hid rfl
    go_loopw [10, 11, 12, 13] (fun v i dv ev wr => ∃ (k m : Nat) (Av : Option Addr) (cv : Nat), k ≤ n ∧ v = .slice Av m cv ∧ i = .int .i64 k ∧ Hid (m = T.length + (cbits ws (l.take k)).length) ∧ Hid (wr.ownsRow w4.heap.size 3 1 (.slice Av m cv) m (bcs (T ++ cbits ws (l.take k)))) ∧ Hid (Below w4.heap.size w4 wr)) (fun _ i _ _ _ => n - (intOf i).toNat)
    case atStart => exact ⟨0, T.length, A5, c5, by omega, rfl, rfl, HL0, H50, Hb5⟩
    case round =>
      obtain ⟨k, m, Av, cv, hk, rfl, rfl, HL, HO, HB⟩ := hrel
      clear HL0 H50
      by_cases hlt : k < n
      · have hki : (k : Int) < (n : Int) := by omega
        have hkl : k < l.length := by rw [En.out]; exact hlt
        have hwb : Below w.heap.size w wr := Hb4.out.trans (HB.out.mono Hb4.out.size)
        obtain ⟨b, off, rfl, x1⟩ := Hcell.out wr hwb k hkl
        have hwd := Hword.out wr A4 c4 l[k] (H4.out.onto HB.out)
        have hsn := Hsnoc.out k hkl
        have hsm := Hsm.out l[k]
        have hln := Hlen.out k
        have hkt : (l.take k).length = k := by rw [List.length_take]; omega
        rw [hkt] at hln
        have htl := Htl.out
        have hmm := HL.out
        have hm1 : m ≤ 3300000 := by omega
        obtain ⟨F, hF⟩ : ∃ F, cwordF ws l[k] = F := ⟨_, rfl⟩
        rw [hF] at hwd hsn hsm
        have Hwd := Lib.hid hwd
        have Hsn := Lib.hid hsn
        obtain ⟨d, hd⟩ : ∃ d, F.1.length = d := ⟨_, rfl⟩
        rw [hd] at hsm
        have Hd := Lib.hid hd
        have HL2 : Hid (m + d = T.length + (cbits ws (l.take (k + 1))).length) := Lib.hid (by rw [hsn, List.length_append, hd]; omega)
        generalize l[k] = x at *
        have hsz4 := HB.out.size
        clear hwd hsn hkl hd hF hln hkt htl hmm hwb
        go_wp2_with (first
          | (go_at_call 50; refine Hwd.out.mono ?_; unfold CWordPost; rintro e w6 ⟨D, md, cd, rfl, h6, h7, hb6⟩; rw [Hd.out] at h6; subst h6; have H7 := Lib.hid h7; have Hb6 := Lib.hid hb6; have hz6 := hb6.size; clear h7 hb6)
          | (at_builtin; refine wpList_append_sep _ rfl _ _ 22 rfl w4.heap.size 3 i0 (.int .i64 0) 1 8 Try.underlying22 hi hz0 hz1 hz9 rfl (by decide) _ _ _ rfl (owns_below HO.out Hb6.out (Nat.le_refl _)) _ d _ _ _ rfl H7.out ?c1 ?c2 ?c3 ?c4 ?_))
        case c1 => exact bcs_one _
        case c2 => unfold maxLen; omega
        case c3 => omega
        case c4 => omega
        intro v7 w7 ho7 hg7 _
        obtain ⟨A8, c8, rfl, _, _⟩ := owns_cells ho7
        have Ho7 : Hid (w7.ownsRow w4.heap.size 3 1 (.slice A8 (m + d) c8) (m + d) (bcs (T ++ cbits ws (l.take (k + 1))))) := Lib.hid (by
          rw [Hsn.out, ← List.append_assoc, bcs_append]
          exact ho7)
        have Hb7 : Hid (Below w4.heap.size w4 w7) := Lib.hid ((HB.out.trans (Hb6.out.mono hsz4)).grown hg7 (by omega) (fun b hb => (HO.out.lt b hb).1))
        clear ho7 hg7
        go_wp2
        go_roundw
        case rel => exact ⟨k + 1, m + d, A8, c8, by omega, rfl, iv (by omega), HL2, Ho7, Hb7⟩
        case measure => simp only [intOf]; omega
      · obtain rfl : k = n := by omega
        have hii : ¬ (k : Int) < (k : Int) := by omega
        have hO := HO.out
        have hL2 := HL.out
        rw [Hlast.out] at hO hL2
        rw [HBe.out] at hO
        have hml : m = BB.length := by rw [← HBe.out, List.length_append]; exact hL2
        subst hml
        obtain ⟨A9, c9, e9, _, h9⟩ := owns_cells hO
        injection e9 with e1 _ e2
        subst e1 e2
        have H9 := Lib.hid h9
        have Hfin : Hid (Below w.heap.size w wr) := Lib.hid (Hb4.out.trans (HB.out.mono Hb4.out.size))
        clear hO hL2 h9
        go_wp2
        go_ret2
        exact ⟨Av, cv, rfl, H9.out, Hfin.out⟩
  · have hbf : hbitF l = ([], (hcF l).2) := if_neg hE
    have hb1 := hc_bad hE
    have hF : hcF l = ([], (hcF l).2) := Prod.ext hb1 rfl
    rw [hF] at hcnt
    rw [hbf]
    have hb2 : ((hcF l).2 == 0) = false := by simpa using hE
    have hb3 : ((hcF l).2 != 0) = true := by simpa using hE
    have Hcnt := Lib.hid hcnt
    clear hr hcnt hbf hb1 hF en hm
    generalize (hcF l).2 = E at *
    go_enter Try.func24, Try.ntmps24
    go_wp2_with (go_at_call 10; refine Hcnt.out.mono ?_; unfold HCPost; rintro e w2 ⟨A2, c2, rfl, _, h2, hb2⟩; have Hb2 := Lib.hid hb2; clear hb2 h2)
    go_ret2
    exact ⟨none, 0, rfl, Reads.none_, Hb2.out⟩
set_option maxRecDepth 100000 in
set_option maxHeartbeats 2000000 in
theorem href_encode_any (l : List Int) (A : Option Addr) (n c : Nat) (w : World) (hm : n ≤ 1000000) (hr : Reads w w.heap.size 1 A n (ints l)) :
    Calls Try.prog 8 #[.slice A n c] w fun e w' => e = .returned (.tuple #[.string ⟨(hencF l).1.toArray⟩, .int .i64 (hencF l).2]) ∧ Below w.heap.size w w' := by
  have hb := href_bits_any l A n c w hm hr
  by_cases hE : (hcF l).2 = 0
  · obtain ⟨hl, hin0, hf⟩ := hc_ok hE
    have he : hencF l = (text (hB l), 0) := if_pos hE
    have hbf : hbitF l = (hB l, 0) := if_pos hE
    rw [hbf] at hb
    rw [he]
    dsimp only
    have hln := hB_len hl
    have Hb := Lib.hid hb
    have Ht := Lib.hid fun (A : Option Addr) (c : Nat) (W : World) hr => refText_any (hB l) A (hB l).length c W rfl (by omega) hr (hB_bin hl)
    clear hr hb hbf he hE hf hl hin0 hln
    generalize hB l = BB at *
    go_enter Try.func8, Try.ntmps8
    go_wp2_with (first
      | (go_at_call 24; refine Hb.out.mono ?_; unfold HBPost; rintro e w2 ⟨A2, c2, rfl, h2, hb2⟩; have H2 := Lib.hid h2; have Hb2 := Lib.hid hb2; clear h2 hb2)
      | (go_at_call 25; refine (Ht.out _ _ _ H2.out).mono ?_; rintro e w3 ⟨rfl, hb3⟩; have Hb3 := Lib.hid (Hb2.out.trans (hb3.mono Hb2.out.size)); clear hb3))
    go_ret2
    exact ⟨rfl, Hb3.out⟩
  · have he : hencF l = ([], (hcF l).2) := if_neg hE
    have hbf : hbitF l = ([], (hcF l).2) := if_neg hE
    rw [hbf] at hb
    rw [he]
    dsimp only
    have hb2 : ((hcF l).2 == 0) = false := by simpa using hE
    have hb3 : ((hcF l).2 != 0) = true := by simpa using hE
    have Hb := Lib.hid hb
    clear hr hb hbf he hE
    generalize (hcF l).2 = E at *
    go_enter Try.func8, Try.ntmps8
    go_wp2_with (go_at_call 24; refine Hb.out.mono ?_; unfold HBPost; rintro e w2 ⟨A2, c2, rfl, _, hb2⟩; have Hb2 := Lib.hid hb2; clear hb2)
    go_ret2
    exact ⟨rfl, Hb2.out⟩
set_option maxRecDepth 100000 in
set_option maxHeartbeats 2000000 in
theorem href_size_any (l : List Int) (A : Option Addr) (n c : Nat) (w : World) (hm : n ≤ 1000000) (hr : Reads w w.heap.size 1 A n (ints l)) :
    Calls Try.prog 13 #[.slice A n c] w fun e w' => e = .returned (.int .i64 (hsizeF l : Int)) ∧ Below w.heap.size w w' := by
  have hb := href_bits_any l A n c w hm hr
  have hs : hsizeF l = (hbitF l).1.length := by
    unfold hsizeF hbitF
    by_cases hE : (hcF l).2 = 0
    · rw [if_pos hE, if_pos hE]
    · rw [if_neg hE, if_neg hE]; rfl
  rw [hs]
  have Hb := Lib.hid hb
  clear hr hb hs
  generalize hbitF l = FF at *
  obtain ⟨F, E⟩ := FF
  dsimp only at *
  go_enter Try.func13, Try.ntmps13
  go_wp2_with (go_at_call 24; refine Hb.out.mono ?_; unfold HBPost; rintro e w2 ⟨A2, c2, rfl, _, hb2⟩; have Hb2 := Lib.hid hb2; clear hb2)
  go_ret
  exact ⟨rfl, Hb2.out⟩
end Go.Proofs.Ytpocpckhcciecaa
