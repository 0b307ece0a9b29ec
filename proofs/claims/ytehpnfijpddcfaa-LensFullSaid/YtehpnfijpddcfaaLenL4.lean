/-
  A code has the best lengths; none is above the limit; just the symbols that come have one; who comes more often has no greater one; the layer's probe holds (LensFull). No condition.
-/
import Derived.Test.YtehpnfijpddcfaaLenL3
namespace Go.Proofs.Ytehpnfijpddcfaa
set_option linter.unusedSimpArgs false
set_option linter.unusedVariables false
open Go.ChangeShapes Go.WideShapes Go.ChangeAt Go.RowKit Go.Joins Go.Deep
set_option maxHeartbeats 2000000 in
/-- Beyond the sizes that the statement looks at: the probe alone. -/
theorem lensFull_far (A : Option Addr) (n c : Nat) (m : Int) (w : World) (h : 300 < n) :
    Calls Try.prog 6 #[.slice A n c, .int .i64 m] w fun e w' => e = .returned (.bool true) ∧ Below w.heap.size w w' := by
  have h1 : (300 : Int) < n := by omega
  go_enter Try.func6, Try.ntmps6
  go_wp2_with (go_at_call 7; refine (awake8_any _).mono ?_; rintro e w9 ⟨rfl, hb9⟩)
  go_ret
  exact ⟨rfl, hb9⟩

set_option maxRecDepth 100000 in
set_option maxHeartbeats 4000000 in
theorem lensFull_none (A : Option Addr) (n c : Nat) (m : Int) (l : List Int) (w : World) (hr : Reads w w.heap.size 1 A n (ints l)) (h : n ≤ 300) (hb : (lbestF l m).2 ≠ 0) :
    Calls Try.prog 6 #[.slice A n c, .int .i64 m] w fun e w' => e = .returned (.bool true) ∧ Below w.heap.size w w' := by
  have h1 : ¬ (300 : Int) < n := by omega
  have Hp := Lib.hid (pbest_bad l m hb A n c w (by omega) hr)
  clear hr
  generalize (lbestF l m).2 = E at *
  have hE : (E == 0) = false := by simpa using hb
  have hE2 : (E != 0) = true := by simpa using hb
  go_enter Try.func6, Try.ntmps6
  go_wp2_with (first
    | (go_at_call 8; refine Hp.out.mono ?_; rintro e w1 ⟨A1, c1, rfl, hb1⟩; have Hb := Lib.hid hb1; clear hb1)
    | (go_at_call 7; refine (awake8_any _).mono ?_; rintro e w9 ⟨rfl, hb9⟩; replace Hb := Lib.hid (Hb.out.trans (hb9.mono Hb.out.size)); clear hb9))
  go_ret
  exact ⟨rfl, Hb.out⟩
set_option maxRecDepth 100000 in
set_option maxHeartbeats 16000000 in
theorem lensFull_near (A : Option Addr) (n c : Nat) (L : Nat) (l : List Int) (w : World) (hr : Reads w w.heap.size 1 A n (ints l)) (h : n ≤ 300)
    (hn : l.length ≤ 257) (hg : cgood l = true) (hL : 1 ≤ L ∧ L ≤ 15) (hmL : (lleaves l).length ≤ 2 ^ L) (hF : lbestF l L = (lbestL l L, 0)) :
    Calls Try.prog 6 #[.slice A n c, .int .i64 L] w fun e w' => e = .returned (.bool true) ∧ Below w.heap.size w w' := by
  have h1 : ¬ (300 : Int) < n := by omega
  have el : l.length = n := by have := hr.1; rw [ints_length] at this; omega
  have hG := lbestL_good hL hg hmL
  have hck := lbestL_check hL hg hmL hn
  have Hp := Lib.hid (pbest_good (N := n) l L (lbestL l L) hF (by rw [lbestL_len, el]) A n c w (by omega) hr)
  have Hchk := Lib.hid fun (v : Option Addr) (cv : Nat) (W : World) hr => p_check_any (lbestL l L) v n cv W (by omega) hr
  rw [hck] at Hchk
  have Hc1 : Hid (0 < n → ∃ b off, A = some ⟨b, off, none⟩ ∧ ∀ wr, Below w.heap.size w wr → ∀ k, (hk : k < l.length) → wr.cell? ⟨b, off + k, none⟩ = some (.int .i64 l[k])) := Lib.hid fun h => by
    obtain ⟨b, off, e, hb, hc⟩ := hr.2 h
    exact ⟨b, off, e, fun wr hw k hk => (hw.cell (p := ⟨b, off + k, none⟩) hb).trans (hc k _ (ints_get l k hk))⟩
  have Hel := Lib.hid el
  have Hbl : Hid ((lbestL l L).length = n) := Lib.hid (by rw [lbestL_len, el])
  have Hpos := Lib.hid hG.pos
  have Hrng := Lib.hid hG.rng
  have Hfall := Lib.hid hG.falls
  clear hr hF hmL hg hn el hG hck
  generalize lbestL l L = BL at *
  go_enter Try.func6, Try.ntmps6
  go_wp2_with (first
    | (go_at_call 8; refine Hp.out.mono ?_; rintro e w1 ⟨A1, c1, rfl, hr1, hb1⟩; have Hr1 := Lib.hid hr1; have Hb1 := Lib.hid hb1; clear hb1 hr1)
    | (go_at_call 11; refine (Hchk.out _ _ _ Hr1.out).mono ?_; rintro e w2 ⟨rfl, hb2⟩; have Hr2 := Lib.hid ((Hr1.out.below hb2).more hb2.size); have Hb2 := Lib.hid (Hb1.out.trans (hb2.mono Hb1.out.size)); clear hb2 Hr1 Hb1))
  have Hc2 : Hid (0 < n → ∃ b off, A1 = some ⟨b, off, none⟩ ∧ ∀ wr, Below w2.heap.size w2 wr → ∀ k, (hk : k < BL.length) → wr.cell? ⟨b, off + k, none⟩ = some (.int .i64 BL[k])) := Lib.hid fun h => by
    obtain ⟨b, off, e, hb, hc⟩ := Hr2.out.2 h
    exact ⟨b, off, e, fun wr hw k hk => (hw.cell (p := ⟨b, off + k, none⟩) hb).trans (hc k _ (ints_get BL k hk))⟩
  clear Hr2 Hp Hchk
  go_loopw [7, 8] (fun i k wr => ∃ q : Nat, q ≤ n ∧ i = .int .i64 q ∧ Hid (Below w2.heap.size w2 wr)) (fun i _ _ => n - (intOf i).toNat)
  case atStart => exact ⟨0, by omega, rfl, Below.refl _ _⟩
  case round =>
    obtain ⟨q, hq, rfl, HB⟩ := hrel
    by_cases hlt : q < n
    · have hqi : (0 : Int) ≤ (q : Int) ∧ (q : Int) < (n : Int) := by omega
      have hql : q < l.length := by rw [Hel.out]; exact hlt
      have hqb : q < BL.length := by rw [Hbl.out]; exact hlt
      obtain ⟨b1, o1, rfl, hcell1⟩ := Hc1.out (by omega)
      obtain ⟨b2, o2, rfl, hcell2⟩ := Hc2.out (by omega)
      have HC1 := Lib.hid fun W (hW : Below w2.heap.size w2 W) => hcell1 W (Hb2.out.trans (hW.mono Hb2.out.size)) q hql
      have HC2 := Lib.hid fun W (hW : Below w2.heap.size w2 W) => hcell2 W hW q hqb
      have x1 := HC1.out wr HB.out
      have x2 := HC2.out wr HB.out
      have hp := Hpos.out q hqb hql
      have hrg := Hrng.out q hqb
      have HF := Lib.hid fun j hj hj' h2 h3 => Hfall.out q j hqb hj hql hj' h2 h3
      clear hcell1 hcell2
      generalize l[q] = cv at *
      generalize BL[q] = bv at *
      have hd3 : decide ((L : Int) < bv) = false := decide_eq_false (by omega)
      have HXX : Hid True := Lib.hid trivial
      by_cases hc : 0 < cv
      · have hd1 : decide (0 < cv) = true := decide_eq_true hc
        have hd2 : decide (0 < bv) = true := decide_eq_true (hp.2 hc)
        have Hhc := Lib.hid hc
        clear hp hrg hc
        go_wp2
        go_quiet (fail)
        go_wp2
        go_loopw [8] (fun k W => ∃ r : Nat, r ≤ n ∧ k = .int .i64 r ∧ Hid (Below w2.heap.size w2 W)) (fun k _ => n - (intOf k).toNat)
        case atStart => exact ⟨0, by omega, rfl, by first | exact HB.out | exact below_drewN HB.out _⟩
        case round =>
          obtain ⟨r, hrn, rfl, HB2⟩ := hrel
          clear x1 x2
          by_cases hrt : r < n
          · have hri : (0 : Int) ≤ (r : Int) ∧ (r : Int) < (n : Int) := by omega
            have hrl : r < l.length := by rw [Hel.out]; exact hrt
            have hrb : r < BL.length := by rw [Hbl.out]; exact hrt
            obtain ⟨b3, o3, e3, hcell3⟩ := Hc1.out (by omega)
            injection e3 with e3
            injection e3 with e4 e5
            subst e4 e5
            obtain ⟨b4, o4, e6, hcell4⟩ := Hc2.out (by omega)
            injection e6 with e6
            injection e6 with e7 e8
            subst e7 e8
            have y1 := HC1.out wr HB2.out
            have y2 := HC2.out wr HB2.out
            have y3 := hcell3 wr (Hb2.out.trans (HB2.out.mono Hb2.out.size)) r hrl
            have y4 := hcell4 wr HB2.out r hrb
            have hf := HF.out r hrb hrl
            clear hcell3 hcell4
            generalize l[r] = dv at *
            generalize BL[r] = ev at *
            cases hd4 : decide (dv < cv) with
            | true =>
              cases hd5 : decide (0 < dv) with
              | true =>
                have hd6 : decide (ev < bv) = false := decide_eq_false (by have := hf (of_decide_eq_true hd4) (of_decide_eq_true hd5); omega)
                clear hf
                go_wp2
                go_quiet (fail)
                go_wp2
                go_roundw
                case rel => exact ⟨r + 1, by omega, iv (by omega), by first | exact HB2.out | exact below_drewN HB2.out _⟩
                case measure => simp only [intOf]; omega
              | false =>
                clear hf
                go_wp2
                go_quiet (fail)
                go_wp2
                go_roundw
                case rel => exact ⟨r + 1, by omega, iv (by omega), by first | exact HB2.out | exact below_drewN HB2.out _⟩
                case measure => simp only [intOf]; omega
            | false =>
              clear hf
              go_wp2
              go_quiet (fail)
              go_wp2
              go_roundw
              case rel => exact ⟨r + 1, by omega, iv (by omega), by first | exact HB2.out | exact below_drewN HB2.out _⟩
              case measure => simp only [intOf]; omega
          · have hrz : ¬ (r : Int) < (n : Int) := by omega
            go_wp2
            go_roundw
            case rel => exact ⟨q + 1, by omega, iv (by omega), HB2⟩
            case measure => simp only [intOf]; omega
      · have hd1 : decide (0 < cv) = false := decide_eq_false hc
        have hd2 : decide (0 < bv) = false := decide_eq_false (fun h => hc (hp.1 h))
        have Hhc := Lib.hid hc
        clear hp hrg hc
        go_wp2
        go_quiet (fail)
        go_wp2
        go_loopw [8] (fun k W => ∃ r : Nat, r ≤ n ∧ k = .int .i64 r ∧ Hid (Below w2.heap.size w2 W)) (fun k _ => n - (intOf k).toNat)
        case atStart => exact ⟨0, by omega, rfl, by first | exact HB.out | exact below_drewN HB.out _⟩
        case round =>
          obtain ⟨r, hrn, rfl, HB2⟩ := hrel
          clear x1 x2
          by_cases hrt : r < n
          · have hri : (0 : Int) ≤ (r : Int) ∧ (r : Int) < (n : Int) := by omega
            have hrl : r < l.length := by rw [Hel.out]; exact hrt
            have hrb : r < BL.length := by rw [Hbl.out]; exact hrt
            obtain ⟨b3, o3, e3, hcell3⟩ := Hc1.out (by omega)
            injection e3 with e3
            injection e3 with e4 e5
            subst e4 e5
            obtain ⟨b4, o4, e6, hcell4⟩ := Hc2.out (by omega)
            injection e6 with e6
            injection e6 with e7 e8
            subst e7 e8
            have y1 := HC1.out wr HB2.out
            have y2 := HC2.out wr HB2.out
            have y3 := hcell3 wr (Hb2.out.trans (HB2.out.mono Hb2.out.size)) r hrl
            have y4 := hcell4 wr HB2.out r hrb
            have hf := HF.out r hrb hrl
            clear hcell3 hcell4
            generalize l[r] = dv at *
            generalize BL[r] = ev at *
            cases hd4 : decide (dv < cv) with
            | true =>
              cases hd5 : decide (0 < dv) with
              | true =>
                have hd6 : decide (ev < bv) = false := decide_eq_false (by have := hf (of_decide_eq_true hd4) (of_decide_eq_true hd5); omega)
                clear hf
                go_wp2
                go_quiet (fail)
                go_wp2
                go_roundw
                case rel => exact ⟨r + 1, by omega, iv (by omega), by first | exact HB2.out | exact below_drewN HB2.out _⟩
                case measure => simp only [intOf]; omega
              | false =>
                clear hf
                go_wp2
                go_quiet (fail)
                go_wp2
                go_roundw
                case rel => exact ⟨r + 1, by omega, iv (by omega), by first | exact HB2.out | exact below_drewN HB2.out _⟩
                case measure => simp only [intOf]; omega
            | false =>
              clear hf
              go_wp2
              go_quiet (fail)
              go_wp2
              go_roundw
              case rel => exact ⟨r + 1, by omega, iv (by omega), by first | exact HB2.out | exact below_drewN HB2.out _⟩
              case measure => simp only [intOf]; omega
          · have hrz : ¬ (r : Int) < (n : Int) := by omega
            go_wp2
            go_roundw
            case rel => exact ⟨q + 1, by omega, iv (by omega), HB2⟩
            case measure => simp only [intOf]; omega
    · obtain rfl : q = n := by omega
      have hqz : ¬ (q : Int) < (q : Int) := by omega
      go_wp2_with (go_at_call 7; refine (awake8_any _).mono ?_; rintro e w9 ⟨rfl, hb9⟩; have Hb := Lib.hid ((Hb2.out.trans (HB.out.mono Hb2.out.size)).trans (hb9.mono (Nat.le_trans Hb2.out.size HB.out.size))); clear hb9)
      go_ret
      exact ⟨rfl, Hb.out⟩
theorem lensFull_walk (A : Option Addr) (n c : Nat) (m : Int) (l : List Int) (w : World) (hr : Reads w w.heap.size 1 A n (ints l)) :
    Calls Try.prog 6 #[.slice A n c, .int .i64 m] w fun e w' => e = .returned (.bool true) ∧ Below w.heap.size w w' := by
  by_cases h : n ≤ 300
  · by_cases hz : (lbestF l m).2 = 0
    · obtain ⟨g1, g2, L, rfl, g4, g5, g6, g7⟩ := lbestF_ok l m hz
      exact lensFull_near A n c L l w hr h g1 g2 ⟨g4, g5⟩ g6 g7
    · exact lensFull_none A n c m l w hr h hz
  · exact lensFull_far A n c m w (by omega)

namespace LensFull
set_option maxRecDepth 100000 in
theorem lifted (os : Os) (started : os.Started) (H : Type) (enc : TypeId × Value → H) :
    ReturnsInHanded {} Try.checked os 6 .any (Rows.lensFullSpec.pre6 enc Try.prog Try.f6 Rows.lensFullRow.domain false) (Rows.lensFullSpec.post enc Try.prog Try.f6 false true false false) := by
  refine law_sized (C := Try.checked) (tb := 4) ownP started (by kernel_rfl) Try.func6
    (ChangeSpec.witness6 (enc := enc) (C := Try.checked) false ⟨#[], #[.slice none 0 0, .int .i64 0], []⟩ 8 (by kernel_rfl) (by kernel_rfl) (by kernel_rfl) (by kernel_rfl))
    laidP (by kernel_rfl) rfl (by kernel_rfl) Try.underlying4 (by intro ds h; match ds, h with | [_, _], _ => rfl) ?_
  intro W base args ds p hval0 hA0 hlt _
  have hval : ∀ (j : Nat) t v, Try.f6.params[j]? = some t → args[j]? = some v → Value.okWide Try.prog W .any base t v := hval0
  have hA : DataW.TrodAll enc Try.prog W 0 (fun _ => true) true Try.f6.params.toList args.toList ds p := hA0
  rw [Try.params6] at hA hval
  obtain ⟨v0, v1, d0, d1, p0, p1, rfl, rfl, rfl, h0, h1⟩ := trodAll_two hA
  obtain ⟨Aks, nks, cks, ks, rfl, eks, hnks, hmks, hrks, hbks⟩ := open_nums rfl Try.underlying22 Try.underlying3 (by kernel_rfl) (hval 0 22 v0 rfl rfl) h0
  obtain ⟨m, rfl, rfl, rfl, wm⟩ := open_int Try.underlying3 (hval 1 3 v1 rfl rfl) h1
  exact lensFull_walk Aks nks cks m ks W hrks

theorem holds : Rows.LensFullSaid :=
  OpenClaim.holds_of_wide 6 Try.f6 rfl rfl rfl rfl rfl rfl rfl ⟨rfl, rfl, rfl, rfl, rfl⟩ rfl rfl rfl rfl rfl (by kernel_rfl) Try.func6 (by kernel_rfl)
    (of_decide_eq_true (by kernel_rfl)) (by unfold Func.isWrapper; first | (rw [if_pos (by decide +kernel)]; kernel_rfl) | (rw [if_neg (by decide +kernel)]; exact ⟨rfl, rfl⟩))
    (fun os started H enc _ => lifted os started H enc)
end LensFull
end Go.Proofs.Ytehpnfijpddcfaa
