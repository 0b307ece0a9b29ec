/-
  No symbol's code word begins another one's; of two of one length the greater symbol has the greater one, and a longer one, cut, is greater than a shorter one; the layer's probe holds (CanonApart). No condition.
-/
import Derived.Test.YtlnlahnglkeaiaaCanAw
import Derived.Test.YtlnlahnglkeaiaaFrame
import Derived.Deep.RegionHeld3
namespace Go.Proofs.Ytlnlahnglkeaiaa
set_option linter.unusedSimpArgs false
set_option linter.unusedVariables false
open Go.ChangeShapes Go.WideShapes Go.ChangeAt Go.RowKit Go.Joins Go.Deep
set_option maxHeartbeats 2000000 in
/-- Beyond the sizes that the statement looks at: the probe alone. -/
theorem canonApart_far (A : Option Addr) (n c : Nat) (w : World) (h : 60 < n) :
    Calls Try.prog 6 #[.slice A n c] w fun e w' => e = .returned (.bool true) ∧ Below w.heap.size w w' := by
  have h1 : (60 : Int) < n := by omega
  go_enter Try.func6, Try.ntmps6
  go_wp2_with (go_at_call 9; refine (awake9_any _).mono ?_; rintro e w9 ⟨rfl, hb9⟩)
  go_ret
  exact ⟨rfl, hb9⟩

set_option maxRecDepth 100000 in
set_option maxHeartbeats 2000000 in
theorem canonApart_none (A : Option Addr) (n c : Nat) (l : List Int) (w : World) (hr : Reads w w.heap.size 1 A n (ints l)) (h : n ≤ 60) (hc : checkF l ≠ 0) :
    Calls Try.prog 6 #[.slice A n c] w fun e w' => e = .returned (.bool true) ∧ Below w.heap.size w w' := by
  have h1 : ¬ (60 : Int) < n := by omega
  have hp := p_cwords_any l A n c w (by omega) hr
  have hw : cwordsF l = ([], checkF l) := by unfold cwordsF; rw [if_neg hc]
  rw [hw] at hp
  have Hp : Hid (Calls Try.prog 10 #[.slice A n c] w fun e w' => ∃ A' c', e = .returned (.tuple #[.slice A' 0 c', .int .i64 (checkF l)]) ∧ Below w.heap.size w w') := Lib.hid (hp.mono fun e w' ⟨A', c', he, _, _, hb⟩ => ⟨A', c', he, hb⟩)
  have hE : (checkF l == 0) = false := by simpa using hc
  have hE2 : (checkF l != 0) = true := by simpa using hc
  clear hr h hc hp hw
  generalize checkF l = E at *
  go_enter Try.func6, Try.ntmps6
  go_wp2_with (first
    | (go_at_call 10; refine Hp.out.mono ?_; rintro e w1 ⟨A1, c1, rfl, hb1⟩; have Hb := Lib.hid hb1; clear hb1)
    | (go_at_call 9; refine (awake9_any _).mono ?_; rintro e w9 ⟨rfl, hb9⟩; replace Hb := Lib.hid (Hb.out.trans (hb9.mono Hb.out.size)); clear hb9))
  go_ret
  exact ⟨rfl, Hb.out⟩
/-- What a round of the law's loops looks at. -/
theorem capart_round {l : List Int} (h : checkF l = 0) (i k : Nat) (hi : i < (wat (l.map Int.toNat) 16 0).length) (hk : k < (wat (l.map Int.toNat) 16 0).length) : ∃ aN aW bN bW : Nat, (wat (l.map Int.toNat) 16 0)[i] = ((aN : Int), (aW : Int)) ∧ (wat (l.map Int.toNat) 16 0)[k] = ((bN : Int), (bW : Int)) ∧ aW ≤ 15 ∧ bW ≤ 15 ∧ aN ≤ 32768 ∧ bN ≤ 32768 ∧
    (i ≠ k → 0 < aW → aW ≤ bW → (aW = bW → i < k → aN < bN) ∧ bN / 2 ^ (bW - aW) ≠ aN ∧ (aW < bW → aN < bN / 2 ^ (bW - aW))) := by
  obtain ⟨_, hg, hca⟩ := check_ok h
  have h15 := cnat15 hg
  have hi2 : i < (l.map Int.toNat).length := by rw [wat_len] at hi; exact hi
  have hk2 : k < (l.map Int.toNat).length := by rw [wat_len] at hk; exact hk
  have one : ∀ j (hj : j < (wat (l.map Int.toNat) 16 0).length) (hj2 : j < (l.map Int.toNat).length), ∃ N W : Nat, (wat (l.map Int.toNat) 16 0)[j] = ((N : Int), (W : Int)) ∧ W ≤ 15 ∧ N ≤ 32768 ∧ W = (l.map Int.toNat)[j] ∧ (0 < W → N = cword (l.map Int.toNat) W j) := fun j hj hj2 => by
    have h1 := wat_at h15 j hj2 hj
    have h2 := h15 _ (List.getElem_mem hj2)
    by_cases hp : 0 < (l.map Int.toNat)[j]
    · rw [if_pos hp] at h1
      refine ⟨_, _, h1, h2, ?_, rfl, fun _ => rfl⟩
      have h3 := cword_lt (ls := l.map Int.toNat) _ j hj2 rfl ⟨hp, h2⟩ hca
      have h4 : (2 : Nat) ^ (l.map Int.toNat)[j] ≤ 2 ^ 15 := Nat.pow_le_pow_right (by omega) h2
      omega
    · rw [if_neg hp] at h1
      exact ⟨0, 0, h1, by omega, by omega, by omega, fun h => absurd h (by omega)⟩
  obtain ⟨aN, aW, a1, a2, a3, a4, a5⟩ := one i hi hi2
  obtain ⟨bN, bW, b1, b2, b3, b4, b5⟩ := one k hk hk2
  refine ⟨aN, aW, bN, bW, a1, b1, a2, b2, a3, b3, fun hik hp hle => ?_⟩
  obtain ⟨_, _, c1, c2, c3⟩ := capart h i k (by simpa using hi2) (by simpa using hk2) hik (by rw [← a4]; exact hp) (by rw [← a4, ← b4]; exact hle) aW bW aN bN a4.symm b4.symm (a5 hp).symm (b5 (by omega)).symm
  exact ⟨c1, c2, c3⟩
/-- The cells that the region loads. -/
def AHeld (wr W : World) (b o1 o2 : Nat) (x1 y1 x2 y2 : Value) : Prop := W.cell? ⟨b, o1, none⟩ = some x1 ∧ W.cell? ⟨b, o1 + 1, none⟩ = some y1 ∧ W.cell? ⟨b, o2, none⟩ = some x2 ∧ W.cell? ⟨b, o2 + 1, none⟩ = some y2 ∧ Below wr.heap.size wr W
section
variable {wr W : World} {b o1 o2 : Nat} {x1 y1 x2 y2 : Value}
theorem AHeld.of (h : AHeld wr wr b o1 o2 x1 y1 x2 y2) (hb : Below wr.heap.size wr W) : AHeld wr W b o1 o2 x1 y1 x2 y2 := by
  obtain ⟨h1, h2, h3, h4, _⟩ := h
  have hl := cell_lt h1
  exact ⟨(hb.cell (p := ⟨b, o1, none⟩) hl).trans h1, (hb.cell (p := ⟨b, o1 + 1, none⟩) hl).trans h2, (hb.cell (p := ⟨b, o2, none⟩) hl).trans h3, (hb.cell (p := ⟨b, o2 + 1, none⟩) hl).trans h4, hb⟩
theorem AHeld.drew (h : AHeld wr wr b o1 o2 x1 y1 x2 y2) : AHeld wr wr.drew b o1 o2 x1 y1 x2 y2 := h.of (Below.refl _ _).drew
theorem AHeld.one (h : AHeld wr wr b o1 o2 x1 y1 x2 y2) (o : Obj) : AHeld wr (wr.alloc o).drew b o1 o2 x1 y1 x2 y2 := h.of ((Below.refl _ _).alloc (Nat.le_refl _) o).drew
theorem AHeld.two (h : AHeld wr wr b o1 o2 x1 y1 x2 y2) (o o' : Obj) : AHeld wr ((wr.alloc o).alloc o').drew b o1 o2 x1 y1 x2 y2 := h.of (((Below.refl _ _).alloc (Nat.le_refl _) o).alloc (by simp) o').drew
end
set_option maxRecDepth 100000 in
set_option maxHeartbeats 16000000 in
theorem canonApart_near (A : Option Addr) (n c : Nat) (l : List Int) (w : World) (hr : Reads w w.heap.size 1 A n (ints l)) (h : n ≤ 60) (hc : checkF l = 0) :
    Calls Try.prog 6 #[.slice A n c] w fun e w' => e = .returned (.bool true) ∧ Below w.heap.size w w' := by
  have h1 : ¬ (60 : Int) < n := by omega
  have hni : (n : Int) ≤ 60 := by omega
  have el : l.length = n := by have := hr.1; rw [ints_length] at this; omega
  have hp := p_cwords_any l A n c w (by omega) hr
  rw [cwords_ok hc] at hp
  have hwl : (wat (l.map Int.toNat) 16 0).length = n := by rw [wat_len, List.length_map, el]
  have Hrd := Lib.hid fun i k hi hk => capart_round hc i k hi hk
  generalize wat (l.map Int.toNat) 16 0 = F at *
  dsimp only at hp
  rw [hwl] at hp
  have Hp := Lib.hid hp
  have Hwl := Lib.hid hwl
  clear hr h hc hp el hwl
  go_enter Try.func6, Try.ntmps6
  go_wp2_with (go_at_call 10; refine Hp.out.mono ?_; rintro e w1 ⟨A1, c1, rfl, _, hr1, hb1⟩; have Hb := Lib.hid hb1; have Hr1 := Lib.hid hr1; clear hb1 hr1)
  go_loopw [5, 6, 7, 8, 9] (fun ix kx ax bx cx W => ∃ i : Nat, i ≤ n ∧ ix = .int .i64 i ∧ Hid (Below w1.heap.size w1 W)) (fun ix _ _ _ _ _ => n - (intOf ix).toNat)
  case atStart => exact ⟨0, by omega, rfl, Below.refl _ _⟩
  case round =>
    obtain ⟨i, hi, rfl, Hb1⟩ := hrel
    by_cases hlt : i < n
    · have hii : (0 : Int) ≤ (i : Int) ∧ (i : Int) < (n : Int) := by omega
      go_wp2
      go_loopw [6, 7, 8, 9] (fun kx ax bx cx W => ∃ k : Nat, k ≤ n ∧ kx = .int .i64 k ∧ Hid (Below w1.heap.size w1 W)) (fun kx _ _ _ _ => n - (intOf kx).toNat)
      case atStart => exact ⟨0, by omega, rfl, Hb1⟩
      case round =>
        obtain ⟨k, hk, rfl, Hb2⟩ := hrel
        by_cases hlk : k < n
        · have hki : (0 : Int) ≤ (k : Int) ∧ (k : Int) < (n : Int) := by omega
          have hiF : i < F.length := by rw [Hwl.out]; exact hlt
          have hkF : k < F.length := by rw [Hwl.out]; exact hlk
          obtain ⟨aN, aW, bN, bW, f1, f2, f3, f4, f5, f6, f7⟩ := Hrd.out i k hiF hkF
          obtain ⟨b, off, rfl, hbl, hcl⟩ := Hr1.out.2 (by omega)
          have y1 := hcl (i * 2) _ (pairs_fst .i64 F i hiF)
          have y2 := hcl (i * 2 + 1) _ (pairs_snd .i64 F i hiF)
          have y3 := hcl (k * 2) _ (pairs_fst .i64 F k hkF)
          have y4 := hcl (k * 2 + 1) _ (pairs_snd .i64 F k hkF)
          rw [f1] at y1 y2
          rw [f2] at y3 y4
          dsimp only at y1 y2 y3 y4
          have HA : Hid (AHeld wr wr b (off + i * 2) (off + k * 2) (.int .i64 (aN : Int)) (.int .i64 (aW : Int)) (.int .i64 (bN : Int)) (.int .i64 (bW : Int))) := Lib.hid ⟨(Hb2.out.cell (p := ⟨b, off + i * 2, none⟩) hbl).trans y1, (Hb2.out.cell (p := ⟨b, off + i * 2 + 1, none⟩) hbl).trans y2, (Hb2.out.cell (p := ⟨b, off + k * 2, none⟩) hbl).trans y3, (Hb2.out.cell (p := ⟨b, off + k * 2 + 1, none⟩) hbl).trans y4, Below.refl _ _⟩
          clear y1 y2 y3 y4 hcl f1 f2 hiF hkF
          have HF := Lib.hid f7
          clear f7
          go_wp2
          go_region_held3 (fun w' => w'.cell? ⟨b, off + i * 2, none⟩ = some (.int .i64 (aN : Int)) ∧ w'.cell? ⟨b, off + i * 2 + 1, none⟩ = some (.int .i64 (aW : Int)) ∧ w'.cell? ⟨b, off + k * 2, none⟩ = some (.int .i64 (bN : Int)) ∧ w'.cell? ⟨b, off + k * 2 + 1, none⟩ = some (.int .i64 (bW : Int)) ∧ Below wr.heap.size wr w')
            (first | exact AHeld.drew HA.out | exact AHeld.one HA.out _ | exact AHeld.two HA.out _ _)
            (fail)
          all_goals (
            rename_i hS
            have Hb5 := Lib.hid (Hb2.out.trans (hS.2.2.2.2.mono Hb2.out.size))
            clear hS HA
            have hai : (0 : Int) ≤ (aN : Int) ∧ (aN : Int) ≤ 32768 ∧ (0 : Int) ≤ (bN : Int) ∧ (bN : Int) ≤ 32768 ∧ (aW : Int) ≤ 15 ∧ (bW : Int) ≤ 15 := by omega
            by_cases hik : i = k
            · have e1 : (i : Int) = (k : Int) := by omega
              have e2 : ((i : Int) == (k : Int)) = true := by simp; omega
              clear HF
              go_wp2
              go_roundw
              case rel => exact ⟨k + 1, by omega, iv (by omega), Hb5⟩
              case measure => simp only [intOf]; omega
            · have e1 : ¬ (i : Int) = (k : Int) := by omega
              have e2 : ((i : Int) == (k : Int)) = false := by simp; omega
              by_cases h0 : aW = 0
              · subst h0
                have e3 : (((0 : Nat) : Int) == 0) = true := by decide
                clear HF
                go_wp2
                go_roundw
                case rel => exact ⟨k + 1, by omega, iv (by omega), Hb5⟩
                case measure => simp only [intOf]; omega
              · have e3 : ((aW : Int) == 0) = false := by simp; omega
                have e4 : ¬ (aW : Int) = 0 := by omega
                by_cases hlw : bW < aW
                · have e5 : (bW : Int) < (aW : Int) := by omega
                  clear HF
                  go_wp2
                  go_roundw
                  case rel => exact ⟨k + 1, by omega, iv (by omega), Hb5⟩
                  case measure => simp only [intOf]; omega
                · have e5 : ¬ (bW : Int) < (aW : Int) := by omega
                  obtain ⟨F1, F2, F3⟩ := HF.out hik (by omega) (by omega)
                  clear HF
                  by_cases heq : aW = bW
                  · subst heq
                    have e6 : ((aW : Int) == (aW : Int)) = true := by simp
                    rw [Nat.sub_self, Nat.pow_zero, Nat.div_one] at F2
                    have e7 : ¬ (bN : Int) = (aN : Int) := by omega
                    have e8 : ((bN : Int) == (aN : Int)) = false := by simp; omega
                    by_cases hlk2 : i < k
                    · have F4 := F1 rfl hlk2
                      have e9 : (i : Int) < (k : Int) := by omega
                      have e10 : ¬ (bN : Int) ≤ (aN : Int) := by omega
                      clear F1 F2 F3 F4
                      go_wp2
                      go_roundw
                      case rel => exact ⟨k + 1, by omega, iv (by omega), Hb5⟩
                      case measure => simp only [intOf]; omega
                    · have e9 : ¬ (i : Int) < (k : Int) := by omega
                      clear F1 F2 F3
                      go_wp2
                      go_roundw
                      case rel => exact ⟨k + 1, by omega, iv (by omega), Hb5⟩
                      case measure => simp only [intOf]; omega
                  · have e6 : ((bW : Int) == (aW : Int)) = false := by simp; omega
                    have e7 : ¬ (bW : Int) = (aW : Int) := by omega
                    have e8 : (aW : Int) < (bW : Int) := by omega
                    have F4 := F3 (by omega)
                    obtain ⟨d, hd⟩ : ∃ d, bW - aW = d := ⟨_, rfl⟩
                    rw [hd] at F2 F4
                    have hdi : (bW : Int) - (aW : Int) = (d : Int) := by omega
                    obtain ⟨q, hq⟩ : ∃ q, bN / 2 ^ d = q := ⟨_, rfl⟩
                    rw [hq] at F2 F4
                    have hqi : (bN : Int) / 2 ^ d = (q : Int) := by rw [← hq]; norm_cast
                    have e9 : ¬ (q : Int) = (aN : Int) := by omega
                    have e10 : ((q : Int) == (aN : Int)) = false := by simp; omega
                    have e11 : ¬ (q : Int) ≤ (aN : Int) := by omega
                    clear F1 F2 F3 F4 hd heq hq
                    go_wp2
                    go_roundw
                    case rel => exact ⟨k + 1, by omega, iv (by omega), Hb5⟩
                    case measure => simp only [intOf]; omega)
        · obtain rfl : k = n := by omega
          have hki : ¬ (k : Int) < (k : Int) := by omega
          go_wp2
          go_roundw
          case rel => exact ⟨i + 1, by omega, iv (by omega), Hb2⟩
          case measure => simp only [intOf]; omega
    · obtain rfl : i = n := by omega
      have hii : ¬ (i : Int) < (i : Int) := by omega
      have Hbb : Hid (Below w.heap.size w wr) := Lib.hid (Hb.out.trans (Hb1.out.mono Hb.out.size))
      go_wp2_with (go_at_call 9; refine (awake9_any _).mono ?_; rintro e w9 ⟨rfl, hb9⟩)
      go_ret
      exact ⟨rfl, Hbb.out.trans (hb9.mono Hbb.out.size)⟩
theorem canonApart_walk (A : Option Addr) (n c : Nat) (l : List Int) (w : World) (hr : Reads w w.heap.size 1 A n (ints l)) :
    Calls Try.prog 6 #[.slice A n c] w fun e w' => e = .returned (.bool true) ∧ Below w.heap.size w w' := by
  by_cases h : n ≤ 60
  · by_cases hc : checkF l = 0
    · exact canonApart_near A n c l w hr h hc
    · exact canonApart_none A n c l w hr h hc
  · exact canonApart_far A n c w (by omega)

namespace CanonApart
set_option maxRecDepth 100000 in
theorem lifted (os : Os) (started : os.Started) (H : Type) (enc : TypeId × Value → H) :
    ReturnsInHanded {} Try.checked os 6 .any (Rows.canonApartSpec.pre6 enc Try.prog Try.f6 Rows.canonApartRow.domain false) (Rows.canonApartSpec.post enc Try.prog Try.f6 false true false false) := by
  refine law_sized (C := Try.checked) (tb := 4) ownP started (by kernel_rfl) Try.func6
    (ChangeSpec.witness6 (enc := enc) (C := Try.checked) false ⟨#[], #[.slice none 0 0], []⟩ 8 (by kernel_rfl) (by kernel_rfl) (by kernel_rfl) (by kernel_rfl))
    laidP (by kernel_rfl) rfl (by kernel_rfl) Try.underlying4 (by intro ds h; match ds, h with | [_], _ => rfl) ?_
  intro W base args ds p hval0 hA0 hlt _
  have hval : ∀ (j : Nat) t v, Try.f6.params[j]? = some t → args[j]? = some v → Value.okWide Try.prog W .any base t v := hval0
  have hA : DataW.TrodAll enc Try.prog W 0 (fun _ => true) true Try.f6.params.toList args.toList ds p := hA0
  rw [Try.params6] at hA hval
  obtain ⟨v0, d0, rfl, rfl, h0⟩ := trodAll_one hA
  obtain ⟨Aks, nks, cks, ks, rfl, eks, hnks, hmks, hrks, hbks⟩ := open_nums rfl Try.underlying22 Try.underlying3 (by kernel_rfl) (hval 0 22 v0 rfl rfl) h0
  exact canonApart_walk Aks nks cks ks W hrks

theorem holds : Rows.CanonApartSaid :=
  OpenClaim.holds_of_wide 6 Try.f6 rfl rfl rfl rfl rfl rfl rfl ⟨rfl, rfl, rfl, rfl, rfl⟩ rfl rfl rfl rfl rfl (by kernel_rfl) Try.func6 (by kernel_rfl)
    (of_decide_eq_true (by kernel_rfl)) (by unfold Func.isWrapper; first | (rw [if_pos (by decide +kernel)]; kernel_rfl) | (rw [if_neg (by decide +kernel)]; exact ⟨rfl, rfl⟩))
    (fun os started H enc _ => lifted os started H enc)
end CanonApart
end Go.Proofs.Ytlnlahnglkeaiaa
