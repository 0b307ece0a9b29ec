/-
  A byte's rank is how many unlike ones stood between it and the same one ahead of it, 0 where it comes again at once; the layer's probe holds (FrontRuns). No condition.
-/
import Derived.Test.YteoaaddclfognaaFrontC
import Derived.Test.YteoaaddclfognaaFrame
namespace Go.Proofs.Yteoaaddclfognaa
set_option linter.unusedSimpArgs false
set_option linter.unusedVariables false
open Go.ChangeShapes Go.WideShapes Go.ChangeAt Go.RowKit Go.Joins Go.Deep
set_option maxHeartbeats 2000000 in
/-- Beyond the sizes that the statement looks at: the probe alone. -/
theorem frontRuns_far0 (l : List UInt8) (w : World) (h : 500 < l.length) :
    Calls Try.prog 5 #[.string ⟨l.toArray⟩] w fun e w' => e = .returned (.bool true) ∧ Below w.heap.size w w' := by
  have h1 : (500 : Int) < l.length := by omega
  go_enter Try.func5, Try.ntmps5
  go_wp2_with (go_at_call 7; refine (awake6_any _).mono ?_; rintro e w9 ⟨rfl, hb9⟩)
  go_ret
  exact ⟨rfl, hb9⟩

/-- What a round of the law's loop looks at. -/
theorem runs_step (l : List UInt8) (i : Nat) (h : i < l.length) : ∃ r n : Int, (rks row0 l)[i]? = some r ∧ btw (l.take i).reverse l[i] = n ∧ 0 ≤ r ∧ r ≤ 255 ∧ (0 ≤ n → r = n) ∧ (r = 0 ↔ ((∃ h : 0 < i, l[i - 1]'(by omega) = l[i]) ∨ (i = 0 ∧ l[i] = 0))) := by
  refine ⟨_, _, rks_get l i h, rfl, by omega, ?_, rank_between (l.take i) l[i], ?_⟩
  · have := pl_lt (row0_whole.rowS (l.take i)) l[i]
    omega
  · rw [← zero_same l i h]
    omega

set_option maxRecDepth 100000 in
set_option maxHeartbeats 8000000 in
theorem frontRuns_near (l : List UInt8) (w : World) (h : l.length ≤ 500) :
    Calls Try.prog 5 #[.string ⟨l.toArray⟩] w fun e w' => e = .returned (.bool true) ∧ Below w.heap.size w w' := by
  have h1 : ¬ (500 : Int) < l.length := by omega
  have Hrk := Lib.hid fun W => fr_ranks_any l (by omega) W
  have Hstep := Lib.hid (runs_step l)
  have Hbetween : Hid (∀ (i : Nat) (hi : i < l.length) W, Calls Try.prog 15 #[.string ⟨l.toArray⟩, .int .i64 (i : Int)] W fun e w' => e = .returned (.int .i64 (btw (l.take i).reverse l[i])) ∧ Below W.heap.size W w') := Lib.hid fun i hi W => fr_between_any l i hi (by omega) W
  have hll : (l.length : Int) ≤ 500 := by omega
  have Hg : Hid (∀ (i : Nat) r, (rks row0 l)[i]? = some r → (ints (rks row0 l))[i]? = some (.int .i64 r)) := Lib.hid fun i r hr => by
    unfold ints
    rw [List.getElem?_map, hr]
    rfl
  clear h
  generalize rks row0 l = xs at *
  go_enter Try.func5, Try.ntmps5
  go_wp2_with (go_at_call 11; refine (Hrk.out _).mono ?_; rintro e w1 ⟨A1, c1, rfl, hlc, hr1, hb1⟩; have Hr1 := Lib.hid hr1; have Hb1 := Lib.hid hb1; clear hb1 hr1)
  go_loopw [4] (fun i wr => ∃ k : Nat, k ≤ l.length ∧ i = .int .i64 k ∧ Hid (Below w1.heap.size w1 wr)) (fun i _ => l.length - (intOf i).toNat)
  case atStart => exact ⟨0, by omega, rfl, Lib.hid (Below.refl _ _)⟩
  case round =>
    obtain ⟨i, hk, rfl, Hb⟩ := hrel
    by_cases hlt : i < l.length
    · have hki : (0 : Int) ≤ (i : Int) ∧ (i : Int) < l.length := by omega
      have hks : i < (ByteArray.mk l.toArray).size := by rw [ByteArray.size_mk']; simpa using hlt
      obtain ⟨r, n, hrx, hbn, hr0, hr5, hbt, hz⟩ := Hstep.out i hlt
      have hbw := Hbetween.out i hlt
      rw [hbn] at hbw
      have Hbt := Lib.hid hbw
      obtain ⟨b, off, rfl, hlt1, hc1⟩ := Hr1.out.2 (by omega)
      have Hcell : Hid (∀ w2, Below wr.heap.size wr w2 → w2.cell? ⟨b, off + i, none⟩ = some (.int .i64 r)) := Lib.hid fun w2 hb2 => by
        refine (hb2.cell (p := ⟨b, off + i, none⟩) (Nat.lt_of_lt_of_le hlt1 Hb.out.size)).trans ((Hb.out.cell (p := ⟨b, off + i, none⟩) hlt1).trans ?_)
        exact hc1 i _ (Hg.out i r hrx)
      clear hbw hbn hrx hc1 Hr1
      have hy2 : ((ByteArray.mk l.toArray)[i]'hks).toNat = l[i].toNat := rfl
      rcases Nat.eq_zero_or_pos i with rfl | hpos
      · have hz2 : r = 0 ↔ l[0].toNat = 0 := by
          rw [hz]
          constructor
          · rintro (⟨h0, _⟩ | ⟨_, e⟩)
            · exact absurd h0 (by omega)
            · rw [e]; rfl
          · intro e; exact Or.inr ⟨rfl, u8_eq e⟩
        have hy8 := u8_lt l[0]
        clear hz
        rename r = 0 ↔ l[0].toNat = 0 => hz
        generalize l[0].toNat = y at *
        have Hbt2 : Hid (∀ W, Calls Try.prog 15 #[.string ⟨l.toArray⟩, .int .i64 0] W fun e w' => e = .returned (.int .i64 n) ∧ Below W.heap.size W w') := Hbt
        have Hcell2 : Hid (∀ w2, Below wr.heap.size wr w2 → w2.cell? ⟨b, off, none⟩ = some (.int .i64 r)) := Hcell
        clear Hbt Hcell
        rename Hid (∀ W, Calls Try.prog 15 #[.string ⟨l.toArray⟩, .int .i64 0] W fun e w' => e = .returned (.int .i64 n) ∧ Below W.heap.size W w') => Hbt
        rename Hid (∀ w2, Below wr.heap.size wr w2 → w2.cell? ⟨b, off, none⟩ = some (.int .i64 r)) => Hcell
        by_cases hy : y = 0
        · subst hy
          obtain rfl : r = 0 := hz.2 (by simp)
          clear hz
          by_cases hn : 0 ≤ n
          · have hrn := hbt hn
            subst hrn
            clear hbt
            go_wp2_with (go_at_call 15; refine (Hbt.out _).mono ?_; rintro e w2 ⟨rfl, hb2⟩; have x1 := Hcell.out _ hb2; have Hb2 := Lib.hid hb2; clear hb2)
            go_quiet (fail)
            go_wp2
            go_roundw
            case rel => exact ⟨0 + 1, by omega, iv (by omega), Lib.hid (below_drewN (Hb.out.trans (Hb2.out.mono Hb.out.size)) _)⟩
            case measure => simp only [intOf]; omega
          · clear hbt
            go_wp2_with (go_at_call 15; refine (Hbt.out _).mono ?_; rintro e w2 ⟨rfl, hb2⟩; have x1 := Hcell.out _ hb2; have Hb2 := Lib.hid hb2; clear hb2)
            go_quiet (fail)
            go_wp2
            go_roundw
            case rel => exact ⟨0 + 1, by omega, iv (by omega), Lib.hid (below_drewN (Hb.out.trans (Hb2.out.mono Hb.out.size)) _)⟩
            case measure => simp only [intOf]; omega
        · have hy' : ¬ (y : Int) = 0 := by omega
          have hyb : ((y : Int) == 0) = false := by simpa using hy
          simp only [hy] at hz
          have hr0 : ¬ r = 0 := fun e => by have := hz.1 e; simp at this
          have hrb : (r == 0) = false := by simpa using hr0
          clear hz
          by_cases hn : 0 ≤ n
          · have hrn := hbt hn
            subst hrn
            clear hbt
            go_wp2_with (go_at_call 15; refine (Hbt.out _).mono ?_; rintro e w2 ⟨rfl, hb2⟩; have x1 := Hcell.out _ hb2; have Hb2 := Lib.hid hb2; clear hb2)
            go_quiet (fail)
            go_wp2
            go_roundw
            case rel => exact ⟨0 + 1, by omega, iv (by omega), Lib.hid (below_drewN (Hb.out.trans (Hb2.out.mono Hb.out.size)) _)⟩
            case measure => simp only [intOf]; omega
          · clear hbt
            go_wp2_with (go_at_call 15; refine (Hbt.out _).mono ?_; rintro e w2 ⟨rfl, hb2⟩; have x1 := Hcell.out _ hb2; have Hb2 := Lib.hid hb2; clear hb2)
            go_quiet (fail)
            go_wp2
            go_roundw
            case rel => exact ⟨0 + 1, by omega, iv (by omega), Lib.hid (below_drewN (Hb.out.trans (Hb2.out.mono Hb.out.size)) _)⟩
            case measure => simp only [intOf]; omega
      · obtain ⟨p, hp⟩ : ∃ p, p + 1 = i := ⟨i - 1, by omega⟩
        have hpl : p < l.length := by omega
        have hkp : p < (ByteArray.mk l.toArray).size := by rw [ByteArray.size_mk']; simpa using hpl
        have hx2 : ((ByteArray.mk l.toArray)[p]'hkp).toNat = l[p].toNat := rfl
        have hz2 : r = 0 ↔ l[p].toNat = l[i].toNat := by
          rw [hz]
          have e1 : l[i - 1]'(by omega) = l[p] := by congr 1; omega
          constructor
          · rintro (⟨_, e⟩ | ⟨h0, _⟩)
            · rw [← e1, e]
            · omega
          · intro e; exact Or.inl ⟨hpos, e1.trans (u8_eq e)⟩
        have hx8 := u8_lt l[p]
        have hy8 := u8_lt l[i]
        clear hz
        rename r = 0 ↔ l[p].toNat = l[i].toNat => hz
        generalize l[p].toNat = x at *
        generalize l[i].toNat = y at *
        have hsub : (i : Int) - 1 = (p : Int) := by omega
        have hw1 : IntKind.i64.wrap ((i : Int) - 1) = (p : Int) := by rw [IntKind.wrap_i64]; omega
        have hw2 : IntKind.i64.wrap (p : Int) = (p : Int) := by rw [IntKind.wrap_i64]; omega
        have hpi : (0 : Int) ≤ (p : Int) ∧ (p : Int) < l.length ∧ 0 < (i : Int) := by omega
        by_cases hy : x = y
        · subst hy
          obtain rfl : r = 0 := hz.2 (by simp)
          clear hz
          by_cases hn : 0 ≤ n
          · have hrn := hbt hn
            subst hrn
            clear hbt
            go_wp2_with (go_at_call 15; refine (Hbt.out _).mono ?_; rintro e w2 ⟨rfl, hb2⟩; have x1 := Hcell.out _ hb2; have Hb2 := Lib.hid hb2; clear hb2)
            go_quiet (fail)
            go_wp2
            go_roundw
            case rel => exact ⟨i + 1, by omega, iv (by omega), Lib.hid (below_drewN (Hb.out.trans (Hb2.out.mono Hb.out.size)) _)⟩
            case measure => simp only [intOf]; omega
          · clear hbt
            go_wp2_with (go_at_call 15; refine (Hbt.out _).mono ?_; rintro e w2 ⟨rfl, hb2⟩; have x1 := Hcell.out _ hb2; have Hb2 := Lib.hid hb2; clear hb2)
            go_quiet (fail)
            go_wp2
            go_roundw
            case rel => exact ⟨i + 1, by omega, iv (by omega), Lib.hid (below_drewN (Hb.out.trans (Hb2.out.mono Hb.out.size)) _)⟩
            case measure => simp only [intOf]; omega
        · have hy' : ¬ (x : Int) = (y : Int) := by omega
          have hyb : ((x : Int) == (y : Int)) = false := by simpa using hy'
          have hib : ((i : Int) == 0) = false := by simp; omega
          simp only [hy] at hz
          have hr0 : ¬ r = 0 := fun e => by have := hz.1 e; simp at this
          have hrb : (r == 0) = false := by simpa using hr0
          clear hz
          by_cases hn : 0 ≤ n
          · have hrn := hbt hn
            subst hrn
            clear hbt
            go_wp2_with (go_at_call 15; refine (Hbt.out _).mono ?_; rintro e w2 ⟨rfl, hb2⟩; have x1 := Hcell.out _ hb2; have Hb2 := Lib.hid hb2; clear hb2)
            go_quiet (fail)
            go_wp2
            go_roundw
            case rel => exact ⟨i + 1, by omega, iv (by omega), Lib.hid (below_drewN (Hb.out.trans (Hb2.out.mono Hb.out.size)) _)⟩
            case measure => simp only [intOf]; omega
          · clear hbt
            go_wp2_with (go_at_call 15; refine (Hbt.out _).mono ?_; rintro e w2 ⟨rfl, hb2⟩; have x1 := Hcell.out _ hb2; have Hb2 := Lib.hid hb2; clear hb2)
            go_quiet (fail)
            go_wp2
            go_roundw
            case rel => exact ⟨i + 1, by omega, iv (by omega), Lib.hid (below_drewN (Hb.out.trans (Hb2.out.mono Hb.out.size)) _)⟩
            case measure => simp only [intOf]; omega
    · obtain rfl : i = l.length := by omega
      go_wp2_with (go_at_call 7; refine (awake6_any _).mono ?_; rintro e w9 ⟨rfl, hb9⟩; have Hb9 := Lib.hid (Hb1.out.trans ((Hb.out.trans (hb9.mono Hb.out.size)).mono Hb1.out.size)); clear hb9)
      go_ret
      exact ⟨rfl, Hb9.out⟩
theorem frontRuns_walk (l : List UInt8) (w : World) :
    Calls Try.prog 5 #[.string ⟨l.toArray⟩] w fun e w' => e = .returned (.bool true) ∧ Below w.heap.size w w' := by
  by_cases h : l.length ≤ 500
  · exact frontRuns_near l w h
  · exact frontRuns_far0 l w (by omega)

namespace FrontRuns
set_option maxRecDepth 100000 in
theorem lifted (os : Os) (started : os.Started) (H : Type) (enc : TypeId × Value → H) :
    ReturnsInHanded {} Try.checked os 5 .any (Rows.frontRunsSpec.pre6 enc Try.prog Try.f5 Rows.frontRunsRow.domain false) (Rows.frontRunsSpec.post enc Try.prog Try.f5 false true false false) := by
  refine law_sized (C := Try.checked) (tb := 4) ownP started (by kernel_rfl) Try.func5
    (ChangeSpec.witness6 (enc := enc) (C := Try.checked) false ⟨#[], #[.string ⟨#[]⟩], []⟩ 8 (by kernel_rfl) (by kernel_rfl) (by kernel_rfl) (by kernel_rfl))
    laidP (by kernel_rfl) rfl (by kernel_rfl) Try.underlying4 (by intro ds h; match ds, h with | [_], _ => rfl) ?_
  intro W base args ds p hval0 hA0 hlt _
  have hval : ∀ (j : Nat) t v, Try.f5.params[j]? = some t → args[j]? = some v → Value.okWide Try.prog W .any base t v := hval0
  have hA : DataW.TrodAll enc Try.prog W 0 (fun _ => true) true Try.f5.params.toList args.toList ds p := hA0
  rw [Try.params5] at hA hval
  obtain ⟨v0, d0, rfl, rfl, h0⟩ := trodAll_one hA
  obtain ⟨l, rfl, rfl⟩ := open_bytes Try.underlying9 (hval 0 9 v0 rfl rfl) h0
  exact frontRuns_walk l W

theorem holds : Rows.FrontRunsSaid :=
  OpenClaim.holds_of_wide 5 Try.f5 rfl rfl rfl rfl rfl rfl rfl ⟨rfl, rfl, rfl, rfl, rfl⟩ rfl rfl rfl rfl rfl (by kernel_rfl) Try.func5 (by kernel_rfl)
    (of_decide_eq_true (by kernel_rfl)) (by unfold Func.isWrapper; first | (rw [if_pos (by decide +kernel)]; kernel_rfl) | (rw [if_neg (by decide +kernel)]; exact ⟨rfl, rfl⟩))
    (fun os started H enc _ => lifted os started H enc)
end FrontRuns
end Go.Proofs.Yteoaaddclfognaa
