/-
  As many ends begin with something as often it stands in the text, and these are the ones that are told; the layer's probe holds (SuffixFind). No condition.
-/
import Derived.Test.YtngenehleelcmaaSufAw
import Derived.Test.YtngenehleelcmaaSufO
import Derived.Test.YtngenehleelcmaaFrame
namespace Go.Proofs.Ytngenehleelcmaa
set_option linter.unusedSimpArgs false
set_option linter.unusedVariables false
open Go.ChangeShapes Go.WideShapes Go.ChangeAt Go.RowKit Go.Joins Go.Deep
set_option maxHeartbeats 2000000 in
/-- Beyond the sizes that the statement looks at: the probe alone. -/
theorem suffixFind_far0 (s x : List UInt8) (w : World) (h : 2000 < s.length) :
    Calls Try.prog 7 #[.string ⟨s.toArray⟩, .string ⟨x.toArray⟩] w fun e w' => e = .returned (.bool true) ∧ Below w.heap.size w w' := by
  have h1 : (2000 : Int) < s.length := by omega
  go_enter Try.func7, Try.ntmps7
  go_wp2_with (go_at_call 8; refine (awake12_any _).mono ?_; rintro e w9 ⟨rfl, hb9⟩)
  go_ret
  exact ⟨rfl, hb9⟩
set_option maxHeartbeats 2000000 in
/-- Beyond the sizes that the statement looks at: the probe alone. -/
theorem suffixFind_far1 (s x : List UInt8) (w : World) (h : s.length ≤ 2000) (k : 2000 < x.length) :
    Calls Try.prog 7 #[.string ⟨s.toArray⟩, .string ⟨x.toArray⟩] w fun e w' => e = .returned (.bool true) ∧ Below w.heap.size w w' := by
  have h1 : ¬ (2000 : Int) < s.length := by omega
  have h2 : (2000 : Int) < x.length := by omega
  go_enter Try.func7, Try.ntmps7
  go_wp2_with (go_at_call 8; refine (awake12_any _).mono ?_; rintro e w9 ⟨rfl, hb9⟩)
  go_ret
  exact ⟨rfl, hb9⟩
/-- Of a text the document's array is looked up as it is. -/
theorem sff_sarr (s x : List UInt8) (h : s.length ≤ 20000) : sfF s (splc (sarr s)) x = (sfr s (splc (sarr s)) x (s.length + 1), 0) := by
  unfold sfF
  have hl : (splc (sarr s)).length = s.length + 1 := by rw [splc_len, sarr_len]
  rw [if_neg (fun h => h ⟨sarr_sord s, hl⟩), if_neg (by omega), if_pos (sarr_sup s), hl]
theorem sfstr_mid (l : List UInt8) (p k : Nat) (h : p + k ≤ l.length) (w : World) :
    (Instr.slice 9 (.string ⟨l.toArray⟩) (some (.int .i64 (p : Int))) (some (.int .i64 ((p : Int) + (k : Int)))) none).run Try.prog w = .ok (.string ⟨((l.drop p).take k).toArray⟩) w := by
  rw [run_slice_string w 9 ⟨l.toArray⟩ .i64 .i64 (p : Int) ((p : Int) + (k : Int)) Try.underlying9 (by omega) (by omega) (by rw [ByteArray.size_mk', List.size_toArray]; omega), ByteArray.extract_mk, Int.toNat_natCast, show ((p : Int) + (k : Int)).toNat - p = k from by omega]

set_option maxRecDepth 100000 in
set_option maxHeartbeats 8000000 in
theorem suffixFind_none (s x : List UInt8) (w : World) (h : s.length ≤ 2000) (k : x.length ≤ 2000) (hs0 : sfr s (splc (sarr s)) x (s.length + 1) = (1, 0)) (hs1 : socc s x (s.length + 1) = 0) :
    Calls Try.prog 7 #[.string ⟨s.toArray⟩, .string ⟨x.toArray⟩] w fun e w' => e = .returned (.bool true) ∧ Below w.heap.size w w' := by
  have h1 : ¬ (2000 : Int) < s.length := by omega
  have h2 : ¬ (2000 : Int) < x.length := by omega
  have hp := p_sarray_any s w (by omega)
  rw [saF_yes (by omega)] at hp
  unfold LPost at hp
  dsimp only at hp
  have hn : (splc (sarr s)).length = s.length + 1 := by rw [splc_len, sarr_len]
  rw [hn] at hp
  have hf : ∀ A c W, Reads W W.heap.size 1 A (s.length + 1) (ints (splc (sarr s))) → Calls Try.prog 18 #[.string ⟨s.toArray⟩, .slice A (s.length + 1) c, .string ⟨x.toArray⟩] W fun e w' => e = .returned (.tuple #[.agg #[.int .i64 (sfr s (splc (sarr s)) x (s.length + 1)).1, .int .i64 (sfr s (splc (sarr s)) x (s.length + 1)).2], .int .i64 0]) ∧ Below W.heap.size W w' := fun A c W hr => by
    have := p_sfind_any s (splc (sarr s)) x A (s.length + 1) c W (by omega) (by omega) (by omega) hr
    rw [sff_sarr s x (by omega)] at this
    exact this
  obtain ⟨F1, F2, hF⟩ : ∃ F1 F2, sfr s (splc (sarr s)) x (s.length + 1) = (F1, F2) := ⟨_, _, rfl⟩
  rw [hF] at hf hs0
  dsimp only at hf
  have hF1 := (Prod.mk.inj hs0).1
  have hF2 := (Prod.mk.inj hs0).2
  obtain ⟨E, hE⟩ : ∃ E, E = 0 := ⟨0, rfl⟩
  have HE : Hid (socc s x (s.length + 1) = E) := Lib.hid (hs1.trans hE.symm)
  have HF := Lib.hid (And.intro hF1 hF2)
  have HEz := Lib.hid hE
  clear hs0 hs1 hF1 hF2 hE hF
  have Hp := Lib.hid hp
  have Hf := Lib.hid hf
  have hn0 : 0 < s.length + 1 := by omega
  have Hmid := Lib.hid fun p (hp : p + x.length ≤ s.length) W => sfstr_mid s p x.length hp W
  have Hsucc := Lib.hid (socc_succ s x)
  have Hsat := Lib.hid fun p => (show sat s x p = decide ((s.drop p).take x.length = x) from rfl)
  have Hrest := Lib.hid fun p (h1 : s.length < p + x.length) (h2 : p ≤ s.length + 1) => (show socc s x p = socc s x (s.length + 1) from by
    have := socc_rest (s := s) (x := x) p h1 (s.length + 1 - p) (by omega)
    rw [show p + (s.length + 1 - p) = s.length + 1 from by omega] at this
    exact this.symm)
  have Hzero : Hid (socc s x 0 = 0) := Lib.hid rfl
  have hsi : (s.length : Int) ≤ 2000 ∧ (x.length : Int) ≤ 2000 := by omega
  clear hp hf hn
  go_enter Try.func7, Try.ntmps7
  go_wp2_with (first
    | (go_at_call 9; refine Hp.out.mono ?_; rintro e w1 ⟨A1, c1, rfl, _, hr1, hb1⟩; obtain ⟨bA, oA, rfl, hbA, hcA⟩ := gcells_at hr1 hn0; have HcA := Lib.hid hcA; have H1 := Lib.hid hr1; have Hb := Lib.hid hb1; clear hb1 hr1 hbA hcA Hp)
    | (go_at_call 18; refine (Hf.out _ _ _ H1.out).mono ?_; rintro e w2 ⟨rfl, hb2⟩; have HR0 := Lib.hid (Blk.new w2 38 #[.int .i64 F1, .int .i64 F2]); have HB0 := Lib.hid (hb2.alloc hb2.size (.cells #[.int .i64 F1, .int .i64 F2] 38)); clear hb2 Hf H1))
  generalize w2.alloc (.cells #[.int .i64 F1, .int .i64 F2] 38) = wz at *
  generalize w2.heap.size = g at *
  go_loopw [9, 10] (fun cn pv wr => ∃ q N : Nat, q ≤ s.length + 1 ∧ cn = .int .i64 (N : Int) ∧ pv = .int .i64 (q : Int) ∧ N ≤ q ∧ Hid (socc s x q = N) ∧ Hid (Blk wr g 38 #[.int .i64 F1, .int .i64 F2]) ∧ Hid (Below w1.heap.size w1 wr)) (fun _ pv _ => s.length + 1 - (intOf pv).toNat)
  case atStart => exact ⟨0, 0, by omega, rfl, rfl, by omega, Hzero, HR0, HB0⟩
  case round =>
    obtain ⟨q, N, hq, rfl, rfl, hNq, HN, HR, HB⟩ := hrel
    clear HR0 HB0
    have hqi : (q : Int) ≤ 2001 ∧ (N : Int) ≤ 2001 := by omega
    by_cases hlt : q + x.length ≤ s.length
    · have hki : (q : Int) + (x.length : Int) ≤ (s.length : Int) := by omega
      have hmid := Hmid.out q hlt
      have hsu := Hsucc.out q
      rw [Hsat.out q, HN.out] at hsu
      generalize (s.drop q).take x.length = y at *
      by_cases hy : y = x
      · subst hy
        rw [if_pos (by simp)] at hsu
        have Hsu := Lib.hid hsu
        clear hsu
        have hyy : (y == y) = true := by simp
        go_wp2
        go_roundw
        case rel => exact ⟨q + 1, N + 1, by omega, iv (by omega), iv (by omega), by omega, Hsu, HR, HB⟩
        case measure => simp only [intOf]; omega
      · rw [if_neg (by simpa using hy), Nat.add_zero] at hsu
        have Hsu := Lib.hid hsu
        clear hsu
        have hyy : (y == x) = false := by simpa using hy
        go_wp2
        go_roundw
        case rel => exact ⟨q + 1, N, by omega, rfl, iv (by omega), by omega, Hsu, HR, HB⟩
        case measure => simp only [intOf]; omega
    · have hki : ¬ (q : Int) + (x.length : Int) ≤ (s.length : Int) := by omega
      have hNE : N = E := by rw [← HN.out, Hrest.out q (by omega) hq, HE.out]
      subst hNE
      obtain ⟨d1, d2, d3, d4⟩ := Blk.two HR.out
      obtain ⟨hF1, hF2⟩ := HF.out
      have hE := HEz.out
      have hNi : ((N : Int) == 0) = true := by rw [beq_iff_eq]; omega
      have hf1 : (F1 == 1) = true := by rw [beq_iff_eq]; omega
      have hf2 : (F2 == 0) = true := by rw [beq_iff_eq]; omega
      clear hE hF1 hF2
      go_wp2_with (go_at_call 8; refine (awake12_any _).mono ?_; rintro e w9 ⟨rfl, hb9⟩)
      go_ret
      exact ⟨rfl, ((Hb.out.trans (HB.out.mono Hb.out.size))).trans (hb9.mono (Nat.le_trans Hb.out.size HB.out.size))⟩

set_option maxRecDepth 100000 in
set_option maxHeartbeats 8000000 in
theorem suffixFind_some (s x : List UInt8) (w : World) (h : s.length ≤ 2000) (k : x.length ≤ 2000) (lo hi : Nat) (hs0 : sfr s (splc (sarr s)) x (s.length + 1) = ((lo : Int), (hi : Int))) (hs1 : lo ≤ hi) (hs2 : hi < s.length + 1) (hs3 : socc s x (s.length + 1) = hi - lo + 1) (hs4 : ∀ i (h : i < (sarr s).length), lo ≤ i → i ≤ hi → (s.drop (sarr s)[i]).take x.length = x) :
    Calls Try.prog 7 #[.string ⟨s.toArray⟩, .string ⟨x.toArray⟩] w fun e w' => e = .returned (.bool true) ∧ Below w.heap.size w w' := by
  have h1 : ¬ (2000 : Int) < s.length := by omega
  have h2 : ¬ (2000 : Int) < x.length := by omega
  have hp := p_sarray_any s w (by omega)
  rw [saF_yes (by omega)] at hp
  unfold LPost at hp
  dsimp only at hp
  have hn : (splc (sarr s)).length = s.length + 1 := by rw [splc_len, sarr_len]
  rw [hn] at hp
  have hf : ∀ A c W, Reads W W.heap.size 1 A (s.length + 1) (ints (splc (sarr s))) → Calls Try.prog 18 #[.string ⟨s.toArray⟩, .slice A (s.length + 1) c, .string ⟨x.toArray⟩] W fun e w' => e = .returned (.tuple #[.agg #[.int .i64 (sfr s (splc (sarr s)) x (s.length + 1)).1, .int .i64 (sfr s (splc (sarr s)) x (s.length + 1)).2], .int .i64 0]) ∧ Below W.heap.size W w' := fun A c W hr => by
    have := p_sfind_any s (splc (sarr s)) x A (s.length + 1) c W (by omega) (by omega) (by omega) hr
    rw [sff_sarr s x (by omega)] at this
    exact this
  obtain ⟨F1, F2, hF⟩ : ∃ F1 F2, sfr s (splc (sarr s)) x (s.length + 1) = (F1, F2) := ⟨_, _, rfl⟩
  rw [hF] at hf hs0
  dsimp only at hf
  have hF1 := (Prod.mk.inj hs0).1
  have hF2 := (Prod.mk.inj hs0).2
  obtain ⟨E, hE⟩ : ∃ E, E = hi - lo + 1 := ⟨_, rfl⟩
  have HE : Hid (socc s x (s.length + 1) = E) := Lib.hid (hs3.trans hE.symm)
  have Hat : Hid (∀ k, lo ≤ k → k ≤ hi → ∃ p : Nat, ∃ hk : k < (splc (sarr s)).length, (splc (sarr s))[k] = (p : Int) ∧ (s.drop p).take x.length = x ∧ p + x.length ≤ s.length) := Lib.hid fun k h1 h2 => by
    have hk : k < (splc (sarr s)).length := by rw [hn]; omega
    have hk2 : k < (sarr s).length := by rw [sarr_len]; omega
    have h4 := hs4 k hk2 h1 h2
    refine ⟨(sarr s)[k], hk, splc_get _ _ _, h4, ?_⟩
    have := congrArg List.length h4
    have h5 := sarr_le s k hk2
    rw [List.length_take, List.length_drop] at this
    omega
  have HF := Lib.hid (And.intro hF1 hF2)
  have HEz := Lib.hid hE
  clear hs0 hs3 hs4 hF1 hF2 hE hF
  have Hp := Lib.hid hp
  have Hf := Lib.hid hf
  have hn0 : 0 < s.length + 1 := by omega
  have Hmid := Lib.hid fun p (hp : p + x.length ≤ s.length) W => sfstr_mid s p x.length hp W
  have Hsucc := Lib.hid (socc_succ s x)
  have Hsat := Lib.hid fun p => (show sat s x p = decide ((s.drop p).take x.length = x) from rfl)
  have Hrest := Lib.hid fun p (h1 : s.length < p + x.length) (h2 : p ≤ s.length + 1) => (show socc s x p = socc s x (s.length + 1) from by
    have := socc_rest (s := s) (x := x) p h1 (s.length + 1 - p) (by omega)
    rw [show p + (s.length + 1 - p) = s.length + 1 from by omega] at this
    exact this.symm)
  have Hzero : Hid (socc s x 0 = 0) := Lib.hid rfl
  have hsi : (s.length : Int) ≤ 2000 ∧ (x.length : Int) ≤ 2000 := by omega
  clear hp hf hn
  go_enter Try.func7, Try.ntmps7
  go_wp2_with (first
    | (go_at_call 9; refine Hp.out.mono ?_; rintro e w1 ⟨A1, c1, rfl, _, hr1, hb1⟩; obtain ⟨bA, oA, rfl, hbA, hcA⟩ := gcells_at hr1 hn0; have HcA := Lib.hid hcA; have H1 := Lib.hid hr1; have Hb := Lib.hid hb1; clear hb1 hr1 hbA hcA Hp)
    | (go_at_call 18; refine (Hf.out _ _ _ H1.out).mono ?_; rintro e w2 ⟨rfl, hb2⟩; have HR0 := Lib.hid (Blk.new w2 38 #[.int .i64 F1, .int .i64 F2]); have HB0 := Lib.hid (hb2.alloc hb2.size (.cells #[.int .i64 F1, .int .i64 F2] 38)); clear hb2 Hf H1))
  generalize w2.alloc (.cells #[.int .i64 F1, .int .i64 F2] 38) = wz at *
  generalize w2.heap.size = g at *
  go_loopw [9, 10] (fun cn pv wr => ∃ q N : Nat, q ≤ s.length + 1 ∧ cn = .int .i64 (N : Int) ∧ pv = .int .i64 (q : Int) ∧ N ≤ q ∧ Hid (socc s x q = N) ∧ Hid (Blk wr g 38 #[.int .i64 F1, .int .i64 F2]) ∧ Hid (Below w1.heap.size w1 wr)) (fun _ pv _ => s.length + 1 - (intOf pv).toNat)
  case atStart => exact ⟨0, 0, by omega, rfl, rfl, by omega, Hzero, HR0, HB0⟩
  case round =>
    obtain ⟨q, N, hq, rfl, rfl, hNq, HN, HR, HB⟩ := hrel
    clear HR0 HB0
    have hqi : (q : Int) ≤ 2001 ∧ (N : Int) ≤ 2001 := by omega
    by_cases hlt : q + x.length ≤ s.length
    · have hki : (q : Int) + (x.length : Int) ≤ (s.length : Int) := by omega
      have hmid := Hmid.out q hlt
      have hsu := Hsucc.out q
      rw [Hsat.out q, HN.out] at hsu
      generalize (s.drop q).take x.length = y at *
      by_cases hy : y = x
      · subst hy
        rw [if_pos (by simp)] at hsu
        have Hsu := Lib.hid hsu
        clear hsu
        have hyy : (y == y) = true := by simp
        go_wp2
        go_roundw
        case rel => exact ⟨q + 1, N + 1, by omega, iv (by omega), iv (by omega), by omega, Hsu, HR, HB⟩
        case measure => simp only [intOf]; omega
      · rw [if_neg (by simpa using hy), Nat.add_zero] at hsu
        have Hsu := Lib.hid hsu
        clear hsu
        have hyy : (y == x) = false := by simpa using hy
        go_wp2
        go_roundw
        case rel => exact ⟨q + 1, N, by omega, rfl, iv (by omega), by omega, Hsu, HR, HB⟩
        case measure => simp only [intOf]; omega
    · have hki : ¬ (q : Int) + (x.length : Int) ≤ (s.length : Int) := by omega
      have hNE : N = E := by rw [← HN.out, Hrest.out q (by omega) hq, HE.out]
      subst hNE
      obtain ⟨d1, d2, d3, d4⟩ := Blk.two HR.out
      obtain ⟨hF1, hF2⟩ := HF.out
      have hE := HEz.out
      clear HF HEz
      subst hF1
      subst hF2
      obtain ⟨D, hD⟩ : ∃ D : Nat, D = hi - lo := ⟨_, rfl⟩
      have hN0 : ((N : Int) == 0) = false := by rw [beq_eq_false_iff_ne]; omega
      have hlh : (0 : Int) ≤ (lo : Int) ∧ (lo : Int) ≤ (hi : Int) ∧ (hi : Int) < (s.length : Int) + 1 ∧ ¬ (s.length : Int) + 1 ≤ (hi : Int) ∧ ¬ (lo : Int) < 0 := by omega
      have hsub : (hi : Int) - (lo : Int) = (D : Int) := by omega
      have hw1 : IntKind.i64.wrap ((hi : Int) - (lo : Int)) = (D : Int) := by rw [IntKind.wrap_i64]; omega
      have hdn : (((D : Int) + 1) != (N : Int)) = false := by simp; omega
      have hDi : (D : Int) ≤ 2001 := by omega
      clear hE hD
      go_wp2
      go_loopw [11, 12] (fun iv _ wr => ∃ k : Nat, lo ≤ k ∧ k ≤ hi + 1 ∧ iv = .int .i64 (k : Int) ∧ Hid (Blk wr g 38 #[.int .i64 (lo : Int), .int .i64 (hi : Int)]) ∧ Hid (Below w1.heap.size w1 wr)) (fun iv _ _ => hi + 1 - (intOf iv).toNat)
      case atStart => exact ⟨lo, by omega, by omega, rfl, HR, HB⟩
      case round =>
        obtain ⟨k, hk1, hk2, rfl, HR2, HB2⟩ := hrel
        clear HR HB d1 d2 d3 d4
        obtain ⟨d1, d2, d3, d4⟩ := Blk.two HR2.out
        have hki0 : (k : Int) ≤ 2002 := by omega
        by_cases hlt2 : k ≤ hi
        · have hki2 : (k : Int) ≤ (hi : Int) := by omega
          obtain ⟨p, hkl, hp, hpx, hpl⟩ := Hat.out k hk1 hlt2
          have x1 := HcA.out wr HB2.out k hkl
          rw [hp] at x1
          have hmid := Hmid.out p hpl
          rw [hpx] at hmid
          have hki3 : (0 : Int) ≤ (k : Int) ∧ (k : Int) < (s.length : Int) + 1 := by omega
          have hpi : (0 : Int) ≤ (p : Int) ∧ (p : Int) ≤ (s.length : Int) ∧ ¬ (p : Int) < 0 := by omega
          obtain ⟨R, hR⟩ : ∃ R : Nat, R = s.length - p := ⟨_, rfl⟩
          have hsub2 : (s.length : Int) - (p : Int) = (R : Int) := by omega
          have hw2 : IntKind.i64.wrap ((s.length : Int) - (p : Int)) = (R : Int) := by rw [IntKind.wrap_i64]; omega
          have hRx : ¬ (R : Int) < (x.length : Int) := by omega
          have hxx : (x != x) = false := by simp
          have hxe : (x == x) = true := by simp
          clear hkl hp hpx hpl hR
          go_wp2
          go_roundw
          case rel => exact ⟨k + 1, by omega, by omega, iv (by omega), HR2, HB2⟩
          case measure => simp only [intOf]; omega
        · have hki2 : ¬ (k : Int) ≤ (hi : Int) := by omega
          go_wp2_with (go_at_call 8; refine (awake12_any _).mono ?_; rintro e w9 ⟨rfl, hb9⟩)
          go_ret
          exact ⟨rfl, ((Hb.out.trans (HB2.out.mono Hb.out.size))).trans (hb9.mono (Nat.le_trans Hb.out.size HB2.out.size))⟩
theorem suffixFind_walk (s x : List UInt8) (w : World) :
    Calls Try.prog 7 #[.string ⟨s.toArray⟩, .string ⟨x.toArray⟩] w fun e w' => e = .returned (.bool true) ∧ Below w.heap.size w w' := by
  by_cases h : s.length ≤ 2000
  · by_cases k : x.length ≤ 2000
    · rcases sfound s x with ⟨a1, a2⟩ | ⟨lo, hi, a1, a2, a3, a4, a5⟩
      · exact suffixFind_none s x w h k a1 a2
      · exact suffixFind_some s x w h k lo hi a1 a2 a3 a4 a5
    · exact suffixFind_far1 s x w h (by omega)
  · exact suffixFind_far0 s x w (by omega)

namespace SuffixFind
set_option maxRecDepth 100000 in
theorem lifted (os : Os) (started : os.Started) (H : Type) (enc : TypeId × Value → H) :
    ReturnsInHanded {} Try.checked os 7 .any (Rows.suffixFindSpec.pre6 enc Try.prog Try.f7 Rows.suffixFindRow.domain false) (Rows.suffixFindSpec.post enc Try.prog Try.f7 false true false false) := by
  refine law_sized (C := Try.checked) (tb := 4) ownP started (by kernel_rfl) Try.func7
    (ChangeSpec.witness6 (enc := enc) (C := Try.checked) false ⟨#[], #[.string ⟨#[]⟩, .string ⟨#[]⟩], []⟩ 8 (by kernel_rfl) (by kernel_rfl) (by kernel_rfl) (by kernel_rfl))
    laidP (by kernel_rfl) rfl (by kernel_rfl) Try.underlying4 (by intro ds h; match ds, h with | [_, _], _ => rfl) ?_
  intro W base args ds p hval0 hA0 hlt _
  have hval : ∀ (j : Nat) t v, Try.f7.params[j]? = some t → args[j]? = some v → Value.okWide Try.prog W .any base t v := hval0
  have hA : DataW.TrodAll enc Try.prog W 0 (fun _ => true) true Try.f7.params.toList args.toList ds p := hA0
  rw [Try.params7] at hA hval
  obtain ⟨v0, v1, d0, d1, p0, p1, rfl, rfl, rfl, h0, h1⟩ := trodAll_two hA
  obtain ⟨s, rfl, rfl⟩ := open_bytes Try.underlying9 (hval 0 9 v0 rfl rfl) h0
  obtain ⟨x, rfl, rfl⟩ := open_bytes Try.underlying9 (hval 1 9 v1 rfl rfl) h1
  exact suffixFind_walk s x W

theorem holds : Rows.SuffixFindSaid :=
  OpenClaim.holds_of_wide 7 Try.f7 rfl rfl rfl rfl rfl rfl rfl ⟨rfl, rfl, rfl, rfl, rfl⟩ rfl rfl rfl rfl rfl (by kernel_rfl) Try.func7 (by kernel_rfl)
    (of_decide_eq_true (by kernel_rfl)) (by unfold Func.isWrapper; first | (rw [if_pos (by decide +kernel)]; kernel_rfl) | (rw [if_neg (by decide +kernel)]; exact ⟨rfl, rfl⟩))
    (fun os started H enc _ => lifted os started H enc)
end SuffixFind
end Go.Proofs.Ytngenehleelcmaa
