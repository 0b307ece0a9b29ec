/-
  Layer 12: the document's own Common, for every text and row (ahead of the code's landing).
-/
import Derived.Test.YtngenehleelcmaaSufT
import Derived.Test.YtngenehleelcmaaSufS
import Derived.Test.YtngenehleelcmaaSufR
import Derived.Deep.RegionLaw
namespace Go.Proofs.Ytngenehleelcmaa
set_option linter.unusedSimpArgs false
set_option linter.unusedVariables false
open Go.ChangeShapes Go.WideShapes Go.ChangeAt Go.RowKit Go.Joins Go.Deep

theorem sc_no {s : List UInt8} {a : List Int} (h : ¬ (sordF a = true ∧ a.length = s.length + 1)) : scF s a = ([], 2) := if_neg h
theorem sc_yes {s : List UInt8} {a : List Int} (h : sordF a = true ∧ a.length = s.length + 1) : scF s a = (scmL s a a.length, 0) := if_pos h
theorem sk_yes {a : List Int} (h : sordF a = true) : skF a = (srk a a.length, 0) := if_pos h
theorem sk_bad {a : List Int} (h : ¬ sordF a = true) : skF a = ([], 2) := if_neg h
/-- A place of an order, as a number. -/
theorem sord_at {a : List Int} (h : sordF a = true) (k : Nat) (hk : k < a.length) : ∃ p : Nat, a[k] = (p : Int) ∧ p < a.length := by
  obtain ⟨h1, h2, _⟩ := sord_get h k hk
  rw [sgetD k hk] at h1 h2
  exact ⟨a[k].toNat, by omega, by omega⟩
theorem scm_at {s : List UInt8} {a : List Int} (k p q : Nat) (hk : k + 1 < a.length) (hp : a[k + 1] = (p : Int)) (hq : a[k] = (q : Int)) : scm s a (k + 1) = ((alike (s.drop p) (s.drop q) : Nat) : Int) := by
  unfold scm
  rw [if_neg (by omega), Nat.add_sub_cancel, sgetD (k + 1) hk, sgetD k (by omega), hp, hq, Int.toNat_natCast, Int.toNat_natCast]
theorem s_one_own {N : Nat} (W : World) (x : Int) (h : N ≤ W.heap.size) : (W.alloc (.cells #[.int .i64 x] 3)).ownsRow N 3 1 (.slice (some ⟨W.heap.size, 0, none⟩) 1 1) 1 (ints [x]) :=
  ⟨rfl, Or.inr ⟨W.heap.size, 1, #[.int .i64 x], rfl, h, Blk.new W _ _, Nat.le_refl _, by unfold maxLen; omega, rfl, rfl⟩⟩

set_option maxRecDepth 100000 in
set_option maxHeartbeats 1000000 in
theorem sref_common_any (s : List UInt8) (a : List Int) (A : Option Addr) (n c : Nat) (w : World) (hs : s.length ≤ 1000000) (hm : n ≤ 1000000) (hr : Reads w w.heap.size 1 A n (ints a)) :
    Calls Try.prog 17 #[.string ⟨s.toArray⟩, .slice A n c] w fun e w' => LPost w w' e (scF s a) := by
  obtain ⟨i0, hi, hz0, hz1, hz9⟩ := info_parts gint_info
  have hrk := sref_ranks_any a A n c w hm hr
  have en : a.length = n := by have := hr.1; rw [ints_length] at this; omega
  have hni : (n : Int) ≤ 1000000 ∧ (s.length : Int) ≤ 1000000 := by omega
  by_cases ho : sordF a = true
  · rw [sk_yes ho] at hrk
    by_cases hl : n = s.length + 1
    · rw [sc_yes ⟨ho, by omega⟩]
      have hle : ((n : Int) == (s.length : Int) + 1) = true := by rw [beq_iff_eq]; omega
      have hle3 : ((n : Int) != (s.length : Int) + 1) = false := by simp; omega
      have Hl := Lib.hid hl
      have hn1 : 1 ≤ n := by omega
      obtain ⟨bA, oA, rfl, hbA, hcA⟩ := gcells_at hr (by omega)
      have HcA := Lib.hid hcA
      have Hrk := Lib.hid hrk
      have Hat := Lib.hid (sord_at ho)
      have Hst : Hid (∀ p, p ≤ s.length → ∀ w, (Instr.slice 9 (.string ⟨s.toArray⟩) (some (.int .i64 (p : Int))) none none).run Try.prog w = .ok (.string ⟨(s.drop p).toArray⟩) w) := Lib.hid fun p hp w => str_from s p hp w
      have En := Lib.hid en
      have Hal := Lib.hid fun (p q : Nat) (W : World) => sref_alike_any (s.drop p) (s.drop q) W (by rw [List.length_drop]; omega) (by rw [List.length_drop]; omega)
      have Hscm := Lib.hid fun k p q hk hp hq => scm_at (s := s) (a := a) k p q hk hp hq
      have Hfin : Hid (∀ k, (scmL s a k).length = k) := Lib.hid (scmL_len s a)
      have H1 : Hid (scmL s a 1 = [0]) := Lib.hid rfl
      have Hsucc := Lib.hid (scmL_succ s a)
      clear hrk ho hr hcA en hs hl
      go_enter Try.func17, Try.ntmps17
      go_wp2_with (go_at_call 15; refine Hrk.out.mono ?_; unfold LPost; rintro e w2 ⟨A2, c2, rfl, _, _, hb2⟩; have Hb2 := Lib.hid hb2; clear hb2 Hrk)
      have HO0 : Hid ((w2.alloc (.cells #[.int .i64 0] 3)).ownsRow w2.heap.size 3 1 (.slice (some ⟨w2.heap.size, 0, none⟩) 1 1) 1 (ints (scmL s a 1))) := Lib.hid (by rw [H1.out]; exact s_one_own w2 0 (Nat.le_refl _))
      have HB0 : Hid (Below w2.heap.size w2 (w2.alloc (.cells #[.int .i64 0] 3))) := Lib.hid ((Below.refl _ _).alloc (Nat.le_refl _) _)
      go_loopw [8, 9] (fun v i wr => ∃ (k m : Nat) (Av : Option Addr) (cv : Nat), k + 1 = m ∧ m ≤ n ∧ v = .slice Av m cv ∧ i = .int .i64 (m : Int) ∧ Hid (wr.ownsRow w2.heap.size 3 1 (.slice Av m cv) m (ints (scmL s a m))) ∧ Hid (Below w2.heap.size w2 wr)) (fun _ i _ => n - (intOf i).toNat)
      case atStart => exact ⟨0, 1, _, 1, rfl, hn1, rfl, rfl, HO0, HB0⟩
      case round =>
        obtain ⟨k, m, Av, cv, hkm, hk, rfl, rfl, HO, HB⟩ := hrel
        clear HO0 HB0
        have Hwb : Hid (Below w.heap.size w wr) := Lib.hid (Hb2.out.trans (HB.out.mono Hb2.out.size))
        by_cases hlt : m < n
        · have hki : (m : Int) < (n : Int) := by omega
          have hk1 : k + 1 < a.length := by rw [En.out]; omega
          obtain ⟨p, hp, hpn⟩ := Hat.out (k + 1) hk1
          obtain ⟨q, hq, hqn⟩ := Hat.out k (by omega)
          rw [En.out] at hpn hqn
          have hlo := Hl.out
          have x1 := HcA.out wr Hwb.out (k + 1) hk1
          have x2 := HcA.out wr Hwb.out k (by omega)
          rw [hp, hkm] at x1
          rw [hq] at x2
          have hsp := Hst.out p (by omega)
          have hsq := Hst.out q (by omega)
          have hsub : (m : Int) - 1 = (k : Int) := by omega
          have hw1 : IntKind.i64.wrap ((m : Int) - 1) = (k : Int) := by rw [IntKind.wrap_i64]; omega
          have hw2 : IntKind.i64.wrap (k : Int) = (k : Int) := by rw [IntKind.wrap_i64]; omega
          have hki2 : (0 : Int) ≤ (k : Int) ∧ (k : Int) < (n : Int) ∧ (0 : Int) ≤ (m : Int) := by omega
          have hal := fun W => Hal.out p q W
          have hsu := Hsucc.out m
          rw [show scm s a m = ((alike (s.drop p) (s.drop q) : Nat) : Int) from by rw [← hkm]; exact Hscm.out k p q hk1 hp hq] at hsu
          obtain ⟨z, hz⟩ : ∃ z : Nat, alike (s.drop p) (s.drop q) = z := ⟨_, rfl⟩
          rw [hz] at hal hsu
          have Hal2 := Lib.hid hal
          have Hsu := Lib.hid hsu
          have hm2 : m ≤ 1000000 := by omega
          have Hkm := Lib.hid hkm
          have hsz2 := HB.out.size
          have HBd : Hid (Below w2.heap.size w2 wr.drew) := Lib.hid HB.out.drew
          have HOd : Hid (wr.drew.ownsRow w2.heap.size 3 1 (.slice Av m cv) m (ints (scmL s a m))) := Lib.hid HO.out
          clear hsu hal hz hp hq hk1 hpn hqn hlo hkm
          go_wp2
          go_region_law (first
            | (go_simp; go_at_call 31; refine (Hal2.out _).mono ?_; rintro e w6 ⟨rfl, hb6⟩; have HO6 := Lib.hid (owns_below HOd.out hb6 (Nat.le_refl _)); have HB6 := Lib.hid (HBd.out.trans (hb6.mono HBd.out.size)); clear hb6)
            | (refine lstep_append (by rfl) (.tmp 32) (.tmp 47) 22 (by rfl) w2.heap.size 3 i0 _ 1 8 Try.underlying22 hi hz0 hz1 hz9 rfl (by decide) (.slice Av m cv) m (ints (scmL s a m)) (by rfl) (HO6.out.alloc (.cells #[.int .i64 (z : Int)] 3)) (some ⟨w6.heap.size, 0, none⟩) 1 1 _ (ints [(z : Int)]) (by rfl) (reads_new w6 3 #[.int .i64 (z : Int)] 1 1 rfl) (gints_one _) (by unfold maxLen; omega) (by omega) (HB6.out.alloc HB6.out.size (.cells #[.int .i64 (z : Int)] 3)).size (m + 1) rfl ?_; intro A7 c7 w7 ho7 hg7 hs7; have HB7 := Lib.hid ((HB6.out.alloc HB6.out.size (.cells #[.int .i64 (z : Int)] 3)).grown hg7 (HB6.out.alloc HB6.out.size _).size (fun b hb => (HO6.out.lt b hb).1)); have HO7 := Lib.hid ho7; clear ho7 hg7 hs7))
          all_goals (
            have HF : Hid (w7.ownsRow w2.heap.size 3 1 (.slice A7 (m + 1) c7) (m + 1) (ints (scmL s a (m + 1)))) := Lib.hid (by rw [Hsu.out, gints_app]; exact HO7.out)
            go_wp2
            go_roundw
            case rel => exact ⟨m, m + 1, A7, c7, rfl, by omega, rfl, iv (by omega), HF, HB7⟩
            case measure => simp only [intOf]; omega)
        · obtain rfl : m = n := by omega
          have hii : ¬ (m : Int) < (m : Int) := by omega
          obtain ⟨A8, c8, e8, hkc, hrd⟩ := owns_cells HO.out
          injection e8 with e3 _ e4
          subst e3 e4
          have Hrd := Lib.hid hrd
          have Hkc := Lib.hid hkc
          have Hln := Lib.hid (Hfin.out m)
          clear hrd hkc
          go_wp2
          go_ret2
          rw [En.out]
          exact lpost_row Hln.out Hkc.out Hrd.out Hwb.out
    · rw [sc_no (fun h => hl (by omega))]
      have hle : ((n : Int) == (s.length : Int) + 1) = false := by rw [beq_eq_false_iff_ne]; omega
      have hle3 : ((n : Int) != (s.length : Int) + 1) = true := by simp; omega
      have Hrk := Lib.hid hrk
      clear hrk ho hr en hs hl
      go_enter Try.func17, Try.ntmps17
      go_wp2_with (go_at_call 15; refine Hrk.out.mono ?_; unfold LPost; rintro e w2 ⟨A2, c2, rfl, _, _, hb2⟩; have Hb2 := Lib.hid hb2; clear hb2 Hrk)
      go_ret2
      exact lpost_none Hb2.out
  · rw [sk_bad ho] at hrk
    rw [sc_no (fun h => ho h.1)]
    have Hrk := Lib.hid hrk
    clear hrk ho hr en hs
    go_enter Try.func17, Try.ntmps17
    go_wp2_with (go_at_call 15; refine Hrk.out.mono ?_; unfold LPost; rintro e w2 ⟨A2, c2, rfl, _, _, hb2⟩; have Hb2 := Lib.hid hb2; clear hb2 Hrk)
    go_ret2
    exact lpost_none Hb2.out
end Go.Proofs.Ytngenehleelcmaa
