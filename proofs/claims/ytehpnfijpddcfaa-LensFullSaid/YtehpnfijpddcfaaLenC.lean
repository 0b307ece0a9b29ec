/-
  Layer 8: the document's own Cost, for every two lists.
-/
import Derived.Test.YtehpnfijpddcfaaLenR
namespace Go.Proofs.Ytehpnfijpddcfaa
set_option linter.unusedSimpArgs false
set_option linter.unusedVariables false
open Go.ChangeShapes Go.WideShapes Go.ChangeAt Go.RowKit Go.Joins Go.Deep

/-- What a symbol costs. -/
def cterm (c l : Int) : Int := if 0 ≤ c ∧ c ≤ 1000000 ∧ 0 ≤ l ∧ l ≤ 15 then c * l else 0
def ccost : List Int → List Int → Int
  | c :: t, l :: u => cterm c l + ccost t u
  | _, _ => 0
def costF (counts lens : List Int) : Int := ccost (counts.take 257) (lens.take 257)
theorem ccost_end (a b : List Int) (h : a = [] ∨ b = []) : ccost a b = 0 := by
  rcases h with rfl | rfl
  · cases b <;> rfl
  · cases a <;> rfl
theorem ccost_step (a b : List Int) (k : Nat) (ha : k < a.length) (hb : k < b.length) : ccost (a.drop k) (b.drop k) = cterm a[k] b[k] + ccost (a.drop (k + 1)) (b.drop (k + 1)) := by
  rw [List.drop_eq_getElem_cons ha, List.drop_eq_getElem_cons hb]
  rfl
theorem cterm_bound (c l : Int) : 0 ≤ cterm c l ∧ cterm c l ≤ 15000000 := by
  unfold cterm
  by_cases h : 0 ≤ c ∧ c ≤ 1000000 ∧ 0 ≤ l ∧ l ≤ 15
  · rw [if_pos h]
    have h1 : 0 ≤ c * l := Int.mul_nonneg h.1 h.2.2.1
    have h2 : c * l ≤ c * 15 := Int.mul_le_mul_of_nonneg_left h.2.2.2 h.1
    omega
  · rw [if_neg h]
    omega

set_option maxRecDepth 100000 in
set_option maxHeartbeats 4000000 in
theorem lref_cost_any (counts lens : List Int) (A1 A2 : Option Addr) (n1 n2 c1 c2 : Nat) (w : World) (hm1 : n1 ≤ 1000000) (hm2 : n2 ≤ 1000000) (hr1 : Reads w w.heap.size 1 A1 n1 (ints counts)) (hr2 : Reads w w.heap.size 1 A2 n2 (ints lens)) :
    Calls Try.prog 16 #[.slice A1 n1 c1, .slice A2 n2 c2] w fun e w' => e = .returned (.int .i64 (costF counts lens)) ∧ Below w.heap.size w w' := by
  have en1 : counts.length = n1 := by have := hr1.1; rw [ints_length] at this; omega
  have en2 : lens.length = n2 := by have := hr2.1; rw [ints_length] at this; omega
  have Hc1 := lcells hr1
  have Hc2 := lcells hr2
  obtain ⟨T, hT⟩ : ∃ T, costF counts lens = T := ⟨_, rfl⟩
  rw [hT]
  have Hstart : Hid ((0 : Int) + ccost ((counts.take 257).drop 0) ((lens.take 257).drop 0) = T) := Lib.hid (by rw [← hT, Int.zero_add]; rfl)
  have Hstep : Hid (∀ k (ha : k < counts.length) (hb : k < lens.length), k < 257 → ccost ((counts.take 257).drop k) ((lens.take 257).drop k) = cterm counts[k] lens[k] + ccost ((counts.take 257).drop (k + 1)) ((lens.take 257).drop (k + 1))) := Lib.hid fun k ha hb hk => by
    rw [ccost_step _ _ k (by rw [List.length_take]; omega) (by rw [List.length_take]; omega), List.getElem_take, List.getElem_take]
  have Hend : Hid (∀ k, ¬ (k < n1 ∧ k < n2 ∧ k < 257) → ccost ((counts.take 257).drop k) ((lens.take 257).drop k) = 0) := Lib.hid fun k hk => by
    refine ccost_end _ _ ?_
    by_cases h : k < n1 ∧ k < 257
    · exact Or.inr (List.drop_of_length_le (by rw [List.length_take]; omega))
    · exact Or.inl (List.drop_of_length_le (by rw [List.length_take]; omega))
  have En1 := Lib.hid en1
  have En2 := Lib.hid en2
  have hn1 : (n1 : Int) ≤ 1000000 := by omega
  have hn2 : (n2 : Int) ≤ 1000000 := by omega
  clear hr1 hr2 hT en1 en2
  go_enter Try.func16, Try.ntmps16
  go_wp2
  go_loopw [5, 6] (fun s i wr => ∃ (k : Nat) (S : Int), k ≤ 257 ∧ 0 ≤ S ∧ S ≤ 15000000 * k ∧ s = .int .i64 S ∧ i = .int .i64 k ∧ Hid (S + ccost ((counts.take 257).drop k) ((lens.take 257).drop k) = T) ∧ Hid (Below w.heap.size w wr)) (fun _ i _ => 257 - (intOf i).toNat)
  case atStart => exact ⟨0, 0, by omega, by omega, by omega, rfl, rfl, Hstart.out, Below.refl _ _⟩
  case round =>
    obtain ⟨k, S, hk, hS0, hS1, rfl, rfl, HS, Hb⟩ := hrel
    by_cases hlt : k < n1 ∧ k < n2 ∧ k < 257
    · obtain ⟨l1, l2, l3⟩ := hlt
      have hki : (0 : Int) ≤ (k : Int) ∧ (k : Int) < n1 ∧ (k : Int) < n2 ∧ (k : Int) < 257 := by omega
      have hk1 : k < counts.length := by rw [En1.out]; exact l1
      have hk2 : k < lens.length := by rw [En2.out]; exact l2
      obtain ⟨b1, o1, rfl, hb1, hcell1⟩ := Hc1.out (by omega)
      obtain ⟨b2, o2, rfl, hb2, hcell2⟩ := Hc2.out (by omega)
      have x1 := (Hb.out.cell (p := ⟨b1, o1 + k, none⟩) hb1).trans (hcell1 k hk1)
      have x2 := (Hb.out.cell (p := ⟨b2, o2 + k, none⟩) hb2).trans (hcell2 k hk2)
      have hst := Hstep.out k hk1 hk2 l3
      have hs := HS.out
      rw [hst, ← Int.add_assoc] at hs
      have HS2 := Lib.hid hs
      have hbd := cterm_bound counts[k] lens[k]
      have Hbd := Lib.hid hbd
      have HSS : S ≤ 3855000000 := by omega
      clear hcell1 hcell2 hst hs HS hbd
      generalize counts[k] = x at *
      generalize lens[k] = y at *
      by_cases h1 : 0 ≤ x
      · by_cases h2 : x ≤ 1000000
        · by_cases h3 : 0 ≤ y
          · by_cases h4 : y ≤ 15
            · have ht : cterm x y = x * y := by unfold cterm; rw [if_pos ⟨h1, h2, h3, h4⟩]
              have Ht := Lib.hid ht
              have hq : 0 ≤ x * y ∧ x * y ≤ 15000000 := by rw [← ht]; exact Hbd.out
              obtain ⟨Q, hQ⟩ : ∃ Q, x * y = Q := ⟨_, rfl⟩
              rw [hQ] at hq
              have HQ := Lib.hid hQ
              have hw1 : IntKind.i64.wrap (x * y) = Q := by rw [hQ, IntKind.wrap_i64]; omega
              have hw2 : IntKind.i64.wrap (S + Q) = S + Q := by rw [IntKind.wrap_i64]; omega
              clear ht
              go_wp2
              go_quiet (fail)
              go_wp2
              go_roundw
              case rel => exact ⟨k + 1, S + Q, by omega, by omega, by omega, iv (by first | rfl | (rw [HQ.out])), iv (by omega), by rw [← HQ.out, ← Ht.out]; exact HS2.out, below_drewN Hb.out _⟩
              case measure => simp only [intOf]; omega
            · have ht : cterm x y = 0 := by unfold cterm; rw [if_neg (by omega)]
              rw [ht, Int.add_zero] at HS2
              clear ht
              go_wp2
              go_roundw
              case rel => exact ⟨k + 1, S, by omega, hS0, by omega, rfl, iv (by omega), HS2.out, Hb.out⟩
              case measure => simp only [intOf]; omega
          · have ht : cterm x y = 0 := by unfold cterm; rw [if_neg (by omega)]
            rw [ht, Int.add_zero] at HS2
            clear ht
            go_wp2
            go_roundw
            case rel => exact ⟨k + 1, S, by omega, hS0, by omega, rfl, iv (by omega), HS2.out, Hb.out⟩
            case measure => simp only [intOf]; omega
        · have ht : cterm x y = 0 := by unfold cterm; rw [if_neg (by omega)]
          rw [ht, Int.add_zero] at HS2
          clear ht
          go_wp2
          go_roundw
          case rel => exact ⟨k + 1, S, by omega, hS0, by omega, rfl, iv (by omega), HS2.out, Hb.out⟩
          case measure => simp only [intOf]; omega
      · have ht : cterm x y = 0 := by unfold cterm; rw [if_neg (by omega)]
        rw [ht, Int.add_zero] at HS2
        clear ht
        go_wp2
        go_roundw
        case rel => exact ⟨k + 1, S, by omega, hS0, by omega, rfl, iv (by omega), HS2.out, Hb.out⟩
        case measure => simp only [intOf]; omega
    · have he := Hend.out k hlt
      have hs := HS.out
      rw [he, Int.add_zero] at hs
      have Hf := Lib.hid hs
      clear he hs HS
      by_cases l1 : k < n1
      · have g1 : (k : Int) < n1 := by omega
        by_cases l2 : k < n2
        · have g2 : (k : Int) < n2 := by omega
          have g3 : ¬ (k : Int) < 257 := by omega
          go_wp2
          go_ret
          exact ⟨by rw [← Hf.out]; rfl, Hb.out⟩
        · have g2 : ¬ (k : Int) < n2 := by omega
          go_wp2
          go_ret
          exact ⟨by rw [← Hf.out]; rfl, Hb.out⟩
      · have g1 : ¬ (k : Int) < n1 := by omega
        go_wp2
        go_ret
        exact ⟨by rw [← Hf.out]; rfl, Hb.out⟩
end Go.Proofs.Ytehpnfijpddcfaa
