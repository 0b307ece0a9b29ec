/-
  Layer 8, the program's Cost, for every two lists of numbers.
-/
import Derived.Test.YtehpnfijpddcfaaLenO
import Derived.Test.YtehpnfijpddcfaaLenC
namespace Go.Proofs.Ytehpnfijpddcfaa
set_option linter.unusedSimpArgs false
set_option linter.unusedVariables false
open Go.ChangeShapes Go.WideShapes Go.ChangeAt Go.RowKit Go.Joins Go.Deep

theorem cterm_in (x y : Int) : cterm x y = if (ain 1000000 x && ain 15 y) = true then x * y else 0 := by
  unfold cterm ain
  by_cases h : 0 ≤ x ∧ x ≤ 1000000 ∧ 0 ≤ y ∧ y ≤ 15
  · rw [if_pos h, if_pos (by simp; omega)]
  · rw [if_neg h, if_neg (by simp; omega)]
set_option maxRecDepth 100000 in
set_option maxHeartbeats 4000000 in
theorem p_cost_any (counts lens : List Int) (A1 A2 : Option Addr) (n1 n2 c1 c2 : Nat) (w : World) (hm1 : n1 ≤ 1000000) (hm2 : n2 ≤ 1000000) (hr1 : Reads w w.heap.size 1 A1 n1 (ints counts)) (hr2 : Reads w w.heap.size 1 A2 n2 (ints lens)) :
    Calls Try.prog 15 #[.slice A1 n1 c1, .slice A2 n2 c2] w fun e w' => e = .returned (.int .i64 (costF counts lens)) ∧ Below w.heap.size w w' := by
  have en1 : counts.length = n1 := by have := hr1.1; rw [ints_length] at this; omega
  have en2 : lens.length = n2 := by have := hr2.1; rw [ints_length] at this; omega
  have Hc1 := lcells hr1
  have Hc2 := lcells hr2
  obtain ⟨T, hT⟩ : ∃ T, costF counts lens = T := ⟨_, rfl⟩
  rw [hT]
  obtain ⟨M, hM⟩ : ∃ M : Nat, min (min n1 n2) 257 = M := ⟨_, rfl⟩
  have hM1 : M ≤ n1 ∧ M ≤ n2 ∧ M ≤ 257 := by omega
  have Hstart : Hid ((0 : Int) + ccost ((counts.take 257).drop 0) ((lens.take 257).drop 0) = T) := Lib.hid (by rw [← hT, Int.zero_add]; rfl)
  have Hstep : Hid (∀ k (ha : k < counts.length) (hb : k < lens.length), k < 257 → ccost ((counts.take 257).drop k) ((lens.take 257).drop k) = cterm counts[k] lens[k] + ccost ((counts.take 257).drop (k + 1)) ((lens.take 257).drop (k + 1))) := Lib.hid fun k ha hb hk => by
    rw [ccost_step _ _ k (by rw [List.length_take]; omega) (by rw [List.length_take]; omega), List.getElem_take, List.getElem_take]
  have Hend : Hid (∀ k, ¬ k < M → ccost ((counts.take 257).drop k) ((lens.take 257).drop k) = 0) := Lib.hid fun k hk => by
    refine ccost_end _ _ ?_
    by_cases h : k < n1 ∧ k < 257
    · exact Or.inr (List.drop_of_length_le (by rw [List.length_take]; omega))
    · exact Or.inl (List.drop_of_length_le (by rw [List.length_take]; omega))
  have En1 := Lib.hid en1
  have En2 := Lib.hid en2
  have hn1 : (n1 : Int) ≤ 1000000 := by omega
  have hn2 : (n2 : Int) ≤ 1000000 := by omega
  have Hw := Lib.hid a_within_any
  have hcase : (n1 = M ∧ n1 ≤ n2 ∧ n1 ≤ 257) ∨ (n2 = M ∧ n2 < n1 ∧ n2 ≤ 257) ∨ (257 = M ∧ 257 < n1 ∧ 257 < n2) := by omega
  clear hr1 hr2 hT en1 en2 hM
  rcases hcase with ⟨rfl, e2, e3⟩ | ⟨rfl, e2, e3⟩ | ⟨rfl, e2, e3⟩
  · have hz : (n1 : Int) ≤ n2 ∧ (n1 : Int) ≤ 257 ∧ (0 : Int) ≤ 0 := by omega
    obtain ⟨z1, z2, z3⟩ := hz
    go_enter Try.func15, Try.ntmps15
    go_wp2
    go_loopw [5, 6, 7, 8, 14] (fun s sy xa xb i wr => ∃ (k : Nat) (S : Int), k ≤ n1 ∧ 0 ≤ S ∧ S ≤ 15000000 * k ∧ s = .int .i64 S ∧ i = .int .i64 k ∧ Hid (S + ccost ((counts.take 257).drop k) ((lens.take 257).drop k) = T) ∧ Hid (Below w.heap.size w wr)) (fun _ _ _ _ i _ => n1 - (intOf i).toNat)
    case atStart => exact ⟨0, 0, by omega, by omega, by omega, rfl, rfl, Hstart.out, Below.refl _ _⟩
    case round =>
      obtain ⟨k, S, hk, hS0, hS1, rfl, rfl, HS, Hb⟩ := hrel
      by_cases hlt : k < n1
      · have hki : (0 : Int) ≤ (k : Int) ∧ (k : Int) < n1 ∧ (k : Int) < n2 ∧ (k : Int) < 257 ∧ (k : Int) < ((n1 : Nat) : Int) := by omega
        have hk1 : k < counts.length := by rw [En1.out]; omega
        have hk2 : k < lens.length := by rw [En2.out]; omega
        obtain ⟨b1, o1, rfl, hb1, hcell1⟩ := Hc1.out (by omega)
        obtain ⟨b2, o2, rfl, hb2, hcell2⟩ := Hc2.out (by omega)
        have x1 := (Hb.out.cell (p := ⟨b1, o1 + k, none⟩) hb1).trans (hcell1 k hk1)
        have x2 := (Hb.out.cell (p := ⟨b2, o2 + k, none⟩) hb2).trans (hcell2 k hk2)
        have hst := Hstep.out k hk1 hk2 (by omega)
        have hs := HS.out
        rw [hst, ← Int.add_assoc] at hs
        have HS2 := Lib.hid hs
        have hbd := cterm_bound counts[k] lens[k]
        have Hbd := Lib.hid hbd
        have HSS : S ≤ 3855000000 := by omega
        have Ht := Lib.hid (cterm_in counts[k] lens[k])
        clear hcell1 hcell2 hst hs HS hbd
        generalize counts[k] = x at *
        generalize lens[k] = y at *
        have Hw1 := Lib.hid fun W => Hw.out x 1000000 W
        have Hw2 := Lib.hid fun W => Hw.out y 15 W
        cases hx : ain 1000000 x with
        | true =>
          cases hy : ain 15 y with
          | true =>
            rw [hx, hy] at Ht
            rw [hx] at Hw1
            rw [hy] at Hw2
            have ht : cterm x y = x * y := Ht.out.trans (if_pos rfl)
            have hq : 0 ≤ x * y ∧ x * y ≤ 15000000 := by rw [← ht]; exact Hbd.out
            have Hq2 : Hid (S + x * y + ccost ((counts.take 257).drop (k + 1)) ((lens.take 257).drop (k + 1)) = T) := Lib.hid (by rw [← ht]; exact HS2.out)
            obtain ⟨Q, hQ⟩ : ∃ Q, x * y = Q := ⟨_, rfl⟩
            rw [hQ] at hq Hq2
            have hw1 : IntKind.i64.wrap (x * y) = Q := by rw [hQ, IntKind.wrap_i64]; omega
            have hw2 : IntKind.i64.wrap (S + Q) = S + Q := by rw [IntKind.wrap_i64]; omega
            clear ht Ht hx hy HS2 Hbd
            go_wp2
            go_quiet (fail)
            go_wp2_with (first
              | (go_at_call 26; (with_reducible refine (Hw1.out _).mono ?_); rintro e w2 ⟨rfl, rfl⟩)
              | (go_at_call 26; (with_reducible refine (Hw2.out _).mono ?_); rintro e w2 ⟨rfl, rfl⟩))
            go_roundw
            case rel => exact ⟨k + 1, S + Q, by omega, by omega, by omega, iv (by first | rfl | omega), iv (by omega), Hq2.out, by first | exact Hb.out | exact below_drewN Hb.out _⟩
            case measure => simp only [intOf]; omega
          | false =>
            rw [hx, hy] at Ht
            rw [hx] at Hw1
            rw [hy] at Hw2
            have ht : cterm x y = 0 := Ht.out.trans (if_neg (by decide))
            rw [ht, Int.add_zero] at HS2
            clear ht Ht hx hy Hbd
            go_wp2
            go_quiet (fail)
            go_wp2_with (first
              | (go_at_call 26; (with_reducible refine (Hw1.out _).mono ?_); rintro e w2 ⟨rfl, rfl⟩)
              | (go_at_call 26; (with_reducible refine (Hw2.out _).mono ?_); rintro e w2 ⟨rfl, rfl⟩))
            go_roundw
            case rel => exact ⟨k + 1, S, by omega, by omega, by omega, rfl, iv (by omega), HS2.out, by first | exact Hb.out | exact below_drewN Hb.out _⟩
            case measure => simp only [intOf]; omega
        | false =>
          rw [hx] at Ht Hw1
          have ht : cterm x y = 0 := Ht.out.trans (if_neg (by simp))
          rw [ht, Int.add_zero] at HS2
          clear ht Ht hx Hbd
          go_wp2
          go_quiet (fail)
          go_wp2_with (go_at_call 26; (with_reducible refine (Hw1.out _).mono ?_); rintro e w2 ⟨rfl, rfl⟩)
          go_roundw
          case rel => exact ⟨k + 1, S, by omega, by omega, by omega, rfl, iv (by omega), HS2.out, by first | exact Hb.out | exact below_drewN Hb.out _⟩
          case measure => simp only [intOf]; omega
      · have hkz : ¬ (k : Int) < ((n1 : Nat) : Int) := by omega
        have he := Hend.out k hlt
        have hs := HS.out
        rw [he, Int.add_zero] at hs
        have Hf := Lib.hid hs
        clear he hs HS
        go_wp2
        go_ret
        exact ⟨by rw [← Hf.out]; rfl, Hb.out⟩
  · have hz : (n2 : Int) < n1 ∧ (n2 : Int) ≤ 257 ∧ ¬ (n1 : Int) ≤ n2 := by omega
    obtain ⟨z1, z2, z3⟩ := hz
    go_enter Try.func15, Try.ntmps15
    go_wp2
    go_loopw [5, 6, 7, 8, 14] (fun s sy xa xb i wr => ∃ (k : Nat) (S : Int), k ≤ n2 ∧ 0 ≤ S ∧ S ≤ 15000000 * k ∧ s = .int .i64 S ∧ i = .int .i64 k ∧ Hid (S + ccost ((counts.take 257).drop k) ((lens.take 257).drop k) = T) ∧ Hid (Below w.heap.size w wr)) (fun _ _ _ _ i _ => n2 - (intOf i).toNat)
    case atStart => exact ⟨0, 0, by omega, by omega, by omega, rfl, rfl, Hstart.out, Below.refl _ _⟩
    case round =>
      obtain ⟨k, S, hk, hS0, hS1, rfl, rfl, HS, Hb⟩ := hrel
      by_cases hlt : k < n2
      · have hki : (0 : Int) ≤ (k : Int) ∧ (k : Int) < n1 ∧ (k : Int) < n2 ∧ (k : Int) < 257 ∧ (k : Int) < ((n2 : Nat) : Int) := by omega
        have hk1 : k < counts.length := by rw [En1.out]; omega
        have hk2 : k < lens.length := by rw [En2.out]; omega
        obtain ⟨b1, o1, rfl, hb1, hcell1⟩ := Hc1.out (by omega)
        obtain ⟨b2, o2, rfl, hb2, hcell2⟩ := Hc2.out (by omega)
        have x1 := (Hb.out.cell (p := ⟨b1, o1 + k, none⟩) hb1).trans (hcell1 k hk1)
        have x2 := (Hb.out.cell (p := ⟨b2, o2 + k, none⟩) hb2).trans (hcell2 k hk2)
        have hst := Hstep.out k hk1 hk2 (by omega)
        have hs := HS.out
        rw [hst, ← Int.add_assoc] at hs
        have HS2 := Lib.hid hs
        have hbd := cterm_bound counts[k] lens[k]
        have Hbd := Lib.hid hbd
        have HSS : S ≤ 3855000000 := by omega
        have Ht := Lib.hid (cterm_in counts[k] lens[k])
        clear hcell1 hcell2 hst hs HS hbd
        generalize counts[k] = x at *
        generalize lens[k] = y at *
        have Hw1 := Lib.hid fun W => Hw.out x 1000000 W
        have Hw2 := Lib.hid fun W => Hw.out y 15 W
        cases hx : ain 1000000 x with
        | true =>
          cases hy : ain 15 y with
          | true =>
            rw [hx, hy] at Ht
            rw [hx] at Hw1
            rw [hy] at Hw2
            have ht : cterm x y = x * y := Ht.out.trans (if_pos rfl)
            have hq : 0 ≤ x * y ∧ x * y ≤ 15000000 := by rw [← ht]; exact Hbd.out
            have Hq2 : Hid (S + x * y + ccost ((counts.take 257).drop (k + 1)) ((lens.take 257).drop (k + 1)) = T) := Lib.hid (by rw [← ht]; exact HS2.out)
            obtain ⟨Q, hQ⟩ : ∃ Q, x * y = Q := ⟨_, rfl⟩
            rw [hQ] at hq Hq2
            have hw1 : IntKind.i64.wrap (x * y) = Q := by rw [hQ, IntKind.wrap_i64]; omega
            have hw2 : IntKind.i64.wrap (S + Q) = S + Q := by rw [IntKind.wrap_i64]; omega
            clear ht Ht hx hy HS2 Hbd
            go_wp2
            go_quiet (fail)
            go_wp2_with (first
              | (go_at_call 26; (with_reducible refine (Hw1.out _).mono ?_); rintro e w2 ⟨rfl, rfl⟩)
              | (go_at_call 26; (with_reducible refine (Hw2.out _).mono ?_); rintro e w2 ⟨rfl, rfl⟩))
            go_roundw
            case rel => exact ⟨k + 1, S + Q, by omega, by omega, by omega, iv (by first | rfl | omega), iv (by omega), Hq2.out, by first | exact Hb.out | exact below_drewN Hb.out _⟩
            case measure => simp only [intOf]; omega
          | false =>
            rw [hx, hy] at Ht
            rw [hx] at Hw1
            rw [hy] at Hw2
            have ht : cterm x y = 0 := Ht.out.trans (if_neg (by decide))
            rw [ht, Int.add_zero] at HS2
            clear ht Ht hx hy Hbd
            go_wp2
            go_quiet (fail)
            go_wp2_with (first
              | (go_at_call 26; (with_reducible refine (Hw1.out _).mono ?_); rintro e w2 ⟨rfl, rfl⟩)
              | (go_at_call 26; (with_reducible refine (Hw2.out _).mono ?_); rintro e w2 ⟨rfl, rfl⟩))
            go_roundw
            case rel => exact ⟨k + 1, S, by omega, by omega, by omega, rfl, iv (by omega), HS2.out, by first | exact Hb.out | exact below_drewN Hb.out _⟩
            case measure => simp only [intOf]; omega
        | false =>
          rw [hx] at Ht Hw1
          have ht : cterm x y = 0 := Ht.out.trans (if_neg (by simp))
          rw [ht, Int.add_zero] at HS2
          clear ht Ht hx Hbd
          go_wp2
          go_quiet (fail)
          go_wp2_with (go_at_call 26; (with_reducible refine (Hw1.out _).mono ?_); rintro e w2 ⟨rfl, rfl⟩)
          go_roundw
          case rel => exact ⟨k + 1, S, by omega, by omega, by omega, rfl, iv (by omega), HS2.out, by first | exact Hb.out | exact below_drewN Hb.out _⟩
          case measure => simp only [intOf]; omega
      · have hkz : ¬ (k : Int) < ((n2 : Nat) : Int) := by omega
        have he := Hend.out k hlt
        have hs := HS.out
        rw [he, Int.add_zero] at hs
        have Hf := Lib.hid hs
        clear he hs HS
        go_wp2
        go_ret
        exact ⟨by rw [← Hf.out]; rfl, Hb.out⟩
  · have hz : (257 : Int) < n1 ∧ (257 : Int) < n2 ∧ (0 : Int) ≤ 0 := by omega
    obtain ⟨z1, z2, z3⟩ := hz
    go_enter Try.func15, Try.ntmps15
    go_wp2
    go_loopw [5, 6, 7, 8, 14] (fun s sy xa xb i wr => ∃ (k : Nat) (S : Int), k ≤ 257 ∧ 0 ≤ S ∧ S ≤ 15000000 * k ∧ s = .int .i64 S ∧ i = .int .i64 k ∧ Hid (S + ccost ((counts.take 257).drop k) ((lens.take 257).drop k) = T) ∧ Hid (Below w.heap.size w wr)) (fun _ _ _ _ i _ => 257 - (intOf i).toNat)
    case atStart => exact ⟨0, 0, by omega, by omega, by omega, rfl, rfl, Hstart.out, Below.refl _ _⟩
    case round =>
      obtain ⟨k, S, hk, hS0, hS1, rfl, rfl, HS, Hb⟩ := hrel
      by_cases hlt : k < 257
      · have hki : (0 : Int) ≤ (k : Int) ∧ (k : Int) < n1 ∧ (k : Int) < n2 ∧ (k : Int) < 257 ∧ (k : Int) < ((257 : Nat) : Int) := by omega
        have hk1 : k < counts.length := by rw [En1.out]; omega
        have hk2 : k < lens.length := by rw [En2.out]; omega
        obtain ⟨b1, o1, rfl, hb1, hcell1⟩ := Hc1.out (by omega)
        obtain ⟨b2, o2, rfl, hb2, hcell2⟩ := Hc2.out (by omega)
        have x1 := (Hb.out.cell (p := ⟨b1, o1 + k, none⟩) hb1).trans (hcell1 k hk1)
        have x2 := (Hb.out.cell (p := ⟨b2, o2 + k, none⟩) hb2).trans (hcell2 k hk2)
        have hst := Hstep.out k hk1 hk2 (by omega)
        have hs := HS.out
        rw [hst, ← Int.add_assoc] at hs
        have HS2 := Lib.hid hs
        have hbd := cterm_bound counts[k] lens[k]
        have Hbd := Lib.hid hbd
        have HSS : S ≤ 3855000000 := by omega
        have Ht := Lib.hid (cterm_in counts[k] lens[k])
        clear hcell1 hcell2 hst hs HS hbd
        generalize counts[k] = x at *
        generalize lens[k] = y at *
        have Hw1 := Lib.hid fun W => Hw.out x 1000000 W
        have Hw2 := Lib.hid fun W => Hw.out y 15 W
        cases hx : ain 1000000 x with
        | true =>
          cases hy : ain 15 y with
          | true =>
            rw [hx, hy] at Ht
            rw [hx] at Hw1
            rw [hy] at Hw2
            have ht : cterm x y = x * y := Ht.out.trans (if_pos rfl)
            have hq : 0 ≤ x * y ∧ x * y ≤ 15000000 := by rw [← ht]; exact Hbd.out
            have Hq2 : Hid (S + x * y + ccost ((counts.take 257).drop (k + 1)) ((lens.take 257).drop (k + 1)) = T) := Lib.hid (by rw [← ht]; exact HS2.out)
            obtain ⟨Q, hQ⟩ : ∃ Q, x * y = Q := ⟨_, rfl⟩
            rw [hQ] at hq Hq2
            have hw1 : IntKind.i64.wrap (x * y) = Q := by rw [hQ, IntKind.wrap_i64]; omega
            have hw2 : IntKind.i64.wrap (S + Q) = S + Q := by rw [IntKind.wrap_i64]; omega
            clear ht Ht hx hy HS2 Hbd
            go_wp2
            go_quiet (fail)
            go_wp2_with (first
              | (go_at_call 26; (with_reducible refine (Hw1.out _).mono ?_); rintro e w2 ⟨rfl, rfl⟩)
              | (go_at_call 26; (with_reducible refine (Hw2.out _).mono ?_); rintro e w2 ⟨rfl, rfl⟩))
            go_roundw
            case rel => exact ⟨k + 1, S + Q, by omega, by omega, by omega, iv (by first | rfl | omega), iv (by omega), Hq2.out, by first | exact Hb.out | exact below_drewN Hb.out _⟩
            case measure => simp only [intOf]; omega
          | false =>
            rw [hx, hy] at Ht
            rw [hx] at Hw1
            rw [hy] at Hw2
            have ht : cterm x y = 0 := Ht.out.trans (if_neg (by decide))
            rw [ht, Int.add_zero] at HS2
            clear ht Ht hx hy Hbd
            go_wp2
            go_quiet (fail)
            go_wp2_with (first
              | (go_at_call 26; (with_reducible refine (Hw1.out _).mono ?_); rintro e w2 ⟨rfl, rfl⟩)
              | (go_at_call 26; (with_reducible refine (Hw2.out _).mono ?_); rintro e w2 ⟨rfl, rfl⟩))
            go_roundw
            case rel => exact ⟨k + 1, S, by omega, by omega, by omega, rfl, iv (by omega), HS2.out, by first | exact Hb.out | exact below_drewN Hb.out _⟩
            case measure => simp only [intOf]; omega
        | false =>
          rw [hx] at Ht Hw1
          have ht : cterm x y = 0 := Ht.out.trans (if_neg (by simp))
          rw [ht, Int.add_zero] at HS2
          clear ht Ht hx Hbd
          go_wp2
          go_quiet (fail)
          go_wp2_with (go_at_call 26; (with_reducible refine (Hw1.out _).mono ?_); rintro e w2 ⟨rfl, rfl⟩)
          go_roundw
          case rel => exact ⟨k + 1, S, by omega, by omega, by omega, rfl, iv (by omega), HS2.out, by first | exact Hb.out | exact below_drewN Hb.out _⟩
          case measure => simp only [intOf]; omega
      · have hkz : ¬ (k : Int) < ((257 : Nat) : Int) := by omega
        have he := Hend.out k hlt
        have hs := HS.out
        rw [he, Int.add_zero] at hs
        have Hf := Lib.hid hs
        clear he hs HS
        go_wp2
        go_ret
        exact ⟨by rw [← Hf.out]; rfl, Hb.out⟩
end Go.Proofs.Ytehpnfijpddcfaa
