/-
  What the law of the last of these texts stands on, part 34.
-/
import Derived.Test.YtpocpckhcciecaaRows
import Derived.Test.YtpocpckhcciecaaMg01
import Derived.Test.YtpocpckhcciecaaMg02
import Derived.Test.YtpocpckhcciecaaMg03
import Derived.Test.YtpocpckhcciecaaMg04
import Derived.Test.YtpocpckhcciecaaMg05
import Derived.Test.YtpocpckhcciecaaMg09
import Derived.Test.YtpocpckhcciecaaMg12
import Derived.Test.YtpocpckhcciecaaMg13
import Derived.Test.YtpocpckhcciecaaMg17
import Derived.Test.YtpocpckhcciecaaMg18
import Derived.Test.YtpocpckhcciecaaMg20
import Derived.WalkKit
import Derived.WalkSpells
import Derived.WalkLawsBesides
import Derived.ProofKit
import Derived.OpenShut
import Derived.Handy
import Derived.SizedLaws
import Derived.JoinedOf
import Derived.KernelRfl
import Derived.Lib.Hide
import Derived.Lib.SmallJoins
import Derived.Deep.Slices
import Derived.Deep.Fields
import Derived.Deep.SlicePairs
import Derived.Deep.Draws
import Derived.Deep.AppendLies
import Derived.Deep.QuietTactic
import Derived.BigQuiet
import Derived.Deep.RegionHeld3
import Derived.StillTailTactics
import Derived.Laws.OwnMore
import Derived.Laws.Rows
import Derived.Below
import Derived.Carry
import Derived.WalkMore
import Derived.Laws.BytesString
import Derived.Laws.BitsLemmas
import Derived.Laws.Concat
import Derived.Laws.EntriesVeiled
import Derived.Deep.Upon
import Derived.Lib.BitFns
namespace Go.Proofs.Ytpocpckhcciecaa
set_option linter.unusedSimpArgs false
set_option linter.unusedVariables false
open Go.ChangeShapes Go.WideShapes Go.ChangeAt Go.RowKit Go.Joins Go.Deep
theorem cterm_in (x y : Int) : cterm x y = if (ain 1000000 x && ain 15 y) = true then x * y else 0 := by
  unfold cterm ain
  by_cases h : 0 ≤ x ∧ x ≤ 1000000 ∧ 0 ≤ y ∧ y ≤ 15
  · rw [if_pos h, if_pos (by simp; omega)]
  · rw [if_neg h, if_neg (by simp; omega)]
set_option maxRecDepth 100000 in
set_option maxHeartbeats 4000000 in
theorem p_cost_any (counts lens : List Int) (A1 A2 : Option Addr) (n1 n2 c1 c2 : Nat) (w : World) (hm1 : n1 ≤ 1000000) (hm2 : n2 ≤ 1000000) (hr1 : Reads w w.heap.size 1 A1 n1 (ints counts)) (hr2 : Reads w w.heap.size 1 A2 n2 (ints lens)) :
    Calls Try.prog 18 #[.slice A1 n1 c1, .slice A2 n2 c2] w fun e w' => e = .returned (.int .i64 (costF counts lens)) ∧ Below w.heap.size w w' := by
  have en1 : counts.length = n1 := by have := hr1.1; rw [ints_length] at this; omega
  have en2 : lens.length = n2 := by have := hr2.1; rw [ints_length] at this; omega
  have Hc1 := lcells hr1
  have Hc2 := lcells hr2
  obtain ⟨T, hT⟩ : ∃ T, costF counts lens = T := ⟨_, rfl⟩
  rw [hT]
  obtain ⟨M, hM⟩ : ∃ M : Nat, min (min n1 n2) 257 = M := ⟨_, rfl⟩
  have hM1 : M ≤ n1 ∧ M ≤ n2 ∧ M ≤ 257 := by omega
  have Hstart : Hid ((0 : Int) + ccost ((counts.take 257).drop 0) ((lens.take 257).drop 0) = T) := Lib.hid (by rw [← hT, Int.zero_add]; rfl)
  have Hstep : Hid (∀ k (ha : k < counts.length) (hb : k < lens.length), k < 257 → ccost ((counts.take 257).drop k) ((lens.take 257).drop k) = cterm counts[k] lens[k] + ccost ((counts.take 257).drop (k + 1)) ((lens.take 257).drop (k + 1))) := Lib.hid fun k ha hb hk => by
    rw [ccost_step _ _ k (by rw [List.length_take]; omega) (by rw [List.length_take]; omega), List.getElem_take, List.getElem_take]
  have Hend : Hid (∀ k, ¬ k < M → ccost ((counts.take 257).drop k) ((lens.take 257).drop k) = 0) := Lib.hid fun k hk => by
    refine ccost_end _ _ ?_
    by_cases h : k < n1 ∧ k < 257
    · exact Or.inr (List.drop_of_length_le (by rw [List.length_take]; omega))
    · exact Or.inl (List.drop_of_length_le (by rw [List.length_take]; omega))
  have En1 := Lib.hid en1
  have En2 := Lib.hid en2
  have hn1 : (n1 : Int) ≤ 1000000 := by omega
  have hn2 : (n2 : Int) ≤ 1000000 := by omega
  have Hw := Lib.hid a_within_any
  have hcase : (n1 = M ∧ n1 ≤ n2 ∧ n1 ≤ 257) ∨ (n2 = M ∧ n2 < n1 ∧ n2 ≤ 257) ∨ (257 = M ∧ 257 < n1 ∧ 257 < n2) := by omega
  clear hr1 hr2 hT en1 en2 hM
  rcases hcase with ⟨rfl, e2, e3⟩ | ⟨rfl, e2, e3⟩ | ⟨rfl, e2, e3⟩
  · have hz : (n1 : Int) ≤ n2 ∧ (n1 : Int) ≤ 257 ∧ (0 : Int) ≤ 0 := by omega
    obtain ⟨z1, z2, z3⟩ := hz
    go_enter Try.func18, Try.ntmps18
    go_wp2
    go_loopw [5, 6, 7, 8, 14] (fun s sy xa xb i wr => ∃ (k : Nat) (S : Int), k ≤ n1 ∧ 0 ≤ S ∧ S ≤ 15000000 * k ∧ s = .int .i64 S ∧ i = .int .i64 k ∧ Hid (S + ccost ((counts.take 257).drop k) ((lens.take 257).drop k) = T) ∧ Hid (Below w.heap.size w wr)) (fun _ _ _ _ i _ => n1 - (intOf i).toNat)
    case atStart => exact ⟨0, 0, by omega, by omega, by omega, rfl, rfl, Hstart.out, Below.refl _ _⟩
    case round =>
      obtain ⟨k, S, hk, hS0, hS1, rfl, rfl, HS, Hb⟩ := hrel
      by_cases hlt : k < n1
      · have hki : (0 : Int) ≤ (k : Int) ∧ (k : Int) < n1 ∧ (k : Int) < n2 ∧ (k : Int) < 257 ∧ (k : Int) < ((n1 : Nat) : Int) := by omega
        have hk1 : k < counts.length := by rw [En1.out]; omega
        have hk2 : k < lens.length := by rw [En2.out]; omega
        obtain ⟨b1, o1, rfl, hb1, hcell1⟩ := Hc1.out (by omega)
        obtain ⟨b2, o2, rfl, hb2, hcell2⟩ := Hc2.out (by omega)
        have x1 := (Hb.out.cell (p := ⟨b1, o1 + k, none⟩) hb1).trans (hcell1 k hk1)
        have x2 := (Hb.out.cell (p := ⟨b2, o2 + k, none⟩) hb2).trans (hcell2 k hk2)
        have hst := Hstep.out k hk1 hk2 (by omega)
        have hs := HS.out
        rw [hst, ← Int.add_assoc] at hs
        have HS2 := Lib.hid hs
        have hbd := cterm_bound counts[k] lens[k]
        have Hbd := Lib.hid hbd
        have HSS : S ≤ 3855000000 := by omega
        have Ht := Lib.hid (cterm_in counts[k] lens[k])
        clear hcell1 hcell2 hst hs HS hbd
        generalize counts[k] = x at *
        generalize lens[k] = y at *
        have Hw1 := Lib.hid fun W => Hw.out x 1000000 W
        have Hw2 := Lib.hid fun W => Hw.out y 15 W
        cases hx : ain 1000000 x with
        | true =>
          cases hy : ain 15 y with
          | true =>
            rw [hx, hy] at Ht
            rw [hx] at Hw1
            rw [hy] at Hw2
            have ht : cterm x y = x * y := Ht.out.trans (if_pos rfl)
            have hq : 0 ≤ x * y ∧ x * y ≤ 15000000 := by rw [← ht]; exact Hbd.out
            have Hq2 : Hid (S + x * y + ccost ((counts.take 257).drop (k + 1)) ((lens.take 257).drop (k + 1)) = T) := Lib.hid (by rw [← ht]; exact HS2.out)
            obtain ⟨Q, hQ⟩ : ∃ Q, x * y = Q := ⟨_, rfl⟩
            rw [hQ] at hq Hq2
            have hw1 : IntKind.i64.wrap (x * y) = Q := by rw [hQ, IntKind.wrap_i64]; omega
            have hw2 : IntKind.i64.wrap (S + Q) = S + Q := by rw [IntKind.wrap_i64]; omega
            clear ht Ht hx hy HS2 Hbd
            go_wp2
            go_quiet (fail)
            go_wp2_with (first
              | (go_at_call 40; (with_reducible refine (Hw1.out _).mono ?_); rintro e w2 ⟨rfl, rfl⟩)
              | (go_at_call 40; (with_reducible refine (Hw2.out _).mono ?_); rintro e w2 ⟨rfl, rfl⟩))
            go_roundw
            case rel => exact ⟨k + 1, S + Q, by omega, by omega, by omega, iv (by first | rfl | omega), iv (by omega), Hq2.out, by first | exact Hb.out | exact below_drewN Hb.out _⟩
            case measure => simp only [intOf]; omega
          | false =>
            rw [hx, hy] at Ht
            rw [hx] at Hw1
            rw [hy] at Hw2
            have ht : cterm x y = 0 := Ht.out.trans (if_neg (by decide))
            rw [ht, Int.add_zero] at HS2
            clear ht Ht hx hy Hbd
            go_wp2
            go_quiet (fail)
            go_wp2_with (first
              | (go_at_call 40; (with_reducible refine (Hw1.out _).mono ?_); rintro e w2 ⟨rfl, rfl⟩)
              | (go_at_call 40; (with_reducible refine (Hw2.out _).mono ?_); rintro e w2 ⟨rfl, rfl⟩))
            go_roundw
            case rel => exact ⟨k + 1, S, by omega, by omega, by omega, rfl, iv (by omega), HS2.out, by first | exact Hb.out | exact below_drewN Hb.out _⟩
            case measure => simp only [intOf]; omega
        | false =>
          rw [hx] at Ht Hw1
          have ht : cterm x y = 0 := Ht.out.trans (if_neg (by simp))
          rw [ht, Int.add_zero] at HS2
          clear ht Ht hx Hbd
          go_wp2
          go_quiet (fail)
          go_wp2_with (go_at_call 40; (with_reducible refine (Hw1.out _).mono ?_); rintro e w2 ⟨rfl, rfl⟩)
          go_roundw
          case rel => exact ⟨k + 1, S, by omega, by omega, by omega, rfl, iv (by omega), HS2.out, by first | exact Hb.out | exact below_drewN Hb.out _⟩
          case measure => simp only [intOf]; omega
      · have hkz : ¬ (k : Int) < ((n1 : Nat) : Int) := by omega
        have he := Hend.out k hlt
        have hs := HS.out
        rw [he, Int.add_zero] at hs
        have Hf := Lib.hid hs
        clear he hs HS
        go_wp2
        go_ret
        exact ⟨by rw [← Hf.out]; rfl, Hb.out⟩
  · have hz : (n2 : Int) < n1 ∧ (n2 : Int) ≤ 257 ∧ ¬ (n1 : Int) ≤ n2 := by omega
    obtain ⟨z1, z2, z3⟩ := hz
    go_enter Try.func18, Try.ntmps18
    go_wp2
    go_loopw [5, 6, 7, 8, 14] (fun s sy xa xb i wr => ∃ (k : Nat) (S : Int), k ≤ n2 ∧ 0 ≤ S ∧ S ≤ 15000000 * k ∧ s = .int .i64 S ∧ i = .int .i64 k ∧ Hid (S + ccost ((counts.take 257).drop k) ((lens.take 257).drop k) = T) ∧ Hid (Below w.heap.size w wr)) (fun _ _ _ _ i _ => n2 - (intOf i).toNat)
    case atStart => exact ⟨0, 0, by omega, by omega, by omega, rfl, rfl, Hstart.out, Below.refl _ _⟩
    case round =>
      obtain ⟨k, S, hk, hS0, hS1, rfl, rfl, HS, Hb⟩ := hrel
      by_cases hlt : k < n2
      · have hki : (0 : Int) ≤ (k : Int) ∧ (k : Int) < n1 ∧ (k : Int) < n2 ∧ (k : Int) < 257 ∧ (k : Int) < ((n2 : Nat) : Int) := by omega
        have hk1 : k < counts.length := by rw [En1.out]; omega
        have hk2 : k < lens.length := by rw [En2.out]; omega
        obtain ⟨b1, o1, rfl, hb1, hcell1⟩ := Hc1.out (by omega)
        obtain ⟨b2, o2, rfl, hb2, hcell2⟩ := Hc2.out (by omega)
        have x1 := (Hb.out.cell (p := ⟨b1, o1 + k, none⟩) hb1).trans (hcell1 k hk1)
        have x2 := (Hb.out.cell (p := ⟨b2, o2 + k, none⟩) hb2).trans (hcell2 k hk2)
        have hst := Hstep.out k hk1 hk2 (by omega)
        have hs := HS.out
        rw [hst, ← Int.add_assoc] at hs
        have HS2 := Lib.hid hs
        have hbd := cterm_bound counts[k] lens[k]
        have Hbd := Lib.hid hbd
        have HSS : S ≤ 3855000000 := by omega
        have Ht := Lib.hid (cterm_in counts[k] lens[k])
        clear hcell1 hcell2 hst hs HS hbd
        generalize counts[k] = x at *
        generalize lens[k] = y at *
        have Hw1 := Lib.hid fun W => Hw.out x 1000000 W
        have Hw2 := Lib.hid fun W => Hw.out y 15 W
        cases hx : ain 1000000 x with
        | true =>
          cases hy : ain 15 y with
          | true =>
            rw [hx, hy] at Ht
            rw [hx] at Hw1
            rw [hy] at Hw2
            have ht : cterm x y = x * y := Ht.out.trans (if_pos rfl)
            have hq : 0 ≤ x * y ∧ x * y ≤ 15000000 := by rw [← ht]; exact Hbd.out
            have Hq2 : Hid (S + x * y + ccost ((counts.take 257).drop (k + 1)) ((lens.take 257).drop (k + 1)) = T) := Lib.hid (by rw [← ht]; exact HS2.out)
            obtain ⟨Q, hQ⟩ : ∃ Q, x * y = Q := ⟨_, rfl⟩
            rw [hQ] at hq Hq2
            have hw1 : IntKind.i64.wrap (x * y) = Q := by rw [hQ, IntKind.wrap_i64]; omega
            have hw2 : IntKind.i64.wrap (S + Q) = S + Q := by rw [IntKind.wrap_i64]; omega
            clear ht Ht hx hy HS2 Hbd
            go_wp2
            go_quiet (fail)
            go_wp2_with (first
              | (go_at_call 40; (with_reducible refine (Hw1.out _).mono ?_); rintro e w2 ⟨rfl, rfl⟩)
              | (go_at_call 40; (with_reducible refine (Hw2.out _).mono ?_); rintro e w2 ⟨rfl, rfl⟩))
            go_roundw
            case rel => exact ⟨k + 1, S + Q, by omega, by omega, by omega, iv (by first | rfl | omega), iv (by omega), Hq2.out, by first | exact Hb.out | exact below_drewN Hb.out _⟩
            case measure => simp only [intOf]; omega
          | false =>
            rw [hx, hy] at Ht
            rw [hx] at Hw1
            rw [hy] at Hw2
            have ht : cterm x y = 0 := Ht.out.trans (if_neg (by decide))
            rw [ht, Int.add_zero] at HS2
            clear ht Ht hx hy Hbd
            go_wp2
            go_quiet (fail)
            go_wp2_with (first
              | (go_at_call 40; (with_reducible refine (Hw1.out _).mono ?_); rintro e w2 ⟨rfl, rfl⟩)
              | (go_at_call 40; (with_reducible refine (Hw2.out _).mono ?_); rintro e w2 ⟨rfl, rfl⟩))
            go_roundw
            case rel => exact ⟨k + 1, S, by omega, by omega, by omega, rfl, iv (by omega), HS2.out, by first | exact Hb.out | exact below_drewN Hb.out _⟩
            case measure => simp only [intOf]; omega
        | false =>
          rw [hx] at Ht Hw1
          have ht : cterm x y = 0 := Ht.out.trans (if_neg (by simp))
          rw [ht, Int.add_zero] at HS2
          clear ht Ht hx Hbd
          go_wp2
          go_quiet (fail)
          go_wp2_with (go_at_call 40; (with_reducible refine (Hw1.out _).mono ?_); rintro e w2 ⟨rfl, rfl⟩)
          go_roundw
          case rel => exact ⟨k + 1, S, by omega, by omega, by omega, rfl, iv (by omega), HS2.out, by first | exact Hb.out | exact below_drewN Hb.out _⟩
          case measure => simp only [intOf]; omega
      · have hkz : ¬ (k : Int) < ((n2 : Nat) : Int) := by omega
        have he := Hend.out k hlt
        have hs := HS.out
        rw [he, Int.add_zero] at hs
        have Hf := Lib.hid hs
        clear he hs HS
        go_wp2
        go_ret
        exact ⟨by rw [← Hf.out]; rfl, Hb.out⟩
  · have hz : (257 : Int) < n1 ∧ (257 : Int) < n2 ∧ (0 : Int) ≤ 0 := by omega
    obtain ⟨z1, z2, z3⟩ := hz
    go_enter Try.func18, Try.ntmps18
    go_wp2
    go_loopw [5, 6, 7, 8, 14] (fun s sy xa xb i wr => ∃ (k : Nat) (S : Int), k ≤ 257 ∧ 0 ≤ S ∧ S ≤ 15000000 * k ∧ s = .int .i64 S ∧ i = .int .i64 k ∧ Hid (S + ccost ((counts.take 257).drop k) ((lens.take 257).drop k) = T) ∧ Hid (Below w.heap.size w wr)) (fun _ _ _ _ i _ => 257 - (intOf i).toNat)
    case atStart => exact ⟨0, 0, by omega, by omega, by omega, rfl, rfl, Hstart.out, Below.refl _ _⟩
    case round =>
      obtain ⟨k, S, hk, hS0, hS1, rfl, rfl, HS, Hb⟩ := hrel
      by_cases hlt : k < 257
      · have hki : (0 : Int) ≤ (k : Int) ∧ (k : Int) < n1 ∧ (k : Int) < n2 ∧ (k : Int) < 257 ∧ (k : Int) < ((257 : Nat) : Int) := by omega
        have hk1 : k < counts.length := by rw [En1.out]; omega
        have hk2 : k < lens.length := by rw [En2.out]; omega
        obtain ⟨b1, o1, rfl, hb1, hcell1⟩ := Hc1.out (by omega)
        obtain ⟨b2, o2, rfl, hb2, hcell2⟩ := Hc2.out (by omega)
        have x1 := (Hb.out.cell (p := ⟨b1, o1 + k, none⟩) hb1).trans (hcell1 k hk1)
        have x2 := (Hb.out.cell (p := ⟨b2, o2 + k, none⟩) hb2).trans (hcell2 k hk2)
        have hst := Hstep.out k hk1 hk2 (by omega)
        have hs := HS.out
        rw [hst, ← Int.add_assoc] at hs
        have HS2 := Lib.hid hs
        have hbd := cterm_bound counts[k] lens[k]
        have Hbd := Lib.hid hbd
        have HSS : S ≤ 3855000000 := by omega
        have Ht := Lib.hid (cterm_in counts[k] lens[k])
        clear hcell1 hcell2 hst hs HS hbd
        generalize counts[k] = x at *
        generalize lens[k] = y at *
        have Hw1 := Lib.hid fun W => Hw.out x 1000000 W
        have Hw2 := Lib.hid fun W => Hw.out y 15 W
        cases hx : ain 1000000 x with
        | true =>
          cases hy : ain 15 y with
          | true =>
            rw [hx, hy] at Ht
            rw [hx] at Hw1
            rw [hy] at Hw2
            have ht : cterm x y = x * y := Ht.out.trans (if_pos rfl)
            have hq : 0 ≤ x * y ∧ x * y ≤ 15000000 := by rw [← ht]; exact Hbd.out
            have Hq2 : Hid (S + x * y + ccost ((counts.take 257).drop (k + 1)) ((lens.take 257).drop (k + 1)) = T) := Lib.hid (by rw [← ht]; exact HS2.out)
            obtain ⟨Q, hQ⟩ : ∃ Q, x * y = Q := ⟨_, rfl⟩
            rw [hQ] at hq Hq2
            have hw1 : IntKind.i64.wrap (x * y) = Q := by rw [hQ, IntKind.wrap_i64]; omega
            have hw2 : IntKind.i64.wrap (S + Q) = S + Q := by rw [IntKind.wrap_i64]; omega
            clear ht Ht hx hy HS2 Hbd
            go_wp2
            go_quiet (fail)
            go_wp2_with (first
              | (go_at_call 40; (with_reducible refine (Hw1.out _).mono ?_); rintro e w2 ⟨rfl, rfl⟩)
              | (go_at_call 40; (with_reducible refine (Hw2.out _).mono ?_); rintro e w2 ⟨rfl, rfl⟩))
            go_roundw
            case rel => exact ⟨k + 1, S + Q, by omega, by omega, by omega, iv (by first | rfl | omega), iv (by omega), Hq2.out, by first | exact Hb.out | exact below_drewN Hb.out _⟩
            case measure => simp only [intOf]; omega
          | false =>
            rw [hx, hy] at Ht
            rw [hx] at Hw1
            rw [hy] at Hw2
            have ht : cterm x y = 0 := Ht.out.trans (if_neg (by decide))
            rw [ht, Int.add_zero] at HS2
            clear ht Ht hx hy Hbd
            go_wp2
            go_quiet (fail)
            go_wp2_with (first
              | (go_at_call 40; (with_reducible refine (Hw1.out _).mono ?_); rintro e w2 ⟨rfl, rfl⟩)
              | (go_at_call 40; (with_reducible refine (Hw2.out _).mono ?_); rintro e w2 ⟨rfl, rfl⟩))
            go_roundw
            case rel => exact ⟨k + 1, S, by omega, by omega, by omega, rfl, iv (by omega), HS2.out, by first | exact Hb.out | exact below_drewN Hb.out _⟩
            case measure => simp only [intOf]; omega
        | false =>
          rw [hx] at Ht Hw1
          have ht : cterm x y = 0 := Ht.out.trans (if_neg (by simp))
          rw [ht, Int.add_zero] at HS2
          clear ht Ht hx Hbd
          go_wp2
          go_quiet (fail)
          go_wp2_with (go_at_call 40; (with_reducible refine (Hw1.out _).mono ?_); rintro e w2 ⟨rfl, rfl⟩)
          go_roundw
          case rel => exact ⟨k + 1, S, by omega, by omega, by omega, rfl, iv (by omega), HS2.out, by first | exact Hb.out | exact below_drewN Hb.out _⟩
          case measure => simp only [intOf]; omega
      · have hkz : ¬ (k : Int) < ((257 : Nat) : Int) := by omega
        have he := Hend.out k hlt
        have hs := HS.out
        rw [he, Int.add_zero] at hs
        have Hf := Lib.hid hs
        clear he hs HS
        go_wp2
        go_ret
        exact ⟨by rw [← Hf.out]; rfl, Hb.out⟩
end Go.Proofs.Ytpocpckhcciecaa
namespace Go.Proofs.Ytpocpckhcciecaa
set_option linter.unusedSimpArgs false
set_option linter.unusedVariables false
open Go.ChangeShapes Go.WideShapes Go.ChangeAt Go.RowKit Go.Joins Go.Deep
set_option maxRecDepth 100000 in
set_option maxHeartbeats 1000000 in
theorem wgamma_yes (B g : Nat) (n : Int) (v : Value) (R : List Nat) (w : World) (h : hasG n) (hH : WHold w B g v R) (hB : B ≤ w.heap.size) (hR : R.length ≤ 1099511627700) :
    Calls Try.prog 45 #[.pointer (some ⟨g, 0, none⟩), .int .i64 n] w fun e w' => e = .returned (.int .i64 0) ∧ ∃ v', WHold w' B g v' (R ++ gam n.toNat) ∧ Touch w w' (WS g v) ∧ Sep w v v' := by
  obtain ⟨h1, h2⟩ := h
  have e32 : (2 : Int) ^ (32 : Int).toNat = 4294967296 := by decide
  have hs := fun w => bfits_yes n 32 w ⟨by omega, by omega, by omega, by rw [e32]; omega⟩
  have hlen := fun w => len_any n w (by omega) (by omega)
  obtain ⟨b1, b2, b3⟩ := bl_spec 32 n.toNat (by omega) (by rw [show (2 : Nat) ^ 32 = 4294967296 from by decide]; omega) (by omega)
  have ble := bl_le (n := n.toNat) (by omega) (by omega)
  have hgam : gam n.toNat = List.replicate (bl n.toNat - 1) 0 ++ dig (bl n.toNat) n.toNat := rfl
  have hbl : Lib.bitLen n.toNat = bl n.toNat := rfl
  simp only [hbl] at hlen
  generalize bl n.toNat = k at *
  have f1 : fits 0 ((k : Int) - 1) := ⟨by omega, by omega, by omega, Int.pow_pos (by decide)⟩
  have f2 : fits n k := ⟨by omega, by omega, by omega, by have : (n.toNat : Int) < 2 ^ k := by exact_mod_cast b3
                                                          simp only [Int.toNat_natCast]; omega⟩
  have d1 : digI 0 ((k : Int) - 1) = List.replicate (k - 1) 0 := by unfold digI; rw [show ((k : Int) - 1).toNat = k - 1 from by omega]; exact dig_zero _
  have d2 : digI n k = dig k n.toNat := by unfold digI; rw [Int.toNat_natCast]
  have hput1 := fun w hH hB => bput_is B g 0 ((k : Int) - 1) v R w f1 hH hB (by omega)
  have hput2 := fun w v1 hH hB => bput_is B g n k v1 (R ++ List.replicate (k - 1) 0) w f2 hH hB (by simp; omega)
  rw [d1] at hput1
  rw [d2] at hput2
  have hk1 : (1 : Int) ≤ k := by omega
  have hk2 : (k : Int) ≤ 32 := by omega
  have Hgam := Lib.hid hgam
  have HH := Lib.hid hH
  have HB := Lib.hid hB
  have h0 : 0 ≤ n := by omega
  have Hput1 := Lib.hid hput1
  have Hput2 := Lib.hid hput2
  clear hgam hH hB hput1 hput2 d1 d2 f1 f2 b1 b2 b3 ble hbl e32 hR
  go_enter Try.func45, Try.ntmps45
  go_wp2_with (first
    | (go_at_call 65; refine (hs _).mono ?_; rintro e w1 ⟨rfl, rfl⟩)
    | (go_at_call 66; refine (hlen _).mono ?_; rintro e w1 ⟨rfl, rfl⟩)
    | (go_at_call 44; (with_reducible refine (Hput1.out _ HH.out HB.out).mono ?_); rintro e w1 ⟨rfl, v1, hH1, ht1, hs1⟩; have HH1 := Lib.hid hH1; have Ht1 := Lib.hid ht1; have Hs1 := Lib.hid hs1; clear hH1 ht1 hs1)
    | (go_at_call 44; (with_reducible refine (Hput2.out _ _ HH1.out (Nat.le_trans HB.out Ht1.out.size)).mono ?_); rintro e w2 ⟨rfl, v2, hH2, ht2, hs2⟩; have HH2 := Lib.hid hH2; have Ht2 := Lib.hid ht2; have Hs2 := Lib.hid hs2; clear hH2 ht2 hs2))
  go_ret
  refine ⟨rfl, v2, ?_, touch_ws Ht1.out Ht2.out Hs1.out, Hs1.out.trans Hs2.out Ht1.out.size⟩
  have := HH2.out
  rw [Hgam.out, ← List.append_assoc]
  exact this
end Go.Proofs.Ytpocpckhcciecaa
