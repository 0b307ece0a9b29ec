/-
  Layer 20: the law's sameTexts (of two rows that are the same), ours (ahead of the code's landing).
-/
import Derived.Test.YtgoahcmgpjacjaaDisTa0
import Derived.Test.YtgoahcmgpjacjaaDisZ
import Derived.Deep.QuietTactic
import Derived.BigQuiet
namespace Go.Proofs.Ytgoahcmgpjacjaa
set_option linter.unusedSimpArgs false
set_option linter.unusedVariables false
open Go.ChangeShapes Go.WideShapes Go.ChangeAt Go.RowKit Go.Joins Go.Deep
set_option maxRecDepth 100000 in
set_option maxHeartbeats 4000000 in
theorem law_same_yes (l : List (List UInt8)) (A A2 : Option Addr) (c c2 : Nat) (w : World) (hl : l.length ≤ 1000000) (h1 : Reads w w.heap.size 1 A l.length (dcs sfc l)) (h2 : Reads w w.heap.size 1 A2 l.length (dcs sfc l)) :
    Calls Try.prog 20 #[.slice A l.length c, .slice A2 l.length c2] w fun e w' => e = .returned (.bool true) ∧ Below w.heap.size w w' := by
  have HC1 : Hid (0 < l.length → ∃ b off, A = some ⟨b, off, none⟩ ∧ b < w.heap.size ∧ ∀ i (hi : i < l.length), w.cell? ⟨b, off + i, none⟩ = some (.string ⟨l[i].toArray⟩)) := Lib.hid fun h => txt_cells h1 rfl h
  have HC2 : Hid (0 < l.length → ∃ b off, A2 = some ⟨b, off, none⟩ ∧ b < w.heap.size ∧ ∀ i (hi : i < l.length), w.cell? ⟨b, off + i, none⟩ = some (.string ⟨l[i].toArray⟩)) := Lib.hid fun h => txt_cells h2 rfl h
  obtain ⟨n, hn⟩ : ∃ n, l.length = n := ⟨_, rfl⟩
  have HL := Lib.hid hn
  have hq : ((n : Int) != (n : Int)) = false := by simp
  rw [hn] at hl ⊢
  clear h1 h2 hn
  go_enter Try.func20, Try.ntmps20
  go_wp2
  go_loopw [5] (fun iv wr => ∃ k : Nat, k ≤ n ∧ iv = .int .i64 (k : Int) ∧ Hid (Below w.heap.size w wr)) (fun iv _ => n - (intOf iv).toNat)
  case atStart => exact ⟨0, by omega, rfl, Lib.hid (Below.refl _ _)⟩
  case round =>
    obtain ⟨k, hk, rfl, HB⟩ := hrel
    by_cases hlt : k < n
    · have hkl : k < l.length := by have := HL.out; omega
      obtain ⟨b, off, rfl, hb, hcell⟩ := HC1.out (by omega)
      obtain ⟨b2, off2, rfl, hb2, hcell2⟩ := HC2.out (by omega)
      have y0 := (HB.out.cell (p := ⟨b, off + k, none⟩) hb).trans (hcell k hkl)
      have y1 := (HB.out.cell (p := ⟨b2, off2 + k, none⟩) hb2).trans (hcell2 k hkl)
      have hki : (0 : Int) ≤ (k : Int) ∧ (k : Int) < (n : Int) := by omega
      clear hcell hcell2 HC1 HC2
      generalize l[k] = x at *
      have hx : (x != x) = false := by simp
      go_wp2
      go_quiet (fail)
      go_wp2
      go_roundw
      case rel => exact ⟨k + 1, by omega, iv (by omega), Lib.hid (below_drewN HB.out _)⟩
      case measure => simp only [intOf]; omega
    · obtain rfl : k = n := by omega
      have hz : ¬ (k : Int) < (k : Int) := by omega
      go_wp2
      go_ret
      exact ⟨rfl, HB.out⟩
def ourP (x : Ac) (s : List UInt8) : Prop := ((x.kind = 5 ∨ x.kind = 4 ∨ x.kind = 3) ∧ x.s = s) ∨ (x.kind = 4 ∧ x.t = s) ∨ x.kind = 9
set_option maxRecDepth 100000 in
set_option maxHeartbeats 16000000 in
theorem law_ours_any (l : List Ac) (s : List UInt8) (A : Option Addr) (c : Nat) (R : Bool) (w : World) (hl : l.length ≤ 1000000) (hr : Reads w w.heap.size 7 A l.length (dcs acf l)) (hy : ∀ x ∈ l, ourP x s → R = true) (hn : (∀ x ∈ l, ¬ ourP x s) → R = false) :
    Calls Try.prog 15 #[.slice A l.length c, .string ⟨s.toArray⟩] w fun e w' => e = .returned (.bool R) ∧ Below w.heap.size w w' := by
  have HY : Hid (∀ j (hj : j < l.length), ourP l[j] s → R = true) := Lib.hid fun j hj h => hy _ (List.getElem_mem hj) h
  have HN : Hid ((∀ j (hj : j < l.length), ¬ ourP l[j] s) → R = false) := Lib.hid fun h => hn fun x hx => by
    obtain ⟨j, hj, rfl⟩ := List.getElem_of_mem hx
    exact h j hj
  have HC : Hid (0 < l.length → ∃ b off, A = some ⟨b, off, none⟩ ∧ b < w.heap.size ∧ ∀ i (hi : i < l.length), ∀ j u, (acf l[i])[j]? = some u → w.cell? ⟨b, off + i * 7 + j, none⟩ = some u) := Lib.hid fun h => act_cells hr rfl h
  obtain ⟨n, hln⟩ : ∃ n, l.length = n := ⟨_, rfl⟩
  have HL := Lib.hid hln
  rw [hln] at hl ⊢
  clear hr hy hn hln
  go_enter Try.func15, Try.ntmps15
  go_wp2
  go_loopw [5, 6] (fun iv av wr => ∃ i : Nat, i ≤ n ∧ iv = .int .i64 (i : Int) ∧ Hid (∀ j (hj : j < l.length), j < i → ¬ ourP l[j] s) ∧ Hid (Below w.heap.size w wr)) (fun iv _ _ => n - (intOf iv).toNat)
  case atStart => exact ⟨0, by omega, rfl, Lib.hid fun j _ h => absurd h (Nat.not_lt_zero _), Lib.hid (Below.refl _ _)⟩
  case round =>
    obtain ⟨i, hin, rfl, HI, HB⟩ := hrel
    by_cases hlt : i < n
    · have hil : i < l.length := by have := HL.out; omega
      obtain ⟨b, off, rfl, hb, hcell⟩ := HC.out (by omega)
      have hc := hcell i hil
      have hyes := HY.out i hil
      have HI2 : Hid (¬ ourP l[i] s → ∀ j (hj : j < l.length), j < i + 1 → ¬ ourP l[j] s) := Lib.hid fun h j hj hji => by
        by_cases hjk : j = i
        · subst hjk; exact h
        · exact HI.out j hj (by omega)
      have hii : (0 : Int) ≤ (i : Int) ∧ (i : Int) < (n : Int) := by omega
      generalize l[i] = x at *
      obtain ⟨kind, nn, s1, t1, dir, cuts, marks, cA, cc, mA, mc⟩ := x
      have c0 := (HB.out.cell (p := ⟨b, off + i * 7 + 0, none⟩) hb).trans (hc 0 _ rfl)
      have c1 := (HB.out.cell (p := ⟨b, off + i * 7 + 1, none⟩) hb).trans (hc 1 _ rfl)
      have c2 := (HB.out.cell (p := ⟨b, off + i * 7 + 2, none⟩) hb).trans (hc 2 _ rfl)
      have c3 := (HB.out.cell (p := ⟨b, off + i * 7 + 3, none⟩) hb).trans (hc 3 _ rfl)
      have c4 := (HB.out.cell (p := ⟨b, off + i * 7 + 4, none⟩) hb).trans (hc 4 _ rfl)
      have c5 := (HB.out.cell (p := ⟨b, off + i * 7 + 5, none⟩) hb).trans (hc 5 _ rfl)
      have c6 := (HB.out.cell (p := ⟨b, off + i * 7 + 6, none⟩) hb).trans (hc 6 _ rfl)
      rw [Nat.add_zero] at c0
      dsimp only at c0 c1 c2 c3 c4 c5 c6
      unfold ourP at hyes HI2
      dsimp only at hyes HI2
      have HB2 := Lib.hid (HB.out.alloc HB.out.size (.cells #[.int .i64 kind, .int .i64 nn, .string ⟨s1.toArray⟩, .string ⟨t1.toArray⟩, .int .i64 dir, .slice cA cuts.length cc, .slice mA marks.length mc] 29))
      clear hc hcell HC HY HN hb
      generalize cuts.length = n1 at *
      generalize marks.length = n2 at *
      by_cases k5 : kind = 5
      · subst k5
        by_cases hs : s1 = s
        · subst hs
          have q1 : (s1 == s1) = true := beq_self_eq_true _
          have hR : Hid (R = true) := Lib.hid (hyes (.inl ⟨.inl rfl, rfl⟩))
          clear hyes HI2
          go_wp2
          go_ret
          exact ⟨by rw [hR.out]; rfl, HB2.out⟩
        · have q1 : (s1 == s) = false := by rw [beq_eq_false_iff_ne]; exact hs
          have HI3 := Lib.hid (HI2.out (fun h => by rcases h with ⟨h, h2⟩ | ⟨h, h2⟩ | h <;> first | omega | exact absurd h2 (by assumption)))
          clear hyes HI2
          go_wp2
          go_roundw
          case rel => exact ⟨i + 1, by omega, iv (by omega), HI3, HB2⟩
          case measure => simp only [intOf]; omega
      by_cases k3 : kind = 3
      · subst k3
        by_cases hs : s1 = s
        · subst hs
          have q1 : (s1 == s1) = true := beq_self_eq_true _
          have hR : Hid (R = true) := Lib.hid (hyes (.inl ⟨.inr (.inr rfl), rfl⟩))
          clear hyes HI2
          go_wp2
          go_ret
          exact ⟨by rw [hR.out]; rfl, HB2.out⟩
        · have q1 : (s1 == s) = false := by rw [beq_eq_false_iff_ne]; exact hs
          have HI3 := Lib.hid (HI2.out (fun h => by rcases h with ⟨h, h2⟩ | ⟨h, h2⟩ | h <;> first | omega | exact absurd h2 (by assumption)))
          clear hyes HI2
          go_wp2
          go_roundw
          case rel => exact ⟨i + 1, by omega, iv (by omega), HI3, HB2⟩
          case measure => simp only [intOf]; omega
      by_cases k4 : kind = 4
      · subst k4
        by_cases hs : s1 = s
        · subst hs
          have q1 : (s1 == s1) = true := beq_self_eq_true _
          have hR : Hid (R = true) := Lib.hid (hyes (.inl ⟨.inr (.inl rfl), rfl⟩))
          clear hyes HI2
          go_wp2
          go_ret
          exact ⟨by rw [hR.out]; rfl, HB2.out⟩
        · have q1 : (s1 == s) = false := by rw [beq_eq_false_iff_ne]; exact hs
          by_cases ht : t1 = s
          · subst ht
            have q2 : (t1 == t1) = true := beq_self_eq_true _
            have hR : Hid (R = true) := Lib.hid (hyes (.inr (.inl ⟨rfl, rfl⟩)))
            clear hyes HI2
            go_wp2
            go_ret
            exact ⟨by rw [hR.out]; rfl, HB2.out⟩
          · have q2 : (t1 == s) = false := by rw [beq_eq_false_iff_ne]; exact ht
            have HI3 := Lib.hid (HI2.out (fun h => by rcases h with ⟨h, h2⟩ | ⟨h, h2⟩ | h <;> first | omega | exact absurd h2 (by assumption)))
            clear hyes HI2
            go_wp2
            go_roundw
            case rel => exact ⟨i + 1, by omega, iv (by omega), HI3, HB2⟩
            case measure => simp only [intOf]; omega
      by_cases k9 : kind = 9
      · subst k9
        have hR : Hid (R = true) := Lib.hid (hyes (.inr (.inr rfl)))
        clear hyes HI2
        go_wp2
        go_ret
        exact ⟨by rw [hR.out]; rfl, HB2.out⟩
      have j5 : (kind == 5) = false := by rw [beq_eq_false_iff_ne]; exact k5
      have j4 : (kind == 4) = false := by rw [beq_eq_false_iff_ne]; exact k4
      have j3 : (kind == 3) = false := by rw [beq_eq_false_iff_ne]; exact k3
      have j9 : (kind == 9) = false := by rw [beq_eq_false_iff_ne]; exact k9
      have HI3 := Lib.hid (HI2.out (fun h => by rcases h with ⟨h, h2⟩ | ⟨h, h2⟩ | h <;> first | omega | exact absurd h2 (by assumption)))
      clear hyes HI2
      go_wp2
      go_roundw
      case rel => exact ⟨i + 1, by omega, iv (by omega), HI3, HB2⟩
      case measure => simp only [intOf]; omega
    · have hz : ¬ (i : Int) < (n : Int) := by omega
      have hR : Hid (R = false) := Lib.hid (HN.out fun j hj => HI.out j hj (by have := HL.out; omega))
      clear HC HY HN
      go_wp2
      go_ret
      exact ⟨by rw [hR.out]; rfl, HB.out⟩
end Go.Proofs.Ytgoahcmgpjacjaa
