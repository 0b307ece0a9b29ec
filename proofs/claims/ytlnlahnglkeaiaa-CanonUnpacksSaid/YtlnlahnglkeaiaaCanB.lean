/-
  Layer 9: the document's own Begins and Word, for every argument (ahead of the code's landing).
-/
import Derived.Test.YtlnlahnglkeaiaaCanW
import Derived.Test.YtlnlahnglkeaiaaBitR0
namespace Go.Proofs.Ytlnlahnglkeaiaa
set_option linter.unusedSimpArgs false
set_option linter.unusedVariables false
open Go.ChangeShapes Go.WideShapes Go.ChangeAt Go.RowKit Go.Joins Go.Deep

/-- Are bits those of a row, as far as they go; and do they have all of it? -/
def begF : List Nat → List Nat → Bool × Bool
  | _, [] => (true, true)
  | [], _ :: _ => (true, false)
  | a :: t, b :: u => if a = b then begF t u else (false, false)
theorem begF_end (L d : List Nat) (p k : Nat) (h : d.length ≤ k) : begF (L.drop (p + k)) (d.drop k) = (true, true) := by
  rw [List.drop_of_length_le h]
  cases L.drop (p + k) <;> rfl
theorem begF_short (L d : List Nat) (p k : Nat) (hk : k < d.length) (h : L.length ≤ p + k) : begF (L.drop (p + k)) (d.drop k) = (true, false) := by
  rw [List.drop_of_length_le h, List.drop_eq_getElem_cons hk]
  rfl
theorem begF_step (L d : List Nat) (p k : Nat) (hk : k < d.length) (h : p + k < L.length) : begF (L.drop (p + k)) (d.drop k) = if L[p + k] = d[k] then begF (L.drop (p + (k + 1))) (d.drop (k + 1)) else (false, false) := by
  rw [List.drop_eq_getElem_cons h, List.drop_eq_getElem_cons hk]
  rfl

set_option maxRecDepth 100000 in
set_option maxHeartbeats 4000000 in
theorem cref_begins_any (L d : List Nat) (A D : Option Addr) (n c p m cd : Nat) (w : World) (hn : L.length = n) (hd : d.length = m) (hl : n ≤ 8796093022208) (hm : m ≤ 1000) (hp : p ≤ n) (hr : Reads w w.heap.size 1 A n (bcs L)) (hr2 : Reads w w.heap.size 1 D m (bcs d)) :
    Calls Try.prog 41 #[.slice A n c, .int .i64 p, .slice D m cd] w fun e w' => e = .returned (.tuple #[.bool (begF (L.drop p) d).1, .bool (begF (L.drop p) d).2]) ∧ Below w.heap.size w w' := by
  have Hc1 : Hid (0 < n → ∃ b off, A = some ⟨b, off, none⟩ ∧ ∀ wr, Below w.heap.size w wr → ∀ k, (hk : k < L.length) → wr.cell? ⟨b, off + k, none⟩ = some (.int .i64 (L[k] : Int))) := Lib.hid fun h => by
    obtain ⟨b, off, e, hb, hc⟩ := hr.2 h
    exact ⟨b, off, e, fun wr hw k hk => (hw.cell (p := ⟨b, off + k, none⟩) hb).trans (hc k _ (bcs_get L k hk))⟩
  have Hc2 : Hid (0 < m → ∃ b off, D = some ⟨b, off, none⟩ ∧ ∀ wr, Below w.heap.size w wr → ∀ k, (hk : k < d.length) → wr.cell? ⟨b, off + k, none⟩ = some (.int .i64 (d[k] : Int))) := Lib.hid fun h => by
    obtain ⟨b, off, e, hb, hc⟩ := hr2.2 h
    exact ⟨b, off, e, fun wr hw k hk => (hw.cell (p := ⟨b, off + k, none⟩) hb).trans (hc k _ (bcs_get d k hk))⟩
  obtain ⟨F, hF⟩ : ∃ F, begF (L.drop p) d = F := ⟨_, rfl⟩
  rw [hF]
  have Hst : Hid (begF (L.drop (p + 0)) (d.drop 0) = F) := Lib.hid (by rw [Nat.add_zero, List.drop_zero]; exact hF)
  have Hend := Lib.hid (begF_end L d p)
  have Hsh := Lib.hid (begF_short L d p)
  have Hstep := Lib.hid (begF_step L d p)
  have En := Lib.hid hn
  have Ed := Lib.hid hd
  have hnz : (n : Int) ≤ 8796093022208 ∧ (m : Int) ≤ 1000 ∧ (p : Int) ≤ (n : Int) := by omega
  clear hr hr2 hF hn hd
  go_enter Try.func41, Try.ntmps41
  go_wp2
  go_loopw [8] (fun i wr => ∃ k : Nat, k ≤ m ∧ i = .int .i64 k ∧ p + k ≤ n ∧ Hid (begF (L.drop (p + k)) (d.drop k) = F) ∧ Hid (Below w.heap.size w wr)) (fun i _ => m - (intOf i).toNat)
  case atStart => exact ⟨0, by omega, rfl, by omega, Hst, Below.refl _ _⟩
  case round =>
    obtain ⟨k, hk, rfl, hpk, HF, HB⟩ := hrel
    by_cases hlt : k < m
    · have hki : (0 : Int) ≤ (k : Int) ∧ (k : Int) < (m : Int) := by omega
      have hkd : k < d.length := by rw [Ed.out]; exact hlt
      obtain ⟨q, hq⟩ : ∃ q, p + k = q := ⟨_, rfl⟩
      have hqz : (p : Int) + (k : Int) = (q : Int) := by omega
      have hqw : IntKind.i64.wrap ((p : Int) + (k : Int)) = (q : Int) := by rw [IntKind.wrap_i64]; omega
      by_cases hqn : q = n
      · have hf := HF.out
        rw [Hsh.out k hkd (by rw [En.out]; omega)] at hf
        have Hf := Lib.hid hf
        have hb : ((q : Int) == (n : Int)) = true := by simp; omega
        clear hf
        go_wp2
        go_ret2
        rw [← Hf.out]
        exact ⟨rfl, HB.out⟩
      · have hb : ((q : Int) == (n : Int)) = false := by simp; omega
        have hqL : p + k < L.length := by rw [En.out]; omega
        have hqi : (0 : Int) ≤ (q : Int) ∧ (q : Int) < (n : Int) := by omega
        obtain ⟨b1, o1, rfl, hc1⟩ := Hc1.out (by omega)
        obtain ⟨b2, o2, rfl, hc2⟩ := Hc2.out (by omega)
        have x1 := hc1 wr HB.out (p + k) hqL
        have x2 := hc2 wr HB.out k hkd
        have hf := HF.out
        rw [Hstep.out k hkd hqL] at hf
        have hpq : p + (k + 1) ≤ n := by omega
        clear hc1 hc2
        generalize L[p + k] = av at x1 hf
        generalize d[k] = bv at x2 hf
        rw [hq] at x1
        have Hf := Lib.hid hf
        clear hf hq
        by_cases he : av = bv
        · subst he
          have hf2 := Hf.out
          rw [if_pos rfl] at hf2
          have Hf2 := Lib.hid hf2
          have hbe : ((av : Int) == (av : Int)) = true := by simp
          have hbn : ((av : Int) != (av : Int)) = false := by simp
          clear hf2 Hf
          go_wp2
          go_quiet (fail)
          go_wp2
          go_roundw
          case rel => exact ⟨k + 1, by omega, iv (by omega), hpq, Hf2, by first | exact HB.out | exact below_drewN HB.out _⟩
          case measure => simp only [intOf]; omega
        · have hf2 := Hf.out
          rw [if_neg he] at hf2
          have Hf2 := Lib.hid hf2
          have hbe : ((av : Int) == (bv : Int)) = false := by simp; omega
          have hbn : ((av : Int) != (bv : Int)) = true := by simp; omega
          clear hf2 Hf he
          go_wp2
          go_quiet (fail)
          go_wp2
          go_ret2
          rw [← Hf2.out]
          exact ⟨rfl, by first | exact HB.out | exact below_drewN HB.out _⟩
    · obtain rfl : k = m := by omega
      have hkz : ¬ (k : Int) < (k : Int) := by omega
      have hf := HF.out
      rw [Hend.out k (by rw [Ed.out]; exact Nat.le_refl _)] at hf
      have Hf := Lib.hid hf
      clear hf
      go_wp2
      go_ret2
      rw [← Hf.out]
      exact ⟨rfl, HB.out⟩
end Go.Proofs.Ytlnlahnglkeaiaa
