/-
  Layer 10: the closure that checks a run; reading runs (read), with slices.Repeat and append.
-/
import Derived.Test.YtckekhghcelcpaaTabF
import Derived.Test.YtckekhghcelcpaaTabR
import Derived.Test.YtckekhghcelcpaaBitN
import Derived.Test.YtckekhghcelcpaaStep
namespace Go.Proofs.Ytckekhghcelcpaa
set_option linter.unusedSimpArgs false
set_option linter.unusedVariables false
open Go.ChangeShapes Go.WideShapes Go.ChangeAt Go.RowKit Go.Joins Go.Deep

set_option maxRecDepth 100000 in
set_option maxHeartbeats 2000000 in
theorem tcheck1_any (lb nb M ol cv : Nat) (Av : Option Addr) (out : List Int) (x cnt last : Int) (W : World) (hol : out.length = ol) (hle : ol ≤ M) (hM : M ≤ 257) (hlast : (out = [] ∧ last = -1) ∨ out.getLast? = some last) (hx : 0 ≤ x)
    (c1 : W.cell? ⟨lb, 0, none⟩ = some (.slice Av ol cv)) (c2 : W.cell? ⟨nb, 0, none⟩ = some (.int .i64 (M : Int))) (hr : Reads W W.heap.size 1 Av ol (ints out)) :
    Calls Try.prog 39 #[.int .i64 x, .int .i64 cnt, .pointer (some ⟨lb, 0, none⟩), .pointer (some ⟨nb, 0, none⟩)] W fun e w' => e = .returned (.int .i64 (if x = last then 5 else if (M : Int) - ol < cnt then 40 else 0)) ∧ w' = W := by
  have hMi : (0 : Int) ≤ (ol : Int) ∧ (ol : Int) ≤ (M : Int) ∧ (M : Int) ≤ 257 := by omega
  rcases Nat.eq_zero_or_pos ol with h0 | h0
  · subst h0
    have ho : out = [] := List.length_eq_zero_iff.1 hol
    have hl : last = -1 := by
      rcases hlast with h | h
      · exact h.2
      · rw [ho] at h; cases h
    rw [if_neg (by omega)]
    clear hlast hl hol ho hr hle hM
    by_cases hc : (M : Int) - ((0 : Nat) : Int) < cnt
    · rw [if_pos hc]
      have hc2 : (M : Int) < cnt := by omega
      clear hc
      go_enter Try.func39, Try.ntmps39
      go_wp2
      go_ret
      exact ⟨rfl, rfl⟩
    · rw [if_neg hc]
      have hc2 : ¬ (M : Int) < cnt := by omega
      clear hc
      go_enter Try.func39, Try.ntmps39
      go_wp2
      go_ret
      exact ⟨rfl, rfl⟩
  · obtain ⟨p, hp⟩ : ∃ p, p + 1 = ol := ⟨ol - 1, by omega⟩
    have hpl : p < out.length := by omega
    have hlp : out[p] = last := by
      rcases hlast with h | h
      · rw [h.1] at hpl; simp at hpl
      · rw [List.getLast?_eq_getElem?, hol, show ol - 1 = p from by omega, List.getElem?_eq_getElem hpl] at h
        injection h
    obtain ⟨b, off, rfl, hb, hcell⟩ := hr.2 h0
    have x1 : W.cell? ⟨b, off + p, none⟩ = some (.int .i64 last) := by
      rw [← hlp]
      exact hcell p _ (ints_get out p hpl)
    have hpos : (0 : Int) < (ol : Int) := by omega
    have hsub : (ol : Int) - 1 = (p : Int) := by omega
    have hw1 : IntKind.i64.wrap ((ol : Int) - 1) = (p : Int) := by rw [IntKind.wrap_i64]; omega
    have hw2 : IntKind.i64.wrap (p : Int) = (p : Int) := by rw [IntKind.wrap_i64]; omega
    have hpi : (0 : Int) ≤ (p : Int) ∧ (p : Int) < (ol : Int) := by omega
    clear hlast hlp hpl hp hr hcell hol hle hM h0
    by_cases hxl : x = last
    · rw [if_pos hxl]
      have hb1 : (last == x) = true := by simpa using hxl.symm
      clear hxl
      go_enter Try.func39, Try.ntmps39
      go_wp2
      go_ret
      exact ⟨rfl, rfl⟩
    · rw [if_neg hxl]
      have hb1 : (last == x) = false := by simpa using fun h => hxl h.symm
      clear hxl
      by_cases hc : (M : Int) - (ol : Int) < cnt
      · rw [if_pos hc]
        go_enter Try.func39, Try.ntmps39
        go_wp2
        go_ret
        exact ⟨rfl, rfl⟩
      · rw [if_neg hc]
        go_enter Try.func39, Try.ntmps39
        go_wp2
        go_ret
        exact ⟨rfl, rfl⟩
end Go.Proofs.Ytckekhghcelcpaa
