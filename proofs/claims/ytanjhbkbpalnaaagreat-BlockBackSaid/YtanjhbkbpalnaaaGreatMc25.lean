/-
 What the law of the last of these texts stands on, part 25.
-/
import Derived.Test.YtanjhbkbpalnaaaGreatMc12
set_option maxRecDepth 100000
set_option maxHeartbeats 8000000
open Go.Proofs.Tryz
namespace Go.Proofs.YtanjhbkbpalnaaaGreat
set_option linter.unusedSimpArgs false
set_option linter.unusedVariables false
open Go.ChangeShapes Go.WideShapes Go.ChangeAt Go.RowKit Go.Joins Go.Deep
def BPost (w w' : World) (e : Ending) (F : List UInt8 × Int × Int) : Prop := e = .returned (.tuple #[.string ⟨F.1.toArray⟩, .int .i64 F.2.1, .int .i64 F.2.2]) ∧ Below w.heap.size w w'
theorem btF_big {s : List UInt8} (h : 20000 < s.length) : btF s = ([], 0, 3) := qah h
theorem btF_yes {s : List UInt8} (h : ¬ 20000 < s.length) : btF s = (ybq s, (bpr s : Int), 0) := qag h
def bpre (s : List UInt8) (k : Nat) : List UInt8 := ((sarr s).take k).filterMap (bahead s)
def bprk (s : List UInt8) (k : Nat) : Nat := if bpr s < k then bpr s else 0
theorem bpre_all (s : List UInt8) : bpre s (s.length + 1) = ybq s ∧ bprk s (s.length + 1) = bpr s := by
 constructor
 ·unfold bpre ybq
  rw [qa5 (by rw [ybY]; omega)]
 ·unfold bprk
  rw [qah (by have := bpr_le s; omega)]
theorem bpre_len (s : List UInt8) (k : Nat) : (bpre s k).length ≤ k := by
 unfold bpre
 have := List.length_filterMap_le (bahead s) ((sarr s).take k)
 rw [qao] at this
 omega
theorem bfw_at (s : List UInt8) (k : Nat) (h : k < s.length + 1) : ∃ (p : Nat) (hk : k < (splc (sarr s)).length), (splc (sarr s))[k] = (p : Int) ∧ p ≤ s.length ∧
  (p = 0 → bpre s (k + 1) = bpre s k ∧ bprk s (k + 1) = k) ∧ (∀ q, q + 1 = p → bpre s (k + 1) = bpre s k ++ (s.drop q).take 1 ∧ bprk s (k + 1) = bprk s k) := by
 have hl := ybY s
 have hk : k < (sarr s).length := by omega
 have hle := sarr_le s k hk
 obtain ⟨h0, e0⟩ := bpr_get s
 have hn : bpre s (k + 1) = bpre s k ++ [(sarr s)[k]].filterMap (bahead s) := by
  unfold bpre
  rw [qap hk, List.filterMap_append]
 refine ⟨(sarr s)[k], by rw [yaq]; exact hk, yfF _ _ _, hle, fun h => ?_, fun q hq => ?_⟩
 ·have e : bpr s = k := sarr_inj s _ _ h0 hk (by omega)
  rw [hn, h]
  refine ⟨qa8 _, ?_⟩
  unfold bprk
  rw [qah (by omega), e]
 ·have e : bpr s ≠ k := fun e => by
   simp only [e] at e0
   omega
  rw [hn, ← hq]
  refine ⟨?_, ?_⟩
  ·congr 1
   rw [qa6 (show q < s.length by omega)]
   show [s.getD (q + 1 - 1) 0] = _
   rw [qbL, qar, qaj (by omega)]
   rfl
  ·unfold bprk
   by_cases h1 : bpr s < k
   ·rw [qah h1, qah (by omega)]
   ·rw [qag h1, qag (by omega)]
end Go.Proofs.YtanjhbkbpalnaaaGreat
