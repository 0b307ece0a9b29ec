/-
 What the law of the last of these texts stands on, part 19.
-/
import Derived.Test.YtanjhbkbpalnaaaGreatMa13
set_option maxRecDepth 100000
set_option maxHeartbeats 8000000
open Go.Proofs.Tryz
namespace Go.Proofs.YtanjhbkbpalnaaaGreat
set_option linter.unusedSimpArgs false
set_option linter.unusedVariables false
open Go.ChangeShapes Go.WideShapes Go.ChangeAt Go.RowKit Go.Joins Go.Deep
def yam (l : List Int) : List Int := (List.range 257).map fun s : Nat => ((l.count (s : Int) : Nat) : Int)
theorem yak (l : List Int) : (yam l).length = 257 := by unfold yam; rw [qaD, qa7]
theorem ya7 (l : List Int) (s : Nat) (h : s < (yam l).length) : (yam l)[s] = ((l.count (s : Int) : Nat) : Int) := by
 have e : (yam l)[s]? = some ((l.count (s : Int) : Nat) : Int) := by
  unfold yam
  rw [List.getElem?_map, List.getElem?_range (by rw [yak] at h; exact h)]
  rfl
 rw [qah h] at e
 injection e
theorem hcount_nil : yam [] = List.replicate 257 0 := by
 apply qaY
 ·rw [yak, qav]
 ·intro i h1 h2
  rw [ya7, qbW]
  rfl
theorem hcount_snoc (l : List Int) (x : Int) (h0 : 0 ≤ x) (h1 : x ≤ 256) : yam (l ++ [x]) = (yam l).set x.toNat ((yam l)[x.toNat]'(by rw [yak]; omega) + 1) := by
 apply qaY
 ·rw [qbJ, yak, yak]
 ·intro i h2 h3
  rw [ya7, qcx, List.count_append, List.count_singleton]
  by_cases e : x.toNat = i
  ·have e2 : x = (i : Int) := by omega
   have e3 : (x == (i : Int)) = true := by rw [qcL]; exact e2
   rw [qag e, ya7, qag e3, e]
   omega
  ·have e3 : ¬ (x == (i : Int)) = true := by rw [qcL]; omega
   rw [qae e, ya7, qae e3, qbv]
def hin (l : List Int) : Bool := l.all fun x => decide (0 ≤ x) && decide (x ≤ 256)
theorem yh1 {l : List Int} (h : hin l = true) : ∀ x ∈ l, 0 ≤ x ∧ x ≤ 256 := by
 intro x hx
 unfold hin at h
 rw [qbH] at h
 simpa using h x hx
theorem hin_of {l : List Int} (h : ∀ x ∈ l, 0 ≤ x ∧ x ≤ 256) : hin l = true := by
 unfold hin
 rw [qbH]
 intro x hx
 simpa using h x hx
def hcF (l : List Int) : List Int × Int := if 100000 < l.length then ([], 3) else if hin l = true then (yam l, 0) else ([], 70)
theorem hc_ok {l : List Int} (h : (hcF l).2 = 0) : l.length ≤ 100000 ∧ hin l = true ∧ hcF l = (yam l, 0) := by
 unfold hcF at h ⊢
 by_cases h1 : 100000 < l.length
 ·rw [qag h1] at h; cases h
 ·rw [qae h1] at h ⊢
  by_cases h2 : hin l = true
  ·rw [qag h2]
   exact ⟨by omega, h2, rfl⟩
  ·rw [qae h2] at h; cases h
theorem hc_bad {l : List Int} (h : (hcF l).2 ≠ 0) : (hcF l).1 = [] := by
 unfold hcF at h ⊢
 by_cases h1 : 100000 < l.length
 ·rw [qag h1]
 ·rw [qae h1] at h ⊢
  by_cases h2 : hin l = true
  ·rw [qag h2] at h; exact absurd rfl h
  ·rw [qae h2]
theorem ybP {l : List Int} (h : l.length ≤ 100000) : yev (yam l) = true := cgood_of fun i hi => by
 rw [ya7]
 have := List.count_le_length (a := (i : Int)) (l := l)
 omega
def hL (l : List Int) : List Int := yaq (yam l) 15
theorem yce (l : List Int) : (hL l).length = 257 := by unfold hL; rw [ydD, yak]
theorem hleaves (l : List Int) : (yaa (yam l)).length ≤ 2 ^ 15 := by
 have := ycH (yam l)
 rw [yak] at this
 have : (257 : Nat) ≤ 2 ^ 15 := by decide
 omega
theorem hbest {l : List Int} (h : l.length ≤ 100000) : yb9 (yam l) 15 = (hL l, 0) := by
 have := hleaves l
 unfold yb9
 rw [qae (by rw [yak]; decide), qae (by omega), qag (ybP h), qae (by show ¬ 2 ^ 15 < _; omega)]
 rfl
theorem hL_good {l : List Int} (h : l.length ≤ 100000) : LGoodB (yam l) (hL l) 15 := yea ⟨by omega, by omega⟩ (ybP h) (hleaves l)
theorem yck {l : List Int} (h : l.length ≤ 100000) : yat (hL l) = 0 := by
 rw [← yfb]
 exact lbestL_check ⟨by omega, by omega⟩ (ybP h) (hleaves l) (by rw [yak]; omega)
def hws (l : List Int) : List (Int × Int) := wat ((hL l).map Int.toNat) 16 0
theorem hL_word {l : List Int} (h : l.length ≤ 100000) (hi : hin l = true) : ∀ s ∈ l, (yaC (hws l) s).2 = 0 := by
 intro s hs
 obtain ⟨s0, s1⟩ := yh1 hi s hs
 obtain ⟨k, rfl⟩ := qaF s0
 have hk : k < (hL l).length := by rw [yce]; omega
 have hkc : k < (yam l).length := by rw [yak]; omega
 have hp := ((hL_good h).pos k hk hkc).2 (by
  rw [ya7]
  have := List.count_pos_iff.2 hs
  omega)
 unfold hws
 have hk2 : k < ((hL l).map Int.toNat).length := by rw [qaD]; exact hk
 rw [cword_is (cnat15 (ydl (yck h)).2) k hk2 (by rw [qaQ]; omega)]
def hB (l : List Int) : List Nat := yaw (hL l) ++ ybo (hws l) l
theorem hfit (l : List Int) (h : l.length ≤ 100000) : ∀ f ∈ hws l, fits f.1 f.2 := by
 have := cwords_fit (hL l)
 rw [yh3 (yck h)] at this
 exact this
theorem hB_bin {l : List Int} (h : l.length ≤ 100000) : Bin (hB l) := (tbits_bin _).app (cbits_bin (hfit l h) l)
theorem yd0 {ws : List (Int × Int)} (hf : ∀ f ∈ ws, fits f.1 f.2) : ∀ sy : List Int, (ybo ws sy).length ≤ 32 * sy.length
 | [] => qad _
 | s :: t => by
  have h1 := (ydS hf s).1
  have h2 := yd0 hf t
  rw [yct, qab, qap]
  omega
theorem yfa (l : List Int) : (yaw (hL l)).length ≤ 17219 := by
 have := tbits_len (hL l) (by rw [yce]; omega)
 rw [yce] at this
 omega
theorem hB_len {l : List Int} (h : l.length ≤ 100000) : (hB l).length ≤ 17219 + 32 * l.length := by
 have h1 := yfa l
 have h2 := yd0 (hfit l h) l
 unfold hB
 rw [qab]
 omega
def hencF (l : List Int) : List UInt8 × Int := if (hcF l).2 = 0 then (text (hB l), 0) else ([], (hcF l).2)
end Go.Proofs.YtanjhbkbpalnaaaGreat
