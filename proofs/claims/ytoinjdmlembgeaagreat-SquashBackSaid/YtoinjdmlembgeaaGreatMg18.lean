/-
 What the law of the last of these texts stands on, part 18.
-/
import Derived.Test.YtoinjdmlembgeaaGreatMg17
namespace Go.Proofs.YtoinjdmlembgeaaGreat
set_option linter.unusedSimpArgs false
set_option linter.unusedVariables false
open Go.ChangeShapes Go.WideShapes Go.ChangeAt Go.RowKit Go.Joins Go.Deep
def yam (l : List Int) : List Int := (List.range 257).map fun s : Nat => ((l.count (s : Int) : Nat) : Int)
theorem yal (l : List Int) : (yam l).length = 257 := by unfold yam; rw [List.length_map, List.length_range]
theorem ya9 (l : List Int) (s : Nat) (h : s < (yam l).length) : (yam l)[s] = ((l.count (s : Int) : Nat) : Int) := by
 have e : (yam l)[s]? = some ((l.count (s : Int) : Nat) : Int) := by
  unfold yam
  rw [List.getElem?_map, List.getElem?_range (by rw [yal] at h; exact h)]
  rfl
 rw [List.getElem?_eq_getElem h] at e
 injection e
theorem hcount_nil : yam [] = List.replicate 257 0 := by
 apply List.ext_getElem
 ·rw [yal, List.length_replicate]
 ·intro i h1 h2
  rw [ya9, List.getElem_replicate]
  rfl
theorem hcount_snoc (l : List Int) (x : Int) (h0 : 0 ≤ x) (h1 : x ≤ 256) : yam (l ++ [x]) = (yam l).set x.toNat ((yam l)[x.toNat]'(by rw [yal]; omega) + 1) := by
 apply List.ext_getElem
 ·rw [List.length_set, yal, yal]
 ·intro i h2 h3
  rw [ya9, List.getElem_set, List.count_append, List.count_singleton]
  by_cases e : x.toNat = i
  ·have e2 : x = (i : Int) := by omega
   have e3 : (x == (i : Int)) = true := by rw [beq_iff_eq]; exact e2
   rw [if_pos e, ya9, if_pos e3, e]
   omega
  ·have e3 : ¬ (x == (i : Int)) = true := by rw [beq_iff_eq]; omega
   rw [if_neg e, ya9, if_neg e3, Nat.add_zero]
def hin (l : List Int) : Bool := l.all fun x => decide (0 ≤ x) && decide (x ≤ 256)
theorem yg3 {l : List Int} (h : hin l = true) : ∀ x ∈ l, 0 ≤ x ∧ x ≤ 256 := by
 intro x hx
 unfold hin at h
 rw [List.all_eq_true] at h
 simpa using h x hx
theorem hin_of {l : List Int} (h : ∀ x ∈ l, 0 ≤ x ∧ x ≤ 256) : hin l = true := by
 unfold hin
 rw [List.all_eq_true]
 intro x hx
 simpa using h x hx
def hcF (l : List Int) : List Int × Int := if 100000 < l.length then ([], 3) else if hin l = true then (yam l, 0) else ([], 70)
theorem hc_ok {l : List Int} (h : (hcF l).2 = 0) : l.length ≤ 100000 ∧ hin l = true ∧ hcF l = (yam l, 0) := by
 unfold hcF at h ⊢
 by_cases h1 : 100000 < l.length
 ·rw [if_pos h1] at h; cases h
 ·rw [if_neg h1] at h ⊢
  by_cases h2 : hin l = true
  ·rw [if_pos h2]
   exact ⟨by omega, h2, rfl⟩
  ·rw [if_neg h2] at h; cases h
theorem hc_bad {l : List Int} (h : (hcF l).2 ≠ 0) : (hcF l).1 = [] := by
 unfold hcF at h ⊢
 by_cases h1 : 100000 < l.length
 ·rw [if_pos h1]
 ·rw [if_neg h1] at h ⊢
  by_cases h2 : hin l = true
  ·rw [if_pos h2] at h; exact absurd rfl h
  ·rw [if_neg h2]
theorem ybW {l : List Int} (h : l.length ≤ 100000) : ye4 (yam l) = true := cgood_of fun i hi => by
 rw [ya9]
 have := List.count_le_length (a := (i : Int)) (l := l)
 omega
def hL (l : List Int) : List Int := yar (yam l) 15
theorem ycn (l : List Int) : (hL l).length = 257 := by unfold hL; rw [yd1, yal]
theorem hleaves (l : List Int) : (yaa (yam l)).length ≤ 2 ^ 15 := by
 have := ycS (yam l)
 rw [yal] at this
 have : (257 : Nat) ≤ 2 ^ 15 := by decide
 omega
theorem hbest {l : List Int} (h : l.length ≤ 100000) : ybD (yam l) 15 = (hL l, 0) := by
 have := hleaves l
 unfold ybD
 rw [if_neg (by rw [yal]; decide), if_neg (by omega), if_pos (ybW h), if_neg (by show ¬ 2 ^ 15 < _; omega)]
 rfl
theorem hL_good {l : List Int} (h : l.length ≤ 100000) : LGoodB (yam l) (hL l) 15 := ydY ⟨by omega, by omega⟩ (ybW h) (hleaves l)
theorem ycl {l : List Int} (h : l.length ≤ 100000) : yaw (hL l) = 0 := by
 rw [← yf4]
 exact lbestL_check ⟨by omega, by omega⟩ (ybW h) (hleaves l) (by rw [yal]; omega)
def hws (l : List Int) : List (Int × Int) := wat ((hL l).map Int.toNat) 16 0
theorem hL_word {l : List Int} (h : l.length ≤ 100000) (hi : hin l = true) : ∀ s ∈ l, (yaD (hws l) s).2 = 0 := by
 intro s hs
 obtain ⟨s0, s1⟩ := yg3 hi s hs
 obtain ⟨k, rfl⟩ := Int.eq_ofNat_of_zero_le s0
 have hk : k < (hL l).length := by rw [ycn]; omega
 have hkc : k < (yam l).length := by rw [yal]; omega
 have hp := ((hL_good h).pos k hk hkc).2 (by
  rw [ya9]
  have := List.count_pos_iff.2 hs
  omega)
 unfold hws
 have hk2 : k < ((hL l).map Int.toNat).length := by rw [List.length_map]; exact hk
 rw [cword_is (cnat15 (ydt (ycl h)).2) k hk2 (by rw [List.getElem_map]; omega)]
def hB (l : List Int) : List Nat := yav (hL l) ++ ybu (hws l) l
theorem hfit (l : List Int) (h : l.length ≤ 100000) : ∀ f ∈ hws l, fits f.1 f.2 := by
 have := cwords_fit (hL l)
 rw [yho (ycl h)] at this
 exact this
theorem hB_bin {l : List Int} (h : l.length ≤ 100000) : Bin (hB l) := (tbits_bin _).app (cbits_bin (hfit l h) l)
theorem yd3 {ws : List (Int × Int)} (hf : ∀ f ∈ ws, fits f.1 f.2) : ∀ sy : List Int, (ybu ws sy).length ≤ 32 * sy.length
 | [] => Nat.le_refl _
 | s :: t => by
  have h1 := (yet hf s).1
  have h2 := yd3 hf t
  rw [yc5, List.length_append, List.length_cons]
  omega
theorem yfw (l : List Int) : (yav (hL l)).length ≤ 17219 := by
 have := tbits_len (hL l) (by rw [ycn]; omega)
 rw [ycn] at this
 omega
theorem hB_len {l : List Int} (h : l.length ≤ 100000) : (hB l).length ≤ 17219 + 32 * l.length := by
 have h1 := yfw l
 have h2 := yd3 (hfit l h) l
 unfold hB
 rw [List.length_append]
 omega
def hencF (l : List Int) : List UInt8 × Int := if (hcF l).2 = 0 then (text (hB l), 0) else ([], (hcF l).2)
end Go.Proofs.YtoinjdmlembgeaaGreat
