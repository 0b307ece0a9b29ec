/-
  What the law of the last of these texts stands on, part 21.
-/
import Derived.Test.YtpocpckhcciecaaRows
import Derived.Test.YtpocpckhcciecaaMg01
import Derived.Test.YtpocpckhcciecaaMg02
import Derived.Test.YtpocpckhcciecaaMg03
import Derived.Test.YtpocpckhcciecaaMg04
import Derived.Test.YtpocpckhcciecaaMg05
import Derived.Test.YtpocpckhcciecaaMg06
import Derived.Test.YtpocpckhcciecaaMg07
import Derived.Test.YtpocpckhcciecaaMg08
import Derived.Test.YtpocpckhcciecaaMg09
import Derived.Test.YtpocpckhcciecaaMg10
import Derived.Test.YtpocpckhcciecaaMg11
import Derived.Test.YtpocpckhcciecaaMg12
import Derived.Test.YtpocpckhcciecaaMg13
import Derived.Test.YtpocpckhcciecaaMg14
import Derived.Test.YtpocpckhcciecaaMg15
import Derived.WalkKit
import Derived.WalkSpells
import Derived.WalkLawsBesides
import Derived.ProofKit
import Derived.OpenShut
import Derived.Handy
import Derived.SizedLaws
import Derived.JoinedOf
import Derived.KernelRfl
import Derived.Lib.Hide
import Derived.Lib.SmallJoins
import Derived.Deep.Slices
import Derived.Deep.Fields
import Derived.Deep.SlicePairs
import Derived.Deep.Draws
import Derived.Deep.AppendLies
import Derived.Deep.QuietTactic
import Derived.BigQuiet
import Derived.Deep.RegionHeld3
import Derived.StillTailTactics
import Derived.Laws.OwnMore
import Derived.Laws.Rows
import Derived.Below
import Derived.Carry
import Derived.Lib.BitFns
import Derived.Deep.OwnRows
import Derived.WalkMore
import Derived.Laws.BytesString
import Derived.Laws.BitsLemmas
import Derived.Laws.Concat
import Derived.OwnWalk
import Derived.Deep.RegionWith
import Derived.Laws.EntriesVeiled
import Derived.Deep.Upon
import Derived.Deep.RegionLaw
namespace Go.Proofs.Ytpocpckhcciecaa
set_option linter.unusedSimpArgs false
set_option linter.unusedVariables false
open Go.ChangeShapes Go.WideShapes Go.ChangeAt Go.RowKit Go.Joins Go.Deep
theorem hisum_step (f d : Nat → Int) : ∀ (A B : List Int) (i : Nat), A.length = B.length → (∀ j (ha : j < A.length) (hb : j < B.length), A[j] = B[j] + d (i + j)) → isum (fun j c => c * f j) i A = isum (fun j c => c * f j) i B + isum (fun j _ => d j * f j) i B
  | [], [], _, _, _ => rfl
  | [], _ :: _, _, h, _ => by cases h
  | _ :: _, [], _, h, _ => by cases h
  | a :: s, b :: t, i, hl, h => by
    have h0 := h 0 (by simp) (by simp)
    have ih := hisum_step f d s t (i + 1) (by simpa using hl) fun j ha hb => by
      have := h (j + 1) (by simpa using ha) (by simpa using hb)
      rw [show i + (j + 1) = i + 1 + j from by omega] at this
      exact this
    simp only [Nat.add_zero, List.getElem_cons_zero] at h0
    show a * f i + isum _ (i + 1) s = b * f i + isum _ (i + 1) t + (d i * f i + isum _ (i + 1) t)
    rw [ih, h0, Int.add_mul]
    omega
theorem hisum_none (y : Nat → Int) (k : Nat) : ∀ (B : List Int) (i : Nat), k < i → isum (fun j _ => (if j = k then 1 else 0) * y j) i B = 0
  | [], _, _ => rfl
  | b :: t, i, h => by
    show (if i = k then (1 : Int) else 0) * y i + isum _ (i + 1) t = 0
    rw [if_neg (by omega), hisum_none y k t (i + 1) (by omega)]
    simp
theorem hisum_one (y : Nat → Int) (k : Nat) : ∀ (B : List Int) (i : Nat), i ≤ k → k < i + B.length → isum (fun j _ => (if j = k then 1 else 0) * y j) i B = y k
  | [], i, h1, h2 => by simp at h2; omega
  | b :: t, i, h1, h2 => by
    rw [List.length_cons] at h2
    show (if i = k then (1 : Int) else 0) * y i + isum _ (i + 1) t = y k
    by_cases e : i = k
    · subst e
      rw [if_pos rfl, hisum_none y i t (i + 1) (by omega)]
      simp
    · rw [if_neg e, hisum_one y k t (i + 1) (by omega) (by omega)]
      simp
theorem hisum_count (own : List Int) : ∀ l : List Int, hin l = true → isum (fun j c => c * own.getD j 0) 0 (hcount l) = csize own l
  | [], _ => by
    rw [hcount_nil]
    have : ∀ (n i : Nat), isum (fun j c => c * own.getD j 0) i (List.replicate n (0 : Int)) = 0 := by
      intro n
      induction n with
      | zero => intro i; rfl
      | succ n ih =>
        intro i
        rw [List.replicate_succ]
        show 0 * own.getD i 0 + isum _ (i + 1) _ = 0
        rw [ih]
        simp
    rw [this]
    rfl
  | x :: t, hi => by
    have h1 := hin_get hi
    have hx := h1 x (List.mem_cons_self ..)
    have ht : hin t = true := hin_of fun y hy => h1 y (List.mem_cons_of_mem _ hy)
    rw [hisum_step (fun j => own.getD j 0) (fun j => if j = x.toNat then 1 else 0) (hcount (x :: t)) (hcount t) 0 (by rw [hcount_len, hcount_len]) (fun j ha hb => by
      rw [hcount_get, hcount_get, List.count_cons, Nat.zero_add]
      by_cases e : j = x.toNat
      · have e3 : (x == (j : Int)) = true := by rw [beq_iff_eq]; omega
        rw [if_pos e3, if_pos e]
        omega
      · have e3 : ¬ (x == (j : Int)) = true := by rw [beq_iff_eq]; omega
        rw [if_neg e3, if_neg e]
        omega), hisum_count own t ht, hisum_one (fun j => own.getD j 0) x.toNat (hcount t) 0 (Nat.zero_le _) (by rw [hcount_len]; omega)]
    show csize own t + own.getD x.toNat 0 = own.getD x.toNat 0 + csize own t
    omega
theorem hcost_own {l : List Int} (h : l.length ≤ 100000) (hi : hin l = true) (own : List Int) (hl : own.length = 257) (hb : ∀ j (h : j < own.length), 0 ≤ own[j] ∧ own[j] ≤ 15) : costF (hcount l) own = csize own l := by
  rw [costF_isum (fun j => own.getD j 0) (hcount l) own (by rw [hcount_len]; omega) (by rw [hcount_len]; exact hl) (fun j h => by rw [List.getD_eq_getElem?_getD, List.getElem?_eq_getElem h]; rfl) (fun j h2 => cgood_get (hcount_good h) j h2) hb, hisum_count own l hi]
/-- How many bits symbols have behind those of the lengths. -/
theorem hsize_is {l : List Int} (h : l.length ≤ 100000) (hi : hin l = true) : ((hB l).length : Int) = ((tbits (hL l)).length : Int) + costF (hcount l) (hL l) := by
  have hg := (tcheck_ok (hL_check h)).2
  obtain ⟨h1, _⟩ := cbits_size hg l (hL_word h hi)
  rw [hcost_own h hi (hL l) (hL_len l) (fun j hj => lgood_get hg j hj), ← h1]
  unfold hB hws
  rw [List.length_append]
  omega
theorem ccost_zeros : ∀ (a b : List Int) (n : Nat), ccost a (b ++ List.replicate n 0) = ccost a b
  | [], b, n => by rw [ccost_end [] _ (Or.inl rfl), ccost_end [] _ (Or.inl rfl)]
  | c :: t, [], n => by
    rw [ccost_end (c :: t) [] (Or.inr rfl), List.nil_append]
    cases n with
    | zero => rfl
    | succ n =>
      rw [List.replicate_succ]
      show cterm c 0 + ccost t (List.replicate n 0) = 0
      have := ccost_zeros t [] n
      rw [List.nil_append, ccost_end t [] (Or.inr rfl)] at this
      rw [this]
      unfold cterm
      split <;> simp
  | c :: t, l :: u, n => by
    show cterm c l + ccost t (u ++ List.replicate n 0) = cterm c l + ccost t u
    rw [ccost_zeros t u n]
theorem partF_zeros : ∀ (b : List Int) (n : Nat), partF (b ++ List.replicate n 0) = partF b
  | [], n => by
    induction n with
    | zero => rfl
    | succ n ih =>
      rw [List.nil_append] at ih ⊢
      rw [List.replicate_succ]
      show (if (0 : Int) < 0 then _ else 0) + partF (List.replicate n 0) = _
      rw [ih, if_neg (by omega)]
      simp [partF]
  | x :: t, n => by
    show (if 0 < x then _ else 0) + partF (t ++ List.replicate n 0) = (if 0 < x then _ else 0) + partF t
    rw [partF_zeros t n]
theorem partF_some : ∀ (a b : List Int), a.length = b.length → (∀ j (ha : j < a.length) (hb : j < b.length), a[j] = 0 ∨ a[j] = b[j]) → partF a ≤ partF b
  | [], [], _, _ => Nat.le_refl _
  | [], _ :: _, h, _ => by cases h
  | _ :: _, [], h, _ => by cases h
  | x :: s, y :: t, hl, h => by
    have h0 := h 0 (by simp) (by simp)
    have ih := partF_some s t (by simpa using hl) fun j ha hb => by
      have := h (j + 1) (by simpa using ha) (by simpa using hb)
      simpa using this
    simp only [List.getElem_cons_zero] at h0
    show (if 0 < x then 2 ^ (15 - x.toNat) else 0) + partF s ≤ (if 0 < y then 2 ^ (15 - y.toNat) else 0) + partF t
    rcases h0 with h0 | h0
    · rw [if_neg (by omega)]
      omega
    · rw [h0]
      omega
/-- P11.5. -/
theorem hleast {l : List Int} (h : l.length ≤ 100000) (hi : hin l = true) (other : List Int) (hc : checkF other = 0) (hs : ∀ s ∈ l, ∃ hk : s.toNat < other.length, other[s.toNat] ≠ 0) : costF (hcount l) (hL l) ≤ costF (hcount l) other := by
  obtain ⟨ho, hg, hca⟩ := check_ok hc
  rw [call_part] at hca
  obtain ⟨E, hE⟩ : ∃ E : List Int, other ++ List.replicate (257 - other.length) 0 = E := ⟨_, rfl⟩
  have hEl : E.length = 257 := by rw [← hE, List.length_append, List.length_replicate]; omega
  have hEg : ∀ j (hj : j < E.length), 0 ≤ E[j] ∧ E[j] ≤ 15 := fun j hj => by
    subst hE
    rw [List.getElem_append]
    split
    · exact lgood_get hg j _
    · rw [List.getElem_replicate]; omega
  have hEc : costF (hcount l) other = costF (hcount l) E := by
    unfold costF
    rw [List.take_of_length_le (by rw [hcount_len]; omega : (hcount l).length ≤ 257), List.take_of_length_le ho, List.take_of_length_le (by omega : E.length ≤ 257), ← hE, ccost_zeros]
  have hEp : partF E ≤ 32768 := by rw [← hE, partF_zeros]; exact hca
  have hEs : ∀ s ∈ l, 0 < E.getD s.toNat 0 := fun s hsl => by
    obtain ⟨hk, hne⟩ := hs s hsl
    have := lgood_get hg s.toNat hk
    rw [← hE, List.getD_eq_getElem?_getD, List.getElem?_append_left hk, List.getElem?_eq_getElem hk]
    show 0 < other[s.toNat]
    omega
  clear hc hs hg hca hE
  obtain ⟨own, hown⟩ : ∃ own : List Int, (List.range 257).map (fun j : Nat => if 0 < l.count (j : Int) then E.getD j 0 else 0) = own := ⟨_, rfl⟩
  have hol : own.length = 257 := by rw [← hown, List.length_map, List.length_range]
  have hog : ∀ j (hj : j < own.length), own[j] = if 0 < l.count (j : Int) then E.getD j 0 else 0 := fun j hj => by
    have e : own[j]? = some (if 0 < l.count (j : Int) then E.getD j 0 else 0) := by
      rw [← hown, List.getElem?_map, List.getElem?_range (by omega)]
      rfl
    rw [List.getElem?_eq_getElem hj] at e
    injection e
  have hEd : ∀ j (hj : j < E.length), E.getD j 0 = E[j] := fun j hj => by rw [List.getD_eq_getElem?_getD, List.getElem?_eq_getElem hj]; rfl
  have hor : ∀ j (hj : j < own.length), 0 ≤ own[j] ∧ own[j] ≤ 15 := fun j hj => by
    rw [hog j hj]
    split
    · rw [hEd j (by omega)]; exact hEg j _
    · omega
  have hsum : csize own l = csize E l := by
    have : ∀ t : List Int, (∀ s ∈ t, s ∈ l) → csize own t = csize E t := by
      intro t
      induction t with
      | nil => intro _; rfl
      | cons s t ih =>
        intro ht
        have hsl := ht s (List.mem_cons_self ..)
        have hr := hin_get hi s hsl
        show own.getD s.toNat 0 + csize own t = E.getD s.toNat 0 + csize E t
        rw [ih fun u hu => ht u (List.mem_cons_of_mem _ hu)]
        have hk : s.toNat < own.length := by omega
        rw [List.getD_eq_getElem?_getD, List.getElem?_eq_getElem hk, Option.getD_some, hog _ hk, if_pos]
        rw [show ((s.toNat : Nat) : Int) = s from by omega]
        exact List.count_pos_iff.2 hsl
    exact this l fun s hs => hs
  have hp : ∀ j (hj : j < own.length) (hc : j < (hcount l).length), 0 < own[j] ↔ 0 < (hcount l)[j] := fun j hj hcj => by
    rw [hog j hj, hcount_get]
    by_cases e : 0 < l.count (j : Int)
    · rw [if_pos e]
      have hm := List.count_pos_iff.1 e
      have := hEs _ hm
      rw [Int.toNat_natCast] at this
      constructor
      · intro _; omega
      · intro _; exact this
    · rw [if_neg e]
      omega
  have hpart : (partF own : Int) ≤ 32768 := by
    have := partF_some own E (by omega) fun j ha hb => by
      rw [hog j ha]
      split
      · exact Or.inr (hEd j hb)
      · exact Or.inl rfl
    omega
  have := lbestL_least (counts := hcount l) (L := 15) ⟨by omega, by omega⟩ (hcount_good h) (hleaves l) (by rw [hcount_len]; omega) own (by rw [hcount_len]; exact hol) hor hp hpart
  rw [hEc, hcost_own h hi E hEl hEg, ← hsum, ← hcost_own h hi own hol hor]
  exact this
end Go.Proofs.Ytpocpckhcciecaa
