/-
  What the law of the last of these texts stands on, part 14.
-/
import Derived.Test.YtpocpckhcciecaaRows
import Derived.Test.YtpocpckhcciecaaMg01
import Derived.Test.YtpocpckhcciecaaMg02
import Derived.Test.YtpocpckhcciecaaMg03
import Derived.Test.YtpocpckhcciecaaMg04
import Derived.Test.YtpocpckhcciecaaMg05
import Derived.Test.YtpocpckhcciecaaMg10
import Derived.Test.YtpocpckhcciecaaMg11
import Derived.Test.YtpocpckhcciecaaMg12
import Derived.Test.YtpocpckhcciecaaMg13
import Derived.WalkKit
import Derived.WalkSpells
import Derived.WalkLawsBesides
import Derived.ProofKit
import Derived.OpenShut
import Derived.Handy
import Derived.SizedLaws
import Derived.JoinedOf
import Derived.KernelRfl
import Derived.Lib.Hide
import Derived.Lib.SmallJoins
import Derived.Deep.Slices
import Derived.Deep.Fields
import Derived.Deep.SlicePairs
import Derived.Deep.Draws
import Derived.Deep.AppendLies
import Derived.Deep.QuietTactic
import Derived.BigQuiet
import Derived.Deep.RegionHeld3
import Derived.StillTailTactics
import Derived.Laws.OwnMore
import Derived.Laws.Rows
import Derived.Below
import Derived.Carry
import Derived.Lib.BitFns
import Derived.Deep.OwnRows
import Derived.WalkMore
import Derived.Laws.BytesString
import Derived.Laws.BitsLemmas
import Derived.Laws.Concat
import Derived.OwnWalk
import Derived.Deep.Upon
namespace Go.Proofs.Ytpocpckhcciecaa
set_option linter.unusedSimpArgs false
set_option linter.unusedVariables false
open Go.ChangeShapes Go.WideShapes Go.ChangeAt Go.RowKit Go.Joins Go.Deep
variable {ls : List Nat}
theorem wat_at (h15 : ∀ x ∈ ls, x ≤ 15) (j : Nat) (hj : j < ls.length) (hj2 : j < (wat ls 16 0).length) : (wat ls 16 0)[j] = if 0 < ls[j] then (((cword ls ls[j] j : Nat) : Int), ((ls[j] : Nat) : Int)) else (0, 0) := by
  have h := wat_get ls 16 0 j hj
  rw [List.getElem?_eq_getElem hj2] at h
  injection h with h
  rw [h]
  have hgd : ls.getD j 0 = ls[j] := by rw [List.getD_eq_getElem?_getD, List.getElem?_eq_getElem hj]; rfl
  have h2 := h15 _ (List.getElem_mem hj)
  unfold cat1
  rw [hgd]
  by_cases hp : 0 < ls[j]
  · rw [if_pos hp, if_pos ⟨hp, Or.inl (by omega)⟩]
  · rw [if_neg hp, if_neg (by omega)]
theorem wat_dig (h15 : ∀ x ∈ ls, x ≤ 15) (j : Nat) (hj : j < ls.length) (hj2 : j < (wat ls 16 0).length) (hp : 0 < ls[j]) : digI (wat ls 16 0)[j].1 (wat ls 16 0)[j].2 = dig ls[j] (cword ls ls[j] j) ∧ (wat ls 16 0)[j].2 ≠ 0 := by
  rw [wat_at h15 j hj hj2, if_pos hp]
  refine ⟨?_, by show ((ls[j] : Nat) : Int) ≠ 0; omega⟩
  unfold digI
  rw [Int.toNat_natCast, Int.toNat_natCast]
theorem wat_none (h15 : ∀ x ∈ ls, x ≤ 15) (j : Nat) (hj : j < ls.length) (hj2 : j < (wat ls 16 0).length) (hp : ¬ 0 < ls[j]) : (wat ls 16 0)[j].2 = 0 := by
  rw [wat_at h15 j hj hj2, if_neg hp]
theorem wat_begins (h15 : ∀ x ∈ ls, x ≤ 15) (hc : call ls ≤ 32768) {R : List Nat} (hb : Bin R) (j : Nat) (hj : j < ls.length) (hp : 0 < ls[j]) : (begF R (dig ls[j] (cword ls ls[j] j))).2 = true ↔ ls[j] ≤ R.length ∧ cpos ls ls[j] j ≤ v15 R ∧ v15 R < cpos ls ls[j] j + 2 ^ (15 - ls[j]) := by
  have h2 := h15 _ (List.getElem_mem hj)
  rw [begF_word hb _ _ h2 (cword_lt ls[j] j hj rfl ⟨hp, h2⟩ hc), cword_pos _ _ h2]
theorem cget_found (h15 : ∀ x ∈ ls, x ≤ 15) (hc : call ls ≤ 32768) {R : List Nat} (hb : Bin R) (E : Int) (k : Nat) (hk : k < ls.length) (hp : 0 < ls[k]) (hl : ls[k] ≤ R.length) (hv : cpos ls ls[k] k ≤ v15 R ∧ v15 R < cpos ls ls[k] k + 2 ^ (15 - ls[k])) : cget1 (wat ls 16 0) 0 R E = ((k : Int), (ls[k] : Int), 0) := by
  have hkw : k < (wat ls 16 0).length := by rw [wat_len]; exact hk
  have hd := wat_dig h15 k hk hkw hp
  rw [cget1_hit R E (wat ls 16 0) 0 k E hkw ?_ hd.2 ?_, hd.1, dig_length, Nat.zero_add]
  · intro j hj hjk
    have hj2 : j < ls.length := by rw [wat_len] at hj; exact hj
    by_cases hpj : 0 < ls[j]
    · right
      rw [(wat_dig h15 j hj2 hj hpj).1]
      cases hbb : (begF R (dig ls[j] (cword ls ls[j] j))).2 with
      | false => rfl
      | true =>
        have := (wat_begins h15 hc hb j hj2 hpj).1 hbb
        have := cpos_only (v15 R) j k hj2 hk hpj hp this.2 hv
        omega
    · exact Or.inl (wat_none h15 j hj2 hj hpj)
  · rw [hd.1]
    exact (wat_begins h15 hc hb k hk hp).2 ⟨hl, hv⟩
theorem cget_cut (h15 : ∀ x ∈ ls, x ≤ 15) (hc : call ls ≤ 32768) {R : List Nat} (hb : Bin R) (E : Int) (k : Nat) (hk : k < ls.length) (hp : 0 < ls[k]) (hl : R.length < ls[k]) (hv : cpos ls ls[k] k ≤ v15 R ∧ v15 R < cpos ls ls[k] k + 2 ^ (15 - ls[k])) : cget1 (wat ls 16 0) 0 R E = (0, 0, 4) := by
  have hkw : k < (wat ls 16 0).length := by rw [wat_len]; exact hk
  have hd := wat_dig h15 k hk hkw hp
  have h2 := h15 _ (List.getElem_mem hk)
  refine cget1_short R (wat ls 16 0) 0 E ?_ (Or.inr ⟨k, hkw, hd.2, ?_⟩)
  · intro j hj
    have hj2 : j < ls.length := by rw [wat_len] at hj; exact hj
    by_cases hpj : 0 < ls[j]
    · right
      rw [(wat_dig h15 j hj2 hj hpj).1]
      cases hbb : (begF R (dig ls[j] (cword ls ls[j] j))).2 with
      | false => rfl
      | true =>
        have h3 := (wat_begins h15 hc hb j hj2 hpj).1 hbb
        have h4 := cpos_only (v15 R) j k hj2 hk hpj hp h3.2 hv
        subst h4
        omega
    · exact Or.inl (wat_none h15 j hj2 hj hpj)
  · rw [hd.1]
    refine begF_part hb _ _ h2 hl ?_
    rw [cword_pos _ _ h2]
    exact hv
/-- Get at the code word of a symbol. -/
theorem cget_word (h15 : ∀ x ∈ ls, x ≤ 15) (hc : call ls ≤ 32768) {R : List Nat} (hb : Bin R) (E : Int) (k : Nat) (hk : k < ls.length) (hp : 0 < ls[k]) (T : List Nat) (hR : R = dig ls[k] (cword ls ls[k] k) ++ T) : cget1 (wat ls 16 0) 0 R E = ((k : Int), (ls[k] : Int), 0) := by
  have h : (begF R (dig ls[k] (cword ls ls[k] k))).2 = true := (begF_all _ _).2 ⟨by rw [hR, List.length_append]; omega, by rw [hR, List.take_append_of_le_length (Nat.le_refl _), List.take_of_length_le (Nat.le_refl _)]⟩
  have h1 := (wat_begins h15 hc hb k hk hp).1 h
  exact cget_found h15 hc hb E k hk hp h1.1 h1.2
/-- The bits of symbols. -/
def cbits (ws : List (Int × Int)) (sy : List Int) : List Nat := sy.flatMap fun s => (cwordF ws s).1
theorem cbits_cons (ws : List (Int × Int)) (s : Int) (t : List Int) : cbits ws (s :: t) = (cwordF ws s).1 ++ cbits ws t := rfl
/-- A symbol that has a word. -/
theorem cword_has (h15 : ∀ x ∈ ls, x ≤ 15) (s : Int) (h : (cwordF (wat ls 16 0) s).2 = 0) : ∃ k, ∃ hk : k < ls.length, s = (k : Int) ∧ 0 < ls[k] ∧ (cwordF (wat ls 16 0) s).1 = dig ls[k] (cword ls ls[k] k) := by
  unfold cwordF at h ⊢
  by_cases h0 : 0 ≤ s ∧ s < (wat ls 16 0).length ∧ ((wat ls 16 0).getD s.toNat (0, 0)).2 ≠ 0
  · obtain ⟨k, rfl⟩ := Int.eq_ofNat_of_zero_le h0.1
    have hkw : k < (wat ls 16 0).length := by omega
    have hk : k < ls.length := by rw [wat_len] at hkw; exact hkw
    rw [if_pos h0]
    rw [Int.toNat_natCast] at h0 ⊢
    have hgd : (wat ls 16 0).getD k (0, 0) = (wat ls 16 0)[k] := by rw [List.getD_eq_getElem?_getD, List.getElem?_eq_getElem hkw]; rfl
    rw [hgd] at h0 ⊢
    by_cases hp : 0 < ls[k]
    · exact ⟨k, hk, rfl, hp, (wat_dig h15 k hk hkw hp).1⟩
    · exact absurd (wat_none h15 k hk hkw hp) h0.2.2
  · rw [if_neg h0] at h
    exact absurd h (by decide)
theorem cword_is (h15 : ∀ x ∈ ls, x ≤ 15) (k : Nat) (hk : k < ls.length) (hp : 0 < ls[k]) : cwordF (wat ls 16 0) (k : Int) = (dig ls[k] (cword ls ls[k] k), 0) := by
  have hkw : k < (wat ls 16 0).length := by rw [wat_len]; exact hk
  have hd := wat_dig h15 k hk hkw hp
  rw [cword_at _ k hkw, if_pos hd.2, hd.1]
theorem cunp_back (h15 : ∀ x ∈ ls, x ≤ 15) (hc : call ls ≤ 32768) {L : List Nat} (hb : Bin L) : ∀ (sy : List Int) (p : Nat) (acc : List Int) (T : List Nat), (∀ s ∈ sy, (cwordF (wat ls 16 0) s).2 = 0) → L.drop p = cbits (wat ls 16 0) sy ++ T → cunp (wat ls 16 0) L sy.length p acc = (acc ++ sy, p + (cbits (wat ls 16 0) sy).length, 0)
  | [], p, acc, T, _, _ => by simp [cunp, cbits]
  | s :: t, p, acc, T, h, hL => by
    obtain ⟨k, hk, rfl, hp, hw⟩ := cword_has h15 s (h s (List.mem_cons_self ..))
    rw [cbits_cons, hw, List.append_assoc] at hL
    have hg : cgetF (wat ls 16 0) L p = ((k : Int), (ls[k] : Int), 0) := cget_word h15 hc (fun d hd => hb d (List.mem_of_mem_drop hd)) _ k hk hp _ hL
    have hL2 : L.drop (p + ls[k]) = cbits (wat ls 16 0) t ++ T := by
      rw [← List.drop_drop, hL, List.drop_append_of_le_length (by rw [dig_length]; exact Nat.le_refl _), List.drop_of_length_le (by rw [dig_length]; exact Nat.le_refl _), List.nil_append]
    rw [List.length_cons, cunp_step, hg, if_pos rfl]
    show cunp _ L t.length (p + ((ls[k] : Nat) : Int).toNat) (acc ++ [(k : Int)]) = _
    rw [Int.toNat_natCast, cunp_back h15 hc hb t (p + ls[k]) _ T (fun u hu => h u (List.mem_cons_of_mem _ hu)) hL2, cbits_cons, hw, List.length_append, dig_length, List.append_assoc, Nat.add_assoc]
    rfl
end Go.Proofs.Ytpocpckhcciecaa
namespace Go.Proofs.Ytpocpckhcciecaa
set_option linter.unusedSimpArgs false
set_option linter.unusedVariables false
open Go.ChangeShapes Go.WideShapes Go.ChangeAt Go.RowKit Go.Joins Go.Deep
theorem cnat15 {l : List Int} (hg : lgood l = true) : ∀ x ∈ l.map Int.toNat, x ≤ 15 := by
  intro x hx
  obtain ⟨i, hi, rfl⟩ := List.getElem_of_mem hx
  rw [List.getElem_map]
  have := lgood_get hg i (by simpa using hi)
  omega
theorem cpart_used : ∀ l : List Int, usedF l ≤ partF l
  | [] => Nat.le_refl _
  | x :: t => by
    have ih := cpart_used t
    have hu : usedF (x :: t) = (if 0 < x then 1 else 0) + usedF t := by
      unfold usedF
      by_cases h : 0 < x
      · rw [List.filter_cons, if_pos (by simpa using h), if_pos h, List.length_cons]; omega
      · rw [List.filter_cons, if_neg (by simpa using h), if_neg h]; omega
    show usedF (x :: t) ≤ (if 0 < x then 2 ^ (15 - x.toNat) else 0) + partF t
    rw [hu]
    have : 0 < (2 : Nat) ^ (15 - x.toNat) := Nat.pow_pos (by omega)
    by_cases h : 0 < x
    · rw [if_pos h, if_pos h]; omega
    · rw [if_neg h, if_neg h]; omega
/-- The lengths of symbols, together. -/
def csize (l : List Int) : List Int → Int
  | [] => 0
  | s :: t => l.getD s.toNat 0 + csize l t
theorem cbits_size {l : List Int} (hg : lgood l = true) : ∀ sy : List Int, (∀ s ∈ sy, (cwordF (wat (l.map Int.toNat) 16 0) s).2 = 0) → ((cbits (wat (l.map Int.toNat) 16 0) sy).length : Int) = csize l sy ∧ ∀ s ∈ sy, 0 ≤ s ∧ s < l.length
  | [], _ => ⟨rfl, fun s hs => by cases hs⟩
  | s :: t, h => by
    obtain ⟨k, hk, rfl, hp, hw⟩ := cword_has (cnat15 hg) s (h s (List.mem_cons_self ..))
    obtain ⟨h1, h2⟩ := cbits_size hg t fun u hu => h u (List.mem_cons_of_mem _ hu)
    have hkl : k < l.length := by simpa using hk
    have hgk := lgood_get hg k hkl
    constructor
    · rw [cbits_cons, hw, List.length_append, dig_length]
      show _ = l.getD ((k : Int)).toNat 0 + csize l t
      rw [Int.toNat_natCast, ← h1, List.getD_eq_getElem?_getD, List.getElem?_eq_getElem hkl, List.getElem_map]
      simp only [Option.getD_some]
      omega
    · intro u hu
      rcases List.mem_cons.1 hu with rfl | hu
      · omega
      · exact h2 u hu
theorem cbits_bin {ws : List (Int × Int)} (hf : ∀ f ∈ ws, fits f.1 f.2) : ∀ sy : List Int, Bin (cbits ws sy)
  | [] => bin_nil
  | s :: t => by
    rw [cbits_cons]
    exact (cword_small hf s).2.app (cbits_bin hf t)
theorem cwords_ok {l : List Int} (h : checkF l = 0) : cwordsF l = (wat (l.map Int.toNat) 16 0, 0) := by unfold cwordsF; rw [if_pos h]
end Go.Proofs.Ytpocpckhcciecaa
namespace Go.Proofs.Ytpocpckhcciecaa
set_option linter.unusedSimpArgs false
set_option linter.unusedVariables false
open Go.ChangeShapes Go.WideShapes Go.ChangeAt Go.RowKit Go.Joins Go.Deep
/-- The bits of a run of c lengths x. -/
def trb (x : Int) (c : Nat) : List Nat := digI x 4 ++ gam c
def tbP (x : Int) (c : Nat) : List Int → List Nat
  | [] => trb x c
  | y :: t => if y = x then tbP x (c + 1) t else trb x c ++ tbP y 1 t
/-- The bits of lengths. -/
def tbits : List Int → List Nat
  | [] => []
  | x :: t => tbP x 1 t
theorem tbP_run (x : Int) (t : List Int) : ∀ (d c : Nat), tbP x c (List.replicate d x ++ t) = tbP x (c + d) t
  | 0, c => rfl
  | d + 1, c => by
    rw [List.replicate_succ, List.cons_append]
    show (if x = x then tbP x (c + 1) (List.replicate d x ++ t) else _) = _
    rw [if_pos rfl, tbP_run x t d (c + 1), show c + 1 + d = c + (d + 1) from by omega]
theorem tbP_stop (x : Int) (c : Nat) : ∀ t : List Int, t.head? ≠ some x → tbP x c t = trb x c ++ tbits t
  | [], _ => by simp [tbP, tbits]
  | y :: t, h => by
    show (if y = x then tbP x (c + 1) t else trb x c ++ tbP y 1 t) = _
    rw [if_neg (fun e => h (by rw [e]; rfl))]
    rfl
/-- A run, and what stands behind it. -/
theorem tbits_run (x : Int) (d : Nat) (t : List Int) (hd : 0 < d) (h : t.head? ≠ some x) : tbits (List.replicate d x ++ t) = trb x d ++ tbits t := by
  obtain ⟨k, rfl⟩ : ∃ k, d = k + 1 := ⟨d - 1, by omega⟩
  rw [List.replicate_succ, List.cons_append]
  show tbP x 1 (List.replicate k x ++ t) = _
  rw [tbP_run, tbP_stop x (1 + k) t h, Nat.add_comm]
theorem trun_drop (l : List Int) (x : Int) (i : Nat) : ∀ d, i + d ≤ l.length → (∀ j (hj : j < l.length), i ≤ j → j < i + d → l[j] = x) → l.drop i = List.replicate d x ++ l.drop (i + d)
  | 0, _, _ => rfl
  | d + 1, hk, h => by
    have ih := trun_drop l x i d (by omega) fun j hj h1 h2 => h j hj h1 (by omega)
    rw [ih, List.drop_eq_getElem_cons (by omega : i + d < l.length), h (i + d) (by omega) (by omega) (by omega), List.replicate_succ', List.append_assoc]
    rfl
/-- The same by places. -/
theorem tbits_at (l : List Int) (x : Int) (i k : Nat) (hi : i < k) (hk : k ≤ l.length) (h : ∀ j (hj : j < l.length), i ≤ j → j < k → l[j] = x) (hs : ∀ hj : k < l.length, l[k] ≠ x) : tbits (l.drop i) = trb x (k - i) ++ tbits (l.drop k) := by
  obtain ⟨d, rfl⟩ : ∃ d, k = i + d := ⟨k - i, by omega⟩
  rw [trun_drop l x i d hk h, tbits_run x d _ (by omega), Nat.add_sub_cancel_left]
  intro e
  rcases Nat.lt_or_ge (i + d) l.length with e2 | e2
  · rw [List.drop_eq_getElem_cons e2, List.head?_cons] at e
    injection e with e
    exact hs e2 e
  · rw [List.drop_of_length_le e2] at e
    cases e
/-- Each run ends. -/
theorem trun_end (l : List Int) : ∀ (f i : Nat) (hi : i < l.length), l.length - i ≤ f → ∃ k, i < k ∧ k ≤ l.length ∧ (∀ j (hj : j < l.length), i ≤ j → j < k → l[j] = l[i]) ∧ ∀ hj : k < l.length, l[k] ≠ l[i]
  | 0, i, hi, hf => by omega
  | f + 1, i, hi, hf => by
    by_cases h : ∃ h2 : i + 1 < l.length, l[i + 1] = l[i]
    · obtain ⟨h2, e⟩ := h
      obtain ⟨k, h3, h4, h5, h6⟩ := trun_end l f (i + 1) h2 (by omega)
      refine ⟨k, by omega, h4, fun j hj a b => ?_, fun hj => by rw [← e]; exact h6 hj⟩
      by_cases ej : j = i
      · subst ej; rfl
      · rw [h5 j hj (by omega) b, e]
    · refine ⟨i + 1, by omega, by omega, fun j hj a b => ?_, fun hj e => h ⟨hj, e⟩⟩
      have : j = i := by omega
      subst this
      rfl
theorem gam_len (n : Nat) (h0 : n ≠ 0) (h : n < 4294967296) : (gam n).length ≤ 63 := by
  have h1 := (ungam_gam n [] h0 h).2
  have h2 := bl_le h0 h
  omega
theorem trb_bin (x : Int) (c : Nat) : Bin (trb x c) := (dig_bin _ _).app (gam_bin c)
theorem trb_len (x : Int) (c : Nat) (h0 : c ≠ 0) (h : c < 4294967296) : (trb x c).length ≤ 67 := by
  unfold trb digI
  rw [List.length_append, dig_length]
  have := gam_len c h0 h
  show 4 + _ ≤ 67
  omega
theorem tbP_bin : ∀ (t : List Int) (x : Int) (c : Nat), Bin (tbP x c t)
  | [], x, c => trb_bin x c
  | y :: t, x, c => by
    show Bin (if y = x then tbP x (c + 1) t else trb x c ++ tbP y 1 t)
    by_cases e : y = x
    · rw [if_pos e]; exact tbP_bin t x (c + 1)
    · rw [if_neg e]; exact (trb_bin x c).app (tbP_bin t y 1)
theorem tbits_bin : ∀ l, Bin (tbits l)
  | [] => bin_nil
  | x :: t => tbP_bin t x 1
theorem tbP_len : ∀ (t : List Int) (x : Int) (c : Nat), 0 < c → c + t.length < 4294967296 → (tbP x c t).length ≤ 67 * (1 + t.length)
  | [], x, c, h0, h => by
    have := trb_len x c (by omega) (by simpa using h)
    show (trb x c).length ≤ 67 * (1 + 0)
    omega
  | y :: t, x, c, h0, h => by
    rw [List.length_cons] at h
    show (if y = x then tbP x (c + 1) t else trb x c ++ tbP y 1 t).length ≤ 67 * (1 + (t.length + 1))
    by_cases e : y = x
    · rw [if_pos e]
      have := tbP_len t x (c + 1) (by omega) (by omega)
      omega
    · rw [if_neg e, List.length_append]
      have h1 := trb_len x c (by omega) (by omega)
      have h2 := tbP_len t y 1 (by omega) (by omega)
      omega
theorem tbits_len (l : List Int) (h : l.length < 4294967290) : (tbits l).length ≤ 67 * l.length := by
  cases l with
  | nil => exact Nat.zero_le _
  | cons x t =>
    rw [List.length_cons] at h ⊢
    have := tbP_len t x 1 (by omega) (by omega)
    rw [Nat.add_comm t.length 1]
    exact this
/-- What runs are, from a place on: the lengths, the place behind them, the error. -/
def tget1 (L : List Nat) (n : Nat) : Nat → Nat → Int → List Int → List Int × Nat × Int
  | 0, to, _, out => (out, to, 0)
  | f + 1, to, last, out =>
    if n ≤ out.length then (out, to, 0)
    else if (bgetF L to 4).2 ≠ 0 then ([], to, (bgetF L to 4).2)
    else if (ungam (L.drop (to + 4))).2.2 ≠ 0 then ([], to, (ungam (L.drop (to + 4))).2.2)
    else if (bgetF L to 4).1 = last then ([], to, 5)
    else if (n : Int) - out.length < (ungam (L.drop (to + 4))).1 then ([], to, 40)
    else tget1 L n f (to + 4 + (ungam (L.drop (to + 4))).2.1) (bgetF L to 4).1 (out ++ List.replicate (ungam (L.drop (to + 4))).1.toNat (bgetF L to 4).1)
/-- What Get answers. -/
def tgetF (L : List Nat) (p : Nat) (n : Int) : List Int × Nat × Int :=
  if n < 0 ∨ 257 < n then ([], p, 2)
  else if (tget1 L n.toNat (n.toNat + 1) p (-1) []).2.2 ≠ 0 then ([], p, (tget1 L n.toNat (n.toNat + 1) p (-1) []).2.2)
  else if checkF (tget1 L n.toNat (n.toNat + 1) p (-1) []).1 ≠ 0 then ([], p, checkF (tget1 L n.toNat (n.toNat + 1) p (-1) []).1)
  else ((tget1 L n.toNat (n.toNat + 1) p (-1) []).1, (tget1 L n.toNat (n.toNat + 1) p (-1) []).2.1, 0)
theorem tget1_step (L : List Nat) (n f to : Nat) (last : Int) (out : List Int) : tget1 L n (f + 1) to last out =
    if n ≤ out.length then (out, to, 0)
    else if (bgetF L to 4).2 ≠ 0 then ([], to, (bgetF L to 4).2)
    else if (ungam (L.drop (to + 4))).2.2 ≠ 0 then ([], to, (ungam (L.drop (to + 4))).2.2)
    else if (bgetF L to 4).1 = last then ([], to, 5)
    else if (n : Int) - out.length < (ungam (L.drop (to + 4))).1 then ([], to, 40)
    else tget1 L n f (to + 4 + (ungam (L.drop (to + 4))).2.1) (bgetF L to 4).1 (out ++ List.replicate (ungam (L.drop (to + 4))).1.toNat (bgetF L to 4).1) := rfl
theorem lz_take : ∀ R : List Nat, R.take (lz R) = List.replicate (lz R) 0
  | [] => rfl
  | d :: t => by
    have ih := lz_take t
    by_cases h : d = 0
    · subst h
      show (0 :: t).take (lz t + 1) = List.replicate (lz t + 1) 0
      rw [List.take_succ_cons, List.replicate_succ, ih]
    · have e : lz (d :: t) = 0 := by show (if d = 0 then lz t + 1 else 0) = 0; rw [if_neg h]
      rw [e]
      rfl
theorem lz_next : ∀ (R : List Nat) (z : Nat), lz R = z → ∀ h : z < R.length, R[z] ≠ 0
  | [], z, _, h => absurd h (by simp)
  | d :: t, z, e, h => by
    by_cases hd : d = 0
    · subst hd
      have e2 : lz t + 1 = z := e
      subst e2
      have := lz_next t (lz t) rfl (by simpa using h)
      simpa using this
    · have e2 : lz (d :: t) = 0 := by show (if d = 0 then lz t + 1 else 0) = 0; rw [if_neg hd]
      rw [e2] at e
      subst e
      simpa using hd
/-- What gamma bits were taken are those of the number. -/
theorem ungam_take {R : List Nat} (hb : Bin R) (n : Int) (k : Nat) (h : ungam R = (n, k, 0)) : k ≤ R.length ∧ 1 ≤ n ∧ n < 4294967296 ∧ R.take k = gam n.toNat ∧ (gam n.toNat).length = k := by
  unfold ungam at h
  by_cases a1 : lz R = R.length
  · rw [if_pos a1] at h; simp at h
  rw [if_neg a1] at h
  by_cases a2 : 32 ≤ lz R
  · rw [if_pos a2] at h; simp at h
  rw [if_neg a2] at h
  by_cases a3 : R.length < 2 * lz R + 1
  · rw [if_pos a3] at h; simp at h
  rw [if_neg a3] at h
  simp only [Prod.mk.injEq, and_true] at h
  obtain ⟨hn, hk⟩ := h
  obtain ⟨z, hz⟩ : ∃ z, lz R = z := ⟨_, rfl⟩
  have hzt := lz_take R
  rw [hz] at hn hk a1 a2 a3 hzt
  have hlz := lz_le R
  rw [hz] at hlz
  have hone : R[z]'(by omega) = 1 := by
    have h1 := lz_next R z hz (by omega)
    have h2 := hb _ (List.getElem_mem (by omega : z < R.length))
    omega
  have h1 : (R.drop z).take (z + 1) = 1 :: (R.drop (z + 1)).take z := by
    rw [List.drop_eq_getElem_cons (by omega), List.take_succ_cons, hone]
  have hb2 : Bin ((R.drop (z + 1)).take z) := fun d hd => hb d (List.mem_of_mem_drop (List.mem_of_mem_take hd))
  have hl2 : ((R.drop (z + 1)).take z).length = z := by rw [List.length_take, List.length_drop]; omega
  have hv : num ((R.drop z).take (z + 1)) = 2 ^ z + num ((R.drop (z + 1)).take z) := by
    rw [h1]
    have := num_append [1] ((R.drop (z + 1)).take z)
    rw [hl2] at this
    rw [List.singleton_append] at this
    rw [this]
    show 1 * 2 ^ z + _ = _
    rw [Nat.one_mul]
  have hlt := num_lt hb2
  rw [hl2] at hlt
  obtain ⟨N, hN⟩ : ∃ N, num ((R.drop z).take (z + 1)) = N := ⟨_, rfl⟩
  rw [hN] at hn hv
  subst hn
  have hp : 0 < (2 : Nat) ^ z := Nat.pow_pos (by omega)
  have hz32 : (2 : Nat) ^ (z + 1) ≤ 2 ^ 32 := Nat.pow_le_pow_right (by omega) (by omega)
  have hps : (2 : Nat) ^ (z + 1) = 2 ^ z * 2 := Nat.pow_succ ..
  have h32 : (2 : Nat) ^ 32 = 4294967296 := by decide
  have hg := gam_is (n := N) (k := z) (by omega) (by omega) (by omega)
  rw [Int.toNat_natCast, hg]
  refine ⟨by omega, by omega, by omega, ?_, by rw [List.length_append, List.length_replicate, dig_length]; omega⟩
  have hd := dig_num_of (z + 1) ((R.drop z).take (z + 1)) (by rw [List.length_take, List.length_drop]; omega) fun d hd => hb d (List.mem_of_mem_drop (List.mem_of_mem_take hd))
  rw [hN] at hd
  rw [← hk, show 2 * z + 1 = z + (z + 1) from by omega, List.take_add, hzt, hd]
end Go.Proofs.Ytpocpckhcciecaa
namespace Go.Proofs.Ytpocpckhcciecaa
set_option linter.unusedSimpArgs false
set_option linter.unusedVariables false
open Go.ChangeShapes Go.WideShapes Go.ChangeAt Go.RowKit Go.Joins Go.Deep
def tsizeF (l : List Int) : Nat := if checkF l = 0 then (tbits l).length else 0
theorem tcheck_ok {l : List Int} (h : checkF l = 0) : l.length ≤ 257 ∧ lgood l = true := by
  unfold checkF at h
  by_cases h1 : 257 < l.length
  · rw [if_pos h1] at h; cases h
  · rw [if_neg h1] at h
    refine ⟨by omega, ?_⟩
    cases hg : lgood l with
    | true => rfl
    | false =>
      unfold sumF at h
      rw [hg] at h
      rw [if_neg (by simp)] at h
      cases h
/-- The number of four bits. -/
theorem bget_four {L : List Nat} (to : Nat) (x : Int) (T : List Nat) (hx : 0 ≤ x ∧ x ≤ 15) (h : L.drop to = digI x 4 ++ T) : bgetF L to 4 = (x, 0) := by
  have hl := congrArg List.length h
  have hd : (digI x 4).length = 4 := by unfold digI; rw [dig_length]; rfl
  rw [List.length_drop, List.length_append, hd] at hl
  unfold bgetF
  rw [if_neg (by omega), if_neg (by omega), Int.toNat_natCast, h, show (4 : Int).toNat = 4 from rfl, List.take_append_of_le_length (by omega), List.take_of_length_le (by omega)]
  unfold digI
  rw [show (4 : Int).toNat = 4 from rfl, num_dig, Nat.mod_eq_of_lt (by show _ < 16; omega)]
  congr 1
  omega
/-- Lengths come back of their bits. -/
theorem tget_back (L : List Nat) (l : List Int) (h15 : ∀ i (h : i < l.length), 0 ≤ l[i] ∧ l[i] ≤ 15) (hl : l.length ≤ 257) (T : List Nat) : ∀ (f i to : Nat) (last : Int), i ≤ l.length → l.length - i < f → (∀ hi : i < l.length, l[i] ≠ last) → L.drop to = tbits (l.drop i) ++ T → tget1 L l.length f to last (l.take i) = (l, to + (tbits (l.drop i)).length, 0)
  | 0, i, to, last, hi, hf, _, _ => by omega
  | f + 1, i, to, last, hi, hf, hlast, hL => by
    rw [tget1_step, List.length_take, Nat.min_eq_left hi]
    by_cases hn : l.length ≤ i
    · rw [if_pos hn, List.drop_of_length_le hn, List.take_of_length_le hn]
      rfl
    · rw [if_neg hn]
      have hil : i < l.length := by omega
      obtain ⟨k, h1, h2, h3, h4⟩ := trun_end l (l.length - i) i hil (Nat.le_refl _)
      have hb := tbits_at l l[i] i k h1 h2 h3 h4
      have hx := h15 i hil
      obtain ⟨x, hxe⟩ : ∃ x, l[i] = x := ⟨_, rfl⟩
      rw [hxe] at hb hx h3 h4
      have hne := hlast hil
      rw [hxe] at hne
      obtain ⟨d, hd⟩ : ∃ d, k - i = d := ⟨_, rfl⟩
      rw [hd] at hb
      rw [hb] at hL ⊢
      unfold trb at hL ⊢
      rw [List.append_assoc, List.append_assoc] at hL
      have g1 := bget_four to x _ hx hL
      have g2 : L.drop (to + 4) = gam d ++ (tbits (l.drop k) ++ T) := by
        rw [← List.drop_drop, hL, List.drop_append_of_le_length (by unfold digI; rw [dig_length]; exact Nat.le_refl _), List.drop_of_length_le (by unfold digI; rw [dig_length]; exact Nat.le_refl _), List.nil_append]
      obtain ⟨g3, g4⟩ := ungam_gam d (tbits (l.drop k) ++ T) (by omega) (by omega)
      have g5 : l.take i ++ List.replicate d x = l.take k := by
        have := trun_drop l x i d (by omega) fun j hj a b => h3 j hj a (by omega)
        rw [show k = i + d from by omega, List.take_add, this, List.take_left' (by simp)]
      have g6 : L.drop (to + 4 + (gam d).length) = tbits (l.drop k) ++ T := by
        rw [← List.drop_drop, g2, List.drop_append_of_le_length (Nat.le_refl _), List.drop_of_length_le (Nat.le_refl _), List.nil_append]
      rw [g1, g2, g3]
      dsimp only
      rw [if_neg (by decide), if_neg (by decide), if_neg hne, if_neg (by omega), Int.toNat_natCast, g5, ← g4, tget_back L l h15 hl T f k _ x h2 (by omega) (fun hk => h4 hk) g6]
      congr 2
      rw [List.length_append, List.length_append]
      unfold digI
      rw [dig_length]
      show to + 4 + _ + _ = to + (4 + _ + _)
      omega
theorem bget_facts {L : List Nat} (hb : Bin L) (to : Nat) (x e : Int) (h : bgetF L to 4 = (x, e)) : (e = 0 ∧ to + 4 ≤ L.length ∧ 0 ≤ x ∧ x ≤ 15) ∨ (e = 4 ∧ x = 0) := by
  unfold bgetF at h
  rw [if_neg (by omega)] at h
  by_cases a : (to : Int) + 4 > L.length
  · rw [if_pos a] at h
    simp only [Prod.mk.injEq] at h
    exact Or.inr ⟨h.2.symm, h.1.symm⟩
  · rw [if_neg a] at h
    simp only [Prod.mk.injEq] at h
    left
    have h1 := num_lt (l := (L.drop ((to : Int)).toNat).take (4 : Int).toNat) fun d hd => hb d (List.mem_of_mem_drop (List.mem_of_mem_take hd))
    have h2 : (2 : Nat) ^ ((L.drop ((to : Int)).toNat).take (4 : Int).toNat).length ≤ 2 ^ 4 := Nat.pow_le_pow_right (by omega) (by rw [List.length_take]; exact Nat.min_le_left _ _)
    have h3 : (2 : Nat) ^ 4 = 16 := by decide
    obtain ⟨h4, h5⟩ := h
    refine ⟨h5.symm, by omega, by omega, by omega⟩
theorem ungam_facts {R : List Nat} (hb : Bin R) (c e : Int) (s : Nat) (h : ungam R = (c, s, e)) : (e = 0 ∧ 1 ≤ c ∧ c < 4294967296 ∧ s ≤ R.length) ∨ (e = 4 ∨ e = 40) := by
  by_cases he : e = 0
  · subst he
    obtain ⟨h1, h2, h3, _⟩ := ungam_take hb c s h
    exact Or.inl ⟨rfl, h2, h3, h1⟩
  · right
    unfold ungam at h
    split at h
    · simp only [Prod.mk.injEq] at h; omega
    · split at h
      · simp only [Prod.mk.injEq] at h; omega
      · split at h
        · simp only [Prod.mk.injEq] at h; omega
        · simp only [Prod.mk.injEq] at h; omega
end Go.Proofs.Ytpocpckhcciecaa
