/-
  Layer 12, plain: numbers of kinds; the ends of a text by so many of their first bytes, doubled; when they are apart the row is the array.
-/
import Derived.Test.YtjdpogaaookoeaaSufG
namespace Go.Proofs.Ytjdpogaaookoeaa
set_option linter.unusedSimpArgs false
set_option linter.unusedVariables false
open Go.ChangeShapes Go.WideShapes Go.ChangeAt Go.RowKit Go.Joins Go.Deep

/-! ### Numbers of kinds -/
/-- The number of each place's kind, the first i of the row numbered. -/
def knum (row : List Nat) (sm : Nat → Nat → Bool) : Nat → Nat → Nat
  | 0 => fun _ => 0
  | i + 1 => fun p => if i + 1 < row.length ∧ p = row.getD (i + 1) 0 then knum row sm i (row.getD i 0) + (if sm (row.getD i 0) (row.getD (i + 1) 0) = true then 0 else 1) else knum row sm i p
/-- .. by its place in the row. -/
def kN (row : List Nat) (sm : Nat → Nat → Bool) : Nat → Nat
  | 0 => 0
  | i + 1 => kN row sm i + (if sm (row.getD i 0) (row.getD (i + 1) 0) = true then 0 else 1)
theorem sgetN {l : List Nat} (k : Nat) (hk : k < l.length) : l.getD k 0 = l[k] := by rw [List.getD_eq_getElem?_getD, List.getElem?_eq_getElem hk]; rfl
theorem knum_at {row : List Nat} (hn : row.Nodup) (sm : Nat → Nat → Bool) : ∀ (i j : Nat) (hj : j < row.length), j ≤ i → knum row sm i row[j] = kN row sm j
  | 0, j, hj, h => by obtain rfl : j = 0 := by omega
                      rfl
  | i + 1, j, hj, h => by
    show (if i + 1 < row.length ∧ row[j] = row.getD (i + 1) 0 then knum row sm i (row.getD i 0) + (if sm (row.getD i 0) (row.getD (i + 1) 0) = true then 0 else 1) else knum row sm i row[j]) = _
    by_cases e : j = i + 1
    · subst e
      rw [if_pos ⟨hj, (sgetN _ hj).symm⟩, sgetN i (by omega), knum_at hn sm i i (by omega) (Nat.le_refl _)]
      show _ = kN row sm i + _
      rw [sgetN i (by omega)]
    · rw [if_neg ?_, knum_at hn sm i j hj (by omega)]
      rintro ⟨h1, h2⟩
      rw [sgetN _ h1] at h2
      exact e (snodup_inj hn hj h1 h2)
theorem kN_le (row : List Nat) (sm : Nat → Nat → Bool) : ∀ i, kN row sm i ≤ i
  | 0 => Nat.le_refl _
  | i + 1 => by
    have := kN_le row sm i
    show kN row sm i + _ ≤ _
    split <;> omega
theorem kN_mono (row : List Nat) (sm : Nat → Nat → Bool) (i : Nat) : ∀ d, kN row sm i ≤ kN row sm (i + d)
  | 0 => Nat.le_refl _
  | d + 1 => by
    have := kN_mono row sm i d
    show _ ≤ kN row sm (i + d) + _
    omega

/-! ### Ends by so many of their first bytes -/
def pre (s : List UInt8) (h p : Nat) : List UInt8 := (s.drop p).take h
theorem pre_len (s : List UInt8) (h p : Nat) : (pre s h p).length = min h (s.length - p) := by
  unfold pre
  rw [List.length_take, List.length_drop]
/-- Two ends with the same first bytes have so many. -/
theorem pre_room {s : List UInt8} {h p q : Nat} (hp : p ≤ s.length) (hq : q ≤ s.length) (hne : p ≠ q) (he : pre s h p = pre s h q) : p + h ≤ s.length ∧ q + h ≤ s.length := by
  have := congrArg List.length he
  rw [pre_len, pre_len] at this
  omega
theorem less_take_add : ∀ (h k : Nat) (x y : List UInt8), Op.bytesLess (x.take (h + k)) (y.take (h + k)) = true ↔ Op.bytesLess (x.take h) (y.take h) = true ∨ (x.take h = y.take h ∧ Op.bytesLess ((x.drop h).take k) ((y.drop h).take k) = true)
  | 0, k, x, y => by
    rw [Nat.zero_add, List.take_zero, List.take_zero, slt_nil]
    simp
  | h + 1, k, [], [] => by simp [slt_nil]
  | h + 1, k, [], b :: y => by
    rw [show h + 1 + k = (h + k) + 1 from by omega]
    simp [Op.bytesLess]
  | h + 1, k, a :: x, [] => by
    simp [slt_nil]
  | h + 1, k, a :: x, b :: y => by
    rw [show h + 1 + k = (h + k) + 1 from by omega]
    simp only [List.take_succ_cons, List.drop_succ_cons]
    rw [slt_iff, slt_iff, less_take_add h k x y]
    constructor
    · rintro (h1 | ⟨rfl, h1 | ⟨h2, h3⟩⟩)
      · exact Or.inl (Or.inl h1)
      · exact Or.inl (Or.inr ⟨rfl, h1⟩)
      · exact Or.inr ⟨by rw [h2], h3⟩
    · rintro ((h1 | ⟨rfl, h1⟩) | ⟨h1, h2⟩)
      · exact Or.inl h1
      · exact Or.inr ⟨rfl, Or.inl h1⟩
      · injection h1 with h3 h4
        exact Or.inr ⟨h3, Or.inr ⟨h4, h2⟩⟩
theorem pre_less (s : List UInt8) (h k p q : Nat) : Op.bytesLess (pre s (h + k) p) (pre s (h + k) q) = true ↔ Op.bytesLess (pre s h p) (pre s h q) = true ∨ (pre s h p = pre s h q ∧ Op.bytesLess (pre s k (p + h)) (pre s k (q + h)) = true) := by
  unfold pre
  rw [less_take_add, List.drop_drop, List.drop_drop]
theorem pre_add (s : List UInt8) (h k p : Nat) : pre s (h + k) p = pre s h p ++ pre s k (p + h) := by
  unfold pre
  rw [List.take_add, List.drop_drop]
theorem pre_more {s : List UInt8} {h k p q : Nat} (h1 : pre s h p = pre s h q) (h2 : pre s k (p + h) = pre s k (q + h)) : pre s (h + k) p = pre s (h + k) q := by
  rw [pre_add, pre_add, h1, h2]
theorem pre_fst {s : List UInt8} {h k p q : Nat} (h1 : pre s (h + k) p = pre s (h + k) q) : pre s h p = pre s h q := by
  have := congrArg (List.take h) h1
  unfold pre at this ⊢
  rwa [List.take_take, List.take_take, Nat.min_eq_left (by omega)] at this
theorem pre_snd {s : List UInt8} {h k p q : Nat} (h1 : pre s (h + k) p = pre s (h + k) q) : pre s k (p + h) = pre s k (q + h) := by
  have h2 := pre_fst h1
  rw [pre_add, pre_add, h2] at h1
  exact List.append_cancel_left h1
/-- What is less by its first bytes is less. -/
theorem pre_slt {s : List UInt8} {h p q : Nat} (h1 : Op.bytesLess (pre s h p) (pre s h q) = true) : slt s p q = true := by
  have := (pre_less s h s.length p q).2 (Or.inl h1)
  unfold pre at this
  rwa [List.take_of_length_le (by rw [List.length_drop]; omega), List.take_of_length_le (by rw [List.length_drop]; omega)] at this
theorem pre_eq_of {s : List UInt8} {h p q : Nat} (h1 : ¬ Op.bytesLess (pre s h p) (pre s h q) = true) (h2 : ¬ Op.bytesLess (pre s h q) (pre s h p) = true) : pre s h p = pre s h q := by
  by_cases e : pre s h p = pre s h q
  · exact e
  · rcases slt_total _ _ e with h | h
    · exact absurd h h1
    · exact absurd h h2

/-- The ends of a text by their first h bytes: a row of all, and the number of each one's kind. -/
structure SE (s : List UInt8) (h : Nat) (row : List Nat) (kd : Nat → Nat) : Prop where
  len : row.length = s.length + 1
  nodup : row.Nodup
  mem : ∀ p, p ∈ row ↔ p ≤ s.length
  lt : ∀ p q, p ≤ s.length → q ≤ s.length → (kd p < kd q ↔ Op.bytesLess (pre s h p) (pre s h q) = true)
  up : ∀ i j (hj : j < row.length) (hij : i < j), kd row[i] ≤ kd row[j]
  first : ∀ (h : 0 < row.length), kd row[0] = 0
  step : ∀ i (hi : i + 1 < row.length), kd row[i + 1] ≤ kd row[i] + 1
theorem SE.eq {s : List UInt8} {h : Nat} {row : List Nat} {kd : Nat → Nat} (S : SE s h row kd) (p q : Nat) (hp : p ≤ s.length) (hq : q ≤ s.length) : kd p = kd q ↔ pre s h p = pre s h q := by
  constructor
  · intro e
    refine pre_eq_of (fun h1 => ?_) (fun h1 => ?_)
    · have := (S.lt p q hp hq).2 h1
      omega
    · have := (S.lt q p hq hp).2 h1
      omega
  · intro e
    have h1 : ¬ kd p < kd q := fun h1 => by
      have := (S.lt p q hp hq).1 h1
      rw [e, slt_irrefl] at this
      cases this
    have h2 : ¬ kd q < kd p := fun h1 => by
      have := (S.lt q p hq hp).1 h1
      rw [e, slt_irrefl] at this
      cases this
    omega
theorem SE.le {s : List UInt8} {h : Nat} {row : List Nat} {kd : Nat → Nat} (S : SE s h row kd) (i : Nat) (hi : i < row.length) : kd row[i] ≤ i := by
  induction i with
  | zero => exact Nat.le_of_eq (S.first hi)
  | succ i ih =>
    have := ih (by omega)
    have := S.step i hi
    omega
theorem SE.bound {s : List UInt8} {h : Nat} {row : List Nat} {kd : Nat → Nat} (S : SE s h row kd) (p : Nat) (hp : p ≤ s.length) : kd p ≤ s.length := by
  obtain ⟨i, hi, rfl⟩ := List.getElem_of_mem ((S.mem p).2 hp)
  have := S.le i hi
  have := S.len
  omega
/-- Ends of one kind have so many bytes. -/
theorem SE.room {s : List UInt8} {h : Nat} {row : List Nat} {kd : Nat → Nat} (S : SE s h row kd) (p q : Nat) (hp : p ≤ s.length) (hq : q ≤ s.length) (hne : p ≠ q) (he : kd p = kd q) : p + h ≤ s.length ∧ q + h ≤ s.length :=
  pre_room hp hq hne ((S.eq p q hp hq).1 he)
/-- Apart: each end has a kind of its own, and the row is the array. -/
theorem SE.apart {s : List UInt8} {h : Nat} {row : List Nat} {kd : Nat → Nat} (S : SE s h row kd) (ha : kd (row.getD s.length 0) = s.length) : row = sarr s := by
  have hl := S.len
  rw [sgetN _ (by omega)] at ha
  have hge : ∀ d (hd : d ≤ s.length), s.length - d ≤ kd (row[s.length - d]'(by omega)) := by
    intro d
    induction d with
    | zero => intro _; exact Nat.le_of_eq ha.symm
    | succ d ih =>
      intro hd
      have h1 := ih (by omega)
      have h2 := S.step (s.length - (d + 1)) (by omega)
      simp only [show s.length - (d + 1) + 1 = s.length - d from by omega] at h2
      omega
  have hk : ∀ i (hi : i < row.length), kd row[i] = i := fun i hi => by
    have h1 := hge (s.length - i) (by omega)
    simp only [show s.length - (s.length - i) = i from by omega] at h1
    have h2 := S.le i hi
    omega
  refine slay_unique (slt_ord s) row (ssort_of fun i j hi hj hij => ?_) fun p => by rw [S.mem]; omega
  have hi' := (S.mem _).1 (List.getElem_mem hi)
  have hj' := (S.mem _).1 (List.getElem_mem hj)
  exact pre_slt ((S.lt _ _ hi' hj').1 (by rw [hk i hi, hk j hj]; exact hij))
/-- Not apart: two ends have the same first bytes, so there are more bytes. -/
theorem SE.more {s : List UInt8} {h : Nat} {row : List Nat} {kd : Nat → Nat} (S : SE s h row kd) (ha : kd (row.getD s.length 0) ≠ s.length) : h < s.length := by
  have hl := S.len
  rw [sgetN _ (by omega)] at ha
  by_cases hex : ∃ i, ∃ hi : i + 1 < row.length, kd row[i] = kd row[i + 1]
  · obtain ⟨i, hi, he⟩ := hex
    have h1 := (S.mem _).1 (List.getElem_mem (show i < row.length by omega))
    have h2 := (S.mem _).1 (List.getElem_mem hi)
    have hne : row[i] ≠ row[i + 1] := fun e => by
      have := snodup_inj S.nodup (by omega) hi e
      omega
    have := S.room _ _ h1 h2 hne he
    omega
  · exfalso
    apply ha
    have hk : ∀ i (hi : i < row.length), kd row[i] = i := by
      intro i
      induction i with
      | zero => intro hi; exact S.first hi
      | succ i ih =>
        intro hi
        have h1 := ih (by omega)
        have h2 := S.step i hi
        have h3 := S.up i (i + 1) hi (by omega)
        have h4 : kd row[i] ≠ kd row[i + 1] := fun e => hex ⟨i, hi, e⟩
        omega
    exact hk _ _
/-- A row in the order of the first bytes, numbered. -/
theorem se_of {s : List UInt8} {h : Nat} {row : List Nat} {sm : Nat → Nat → Bool} (hl : row.length = s.length + 1) (hn : row.Nodup) (hm : ∀ p, p ∈ row ↔ p ≤ s.length)
    (hs : row.Pairwise fun p q => Op.bytesLess (pre s h q) (pre s h p) = false)
    (hsm : ∀ i (hi : i + 1 < row.length), sm row[i] row[i + 1] = true ↔ pre s h row[i] = pre s h row[i + 1]) : SE s h row (knum row sm s.length) := by
  have hk : ∀ j (hj : j < row.length), knum row sm s.length row[j] = kN row sm j := fun j hj => knum_at hn sm _ j hj (by omega)
  have hsrt : ∀ i j (hi : i < row.length) (hj : j < row.length), i < j → Op.bytesLess (pre s h row[j]) (pre s h row[i]) = false := fun i j hi hj hij => List.pairwise_iff_getElem.1 hs i j hi hj hij
  have e1 : ∀ i d (hi : i + d < row.length), kN row sm i = kN row sm (i + d) → pre s h row[i] = pre s h row[i + d] := by
    intro i d
    induction d with
    | zero => intro _ _; rfl
    | succ d ih =>
      intro hi he
      have h1 := kN_mono row sm i d
      have h2 : kN row sm (i + (d + 1)) = kN row sm (i + d) + (if sm (row.getD (i + d) 0) (row.getD (i + d + 1) 0) = true then 0 else 1) := rfl
      rw [sgetN _ (show i + d < row.length by omega), sgetN _ (show i + d + 1 < row.length by omega)] at h2
      have h3 : sm row[i + d] row[i + d + 1] = true := by
        by_cases h3 : sm row[i + d] row[i + d + 1] = true
        · exact h3
        · rw [if_neg h3] at h2
          omega
      rw [if_pos h3] at h2
      rw [ih (by omega) (by omega)]
      exact (hsm (i + d) (by omega)).1 h3
  have e2 : ∀ i d (hi : i + d < row.length), pre s h row[i] = pre s h row[i + d] → kN row sm i = kN row sm (i + d) := by
    intro i d
    induction d with
    | zero => intro _ _; rfl
    | succ d ih =>
      intro hi he
      have hd : d = 0 ∨ 0 < d := by omega
      have h1 : pre s h row[i] = pre s h row[i + d] := by
        rcases hd with rfl | hd
        · rfl
        · have h1 := hsrt i (i + d) (by omega) (by omega) (by omega)
          have h2 := hsrt (i + d) (i + (d + 1)) (by omega) hi (by omega)
          rw [← he] at h2
          exact pre_eq_of (by rw [h2]; decide) (by rw [h1]; decide)
      have h2 : kN row sm (i + (d + 1)) = kN row sm (i + d) + (if sm (row.getD (i + d) 0) (row.getD (i + d + 1) 0) = true then 0 else 1) := rfl
      rw [sgetN _ (show i + d < row.length by omega), sgetN _ (show i + d + 1 < row.length by omega), if_pos ((hsm (i + d) (by omega)).2 (h1.symm.trans he))] at h2
      rw [h2, ih (by omega) h1]
      rfl
  refine ⟨hl, hn, hm, fun p q hp hq => ?_, fun i j hj hij => ?_, fun h0 => ?_, fun i hi => ?_⟩
  · obtain ⟨i, hi, rfl⟩ := List.getElem_of_mem ((hm p).2 hp)
    obtain ⟨j, hj, rfl⟩ := List.getElem_of_mem ((hm q).2 hq)
    rw [hk i hi, hk j hj]
    rcases Nat.lt_trichotomy i j with hij | hij | hij
    · obtain ⟨d, rfl⟩ : ∃ d, j = i + (d + 1) := ⟨j - i - 1, by omega⟩
      have hmn := kN_mono row sm i (d + 1)
      constructor
      · intro h1
        by_cases h2 : Op.bytesLess (pre s h row[i]) (pre s h row[i + (d + 1)]) = true
        · exact h2
        · have h3 := hsrt i (i + (d + 1)) hi hj (by omega)
          have := e2 i (d + 1) hj (pre_eq_of h2 (by rw [h3]; decide))
          omega
      · intro h1
        by_cases h2 : kN row sm i = kN row sm (i + (d + 1))
        · rw [e1 i (d + 1) hj h2, slt_irrefl] at h1
          cases h1
        · omega
    · subst hij
      rw [slt_irrefl]
      simp
    · obtain ⟨d, rfl⟩ := Nat.exists_eq_add_of_lt hij
      have hmn := kN_mono row sm j (d + 1)
      have h3 := hsrt j (j + d + 1) hj hi (by omega)
      rw [h3]
      simp only [Bool.false_eq_true, iff_false]
      rw [show j + d + 1 = j + (d + 1) from by omega]
      omega
  · rw [hk i (by omega), hk j hj]
    obtain ⟨d, rfl⟩ := Nat.exists_eq_add_of_lt hij
    exact kN_mono row sm i (d + 1)
  · rw [hk 0 h0]
    rfl
  · rw [hk _ hi, hk i (by omega)]
    show kN row sm i + _ ≤ _
    split <;> omega
/-- So many places, each below a bound once. -/
theorem slen_of {l : List Nat} {n : Nat} (hn : l.Nodup) (hm : ∀ p, p ∈ l ↔ p < n) : l.length = n := by
  have : l.Perm (List.range n) := by
    rw [List.perm_iff_count]
    intro p
    rw [hn.count, List.nodup_range.count]
    by_cases h : p < n
    · rw [if_pos ((hm p).2 h), if_pos (List.mem_range.2 h)]
    · rw [if_neg fun h2 => h ((hm p).1 h2), if_neg fun h2 => h (List.mem_range.1 h2)]
  have h2 := this.length_eq
  rwa [List.length_range] at h2

/-! ### By the first byte -/
def sfkey (s : List UInt8) (p : Nat) : Nat := (s.getD p 0).toNat
def frow (s : List UInt8) (M : Nat) : List Nat := s.length :: bks (sfkey s) (List.range s.length) M
def fsame (s : List UInt8) (a b : Nat) : Bool := decide (a < s.length) && (s.getD a 0 == s.getD b 0)
theorem pre_one {s : List UInt8} {p : Nat} (h : p < s.length) : pre s 1 p = [s[p]] := by
  unfold pre
  rw [List.drop_eq_getElem_cons h]
  rfl
theorem pre_end (s : List UInt8) (h : Nat) : pre s h s.length = [] := by
  unfold pre
  rw [List.drop_length]
  simp
theorem fkey_at {s : List UInt8} {p : Nat} (h : p < s.length) : sfkey s p = s[p].toNat := by
  unfold sfkey
  rw [List.getD_eq_getElem?_getD, List.getElem?_eq_getElem h]
  rfl
theorem se_first (s : List UInt8) (M : Nat) (hM : ∀ p ∈ List.range s.length, sfkey s p < M) : SE s 1 (frow s M) (knum (frow s M) (fsame s) s.length) := by
  have hmem : ∀ p, p ∈ bks (sfkey s) (List.range s.length) M ↔ p < s.length := fun p => by
    rw [bks_mem, List.mem_range]
    exact ⟨fun h => h.1, fun h => ⟨h, hM p (List.mem_range.2 h)⟩⟩
  have hp : (bks (sfkey s) (List.range s.length) M).Pairwise fun p q => sfkey s p < sfkey s q ∨ (sfkey s p = sfkey s q ∧ p < q) := bks_pair List.pairwise_lt_range M
  have hnd : (bks (sfkey s) (List.range s.length) M).Nodup := List.Pairwise.imp (fun {a b} h => by
    rintro rfl
    omega) hp
  have hm : ∀ p, p ∈ frow s M ↔ p ≤ s.length := fun p => by
    unfold frow
    rw [List.mem_cons, hmem]
    omega
  have hn : (frow s M).Nodup := List.nodup_cons.2 ⟨fun h => by have := (hmem _).1 h; omega, hnd⟩
  have hs : (frow s M).Pairwise fun p q => Op.bytesLess (pre s 1 q) (pre s 1 p) = false := by
    refine List.pairwise_cons.2 ⟨fun q hq => by rw [pre_end, slt_nil], ?_⟩
    refine List.Pairwise.imp_of_mem (fun {a b} ha hb hab => ?_) hp
    have ha' := (hmem a).1 ha
    have hb' := (hmem b).1 hb
    rw [fkey_at ha', fkey_at hb'] at hab
    rw [pre_one ha', pre_one hb']
    cases h : Op.bytesLess [s[b]] [s[a]] with
    | false => rfl
    | true =>
      rw [slt_iff, slt_nil] at h
      simp at h
      omega
  refine se_of (slen_of hn fun p => by rw [hm]; omega) hn hm hs fun i hi => ?_
  have h1 := (hm _).1 (List.getElem_mem (show i < (frow s M).length by omega))
  have h2 : (frow s M)[i + 1] < s.length := by
    have := (hm _).1 (List.getElem_mem hi)
    have hne : (frow s M)[i + 1] ≠ s.length := fun e => by
      have h0 : (frow s M)[0]'(by omega) = s.length := rfl
      have := snodup_inj hn hi (show 0 < (frow s M).length by omega) (e.trans h0.symm)
      omega
    omega
  generalize (frow s M)[i] = a at *
  generalize (frow s M)[i + 1] = b at *
  unfold fsame
  rw [Bool.and_eq_true, decide_eq_true_iff, beq_iff_eq]
  rw [pre_one h2]
  by_cases e : a < s.length
  · rw [pre_one e, List.getD_eq_getElem?_getD, List.getElem?_eq_getElem e, List.getD_eq_getElem?_getD, List.getElem?_eq_getElem h2]
    simp [e]
  · obtain rfl : a = s.length := by omega
    rw [pre_end]
    simp

/-! ### Twice as many -/
/-- The ends ahead of their sorting: those that are too short, then as what stands behind the first bytes is in order. -/
def nshort (n h : Nat) : List Nat := List.range' (n + 1 - h) h
def nbehind (row : List Nat) (h : Nat) : List Nat := (row.filter fun p => decide (h ≤ p)).map fun p => p - h
def nrow0 (row : List Nat) (n h : Nat) : List Nat := nshort n h ++ nbehind row h
def nsame (kd : Nat → Nat) (h a b : Nat) : Bool := (kd a == kd b) && (kd (a + h) == kd (b + h))
theorem nshort_mem (n h p : Nat) (hh : h ≤ n) : p ∈ nshort n h ↔ n < p + h ∧ p ≤ n := by
  unfold nshort
  rw [List.mem_range'_1]
  omega
theorem nbehind_mem (row : List Nat) (h p : Nat) : p ∈ nbehind row h ↔ p + h ∈ row := by
  unfold nbehind
  rw [List.mem_map]
  constructor
  · rintro ⟨q, hq, rfl⟩
    rw [List.mem_filter, decide_eq_true_iff] at hq
    rw [Nat.sub_add_cancel hq.2]
    exact hq.1
  · intro hp
    exact ⟨p + h, List.mem_filter.2 ⟨hp, by simp⟩, by omega⟩
theorem se_next {s : List UInt8} {h : Nat} {row : List Nat} {kd : Nat → Nat} (S : SE s h row kd) (hh : h ≤ s.length) (h1 : 1 ≤ h) (M : Nat) (hM : ∀ p ∈ nrow0 row s.length h, kd p < M) :
    SE s (h + h) (bks kd (nrow0 row s.length h) M) (knum (bks kd (nrow0 row s.length h) M) (nsame kd h) s.length) := by
  have hm0 : ∀ p, p ∈ nrow0 row s.length h ↔ p ≤ s.length := fun p => by
    unfold nrow0
    rw [List.mem_append, nshort_mem _ _ _ hh, nbehind_mem, S.mem]
    omega
  have hp0 : (nrow0 row s.length h).Pairwise fun p q => p ≠ q ∧ (p + h ≤ s.length → q + h ≤ s.length → kd (p + h) ≤ kd (q + h)) := by
    refine List.pairwise_append.2 ⟨?_, ?_, fun a ha b hb => ?_⟩
    · refine List.Pairwise.imp_of_mem (R := fun a b => a < b) (fun {a b} ha hb hab => ⟨by omega, fun h2 => ?_⟩) List.pairwise_lt_range'
      have := (nshort_mem _ _ _ hh).1 ha
      omega
    · unfold nbehind
      refine List.pairwise_map.2 ?_
      have hrow : row.Pairwise fun p q => p ≠ q ∧ kd p ≤ kd q := List.pairwise_iff_getElem.2 fun i j hi hj hij => ⟨fun e => by have := snodup_inj S.nodup hi hj e; omega, S.up i j hj hij⟩
      refine List.Pairwise.imp_of_mem (fun {a b} ha hb hab => ?_) (List.Pairwise.sublist (List.filter_sublist (p := fun p => decide (h ≤ p))) hrow)
      rw [List.mem_filter, decide_eq_true_iff] at ha hb
      refine ⟨fun e => hab.1 (by omega), fun _ _ => ?_⟩
      rw [Nat.sub_add_cancel ha.2, Nat.sub_add_cancel hb.2]
      exact hab.2
    · have h2 := (nshort_mem _ _ _ hh).1 ha
      have h3 := (S.mem _).1 ((nbehind_mem _ _ _).1 hb)
      exact ⟨fun e => by omega, fun h4 => by omega⟩
  have hm : ∀ p, p ∈ bks kd (nrow0 row s.length h) M ↔ p ≤ s.length := fun p => by
    rw [bks_mem, hm0]
    exact ⟨fun h => h.1, fun h => ⟨h, hM p ((hm0 p).2 h)⟩⟩
  have hp := bks_pair (key := kd) hp0 M
  have hn : (bks kd (nrow0 row s.length h) M).Nodup := List.Pairwise.imp (fun {a b} h => by
    rintro rfl
    rcases h with h | ⟨_, h, _⟩
    · omega
    · exact h rfl) hp
  have hs : (bks kd (nrow0 row s.length h) M).Pairwise fun p q => Op.bytesLess (pre s (h + h) q) (pre s (h + h) p) = false := by
    refine List.Pairwise.imp_of_mem (fun {a b} ha hb hab => ?_) hp
    have ha' := (hm a).1 ha
    have hb' := (hm b).1 hb
    cases h5 : Op.bytesLess (pre s (h + h) b) (pre s (h + h) a) with
    | false => rfl
    | true =>
      exfalso
      rw [pre_less, ← S.lt b a hb' ha', ← S.eq b a hb' ha'] at h5
      rcases hab with h2 | ⟨h2, h3, h4⟩
      · rcases h5 with h5 | ⟨h5, _⟩ <;> omega
      · rcases h5 with h5 | ⟨_, h5⟩
        · omega
        · have hr := S.room a b ha' hb' h3 h2
          rw [← S.lt (b + h) (a + h) hr.2 hr.1] at h5
          have := h4 hr.1 hr.2
          omega
  refine se_of (slen_of hn fun p => by rw [hm]; omega) hn hm hs fun i hi => ?_
  have ha := (hm _).1 (List.getElem_mem (show i < (bks kd (nrow0 row s.length h) M).length by omega))
  have hb := (hm _).1 (List.getElem_mem hi)
  have hne : (bks kd (nrow0 row s.length h) M)[i] ≠ (bks kd (nrow0 row s.length h) M)[i + 1] := fun e => by
    have := snodup_inj hn (by omega) hi e
    omega
  generalize (bks kd (nrow0 row s.length h) M)[i] = a at *
  generalize (bks kd (nrow0 row s.length h) M)[i + 1] = b at *
  unfold nsame
  rw [Bool.and_eq_true, beq_iff_eq, beq_iff_eq]
  constructor
  · rintro ⟨h2, h3⟩
    have hr := S.room a b ha hb hne h2
    exact pre_more ((S.eq a b ha hb).1 h2) ((S.eq _ _ hr.1 hr.2).1 h3)
  · intro h2
    have h3 := pre_fst h2
    have hr := pre_room ha hb hne h3
    exact ⟨(S.eq a b ha hb).2 h3, (S.eq _ _ hr.1 hr.2).2 (pre_snd h2)⟩

/-! ### What two ends have in common, by the kinds -/
theorem alike_ge {x y : List UInt8} {h : Nat} (hx : h ≤ x.length) (hy : h ≤ y.length) (he : x.take h = y.take h) : h ≤ alike x y := by
  by_cases hlt : alike x y < h
  · exfalso
    have h1 := alike_end x y (by omega) (by omega)
    apply h1
    have e1 : (x.take h)[alike x y]'(by rw [List.length_take]; omega) = x[alike x y] := List.getElem_take
    have e2 : (y.take h)[alike x y]'(by rw [List.length_take]; omega) = y[alike x y] := List.getElem_take
    rw [← e1, ← e2]
    simp only [he]
  · omega
theorem pre_alike {s : List UInt8} {h p q : Nat} (hp : p ≤ s.length) (hq : q ≤ s.length) (hne : p ≠ q) : pre s h p = pre s h q ↔ h ≤ alike (s.drop p) (s.drop q) := by
  constructor
  · intro he
    have hr := pre_room hp hq hne he
    exact alike_ge (by rw [List.length_drop]; omega) (by rw [List.length_drop]; omega) he
  · intro hle
    have := congrArg (List.take h) (alike_take (s.drop p) (s.drop q))
    rwa [List.take_take, List.take_take, Nat.min_eq_left hle] at this
theorem alike_drop : ∀ (n : Nat) (x y : List UInt8), n ≤ alike x y → alike (x.drop n) (y.drop n) = alike x y - n
  | 0, x, y, _ => by simp
  | n + 1, [], y, h => by rw [alike_nil_l] at h; omega
  | n + 1, a :: x, [], h => by rw [alike_nil_r] at h; omega
  | n + 1, a :: x, b :: y, h => by
    by_cases e : a = b
    · have e2 : alike (a :: x) (b :: y) = alike x y + 1 := if_pos e
      rw [e2] at h ⊢
      rw [List.drop_succ_cons, List.drop_succ_cons, alike_drop n x y (by omega)]
      omega
    · have e2 : alike (a :: x) (b :: y) = 0 := if_neg e
      rw [e2] at h
      omega
/-- One level: held against each other behind what they have in common so far. -/
theorem SE.held {s : List UInt8} {h : Nat} {row : List Nat} {kd : Nat → Nat} (S : SE s h row kd) (a b n : Nat) (ha : a ≤ s.length) (hb : b ≤ s.length) (hne : a ≠ b) (hn : n ≤ alike (s.drop a) (s.drop b)) :
    a + n ≤ s.length ∧ b + n ≤ s.length ∧ (kd (a + n) = kd (b + n) ↔ n + h ≤ alike (s.drop a) (s.drop b)) := by
  have hl := alike_le (s.drop a) (s.drop b)
  rw [List.length_drop, List.length_drop] at hl
  have h1 : a + n ≤ s.length := by omega
  have h2 : b + n ≤ s.length := by omega
  refine ⟨h1, h2, ?_⟩
  rw [S.eq _ _ h1 h2, pre_alike h1 h2 (by omega), ← List.drop_drop, ← List.drop_drop, alike_drop n _ _ hn]
  omega
/-- Apart: they have less in common. -/
theorem SE.less {s : List UInt8} {h : Nat} {row : List Nat} {kd : Nat → Nat} (S : SE s h row kd) (hap : kd (row.getD s.length 0) = s.length) (a b : Nat) (ha : a ≤ s.length) (hb : b ≤ s.length) (hne : a ≠ b) : alike (s.drop a) (s.drop b) < h := by
  by_cases hlt : alike (s.drop a) (s.drop b) < h
  · exact hlt
  · exfalso
    have h1 := (S.eq a b ha hb).2 ((pre_alike ha hb hne).2 (by omega))
    have hl := S.len
    rw [sgetN _ (by omega)] at hap
    have hge : ∀ d (hd : d ≤ s.length), s.length - d ≤ kd (row[s.length - d]'(by omega)) := by
      intro d
      induction d with
      | zero => intro _; exact Nat.le_of_eq hap.symm
      | succ d ih =>
        intro hd
        have h1 := ih (by omega)
        have h2 := S.step (s.length - (d + 1)) (by omega)
        simp only [show s.length - (d + 1) + 1 = s.length - d from by omega] at h2
        omega
    obtain ⟨i, hi, rfl⟩ := List.getElem_of_mem ((S.mem a).2 ha)
    obtain ⟨j, hj, rfl⟩ := List.getElem_of_mem ((S.mem b).2 hb)
    have g1 := hge (s.length - i) (by omega)
    have g2 := hge (s.length - j) (by omega)
    simp only [show s.length - (s.length - i) = i from by omega] at g1
    simp only [show s.length - (s.length - j) = j from by omega] at g2
    have l1 := S.le i hi
    have l2 := S.le j hj
    have : i = j := by omega
    subst this
    exact hne rfl
end Go.Proofs.Ytjdpogaaookoeaa
