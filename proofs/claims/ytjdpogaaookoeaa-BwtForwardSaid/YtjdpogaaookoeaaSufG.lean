/-
  Layer 12, plain: the program's way: places sorted by counting their keys; numbers of kinds; ends by so many of their first bytes, doubled.
-/
import Derived.Test.YtjdpogaaookoeaaSufO
namespace Go.Proofs.Ytjdpogaaookoeaa
set_option linter.unusedSimpArgs false
set_option linter.unusedVariables false
open Go.ChangeShapes Go.WideShapes Go.ChangeAt Go.RowKit Go.Joins Go.Deep

/-! ### A list by a function of the place -/
def rng (n : Nat) (f : Nat → Int) : List Int := (List.range n).map f
theorem rng_len (n : Nat) (f : Nat → Int) : (rng n f).length = n := by simp [rng]
theorem rng_get (n : Nat) (f : Nat → Int) (k : Nat) (h : k < (rng n f).length) : (rng n f)[k] = f k := by simp [rng]
theorem rng_ext {n : Nat} {f g : Nat → Int} (h : ∀ k, k < n → f k = g k) : rng n f = rng n g := by
  unfold rng
  apply List.map_congr_left
  intro k hk
  exact h k (List.mem_range.1 hk)
theorem rng_set {n : Nat} {f g : Nat → Int} (k : Nat) (v : Int) (h : ∀ j, j < n → g j = if j = k then v else f j) : (rng n f).set k v = rng n g := by
  apply List.ext_getElem
  · rw [List.length_set, rng_len, rng_len]
  · intro j h1 h2
    rw [rng_len] at h2
    rw [List.getElem_set, rng_get, rng_get, h j h2]
    by_cases e : k = j
    · rw [if_pos e, if_pos e.symm]
    · rw [if_neg e, if_neg fun h => e h.symm]
theorem rng_zero (n : Nat) : List.replicate n (0 : Int) = rng n fun _ => 0 := by
  apply List.ext_getElem
  · rw [rng_len, List.length_replicate]
  · intro j h1 h2
    rw [rng_get, List.getElem_replicate]

/-! ### Sorted by counting -/
/-- How many of a row have a key. -/
def bcnt (key : Nat → Nat) (row : List Nat) (k : Nat) : Nat := row.countP fun p => decide (key p = k)
/-- .. have a key below k. -/
def bsum (key : Nat → Nat) (row : List Nat) : Nat → Nat
  | 0 => 0
  | k + 1 => bsum key row k + bcnt key row k
def bk (key : Nat → Nat) (row : List Nat) (k : Nat) : List Nat := row.filter fun p => decide (key p = k)
/-- The places of a row by their keys, those with a key below m. -/
def bks (key : Nat → Nat) (row : List Nat) : Nat → List Nat
  | 0 => []
  | m + 1 => bks key row m ++ bk key row m
theorem bk_len (key : Nat → Nat) (row : List Nat) (k : Nat) : (bk key row k).length = bcnt key row k := by
  unfold bk bcnt
  rw [List.countP_eq_length_filter]
theorem bks_len (key : Nat → Nat) (row : List Nat) : ∀ m, (bks key row m).length = bsum key row m
  | 0 => rfl
  | m + 1 => by
    show (bks key row m ++ bk key row m).length = bsum key row m + bcnt key row m
    rw [List.length_append, bks_len key row m, bk_len]
theorem bks_mem (key : Nat → Nat) (row : List Nat) (p : Nat) : ∀ m, p ∈ bks key row m ↔ p ∈ row ∧ key p < m
  | 0 => by simp [bks]
  | m + 1 => by
    show p ∈ bks key row m ++ bk key row m ↔ _
    rw [List.mem_append, bks_mem key row p m]
    unfold bk
    rw [List.mem_filter, decide_eq_true_iff]
    constructor
    · rintro (⟨a, b⟩ | ⟨a, b⟩)
      · exact ⟨a, by omega⟩
      · exact ⟨a, by omega⟩
    · rintro ⟨a, b⟩
      by_cases e : key p = m
      · exact Or.inr ⟨a, e⟩
      · exact Or.inl ⟨a, by omega⟩
theorem bks_pair {key : Nat → Nat} {row : List Nat} {R : Nat → Nat → Prop} (h : row.Pairwise R) : ∀ m, (bks key row m).Pairwise fun p q => key p < key q ∨ (key p = key q ∧ R p q)
  | 0 => List.Pairwise.nil
  | m + 1 => by
    show (bks key row m ++ bk key row m).Pairwise _
    refine List.pairwise_append.2 ⟨bks_pair h m, ?_, fun a ha b hb => ?_⟩
    · have h1 : (bk key row m).Pairwise R := List.Pairwise.sublist List.filter_sublist h
      refine List.Pairwise.imp_of_mem (fun {a b} ha hb hab => Or.inr ⟨?_, hab⟩) h1
      unfold bk at ha hb
      rw [List.mem_filter, decide_eq_true_iff] at ha hb
      rw [ha.2, hb.2]
    · have h1 := (bks_mem key row a m).1 ha
      unfold bk at hb
      rw [List.mem_filter, decide_eq_true_iff] at hb
      exact Or.inl (by omega)
theorem bcnt_take_le (key : Nat → Nat) (row : List Nat) (i k : Nat) : bcnt key (row.take i) k ≤ bcnt key row k := by
  unfold bcnt
  exact List.Sublist.countP_le (List.take_sublist _ _)
theorem bcnt_step (key : Nat → Nat) (row : List Nat) (i k : Nat) (hi : i < row.length) : bcnt key (row.take (i + 1)) k = bcnt key (row.take i) k + if key row[i] = k then 1 else 0 := by
  unfold bcnt
  rw [List.take_succ_eq_append_getElem hi, List.countP_append, List.countP_singleton]
  simp
theorem bcnt_room (key : Nat → Nat) (row : List Nat) (i : Nat) (hi : i < row.length) : bcnt key (row.take i) (key row[i]) < bcnt key row (key row[i]) := by
  have h1 := bcnt_step key row i (key row[i]) hi
  have h2 := bcnt_take_le key row (i + 1) (key row[i])
  rw [if_pos rfl] at h1
  omega
theorem bcnt_le (key : Nat → Nat) (row : List Nat) (k : Nat) : bcnt key row k ≤ row.length := by
  unfold bcnt
  exact List.countP_le_length
theorem bsum_lt (key : Nat → Nat) (row : List Nat) : ∀ m, bsum key row m = row.countP fun p => decide (key p < m)
  | 0 => by
    unfold bsum
    symm
    rw [List.countP_eq_zero]
    intro a _
    simp
  | m + 1 => by
    show bsum key row m + bcnt key row m = _
    rw [bsum_lt key row m]
    unfold bcnt
    induction row with
    | nil => rfl
    | cons a t ih =>
      simp only [List.countP_cons, decide_eq_true_eq]
      split <;> split <;> split <;> omega
theorem bsum_le (key : Nat → Nat) (row : List Nat) (m : Nat) : bsum key row m ≤ row.length := by
  rw [bsum_lt]
  exact List.countP_le_length
theorem bsum_all (key : Nat → Nat) (row : List Nat) (m : Nat) (h : ∀ p ∈ row, key p < m) : bsum key row m = row.length := by
  rw [bsum_lt, List.countP_eq_length]
  intro a ha
  exact decide_eq_true (h a ha)
theorem bsum_mono (key : Nat → Nat) (row : List Nat) (a b : Nat) (h : a ≤ b) : bsum key row a ≤ bsum key row b := by
  obtain ⟨d, rfl⟩ := Nat.exists_eq_add_of_le h
  induction d with
  | zero => exact Nat.le_refl _
  | succ d ih =>
    have := ih (by omega)
    show bsum key row a ≤ bsum key row (a + d) + bcnt key row (a + d)
    omega
/-- The row of places while it is filled: i of the row have been laid. -/
def bmid (key : Nat → Nat) (row : List Nat) (i : Nat) : Nat → List Int
  | 0 => []
  | m + 1 => bmid key row i m ++ (splc (bk key (row.take i) m) ++ List.replicate (bcnt key row m - bcnt key (row.take i) m) 0)
theorem bmid_len (key : Nat → Nat) (row : List Nat) (i : Nat) : ∀ m, (bmid key row i m).length = bsum key row m
  | 0 => rfl
  | m + 1 => by
    have h := bcnt_take_le key row i m
    show (bmid key row i m ++ (splc (bk key (row.take i) m) ++ List.replicate (bcnt key row m - bcnt key (row.take i) m) 0)).length = bsum key row m + bcnt key row m
    rw [List.length_append, List.length_append, bmid_len key row i m, splc_len, bk_len, List.length_replicate]
    omega
theorem bmid_zero (key : Nat → Nat) (row : List Nat) : ∀ m, bmid key row 0 m = List.replicate (bsum key row m) 0
  | 0 => rfl
  | m + 1 => by
    show bmid key row 0 m ++ (splc (bk key (row.take 0) m) ++ List.replicate (bcnt key row m - bcnt key (row.take 0) m) 0) = List.replicate (bsum key row m + bcnt key row m) 0
    rw [bmid_zero key row m, List.take_zero]
    simp [bk, bcnt, splc, List.replicate_append_replicate]
theorem bmid_all (key : Nat → Nat) (row : List Nat) : ∀ m, bmid key row row.length m = splc (bks key row m)
  | 0 => rfl
  | m + 1 => by
    show bmid key row row.length m ++ (splc (bk key (row.take row.length) m) ++ List.replicate (bcnt key row m - bcnt key (row.take row.length) m) 0) = splc (bks key row m ++ bk key row m)
    rw [bmid_all key row m, List.take_length, Nat.sub_self, List.replicate_zero, List.append_nil, splc_app]
theorem bk_step (key : Nat → Nat) (row : List Nat) (i k : Nat) (hi : i < row.length) : bk key (row.take (i + 1)) k = bk key (row.take i) k ++ if key row[i] = k then [row[i]] else [] := by
  unfold bk
  rw [List.take_succ_eq_append_getElem hi, List.filter_append]
  by_cases e : key row[i] = k <;> simp [e]
theorem bmid_step (key : Nat → Nat) (row : List Nat) (i : Nat) (hi : i < row.length) : ∀ m, key row[i] < m → (bmid key row i m).set (bsum key row (key row[i]) + bcnt key (row.take i) (key row[i])) (row[i] : Nat) = bmid key row (i + 1) m
  | 0, h => absurd h (by omega)
  | m + 1, h => by
    have hr := bcnt_room key row i hi
    have hl := bmid_len key row i m
    show (bmid key row i m ++ (splc (bk key (row.take i) m) ++ List.replicate (bcnt key row m - bcnt key (row.take i) m) 0)).set _ _ = bmid key row (i + 1) m ++ (splc (bk key (row.take (i + 1)) m) ++ List.replicate (bcnt key row m - bcnt key (row.take (i + 1)) m) 0)
    by_cases e : key row[i] = m
    · have same : bmid key row (i + 1) m = bmid key row i m := by
        have go : ∀ q, q ≤ m → bmid key row (i + 1) q = bmid key row i q := by
          intro q
          induction q with
          | zero => intro _; rfl
          | succ q ih =>
            intro hq
            show bmid key row (i + 1) q ++ (splc (bk key (row.take (i + 1)) q) ++ List.replicate (bcnt key row q - bcnt key (row.take (i + 1)) q) 0) = bmid key row i q ++ (splc (bk key (row.take i) q) ++ List.replicate (bcnt key row q - bcnt key (row.take i) q) 0)
            rw [ih (by omega), bk_step key row i q hi, bcnt_step key row i q hi, if_neg (by omega), if_neg (by omega), List.append_nil, Nat.add_zero]
        exact go m (Nat.le_refl _)
      rw [same, bk_step key row i m hi, bcnt_step key row i m hi, if_pos e, if_pos e]
      rw [e] at hr ⊢
      have hb := bk_len key (row.take i) m
      rw [List.set_append_right _ _ (by omega), hl, show bsum key row m + bcnt key (row.take i) m - bsum key row m = bcnt key (row.take i) m from by omega, List.set_append_right _ _ (by rw [splc_len, hb]; exact Nat.le_refl _), splc_len, hb, Nat.sub_self, show bcnt key row m - bcnt key (row.take i) m = (bcnt key row m - (bcnt key (row.take i) m + 1)) + 1 from by omega, List.replicate_succ, List.set_cons_zero, splc_app, List.append_assoc]
      rfl
    · have hkm : key row[i] < m := by omega
      have h2 := bsum_mono key row (key row[i] + 1) m (by omega)
      have h3 : bsum key row (key row[i] + 1) = bsum key row (key row[i]) + bcnt key row (key row[i]) := rfl
      rw [List.set_append_left _ _ (by omega), bmid_step key row i hi m hkm, bk_step key row i m hi, bcnt_step key row i m hi, if_neg e, if_neg e, List.append_nil]
      rfl

/-- The greatest key of the first i of a row. -/
def bmax (key : Nat → Nat) (row : List Nat) : Nat → Nat
  | 0 => 0
  | i + 1 => max (bmax key row i) (key (row.getD i 0))
theorem bmax_ge (key : Nat → Nat) (row : List Nat) : ∀ i j, j < i → key (row.getD j 0) ≤ bmax key row i
  | 0, j, h => by omega
  | i + 1, j, h => by
    show _ ≤ max (bmax key row i) (key (row.getD i 0))
    by_cases e : j = i
    · subst e; omega
    · have := bmax_ge key row i j (by omega)
      omega
theorem bmax_le (key : Nat → Nat) (row : List Nat) (B : Nat) (hB : ∀ p ∈ row, key p ≤ B) : ∀ i, i ≤ row.length → bmax key row i ≤ B
  | 0, _ => Nat.zero_le _
  | i + 1, h => by
    have h1 := bmax_le key row B hB i (by omega)
    have h2 := hB row[i] (List.getElem_mem (by omega))
    show max (bmax key row i) (key (row.getD i 0)) ≤ B
    rw [List.getD_eq_getElem?_getD, List.getElem?_eq_getElem (by omega)]
    simp only [Option.getD_some]
    omega
theorem bmax_all (key : Nat → Nat) (row : List Nat) : ∀ p ∈ row, key p < bmax key row row.length + 1 := by
  intro p hp
  obtain ⟨i, hi, rfl⟩ := List.getElem_of_mem hp
  have := bmax_ge key row row.length i hi
  rw [List.getD_eq_getElem?_getD, List.getElem?_eq_getElem hi] at this
  simp only [Option.getD_some] at this
  omega
/-- Where the next place of each key goes: counted one number further on, i of the row. -/
def bn1 (key : Nat → Nat) (row : List Nat) (m i : Nat) : List Int := rng (m + 2) fun j => if j = 0 then 0 else (bcnt key (row.take i) (j - 1) : Nat)
/-- .. summed up to a key. -/
def bn2 (key : Nat → Nat) (row : List Nat) (m k : Nat) : List Int := rng (m + 2) fun j => if j ≤ k then (bsum key row j : Nat) else (bcnt key row (j - 1) : Nat)
/-- .. and i of the row laid. -/
def bn3 (key : Nat → Nat) (row : List Nat) (m i : Nat) : List Int := rng (m + 2) fun j => if j ≤ m then (bsum key row j + bcnt key (row.take i) j : Nat) else (bcnt key row (j - 1) : Nat)
theorem bn1_zero (key : Nat → Nat) (row : List Nat) (m : Nat) : bn1 key row m 0 = List.replicate (m + 2) 0 := by
  rw [rng_zero]
  refine rng_ext fun j _ => ?_
  split
  · rfl
  · simp [bcnt]
theorem bn1_step (key : Nat → Nat) (row : List Nat) (m i : Nat) (hi : i < row.length) : (bn1 key row m i).set (key row[i] + 1) ((bcnt key (row.take i) (key row[i]) : Nat) + 1 : Int) = bn1 key row m (i + 1) := by
  refine rng_set _ _ fun j _ => ?_
  by_cases e : j = key row[i] + 1
  · subst e
    rw [if_pos rfl, if_neg (by omega), Nat.add_sub_cancel, bcnt_step key row i _ hi, if_pos rfl]
    omega
  · rw [if_neg e]
    split
    · rfl
    · rw [bcnt_step key row i _ hi, if_neg (by omega)]
      omega
theorem bn1_all (key : Nat → Nat) (row : List Nat) (m : Nat) : bn1 key row m row.length = bn2 key row m 0 := by
  refine rng_ext fun j _ => ?_
  rw [List.take_length]
  by_cases e : j = 0
  · subst e; rfl
  · rw [if_neg e, if_neg (by omega)]
theorem bn2_step (key : Nat → Nat) (row : List Nat) (m k : Nat) : (bn2 key row m k).set (k + 1) ((bcnt key row k : Nat) + (bsum key row k : Nat) : Int) = bn2 key row m (k + 1) := by
  refine rng_set _ _ fun j _ => ?_
  by_cases e : j = k + 1
  · subst e
    rw [if_pos rfl, if_pos (Nat.le_refl _), show bsum key row (k + 1) = bsum key row k + bcnt key row k from rfl]
    omega
  · rw [if_neg e]
    by_cases h : j ≤ k
    · rw [if_pos h, if_pos (by omega)]
    · rw [if_neg h, if_neg (by omega)]
theorem bn2_all (key : Nat → Nat) (row : List Nat) (m : Nat) : bn2 key row m m = bn3 key row m 0 := by
  refine rng_ext fun j _ => ?_
  split
  · simp [bcnt]
  · rfl
theorem bn3_step (key : Nat → Nat) (row : List Nat) (m i : Nat) (hi : i < row.length) (hk : key row[i] ≤ m) : (bn3 key row m i).set (key row[i]) ((bsum key row (key row[i]) + bcnt key (row.take i) (key row[i]) : Nat) + 1 : Int) = bn3 key row m (i + 1) := by
  refine rng_set _ _ fun j _ => ?_
  by_cases e : j = key row[i]
  · subst e
    rw [if_pos rfl, if_pos hk, bcnt_step key row i _ hi, if_pos rfl]
    omega
  · rw [if_neg e, bcnt_step key row i _ hi, if_neg (show ¬ key row[i] = j from fun h => e h.symm)]
    rfl
theorem bn1_get (key : Nat → Nat) (row : List Nat) (m i k : Nat) (h : k + 1 < (bn1 key row m i).length) : (bn1 key row m i)[k + 1] = (bcnt key (row.take i) k : Nat) :=
  (rng_get _ _ _ h).trans (by rw [if_neg (by omega), Nat.add_sub_cancel])
theorem bn2_get1 (key : Nat → Nat) (row : List Nat) (m k : Nat) (h : k + 1 < (bn2 key row m k).length) : (bn2 key row m k)[k + 1] = (bcnt key row k : Nat) :=
  (rng_get _ _ _ h).trans (by rw [if_neg (by omega), Nat.add_sub_cancel])
theorem bn2_get0 (key : Nat → Nat) (row : List Nat) (m k : Nat) (h : k < (bn2 key row m k).length) : (bn2 key row m k)[k] = (bsum key row k : Nat) :=
  (rng_get _ _ _ h).trans (by rw [if_pos (Nat.le_refl _)])
theorem bn3_get (key : Nat → Nat) (row : List Nat) (m i k : Nat) (hk : k ≤ m) (h : k < (bn3 key row m i).length) : (bn3 key row m i)[k] = (bsum key row k + bcnt key (row.take i) k : Nat) :=
  (rng_get _ _ _ h).trans (by rw [if_pos hk])
theorem bn1_len (key : Nat → Nat) (row : List Nat) (m i : Nat) : (bn1 key row m i).length = m + 2 := rng_len _ _
theorem bn2_len (key : Nat → Nat) (row : List Nat) (m i : Nat) : (bn2 key row m i).length = m + 2 := rng_len _ _
theorem bn3_len (key : Nat → Nat) (row : List Nat) (m i : Nat) : (bn3 key row m i).length = m + 2 := rng_len _ _
theorem bplace_lt (key : Nat → Nat) (row : List Nat) (i : Nat) (hi : i < row.length) : bsum key row (key row[i]) + bcnt key (row.take i) (key row[i]) < row.length := by
  have h1 := bcnt_room key row i hi
  have h2 := bsum_le key row (key row[i] + 1)
  have h3 : bsum key row (key row[i] + 1) = bsum key row (key row[i]) + bcnt key row (key row[i]) := rfl
  omega
/-- The places from 0 on, by their keys: those of one key in their order. -/
theorem bks_sort (keys : List Int) (h0 : ∀ i (h : i < keys.length), 0 ≤ keys[i]) (m : Nat) (hm : ∀ p ∈ List.range keys.length, (keys.getD p 0).toNat < m) : bks (fun p => (keys.getD p 0).toNat) (List.range keys.length) m = slay (klt keys) keys.length := by
  have hg : ∀ p, p < keys.length → 0 ≤ keys.getD p 0 := fun p hp => by
    rw [List.getD_eq_getElem?_getD, List.getElem?_eq_getElem hp]
    exact h0 p hp
  refine slay_unique (klt_ord keys _) _ ?_ fun p => ?_
  · have h1 : (List.range keys.length).Pairwise (· < ·) := List.pairwise_lt_range
    have h2 := bks_pair (key := fun p => (keys.getD p 0).toNat) h1 m
    refine List.Pairwise.imp_of_mem (fun {a b} ha hb hab => ?_) h2
    have ha' := hg a (List.mem_range.1 ((bks_mem _ _ _ _).1 ha).1)
    have hb' := hg b (List.mem_range.1 ((bks_mem _ _ _ _).1 hb).1)
    rw [klt_iff]
    rcases hab with h | ⟨h, h3⟩
    · exact Or.inl (by omega)
    · exact Or.inr ⟨by omega, h3⟩
  · rw [bks_mem, List.mem_range]
    exact ⟨fun h => h.1, fun h => ⟨h, hm p (List.mem_range.2 h)⟩⟩
end Go.Proofs.Ytjdpogaaookoeaa
