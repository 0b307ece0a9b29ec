/-
  Layer 12, plain: when a row rises as the program asks it is the array; what two searches by halves find in it.
-/
import Derived.Test.YtngenehleelcmaaSufH
namespace Go.Proofs.Ytngenehleelcmaa
set_option linter.unusedSimpArgs false
set_option linter.unusedVariables false
open Go.ChangeShapes Go.WideShapes Go.ChangeAt Go.RowKit Go.Joins Go.Deep

/-! ### An order as places -/
theorem splc_toNat (l : List Nat) : (splc l).map Int.toNat = l := by
  unfold splc
  rw [List.map_map]
  exact (List.map_congr_left fun a _ => Int.toNat_natCast a).trans (List.map_id l)
/-- The places of an order. -/
def plcs (a : List Int) : List Nat := a.map Int.toNat
theorem plcs_len (a : List Int) : (plcs a).length = a.length := by simp [plcs]
theorem plcs_get (a : List Int) (i : Nat) (h : i < (plcs a).length) : (plcs a)[i] = (a[i]'(by rw [plcs_len] at h; exact h)).toNat := by simp [plcs]
theorem plcs_is {a : List Int} (h : sordF a = true) : a = splc (plcs a) := by
  apply List.ext_getElem
  · rw [splc_len, plcs_len]
  · intro i h1 h2
    rw [splc_get, plcs_get]
    have := (sord_get h i h1).1
    rw [List.getD_eq_getElem?_getD, List.getElem?_eq_getElem h1] at this
    simp only [Option.getD_some] at this
    omega
theorem plcs_lt {a : List Int} (h : sordF a = true) : ∀ p ∈ plcs a, p < a.length := by
  intro p hp
  obtain ⟨i, hi, rfl⟩ := List.getElem_of_mem hp
  rw [plcs_get]
  rw [plcs_len] at hi
  obtain ⟨h1, h2, _⟩ := sord_get h i hi
  rw [List.getD_eq_getElem?_getD, List.getElem?_eq_getElem hi] at h1 h2
  simp only [Option.getD_some] at h1 h2
  omega
theorem plcs_nodup {a : List Int} (h : sordF a = true) : (plcs a).Nodup := by
  refine List.pairwise_iff_getElem.2 fun i j hi hj hij e => ?_
  rw [plcs_get, plcs_get] at e
  rw [plcs_len] at hi hj
  obtain ⟨h1, _, _⟩ := sord_get h i hi
  obtain ⟨h2, _, h3⟩ := sord_get h j hj
  rw [List.getD_eq_getElem?_getD, List.getElem?_eq_getElem hi] at h1
  rw [List.getD_eq_getElem?_getD, List.getElem?_eq_getElem hj] at h2 h3
  simp only [Option.getD_some] at h1 h2 h3
  apply h3
  have e2 : a[j] = a[i] := by omega
  rw [e2]
  have : (a.take j)[i]'(by rw [List.length_take]; omega) = a[i] := List.getElem_take
  rw [← this]
  exact List.getElem_mem _
theorem slen_le : ∀ (n : Nat) (l : List Nat), l.Nodup → (∀ p ∈ l, p < n) → l.length ≤ n
  | 0, [], _, _ => Nat.le_refl _
  | 0, p :: t, _, h => absurd (h p (List.mem_cons_self ..)) (by omega)
  | n + 1, l, hn, h => by
    have h1 := slen_le n (l.erase n) (hn.erase n) fun p hp => by
      have h2 := (hn.mem_erase_iff).1 hp
      have := h p h2.2
      omega
    rw [List.length_erase] at h1
    split at h1 <;> omega
theorem sgetI {a : List Int} (k : Nat) (hk : k < a.length) : a.getD k 0 = a[k] := by rw [List.getD_eq_getElem?_getD, List.getElem?_eq_getElem hk]; rfl
theorem plcs_all {a : List Int} (h : sordF a = true) (p : Nat) : p ∈ plcs a ↔ p < a.length := by
  refine ⟨fun hp => plcs_lt h p hp, fun hp => ?_⟩
  by_cases hm : p ∈ plcs a
  · exact hm
  · exfalso
    have h1 := slen_le a.length (p :: plcs a) (List.nodup_cons.2 ⟨hm, plcs_nodup h⟩) fun q hq => by
      rcases List.mem_cons.1 hq with rfl | hq
      · exact hp
      · exact plcs_lt h q hq
    rw [List.length_cons, plcs_len] at h1
    omega
theorem sidx_get {b : List Nat} (hn : b.Nodup) (i : Nat) (hi : i < b.length) : b.idxOf b[i] = i := by
  have h1 : b.idxOf b[i] < b.length := List.idxOf_lt_length_iff.2 (List.getElem_mem hi)
  exact snodup_inj hn h1 hi (List.getElem_idxOf h1)
theorem sidx_splc (b : List Nat) (p : Nat) : (splc b).idxOf (p : Int) = b.idxOf p := by
  induction b with
  | nil => rfl
  | cons a t ih =>
    show ((a : Int) :: splc t).idxOf (p : Int) = _
    rw [List.idxOf_cons, List.idxOf_cons, ih]
    by_cases e : a = p
    · subst e; simp
    · have e2 : ((a : Int) == (p : Int)) = false := by rw [beq_eq_false_iff_ne]; omega
      have e3 : (a == p) = false := by rw [beq_eq_false_iff_ne]; exact e
      rw [e2, e3]
/-- The ranks of an order. -/
theorem srk_rank {a : List Int} (h : sordF a = true) : srk a a.length = rng a.length fun p => ((plcs a).idxOf p : Int) := by
  apply List.ext_getElem
  · rw [srk_len, rng_len]
  · intro p h1 h2
    rw [srk_get, rng_get, List.take_length]
    have hp : p < a.length := by rw [srk_len] at h1; exact h1
    have hm : (p : Int) ∈ a := by
      have := (plcs_all h p).2 hp
      rw [plcs_is h]
      unfold splc
      exact List.mem_map.2 ⟨p, this, rfl⟩
    rw [if_pos hm]
    have e : a.idxOf (p : Int) = (plcs a).idxOf p := by
      have := sidx_splc (plcs a) p
      rwa [← plcs_is h] at this
    rw [e]

/-! ### Rising -/
/-- Is an end less than another one, as the program holds them? -/
def rless (s : List UInt8) (rk : Nat → Nat) (a b : Nat) : Bool :=
  if a = s.length ∨ b = s.length then decide (a = s.length) else if s.getD a 0 = s.getD b 0 then decide (rk (a + 1) < rk (b + 1)) else decide (s.getD a 0 < s.getD b 0)
/-- .. as one number. -/
def rkey (s : List UInt8) (rk : Nat → Nat) (p : Nat) : Nat := if p = s.length then 0 else (1 + (s.getD p 0).toNat) * (s.length + 2) + rk (p + 1)
theorem rkey_lt {s : List UInt8} {rk : Nat → Nat} (hrk : ∀ p, p ≤ s.length → rk p ≤ s.length) {p q : Nat} (hp : p ≤ s.length) (hq : q ≤ s.length) (hne : p ≠ q) : rless s rk p q = true ↔ rkey s rk p < rkey s rk q := by
  unfold rless rkey
  by_cases e1 : p = s.length
  · have e2 : ¬ q = s.length := fun e => hne (e1.trans e.symm)
    rw [if_pos (Or.inl e1), if_pos e1, if_neg e2]
    have : 1 * (s.length + 2) ≤ (1 + (s.getD q 0).toNat) * (s.length + 2) := Nat.mul_le_mul_right _ (by omega)
    simp only [e1, decide_true, true_iff]
    omega
  · by_cases e2 : q = s.length
    · rw [if_pos (Or.inr e2), if_neg e1, if_pos e2]
      simp [e1]
    · rw [if_neg (by omega), if_neg e1, if_neg e2]
      have hp1 := hrk (p + 1) (by omega)
      have hq1 := hrk (q + 1) (by omega)
      generalize rk (p + 1) = x at *
      generalize rk (q + 1) = y at *
      by_cases e3 : s.getD p 0 = s.getD q 0
      · rw [if_pos e3, e3, decide_eq_true_iff]
        omega
      · rw [if_neg e3, decide_eq_true_iff, UInt8.lt_iff_toNat_lt]
        have h4 : (s.getD p 0).toNat ≠ (s.getD q 0).toNat := fun e => e3 (UInt8.toNat_inj.1 e)
        generalize (s.getD p 0).toNat = u at *
        generalize (s.getD q 0).toNat = v at *
        rcases Nat.lt_or_gt_of_ne h4 with h | h
        · have h5 : (1 + u + 1) * (s.length + 2) ≤ (1 + v) * (s.length + 2) := Nat.mul_le_mul_right _ (by omega)
          rw [Nat.add_mul (1 + u) 1, Nat.one_mul] at h5
          constructor
          · intro _; omega
          · intro _; exact h
        · have h5 : (1 + v + 1) * (s.length + 2) ≤ (1 + u) * (s.length + 2) := Nat.mul_le_mul_right _ (by omega)
          rw [Nat.add_mul (1 + v) 1, Nat.one_mul] at h5
          constructor
          · intro h; omega
          · intro _; omega
theorem sdrop_cons {s : List UInt8} {p : Nat} (h : p < s.length) : s.drop p = s.getD p 0 :: s.drop (p + 1) := by
  rw [List.drop_eq_getElem_cons h, List.getD_eq_getElem?_getD, List.getElem?_eq_getElem h]
  rfl
theorem slt_step {s : List UInt8} {p q : Nat} (hp : p < s.length) (hq : q < s.length) : slt s p q = true ↔ (s.getD p 0).toNat < (s.getD q 0).toNat ∨ (s.getD p 0 = s.getD q 0 ∧ slt s (p + 1) (q + 1) = true) := by
  unfold slt
  rw [sdrop_cons hp, sdrop_cons hq, slt_iff]
theorem slt_end {s : List UInt8} {q : Nat} (hq : q < s.length) : slt s s.length q = true := by
  unfold slt
  rw [List.drop_length, sdrop_cons hq]
  rfl
/-- A row of all places rises just if it is the array. -/
theorem rising_is {s : List UInt8} {b : List Nat} (hn : b.Nodup) (hm : ∀ p, p ∈ b ↔ p ≤ s.length) : (∀ i (h : i + 1 < b.length), rless s (fun p => b.idxOf p) b[i] b[i + 1] = true) ↔ b = sarr s := by
  have hl : b.length = s.length + 1 := slen_of hn fun p => by rw [hm]; omega
  have hrk : ∀ p, p ≤ s.length → b.idxOf p ≤ s.length := fun p hp => by
    have := List.idxOf_lt_length_iff.2 ((hm p).2 hp)
    omega
  have hle : ∀ i (h : i < b.length), b[i] ≤ s.length := fun i h => (hm _).1 (List.getElem_mem h)
  have hidx : ∀ p (hp : p ≤ s.length), ∃ h : b.idxOf p < b.length, b[b.idxOf p] = p := fun p hp => by
    have h1 := List.idxOf_lt_length_iff.2 ((hm p).2 hp)
    exact ⟨h1, List.getElem_idxOf h1⟩
  constructor
  · intro hr
    have hk : ∀ i d (h : i + (d + 1) < b.length), rkey s (fun p => b.idxOf p) b[i] < rkey s (fun p => b.idxOf p) b[i + (d + 1)] := by
      intro i d
      induction d with
      | zero =>
        intro h
        have hne : b[i] ≠ b[i + 1] := fun e => by
          have := snodup_inj hn (by omega) h e
          omega
        exact (rkey_lt hrk (hle _ _) (hle _ _) hne).1 (hr i h)
      | succ d ih =>
        intro h
        have h1 := ih (by omega)
        have hne : b[i + (d + 1)] ≠ b[i + (d + 1) + 1] := fun e => by
          have := snodup_inj hn (show i + (d + 1) < b.length by omega) h e
          omega
        have h2 := (rkey_lt hrk (hle _ _) (hle _ _) hne).1 (hr (i + (d + 1)) h)
        exact Nat.lt_trans h1 h2
    have hkey : ∀ p q, p ≤ s.length → q ≤ s.length → b.idxOf p < b.idxOf q → rless s (fun p => b.idxOf p) p q = true := fun p q hp hq h => by
      obtain ⟨h1, e1⟩ := hidx p hp
      obtain ⟨h2, e2⟩ := hidx q hq
      have hne : p ≠ q := fun e => by rw [e] at h; omega
      refine (rkey_lt hrk hp hq hne).2 ?_
      have := hk (b.idxOf p) (b.idxOf q - b.idxOf p - 1) (by omega)
      simp only [show b.idxOf p + (b.idxOf q - b.idxOf p - 1 + 1) = b.idxOf q from by omega, e1, e2] at this
      exact this
    have hslt : ∀ d p q, s.length - p ≤ d → p ≤ s.length → q ≤ s.length → b.idxOf p < b.idxOf q → slt s p q = true := by
      intro d
      induction d with
      | zero =>
        intro p q hd hp hq h
        obtain rfl : p = s.length := by omega
        refine slt_end ?_
        have : q ≠ s.length := fun e => by rw [e] at h; omega
        omega
      | succ d ih =>
        intro p q hd hp hq h
        have hr2 := hkey p q hp hq h
        have hne : p ≠ q := fun e => by rw [e] at h; omega
        unfold rless at hr2
        by_cases e1 : p = s.length
        · subst e1
          exact slt_end (by omega)
        · by_cases e2 : q = s.length
          · rw [if_pos (Or.inr e2), decide_eq_true_iff] at hr2
            exact absurd hr2 e1
          · rw [if_neg (by omega)] at hr2
            refine (slt_step (by omega) (by omega)).2 ?_
            by_cases e3 : s.getD p 0 = s.getD q 0
            · rw [if_pos e3, decide_eq_true_iff] at hr2
              exact Or.inr ⟨e3, ih (p + 1) (q + 1) (by omega) (by omega) (by omega) hr2⟩
            · rw [if_neg e3, decide_eq_true_iff, UInt8.lt_iff_toNat_lt] at hr2
              exact Or.inl hr2
    refine slay_unique (slt_ord s) b (ssort_of fun i j hi hj hij => ?_) fun p => by rw [hm]; omega
    refine hslt s.length _ _ (by omega) (hle i hi) (hle j hj) ?_
    rw [sidx_get hn i hi, sidx_get hn j hj]
    exact hij
  · intro e i h
    have hsrt : SSort (slt s) b := by rw [e]; exact sarr_sort s
    have h1 := ssort_get hsrt i (i + 1) (by omega) h (by omega)
    have hp := hle i (by omega)
    have hq := hle (i + 1) h
    generalize b[i] = p at *
    generalize b[i + 1] = q at *
    unfold rless
    by_cases e2 : q = s.length
    · subst e2
      unfold slt at h1
      rw [List.drop_length, slt_nil] at h1
      cases h1
    · by_cases e1 : p = s.length
      · rw [if_pos (Or.inl e1)]
        exact decide_eq_true e1
      · rw [if_neg (by omega)]
        rw [slt_step (by omega) (by omega)] at h1
        rcases h1 with h1 | ⟨h1, h2⟩
        · rw [if_neg (fun e => by rw [e] at h1; omega)]
          exact decide_eq_true (UInt8.lt_iff_toNat_lt.2 h1)
        · rw [if_pos h1]
          refine decide_eq_true ?_
          obtain ⟨g1, e3⟩ := hidx (p + 1) (by omega)
          obtain ⟨g2, e4⟩ := hidx (q + 1) (by omega)
          rcases Nat.lt_trichotomy (b.idxOf (p + 1)) (b.idxOf (q + 1)) with h3 | h3 | h3
          · exact h3
          · exfalso
            have : p + 1 = q + 1 := by rw [← e3, ← e4]; simp only [h3]
            rw [this, slt_irrefl (s.drop (q + 1)) |> (fun h => show slt s (q + 1) (q + 1) = false from h)] at h2
            cases h2
          · exfalso
            have h4 := ssort_get hsrt _ _ g2 g1 h3
            rw [e3, e4] at h4
            have := (slt_ord s).asym _ _ h4
            rw [this] at h2
            cases h2
theorem sup_is {s : List UInt8} {a : List Int} (ho : sordF a = true) (hl : a.length = s.length + 1) : sup s a = true ↔ plcs a = sarr s := by
  constructor
  · intro h
    have hm : ∀ p, p ∈ plcs a ↔ p < s.length + 1 := fun p => by rw [plcs_all ho, hl]
    refine slay_unique (slt_ord s) (plcs a) (ssort_of fun i j hi hj hij => ?_) hm
    have step : ∀ i (h2 : i + 1 < (plcs a).length), slt s (plcs a)[i] (plcs a)[i + 1] = true := fun i h2 => by
      rw [plcs_len] at h2
      have := sup_get h (i + 1) h2 (by omega)
      rw [Nat.add_sub_cancel, sgetI (i + 1) h2, sgetI i (by omega)] at this
      rw [plcs_get, plcs_get]
      exact this
    have go : ∀ d (h2 : i + (d + 1) < (plcs a).length), slt s (plcs a)[i] (plcs a)[i + (d + 1)] = true := by
      intro d
      induction d with
      | zero => exact fun h2 => step i h2
      | succ d ih => exact fun h2 => (slt_ord s).tr _ _ _ (ih (by omega)) (step (i + (d + 1)) h2)
    have := go (j - i - 1) (by omega)
    simpa only [show i + (j - i - 1 + 1) = j from by omega] using this
  · intro h
    rw [plcs_is ho, h]
    exact sarr_sup s

/-! ### Two searches by halves -/
/-- Is the head of the i-th end no less than what? -/
def hge (s x : List UInt8) (i : Nat) : Bool := !Op.bytesLess (pre s x.length ((sarr s).getD i 0)) x
/-- .. greater? -/
def hgt (s x : List UInt8) (i : Nat) : Bool := Op.bytesLess x (pre s x.length ((sarr s).getD i 0))
theorem head_le (s x : List UInt8) (i j : Nat) (hij : i ≤ j) (hj : j < (sarr s).length) : Op.bytesLess (pre s x.length ((sarr s).getD j 0)) (pre s x.length ((sarr s).getD i 0)) = false := by
  cases h : Op.bytesLess (pre s x.length ((sarr s).getD j 0)) (pre s x.length ((sarr s).getD i 0)) with
  | false => rfl
  | true =>
    exfalso
    rcases Nat.lt_or_eq_of_le hij with h1 | h1
    · have h2 := ssort_get (sarr_sort s) i j (by omega) hj h1
      have h3 := pre_slt h
      rw [sgetN j hj, sgetN i (by omega)] at h3
      rw [(slt_ord s).asym _ _ h2] at h3
      cases h3
    · subst h1
      rw [slt_irrefl] at h
      cases h
theorem hge_mono (s x : List UInt8) (i j : Nat) (hij : i ≤ j) (hj : j < (sarr s).length) (h : hge s x i = true) : hge s x j = true := by
  unfold hge at *
  cases h2 : Op.bytesLess (pre s x.length ((sarr s).getD j 0)) x with
  | false => rfl
  | true =>
    exfalso
    rw [Bool.not_eq_true'] at h
    have h3 := head_le s x i j hij hj
    by_cases e : pre s x.length ((sarr s).getD i 0) = pre s x.length ((sarr s).getD j 0)
    · rw [e, h2] at h
      cases h
    · rcases slt_total _ _ e with h4 | h4
      · rw [slt_trans _ _ _ h4 h2] at h
        cases h
      · rw [h3] at h4
        cases h4
theorem hgt_mono (s x : List UInt8) (i j : Nat) (hij : i ≤ j) (hj : j < (sarr s).length) (h : hgt s x i = true) : hgt s x j = true := by
  unfold hgt at *
  have h3 := head_le s x i j hij hj
  by_cases e : pre s x.length ((sarr s).getD i 0) = pre s x.length ((sarr s).getD j 0)
  · rw [← e]
    exact h
  · rcases slt_total _ _ e with h4 | h4
    · exact slt_trans _ _ _ h h4
    · rw [h3] at h4
      cases h4
theorem shat_mid2 (s x : List UInt8) (i : Nat) : shat s x i = true ↔ hge s x i = true ∧ hgt s x i = false := by
  unfold shat sat hge hgt pre
  rw [decide_eq_true_iff, Bool.not_eq_true']
  constructor
  · intro h
    rw [h, slt_irrefl]
    exact ⟨rfl, rfl⟩
  · rintro ⟨h1, h2⟩
    by_cases e : ((s.drop ((sarr s).getD i 0)).take x.length) = x
    · exact e
    · rcases slt_total _ _ e with h | h
      · rw [h1] at h; cases h
      · rw [h2] at h; cases h
/-- What the two searches tell is what the row's ends tell. -/
theorem sfr_found (s x : List UInt8) (lo n : Nat) (hlo : lo ≤ s.length + 1) (hn : lo + n ≤ s.length + 1)
    (h1 : ∀ i, i < lo → hge s x i = false) (h2 : ∀ i, lo ≤ i → i < s.length + 1 → hge s x i = true)
    (h3 : ∀ i, i < n → hgt s x (lo + i) = false) (h4 : ∀ i, n ≤ i → lo + i < s.length + 1 → hgt s x (lo + i) = true) :
    sfr s (splc (sarr s)) x (s.length + 1) = if n = 0 then (1, 0) else ((lo : Int), (lo : Int) + (n : Int) - 1) := by
  have hit : ∀ i, i < s.length + 1 → (shat s x i = true ↔ lo ≤ i ∧ i < lo + n) := fun i hi => by
    rw [shat_mid2]
    constructor
    · rintro ⟨a, b⟩
      by_cases e : i < lo
      · rw [h1 i e] at a; cases a
      · refine ⟨by omega, ?_⟩
        by_cases e2 : i < lo + n
        · exact e2
        · have := h4 (i - lo) (by omega) (by omega)
          rw [show lo + (i - lo) = i from by omega, b] at this
          cases this
    · rintro ⟨a, b⟩
      refine ⟨h2 i a hi, ?_⟩
      have := h3 (i - lo) (by omega)
      rwa [show lo + (i - lo) = i from by omega] at this
  rcases sfr_at s x (s.length + 1) (by rw [sarr_len]; exact Nat.le_refl _) with ⟨e, hno, _⟩ | ⟨l, h, e, hlh, hh, hiff, _⟩
  · rw [e]
    by_cases hz : n = 0
    · rw [if_pos hz]
    · exfalso
      have := (hit lo (by omega)).2 ⟨Nat.le_refl _, by omega⟩
      rw [hno lo (by omega)] at this
      cases this
  · rw [e]
    have a1 := (hit l (by omega)).1 ((hiff l (by omega)).2 ⟨Nat.le_refl _, hlh⟩)
    have a2 := (hit h hh).1 ((hiff h hh).2 ⟨hlh, Nat.le_refl _⟩)
    have a3 := (hiff lo (by omega)).1 ((hit lo (by omega)).2 ⟨Nat.le_refl _, by omega⟩)
    have a4 := (hiff (lo + n - 1) (by omega)).1 ((hit (lo + n - 1) (by omega)).2 ⟨by omega, by omega⟩)
    rw [if_neg (by omega)]
    have e1 : l = lo := by omega
    have e2 : (h : Int) = (lo : Int) + (n : Int) - 1 := by omega
    rw [e1, e2]
end Go.Proofs.Ytngenehleelcmaa
