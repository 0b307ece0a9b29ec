/-
  Layer 21, plain: headers and footers; back (P21.4), rows (P21.5) (ahead of the code's landing).
-/
import Derived.Test.YtjodckinfoldgaaRecM
namespace Go.Proofs.Ytjodckinfoldgaa
set_option linter.unusedSimpArgs false
set_option linter.unusedVariables false
open Go.ChangeShapes Go.WideShapes Go.ChangeAt Go.RowKit Go.Joins Go.Deep
theorem gets_cons (s : List UInt8) (k : Nat) (p : Int) (acc : List Int) : gets s (k + 1) p acc = if (getF s p).2.2 = 0 then gets s k (getF s p).2.1 (acc ++ [(getF s p).1]) else ([], 0, (getF s p).2.2) := rfl
theorem gets_acc (s : List UInt8) : ∀ (k : Nat) (p : Int) (acc : List Int), (gets s k p acc).2.2 = 0 → 0 ≤ p → p ≤ s.length →
    ∃ l, (gets s k p acc).1 = acc ++ l ∧ l.length = k ∧ (∀ n ∈ l, 0 ≤ n ∧ n < 9223372036854775808) ∧ p ≤ (gets s k p acc).2.1 ∧ (gets s k p acc).2.1 ≤ s.length ∧ (s.drop p.toNat).take ((gets s k p acc).2.1 - p).toNat = l.flatMap putB ∧ ((gets s k p acc).2.1 : Int) = p + (l.flatMap putB).length
  | 0, p, acc, _, h0, h1 => ⟨[], (List.append_nil _).symm, rfl, (fun n hn => by cases hn), Int.le_refl _, h1, by
      show (s.drop p.toNat).take (p - p).toNat = []
      rw [Int.sub_self]
      rfl, by show p = p + ((0 : Nat) : Int); omega⟩
  | k + 1, p, acc, h, h0, h1 => by
    rw [gets_cons] at h ⊢
    by_cases he : (getF s p).2.2 = 0
    · rw [if_pos he] at h ⊢
      obtain ⟨a1, a2, a3, a4, a5, a6, a7⟩ := rnum_ok he
      obtain ⟨l, e1, e2, e3, e4, e5, e6, e7⟩ := gets_acc s k (getF s p).2.1 (acc ++ [(getF s p).1]) h (by omega) a6
      have hlen : ((getF s p).2.1 : Int) = p + (putB (getF s p).1).length := by
        rw [← a7, List.length_take, List.length_drop]
        omega
      refine ⟨(getF s p).1 :: l, by rw [e1, List.append_assoc]; rfl, by simp [e2], ?_, by omega, e5, ?_, ?_⟩
      · intro n hn
        rcases List.mem_cons.1 hn with rfl | hn
        · exact ⟨a3, a4⟩
        · exact e3 n hn
      · rw [List.flatMap_cons, ← e6, ← a7, show ((gets s k (getF s p).2.1 (acc ++ [(getF s p).1])).2.1 - p).toNat = ((getF s p).2.1 - p).toNat + ((gets s k (getF s p).2.1 (acc ++ [(getF s p).1])).2.1 - (getF s p).2.1).toNat from by omega, List.take_add, List.drop_drop, show p.toNat + ((getF s p).2.1 - p).toNat = (getF s p).2.1.toNat from by omega]
      · rw [List.flatMap_cons, List.length_append]
        omega
    · rw [if_neg he] at h
      exact absurd h he
theorem gets_fail (s : List UInt8) : ∀ (k : Nat) (p : Int) (acc : List Int), (gets s k p acc).2.2 ≠ 0 → (gets s k p acc).1 = [] ∧ (gets s k p acc).2.1 = 0
  | 0, p, acc, h => absurd rfl h
  | k + 1, p, acc, h => by
    rw [gets_cons] at h ⊢
    by_cases he : (getF s p).2.2 = 0
    · rw [if_pos he] at h ⊢
      exact gets_fail s k _ _ h
    · rw [if_neg he]
      exact ⟨rfl, rfl⟩
abbrev Hd := Int × Int × Int
def hdok (h : Hd) : Bool := decide (1 ≤ h.1 ∧ h.1 ≤ 999999 ∧ 1 ≤ h.2.1 ∧ h.2.1 ≤ 999999 ∧ 1 ≤ h.2.2 ∧ h.2.2 ≤ 1000000000)
theorem hdok_iff (h : Hd) : hdok h = true ↔ (1 ≤ h.1 ∧ h.1 ≤ 999999 ∧ 1 ≤ h.2.1 ∧ h.2.1 ≤ 999999 ∧ 1 ≤ h.2.2 ∧ h.2.2 ≤ 1000000000) := decide_eq_true_iff
def hchkF (h : Hd) : Int := if hdok h = true then 0 else 210
def hl3 (h : Hd) : List Int := [h.1, h.2.1, h.2.2]
def hputF (h : Hd) : List UInt8 × Int := if hdok h = true then ((hl3 h).flatMap putB, 0) else ([], 210)
def hof (l : List Int) : Hd := (l.getD 0 0, l.getD 1 0, l.getD 2 0)
def hgetF (s : List UInt8) : Hd × Int :=
  if (gets s 3 0 []).2.2 ≠ 0 then ((0, 0, 0), (gets s 3 0 []).2.2) else if (gets s 3 0 []).2.1 < s.length then ((0, 0, 0), 6)
  else if hdok (hof (gets s 3 0 []).1) = true then (hof (gets s 3 0 []).1, 0) else ((0, 0, 0), 210)
theorem hget_put {h : Hd} (hk : hdok h = true) : hgetF ((hl3 h).flatMap putB) = (h, 0) := by
  have hk2 := (hdok_iff h).1 hk
  have hg := gets_put (hl3 h) [] [] [] (fun n hn => by
    unfold hl3 at hn
    simp only [List.mem_cons, List.not_mem_nil, or_false] at hn
    rcases hn with rfl | rfl | rfl <;> omega)
  rw [List.nil_append, List.append_nil, List.nil_append] at hg
  have h3 : (hl3 h).length = 3 := rfl
  rw [h3] at hg
  unfold hgetF
  rw [show (((([] : List UInt8).length : Nat) : Int)) = 0 from rfl] at hg
  rw [hg]
  dsimp only
  rw [if_neg (by simp), if_neg (by simp), if_pos (show hdok (hof (hl3 h)) = true from hk)]
  rfl
theorem hput_get {s : List UInt8} (h : (hgetF s).2 = 0) : hputF (hgetF s).1 = (s, 0) := by
  unfold hgetF at h ⊢
  by_cases h1 : (gets s 3 0 []).2.2 ≠ 0
  · rw [if_pos h1] at h
    exact absurd h h1
  rw [if_neg h1] at h ⊢
  by_cases h2 : (gets s 3 0 []).2.1 < s.length
  · rw [if_pos h2] at h
    cases h
  rw [if_neg h2] at h ⊢
  by_cases h3 : hdok (hof (gets s 3 0 []).1) = true
  · rw [if_pos h3]
    obtain ⟨l, e1, e2, e3, e4, e5, e6, e7⟩ := gets_acc s 3 0 [] (by simpa using h1) (Int.le_refl _) (by omega)
    rw [List.nil_append] at e1
    dsimp only
    unfold hputF
    rw [if_pos h3]
    rw [e1] at h3 ⊢
    have hl : hl3 (hof l) = l := by
      match l, e2 with
      | [a, b, c], _ => rfl
    rw [hl, ← e6]
    have : ((gets s 3 0 []).2.1 - 0).toNat = s.length := by omega
    rw [this]
    simp
  · rw [if_neg h3] at h
    cases h
abbrev Mt := Int × Int × Int × Int × Int × Int × Int
def hm1 (m : Mt) : Bool := decide (0 ≤ m.1 ∧ m.1 ≤ 1000000 ∧ 10 ≤ m.2.1 ∧ m.2.1 ≤ 60009 ∧ 1 ≤ m.2.2.1 ∧ m.2.2.1 ≤ 20000 ∧ 1 ≤ m.2.2.2.1 ∧ m.2.2.2.1 ≤ m.2.2.1 ∧ 1 ≤ m.2.2.2.2.1 ∧ m.2.2.2.2.1 ≤ 1000000001 - m.2.2.2.1 ∧ 0 ≤ m.2.2.2.2.2.1 ∧ m.2.2.2.2.2.1 ≤ m.2.2.2.2.2.2 ∧ m.2.2.2.2.2.2 ≤ 1000000000)
def hm2 (p m : Mt) : Bool := decide (m.1 = p.1 + p.2.1 ∧ m.2.2.2.2.1 = p.2.2.2.2.1 + p.2.2.2.1 ∧ p.2.2.2.2.2.2 ≤ m.2.2.2.2.2.1)
def hr1 : Mt → List Mt → Bool
  | _, [] => true
  | p, m :: t => hm1 m && (hm2 p m && hr1 m t)
def hrL : List Mt → Bool
  | [] => true
  | m :: t => hm1 m && hr1 m t
def hrow (l : List Mt) : Bool := decide (l.length ≤ 1000) && hrL l
def hblkF (l : List Mt) : Int := if hrow l = true then 0 else 211
theorem hm1_iff (m : Mt) : hm1 m = true ↔ (0 ≤ m.1 ∧ m.1 ≤ 1000000 ∧ 10 ≤ m.2.1 ∧ m.2.1 ≤ 60009 ∧ 1 ≤ m.2.2.1 ∧ m.2.2.1 ≤ 20000 ∧ 1 ≤ m.2.2.2.1 ∧ m.2.2.2.1 ≤ m.2.2.1 ∧ 1 ≤ m.2.2.2.2.1 ∧ m.2.2.2.2.1 ≤ 1000000001 - m.2.2.2.1 ∧ 0 ≤ m.2.2.2.2.2.1 ∧ m.2.2.2.2.2.1 ≤ m.2.2.2.2.2.2 ∧ m.2.2.2.2.2.2 ≤ 1000000000) := decide_eq_true_iff
theorem hm2_iff (p m : Mt) : hm2 p m = true ↔ (m.1 = p.1 + p.2.1 ∧ m.2.2.2.2.1 = p.2.2.2.2.1 + p.2.2.2.1 ∧ p.2.2.2.2.2.2 ≤ m.2.2.2.2.2.1) := decide_eq_true_iff
def hat (l : List Mt) (i : Nat) (h : i < l.length) : Prop := hm1 l[i] = true ∧ ∀ j (hj : j + 1 = i), hm2 (l[j]'(by omega)) l[i] = true
theorem hr1_iff : ∀ (t : List Mt) (p : Mt), hr1 p t = true ↔ ∀ i (h : i < t.length), hm1 t[i] = true ∧ hm2 ((p :: t)[i]'(by simp; omega)) t[i] = true
  | [], p => ⟨fun _ i h => absurd h (Nat.not_lt_zero _), fun _ => rfl⟩
  | m :: t, p => by
    unfold hr1
    rw [Bool.and_eq_true, Bool.and_eq_true, hr1_iff t m]
    constructor
    · rintro ⟨h1, h2, h3⟩ i hi
      cases i with
      | zero => exact ⟨h1, h2⟩
      | succ i => exact h3 i (by simpa using hi)
    · intro h
      exact ⟨(h 0 (by simp)).1, (h 0 (by simp)).2, fun i hi => h (i + 1) (by simpa using hi)⟩
theorem hrL_iff (l : List Mt) : hrL l = true ↔ ∀ i (h : i < l.length), hat l i h := by
  cases l with
  | nil => exact ⟨fun _ i h => absurd h (Nat.not_lt_zero _), fun _ => rfl⟩
  | cons m t =>
    unfold hrL
    rw [Bool.and_eq_true, hr1_iff t m]
    constructor
    · rintro ⟨h1, h2⟩ i hi
      cases i with
      | zero => exact ⟨h1, fun j hj => by omega⟩
      | succ i =>
        refine ⟨(h2 i (by simpa using hi)).1, fun j hj => ?_⟩
        obtain rfl : j = i := by omega
        exact (h2 j (by simpa using hi)).2
    · intro h
      exact ⟨(h 0 (by simp)).1, fun i hi => ⟨(h (i + 1) (by simpa using hi)).1, (h (i + 1) (by simpa using hi)).2 i rfl⟩⟩
theorem hrow_iff (l : List Mt) : hrow l = true ↔ l.length ≤ 1000 ∧ ∀ i (h : i < l.length), hat l i h := by
  unfold hrow
  rw [Bool.and_eq_true, decide_eq_true_iff, hrL_iff]
def hm7 (m : Mt) : List Int := [m.1, m.2.1, m.2.2.1, m.2.2.2.1, m.2.2.2.2.1, m.2.2.2.2.2.1, m.2.2.2.2.2.2 - m.2.2.2.2.2.1]
def hmB (m : Mt) : List UInt8 := (hm7 m).flatMap putB
def hfB (l : List Mt) : List UInt8 := putB l.length ++ l.flatMap hmB
def hpfF (l : List Mt) : List UInt8 × Int := if hrow l = true then (hfB l, 0) else ([], 211)
def hmof (k : List Int) : Mt := (k.getD 0 0, k.getD 1 0, k.getD 2 0, k.getD 3 0, k.getD 4 0, k.getD 5 0, if k.getD 6 0 ≤ 9223372036854775807 - k.getD 5 0 then k.getD 5 0 + k.getD 6 0 else 9223372036854775807)
def hfs (s : List UInt8) : Nat → Int → List Mt → List Mt × Int × Int
  | 0, p, acc => (acc, p, 0)
  | k + 1, p, acc => if (gets s 7 p []).2.2 = 0 then hfs s k (gets s 7 p []).2.1 (acc ++ [hmof (gets s 7 p []).1]) else ([], 0, (gets s 7 p []).2.2)
def hfend (s : List UInt8) (r : List Mt × Int × Int) : List Mt × Int := if r.2.2 ≠ 0 then ([], r.2.2) else if r.2.1 < s.length then ([], 6) else if hrow r.1 = true then (r.1, 0) else ([], 211)
def hgfF (s : List UInt8) : List Mt × Int :=
  if (getF s 0).2.2 ≠ 0 then ([], (getF s 0).2.2) else if 1000 < (getF s 0).1 then ([], 3) else hfend s (hfs s (getF s 0).1.toNat (getF s 0).2.1 [])
theorem hm7_small {m : Mt} (h : hm1 m = true) : ∀ n ∈ hm7 m, 0 ≤ n ∧ n < 9223372036854775808 := by
  have hk := (hm1_iff m).1 h
  intro n hn
  unfold hm7 at hn
  simp only [List.mem_cons, List.not_mem_nil, or_false] at hn
  rcases hn with rfl | rfl | rfl | rfl | rfl | rfl | rfl <;> omega
theorem hmof_7 {m : Mt} (h : hm1 m = true) : hmof (hm7 m) = m := by
  have hk := (hm1_iff m).1 h
  obtain ⟨a, b, c, d, e, f, g⟩ := m
  dsimp only at hk
  show ((a, b, c, d, e, f, if g - f ≤ 9223372036854775807 - f then f + (g - f) else 9223372036854775807) : Mt) = _
  rw [if_pos (by omega), show f + (g - f) = g from by omega]
theorem hfs_put : ∀ (l : List Mt) (pre : List UInt8) (acc : List Mt), (∀ m ∈ l, hm1 m = true) → hfs (pre ++ l.flatMap hmB) l.length pre.length acc = (acc ++ l, ((pre ++ l.flatMap hmB).length : Int), 0)
  | [], pre, acc, _ => by simp [hfs]
  | m :: t, pre, acc, h => by
    have hm := h m (List.mem_cons_self ..)
    have hg := gets_put (hm7 m) pre (t.flatMap hmB) [] (hm7_small hm)
    have e : pre ++ (m :: t).flatMap hmB = pre ++ ((hm7 m).flatMap putB ++ t.flatMap hmB) := rfl
    rw [e, List.length_cons]
    unfold hfs
    rw [show (7 : Nat) = (hm7 m).length from rfl, hg]
    dsimp only
    rw [if_pos rfl, List.nil_append, hmof_7 hm]
    have ih := hfs_put t (pre ++ hmB m) (acc ++ [m]) (fun x hx => h x (List.mem_cons_of_mem _ hx))
    rw [List.length_append] at ih
    rw [← List.append_assoc]
    refine (show _ = _ from ih).trans ?_
    rw [List.append_assoc acc]
    rfl
theorem hgf_put {l : List Mt} (h : hrow l = true) : hgfF (hfB l) = (l, 0) := by
  obtain ⟨h1, h2⟩ := (hrow_iff l).1 h
  have hg := rnum_put [] (l.flatMap hmB) l.length (by omega) (by omega) 0 rfl
  rw [List.nil_append] at hg
  unfold hgfF
  rw [show putB (l.length : Int) ++ l.flatMap hmB = hfB l from rfl] at hg
  rw [hg]
  dsimp only
  rw [if_neg (by simp), if_neg (by omega), Int.toNat_natCast]
  have hs := hfs_put l (putB l.length) [] (fun m hm => by
    obtain ⟨i, hi, rfl⟩ := List.getElem_of_mem hm
    exact (h2 i hi).1)
  rw [show putB (l.length : Int) ++ l.flatMap hmB = hfB l from rfl, List.nil_append] at hs
  rw [show ((([] : List UInt8).length : Nat) : Int) + ((putB (l.length : Int)).length : Int) = ((putB (l.length : Int)).length : Int) from by simp, hs]
  unfold hfend
  dsimp only
  rw [if_neg (by simp), if_neg (by omega), if_pos h]
theorem hfs_acc (s : List UInt8) : ∀ (k : Nat) (p : Int) (acc : List Mt), (hfs s k p acc).2.2 = 0 → 0 ≤ p → p ≤ s.length →
    ∃ l, (hfs s k p acc).1 = acc ++ l ∧ l.length = k ∧ p ≤ (hfs s k p acc).2.1 ∧ (hfs s k p acc).2.1 ≤ s.length ∧ ((∀ m ∈ l, hm1 m = true) → (s.drop p.toNat).take ((hfs s k p acc).2.1 - p).toNat = l.flatMap hmB)
  | 0, p, acc, _, h0, h1 => ⟨[], (List.append_nil _).symm, rfl, Int.le_refl _, h1, fun _ => by
      show (s.drop p.toNat).take (p - p).toNat = []
      rw [Int.sub_self]
      rfl⟩
  | k + 1, p, acc, h, h0, h1 => by
    unfold hfs at h ⊢
    by_cases he : (gets s 7 p []).2.2 = 0
    · rw [if_pos he] at h ⊢
      obtain ⟨g, a1, a2, a3, a4, a5, a6, a7⟩ := gets_acc s 7 p [] he h0 h1
      rw [List.nil_append] at a1
      obtain ⟨l, e1, e2, e4, e5, e6⟩ := hfs_acc s k (gets s 7 p []).2.1 (acc ++ [hmof (gets s 7 p []).1]) h (by omega) a5
      refine ⟨hmof (gets s 7 p []).1 :: l, by rw [e1, List.append_assoc]; rfl, by simp [e2], by omega, e5, fun hall => ?_⟩
      have hm := hall _ (List.mem_cons_self ..)
      have hb : hmB (hmof (gets s 7 p []).1) = g.flatMap putB := by
        rw [a1] at hm ⊢
        have hk := (hm1_iff _).1 hm
        match g, a2, a3 with
        | [x0, x1, x2, x3, x4, x5, x6], _, a3 =>
          have h5 := a3 x5 (by simp)
          have h6 := a3 x6 (by simp)
          have hx : (if x6 ≤ 9223372036854775807 - x5 then x5 + x6 else 9223372036854775807) ≤ 1000000000 := hk.2.2.2.2.2.2.2.2.2.2.2.2
          have hle : x6 ≤ 9223372036854775807 - x5 := by
            by_cases hc : x6 ≤ 9223372036854775807 - x5
            · exact hc
            · rw [if_neg hc] at hx; omega
          show ([x0, x1, x2, x3, x4, x5, (if x6 ≤ 9223372036854775807 - x5 then x5 + x6 else 9223372036854775807) - x5] : List Int).flatMap putB = _
          rw [if_pos hle, show x5 + x6 - x5 = x6 from by omega]
      rw [List.flatMap_cons, hb, ← e6 (fun m hm => hall m (List.mem_cons_of_mem _ hm)), ← a6, show ((hfs s k (gets s 7 p []).2.1 (acc ++ [hmof (gets s 7 p []).1])).2.1 - p).toNat = ((gets s 7 p []).2.1 - p).toNat + ((hfs s k (gets s 7 p []).2.1 (acc ++ [hmof (gets s 7 p []).1])).2.1 - (gets s 7 p []).2.1).toNat from by omega, List.take_add, List.drop_drop, show p.toNat + ((gets s 7 p []).2.1 - p).toNat = (gets s 7 p []).2.1.toNat from by omega]
    · rw [if_neg he] at h
      exact absurd h he
theorem hfend_ok {s : List UInt8} {r : List Mt × Int × Int} (h : (hfend s r).2 = 0) : r.2.2 = 0 ∧ ¬ r.2.1 < s.length ∧ hrow r.1 = true ∧ (hfend s r).1 = r.1 := by
  unfold hfend at h ⊢
  by_cases h1 : r.2.2 ≠ 0
  · rw [if_pos h1] at h
    exact absurd h h1
  rw [if_neg h1] at h ⊢
  by_cases h2 : r.2.1 < s.length
  · rw [if_pos h2] at h
    cases h
  rw [if_neg h2] at h ⊢
  by_cases h3 : hrow r.1 = true
  · rw [if_pos h3]
    exact ⟨by simpa using h1, h2, h3, rfl⟩
  · rw [if_neg h3] at h
    cases h
theorem hpf_get {s : List UInt8} (h : (hgfF s).2 = 0) : hpfF (hgfF s).1 = (s, 0) := by
  unfold hgfF at h ⊢
  by_cases h1 : (getF s 0).2.2 ≠ 0
  · rw [if_pos h1] at h
    exact absurd h h1
  rw [if_neg h1] at h ⊢
  by_cases h2 : 1000 < (getF s 0).1
  · rw [if_pos h2] at h
    cases h
  rw [if_neg h2] at h ⊢
  obtain ⟨k1, k2, k3, k4⟩ := hfend_ok h
  obtain ⟨a1, a2, a3, a4, a5, a6, a7⟩ := rnum_ok (s := s) (p := 0) (by simpa using h1)
  obtain ⟨l, e1, e2, e4, e5, e6⟩ := hfs_acc s _ _ [] k1 (by omega) a6
  rw [List.nil_append] at e1
  rw [k4]
  unfold hpfF
  rw [if_pos k3]
  obtain ⟨-, r2⟩ := (hrow_iff _).1 k3
  rw [e1] at r2 ⊢
  have e7 := e6 (fun m hm => by
    obtain ⟨i, hi, rfl⟩ := List.getElem_of_mem hm
    exact (r2 i hi).1)
  unfold hfB
  rw [← e7, show (l.length : Int) = (getF s 0).1 from by rw [e2]; omega, ← a7]
  have h9 : ((hfs s (getF s 0).1.toNat (getF s 0).2.1 []).2.1 - (getF s 0).2.1).toNat = s.length - (getF s 0).2.1.toNat := by omega
  have h10 : (s.drop (getF s 0).2.1.toNat).take (s.length - (getF s 0).2.1.toNat) = s.drop (getF s 0).2.1.toNat := List.take_of_length_le (by rw [List.length_drop]; exact Nat.le_refl _)
  rw [h9, h10]
  have h11 : (s.drop (Int.toNat 0)).take ((getF s 0).2.1 - 0).toNat = s.take (getF s 0).2.1.toNat := by rw [Int.sub_zero]; rfl
  rw [h11, List.take_append_drop]
theorem hrow_take {l : List Mt} (h : hrow l = true) (k : Nat) : hrow (l.take k) = true := by
  obtain ⟨h1, h2⟩ := (hrow_iff l).1 h
  refine (hrow_iff _).2 ⟨by rw [List.length_take]; omega, fun i hi => ?_⟩
  rw [List.length_take] at hi
  have h3 := h2 i (by omega)
  refine ⟨by rw [List.getElem_take]; exact h3.1, fun j hj => ?_⟩
  rw [List.getElem_take, List.getElem_take]
  exact h3.2 j hj
theorem hrow_drop {l : List Mt} (h : hrow l = true) (k : Nat) : hrow (l.drop k) = true := by
  obtain ⟨h1, h2⟩ := (hrow_iff l).1 h
  refine (hrow_iff _).2 ⟨by rw [List.length_drop]; omega, fun i hi => ?_⟩
  rw [List.length_drop] at hi
  have h3 := h2 (k + i) (by omega)
  refine ⟨by rw [List.getElem_drop]; exact h3.1, fun j hj => ?_⟩
  rw [List.getElem_drop, List.getElem_drop]
  exact h3.2 (k + j) (by omega)
def hsz (l : List Mt) : Int := l.foldl (fun a m => a + m.2.1) 0
def hct (l : List Mt) : Int := l.foldl (fun a m => a + m.2.2.2.1) 0
theorem hsz_snoc (l : List Mt) (i : Nat) (h : i < l.length) : hsz (l.take (i + 1)) = hsz (l.take i) + l[i].2.1 := by
  unfold hsz
  rw [List.take_succ_eq_append_getElem h, List.foldl_append]
  rfl
theorem hct_snoc (l : List Mt) (i : Nat) (h : i < l.length) : hct (l.take (i + 1)) = hct (l.take i) + l[i].2.2.2.1 := by
  unfold hct
  rw [List.take_succ_eq_append_getElem h, List.foldl_append]
  rfl
theorem hrow_sums {l : List Mt} (h : hrow l = true) : ∀ (i : Nat) (hi : i < l.length), l[i].1 + l[i].2.1 = (l[0]'(by omega)).1 + hsz (l.take (i + 1)) ∧ l[i].2.2.2.2.1 + l[i].2.2.2.1 = (l[0]'(by omega)).2.2.2.2.1 + hct (l.take (i + 1))
  | 0, hi => by
    rw [hsz_snoc l 0 hi, hct_snoc l 0 hi]
    simp [hsz, hct]
  | i + 1, hi => by
    obtain ⟨-, h2⟩ := (hrow_iff l).1 h
    have ih := hrow_sums h i (by omega)
    have h3 := (hm2_iff _ _).1 ((h2 (i + 1) hi).2 i rfl)
    rw [hsz_snoc l (i + 1) hi, hct_snoc l (i + 1) hi]
    omega
theorem hsz_le {l : List Mt} (h : hrow l = true) : ∀ k, k ≤ l.length → 0 ≤ hsz (l.take k) ∧ hsz (l.take k) ≤ k * 60009 ∧ 0 ≤ hct (l.take k) ∧ hct (l.take k) ≤ k * 20000
  | 0, _ => by simp [hsz, hct]
  | k + 1, hk => by
    obtain ⟨-, h2⟩ := (hrow_iff l).1 h
    have ih := hsz_le h k (by omega)
    have h3 := (hm1_iff _).1 (h2 k (by omega)).1
    rw [hsz_snoc l k (by omega), hct_snoc l k (by omega)]
    omega
def hlast (l : List Mt) : Mt := l.getLastD (0, 0, 0, 0, 0, 0, 0)
theorem hlast_at (l : List Mt) (k : Nat) (h : k + 1 = l.length) : hlast l = l[k]'(by omega) := by
  unfold hlast
  rw [List.getLastD_eq_getLast?, List.getLast?_eq_getElem?, show l.length - 1 = k from by omega, List.getElem?_eq_getElem (by omega)]
  rfl
def hnextF (h : Hd) (l : List Mt) : Int := if l.length = 0 ∨ hrow l = false then h.2.2 else (hlast l).2.2.2.2.1 + (hlast l).2.2.2.1
def hendF (h : Hd) (l : List Mt) : Int × Int := if hdok h = false then (0, 210) else if hrow l = false then (0, 211) else if l.length = 0 then (((hl3 h).flatMap putB).length + 9, 0) else ((hlast l).1 + (hlast l).2.1, 0)
end Go.Proofs.Ytjodckinfoldgaa
