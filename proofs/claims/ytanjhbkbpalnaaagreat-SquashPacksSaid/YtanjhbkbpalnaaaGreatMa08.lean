/-
 What the law of the last of these texts stands on, part 8.
-/
import Derived.Test.YtanjhbkbpalnaaaGreatMa01
import Derived.Laws.EntriesVeiled
set_option maxRecDepth 100000
set_option maxHeartbeats 8000000
open Go.Proofs.Tryz
namespace Go.Proofs.YtanjhbkbpalnaaaGreat
set_option linter.unusedSimpArgs false
set_option linter.unusedVariables false
open Go.ChangeShapes Go.WideShapes Go.ChangeAt Go.RowKit Go.Joins Go.Deep
def knum (row : List Nat) (sm : Nat → Nat → Bool) : Nat → Nat → Nat
 | 0 => fun _ => 0
 | i + 1 => fun p => if i + 1 < row.length ∧ p = row.getD (i + 1) 0 then knum row sm i (row.getD i 0) + (if sm (row.getD i 0) (row.getD (i + 1) 0) = true then 0 else 1) else knum row sm i p
def kN (row : List Nat) (sm : Nat → Nat → Bool) : Nat → Nat
 | 0 => 0
 | i + 1 => kN row sm i + (if sm (row.getD i 0) (row.getD (i + 1) 0) = true then 0 else 1)
theorem yeq {l : List Nat} (k : Nat) (hk : k < l.length) : l.getD k 0 = l[k] := by rw [qaj, qah hk]; rfl
theorem knum_at {row : List Nat} (hn : row.Nodup) (sm : Nat → Nat → Bool) : ∀ (i j : Nat) (hj : j < row.length), j ≤ i → knum row sm i row[j] = kN row sm j
 | 0, j, hj, h => by
  obtain rfl : j = 0 := by omega
  rfl
 | i + 1, j, hj, h => by
  show (if i + 1 < row.length ∧ row[j] = row.getD (i + 1) 0 then knum row sm i (row.getD i 0) + (if sm (row.getD i 0) (row.getD (i + 1) 0) = true then 0 else 1) else knum row sm i row[j]) = _
  by_cases e : j = i + 1
  ·subst e
   rw [qag ⟨hj, (yeq _ hj).symm⟩, yeq i (by omega), knum_at hn sm i i (by omega) (qad _)]
   show _ = kN row sm i + _
   rw [yeq i (by omega)]
  ·rw [qae ?_, knum_at hn sm i j hj (by omega)]
   rintro ⟨h1, h2⟩
   rw [yeq _ h1] at h2
   exact e (ybj hn hj h1 h2)
theorem kN_le (row : List Nat) (sm : Nat → Nat → Bool) : ∀ i, kN row sm i ≤ i
 | 0 => qad _
 | i + 1 => by
  have := kN_le row sm i
  show kN row sm i + _ ≤ _
  split <;> omega
theorem yhp (row : List Nat) (sm : Nat → Nat → Bool) (i : Nat) : ∀ d, kN row sm i ≤ kN row sm (i + d)
 | 0 => qad _
 | d + 1 => by
  have := yhp row sm i d
  show _ ≤ kN row sm (i + d) + _
  omega
def pre (s : List UInt8) (h p : Nat) : List UInt8 := (s.drop p).take h
theorem pre_len (s : List UInt8) (h p : Nat) : (pre s h p).length = min h (s.length - p) := by
 unfold pre
 rw [qao, qas]
theorem pre_room {s : List UInt8} {h p q : Nat} (hp : p ≤ s.length) (hq : q ≤ s.length) (hne : p ≠ q) (he : pre s h p = pre s h q) : p + h ≤ s.length ∧ q + h ≤ s.length := by
 have := qbC List.length he
 rw [pre_len, pre_len] at this
 omega
theorem yew : ∀ (h k : Nat) (x y : List UInt8), Op.bytesLess (x.take (h + k)) (y.take (h + k)) = true ↔ Op.bytesLess (x.take h) (y.take h) = true ∨ (x.take h = y.take h ∧ Op.bytesLess ((x.drop h).take k) ((y.drop h).take k) = true)
 | 0, k, x, y => by
  rw [qaz, qbb, qbb, ycr]
  simp
 | h + 1, k, [], [] => by simp [ycr]
 | h + 1, k, [], b :: y => by
  rw [show h + 1 + k = (h + k) + 1 from by omega]
  simp [Op.bytesLess]
 | h + 1, k, a :: x, [] => by
  simp [ycr]
 | h + 1, k, a :: x, b :: y => by
  rw [show h + 1 + k = (h + k) + 1 from by omega]
  simp only [qaM, qbu]
  rw [ydb, ydb, yew h k x y]
  constructor
  ·rintro (h1 | ⟨rfl, h1 | ⟨h2, h3⟩⟩)
   ·exact qay (qay h1)
   ·exact qay (qaI ⟨rfl, h1⟩)
   ·exact qaI ⟨by rw [h2], h3⟩
  ·rintro ((h1 | ⟨rfl, h1⟩) | ⟨h1, h2⟩)
   ·exact qay h1
   ·exact qaI ⟨rfl, qay h1⟩
   ·injection h1 with h3 h4
    exact qaI ⟨h3, qaI ⟨h4, h2⟩⟩
theorem pre_less (s : List UInt8) (h k p q : Nat) : Op.bytesLess (pre s (h + k) p) (pre s (h + k) q) = true ↔ Op.bytesLess (pre s h p) (pre s h q) = true ∨ (pre s h p = pre s h q ∧ Op.bytesLess (pre s k (p + h)) (pre s k (q + h)) = true) := by
 unfold pre
 rw [yew, qbt, qbt]
theorem pre_add (s : List UInt8) (h k p : Nat) : pre s (h + k) p = pre s h p ++ pre s k (p + h) := by
 unfold pre
 rw [qcH, qbt]
theorem pre_more {s : List UInt8} {h k p q : Nat} (h1 : pre s h p = pre s h q) (h2 : pre s k (p + h) = pre s k (q + h)) : pre s (h + k) p = pre s (h + k) q := by
 rw [pre_add, pre_add, h1, h2]
theorem pre_fst {s : List UInt8} {h k p q : Nat} (h1 : pre s (h + k) p = pre s (h + k) q) : pre s h p = pre s h q := by
 have := qbC (List.take h) h1
 unfold pre at this ⊢
 rwa [List.take_take, List.take_take, qbf (by omega)] at this
theorem pre_snd {s : List UInt8} {h k p q : Nat} (h1 : pre s (h + k) p = pre s (h + k) q) : pre s k (p + h) = pre s k (q + h) := by
 have h2 := pre_fst h1
 rw [pre_add, pre_add, h2] at h1
 exact List.append_cancel_left h1
theorem pre_slt {s : List UInt8} {h p q : Nat} (h1 : Op.bytesLess (pre s h p) (pre s h q) = true) : slt s p q = true := by
 have := (pre_less s h s.length p q).2 (qay h1)
 unfold pre at this
 rwa [qar (by rw [qas]; omega), qar (by rw [qas]; omega)] at this
theorem yhw {s : List UInt8} {h p q : Nat} (h1 : ¬ Op.bytesLess (pre s h p) (pre s h q) = true) (h2 : ¬ Op.bytesLess (pre s h q) (pre s h p) = true) : pre s h p = pre s h q := by
 by_cases e : pre s h p = pre s h q
 ·exact e
 ·rcases yhk _ _ e with h | h
  ·exact absurd h h1
  ·exact absurd h h2
structure SE (s : List UInt8) (h : Nat) (row : List Nat) (kd : Nat → Nat) : Prop where
 len : row.length = s.length + 1
 nodup : row.Nodup
 mem : ∀ p, p ∈ row ↔ p ≤ s.length
 lt : ∀ p q, p ≤ s.length → q ≤ s.length → (kd p < kd q ↔ Op.bytesLess (pre s h p) (pre s h q) = true)
 up : ∀ i j (hj : j < row.length) (hij : i < j), kd row[i] ≤ kd row[j]
 first : ∀ (h : 0 < row.length), kd row[0] = 0
 step : ∀ i (hi : i + 1 < row.length), kd row[i + 1] ≤ kd row[i] + 1
theorem SE.eq {s : List UInt8} {h : Nat} {row : List Nat} {kd : Nat → Nat} (S : SE s h row kd) (p q : Nat) (hp : p ≤ s.length) (hq : q ≤ s.length) : kd p = kd q ↔ pre s h p = pre s h q := by
 constructor
 ·intro e
  refine yhw (fun h1 => ?_) (fun h1 => ?_)
  ·have := (S.lt p q hp hq).2 h1
   omega
  ·have := (S.lt q p hq hp).2 h1
   omega
 ·intro e
  have h1 : ¬ kd p < kd q := fun h1 => by
   have := (S.lt p q hp hq).1 h1
   rw [e, ybF] at this
   cases this
  have h2 : ¬ kd q < kd p := fun h1 => by
   have := (S.lt q p hq hp).1 h1
   rw [e, ybF] at this
   cases this
  omega
theorem SE.le {s : List UInt8} {h : Nat} {row : List Nat} {kd : Nat → Nat} (S : SE s h row kd) (i : Nat) (hi : i < row.length) : kd row[i] ≤ i := by
 induction i with
 | zero => exact Nat.le_of_eq (S.first hi)
 | succ i ih =>
  have := ih (by omega)
  have := S.step i hi
  omega
theorem SE.bound {s : List UInt8} {h : Nat} {row : List Nat} {kd : Nat → Nat} (S : SE s h row kd) (p : Nat) (hp : p ≤ s.length) : kd p ≤ s.length := by
 obtain ⟨i, hi, rfl⟩ := qaJ ((S.mem p).2 hp)
 have := S.le i hi
 have := S.len
 omega
theorem SE.room {s : List UInt8} {h : Nat} {row : List Nat} {kd : Nat → Nat} (S : SE s h row kd) (p q : Nat) (hp : p ≤ s.length) (hq : q ≤ s.length) (hne : p ≠ q) (he : kd p = kd q) : p + h ≤ s.length ∧ q + h ≤ s.length :=
 pre_room hp hq hne ((S.eq p q hp hq).1 he)
theorem SE.apart {s : List UInt8} {h : Nat} {row : List Nat} {kd : Nat → Nat} (S : SE s h row kd) (ha : kd (row.getD s.length 0) = s.length) : row = sarr s := by
 have hl := S.len
 rw [yeq _ (by omega)] at ha
 have hge : ∀ d (hd : d ≤ s.length), s.length - d ≤ kd (row[s.length - d]'(by omega)) := by
  intro d
  induction d with
  | zero => intro _; exact Nat.le_of_eq ha.symm
  | succ d ih =>
   intro hd
   have h1 := ih (by omega)
   have h2 := S.step (s.length - (d + 1)) (by omega)
   simp only [show s.length - (d + 1) + 1 = s.length - d from by omega] at h2
   omega
 have hk : ∀ i (hi : i < row.length), kd row[i] = i := fun i hi => by
  have h1 := hge (s.length - i) (by omega)
  simp only [show s.length - (s.length - i) = i from by omega] at h1
  have h2 := S.le i hi
  omega
 refine slay_unique (yco s) row (ssort_of fun i j hi hj hij => ?_) fun p => by rw [S.mem]; omega
 have hi' := (S.mem _).1 (qaq hi)
 have hj' := (S.mem _).1 (qaq hj)
 exact pre_slt ((S.lt _ _ hi' hj').1 (by rw [hk i hi, hk j hj]; exact hij))
theorem SE.more {s : List UInt8} {h : Nat} {row : List Nat} {kd : Nat → Nat} (S : SE s h row kd) (ha : kd (row.getD s.length 0) ≠ s.length) : h < s.length := by
 have hl := S.len
 rw [yeq _ (by omega)] at ha
 by_cases hex : ∃ i, ∃ hi : i + 1 < row.length, kd row[i] = kd row[i + 1]
 ·obtain ⟨i, hi, he⟩ := hex
  have h1 := (S.mem _).1 (qaq (show i < row.length by omega))
  have h2 := (S.mem _).1 (qaq hi)
  have hne : row[i] ≠ row[i + 1] := fun e => by
   have := ybj S.nodup (by omega) hi e
   omega
  have := S.room _ _ h1 h2 hne he
  omega
 ·exfalso
  apply ha
  have hk : ∀ i (hi : i < row.length), kd row[i] = i := by
   intro i
   induction i with
   | zero => intro hi; exact S.first hi
   | succ i ih =>
    intro hi
    have h1 := ih (by omega)
    have h2 := S.step i hi
    have h3 := S.up i (i + 1) hi (by omega)
    have h4 : kd row[i] ≠ kd row[i + 1] := fun e => hex ⟨i, hi, e⟩
    omega
  exact hk _ _
theorem se_of {s : List UInt8} {h : Nat} {row : List Nat} {sm : Nat → Nat → Bool} (hl : row.length = s.length + 1) (hn : row.Nodup) (hm : ∀ p, p ∈ row ↔ p ≤ s.length)
  (hs : row.Pairwise fun p q => Op.bytesLess (pre s h q) (pre s h p) = false)
  (hsm : ∀ i (hi : i + 1 < row.length), sm row[i] row[i + 1] = true ↔ pre s h row[i] = pre s h row[i + 1]) : SE s h row (knum row sm s.length) := by
 have hk : ∀ j (hj : j < row.length), knum row sm s.length row[j] = kN row sm j := fun j hj => knum_at hn sm _ j hj (by omega)
 have hsrt : ∀ i j (hi : i < row.length) (hj : j < row.length), i < j → Op.bytesLess (pre s h row[j]) (pre s h row[i]) = false := fun i j hi hj hij => qaV.1 hs i j hi hj hij
 have e1 : ∀ i d (hi : i + d < row.length), kN row sm i = kN row sm (i + d) → pre s h row[i] = pre s h row[i + d] := by
  intro i d
  induction d with
  | zero => intro _ _; rfl
  | succ d ih =>
   intro hi he
   have h1 := yhp row sm i d
   have h2 : kN row sm (i + (d + 1)) = kN row sm (i + d) + (if sm (row.getD (i + d) 0) (row.getD (i + d + 1) 0) = true then 0 else 1) := rfl
   rw [yeq _ (show i + d < row.length by omega), yeq _ (show i + d + 1 < row.length by omega)] at h2
   have h3 : sm row[i + d] row[i + d + 1] = true := by
    by_cases h3 : sm row[i + d] row[i + d + 1] = true
    ·exact h3
    ·rw [qae h3] at h2
     omega
   rw [qag h3] at h2
   rw [ih (by omega) (by omega)]
   exact (hsm (i + d) (by omega)).1 h3
 have e2 : ∀ i d (hi : i + d < row.length), pre s h row[i] = pre s h row[i + d] → kN row sm i = kN row sm (i + d) := by
  intro i d
  induction d with
  | zero => intro _ _; rfl
  | succ d ih =>
   intro hi he
   have hd : d = 0 ∨ 0 < d := by omega
   have h1 : pre s h row[i] = pre s h row[i + d] := by
    rcases hd with rfl | hd
    ·rfl
    ·have h1 := hsrt i (i + d) (by omega) (by omega) (by omega)
     have h2 := hsrt (i + d) (i + (d + 1)) (by omega) hi (by omega)
     rw [← he] at h2
     exact yhw (by rw [h2]; decide) (by rw [h1]; decide)
   have h2 : kN row sm (i + (d + 1)) = kN row sm (i + d) + (if sm (row.getD (i + d) 0) (row.getD (i + d + 1) 0) = true then 0 else 1) := rfl
   rw [yeq _ (show i + d < row.length by omega), yeq _ (show i + d + 1 < row.length by omega), qag ((hsm (i + d) (by omega)).2 (h1.symm.trans he))] at h2
   rw [h2, ih (by omega) h1]
   rfl
 refine ⟨hl, hn, hm, fun p q hp hq => ?_, fun i j hj hij => ?_, fun h0 => ?_, fun i hi => ?_⟩
 ·obtain ⟨i, hi, rfl⟩ := qaJ ((hm p).2 hp)
  obtain ⟨j, hj, rfl⟩ := qaJ ((hm q).2 hq)
  rw [hk i hi, hk j hj]
  rcases qcA i j with hij | hij | hij
  ·obtain ⟨d, rfl⟩ : ∃ d, j = i + (d + 1) := ⟨j - i - 1, by omega⟩
   have hmn := yhp row sm i (d + 1)
   constructor
   ·intro h1
    by_cases h2 : Op.bytesLess (pre s h row[i]) (pre s h row[i + (d + 1)]) = true
    ·exact h2
    ·have h3 := hsrt i (i + (d + 1)) hi hj (by omega)
     have := e2 i (d + 1) hj (yhw h2 (by rw [h3]; decide))
     omega
   ·intro h1
    by_cases h2 : kN row sm i = kN row sm (i + (d + 1))
    ·rw [e1 i (d + 1) hj h2, ybF] at h1
     cases h1
    ·omega
  ·subst hij
   rw [ybF]
   simp
  ·obtain ⟨d, rfl⟩ := Nat.exists_eq_add_of_lt hij
   have hmn := yhp row sm j (d + 1)
   have h3 := hsrt j (j + d + 1) hj hi (by omega)
   rw [h3]
   simp only [Bool.false_eq_true, iff_false]
   rw [show j + d + 1 = j + (d + 1) from by omega]
   omega
 ·rw [hk i (by omega), hk j hj]
  obtain ⟨d, rfl⟩ := Nat.exists_eq_add_of_lt hij
  exact yhp row sm i (d + 1)
 ·rw [hk 0 h0]
  rfl
 ·rw [hk _ hi, hk i (by omega)]
  show kN row sm i + _ ≤ _
  split <;> omega
theorem slen_of {l : List Nat} {n : Nat} (hn : l.Nodup) (hm : ∀ p, p ∈ l ↔ p < n) : l.length = n := by
 have : l.Perm (List.range n) := by
  rw [List.perm_iff_count]
  intro p
  rw [hn.count, List.nodup_range.count]
  by_cases h : p < n
  ·rw [qag ((hm p).2 h), qag (qaS.2 h)]
  ·rw [qae fun h2 => h ((hm p).1 h2), qae fun h2 => h (qaS.1 h2)]
 have h2 := this.length_eq
 rwa [qa7] at h2
def yba (s : List UInt8) (p : Nat) : Nat := (s.getD p 0).toNat
def frow (s : List UInt8) (M : Nat) : List Nat := s.length :: bks (yba s) (List.range s.length) M
def yfP (s : List UInt8) (a b : Nat) : Bool := decide (a < s.length) && (s.getD a 0 == s.getD b 0)
theorem pre_one {s : List UInt8} {p : Nat} (h : p < s.length) : pre s 1 p = [s[p]] := by
 unfold pre
 rw [qau h]
 rfl
theorem pre_end (s : List UInt8) (h : Nat) : pre s h s.length = [] := by
 unfold pre
 rw [qcI]
 simp
theorem fkey_at {s : List UInt8} {p : Nat} (h : p < s.length) : yba s p = s[p].toNat := by
 unfold yba
 rw [qaj, qah h]
 rfl
theorem se_first (s : List UInt8) (M : Nat) (hM : ∀ p ∈ List.range s.length, yba s p < M) : SE s 1 (frow s M) (knum (frow s M) (yfP s) s.length) := by
 have hmem : ∀ p, p ∈ bks (yba s) (List.range s.length) M ↔ p < s.length := fun p => by
  rw [bks_mem, qaS]
  exact ⟨fun h => h.1, fun h => ⟨h, hM p (qaS.2 h)⟩⟩
 have hp : (bks (yba s) (List.range s.length) M).Pairwise fun p q => yba s p < yba s q ∨ (yba s p = yba s q ∧ p < q) := bks_pair List.pairwise_lt_range M
 have hnd : (bks (yba s) (List.range s.length) M).Nodup := List.Pairwise.imp (fun {a b} h => by
  rintro rfl
  omega) hp
 have hm : ∀ p, p ∈ frow s M ↔ p ≤ s.length := fun p => by
  unfold frow
  rw [qaC, hmem]
  omega
 have hn : (frow s M).Nodup := List.nodup_cons.2 ⟨fun h => by have := (hmem _).1 h; omega, hnd⟩
 have hs : (frow s M).Pairwise fun p q => Op.bytesLess (pre s 1 q) (pre s 1 p) = false := by
  refine qa9.2 ⟨fun q hq => by rw [pre_end, ycr], ?_⟩
  refine qbs (fun {a b} ha hb hab => ?_) hp
  have ha' := (hmem a).1 ha
  have hb' := (hmem b).1 hb
  rw [fkey_at ha', fkey_at hb'] at hab
  rw [pre_one ha', pre_one hb']
  cases h : Op.bytesLess [s[b]] [s[a]] with
  | false => rfl
  | true =>
   rw [ydb, ycr] at h
   simp at h
   omega
 refine se_of (slen_of hn fun p => by rw [hm]; omega) hn hm hs fun i hi => ?_
 have h1 := (hm _).1 (qaq (show i < (frow s M).length by omega))
 have h2 : (frow s M)[i + 1] < s.length := by
  have := (hm _).1 (qaq hi)
  have hne : (frow s M)[i + 1] ≠ s.length := fun e => by
   have h0 : (frow s M)[0]'(by omega) = s.length := rfl
   have := ybj hn hi (show 0 < (frow s M).length by omega) (e.trans h0.symm)
   omega
  omega
 generalize (frow s M)[i] = a at *
 generalize (frow s M)[i + 1] = b at *
 unfold yfP
 rw [qca, qba, qcL]
 rw [pre_one h2]
 by_cases e : a < s.length
 ·rw [pre_one e, qaj, qah e, qaj, qah h2]
  simp [e]
 ·obtain rfl : a = s.length := by omega
  rw [pre_end]
  simp
def ybA (n h : Nat) : List Nat := List.range' (n + 1 - h) h
def yaN (row : List Nat) (h : Nat) : List Nat := (row.filter fun p => decide (h ≤ p)).map fun p => p - h
def ycq (row : List Nat) (n h : Nat) : List Nat := ybA n h ++ yaN row h
def ygs (kd : Nat → Nat) (h a b : Nat) : Bool := (kd a == kd b) && (kd (a + h) == kd (b + h))
theorem ydt (n h p : Nat) (hh : h ≤ n) : p ∈ ybA n h ↔ n < p + h ∧ p ≤ n := by
 unfold ybA
 rw [List.mem_range'_1]
 omega
theorem ydU (row : List Nat) (h p : Nat) : p ∈ yaN row h ↔ p + h ∈ row := by
 unfold yaN
 rw [qb5]
 constructor
 ·rintro ⟨q, hq, rfl⟩
  rw [qaT, qba] at hq
  rw [Nat.sub_add_cancel hq.2]
  exact hq.1
 ·intro hp
  exact ⟨p + h, qaT.2 ⟨hp, by simp⟩, by omega⟩
theorem se_next {s : List UInt8} {h : Nat} {row : List Nat} {kd : Nat → Nat} (S : SE s h row kd) (hh : h ≤ s.length) (h1 : 1 ≤ h) (M : Nat) (hM : ∀ p ∈ ycq row s.length h, kd p < M) :
  SE s (h + h) (bks kd (ycq row s.length h) M) (knum (bks kd (ycq row s.length h) M) (ygs kd h) s.length) := by
 have hm0 : ∀ p, p ∈ ycq row s.length h ↔ p ≤ s.length := fun p => by
  unfold ycq
  rw [qbk, ydt _ _ _ hh, ydU, S.mem]
  omega
 have hp0 : (ycq row s.length h).Pairwise fun p q => p ≠ q ∧ (p + h ≤ s.length → q + h ≤ s.length → kd (p + h) ≤ kd (q + h)) := by
  refine qa2.2 ⟨?_, ?_, fun a ha b hb => ?_⟩
  ·refine qbs (R := fun a b => a < b) (fun {a b} ha hb hab => ⟨by omega, fun h2 => ?_⟩) List.pairwise_lt_range'
   have := (ydt _ _ _ hh).1 ha
   omega
  ·unfold yaN
   refine List.pairwise_map.2 ?_
   have hrow : row.Pairwise fun p q => p ≠ q ∧ kd p ≤ kd q := qaV.2 fun i j hi hj hij => ⟨fun e => by have := ybj S.nodup hi hj e; omega, S.up i j hj hij⟩
   refine qbs (fun {a b} ha hb hab => ?_) (List.Pairwise.sublist (List.filter_sublist (p := fun p => decide (h ≤ p))) hrow)
   rw [qaT, qba] at ha hb
   refine ⟨fun e => hab.1 (by omega), fun _ _ => ?_⟩
   rw [Nat.sub_add_cancel ha.2, Nat.sub_add_cancel hb.2]
   exact hab.2
  ·have h2 := (ydt _ _ _ hh).1 ha
   have h3 := (S.mem _).1 ((ydU _ _ _).1 hb)
   exact ⟨fun e => by omega, fun h4 => by omega⟩
 have hm : ∀ p, p ∈ bks kd (ycq row s.length h) M ↔ p ≤ s.length := fun p => by
  rw [bks_mem, hm0]
  exact ⟨fun h => h.1, fun h => ⟨h, hM p ((hm0 p).2 h)⟩⟩
 have hp := bks_pair (key := kd) hp0 M
 have hn : (bks kd (ycq row s.length h) M).Nodup := List.Pairwise.imp (fun {a b} h => by
  rintro rfl
  rcases h with h | ⟨_, h, _⟩
  ·omega
  ·exact h rfl) hp
 have hs : (bks kd (ycq row s.length h) M).Pairwise fun p q => Op.bytesLess (pre s (h + h) q) (pre s (h + h) p) = false := by
  refine qbs (fun {a b} ha hb hab => ?_) hp
  have ha' := (hm a).1 ha
  have hb' := (hm b).1 hb
  cases h5 : Op.bytesLess (pre s (h + h) b) (pre s (h + h) a) with
  | false => rfl
  | true =>
   exfalso
   rw [pre_less, ← S.lt b a hb' ha', ← S.eq b a hb' ha'] at h5
   rcases hab with h2 | ⟨h2, h3, h4⟩
   ·rcases h5 with h5 | ⟨h5, _⟩ <;> omega
   ·rcases h5 with h5 | ⟨_, h5⟩
    ·omega
    ·have hr := S.room a b ha' hb' h3 h2
     rw [← S.lt (b + h) (a + h) hr.2 hr.1] at h5
     have := h4 hr.1 hr.2
     omega
 refine se_of (slen_of hn fun p => by rw [hm]; omega) hn hm hs fun i hi => ?_
 have ha := (hm _).1 (qaq (show i < (bks kd (ycq row s.length h) M).length by omega))
 have hb := (hm _).1 (qaq hi)
 have hne : (bks kd (ycq row s.length h) M)[i] ≠ (bks kd (ycq row s.length h) M)[i + 1] := fun e => by
  have := ybj hn (by omega) hi e
  omega
 generalize (bks kd (ycq row s.length h) M)[i] = a at *
 generalize (bks kd (ycq row s.length h) M)[i + 1] = b at *
 unfold ygs
 rw [qca, qcL, qcL]
 constructor
 ·rintro ⟨h2, h3⟩
  have hr := S.room a b ha hb hne h2
  exact pre_more ((S.eq a b ha hb).1 h2) ((S.eq _ _ hr.1 hr.2).1 h3)
 ·intro h2
  have h3 := pre_fst h2
  have hr := pre_room ha hb hne h3
  exact ⟨(S.eq a b ha hb).2 h3, (S.eq _ _ hr.1 hr.2).2 (pre_snd h2)⟩
def ygO (n k : Nat) : List Int := rng n fun j => if j < k then (j : Int) else 0
theorem supto_zero (n : Nat) : ygO n 0 = List.replicate n 0 := by
 rw [rng_zero]
 exact rng_ext fun j _ => qae (by omega)
theorem supto_step (n k : Nat) : (ygO n k).set k (k : Int) = ygO n (k + 1) := by
 refine yh7 _ _ fun j _ => ?_
 by_cases e : j = k
 ·subst e
  rw [qag rfl, qag (by omega)]
 ·rw [qae e]
  by_cases h : j < k
  ·rw [qag h, qag (by omega)]
  ·rw [qae h, qae (by omega)]
theorem supto_all (n : Nat) : ygO n n = splc (List.range n) := by
 apply qaY
 ·rw [yao, qa7]
  exact ybR _ _
 ·intro j h1 h2
  rw [yeJ, qbd]
  have : j < n := by
   have := ybR n (fun j => if j < n then (j : Int) else 0)
   have h3 : j < (rng n fun j => if j < n then (j : Int) else 0).length := h1
   omega
  exact (yc9 _ _ _ h1).trans (qag this)
theorem s_upto_any (n : Nat) (w : World) (hm : n ≤ 1000001) :
  Calls prog 159 #[.int .i64 (n : Int)] w fun e w' => e = .returned (.slice (some ⟨w.heap.size, 0, none⟩) n n) ∧ Blk w' w.heap.size 3 (ints (splc (List.range n))).toArray ∧ Below w.heap.size w w' := by
 have hni : (n : Int) ≤ 1000001 := by omega
 have hmk := fun w => ycM (n : Int) n rfl (by omega) w
 rw [← supto_zero] at hmk
 have HB0 := qaa (Blk.new w 3 (ints (ygO n 0)).toArray)
 have HO0 := qaa ((qak w.heap.size w).alloc (qad _) (.cells (ints (ygO n 0)).toArray 3))
 have Hset : Hid (∀ k, (ints (ygO n k)).toArray.setIfInBounds k (.int .i64 (k : Int)) = (ints (ygO n (k + 1))).toArray) := qaa fun k => by rw [yaH, supto_step]
 have Hlen : Hid (∀ k, (ygO n k).length = n) := qaa fun k => ybR _ _
 have Hall := qaa (supto_all n)
 generalize hg : w.heap.size = g at *
 go_enter func159, ntmps159
 go_wp2
 go_loopw [9] (fun i wr => ∃ k : Nat, k ≤ n ∧ i = .int .i64 k ∧ Hid (Blk wr g 3 (ints (ygO n k)).toArray) ∧ Hid (Below g w wr)) (fun i _ => n - (intOf i).toNat)
 case atStart => exact ⟨0, by omega, rfl, HB0, HO0⟩
 case round =>
  obtain ⟨k, hk, rfl, HB, HO⟩ := hrel
  clear HB0 HO0 hmk
  by_cases hlt : k < n
  ·have hki : (k : Int) < (n : Int) := by omega
   have x1 := yaL HB.out k (by rw [Hlen.out k]; exact hlt)
   have x2 := HB.out.frozen k
   have hgl := HB.out.lt
   have Hs := qaa (Hset.out k)
   generalize (ygO n k)[k]'(by rw [Hlen.out k]; exact hlt) = v0 at x1
   go_wp2
   go_roundw
   case rel => exact ⟨k + 1, by omega, iv (by omega), qaa (by rw [← Hs.out]; exact HB.out.set_ k _), qaa (HO.out.setCell (p := ⟨g, k, none⟩) (qad _) _)⟩
   case measure => simp only [intOf]; omega
  ·obtain rfl : k = n := by omega
   have hii : ¬ (k : Int) < (k : Int) := by omega
   have HF : Hid (Blk wr g 3 (ints (splc (List.range k))).toArray) := qaa (by rw [← Hall.out]; exact HB.out)
   go_wp2
   go_ret
   exact ⟨rfl, HF.out, HO.out⟩
def KRow (w : World) (k : IntKind) (key : Nat → Nat) (B : Option Addr) (m : Nat) (row : List Nat) : Prop :=
 ∀ p ∈ row, p < m ∧ ∃ b off, B = some ⟨b, off, none⟩ ∧ b < w.heap.size ∧ ∀ W, Below w.heap.size w W → W.cell? ⟨b, off + p, none⟩ = some (.int k (key p : Int))
theorem splc_at (l : List Nat) (i : Nat) (h : i < l.length) : (ints (splc l))[i]? = some (.int .i64 ((l[i] : Nat) : Int)) := by
 rw [yai _ i (by rw [yao]; exact h), yeJ]
theorem ydz {w : World} {A : Option Addr} {n : Nat} {row : List Nat} (hn : row.length = n) (hr : Reads w w.heap.size 1 A n (ints (splc row))) : ∀ W, Below w.heap.size w W → ∀ k (hk : k < row.length), ∃ b off, A = some ⟨b, off, none⟩ ∧ b < w.heap.size ∧ W.cell? ⟨b, off + k, none⟩ = some (.int .i64 ((row[k] : Nat) : Int)) := fun W hW k hk => by
 obtain ⟨b, off, e, hb, hc⟩ := hr.2 (by omega)
 exact ⟨b, off, e, hb, (hW.cell (p := ⟨b, off + k, none⟩) hb).trans (hc k _ (splc_at row k hk))⟩
theorem KRow.at {w : World} {K : IntKind} {key : Nat → Nat} {B : Option Addr} {m : Nat} {row : List Nat} (h : KRow w K key B m row) (hkey : ∀ p ∈ row, key p ≤ 1000000) : ∀ W, Below w.heap.size w W → ∀ k (hk : k < row.length), row[k] < m ∧ key row[k] ≤ 1000000 ∧ key row[k] ≤ bmax key row row.length ∧ ∃ b off, B = some ⟨b, off, none⟩ ∧ b < w.heap.size ∧ W.cell? ⟨b, off + row[k], none⟩ = some (.int K (key row[k] : Int)) := fun W hW k hk => by
 obtain ⟨h1, b, off, e, hb, hc⟩ := h _ (qaq hk)
 exact ⟨h1, hkey _ (qaq hk), by have := ygh key row _ (qaq hk); omega, b, off, e, hb, hc W hW⟩
theorem bmax_step (key : Nat → Nat) (row : List Nat) (k : Nat) (hk : k < row.length) : bmax key row (k + 1) = max (bmax key row k) (key row[k]) := by
 show max (bmax key row k) (key (row.getD k 0)) = _
 rw [yeq k hk]
theorem s_sorted_int (row : List Nat) (key : Nat → Nat) (A B : Option Addr) (n c m d : Nat) (w : World) (hn : row.length = n) (hm : n ≤ 1000001) (hkey : ∀ p ∈ row, key p ≤ 1000000) (hr : Reads w w.heap.size 1 A n (ints (splc row))) (hk : KRow w .i64 key B m row) :
  Calls prog 162 #[.slice A n c, .slice B m d] w fun e w' => ∃ g M, e = .returned (.slice (some ⟨g, 0, none⟩) n n) ∧ w.heap.size ≤ g ∧ (∀ p ∈ row, key p < M) ∧ Blk w' g 3 (ints (splc (bks key row M))).toArray ∧ Below w.heap.size w w' := by
 have hni : (n : Int) ≤ 1000001 := by omega
 have Hrow := qaa (ydz hn hr)
 have Hkey := qaa (hk.at fun p hp => qaA (hkey p hp) (by omega))
 have Hmx := qaa (bmax_le key row 1000000 hkey)
 have Hall := qaa (ygh key row)
 have Hstep := qaa (bmax_step key row)
 have Hn := qaa hn
 have HB0 := qaa (qak w.heap.size w)
 have Hg0 : Hid (∀ W : World, Below w.heap.size w W → w.heap.size ≤ W.heap.size) := qaa fun W h => h.size
 clear hr hk hkey hn
 go_enter func162, ntmps162
 go_wp2
 go_loop [5, 18] (fun mx i => ∃ k : Nat, k ≤ n ∧ i = .int .i64 k ∧ mx = .int .i64 (bmax key row k : Nat)) (fun _ i => n - (intOf i).toNat)
 case atStart => exact ⟨0, by omega, rfl, rfl⟩
 case round =>
  obtain ⟨k, hk, rfl, rfl⟩ := hrel
  by_cases hlt : k < n
  ·have hki : (0 : Int) ≤ (k : Int) ∧ (k : Int) < (n : Int) := by omega
   have hkl : k < row.length := by rw [Hn.out]; exact hlt
   obtain ⟨b, off, rfl, hbl, x1⟩ := Hrow.out w HB0.out k hkl
   obtain ⟨hp, hx, _, b2, off2, rfl, hbl2, x2⟩ := Hkey.out w HB0.out k hkl
   have Hs := qaa (Hstep.out k hkl)
   generalize row[k] = p at *
   generalize key p = x at *
   generalize bmax key row k = mx at *
   have hpi : (0 : Int) ≤ (p : Int) ∧ (p : Int) < (m : Int) := by omega
   by_cases hgt : mx < x
   ·have hgi : (mx : Int) < (x : Int) := by omega
    go_wp2
    go_round
    case rel => exact ⟨k + 1, by omega, iv (by omega), iv (by rw [Hs.out]; omega)⟩
    case measure => simp only [intOf]; omega
   ·have hgi : ¬ (mx : Int) < (x : Int) := by omega
    go_wp2
    go_round
    case rel => exact ⟨k + 1, by omega, iv (by omega), iv (by rw [Hs.out]; omega)⟩
    case measure => simp only [intOf]; omega
  ·obtain rfl : k = n := by omega
   have hmx := Hmx.out k (by rw [Hn.out]; exact qad _)
   have Hmxn : Hid (bmax key row row.length = bmax key row k) := qaa (by rw [Hn.out])
   generalize hMX : bmax key row k = mx at *
   have hmk := fun w => ycM ((mx : Int) + 2) (mx + 2) (by omega) (by omega) w
   rw [← bn1_zero key row mx] at hmk
   have hmxi : (0 : Int) ≤ (mx : Int) ∧ (mx : Int) ≤ 1000000 := by omega
   have HB1 := qaa (Blk.new w 3 (ints (bn1 key row mx 0)).toArray)
   have HO1 := qaa ((qak w.heap.size w).alloc (qad _) (.cells (ints (bn1 key row mx 0)).toArray 3))
   have hii : ¬ (k : Int) < (k : Int) := by omega
   generalize hg : w.heap.size = g at *
   go_wp2
   clear hmk
   go_loopw [34] (fun i wr => ∃ j : Nat, j ≤ k ∧ i = .int .i64 j ∧ Hid (Blk wr g 3 (ints (bn1 key row mx j)).toArray) ∧ Hid (Below g w wr)) (fun i _ => k - (intOf i).toNat)
   case atStart => exact ⟨0, by omega, rfl, HB1, HO1⟩
   case round =>
    obtain ⟨j, hj, rfl, HB, HO⟩ := hrel
    clear HB1 HO1
    by_cases hlt : j < k
    ·have hki : (0 : Int) ≤ (j : Int) ∧ (j : Int) < (k : Int) := by omega
     have hkl : j < row.length := by rw [Hn.out]; exact hlt
     obtain ⟨b, off, rfl, hbl, x1⟩ := Hrow.out wr HO.out j hkl
     obtain ⟨hp, hx, hxm, b2, off2, rfl, hbl2, x2⟩ := Hkey.out wr HO.out j hkl
     rw [Hmxn.out] at hxm
     have hlen : key row[j] + 1 < (bn1 key row mx j).length := by rw [bn1_len]; omega
     have x3 := yaL HB.out (key row[j] + 1) hlen
     rw [bn1_get] at x3
     have x4 := HB.out.frozen (key row[j] + 1)
     have hc := qaA (ycg key row j (key row[j])) (bcnt_le key row (key row[j]))
     rw [Hn.out] at hc
     have Hs := qaa (bn1_step key row mx j hkl)
     have hgl := HB.out.lt
     clear hlen
     generalize bcnt key (row.take j) (key row[j]) = cc at *
     generalize hpp : row[j] = p at *
     generalize key p = x at *
     have hpi : (0 : Int) ≤ (p : Int) ∧ (p : Int) < (m : Int) := by omega
     have hci : (0 : Int) ≤ (cc : Int) ∧ (cc : Int) ≤ 1000001 := by omega
     have hxi : (0 : Int) ≤ (x : Int) ∧ (x : Int) ≤ (mx : Int) := by omega
     clear hpp
     go_wp2
     go_roundw
     case rel => exact ⟨j + 1, by omega, iv (by omega), qaa (by rw [← Hs.out, ← yaH]; exact HB.out.set_ (x + 1) _), qaa (HO.out.setCell (p := ⟨g, x + 1, none⟩) (qad _) _)⟩
     case measure => simp only [intOf]; omega
    ·obtain rfl : j = k := by omega
     have hii : ¬ (j : Int) < (j : Int) := by omega
     have HB2 : Hid (Blk wr g 3 (ints (bn2 key row mx 0)).toArray) := qaa (by rw [← bn1_all, Hn.out]; exact HB.out)
     have HO2 := qaa HO.out
     clear HB HO
     go_wp2
     go_loopw [50] (fun i W => ∃ q : Nat, q ≤ mx ∧ i = .int .i64 q ∧ Hid (Blk W g 3 (ints (bn2 key row mx q)).toArray) ∧ Hid (Below g w W)) (fun i _ => mx - (intOf i).toNat)
     case atStart => exact ⟨0, by omega, rfl, HB2, HO2⟩
     case round =>
      obtain ⟨q, hq, rfl, HB, HO⟩ := hrel
      clear HB2 HO2
      by_cases hlt : q < mx
      ·have hki : (0 : Int) ≤ (q : Int) ∧ (q : Int) < (mx : Int) := by omega
       have x1 := yaL HB.out (q + 1) (by rw [bn2_len]; omega)
       have x2 := yaL HB.out q (by rw [bn2_len]; omega)
       rw [bn2_get1] at x1
       rw [bn2_get0] at x2
       have x4 := HB.out.frozen (q + 1)
       have hc := bcnt_le key row q
       have hc2 := bsum_le key row q
       rw [Hn.out] at hc hc2
       have Hs := qaa (bn2_step key row mx q)
       have hgl := HB.out.lt
       generalize bcnt key row q = cc at *
       generalize bsum key row q = cs at *
       have hci : (0 : Int) ≤ (cc : Int) ∧ (cc : Int) ≤ 1000001 ∧ (0 : Int) ≤ (cs : Int) ∧ (cs : Int) ≤ 1000001 := by omega
       go_wp2
       have hw1 : IntKind.i64.wrap ((q : Int) + 1) = (q : Int) + 1 := by rw [qal]; omega
       have hw2 : IntKind.i64.wrap ((cc : Int) + (cs : Int)) = (cc : Int) + (cs : Int) := by rw [qal]; omega
       have hb1 : 0 ≤ (q : Int) + 1 ∧ (q : Int) + 1 < (mx : Int) + 2 := by omega
       have hb0 : 0 ≤ (q : Int) ∧ (q : Int) < (mx : Int) + 2 := by omega
       refine qb2 11 (by kernel_rfl) (by kernel_rfl) ?_
       simp only [qaM, qbb, qbu, qbi]
       change wpStill _ _ (World.drew _) (fun a' => wpList _ _ _ _ a' (World.drew _)) _ _
       repeat still_step
       refine qc6 ?_
       go_wp2
       go_roundw
       case rel => exact ⟨q + 1, by omega, iv (by omega), qaa (by rw [← Hs.out, ← yaH]; exact HB.out.drew.set_ (q + 1) _), qaa (HO.out.drew.setCell (p := ⟨g, q + 1, none⟩) (qad _) _)⟩
       case measure => simp only [intOf]; omega
      ·obtain rfl : q = mx := by omega
       have hii2 : ¬ (q : Int) < (q : Int) := by omega
       have HB3 : Hid (Blk wr g 3 (ints (bn3 key row q 0)).toArray) := qaa (by rw [← bn2_all]; exact HB.out)
       have HO3 := qaa HO.out
       have hmk2 := fun w => ycM (j : Int) j rfl (by omega) w
       have e2 : List.replicate j 0 = bmid key row 0 (q + 1) := by
        rw [yhe, ydy key row (q + 1) (fun p hp => by have := Hall.out p hp; rw [Hmxn.out] at this; exact this), Hn.out]
       rw [e2] at hmk2
       clear HB HO
       have hgl := HB3.out.lt
       have HN := qaa (Blk.new wr 3 (ints (bmid key row 0 (q + 1))).toArray)
       have HB4 := qaa (HB3.out.alloc (.cells (ints (bmid key row 0 (q + 1))).toArray 3))
       have HO4 := qaa (HO3.out.alloc (Nat.le_of_lt hgl) (.cells (ints (bmid key row 0 (q + 1))).toArray 3))
       generalize hg2 : wr.heap.size = g2 at *
       clear HB3 HO3
       go_wp2
       clear hmk2 e2
       go_loopw [70] (fun i V => ∃ u : Nat, u ≤ j ∧ i = .int .i64 u ∧ Hid (Blk V g 3 (ints (bn3 key row q u)).toArray) ∧ Hid (Blk V g2 3 (ints (bmid key row u (q + 1))).toArray) ∧ Hid (Below g w V)) (fun i _ => j - (intOf i).toNat)
       case atStart => exact ⟨0, by omega, rfl, HB4, HN, HO4⟩
       case round =>
        obtain ⟨u, hu, rfl, HB, HC, HO⟩ := hrel
        clear HB4 HN HO4
        by_cases hlt : u < j
        ·have hki : (0 : Int) ≤ (u : Int) ∧ (u : Int) < (j : Int) := by omega
         have hkl : u < row.length := by rw [Hn.out]; exact hlt
         obtain ⟨b, off, rfl, hbl, x1⟩ := Hrow.out _ HO.out u hkl
         obtain ⟨hp, hx, hxm, b2, off2, rfl, hbl2, x2⟩ := Hkey.out _ HO.out u hkl
         rw [Hmxn.out] at hxm
         have hpl := bplace_lt key row u hkl
         rw [Hn.out] at hpl
         have x3 := yaL HB.out (key row[u]) (by rw [bn3_len]; omega)
         rw [bn3_get key row q u _ hxm] at x3
         have x4 := HB.out.frozen (key row[u])
         have hml : (bmid key row u (q + 1)).length = j := by
          rw [yfY, ydy key row (q + 1) (fun p hp => by have := Hall.out p hp; rw [Hmxn.out] at this; exact this), Hn.out]
         have x5 := yaL HC.out (bsum key row (key row[u]) + bcnt key (row.take u) (key row[u])) (by rw [hml]; exact hpl)
         have x6 := HC.out.frozen (bsum key row (key row[u]) + bcnt key (row.take u) (key row[u]))
         have Hs := qaa (bn3_step key row q u hkl hxm)
         have Hs2 := qaa (ygo key row u hkl (q + 1) (by omega))
         have hgl := HB.out.lt
         have hgl2 := HC.out.lt
         generalize (bmid key row u (q + 1))[bsum key row (key row[u]) + bcnt key (row.take u) (key row[u])]'(by rw [hml]; exact hpl) = vv at x5
         generalize bsum key row (key row[u]) + bcnt key (row.take u) (key row[u]) = at_ at *
         generalize hpp : row[u] = p at *
         generalize key p = x at *
         have hpi : (0 : Int) ≤ (p : Int) ∧ (p : Int) < (m : Int) := by omega
         have hci : (0 : Int) ≤ (at_ : Int) ∧ (at_ : Int) < (j : Int) := by omega
         have hxi : (0 : Int) ≤ (x : Int) ∧ (x : Int) ≤ (q : Int) := by omega
         have hne : g ≠ g2 := by omega
         have hne2 : g2 ≠ g := by omega
         clear hpp hml
         go_wp2
         go_roundw
         case rel => exact ⟨u + 1, by omega, iv (by omega), qaa (by rw [← Hs.out, ← yaH]; exact (HB.out.far (p := ⟨g2, at_, none⟩) hne _).set_ x _), qaa (by rw [← Hs2.out, ← yaH]; exact (HC.out.set_ at_ _).far (p := ⟨g, x, none⟩) hne2 _), qaa ((HO.out.setCell (p := ⟨g2, at_, none⟩) (by show g ≤ g2; omega) _).setCell (p := ⟨g, x, none⟩) (qad _) _)⟩
         case measure => simp only [intOf]; omega
        ·obtain rfl : u = j := by omega
         have hii3 : ¬ (u : Int) < (u : Int) := by omega
         have HF : Hid (Blk wr g2 3 (ints (splc (bks key row (q + 1)))).toArray) := qaa (by rw [← bmid_all, Hn.out]; exact HC.out)
         have HM : Hid (∀ p ∈ row, key p < q + 1) := qaa fun p hp => by have := Hall.out p hp; rw [Hmxn.out] at this; exact this
         have Hgg : Hid (g ≤ g2) := qaa (by omega)
         clear HB HC
         go_wp2
         go_ret
         first | exact ⟨g2, rfl, Hgg.out, q + 1, HM.out, HF.out, HO.out⟩ | exact ⟨g2, q + 1, rfl, Hgg.out, HM.out, HF.out, HO.out⟩
theorem sbyteD {s : List UInt8} {p : Nat} (h : p < s.length) : s.getD p 0 = s[p] := by rw [qaj, qah h]; rfl
theorem s_same1_any (s : List UInt8) (a b pb : Nat) (w : World) (ha : a ≤ s.length) (hb : b < s.length) (hs : s.length ≤ 1000000) (hP : w.cell? ⟨pb, 0, none⟩ = some (.string ⟨s.toArray⟩)) :
  Calls prog 160 #[.int .i64 (a : Int), .int .i64 (b : Int), .pointer (some ⟨pb, 0, none⟩)] w fun e w' => e = .returned (.bool (yfP s a b)) ∧ ∃ m, w' = w.drewN m := by
 have hi : (0 : Int) ≤ (a : Int) ∧ (a : Int) ≤ (s.length : Int) ∧ (0 : Int) ≤ (b : Int) ∧ (b : Int) < (s.length : Int) ∧ (s.length : Int) ≤ 1000000 := by omega
 by_cases h1 : a < s.length
 ·have b1 : decide ((a : Int) < (s.length : Int)) = true := by rw [qck]; omega
  have h1i : (a : Int) < (s.length : Int) := by omega
  have e1 : ∀ h, ((⟨s.toArray⟩ : ByteArray)[a]'h) = s[a] := fun h => rfl
  have e2 : ∀ h, ((⟨s.toArray⟩ : ByteArray)[b]'h) = s[b] := fun h => rfl
  by_cases h3 : s[a] = s[b]
  ·have b3 : ((s[a].toNat : Int) == (s[b].toNat : Int)) = true := by rw [h3]; simp
   have fin : yfP s a b = true := by unfold yfP; rw [sbyteD h1, sbyteD hb, h3]; simp [h1]
   rw [fin]
   clear fin h3
   go_enter func160, ntmps160
   go_wp2
   go_quiet (fail)
   go_wp2
   go_ret
   exact ⟨rfl, _, rfl⟩
  ·have b3 : ((s[a].toNat : Int) == (s[b].toNat : Int)) = false := by
    rw [qb0]
    intro e
    exact h3 (qc7.1 (by omega))
   have fin : yfP s a b = false := by unfold yfP; rw [sbyteD h1, sbyteD hb]; simp [h3]
   rw [fin]
   clear fin h3
   go_enter func160, ntmps160
   go_wp2
   go_quiet (fail)
   go_wp2
   go_ret
   exact ⟨rfl, _, rfl⟩
 ·have b1 : decide ((a : Int) < (s.length : Int)) = false := by rw [decide_eq_false_iff_not]; omega
  have fin : yfP s a b = false := by unfold yfP; simp [h1]
  rw [fin]
  clear fin
  go_enter func160, ntmps160
  go_wp2
  go_quiet (fail)
  go_wp2
  go_ret
  exact ⟨rfl, _, rfl⟩
def kL (kd : Nat → Nat) (n : Nat) : List Int := rng n fun p => (kd p : Int)
theorem kL_len (kd : Nat → Nat) (n : Nat) : (kL kd n).length = n := ybR _ _
theorem kL_get (kd : Nat → Nat) (n p : Nat) (h : p < (kL kd n).length) : (kL kd n)[p] = (kd p : Int) := yc9 _ _ _ h
theorem ycS {w : World} {g n : Nat} {t : TypeId} {kd : Nat → Nat} (h : Blk w g t (ints (kL kd n)).toArray) (p : Nat) (hp : p < n) : w.cell? ⟨g, p, none⟩ = some (.int .i64 (kd p : Int)) := by
 have hl : p < (kL kd n).length := by rw [kL_len]; exact hp
 have := yaL h p hl
 rwa [kL_get] at this
theorem s_same2_any (kd : Nat → Nat) (n h a b pb g c : Nat) (A : Option Addr) (w : World) (hn : n ≤ 1000001) (hh : h ≤ 1000001) (ha : a < n) (hb : b < n) (hr : kd a = kd b → a + h < n ∧ b + h < n)
  (hP : Blk w pb 155 #[.slice A n c, .slice (some ⟨g, 0, none⟩) n n, .int .i64 (h : Int)]) (hG : Blk w g 3 (ints (kL kd n)).toArray) :
  Calls prog 163 #[.int .i64 (a : Int), .int .i64 (b : Int), .pointer (some ⟨pb, 0, none⟩)] w fun e w' => e = .returned (.bool (ygs kd h a b)) ∧ ∃ m, w' = w.drewN m := by
 have hi : (0 : Int) ≤ (a : Int) ∧ (a : Int) < (n : Int) ∧ (0 : Int) ≤ (b : Int) ∧ (b : Int) < (n : Int) ∧ (n : Int) ≤ 1000001 ∧ (0 : Int) ≤ (h : Int) ∧ (h : Int) ≤ 1000001 := by omega
 have p1 : w.cell? ⟨pb, 1, none⟩ = some (.slice (some ⟨g, 0, none⟩) n n) := hP.cell 1
 have p2 : w.cell? ⟨pb, 2, none⟩ = some (.int .i64 (h : Int)) := hP.cell 2
 have c1 := ycS hG a ha
 have c2 := ycS hG b hb
 by_cases h1 : kd a = kd b
 ·obtain ⟨h2, h3⟩ := hr h1
  have c3 := ycS hG (a + h) h2
  have c4 := ycS hG (b + h) h3
  have hw1 : IntKind.i64.wrap ((a : Int) + (h : Int)) = (a : Int) + (h : Int) := by rw [qal]; omega
  have hw2 : IntKind.i64.wrap ((b : Int) + (h : Int)) = (b : Int) + (h : Int) := by rw [qal]; omega
  have hi2 : (a : Int) + (h : Int) < (n : Int) ∧ (b : Int) + (h : Int) < (n : Int) := by omega
  have b1 : ((kd a : Int) == (kd b : Int)) = true := by rw [h1]; simp
  by_cases h4 : kd (a + h) = kd (b + h)
  ·have b2 : ((kd (a + h) : Int) == (kd (b + h) : Int)) = true := by rw [h4]; simp
   have fin : ygs kd h a b = true := by unfold ygs; rw [h1, h4]; simp
   rw [fin]
   clear fin hP hG hr h1 h4
   generalize kd a = ka at *
   generalize kd b = kb at *
   generalize kd (a + h) = kc at *
   generalize kd (b + h) = ke at *
   go_enter func163, ntmps163
   go_wp2
   go_quiet (fail)
   go_wp2
   go_ret
   exact ⟨rfl, _, rfl⟩
  ·have b2 : ((kd (a + h) : Int) == (kd (b + h) : Int)) = false := by rw [qb0]; omega
   have fin : ygs kd h a b = false := by unfold ygs; simp [h4]
   rw [fin]
   clear fin hP hG hr h1 h4
   generalize kd a = ka at *
   generalize kd b = kb at *
   generalize kd (a + h) = kc at *
   generalize kd (b + h) = ke at *
   go_enter func163, ntmps163
   go_wp2
   go_quiet (fail)
   go_wp2
   go_ret
   exact ⟨rfl, _, rfl⟩
 ·have b1 : ((kd a : Int) == (kd b : Int)) = false := by rw [qb0]; omega
  have fin : ygs kd h a b = false := by unfold ygs; simp [h1]
  rw [fin]
  clear fin hP hG hr h1
  generalize kd a = ka at *
  generalize kd b = kb at *
  go_enter func163, ntmps163
  go_wp2
  go_quiet (fail)
  go_wp2
  go_ret
  exact ⟨rfl, _, rfl⟩
theorem ygW {P : Program} {f : FuncId} {args : Array Value} {w : World} {a n : Nat} {v : Value}
  (h : Calls P f args (w.drewN (a + n)) fun e w' => e = .returned v ∧ ∃ m, w' = (w.drewN (a + n)).drewN m) :
  Calls P f args (w.drewN (a + n)) fun e w'' => e = .returned v ∧ ∃ m, w'' = w.drewN (a + m) :=
 h.mono fun e w' ⟨he, m, hm⟩ => ⟨he, n + m, by rw [hm, World.drewN_drewN, qbU]⟩
theorem knum_next (row : List Nat) (sm : Nat → Nat → Bool) (n k : Nat) (hk : k + 1 < row.length) (v : Int) (hv : v = (knum row sm k row[k] : Nat) + (if sm row[k] row[k + 1] = true then 0 else 1)) :
  (kL (knum row sm k) n).set row[k + 1] v = kL (knum row sm (k + 1)) n := by
 subst hv
 refine yh7 _ _ fun p _ => ?_
 show ((if k + 1 < row.length ∧ p = row.getD (k + 1) 0 then knum row sm k (row.getD k 0) + (if sm (row.getD k 0) (row.getD (k + 1) 0) = true then 0 else 1) else knum row sm k p : Nat) : Int) = _
 rw [yeq _ hk, yeq _ (show k < row.length by omega)]
 by_cases e : p = row[k + 1]
 ·rw [qag ⟨hk, e⟩, qag e]
  split <;> omega
 ·rw [qae fun h => e h.2, qae e]
theorem knum_zero (row : List Nat) (sm : Nat → Nat → Bool) (n : Nat) : List.replicate n (0 : Int) = kL (knum row sm 0) n := rng_zero n
theorem knum_le {row : List Nat} (hn : row.Nodup) (sm : Nat → Nat → Bool) (k : Nat) (hk : k < row.length) : knum row sm k row[k] ≤ k := by
 rw [knum_at hn sm k k hk (qad _)]
 exact kN_le _ _ _
theorem ydK (row : List Nat) (sm : Nat → Nat → Bool) (A : Option Addr) (n c pb : Nat) (G : FuncId) (w : World)
  (hS : ∀ W, Below w.heap.size w W → ∀ k (hk : k + 1 < row.length), Calls prog G #[.int .i64 ((row[k] : Nat) : Int), .int .i64 ((row[k + 1] : Nat) : Int), .pointer (some ⟨pb, 0, none⟩)] W fun e W' => e = .returned (.bool (sm row[k] row[k + 1])) ∧ ∃ m, W' = W.drewN m)
  (hn : row.length = n) (hm : n ≤ 1000001) (hnd : row.Nodup) (hb : ∀ p ∈ row, p < n) (hr : Reads w w.heap.size 1 A n (ints (splc row)))
  (eg : ∀ args w, (callFunc G args).run prog w = .ok (.enter G args) w)
  :
  Calls prog 161 #[.slice A n c, .func (.func G) #[] #[.pointer (some ⟨pb, 0, none⟩)]] w fun e w' => ∃ g, e = .returned (.slice (some ⟨g, 0, none⟩) n n) ∧ w.heap.size ≤ g ∧ Blk w' g 3 (ints (kL (knum row sm (n - 1)) n)).toArray ∧ Below w.heap.size w w' := by
 have hni : (n : Int) ≤ 1000001 := by omega
 have Hrow := qaa (ydz hn hr)
 have Hn := qaa hn
 have HS := qaa hS
 have Hbd : Hid (∀ k (hk : k < row.length), row[k] < n) := qaa fun k hk => hb _ (qaq hk)
 have Hle := qaa (knum_le hnd sm)
 have Hnext := qaa (knum_next row sm n)
 have hmk := fun w => ycM (n : Int) n rfl (by omega) w
 rw [knum_zero row sm n] at hmk
 have HB0 := qaa (Blk.new w 3 (ints (kL (knum row sm 0) n)).toArray)
 have HO0 := qaa ((qak w.heap.size w).alloc (qad _) (.cells (ints (kL (knum row sm 0) n)).toArray 3))
 clear hr hS hb hnd hn
 generalize hg : w.heap.size = g at *
 go_enter func161, ntmps161
 go_wp2
 clear hmk
 by_cases hn0 : n = 0
 ·subst hn0
  go_loopw [6] (fun i wr => i = .int .i64 1 ∧ Hid (Blk wr g 3 (ints (kL (knum row sm 0) 0)).toArray) ∧ Hid (Below g w wr)) (fun _ _ => 0)
  case atStart => exact ⟨rfl, HB0, HO0⟩
  case round =>
   obtain ⟨rfl, HB, HO⟩ := hrel
   go_wp2
   go_ret
   exact ⟨g, rfl, qad _, HB.out, HO.out⟩
 ·have hn1 : 1 ≤ n := by omega
  go_loopw [6] (fun i wr => ∃ k m : Nat, k + 1 = m ∧ m ≤ n ∧ i = .int .i64 m ∧ Hid (Blk wr g 3 (ints (kL (knum row sm k) n)).toArray) ∧ Hid (Below g w wr)) (fun i _ => n - (intOf i).toNat)
  case atStart => exact ⟨0, 1, rfl, hn1, rfl, HB0, HO0⟩
  case round =>
   obtain ⟨k, m, hkm, hk, rfl, HB, HO⟩ := hrel
   clear HB0 HO0
   by_cases hlt : m < n
   ·have hki : ((0 : Int) ≤ (k : Int) ∧ (k : Int) < (n : Int)) ∧ (0 : Int) ≤ (m : Int) ∧ (m : Int) < (n : Int) := by omega
    have hkk := hki.1
    have hkl : k + 1 < row.length := by rw [Hn.out]; omega
    obtain ⟨b0, off, rfl, hbl, x1⟩ := Hrow.out wr HO.out (k + 1) hkl
    obtain ⟨_, _, e9, _, x2⟩ := Hrow.out wr HO.out k (by omega)
    injection e9 with e9
    injection e9 with e9 e10
    subst e9
    subst e10
    have ha := Hbd.out k (by omega)
    have hb := Hbd.out (k + 1) hkl
    have hna := Hle.out k (by omega)
    have x3 := ycS HB.out _ ha
    have x5 := ycS HB.out _ hb
    have x4 := HB.out.frozen row[k + 1]
    have Hs := qaa (Hnext.out k hkl)
    have HC := qaa fun W hW => HS.out W hW k hkl
    generalize hra : row[k] = a at *
    generalize hrb : row[k + 1] = b at *
    rw [hkm] at x1
    have hgl := HB.out.lt
    have hai : (0 : Int) ≤ (a : Int) ∧ (a : Int) < (n : Int) ∧ (0 : Int) ≤ (b : Int) ∧ (b : Int) < (n : Int) := by omega
    have hnai : (0 : Int) ≤ (knum row sm k a : Int) ∧ (knum row sm k a : Int) ≤ 1000001 := by omega
    have HW1 : Hid (∀ q v, Below g w ((wr.setCell ⟨g, b, none⟩ v).drewN q)) := qaa fun q v => yaj (HO.out.setCell (p := ⟨g, b, none⟩) (qad _) v) q
    generalize knum row sm k a = na at *
    generalize knum row sm k b = nb at *
    have hsub : (m : Int) - 1 = (k : Int) := by omega
    have hw1 : IntKind.i64.wrap ((m : Int) - 1) = (k : Int) := by rw [qal]; omega
    have hw2 : IntKind.i64.wrap (k : Int) = (k : Int) := by rw [qal]; omega
    clear hra hrb hna Hle
    cases hsm : sm a b with
    | true =>
     rw [hsm] at HC Hs
     have Hs2 := qaa (Hs.out na (by simp))
     clear Hs hsm
     go_wp2
     refine qb2 14 (by kernel_rfl) (by kernel_rfl) ?_
     simp only [qaM, qbb, qbu, qbi]
     change wpStill _ _ (World.drew _) (fun a' => wpList _ _ _ _ a' (World.drew _)) _ _
     repeat still_step
     refine qc6 ?_
     go_wp2
     go_quiet (exact ygW (HC.out _ (HW1.out _ _)))
     go_wp2
     go_roundw
     case rel => exact ⟨k + 1, m + 1, by omega, by omega, iv (by omega), qaa (by rw [← Hs2.out, ← yaH]; exact (HB.out.set_ b _).drewN _), qaa (HW1.out _ _)⟩
     case measure => simp only [intOf]; omega
    | false =>
     rw [hsm] at HC Hs
     have Hs2 := qaa (Hs.out ((na : Int) + 1) (by simp))
     clear Hs hsm
     go_wp2
     refine qb2 14 (by kernel_rfl) (by kernel_rfl) ?_
     simp only [qaM, qbb, qbu, qbi]
     change wpStill _ _ (World.drew _) (fun a' => wpList _ _ _ _ a' (World.drew _)) _ _
     repeat still_step
     refine qc6 ?_
     go_wp2
     go_quiet (exact ygW (HC.out _ (HW1.out _ _)))
     go_wp2
     go_roundw
     case rel => exact ⟨k + 1, m + 1, by omega, by omega, iv (by omega), qaa (by rw [← Hs2.out, ← List.set_set (a := (na : Int)), ← yaH, ← yaH]; exact ((HB.out.set_ b _).drewN _).set_ b _), qaa ((HW1.out _ _).setCell (p := ⟨g, b, none⟩) (qad _) _)⟩
     case measure => simp only [intOf]; omega
   ·obtain rfl : m = n := by omega
    have hii : ¬ (m : Int) < (m : Int) := by omega
    have HF : Hid (Blk wr g 3 (ints (kL (knum row sm (m - 1)) m)).toArray) := qaa (by rw [show m - 1 = k from by omega]; exact HB.out)
    go_wp2
    go_ret
    exact ⟨g, rfl, qad _, HF.out, HO.out⟩
theorem yaK (row : List Nat) (key : Nat → Nat) (A B : Option Addr) (n c m d : Nat) (w : World) (hn : row.length = n) (hm : n ≤ 1000001) (hkey : ∀ p ∈ row, key p ≤ 255) (hr : Reads w w.heap.size 1 A n (ints (splc row))) (hk : KRow w .u8 key B m row) :
  Calls prog 158 #[.slice A n c, .slice B m d] w fun e w' => ∃ g M, e = .returned (.slice (some ⟨g, 0, none⟩) n n) ∧ w.heap.size ≤ g ∧ (∀ p ∈ row, key p < M) ∧ Blk w' g 3 (ints (splc (bks key row M))).toArray ∧ Below w.heap.size w w' := by
 have hni : (n : Int) ≤ 1000001 := by omega
 have Hrow := qaa (ydz hn hr)
 have Hkey := qaa (hk.at fun p hp => qaA (hkey p hp) (by omega))
 have Hmx := qaa (bmax_le key row 255 hkey)
 have Hall := qaa (ygh key row)
 have Hstep := qaa (bmax_step key row)
 have Hn := qaa hn
 have HB0 := qaa (qak w.heap.size w)
 have Hg0 : Hid (∀ W : World, Below w.heap.size w W → w.heap.size ≤ W.heap.size) := qaa fun W h => h.size
 clear hr hk hkey hn
 go_enter func158, ntmps158
 go_wp2
 go_loop [5, 18] (fun mx i => ∃ k : Nat, k ≤ n ∧ i = .int .i64 k ∧ mx = .int .u8 (bmax key row k : Nat)) (fun _ i => n - (intOf i).toNat)
 case atStart => exact ⟨0, by omega, rfl, rfl⟩
 case round =>
  obtain ⟨k, hk, rfl, rfl⟩ := hrel
  by_cases hlt : k < n
  ·have hki : (0 : Int) ≤ (k : Int) ∧ (k : Int) < (n : Int) := by omega
   have hkl : k < row.length := by rw [Hn.out]; exact hlt
   obtain ⟨b, off, rfl, hbl, x1⟩ := Hrow.out w HB0.out k hkl
   obtain ⟨hp, hx, _, b2, off2, rfl, hbl2, x2⟩ := Hkey.out w HB0.out k hkl
   have Hs := qaa (Hstep.out k hkl)
   generalize row[k] = p at *
   generalize key p = x at *
   generalize bmax key row k = mx at *
   have hpi : (0 : Int) ≤ (p : Int) ∧ (p : Int) < (m : Int) := by omega
   by_cases hgt : mx < x
   ·have hgi : (mx : Int) < (x : Int) := by omega
    go_wp2
    go_round
    case rel => exact ⟨k + 1, by omega, iv (by omega), iv (by rw [Hs.out]; omega)⟩
    case measure => simp only [intOf]; omega
   ·have hgi : ¬ (mx : Int) < (x : Int) := by omega
    go_wp2
    go_round
    case rel => exact ⟨k + 1, by omega, iv (by omega), iv (by rw [Hs.out]; omega)⟩
    case measure => simp only [intOf]; omega
  ·obtain rfl : k = n := by omega
   have hmx := Hmx.out k (by rw [Hn.out]; exact qad _)
   have Hmxn : Hid (bmax key row row.length = bmax key row k) := qaa (by rw [Hn.out])
   generalize hMX : bmax key row k = mx at *
   have hmk := fun w => ycM ((mx : Int) + 2) (mx + 2) (by omega) (by omega) w
   rw [← bn1_zero key row mx] at hmk
   have hmxi : (0 : Int) ≤ (mx : Int) ∧ (mx : Int) ≤ 255 := by omega
   have HB1 := qaa (Blk.new w 3 (ints (bn1 key row mx 0)).toArray)
   have HO1 := qaa ((qak w.heap.size w).alloc (qad _) (.cells (ints (bn1 key row mx 0)).toArray 3))
   have hii : ¬ (k : Int) < (k : Int) := by omega
   generalize hg : w.heap.size = g at *
   go_wp2
   clear hmk
   go_loopw [35] (fun i wr => ∃ j : Nat, j ≤ k ∧ i = .int .i64 j ∧ Hid (Blk wr g 3 (ints (bn1 key row mx j)).toArray) ∧ Hid (Below g w wr)) (fun i _ => k - (intOf i).toNat)
   case atStart => exact ⟨0, by omega, rfl, HB1, HO1⟩
   case round =>
    obtain ⟨j, hj, rfl, HB, HO⟩ := hrel
    clear HB1 HO1
    by_cases hlt : j < k
    ·have hki : (0 : Int) ≤ (j : Int) ∧ (j : Int) < (k : Int) := by omega
     have hkl : j < row.length := by rw [Hn.out]; exact hlt
     obtain ⟨b, off, rfl, hbl, x1⟩ := Hrow.out wr HO.out j hkl
     obtain ⟨hp, hx, hxm, b2, off2, rfl, hbl2, x2⟩ := Hkey.out wr HO.out j hkl
     rw [Hmxn.out] at hxm
     have hlen : key row[j] + 1 < (bn1 key row mx j).length := by rw [bn1_len]; omega
     have x3 := yaL HB.out (key row[j] + 1) hlen
     rw [bn1_get] at x3
     have x4 := HB.out.frozen (key row[j] + 1)
     have hc := qaA (ycg key row j (key row[j])) (bcnt_le key row (key row[j]))
     rw [Hn.out] at hc
     have Hs := qaa (bn1_step key row mx j hkl)
     have hgl := HB.out.lt
     clear hlen
     generalize bcnt key (row.take j) (key row[j]) = cc at *
     generalize hpp : row[j] = p at *
     generalize key p = x at *
     have hpi : (0 : Int) ≤ (p : Int) ∧ (p : Int) < (m : Int) := by omega
     have hci : (0 : Int) ≤ (cc : Int) ∧ (cc : Int) ≤ 1000001 := by omega
     have hxi : (0 : Int) ≤ (x : Int) ∧ (x : Int) ≤ (mx : Int) := by omega
     clear hpp
     go_wp2
     go_roundw
     case rel => exact ⟨j + 1, by omega, iv (by omega), qaa (by rw [← Hs.out, ← yaH]; exact HB.out.set_ (x + 1) _), qaa (HO.out.setCell (p := ⟨g, x + 1, none⟩) (qad _) _)⟩
     case measure => simp only [intOf]; omega
    ·obtain rfl : j = k := by omega
     have hii : ¬ (j : Int) < (j : Int) := by omega
     have HB2 : Hid (Blk wr g 3 (ints (bn2 key row mx 0)).toArray) := qaa (by rw [← bn1_all, Hn.out]; exact HB.out)
     have HO2 := qaa HO.out
     clear HB HO
     go_wp2
     go_loopw [53] (fun i W => ∃ q : Nat, q ≤ mx ∧ i = .int .i64 q ∧ Hid (Blk W g 3 (ints (bn2 key row mx q)).toArray) ∧ Hid (Below g w W)) (fun i _ => mx - (intOf i).toNat)
     case atStart => exact ⟨0, by omega, rfl, HB2, HO2⟩
     case round =>
      obtain ⟨q, hq, rfl, HB, HO⟩ := hrel
      clear HB2 HO2
      by_cases hlt : q < mx
      ·have hki : (0 : Int) ≤ (q : Int) ∧ (q : Int) < (mx : Int) := by omega
       have x1 := yaL HB.out (q + 1) (by rw [bn2_len]; omega)
       have x2 := yaL HB.out q (by rw [bn2_len]; omega)
       rw [bn2_get1] at x1
       rw [bn2_get0] at x2
       have x4 := HB.out.frozen (q + 1)
       have hc := bcnt_le key row q
       have hc2 := bsum_le key row q
       rw [Hn.out] at hc hc2
       have Hs := qaa (bn2_step key row mx q)
       have hgl := HB.out.lt
       generalize bcnt key row q = cc at *
       generalize bsum key row q = cs at *
       have hci : (0 : Int) ≤ (cc : Int) ∧ (cc : Int) ≤ 1000001 ∧ (0 : Int) ≤ (cs : Int) ∧ (cs : Int) ≤ 1000001 := by omega
       go_wp2
       have hw1 : IntKind.i64.wrap ((q : Int) + 1) = (q : Int) + 1 := by rw [qal]; omega
       have hw2 : IntKind.i64.wrap ((cc : Int) + (cs : Int)) = (cc : Int) + (cs : Int) := by rw [qal]; omega
       have hb1 : 0 ≤ (q : Int) + 1 ∧ (q : Int) + 1 < (mx : Int) + 2 := by omega
       have hb0 : 0 ≤ (q : Int) ∧ (q : Int) < (mx : Int) + 2 := by omega
       refine qb2 11 (by kernel_rfl) (by kernel_rfl) ?_
       simp only [qaM, qbb, qbu, qbi]
       change wpStill _ _ (World.drew _) (fun a' => wpList _ _ _ _ a' (World.drew _)) _ _
       repeat still_step
       refine qc6 ?_
       go_wp2
       go_roundw
       case rel => exact ⟨q + 1, by omega, iv (by omega), qaa (by rw [← Hs.out, ← yaH]; exact HB.out.drew.set_ (q + 1) _), qaa (HO.out.drew.setCell (p := ⟨g, q + 1, none⟩) (qad _) _)⟩
       case measure => simp only [intOf]; omega
      ·obtain rfl : q = mx := by omega
       have hii2 : ¬ (q : Int) < (q : Int) := by omega
       have HB3 : Hid (Blk wr g 3 (ints (bn3 key row q 0)).toArray) := qaa (by rw [← bn2_all]; exact HB.out)
       have HO3 := qaa HO.out
       have hmk2 := fun w => ycM (j : Int) j rfl (by omega) w
       have e2 : List.replicate j 0 = bmid key row 0 (q + 1) := by
        rw [yhe, ydy key row (q + 1) (fun p hp => by have := Hall.out p hp; rw [Hmxn.out] at this; exact this), Hn.out]
       rw [e2] at hmk2
       clear HB HO
       have hgl := HB3.out.lt
       have HN := qaa (Blk.new wr 3 (ints (bmid key row 0 (q + 1))).toArray)
       have HB4 := qaa (HB3.out.alloc (.cells (ints (bmid key row 0 (q + 1))).toArray 3))
       have HO4 := qaa (HO3.out.alloc (Nat.le_of_lt hgl) (.cells (ints (bmid key row 0 (q + 1))).toArray 3))
       generalize hg2 : wr.heap.size = g2 at *
       clear HB3 HO3
       go_wp2
       clear hmk2 e2
       go_loopw [73] (fun i V => ∃ u : Nat, u ≤ j ∧ i = .int .i64 u ∧ Hid (Blk V g 3 (ints (bn3 key row q u)).toArray) ∧ Hid (Blk V g2 3 (ints (bmid key row u (q + 1))).toArray) ∧ Hid (Below g w V)) (fun i _ => j - (intOf i).toNat)
       case atStart => exact ⟨0, by omega, rfl, HB4, HN, HO4⟩
       case round =>
        obtain ⟨u, hu, rfl, HB, HC, HO⟩ := hrel
        clear HB4 HN HO4
        by_cases hlt : u < j
        ·have hki : (0 : Int) ≤ (u : Int) ∧ (u : Int) < (j : Int) := by omega
         have hkl : u < row.length := by rw [Hn.out]; exact hlt
         obtain ⟨b, off, rfl, hbl, x1⟩ := Hrow.out _ HO.out u hkl
         obtain ⟨hp, hx, hxm, b2, off2, rfl, hbl2, x2⟩ := Hkey.out _ HO.out u hkl
         rw [Hmxn.out] at hxm
         have hpl := bplace_lt key row u hkl
         rw [Hn.out] at hpl
         have x3 := yaL HB.out (key row[u]) (by rw [bn3_len]; omega)
         rw [bn3_get key row q u _ hxm] at x3
         have x4 := HB.out.frozen (key row[u])
         have hml : (bmid key row u (q + 1)).length = j := by
          rw [yfY, ydy key row (q + 1) (fun p hp => by have := Hall.out p hp; rw [Hmxn.out] at this; exact this), Hn.out]
         have x5 := yaL HC.out (bsum key row (key row[u]) + bcnt key (row.take u) (key row[u])) (by rw [hml]; exact hpl)
         have x6 := HC.out.frozen (bsum key row (key row[u]) + bcnt key (row.take u) (key row[u]))
         have Hs := qaa (bn3_step key row q u hkl hxm)
         have Hs2 := qaa (ygo key row u hkl (q + 1) (by omega))
         have hgl := HB.out.lt
         have hgl2 := HC.out.lt
         generalize (bmid key row u (q + 1))[bsum key row (key row[u]) + bcnt key (row.take u) (key row[u])]'(by rw [hml]; exact hpl) = vv at x5
         generalize bsum key row (key row[u]) + bcnt key (row.take u) (key row[u]) = at_ at *
         generalize hpp : row[u] = p at *
         generalize key p = x at *
         have hpi : (0 : Int) ≤ (p : Int) ∧ (p : Int) < (m : Int) := by omega
         have hci : (0 : Int) ≤ (at_ : Int) ∧ (at_ : Int) < (j : Int) := by omega
         have hxi : (0 : Int) ≤ (x : Int) ∧ (x : Int) ≤ (q : Int) := by omega
         have hne : g ≠ g2 := by omega
         have hne2 : g2 ≠ g := by omega
         clear hpp hml
         go_wp2
         go_roundw
         case rel => exact ⟨u + 1, by omega, iv (by omega), qaa (by rw [← Hs.out, ← yaH]; exact (HB.out.far (p := ⟨g2, at_, none⟩) hne _).set_ x _), qaa (by rw [← Hs2.out, ← yaH]; exact (HC.out.set_ at_ _).far (p := ⟨g, x, none⟩) hne2 _), qaa ((HO.out.setCell (p := ⟨g2, at_, none⟩) (by show g ≤ g2; omega) _).setCell (p := ⟨g, x, none⟩) (qad _) _)⟩
         case measure => simp only [intOf]; omega
        ·obtain rfl : u = j := by omega
         have hii3 : ¬ (u : Int) < (u : Int) := by omega
         have HF : Hid (Blk wr g2 3 (ints (splc (bks key row (q + 1)))).toArray) := qaa (by rw [← bmid_all, Hn.out]; exact HC.out)
         have HM : Hid (∀ p ∈ row, key p < q + 1) := qaa fun p hp => by have := Hall.out p hp; rw [Hmxn.out] at this; exact this
         have Hgg : Hid (g ≤ g2) := qaa (by omega)
         clear HB HC
         go_wp2
         go_ret
         first | exact ⟨g2, rfl, Hgg.out, q + 1, HM.out, HF.out, HO.out⟩ | exact ⟨g2, q + 1, rfl, Hgg.out, HM.out, HF.out, HO.out⟩
end Go.Proofs.YtanjhbkbpalnaaaGreat
