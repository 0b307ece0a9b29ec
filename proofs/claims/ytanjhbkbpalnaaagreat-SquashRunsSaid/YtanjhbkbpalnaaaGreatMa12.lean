/-
 What the law of the last of these texts stands on, part 12.
-/
import Derived.Test.YtanjhbkbpalnaaaGreatMa11
import Derived.Laws.CopyOwn
import Derived.Laws.Bits64b
set_option maxRecDepth 100000
set_option maxHeartbeats 8000000
open Go.Proofs.Tryz
namespace Go.Proofs.YtanjhbkbpalnaaaGreat
set_option linter.unusedSimpArgs false
set_option linter.unusedVariables false
open Go.ChangeShapes Go.WideShapes Go.ChangeAt Go.RowKit Go.Joins Go.Deep
def yfC (s : List UInt8) (p : Nat) : Option UInt8 := if p = 0 then none else some (s.getD (p - 1) 0)
def yaV (s : List UInt8) : List UInt8 := (sarr s).filterMap (yfC s)
def bpr (s : List UInt8) : Nat := (sarr s).idxOf 0
def bval (s : List UInt8) (p : Nat) : Int := if p = 0 then -1 else ((s.getD (p - 1) 0).toNat : Int)
def sbw (s : List UInt8) : List Int := (sarr s).map (bval s)
theorem wfm (s : List UInt8) : ∀ A : List Nat, 0 ∉ A → A.filterMap (yfC s) = A.map (fun p => s.getD (p - 1) 0)
 | [], _ => rfl
 | p :: A, h => by
  have hp : p ≠ 0 := fun e => h (by rw [e]; exact qa5 ..)
  rw [List.filterMap_cons_some (b := s.getD (p - 1) 0) (by unfold yfC; rw [qae hp]), qcz, wfm s A fun h2 => h (qa4 _ h2)]
theorem wfb (s : List UInt8) : ∀ A : List Nat, 0 ∉ A → bbs (A.map (fun p => s.getD (p - 1) 0)) = A.map (bval s)
 | [], _ => rfl
 | p :: A, h => by
  have hp : p ≠ 0 := fun e => h (by rw [e]; exact qa5 ..)
  have ih := wfb s A fun h2 => h (qa4 _ h2)
  have hv : bval s p = ((s.getD (p - 1) 0).toNat : Int) := qae hp
  rw [qcz, qcz, ← ih, hv]
  rfl
theorem widx : ∀ (A B : List Nat), 0 ∉ A → (A ++ 0 :: B).idxOf 0 = A.length
 | [], B, _ => by simp
 | a :: A, B, h => by
  have ha : a ≠ 0 := fun e => h (by rw [e]; exact qa5 ..)
  rw [qb3, List.idxOf_cons, widx A B fun h2 => h (qa4 _ h2), show (a == 0) = false from qb0.2 ha]
  rfl
theorem bsplit (s : List UInt8) : ∃ A B, sarr s = A ++ 0 :: B ∧ 0 ∉ A ∧ 0 ∉ B := by
 obtain ⟨A, B, e⟩ := List.append_of_mem ((yd7 s 0).2 (by omega))
 have hn := yeW s
 rw [e, List.nodup_append] at hn
 refine ⟨A, B, e, fun h => hn.2.2 0 h 0 (qa5 ..) rfl, (List.nodup_cons.1 hn.2.1).1⟩
theorem bparts (s : List UInt8) : yaV s = (yaV s).take (bpr s) ++ (yaV s).drop (bpr s) ∧ bpr s ≤ (yaV s).length ∧ (yaV s).length = s.length ∧ bcol (yaV s) (bpr s) = sbw s := by
 obtain ⟨A, B, e, hA, hB⟩ := bsplit s
 have h1 : yaV s = A.map (fun p => s.getD (p - 1) 0) ++ B.map (fun p => s.getD (p - 1) 0) := by
  unfold yaV
  rw [e, List.filterMap_append, List.filterMap_cons_none (by rfl), wfm s A hA, wfm s B hB]
 have h2 : bpr s = A.length := by
  unfold bpr
  rw [e, widx A B hA]
 have h3 := yb0 s
 rw [e, qab, qap] at h3
 refine ⟨(qax _ _).symm, ?_, ?_, ?_⟩
 ·rw [h1, h2, qab, qaD]
  omega
 ·rw [h1, qab, qaD, qaD]
  omega
 ·unfold bcol sbw
  rw [h1, h2, qcd (by rw [qaD]), qbK (by rw [qaD]), wfb s A hA, wfb s B hB, e, qcv, qcz]
  rfl
theorem yaT (s : List UInt8) : (yaV s).length = s.length := (bparts s).2.2.1
theorem yf4 (s : List UInt8) : bpr s ≤ s.length := by rw [← yaT s]; exact (bparts s).2.1
theorem bcol_sbw (s : List UInt8) : bcol (yaV s) (bpr s) = sbw s := (bparts s).2.2.2
theorem sbw_len (s : List UInt8) : (sbw s).length = s.length + 1 := by unfold sbw; rw [qaD, yb0]
theorem sbw_get (s : List UInt8) (i : Nat) (h : i < (sarr s).length) : (sbw s).getD i 0 = bval s (sarr s)[i] := by
 rw [qaj, qah (by rw [sbw_len, ← yb0 s]; exact h)]
 simp [sbw]
theorem bpr_get (s : List UInt8) : ∃ h : bpr s < (sarr s).length, (sarr s)[bpr s] = 0 := by
 have h : (sarr s).idxOf 0 < (sarr s).length := List.idxOf_lt_length_of_mem ((yd7 s 0).2 (by omega))
 exact ⟨h, List.getElem_idxOf h⟩
theorem bat (s : List UInt8) (p : Nat) (h : p < s.length + 1) : ∃ k, ∃ hk : k < (sarr s).length, (sarr s)[k] = p := by
 obtain ⟨k, hk, e⟩ := qaJ ((yd7 s p).2 h)
 exact ⟨k, hk, e⟩
theorem sarr_first (s : List UInt8) : ∃ h : 0 < (sarr s).length, (sarr s)[0] = s.length := by
 have hl := yb0 s
 obtain ⟨k, hk, e⟩ := bat s s.length (by omega)
 cases k with
 | zero => exact ⟨hk, e⟩
 | succ k =>
  have := yb6 (ybU s) 0 (k + 1) (by omega) hk (by omega)
  rw [e] at this
  unfold slt at this
  rw [qcI, ycr] at this
  cases this
theorem bpr_pos (s : List UInt8) (h : 0 < s.length) : 0 < bpr s := by
 obtain ⟨h1, e1⟩ := bpr_get s
 obtain ⟨h2, e2⟩ := sarr_first s
 refine Nat.pos_of_ne_zero fun e => ?_
 have : (sarr s)[bpr s]'h1 = (sarr s)[0]'h2 := by simp only [e]
 omega
theorem blast_perm (s : List UInt8) : (yaV s).Perm s := by
 have h := (yen s).filterMap (yfC s)
 have e : (List.range (s.length + 1)).filterMap (yfC s) = s := by
  rw [List.range_succ_eq_map, List.filterMap_cons_none (by rfl), wfm s _ (by simp), List.map_map]
  apply qaY
  ·simp
  ·intro i h1 h2
   simp [h2]
 rw [e] at h
 exact h
theorem slt_row (s : List UInt8) (i k : Nat) (hi : i < (sarr s).length) (hk : k < (sarr s).length) : slt s (sarr s)[k] (sarr s)[i] = decide (k < i) := by
 by_cases h : k < i
 ·rw [yb6 (ybU s) k i hk hi h, qbZ h]
 ·rw [qbX h]
  by_cases e : k = i
  ·subst e
   exact (yco s).irr _
  ·exact (yco s).asym _ _ (yb6 (ybU s) i k hi hk (by omega))
theorem bslt_step (s : List UInt8) (q p : Nat) (hq : q < s.length) (hp : p < s.length) : slt s q p = true ↔ s[q].toNat < s[p].toNat ∨ (s[q] = s[p] ∧ slt s (q + 1) (p + 1) = true) := by
 unfold slt
 rw [qau hq, qau hp]
 exact ydb _ _ _ _
theorem blf (s : List UInt8) (i p : Nat) (hi : i < (sarr s).length) (hp : (sarr s)[i] = p + 1) : ∃ h : brk (sbw s) i < (sarr s).length, (sarr s)[brk (sbw s) i] = p := by
 have hle := sarr_le s i hi
 have hl := yb0 s
 obtain ⟨k, hk, e⟩ := bat s p (by omega)
 have hc := wsort_idx (yco s) (ybU s) k hk
 rw [e, (yen s).countP_eq, List.range_succ, qbD, qc0] at hc
 have hlast : slt s s.length p = true := by
  unfold slt
  rw [qcI, qau (show p < s.length by omega)]
  rfl
 rw [qag hlast] at hc
 have hb : brk (sbw s) i = (sarr s).countP fun q => q == 0 || slt s (q - 1) p := by
  unfold brk
  rw [sbw_len, ← hl]
  have e2 : (sarr s).countP (fun q => q == 0 || slt s (q - 1) p) = ((List.range (sarr s).length).map fun k => (sarr s).getD k 0).countP (fun q => q == 0 || slt s (q - 1) p) := by
   congr 1
   apply qaY
   ·simp
   ·intro j h1 h2
    simp [h1]
  rw [e2, List.countP_map]
  refine List.countP_congr fun j hj => ?_
  rw [qaS] at hj
  rw [yeh, sbw_get s j hj, sbw_get s i hi, hp]
  show _ ↔ ((sarr s).getD j 0 == 0 || slt s ((sarr s).getD j 0 - 1) p) = true
  rw [show (sarr s).getD j 0 = (sarr s)[j] from by rw [qaj, qah hj]; rfl]
  have hr := slt_row s i j hi hj
  have hle2 := sarr_le s j hj
  have hv : bval s (p + 1) = (s[p].toNat : Int) := by
   unfold bval
   rw [qae (by omega), qbQ, qaj, qah (by omega)]
   rfl
  rw [hv]
  generalize hq : (sarr s)[j] = q at *
  cases q with
  | zero =>
   have : bval s 0 = -1 := rfl
   rw [this]
   simp
   omega
  | succ q =>
   have hv2 : bval s (q + 1) = (s[q].toNat : Int) := by
    unfold bval
    rw [qae (by omega), qbQ, qaj, qah (by omega)]
    rfl
   rw [hv2, hp] at *
   have hs := bslt_step s q p (by omega) (by omega)
   rw [hr] at hs
   rw [qbQ, show ((q + 1 == 0) = false) from rfl, Bool.false_or, hs, qba]
   constructor
   ·rintro (h | ⟨h, h2⟩)
    ·exact qay (by omega)
    ·exact qaI ⟨qc7.1 (by omega), h2⟩
   ·rintro (h | ⟨h, h2⟩)
    ·exact qay (by omega)
    ·exact qaI ⟨by rw [h], h2⟩
 rw [(yen s).countP_eq, List.range_succ_eq_map, qbI, List.countP_map] at hb
 have e3 : brk (sbw s) i = k := by
  rw [hb, ← hc]
  congr 1
 exact ⟨by omega, by simp only [e3]; exact e⟩
theorem bwalk (s : List UInt8) : ∀ k, k ≤ s.length → ∃ h : bro (sbw s) k < (sarr s).length, (sarr s)[bro (sbw s) k] = s.length - k
 | 0, _ => by
  obtain ⟨h, e⟩ := sarr_first s
  exact ⟨h, by show (sarr s)[0] = _; rw [e]; rfl⟩
 | k + 1, hk => by
  obtain ⟨h, e⟩ := bwalk s k (by omega)
  exact blf s _ _ h (by rw [e]; omega)
def bch (x : Int) : UInt8 := UInt8.ofNat x.toNat
theorem bch_nat (b : UInt8) : bch (b.toNat : Int) = b := by
 unfold bch
 rw [qan]
 exact UInt8.ofNat_toNat
def bout (c : List Int) : Nat → List UInt8
 | 0 => []
 | k + 1 => bch (c.getD (bro c k) 0) :: bout c k
theorem yb2 (c : List Int) : ∀ k, (bout c k).length = k
 | 0 => rfl
 | k + 1 => by
  show (bout c k).length + 1 = k + 1
  rw [yb2 c k]
theorem bout_get (c : List Int) : ∀ m k, k < m → (bout c m).getD (m - 1 - k) 0 = bch (c.getD (bro c k) 0)
 | 0, k, h => by omega
 | m + 1, k, h => by
  show (bch (c.getD (bro c m) 0) :: bout c m).getD (m + 1 - 1 - k) 0 = _
  by_cases e : k = m
  ·subst e
   rw [show k + 1 - 1 - k = 0 from by omega]
   rfl
  ·rw [show m + 1 - 1 - k = (m - 1 - k) + 1 from by omega, List.getD_cons_succ]
   exact bout_get c m k (by omega)
def bok (l : List UInt8) (r : Nat) : Bool := (List.range l.length).all (fun k => decide (bro (bcol l r) k ≠ r)) && decide (bro (bcol l r) l.length = r)
theorem bok_iff (l : List UInt8) (r : Nat) : bok l r = true ↔ (∀ k, k < l.length → bro (bcol l r) k ≠ r) ∧ bro (bcol l r) l.length = r := by
 unfold bok
 rw [qca, qbH, qba]
 constructor
 ·rintro ⟨h1, h2⟩
  exact ⟨fun k hk => qbM (h1 k (qaS.2 hk)), h2⟩
 ·rintro ⟨h1, h2⟩
  exact ⟨fun k hk => qbZ (h1 k (qaS.1 hk)), h2⟩
def bbad (l : List UInt8) (r : Int) : Prop := (l.length = 0 ∧ r ≠ 0) ∨ (0 < l.length ∧ (r < 1 ∨ (l.length : Int) < r))
instance (l : List UInt8) (r : Int) : Decidable (bbad l r) := by unfold bbad; infer_instance
def btF (s : List UInt8) : List UInt8 × Int × Int := if 20000 < s.length then ([], 0, 3) else (yaV s, (bpr s : Int), 0)
def bsF (l : List UInt8) (r : Int) : List Int × Int := if 20000 < l.length then ([], 3) else if bbad l r then ([], 130) else (splc ((List.range (l.length + 1)).map (brk (bcol l r.toNat))), 0)
def biF (l : List UInt8) (r : Int) : List UInt8 × Int := if 20000 < l.length then ([], 3) else if bbad l r then ([], 130) else if bok l r.toNat = true then (bout (bcol l r.toNat) l.length, 0) else ([], 130)
theorem bgood {l : List UInt8} {r : Int} (h : ¬ bbad l r) : ∃ k : Nat, r = (k : Int) ∧ k ≤ l.length ∧ (0 < l.length → 0 < k) := by
 unfold bbad at h
 refine ⟨r.toNat, ?_, ?_, fun h2 => ?_⟩ <;> by_cases e : l.length = 0 <;> omega
theorem bpr_good (s : List UInt8) : ¬ bbad (yaV s) (bpr s) := by
 unfold bbad
 rw [yaT]
 have h1 := yf4 s
 have h2 := bpr_pos s
 rintro (⟨h3, h4⟩ | ⟨h3, h4⟩)
 ·omega
 ·have := h2 h3
  omega
theorem bout_back (s : List UInt8) : ∀ k, k ≤ s.length → bout (sbw s) k = s.drop (s.length - k)
 | 0, _ => by
  rw [qc1, qcI]
  rfl
 | k + 1, hk => by
  obtain ⟨h, e⟩ := bwalk s k (by omega)
  show bch ((sbw s).getD (bro (sbw s) k) 0) :: bout (sbw s) k = _
  rw [bout_back s k (by omega), sbw_get s _ h, e, qau (show s.length - (k + 1) < s.length by omega), show s.length - (k + 1) + 1 = s.length - k from by omega]
  unfold bval
  have e9 : s.length - k - 1 = s.length - (k + 1) := by omega
  rw [qae (by omega), bch_nat, e9, qaj, qah (by omega)]
  rfl
theorem bok_back (s : List UInt8) : bok (yaV s) (bpr s) = true := by
 rw [bok_iff, bcol_sbw, yaT]
 obtain ⟨h0, e0⟩ := bpr_get s
 constructor
 ·intro k hk e
  obtain ⟨h, e2⟩ := bwalk s k (by omega)
  simp only [e] at e2
  omega
 ·obtain ⟨h, e2⟩ := bwalk s s.length (qad _)
  exact sarr_inj s _ _ h h0 (by omega)
theorem bback (s : List UInt8) (h : s.length ≤ 20000) : biF (yaV s) (bpr s) = (s, 0) := by
 unfold biF
 rw [qae (by rw [yaT]; omega), qae (bpr_good s), qan, qag (bok_back s), bcol_sbw, yaT, bout_back s _ (qad _), qbS]
 rfl
theorem bcol_byte (l : List UInt8) (r i : Nat) (h : r ≤ l.length) (hi : i < l.length + 1) (hne : i ≠ r) : ∃ b : UInt8, (bcol l r).getD i 0 = (b.toNat : Int) := by
 rcases Nat.lt_or_gt_of_ne hne with h2 | h2
 ·exact ⟨_, yge l r i h h2⟩
 ·exact ⟨_, yeo l r i h h2 hi⟩
theorem bcol_inj (l t : List UInt8) (r q : Nat) (h : r ≤ l.length) (k : q ≤ t.length) (e : bcol l r = bcol t q) : l = t ∧ r = q := by
 have hl := qbC List.length e
 rw [ya3 l r h, ya3 t q k] at hl
 have er : r = q := by
  by_cases e2 : r = q
  ·exact e2
  ·have h1 := bcol_at l r h
   have h2 := bcol_ge t q r k (by omega) e2
   rw [e] at h1
   omega
 subst er
 unfold bcol at e
 have hlen : (bbs (l.take r)).length = (bbs (t.take r)).length := by
  rw [yc5, yc5, qao, qao]
  omega
 obtain ⟨e1, e2⟩ := List.append_inj e hlen
 have e3 := bbs_inj _ _ e1
 have e4 := bbs_inj _ _ (List.cons.inj e2).2
 refine ⟨?_, rfl⟩
 rw [← qax r l, ← qax r t, e3, e4]
section
variable (l : List UInt8) (r : Nat) (h : r ≤ l.length) (hN : ∀ k, k < l.length → bro (bcol l r) k ≠ r)
include h hN
theorem yfp (k : Nat) (hk : k < l.length) : (bcol l r).getD (bro (bcol l r) k) 0 = (((bout (bcol l r) l.length).getD (l.length - 1 - k) 0).toNat : Int) := by
 obtain ⟨b, e⟩ := bcol_byte l r (bro (bcol l r) k) h (by have := ycQ (bcol l r) (by rw [ya3 l r h]; omega) k; rw [ya3 l r h] at this; exact this) (hN k hk)
 rw [bout_get _ _ _ hk, e, bch_nat]
theorem bonly_lt : ∀ i j, i ≤ l.length → j ≤ l.length → (slt (bout (bcol l r) l.length) (l.length - i) (l.length - j) = true ↔ bro (bcol l r) i < bro (bcol l r) j)
 | i, 0, hi, _ => by
  unfold slt
  rw [qc1, show (bout (bcol l r) l.length).drop l.length = [] from qaH (by rw [yb2]; omega), ycr]
  constructor
  ·intro h
   cases h
  ·intro h
   exact absurd h (Nat.not_lt_zero _)
 | 0, j + 1, _, hj => by
  have h1 := yeE l r h hN 0 (j + 1) (by omega) hj
  unfold slt
  rw [qc1, show (bout (bcol l r) l.length).drop l.length = [] from qaH (by rw [yb2]; omega), qau (show l.length - (j + 1) < (bout (bcol l r) l.length).length by rw [yb2]; omega)]
  have e0 : bro (bcol l r) 0 = 0 := rfl
  rw [e0] at h1 ⊢
  constructor
  ·intro _
   exact Nat.pos_of_ne_zero fun e => h1 e.symm
  ·intro _
   rfl
 | i + 1, j + 1, hi, hj => by
  have hl := yb2 (bcol l r) l.length
  have hi2 : l.length - (i + 1) < (bout (bcol l r) l.length).length := by omega
  have hj2 : l.length - (j + 1) < (bout (bcol l r) l.length).length := by omega
  have b1 := yfp l r h hN i (by omega)
  have b2 := yfp l r h hN j (by omega)
  have g : ∀ i, (hi : l.length - (i + 1) < (bout (bcol l r) l.length).length) → (bout (bcol l r) l.length).getD (l.length - 1 - i) 0 = (bout (bcol l r) l.length)[l.length - (i + 1)] := fun i hi => by
   have e9 : l.length - 1 - i = l.length - (i + 1) := by omega
   rw [e9, qaj, qah hi, qbG]
  rw [g i hi2] at b1
  rw [g j hj2] at b2
  have ih := bonly_lt i j (by omega) (by omega)
  have hc := ya3 l r h
  show _ ↔ brk (bcol l r) (bro (bcol l r) i) < brk (bcol l r) (bro (bcol l r) j)
  rw [brk_iff _ (ycQ _ (by omega) i) (ycQ _ (by omega) j), yeh, bslt_step _ _ _ hi2 hj2, b1, b2, show l.length - (i + 1) + 1 = l.length - i from by omega, show l.length - (j + 1) + 1 = l.length - j from by omega, ih]
  constructor
  ·rintro (h | ⟨h, h2⟩)
   ·exact qay (by omega)
   ·exact qaI ⟨by rw [h], h2⟩
  ·rintro (h | ⟨h, h2⟩)
   ·exact qay (by omega)
   ·exact qaI ⟨qc7.1 (by omega), h2⟩
theorem bonly_perm : ((List.range (l.length + 1)).map fun q => bro (bcol l r) (l.length - q)).Perm (List.range (l.length + 1)) := by
 refine wperm ?_ ?_ (by rw [qaD, qa7])
 ·rw [List.nodup_iff_pairwise_ne, qaV]
  intro i j hi hj hij
  rw [qaD, qa7] at hj
  rw [qaQ, qaQ, qbd, qbd]
  exact (yeE l r h hN (l.length - j) (l.length - i) (by omega) (by omega)).symm
 ·intro x hx
  obtain ⟨k, _, rfl⟩ := qb5.1 hx
  have := ycQ (bcol l r) (by rw [ya3 l r h]; omega) (l.length - k)
  rw [ya3 l r h] at this
  exact this
theorem bonly_row (i : Nat) (hi : i ≤ l.length) : ∃ k : bro (bcol l r) i < (sarr (bout (bcol l r) l.length)).length, (sarr (bout (bcol l r) l.length))[bro (bcol l r) i] = l.length - i := by
 have hl := yb2 (bcol l r) l.length
 obtain ⟨k, hk, e⟩ := bat (bout (bcol l r) l.length) (l.length - i) (by omega)
 have hc := wsort_idx (yco _) (ybU (bout (bcol l r) l.length)) k hk
 rw [e, (yen _).countP_eq, hl] at hc
 have hb : bro (bcol l r) i ≤ l.length + 1 := by
  have := ycQ (bcol l r) (by rw [ya3 l r h]; omega) i
  rw [ya3 l r h] at this
  omega
 have h2 := wcount_below (l.length + 1) _ hb
 rw [← (bonly_perm l r h hN).countP_eq, List.countP_map] at h2
 have e2 : k = bro (bcol l r) i := by
  rw [← hc, ← h2]
  refine List.countP_congr fun q hq => ?_
  rw [qaS] at hq
  have := bonly_lt l r h hN (l.length - q) i (by omega) hi
  rw [show l.length - (l.length - q) = q from by omega] at this
  rw [this]
  simp
 exact ⟨by omega, by simp only [← e2]; exact e⟩
theorem bonly_col (hE : bro (bcol l r) l.length = r) : sbw (bout (bcol l r) l.length) = bcol l r := by
 have hl := yb2 (bcol l r) l.length
 apply qaY
 ·rw [sbw_len, hl, ya3 l r h]
 ·intro a h1 h2
  have hm : a ∈ (List.range (l.length + 1)).map (bro (bcol l r)) := (bro_perm l r h hN).mem_iff.2 (by rw [qaS, ← ya3 l r h]; exact h2)
  obtain ⟨k, hk, e⟩ := qb5.1 hm
  rw [qaS] at hk
  obtain ⟨h3, e3⟩ := bonly_row l r h hN k (by omega)
  have e4 := sbw_get _ _ h3
  have key : (sbw (bout (bcol l r) l.length)).getD a 0 = (bcol l r).getD a 0 := by
   rw [← e, e4, e3]
   by_cases hkn : k = l.length
   ·subst hkn
    rw [qbS, hE, bcol_at l r h]
    rfl
   ·rw [yfp l r h hN k (by omega)]
    unfold bval
    rw [qae (by omega), show l.length - k - 1 = l.length - 1 - k from by omega]
  rw [qaj, qaj, qah h1, qah h2] at key
  exact key
end
theorem bonly (l : List UInt8) (r : Nat) (h : r ≤ l.length) (hk : bok l r = true) : yaV (bout (bcol l r) l.length) = l ∧ bpr (bout (bcol l r) l.length) = r := by
 obtain ⟨hN, hE⟩ := (bok_iff l r).1 hk
 have := bonly_col l r h hN hE
 rw [← bcol_sbw] at this
 exact bcol_inj _ _ _ _ (by rw [yaT]; exact yf4 _) h this
theorem bi_only (l : List UInt8) (r : Int) (h : (biF l r).2 = 0) : btF (biF l r).1 = (l, r, 0) ∧ (biF l r).1.length = l.length := by
 unfold biF at h ⊢
 by_cases h1 : 20000 < l.length
 ·rw [qag h1] at h
  cases h
 ·rw [qae h1] at h ⊢
  by_cases h2 : bbad l r
  ·rw [qag h2] at h
   cases h
  ·rw [qae h2] at h ⊢
   obtain ⟨k, rfl, hk, _⟩ := bgood h2
   rw [qan] at h ⊢
   by_cases h3 : bok l k = true
   ·rw [qag h3]
    obtain ⟨e1, e2⟩ := bonly l k hk h3
    unfold btF
    dsimp only
    rw [qae (by rw [yb2]; exact h1), e1, e2, yb2]
    exact ⟨rfl, rfl⟩
   ·rw [qae h3] at h
    cases h
theorem bi_none (l : List UInt8) (r : Int) (h : (biF l r).2 ≠ 0) : (biF l r).1 = [] := by
 unfold biF at h ⊢
 split
 ·rfl
 ·split
  ·rfl
  ·split
   ·rename_i h1 h2 h3
    rw [qae h1, qae h2, qag h3] at h
    exact absurd rfl h
   ·rfl
def yfM (u : Nat) : Int := if u = 0 then 0 else if u = 1 then 16384 else 32768
theorem p_full_any (u : Nat) (hu : u ≤ 1000000) (w : World) : Calls prog 147 #[.int .i64 (u : Int)] w fun e w' => e = .returned (.int .i64 (yfM u)) ∧ w' = w := by
 unfold yfM
 by_cases h0 : u = 0
 ·subst h0
  rw [qag rfl]
  go_enter func147, ntmps147
  go_wp2
  go_ret
  exact ⟨rfl, rfl⟩
 ·rw [qae h0]
  by_cases h1 : u = 1
  ·subst h1
   rw [qag rfl]
   go_enter func147, ntmps147
   go_wp2
   go_ret
   exact ⟨rfl, rfl⟩
  ·rw [qae h1]
   have b0 : ((u : Int) == 0) = false := by simp; omega
   have b1 : ((u : Int) == 1) = false := by simp; omega
   go_enter func147, ntmps147
   go_wp2
   go_ret
   exact ⟨rfl, rfl⟩
section
variable (l : List Int) (A : Option Addr) (n c : Nat) (w : World)
theorem p_used_any (hm : n ≤ 1000000) (hr : Reads w w.heap.size 1 A n (ints l)) :
  Calls prog 148 #[.slice A n c] w fun e w' => e = .returned (.int .i64 (yau l : Int)) ∧ w' = w := by
 have en : l.length = n := by have := hr.1; rw [yab] at this; omega
 have Hcell := lcells hr
 have Htake : Hid (∀ k (h : k < l.length), yau (l.take (k + 1)) = yau (l.take k) + if 0 < l[k] then 1 else 0) := qaa (usedF_take l)
 have Hall : Hid (yau (l.take n) = yau l) := qaa (by rw [qar (by omega)])
 have En := qaa en
 obtain ⟨R, hR⟩ : ∃ R : Int, (yau l : Int) = R := ⟨_, rfl⟩
 rw [hR]
 have HR := qaa hR
 clear hr en hR
 go_enter func148, ntmps148
 go_wp2
 go_loop [3, 5, 8] (fun p x i => ∃ k P : Nat, k ≤ n ∧ P ≤ k ∧ p = .int .i64 P ∧ i = .int .i64 k ∧ Hid (P = yau (l.take k))) (fun _ _ i => n - (intOf i).toNat)
 case atStart => exact ⟨0, 0, by omega, by omega, rfl, rfl, rfl⟩
 case round =>
  obtain ⟨k, P, hk, hP, rfl, rfl, Hk⟩ := hrel
  by_cases hlt : k < n
  ·have hki : (0 : Int) ≤ (k : Int) ∧ (k : Int) < n := by omega
   have hkl : k < l.length := by rw [En.out]; exact hlt
   obtain ⟨b, off, rfl, hb, hc⟩ := Hcell.out (by omega)
   have hx := hc k hkl
   have ht := Htake.out k hkl
   rw [← Hk.out] at ht
   have Ht := qaa ht
   clear hc ht
   generalize l[k] = x at *
   by_cases hx0 : 0 < x
   ·have Ht2 : Hid (P + 1 = yau (l.take (k + 1))) := qaa (by rw [Ht.out, qag hx0])
    go_wp2
    go_round
    case rel => exact ⟨k + 1, P + 1, by omega, by omega, iv (by omega), iv (by omega), Ht2.out⟩
    case measure => simp only [intOf]; omega
   ·have Ht2 : Hid (P = yau (l.take (k + 1))) := qaa (by rw [Ht.out, qae hx0]; rfl)
    go_wp2
    go_round
    case rel => exact ⟨k + 1, P, by omega, by omega, rfl, iv (by omega), Ht2.out⟩
    case measure => simp only [intOf]; omega
  ·obtain rfl : k = n := by omega
   have Hf : Hid ((P : Int) = R) := qaa (by rw [← HR.out, ← Hall.out, ← Hk.out])
   go_wp2
   go_ret
   exact ⟨by rw [← Hf.out]; rfl, rfl⟩
def ycI (l : List Int) : Int := if 257 < l.length then 3 else if yde l = true then (if (yap l : Int) = yfM (yau l) then 0 else 80) else 80
theorem partF_le : ∀ l : List Int, yap l ≤ 32768 * l.length
 | [] => by simp [yap]
 | x :: t => by
  have := partF_le t
  have h2 : (2 : Nat) ^ (15 - x.toNat) ≤ 2 ^ 15 := qa0 (by omega) (by omega)
  show (if 0 < x then 2 ^ (15 - x.toNat) else 0) + yap t ≤ _
  rw [qap]
  split <;> omega
theorem pshift (m : Nat) (h : m ≤ 15) : (32768 : Int) / 2 ^ m = ((2 ^ (15 - m) : Nat) : Int) := by
 have : ∀ m : Fin 16, (32768 : Int) / 2 ^ m.1 = ((2 ^ (15 - m.1) : Nat) : Int) := by decide
 exact this ⟨m, by omega⟩
theorem ydZ (hm : n ≤ 1000000) (hr : Reads w w.heap.size 1 A n (ints l)) :
  Calls prog 104 #[.slice A n c] w fun e w' => e = .returned (.int .i64 (ycI l)) ∧ Below w.heap.size w w' := by
 have en : l.length = n := by have := hr.1; rw [yab] at this; omega
 have Hall := qaa (a_all_any l 15 A n c w (by omega) hr)
 have Hused := qaa fun (W : World) (hW : Below w.heap.size w W) => p_used_any l A n c W (by omega) ((hr.below hW).more hW.size)
 have Hfull := qaa fun W => p_full_any (yau l) (by have := usedF_le l; omega) W
 obtain ⟨F, hF⟩ : ∃ F, ycI l = F := ⟨_, rfl⟩
 rw [hF]
 unfold ycI at hF
 rw [en] at hF
 by_cases hn : 257 < n
 ·rw [qag hn] at hF
  subst hF
  have hni : (257 : Int) < n := by omega
  clear hr
  go_enter func104, ntmps104
  go_wp2
  go_ret
  exact ⟨rfl, qak _ _⟩
 ·rw [qae hn] at hF
  have hni : ¬ (257 : Int) < n := by omega
  by_cases hg : yde l = true
  ·rw [qag hg] at hF
   have hga : ycA 15 l = true := hg
   rw [hga] at Hall
   have Hcell : Hid (0 < n → ∃ b off, A = some ⟨b, off, none⟩ ∧ ∀ wr, Below w.heap.size w wr → ∀ k, (hk : k < l.length) → wr.cell? ⟨b, off + k, none⟩ = some (.int .i64 l[k])) := qaa fun h => by
    obtain ⟨b, off, e, hb, hc⟩ := hr.2 h
    exact ⟨b, off, e, fun wr hw k hk => (hw.cell (p := ⟨b, off + k, none⟩) hb).trans (hc k _ (yai l k hk))⟩
   have Hgood := qaa fun k hk => yaJ hg k hk
   have Htake := qaa (partF_take l)
   have Hend : Hid (yap (l.take n) = yap l) := qaa (by rw [qar (by omega)])
   have Hbound : Hid (∀ k, k ≤ n → yap (l.take k) ≤ 32768 * 257) := qaa fun k hk => by
    have := partF_le (l.take k)
    rw [qao] at this
    have h3 : min k l.length ≤ 257 := by omega
    have := qci 32768 h3
    omega
   have En := qaa en
   have Hf := qaa hF
   clear hr hg hga en hF
   generalize yfM (yau l) = FU at *
   generalize hUU : (yau l : Int) = UU at *
   clear hUU
   go_enter func104, ntmps104
   go_wp2_with (go_at_call 143; refine Hall.out.mono ?_; rintro e w1 ⟨rfl, hb1⟩; have Hb1 := qaa hb1; clear hb1)
   go_loopw [3, 5, 14] (fun p x i wr => ∃ k P : Nat, k ≤ n ∧ P ≤ 32768 * 257 ∧ p = .int .i64 P ∧ i = .int .i64 k ∧ Hid (P = yap (l.take k)) ∧ Hid (Below w.heap.size w wr)) (fun _ _ i _ => n - (intOf i).toNat)
   case atStart => exact ⟨0, 0, by omega, by omega, rfl, rfl, rfl, Hb1⟩
   case round =>
    obtain ⟨k, P, hk, hP, rfl, rfl, Hk, Hw⟩ := hrel
    by_cases hlt : k < n
    ·have hki : (0 : Int) ≤ (k : Int) ∧ (k : Int) < n := by omega
     have hkl : k < l.length := by rw [En.out]; exact hlt
     obtain ⟨b, off, rfl, hc⟩ := Hcell.out (by omega)
     have hx := hc wr Hw.out k hkl
     have ht := Htake.out k hkl
     rw [← Hk.out] at ht
     have hbd := Hbound.out (k + 1) (by omega)
     obtain ⟨g1, g2⟩ := Hgood.out k hkl
     have Ht := qaa ht
     have Hbd := qaa hbd
     clear hc ht hbd
     generalize l[k] = x at *
     obtain ⟨m, rfl⟩ : ∃ m : Nat, x = m := ⟨x.toNat, by omega⟩
     by_cases hx0 : (0 : Int) < (m : Int)
     ·obtain ⟨S2, hS2⟩ : ∃ S2, yap (l.take (k + 1)) = S2 := ⟨_, rfl⟩
      have Ht2 := Ht.out
      rw [qag hx0, qan, hS2] at Ht2
      have Hbd2 := Hbd.out
      rw [hS2] at Hbd2
      have hsh := pshift m (by omega)
      generalize (2 ^ (15 - m) : Nat) = pw at *
      have HS2 : Hid (S2 = yap (l.take (k + 1))) := qaa hS2.symm
      clear hS2 Ht Hbd
      have hz : (P : Int) + (pw : Int) = (S2 : Int) := by omega
      have hpw : (pw : Int) ≤ 8421376 := by omega
      clear Ht2
      go_wp2
      go_roundw
      case rel => exact ⟨k + 1, S2, by omega, by omega, iv (by omega), iv (by omega), HS2.out, Hw⟩
      case measure => simp only [intOf]; omega
     ·have Ht2 : Hid (P = yap (l.take (k + 1))) := qaa (by rw [Ht.out, qae hx0]; rfl)
      go_wp2
      go_roundw
      case rel => exact ⟨k + 1, P, by omega, hP, rfl, iv (by omega), Ht2.out, Hw⟩
      case measure => simp only [intOf]; omega
    ·obtain rfl : k = n := by omega
     have hPe : (P : Int) = (yap l : Int) := by rw [← Hend.out, ← Hk.out]
     have hf := Hf.out
     rw [← hPe] at hf
     by_cases he : (P : Int) = FU
     ·rw [qag he] at hf
      subst hf
      have hb : ((P : Int) == FU) = true := by simpa using he
      have HE := qaa he
      clear hPe he Hf
      go_wp2_with (first
       | (go_at_call 148; refine (Hused.out _ Hw.out).mono ?_; rintro e w2 ⟨rfl, rfl⟩)
       | (go_at_call 147; refine (Hfull.out _).mono ?_; rintro e w2 ⟨rfl, rfl⟩))
      go_ret
      exact ⟨rfl, Hw.out⟩
     ·rw [qae he] at hf
      subst hf
      have hb : ((P : Int) == FU) = false := by simpa using he
      have HE := qaa he
      clear hPe he Hf
      go_wp2_with (first
       | (go_at_call 148; refine (Hused.out _ Hw.out).mono ?_; rintro e w2 ⟨rfl, rfl⟩)
       | (go_at_call 147; refine (Hfull.out _).mono ?_; rintro e w2 ⟨rfl, rfl⟩))
      go_ret
      exact ⟨rfl, Hw.out⟩
  ·have hg2 : ycA 15 l = false := by
    cases h : ycA 15 l with
    | false => rfl
    | true => exact absurd h hg
   rw [qae hg] at hF
   rw [hg2] at Hall
   subst hF
   clear hr hg hg2
   go_enter func104, ntmps104
   go_wp2_with (go_at_call 143; refine Hall.out.mono ?_; rintro e w1 ⟨rfl, hb1⟩; have Hb1 := qaa hb1; clear hb1)
   go_ret
   exact ⟨rfl, Hb1.out⟩
end
theorem tmask (d : Nat) (h : d < 4294967296) : bits .and .u64 (d : Int) 4294967295 = (d : Int) := by
 have h1 := bits_and_u64_nat d 4294967295 (by omega) (by omega)
 have e : d &&& 4294967295 = d % 4294967296 := Nat.and_two_pow_sub_one_eq_mod d 32
 rw [e, qcJ h] at h1
 exact h1
theorem tmul64_one (z : Int) (h0 : 0 ≤ z) (h1 : z ≤ 1000000) (w : World) :
  Calls prog 204 #[.int .u64 1, .int .u64 z] w fun e w' => e = .returned (.tuple #[.int .u64 0, .int .u64 z]) ∧ w = w' := by
 have m1 : bits .and .u64 1 4294967295 = 1 := tmask 1 (by decide)
 have m0 : bits .and .u64 0 4294967295 = 0 := tmask 0 (by decide)
 have m2 : bits .and .u64 z 4294967295 = z := by
  obtain ⟨d, rfl⟩ := qaF h0
  exact tmask d (by omega)
 have m3 : z / 4294967296 = 0 := by omega
 go_enter func204, ntmps204
 go_wp2
 go_ret2
 exact ⟨rfl, rfl⟩
theorem tmul_one (z : Int) (h0 : 0 ≤ z) (h1 : z ≤ 1000000) (w : World) :
  Calls prog 194 #[.int .u64 1, .int .u64 z] w fun e w' => e = .returned (.tuple #[.int .u64 0, .int .u64 z]) ∧ w = w' := by
 go_enter func194, ntmps194
 go_wp2_with (go_at_call 204; refine (tmul64_one z h0 h1 _).mono ?_; rintro e w1 ⟨rfl, rfl⟩)
 go_ret2
 exact ⟨rfl, rfl⟩
theorem yet : (prog.info? 3).map (fun i => (i.zero, i.size, i.bytes)) = some (some (.int .i64 0), 1, 8) := by kernel_rfl
theorem tints_zero (n : Nat) : madeCells #[.int .i64 0] n = (ints (List.replicate n 0)).toArray := by
 unfold ints
 apply Array.ext'
 simp [madeCells, Nat.mod_one]
 rw [qcw, qa7]
theorem tmk_ints (n : Int) (N : Nat) (hN : (N : Int) = n) (h : N ≤ 17592186044416) (w : World) :
  (Instr.makeSlice 28 (.int .i64 n) (.int .i64 n)).run prog w = .ok (.slice (some ⟨w.heap.size, 0, none⟩) N N) (w.alloc (.cells (ints (List.replicate N 0)).toArray 3)) := by
 subst hN
 rw [← tints_zero]
 exact run_make_row' (P := prog) 28 3 (.int .i64 0) 8 underlying28 yet rfl .i64 .i64 N (by omega) (by omega) w
def trow (x : Int) (d k : Nat) : List Int := List.replicate k x ++ List.replicate (d - k) 0
theorem trow_len (x : Int) (d k : Nat) (h : k ≤ d) : (ints (trow x d k)).length = d := by rw [yab]; simp [trow]; omega
theorem trow_zero (x : Int) (d : Nat) : trow x d 0 = List.replicate d 0 := by simp [trow]
theorem trow_all (x : Int) (d : Nat) : trow x d d = List.replicate d x := by simp [trow]
theorem yhq (x : Int) (d k m : Nat) (h : k + m ≤ d) : splice (ints (trow x d k)) k (ints (List.replicate m x)) = ints (trow x d (k + m)) := by
 unfold splice trow ints
 rw [qaD, qav, ← List.map_take, ← List.map_drop, ← qcv, ← qcv]
 congr 1
 rw [qcd (by simp), ← qbt, qbK (by simp), List.drop_replicate, ← qam, qcj, show d - k - m = d - (k + m) from by omega]
theorem trow_get (x : Int) (d k j : Nat) (h : j < k) : (ints (trow x d k)).toArray[j]? = some (.int .i64 x) := by
 unfold ints trow
 simp [List.getElem?_append, h]
theorem yhb (l : List Int) : ∀ u ∈ ints l, u.oneCell' = true := by
 intro u hu
 obtain ⟨b, _, rfl⟩ := qb5.1 hu
 rfl
theorem trep_src {w : World} {g d k m : Nat} {x : Int} {t : TypeId} (h : Blk w g t (ints (trow x d k)).toArray) (hm : m ≤ k) : ∀ j v, (ints (List.replicate m x))[j]? = some v → w.cell? ((⟨g, 0, none⟩ : Addr).add j) = some v := by
 intro j v hj
 have hlt : j < m := by
  have := (qc5.1 hj).1
  rw [yab, qav] at this
  exact this
 rw [ydJ, qaz, h.cell, trow_get x d k j (by omega), ← hj]
 simp [ints, hlt]
theorem trepeat_any (x : Int) (A : Option Addr) (c d : Nat) (w : World) (h0 : 0 < d) (hd : d ≤ 1000000) (hr : Reads w w.heap.size 1 A 1 (ints [x])) :
  Calls prog 169 #[.slice A 1 c, .int .i64 (d : Int)] w fun e w' => ∃ g, e = .returned (.slice (some ⟨g, 0, none⟩) d d) ∧ w.heap.size ≤ g ∧ Blk w' g 3 (ints (List.replicate d x)).toArray ∧ Below w.heap.size w w' := by
 obtain ⟨b, off, rfl, hb, hc⟩ := hr.2 (by omega)
 have hmk := fun w => tmk_ints (d : Int) d rfl (by omega) w
 have hi0 : (0 : Int) < (d : Int) ∧ (d : Int) ≤ 1000000 := by omega
 have hsrc : ∀ j v, (ints (List.replicate 1 x))[j]? = some v → (w.alloc (.cells (ints (trow x d 0)).toArray 3)).cell? ((⟨b, off, none⟩ : Addr).add j) = some v := by
  intro j v hj
  rw [ydJ, World.cell?_alloc_lt w _ _ hb]
  exact hc j v hj
 have Hsrc := qaa hsrc
 rw [← trow_zero x d] at hmk
 clear hc hr hsrc
 go_enter func169, ntmps169
 go_wp2_with (first
  | (go_at_call 194; refine (tmul_one (d : Int) (by omega) (by omega) _).mono ?_; rintro e w1 ⟨rfl, rfl⟩)
  | (refine wpList_copy_splice rfl _ _ _ _ rfl 3 underlying28 (by kernel_rfl) _ _ d d 1 c rfl rfl w.heap.size 0 (ints (trow x d 0)) 3 (Blk.new w _ _) (ints (List.replicate 1 x)) ?c1 (fun _ => ⟨rfl, _, rfl, Hsrc.out⟩) ?c2 (yhb _) w.heap.size w ((qak _ _).alloc (qad _) _) (qad _) ?_))

 case c1 =>
  rw [yab, qav]
  exact (qbf h0).symm
 case c2 => rw [trow_len _ _ _ (by omega), yab, qav]; omega
 intro w1 hb1 hB1
 have Hb1 : Hid (Blk w1 w.heap.size 3 (ints (trow x d 1)).toArray) := qaa (by
  have e : splice (ints (trow x d 0)) 0 (ints [x]) = ints (trow x d 1) := by
   have := yhq x d 0 1 (by omega)
   rwa [qaz] at this
  have := hb1.out
  rw [e] at this
  exact this)
 have HB1 := qaa hB1
 clear hb1 hB1 Hsrc hmk
 rw [yab]
 generalize hg : w.heap.size = g at *
 have Hg := qaa hg
 clear hg
 go_wp2
 go_loopw [8] (fun i wr => ∃ k : Nat, 1 ≤ k ∧ k ≤ d ∧ i = .int .i64 k ∧ Hid (Blk wr g 3 (ints (trow x d k)).toArray) ∧ Hid (Below g w wr)) (fun i _ => d - (intOf i).toNat)
 case atStart => exact ⟨1, by omega, by omega, rfl, Hb1, HB1⟩
 case round =>
  obtain ⟨k, hk1, hk2, rfl, HB, HO⟩ := hrel
  by_cases hlt : k < d
  ·have hki : (0 : Int) < (k : Int) ∧ (k : Int) < (d : Int) := by omega
   obtain ⟨m, hm⟩ : ∃ m, Nat.min k (d - k) = m := ⟨_, rfl⟩
   have hmk : 1 ≤ m ∧ m ≤ k ∧ k + m ≤ d := by
    have h1 : min k (d - k) = m := hm
    omega
   have hlen : (ints (List.replicate m x)).length = m := by rw [yab, qav]
   have Hs := qaa (yhq x d k m hmk.2.2)
   have Hsrc := qaa (trep_src HB.out hmk.2.1)
   have hkl : ((d - k : Nat) : Int) = (d : Int) - (k : Int) := by omega
   have hkm : (k : Int) + (m : Int) ≤ 1000000 ∧ (1 : Int) ≤ (m : Int) := by omega
   have Hlen := qaa hlen
   have Hc3 : Hid ((ints (List.replicate m x)).length = Nat.min k (d - k)) := qaa (by rw [hlen, hm])
   have Hc4 : Hid (k + (ints (List.replicate m x)).length ≤ (ints (trow x d k)).length) := qaa (by rw [trow_len _ _ _ (by omega), hlen]; omega)
   have hnk : ¬ d = k := by omega
   have hwr : IntKind.i64.wrap ((k : Int) + (m : Int)) = (k : Int) + (m : Int) := by rw [qal]; omega
   clear hlen hm
   go_wp2
   refine wp_region_held_drew (S := (fun _ => True)) (by kernel_rfl) (trivial) (fun hHeld => ?_)
   refine qaU (i := 0) (oi := ⟨some 38, .move (.tmp 8), 3, _, #[], none⟩) (v := ?_) rfl (by kernel_rfl) (by kernel_rfl) (by kernel_rfl) (fun _ _ _ h => h) (qay ⟨by rfl, ?_⟩) hHeld ?_
   rotate_left
   ·(intro wz hSw; go_simp; try (with_reducible rfl))
   try simp only [Act.put, qac, qai, qaf]
   refine qaU (i := 1) (oi := ⟨some 39, .move (.tmp 7), 28, _, #[], none⟩) (v := ?_) rfl (by kernel_rfl) (by kernel_rfl) (by kernel_rfl) (fun _ _ _ h => h) (qay ⟨by rfl, ?_⟩) hHeld ?_
   rotate_left
   ·(intro wz hSw; go_simp; try (with_reducible rfl))
   try simp only [Act.put, qac, qai, qaf]
   refine qaU (i := 2) (oi := ⟨some 40, .move (.tmp 8), 3, _, #[], none⟩) (v := ?_) rfl (by kernel_rfl) (by kernel_rfl) (by kernel_rfl) (fun _ _ _ h => h) (qay ⟨by rfl, ?_⟩) hHeld ?_
   rotate_left
   ·(intro wz hSw; go_simp; try (with_reducible rfl))
   try simp only [Act.put, qac, qai, qaf]
   refine qaU (i := 3) (oi := ⟨some 41, .slice 28 (.tmp 39) (some (.tmp 40)) none none, 28, _, #[⟨1, .data⟩, ⟨2, .data⟩], none⟩) (v := ?_) rfl (by kernel_rfl) (by kernel_rfl) (by kernel_rfl) (fun _ _ _ h => h) (qay ⟨by rfl, ?_⟩) hHeld ?_
   rotate_left
   ·(intro wz hSw; go_simp; try (with_reducible rfl))
   try simp only [Act.put, qac, qai, qaf]
   refine qaU (i := 4) (oi := ⟨some 42, .move (.tmp 7), 28, _, #[], none⟩) (v := ?_) rfl (by kernel_rfl) (by kernel_rfl) (by kernel_rfl) (fun _ _ _ h => h) (qay ⟨by rfl, ?_⟩) hHeld ?_
   rotate_left
   ·(intro wz hSw; go_simp; try (with_reducible rfl))
   try simp only [Act.put, qac, qai, qaf]
   refine qaU (i := 5) (oi := ⟨some 43, .move (.tmp 8), 3, _, #[], none⟩) (v := ?_) rfl (by kernel_rfl) (by kernel_rfl) (by kernel_rfl) (fun _ _ _ h => h) (qay ⟨by rfl, ?_⟩) hHeld ?_
   rotate_left
   ·(intro wz hSw; go_simp; try (with_reducible rfl))
   try simp only [Act.put, qac, qai, qaf]
   refine qaU (i := 6) (oi := ⟨some 44, .slice 28 (.tmp 42) none (some (.tmp 43)) none, 28, _, #[⟨4, .data⟩, ⟨5, .data⟩], none⟩) (v := ?_) rfl (by kernel_rfl) (by kernel_rfl) (by kernel_rfl) (fun _ _ _ h => h) (qay ⟨by rfl, ?_⟩) hHeld ?_
   rotate_left
   ·(intro wz hSw; go_simp; try (with_reducible rfl))
   try simp only [Act.put, qac, qai, qaf]
   refine qaO (rs := [7]) (by kernel_rfl) (by simp) ?_
   refine qa6 (o := ⟨some 45, .call { callee := .builtin .copy, args := #[.tmp 41, .tmp 44], argTypes := #[28, 28] }, 3, _, #[⟨3, .data⟩, ⟨6, .data⟩], none⟩) rfl (fun K hK => ?_) qaK
   refine step_copy_splice (by rfl) (.tmp 41) (.tmp 44) 28 28 (by rfl) 3 underlying28 (by kernel_rfl) _ _ (d - k) (d - k) k d (by rfl) (by rfl) g k (ints (trow x d k)) 3 HB.out.drew (ints (List.replicate m x)) Hc3.out (fun _ => ⟨rfl, _, rfl, Hsrc.out⟩) Hc4.out (yhb _) g w HO.out.drew (qad _) ?_
   intro w2 hb2 hB2
   rw [Hlen.out]
   refine hK.out _ _ (trivial) (fun hH => ?_)
   clear hK K hHeld
   have hHeld : True := trivial
   try simp only [Act.put, qac, qai, qaf]
   refine qaU (i := 8) (oi := ⟨some 46, .binOp BinOp.add 3 (.tmp 38) (.tmp 45) 3, 3, _, #[⟨0, .data⟩, ⟨7, .data⟩], none⟩) (v := ?_) rfl (by kernel_rfl) (by kernel_rfl) (by kernel_rfl) (fun _ _ _ h => h) (qay ⟨by rfl, ?_⟩) hHeld ?_
   rotate_left
   ·(intro wz hSw; go_simp; try (with_reducible rfl))
   try simp only [Act.put, qac, qai, qaf]
   refine qaU (i := 9) (oi := ⟨some 8, .assign (.tmp 46), 3, _, #[⟨8, .data⟩, ⟨7, .chain⟩, ⟨0, .phase⟩, ⟨1, .phase⟩, ⟨2, .phase⟩, ⟨3, .phase⟩, ⟨4, .phase⟩, ⟨5, .phase⟩, ⟨6, .phase⟩, ⟨7, .phase⟩, ⟨8, .phase⟩], none⟩) (v := ?_) rfl (by kernel_rfl) (by kernel_rfl) (by kernel_rfl) (fun _ _ _ h => h) (qay ⟨by rfl, ?_⟩) hHeld ?_
   rotate_left
   ·(intro wz hSw; go_simp; try (with_reducible rfl))
   try simp only [Act.put, qac, qai, qaf]
   refine qcr (by kernel_rfl) ?_ _
   have Hb2 := qaa (show Blk w2 g 3 (ints (trow x d (k + m))).toArray by have := hb2.out; rw [Hs.out] at this; exact this)
   have HB2 := qaa hB2
   clear hb2 hB2
   go_wp2
   go_roundw
   case rel => exact ⟨k + m, by omega, by omega, iv (by omega), Hb2, HB2⟩
   case measure => simp only [intOf]; omega
  ·obtain rfl : k = d := by omega
   have HB' : Hid (Blk wr g 3 (ints (List.replicate k x)).toArray) := qaa (by rw [← trow_all x k]; exact HB.out)
   clear HB HB1 Hb1
   go_wp2
   go_ret
   exact ⟨g, rfl, Nat.le_of_eq Hg.out, HB'.out, by rw [Hg.out]; exact HO.out⟩
def RHold (w : World) (g : Nat) (l : List UInt8) (p : Nat) : Prop := Blk w g 174 #[.string ⟨l.toArray⟩, .int .i64 p]
section
variable {w w' : World} {g : Nat} {l : List UInt8} {p : Nat} {S : Nat → Prop}
theorem RHold.drewN (h : RHold w g l p) (n : Nat) : RHold (w.drewN n) g l p := h
theorem RHold.go (h : RHold w g l p) (n : Nat) (q : Int) (e : q = ((p + n : Nat) : Int)) : RHold (w.setCell ⟨g, 1, none⟩ (.int .i64 q)) g l (p + n) := by
 subst e
 exact Blk.set_ h 1 _
end
theorem get_yes (l : List UInt8) (p W g : Nat) (w : World) (hl : l.length ≤ 1099511627776) (hp : p + W ≤ 8 * l.length) (hW : W ≤ 32) (hB : RHold w g l p) :
  Calls prog 128 #[.pointer (some ⟨g, 0, none⟩), .int .i64 W] w fun e w' => e = .returned (.tuple #[.int .i64 (num (((yag l).drop p).take W)), .int .i64 0]) ∧ RHold w' g l (p + W) ∧ Touch w w' (fun k => k = g) := by
 have hnum := fun v hB => number_any l p W g p v hl hp hW hB
 have hleft := fun v hB => ybT l p g v (by omega) (by omega) hB
 have hle : (W : Int) ≤ ((8 * l.length - p : Nat) : Int) := by omega
 have hWi : (W : Int) ≤ 32 := by omega
 have hpl : (p : Int) ≤ 8796093022208 := by omega
 have hg := Blk.lt hB
 obtain ⟨c1, c2, z1, z2⟩ := Blk.two hB
 have HB := qaa hB
 clear hB hl hp
 generalize num (((yag l).drop p).take W) = N at *
 generalize 8 * l.length - p = M at *
 go_enter func128, ntmps128
 go_wp2_with (first
  | (go_at_call 129; refine (ycp g _).mono ?_; rintro e w1 ⟨rfl, rfl⟩)
  | (go_at_call 130; refine (hleft _ HB.out).mono ?_; rintro e w1 ⟨rfl, k1, rfl⟩)
  | (go_at_call 170; refine (hnum _ (HB.out.drewN _)).mono ?_; rintro e w1 ⟨rfl, k2, rfl⟩))
 go_ret2
 exact ⟨rfl, RHold.go (HB.out.drewN _) W _ (by omega), ((Touch.refl w (fun k => k = g)).drewN _).set (p := ⟨g, 1, none⟩) (qay rfl) _⟩
theorem get_no (l : List UInt8) (p g : Nat) (width e : Int) (w : World) (hl : l.length ≤ 1099511627776) (hp : p ≤ 8 * l.length) (hB : RHold w g l p) (he : (ybq (yag l) p width).2 = e) (hne : e ≠ 0) :
  Calls prog 128 #[.pointer (some ⟨g, 0, none⟩), .int .i64 width] w fun r w' => r = .returned (.tuple #[.int .i64 0, .int .i64 e]) ∧ ∃ k, w.drewN k = w' := by
 by_cases h1 : width < 0
 ·have : e = 2 := by rw [← he]; unfold ybq; rw [qag (qay h1)]
  subst this
  clear he hne hl
  go_enter func128, ntmps128
  go_wp2
  go_ret2
  exact ⟨rfl, 0, rfl⟩
 ·by_cases h2 : 32 < width
  ·have : e = 2 := by rw [← he]; unfold ybq; rw [qag (qaI h2)]
   subst this
   clear he hne hl
   go_enter func128, ntmps128
   go_wp2
   go_ret2
   exact ⟨rfl, 0, rfl⟩
  ·by_cases h3 : (p : Int) + width > (yag l).length
   ·have : e = 4 := by rw [← he]; unfold ybq; rw [qae (by omega), qag h3]
    subst this
    rw [yax] at h3
    have hleft := fun v hB => ybT l p g v (by omega) (by omega) hB
    have hle : ((8 * l.length - p : Nat) : Int) < width := by omega
    clear he hne hl h3
    have HB := qaa hB
    clear hB hp
    generalize 8 * l.length - p = M at *
    go_enter func128, ntmps128
    go_wp2_with (first
     | (go_at_call 129; refine (ycp g _).mono ?_; rintro e w1 ⟨rfl, rfl⟩)
     | (go_at_call 130; refine (hleft _ HB.out).mono ?_; rintro e w1 ⟨rfl, k1, rfl⟩))
    go_ret2
    exact ⟨rfl, k1, rfl⟩
   ·exfalso
    apply hne
    rw [← he]
    unfold ybq
    rw [qae (by omega), qae h3]
theorem len64_any (x : Int) (w : World) (h0 : 0 ≤ x) (h1 : x ≤ 4294967295) : Calls prog 187 #[.int .u64 x] w fun e w' => e = .returned (.int .i64 (Lib.bitLen x.toNat)) ∧ w = w' := by
 by_cases a1 : x ≤ 255
 ·have a2 : x < 256 := by omega
  have a3 : x < 65536 := by omega
  have a4 : x < 4294967296 := by omega
  go_enter func187, ntmps187
  go_wp2
  go_ret
  refine ⟨qbC Ending.returned (iv ?_), rfl⟩
  have l := Lib.bitLen_le8' x h0 a1
  rw [Lib.len8_of x h0 a1]
  unfold wrap64
  omega
 ·by_cases b1 : x ≤ 65535
  ·have a2 : ¬ x < 256 := by omega
   have a3 : x < 65536 := by omega
   have a4 : x < 4294967296 := by omega
   have a5 : 0 ≤ x / 256 := by omega
   have a6 : x / 256 ≤ 255 := by omega
   clear a1
   go_enter func187, ntmps187
   go_wp2
   go_ret
   refine ⟨qbC Ending.returned (iv ?_), rfl⟩
   have l := Lib.bitLen_le8' (x / 256) a5 a6
   have s := Lib.bitLen_shift8 x.toNat (by omega) (by omega)
   rw [Lib.len8_of (x / 256) a5 a6, s]
   rw [show (x / 256).toNat = x.toNat / 256 from by omega] at l ⊢
   unfold wrap64
   omega
  ·by_cases c1 : x ≤ 16777215
   ·have a2 : ¬ x < 65536 := by omega
    have a4 : x < 4294967296 := by omega
    have a5 : 0 ≤ x / 65536 := by omega
    have a6 : x / 65536 ≤ 255 := by omega
    have a7 : x / 65536 < 256 := by omega
    clear a1 b1
    go_enter func187, ntmps187
    go_wp2
    go_ret
    refine ⟨qbC Ending.returned (iv ?_), rfl⟩
    have l := Lib.bitLen_le8' (x / 65536) a5 a6
    have s := Lib.bitLen_shift16 x.toNat (by omega) (by omega)
    rw [Lib.len8_of (x / 65536) a5 a6, s]
    rw [show (x / 65536).toNat = x.toNat / 65536 from by omega] at l ⊢
    unfold wrap64
    omega
   ·have a2 : ¬ x < 65536 := by omega
    have a4 : x < 4294967296 := by omega
    have a5 : 0 ≤ x / 65536 / 256 := by omega
    have a6 : x / 65536 / 256 ≤ 255 := by omega
    have a7 : ¬ x / 65536 < 256 := by omega
    clear a1 b1 c1
    go_enter func187, ntmps187
    go_wp2
    go_ret
    refine ⟨qbC Ending.returned (iv ?_), rfl⟩
    have l := Lib.bitLen_le8' (x / 65536 / 256) a5 a6
    have s := Lib.bitLen_shift24 x.toNat (by omega) (by omega)
    rw [Lib.len8_of (x / 65536 / 256) a5 a6, s]
    rw [show (x / 65536 / 256).toNat = x.toNat / 16777216 from by omega] at l ⊢
    unfold wrap64
    omega
theorem lz8_any (x : Int) (w : World) (h0 : 0 ≤ x) (h1 : x ≤ 255) : Calls prog 171 #[.int .u8 x] w fun e w' => e = .returned (.int .i64 (8 - Lib.bitLen x.toNat)) ∧ w = w' := by
 have hl := Lib.bitLen_le8' x h0 h1
 have he := Lib.len8_of x h0 h1
 have HH : Hid (wrap64 (8 - wrap64 (Lib.len8 x)) = 8 - Lib.bitLen x.toNat) := qaa (by rw [he]; unfold wrap64; omega)
 clear hl he
 go_enter func171, ntmps171
 go_wp2
 go_ret
 exact ⟨qbC Ending.returned (iv HH.out), rfl⟩
theorem len_any (x : Int) (w : World) (h0 : 0 ≤ x) (h1 : x ≤ 4294967295) : Calls prog 150 #[.int .u64 x] w fun e w' => e = .returned (.int .i64 (Lib.bitLen x.toNat)) ∧ w = w' := by
 go_enter func150, ntmps150
 go_wp2_with (go_at_call 187; refine (len64_any x _ h0 h1).mono ?_; rintro e w1 ⟨rfl, rfl⟩)
 go_ret
 exact ⟨rfl, rfl⟩
theorem bl_mul (m r : Nat) (h0 : m ≠ 0) (h : m * 2 ^ r < 4294967296) : bl (m * 2 ^ r) = bl m + r := by
 have hp : 0 < 2 ^ r := qaX (by omega)
 have hm : m ≤ m * 2 ^ r := Nat.le_mul_of_pos_right m hp
 obtain ⟨a, b, c⟩ := ycF 32 m h0 (by rw [show (2 : Nat) ^ 32 = 4294967296 from by decide]; omega) (by omega)
 have := bl_of (n := m * 2 ^ r) (k := bl m - 1 + r) (by rw [qbF]; exact qct _ b)
  (by rw [show bl m - 1 + r + 1 = bl m + r from by omega, qbF]; exact qb9 c hp) h
 omega
theorem lz_dig (m s : Nat) (l : List Nat) (h0 : m ≠ 0) (h : m < 2 ^ s) (hs : s ≤ 32) : lz (dig s m ++ l) = s - bl m ∧ bl m ≤ s := by
 have h32 : m < 2 ^ 32 := qaZ h (qa0 (by omega) hs)
 obtain ⟨a, b, c⟩ := ycF 32 m h0 h32 (by omega)
 obtain ⟨k, hk⟩ : ∃ k, bl m = k + 1 := ⟨bl m - 1, by omega⟩
 rw [hk] at b c ⊢
 rw [qbQ] at b
 have hks : k + 1 ≤ s := Nat.le_of_not_lt fun hgt => by
  have := qa0 (n := 2) (by omega) (show s ≤ k by omega)
  omega
 refine ⟨?_, hks⟩
 have h1 := ycs (s - (k + 1)) (k + 1) m
 rw [show s - (k + 1) + (k + 1) = s from by omega, Nat.div_eq_of_lt c, ydn, yh8 b c] at h1
 rw [h1, qam, ygk, qb3, lz_one]
 rfl
theorem row_left (l : List UInt8) (k : Nat) (hq : k / 8 < l.length) : (yag l).drop k = dig (8 - k % 8) (l[k / 8].toNat % 2 ^ (8 - k % 8)) ++ yag (l.drop (k / 8 + 1)) := by
 have h1 : k = 8 * (k / 8) + k % 8 := (Nat.div_add_mod k 8).symm
 rw [show (yag l).drop k = ((yag l).drop (8 * (k / 8))).drop (k % 8) from by rw [qbt, ← h1], row_drop, qau hq, yem, qaW (by rw [yad]; omega)]
 congr 1
 have h2 := ycs (k % 8) (8 - k % 8) l[k / 8].toNat
 rw [show k % 8 + (8 - k % 8) = 8 from by omega] at h2
 rw [h2, qbK (yad _ _)]
 have h3 := dig_num (ycD (8 - k % 8) l[k / 8].toNat)
 rw [yad, ycL] at h3
 exact h3.symm
theorem shl_byte (b r : Nat) (hr : r < 8) : b * 2 ^ r % 256 = b % 2 ^ (8 - r) * 2 ^ r := by
 rw [show 256 = 2 ^ (8 - r) * 2 ^ r from by rw [← qbF, show 8 - r + r = 8 from by omega], Nat.mul_mod_mul_right]
theorem left_zero (l : List UInt8) (p k : Nat) (hp : p ≤ k) (hq : k / 8 < l.length) (hz : ((yag l).drop p).take (k - p) = List.replicate (k - p) 0) (hb : l[k / 8].toNat * 2 ^ (k % 8) % 256 = 0) :
  ((yag l).drop p).take (8 * (k / 8 + 1) - p) = List.replicate (8 * (k / 8 + 1) - p) 0 := by
 have h1 := row_left l k hq
 rw [shl_byte _ _ (by omega)] at hb
 have hp' : 0 < 2 ^ (k % 8) := qaX (by omega)
 have hm : l[k / 8].toNat % 2 ^ (8 - k % 8) = 0 := by
  rcases Nat.mul_eq_zero.1 hb with h | h
  ·exact h
  ·omega
 rw [hm, ydn] at h1
 rw [show 8 * (k / 8 + 1) - p = (k - p) + (8 - k % 8) from by omega, qcH, qbt, show p + (k - p) = k from by omega, hz, h1, qcd (by simp), qcj]
theorem left_some (l : List UInt8) (p k : Nat) (hp : p ≤ k) (hq : k / 8 < l.length) (hz : ((yag l).drop p).take (k - p) = List.replicate (k - p) 0) (hb : l[k / 8].toNat * 2 ^ (k % 8) % 256 ≠ 0) :
  lz ((yag l).drop p) + p = k + (8 - bl (l[k / 8].toNat * 2 ^ (k % 8) % 256)) ∧ bl (l[k / 8].toNat * 2 ^ (k % 8) % 256) ≤ 8 := by
 have h1 := row_left l k hq
 rw [shl_byte _ _ (by omega)] at hb ⊢
 have hm : l[k / 8].toNat % 2 ^ (8 - k % 8) ≠ 0 := fun e => hb (by rw [e, Nat.zero_mul])
 have hlt : l[k / 8].toNat % 2 ^ (8 - k % 8) < 2 ^ (8 - k % 8) := Nat.mod_lt _ (qaX (by omega))
 have hsm : l[k / 8].toNat % 2 ^ (8 - k % 8) * 2 ^ (k % 8) < 256 := by
  have h2 := qb9 hlt (show 0 < 2 ^ (k % 8) from qaX (by omega))
  rw [← qbF, show 8 - k % 8 + k % 8 = 8 from by omega] at h2
  exact h2
 have hc := lz_cut ((yag l).drop p) (k - p) (by rw [qas, yax]; omega) hz
 rw [qbt, show p + (k - p) = k from by omega, h1] at hc
 have hd := lz_dig _ (8 - k % 8) (yag (l.drop (k / 8 + 1))) hm hlt (by omega)
 rw [bl_mul _ _ hm (by omega), hc, hd.1]
 have := hd.2
 omega
theorem ycG (l : List UInt8) (p g : Nat) (w : World) (hl : l.length ≤ 1099511627776) (hp : p ≤ 8 * l.length) (hB : Blk w g 174 #[.string ⟨l.toArray⟩, .int .i64 p]) :
  Calls prog 131 #[.pointer (some ⟨g, 0, none⟩)] w fun e w' => e = .returned (.int .i64 (lz ((yag l).drop p))) ∧ ∃ k, w.drewN k = w' := by
 obtain ⟨c1, c2, _, _⟩ := hB.two
 have hll : (l.length : Int) ≤ 1099511627776 := by omega
 have hpl : (p : Int) ≤ 8 * l.length := by omega
 have Hlz : Hid (((yag l).drop p).length = 8 * l.length - p) := qaa (by rw [qas, yax])
 have hp0 : (0 : Int) ≤ p := by omega
 clear hB hl
 go_enter func131, ntmps131
 go_wp2
 go_loop [4] (fun a => ∃ k : Nat, p ≤ k ∧ k ≤ 8 * l.length ∧ a = .int .i64 k ∧ Hid (((yag l).drop p).take (k - p) = List.replicate (k - p) 0)) (fun a => 8 * l.length - (intOf a).toNat)
 case atStart => exact ⟨p, qad _, hp, rfl, qaa (by rw [qbS]; rfl)⟩
 case round =>
  obtain ⟨k, hk0, hk, rfl, Hz⟩ := hrel
  by_cases hlt : k < 8 * l.length
  ·have hq : k / 8 < l.length := by omega
   have hqi : 0 ≤ (k : Int) / 8 ∧ (k : Int) / 8 < l.length := by omega
   have hki : (k : Int) < 8 * l.length := by omega
   have hkb : (k : Int) ≤ 8796093022208 := by omega
   have Hq := qaa (left_zero l p k hk0 hq Hz.out)
   have Hs := qaa (left_some l p k hk0 hq Hz.out)
   go_wp2
   ·have hb : (((ByteArray.mk l.toArray)[k / 8]'(by rw [qaL, qa3]; exact hq)).toNat * 2 ^ (k % 8) % 256 != (0 : Int)) = true := by assumption
    rw [ycP] at hb ⊢
    have eB : ((l[k / 8].toNat : Int) * 2 ^ (k % 8) % 256) = ((l[k / 8].toNat * 2 ^ (k % 8) % 256 : Nat) : Int) := by norm_cast
    have hs := Hs.out
    have hB8 : l[k / 8].toNat * 2 ^ (k % 8) % 256 < 256 := Nat.mod_lt _ (by omega)
    rw [eB] at hb ⊢
    generalize l[k / 8].toNat * 2 ^ (k % 8) % 256 = B at hs hb hB8 ⊢
    have hb0 : B ≠ 0 := by
     rintro rfl
     exact absurd hb (by decide)
    obtain ⟨hs1, hs2⟩ := hs hb0
    have hlz := fun w => lz8_any (B : Int) w (by omega) (by omega)
    have e8 : Lib.bitLen ((B : Int)).toNat = bl B := rfl
    rw [e8] at hlz
    have hw1 : IntKind.i64.wrap ((k : Int) + (8 - (bl B : Int))) = ((k + (8 - bl B) : Nat) : Int) := by rw [qal]; omega
    have hw2 : IntKind.i64.wrap (((k + (8 - bl B) : Nat) : Int) - p) = (lz ((yag l).drop p) : Int) := by rw [qal]; omega
    clear hb hB8 hs hs1 hs2 eB e8
    generalize k + (8 - bl B) = K at *
    generalize hZ : lz ((yag l).drop p) = Z at *
    have HZ := qaa hZ
    clear hZ
    go_quiet ((go_at_call 171; exact (hlz _).mono fun _ _ ⟨he, hm⟩ => ⟨he, _, hm.symm⟩))
    go_wp2
    go_ret
    exact ⟨by rw [HZ.out]; rfl, _, rfl⟩
   ·have hb : (((ByteArray.mk l.toArray)[k / 8]'(by rw [qaL, qa3]; exact hq)).toNat * 2 ^ (k % 8) % 256 != (0 : Int)) = false := by assumption
    rw [ycP] at hb
    have eB : ((l[k / 8].toNat : Int) * 2 ^ (k % 8) % 256) = ((l[k / 8].toNat * 2 ^ (k % 8) % 256 : Nat) : Int) := by norm_cast
    rw [eB] at hb
    have hb0 : l[k / 8].toNat * 2 ^ (k % 8) % 256 = 0 := by
     have := bne_eq_false_iff_eq.1 hb
     omega
    go_round
    case rel => exact ⟨8 * (k / 8 + 1), by omega, by omega, iv (by omega), qaa (Hq.out hb0)⟩
    case measure => simp only [intOf]; omega
  ·obtain rfl : k = 8 * l.length := by omega
   have hlz : lz ((yag l).drop p) = 8 * l.length - p := by
    have h1 := Hz.out
    rw [qar (by rw [Hlz.out]; omega)] at h1
    rw [h1]
    have := ygk (8 * l.length - p) []
    rw [qa8] at this
    rw [this]
    rfl
   have Hl2 := qaa hlz
   clear hlz
   go_wp2
   go_ret
   refine ⟨qbC Ending.returned (iv ?_), 0, rfl⟩
   rw [Hl2.out]
   omega
theorem rgamma_yes (l : List UInt8) (p g n : Nat) (w : World) (hl : l.length ≤ 1099511627776) (hp : p ≤ 8 * l.length) (hB : RHold w g l p) (k : Nat) (h : ybr ((yag l).drop p) = ((n : Int), k, 0)) :
  Calls prog 168 #[.pointer (some ⟨g, 0, none⟩)] w fun e w' => e = .returned (.tuple #[.int .i64 n, .int .i64 0]) ∧ RHold w' g l (p + k) ∧ Touch w w' (fun k => k = g) := by
 have hlen : ((yag l).drop p).length = 8 * l.length - p := by rw [qas, yax]
 unfold ybr at h
 by_cases a1 : lz ((yag l).drop p) = ((yag l).drop p).length
 ·rw [qag a1] at h
  simp at h
 ·rw [qae a1] at h
  by_cases a2 : 32 ≤ lz ((yag l).drop p)
  ·rw [qag a2] at h
   simp at h
  ·rw [qae a2] at h
   by_cases a3 : ((yag l).drop p).length < 2 * lz ((yag l).drop p) + 1
   ·rw [qag a3] at h
    simp at h
   ·rw [qae a3] at h
    simp only [qb8, and_true] at h
    obtain ⟨hn, hk⟩ := h
    rw [qbt] at hn
    rw [hlen] at a1 a3
    have hnou := fun v hB => ycG l p g v hl hp hB
    have hleft := fun v hB => ybT l p g v (by omega) hp hB
    generalize lz ((yag l).drop p) = z at *
    have hnum := fun v hB => number_any l (p + z) (z + 1) g p v hl (by omega) (by omega) hB
    rw [Int.natCast_inj.1 hn] at hnum
    have b1 : ¬ (z : Int) = ((8 * l.length - p : Nat) : Int) := by omega
    have b2 : (z : Int) < 32 := by omega
    have b3 : ¬ ((8 * l.length - p : Nat) : Int) < 2 * z + 1 := by omega
    have hpl : (p : Int) ≤ 8796093022208 := by omega
    have hM : ((8 * l.length - p : Nat) : Int) ≤ 8796093022208 := by omega
    have e1 : (p : Int) + z = ((p + z : Nat) : Int) := by omega
    have e2 : (z : Int) + 1 = ((z + 1 : Nat) : Int) := by omega
    have Hk := qaa hk
    obtain ⟨c1, c2, z1, z2⟩ := Blk.two hB
    have hg := Blk.lt hB
    have HB := qaa hB
    have Hnum := qaa hnum
    have E := qaa (And.intro e1 e2)
    clear hB hp hl hn hk a1 a2 a3 hlen hnum e1 e2
    generalize 8 * l.length - p = M at *
    go_enter func168, ntmps168
    go_wp2_with (first
     | (go_at_call 129; refine (ycp g _).mono ?_; rintro e w1 ⟨rfl, rfl⟩)
     | (go_at_call 131; refine (hnou _ (HB.out.drewN 0)).mono ?_; rintro e w1 ⟨rfl, k0, rfl⟩)
     | (go_at_call 130; refine (hleft _ (HB.out.drewN _)).mono ?_; rintro e w1 ⟨rfl, k1, rfl⟩)
     | (go_at_call 170; rw [E.out.1, E.out.2]; refine (Hnum.out _ (HB.out.drewN _)).mono ?_; rintro e w1 ⟨rfl, k2, rfl⟩))
    go_ret2
    refine ⟨rfl, ?_, ((Touch.refl w (fun k => k = g)).drewN _).set (p := ⟨g, 1, none⟩) (qay rfl) _⟩
    rw [← Hk.out]
    exact RHold.go (HB.out.drewN _) (2 * z + 1) _ (by omega)
theorem wgamma_yes (B g : Nat) (n : Int) (v : Value) (R : List Nat) (w : World) (h : hasG n) (hH : WHold w B g v R) (hB : B ≤ w.heap.size) (hR : R.length ≤ 1099511627700) :
  Calls prog 108 #[.pointer (some ⟨g, 0, none⟩), .int .i64 n] w fun e w' => e = .returned (.int .i64 0) ∧ ∃ v', WHold w' B g v' (R ++ gam n.toNat) ∧ Touch w w' (WS g v) ∧ Sep w v v' := by
 obtain ⟨h1, h2⟩ := h
 have e32 : (2 : Int) ^ (32 : Int).toNat = 4294967296 := by decide
 have hs := fun w => bfits_yes n 32 w ⟨by omega, by omega, by omega, by rw [e32]; omega⟩
 have hlen := fun w => len_any n w (by omega) (by omega)
 obtain ⟨b1, b2, b3⟩ := ycF 32 n.toNat (by omega) (by rw [show (2 : Nat) ^ 32 = 4294967296 from by decide]; omega) (by omega)
 have ble := bl_le (n := n.toNat) (by omega) (by omega)
 have hgam : gam n.toNat = List.replicate (bl n.toNat - 1) 0 ++ dig (bl n.toNat) n.toNat := rfl
 have hbl : Lib.bitLen n.toNat = bl n.toNat := rfl
 simp only [hbl] at hlen
 generalize bl n.toNat = k at *
 have f1 : fits 0 ((k : Int) - 1) := ⟨by omega, by omega, by omega, Int.pow_pos (by decide)⟩
 have f2 : fits n k := ⟨by omega, by omega, by omega, by have : (n.toNat : Int) < 2 ^ k := (by exact_mod_cast b3); simp only [qan]; omega⟩
 have d1 : digI 0 ((k : Int) - 1) = List.replicate (k - 1) 0 := by unfold digI; rw [show ((k : Int) - 1).toNat = k - 1 from by omega]; exact ydn _
 have d2 : digI n k = dig k n.toNat := by unfold digI; rw [qan]
 have hput1 := fun w hH hB => bput_is B g 0 ((k : Int) - 1) v R w f1 hH hB (by omega)
 have hput2 := fun w v1 hH hB => bput_is B g n k v1 (R ++ List.replicate (k - 1) 0) w f2 hH hB (by simp; omega)
 rw [d1] at hput1
 rw [d2] at hput2
 have hk1 : (1 : Int) ≤ k := by omega
 have hk2 : (k : Int) ≤ 32 := by omega
 have Hgam := qaa hgam
 have HH := qaa hH
 have HB := qaa hB
 have h0 : 0 ≤ n := by omega
 have Hput1 := qaa hput1
 have Hput2 := qaa hput2
 clear hgam hH hB hput1 hput2 d1 d2 f1 f2 b1 b2 b3 ble hbl e32 hR
 go_enter func108, ntmps108
 go_wp2_with (first
  | (go_at_call 149; refine (hs _).mono ?_; rintro e w1 ⟨rfl, rfl⟩)
  | (go_at_call 150; refine (hlen _).mono ?_; rintro e w1 ⟨rfl, rfl⟩)
  | (go_at_call 107; (with_reducible refine (Hput1.out _ HH.out HB.out).mono ?_); rintro e w1 ⟨rfl, v1, hH1, ht1, hs1⟩; have HH1 := qaa hH1; have Ht1 := qaa ht1; have Hs1 := qaa hs1; clear hH1 ht1 hs1)
  | (go_at_call 107; (with_reducible refine (Hput2.out _ _ HH1.out (qaA HB.out Ht1.out.size)).mono ?_); rintro e w2 ⟨rfl, v2, hH2, ht2, hs2⟩; have HH2 := qaa hH2; have Ht2 := qaa ht2; have Hs2 := qaa hs2; clear hH2 ht2 hs2))
 go_ret
 refine ⟨rfl, v2, ?_, touch_ws Ht1.out Ht2.out Hs1.out, Hs1.out.trans Hs2.out Ht1.out.size⟩
 have := HH2.out
 rw [Hgam.out, ← qam]
 exact this
end Go.Proofs.YtanjhbkbpalnaaaGreat
