/-
 What the law of the last of these texts stands on, part 12.
-/
import Derived.Test.YtanjhbkbpalnaaaGreatMc10
import Derived.Laws.CopyOwn
import Derived.Laws.Bits64b
set_option maxRecDepth 100000
set_option maxHeartbeats 8000000
open Go.Proofs.Tryz
namespace Go.Proofs.YtanjhbkbpalnaaaGreat
set_option linter.unusedSimpArgs false
set_option linter.unusedVariables false
open Go.ChangeShapes Go.WideShapes Go.ChangeAt Go.RowKit Go.Joins Go.Deep
theorem wpigeon : ∀ (n : Nat) (l : List Nat), l.Nodup → (∀ x ∈ l, x < n) → l.length ≤ n
 | 0, l, _, h => by
  cases l with
  | nil => simp
  | cons a t => exact absurd (h a (qa4 ..)) (by omega)
 | n + 1, l, hn, h => by
  have h2 := wpigeon n (l.erase n) (hn.erase n) fun x hx => by
   have h3 := (List.Nodup.mem_erase_iff hn).1 hx
   have := h x h3.2
   have := h3.1
   omega
  have h4 : l.length ≤ (l.erase n).length + 1 := by
   rw [List.length_erase]
   split <;> omega
  omega
theorem wfull {n : Nat} {l : List Nat} (hn : l.Nodup) (h : ∀ x ∈ l, x < n) (hl : l.length = n) : ∀ x, x < n → x ∈ l := fun x hx => by
 by_cases hm : x ∈ l
 ·exact hm
 ·have := wpigeon n (x :: l) (List.nodup_cons.2 ⟨hm, hn⟩) fun y hy => by
   rcases qaB.1 hy with rfl | hy
   ·exact hx
   ·exact h y hy
  rw [qau] at this
  omega
theorem wperm {n : Nat} {l : List Nat} (hn : l.Nodup) (h : ∀ x ∈ l, x < n) (hl : l.length = n) : l.Perm (List.range n) := by
 rw [List.perm_iff_count]
 intro p
 rw [hn.count, List.nodup_range.count]
 by_cases hp : p < n
 ·rw [qah (wfull hn h hl p hp), qah (qaU.2 hp)]
 ·rw [qag fun h2 => hp (h p h2), qag fun h2 => hp (qaU.1 h2)]
theorem yhg {p q : Nat → Bool} : ∀ (l : List Nat), (∀ k ∈ l, p k = true → q k = true) → ∀ x ∈ l, p x = false → q x = true → l.countP p < l.countP q
 | [], _, x, hx, _, _ => by cases hx
 | a :: t, h, x, hx, h1, h2 => by
  have hle : t.countP p ≤ t.countP q := List.countP_mono_left fun k hk => h k (qa3 _ hk)
  rw [qbG, qbG]
  rcases qaB.1 hx with e | hx
  ·subst e
   rw [h1, h2]
   simp
   omega
  ·have ih := yhg t (fun k hk => h k (qa3 _ hk)) x hx h1 h2
   have h3 := h a (qa4 ..)
   cases ha : p a with
   | false => simp; split <;> omega
   | true => rw [h3 ha]; simp; omega
theorem wsort_idx {lt : Nat → Nat → Bool} {n : Nat} (ho : SOrd lt n) {l : List Nat} (h : yfd lt l) (k : Nat) (hk : k < l.length) : l.countP (fun q => lt q l[k]) = k := by
 have e := qax k l
 have e2 : l.countP (fun q => lt q l[k]) = (l.take k ++ l.drop k).countP (fun q => lt q l[k]) := by rw [e]
 rw [e2, qbK, List.countP_eq_length.2 fun q hq => ?_, qc5.2 fun q hq => ?_, qao]
 ·omega
 ·obtain ⟨j, hj, rfl⟩ := qaI hq
  rw [qbX]
  rw [qat] at hj
  cases j with
  | zero => simp [ho.irr]
  | succ j =>
   have := ycN h k (k + (j + 1)) hk (by omega) (by omega)
   rw [ho.asym _ _ this]
   simp
 ·obtain ⟨j, hj, rfl⟩ := qaI hq
  rw [qao] at hj
  rw [List.getElem_take]
  exact ycN h j k (by omega) hk (by omega)
def brk (c : List Int) (i : Nat) : Nat := (List.range c.length).countP fun k => klt c k i
theorem brk_lt (c : List Int) {i j : Nat} (hi : i < c.length) (h : klt c i j = true) : brk c i < brk c j :=
 yhg _ (fun k _ hk => (yfe c c.length).tr k i j hk h) i (qaU.2 hi) ((yfe c c.length).irr i) h
theorem brk_bound (c : List Int) {i : Nat} (hi : i < c.length) : brk c i < c.length := by
 have := yhg (p := fun k => klt c k i) (q := fun _ => true) (List.range c.length) (fun _ _ _ => rfl) i (qaU.2 hi) ((yfe c c.length).irr i) rfl
 rw [List.countP_eq_length.2 fun _ _ => rfl, qaC] at this
 exact this
theorem brk_inj (c : List Int) {i j : Nat} (hi : i < c.length) (hj : j < c.length) (h : brk c i = brk c j) : i = j := by
 by_cases e : i = j
 ·exact e
 ·rcases (yfe c c.length).tot i j hi hj e with h1 | h1
  ·have := brk_lt c hi h1
   omega
  ·have := brk_lt c hj h1
   omega
def bbs (l : List UInt8) : List Int := l.map fun b => (b.toNat : Int)
def bcol (l : List UInt8) (r : Nat) : List Int := bbs (l.take r) ++ -1 :: bbs (l.drop r)
theorem ydC (l : List UInt8) : (bbs l).length = l.length := by simp [bbs]
theorem ybx (l : List UInt8) (r : Nat) (h : r ≤ l.length) : (bcol l r).length = l.length + 1 := by
 unfold bcol
 rw [qae, qau, ydC, ydC, qao, qat]
 omega
theorem yfM (l : List UInt8) (r i : Nat) (h : r ≤ l.length) (hi : i < r) : (bcol l r).getD i 0 = ((l.getD i 0).toNat : Int) := by
 unfold bcol
 have h2 : i < (bbs (l.take r)).length := by rw [ydC, qao]; omega
 rw [qar, qbV h2, qaj h2]
 simp [bbs]
 rw [qaj (by omega)]
 rfl
theorem bcol_at (l : List UInt8) (r : Nat) (h : r ≤ l.length) : (bcol l r).getD r 0 = -1 := by
 unfold bcol
 have h2 : (bbs (l.take r)).length = r := by rw [ydC, qao]; omega
 rw [qar, qbs (by omega), h2, qcc]
 rfl
theorem yel (l : List UInt8) (r i : Nat) (h : r ≤ l.length) (hi : r < i) (hi2 : i < l.length + 1) : (bcol l r).getD i 0 = ((l.getD (i - 1) 0).toNat : Int) := by
 unfold bcol
 have h2 : (bbs (l.take r)).length = r := by rw [ydC, qao]; omega
 obtain ⟨j, rfl⟩ : ∃ j, i = r + 1 + j := ⟨i - r - 1, by omega⟩
 rw [qar, qbs (by omega), h2, show r + 1 + j - r = j + 1 from by omega, qaw, show r + 1 + j - 1 = r + j from by omega]
 simp [bbs]
 rw [qaj (by omega)]
 rfl
theorem bcol_ge (l : List UInt8) (r i : Nat) (h : r ≤ l.length) (hi : i < l.length + 1) (hne : i ≠ r) : 0 ≤ (bcol l r).getD i 0 := by
 rcases Nat.lt_or_gt_of_ne hne with h2 | h2
 ·rw [yfM l r i h h2]
  omega
 ·rw [yel l r i h h2 hi]
  omega
theorem bcol_least (l : List UInt8) (r i : Nat) (h : r ≤ l.length) (hi : i < l.length + 1) (hne : i ≠ r) : klt (bcol l r) r i = true := by
 rw [yfc, bcol_at l r h]
 have := bcol_ge l r i h hi hne
 exact qas (by omega)
theorem yga (l : List UInt8) (r : Nat) (h : r ≤ l.length) : brk (bcol l r) r = 0 := by
 unfold brk
 rw [qc5]
 intro k hk
 rw [qaU, ybx l r h] at hk
 by_cases e : k = r
 ·rw [e, (yfe _ (l.length + 1)).irr]
  simp
 ·rw [(yfe _ (l.length + 1)).asym _ _ (bcol_least l r k h hk e)]
  simp
def bro (c : List Int) : Nat → Nat
 | 0 => 0
 | k + 1 => brk c (bro c k)
theorem ygg (c : List Int) (h : 0 < c.length) : ∀ k, bro c k < c.length
 | 0 => h
 | k + 1 => brk_bound c (ygg c h k)
theorem bro_apart (l : List UInt8) (r : Nat) (h : r ≤ l.length) (hn : ∀ k, k < l.length → bro (bcol l r) k ≠ r) : ∀ i j, i < j → j ≤ l.length → bro (bcol l r) i ≠ bro (bcol l r) j
 | i, 0, hi, _ => by omega
 | 0, j + 1, _, hj => fun e => by
  have e2 : brk (bcol l r) r = brk (bcol l r) (bro (bcol l r) j) := (yga l r h).trans e
  have := brk_inj (bcol l r) (by rw [ybx l r h]; omega) (ygg _ (by rw [ybx l r h]; omega) j) e2
  exact hn j (by omega) this.symm
 | i + 1, j + 1, hi, hj => fun e => by
  have := brk_inj (bcol l r) (ygg _ (by rw [ybx l r h]; omega) i) (ygg _ (by rw [ybx l r h]; omega) j) e
  exact bro_apart l r h hn i j (by omega) (by omega) this
theorem bro_perm (l : List UInt8) (r : Nat) (h : r ≤ l.length) (hn : ∀ k, k < l.length → bro (bcol l r) k ≠ r) : ((List.range (l.length + 1)).map (bro (bcol l r))).Perm (List.range (l.length + 1)) := by
 refine wperm ?_ ?_ (by rw [qaM, qaC])
 ·rw [List.nodup_iff_pairwise_ne, qbd]
  intro i j hi hj hij
  rw [qaM, qaC] at hj
  rw [qaY, qaY, qbp, qbp]
  exact bro_apart l r h hn i j hij (by omega)
 ·intro x hx
  obtain ⟨k, _, rfl⟩ := qbI.1 hx
  have := ygg (bcol l r) (by rw [ybx l r h]; omega) k
  rw [ybx l r h] at this
  exact this
def bahead (s : List UInt8) (p : Nat) : Option UInt8 := if p = 0 then none else some (s.getD (p - 1) 0)
def ybq (s : List UInt8) : List UInt8 := (sarr s).filterMap (bahead s)
def bpr (s : List UInt8) : Nat := (sarr s).idxOf 0
def bval (s : List UInt8) (p : Nat) : Int := if p = 0 then -1 else ((s.getD (p - 1) 0).toNat : Int)
def sbw (s : List UInt8) : List Int := (sarr s).map (bval s)
theorem wfm (s : List UInt8) : ∀ A : List Nat, 0 ∉ A → A.filterMap (bahead s) = A.map (fun p => s.getD (p - 1) 0)
 | [], _ => rfl
 | p :: A, h => by
  have hp : p ≠ 0 := fun e => h (by rw [e]; exact qa4 ..)
  rw [List.filterMap_cons_some (b := s.getD (p - 1) 0) (by unfold bahead; rw [qag hp]), qcr, wfm s A fun h2 => h (qa3 _ h2)]
theorem wfb (s : List UInt8) : ∀ A : List Nat, 0 ∉ A → bbs (A.map (fun p => s.getD (p - 1) 0)) = A.map (bval s)
 | [], _ => rfl
 | p :: A, h => by
  have hp : p ≠ 0 := fun e => h (by rw [e]; exact qa4 ..)
  have ih := wfb s A fun h2 => h (qa3 _ h2)
  have hv : bval s p = ((s.getD (p - 1) 0).toNat : Int) := qag hp
  rw [qcr, qcr, ← ih, hv]
  rfl
theorem widx : ∀ (A B : List Nat), 0 ∉ A → (A ++ 0 :: B).idxOf 0 = A.length
 | [], B, _ => by simp
 | a :: A, B, h => by
  have ha : a ≠ 0 := fun e => h (by rw [e]; exact qa4 ..)
  rw [qbl, List.idxOf_cons, widx A B fun h2 => h (qa3 _ h2), show (a == 0) = false from qbx.2 ha]
  rfl
theorem bsplit (s : List UInt8) : ∃ A B, sarr s = A ++ 0 :: B ∧ 0 ∉ A ∧ 0 ∉ B := by
 obtain ⟨A, B, e⟩ := List.append_of_mem ((ydz s 0).2 (by omega))
 have hn := yeY s
 rw [e, List.nodup_append] at hn
 refine ⟨A, B, e, fun h => hn.2.2 0 h 0 (qa4 ..) rfl, (List.nodup_cons.1 hn.2.1).1⟩
theorem bparts (s : List UInt8) : ybq s = (ybq s).take (bpr s) ++ (ybq s).drop (bpr s) ∧ bpr s ≤ (ybq s).length ∧ (ybq s).length = s.length ∧ bcol (ybq s) (bpr s) = sbw s := by
 obtain ⟨A, B, e, hA, hB⟩ := bsplit s
 have h1 : ybq s = A.map (fun p => s.getD (p - 1) 0) ++ B.map (fun p => s.getD (p - 1) 0) := by
  unfold ybq
  rw [e, List.filterMap_append, List.filterMap_cons_none (by rfl), wfm s A hA, wfm s B hB]
 have h2 : bpr s = A.length := by
  unfold bpr
  rw [e, widx A B hA]
 have h3 := ybY s
 rw [e, qae, qau] at h3
 refine ⟨(qax _ _).symm, ?_, ?_, ?_⟩
 ·rw [h1, h2, qae, qaM]
  omega
 ·rw [h1, qae, qaM, qaM]
  omega
 ·unfold bcol sbw
  rw [h1, h2, qbT (by rw [qaM]), qbF (by rw [qaM]), wfb s A hA, wfb s B hB, e, qc3, qcr]
  rfl
theorem yb0 (s : List UInt8) : (ybq s).length = s.length := (bparts s).2.2.1
theorem bpr_le (s : List UInt8) : bpr s ≤ s.length := by rw [← yb0 s]; exact (bparts s).2.1
theorem bcol_sbw (s : List UInt8) : bcol (ybq s) (bpr s) = sbw s := (bparts s).2.2.2
theorem sbw_len (s : List UInt8) : (sbw s).length = s.length + 1 := by unfold sbw; rw [qaM, ybY]
theorem sbw_get (s : List UInt8) (i : Nat) (h : i < (sarr s).length) : (sbw s).getD i 0 = bval s (sarr s)[i] := by
 rw [qar, qaj (by rw [sbw_len, ← ybY s]; exact h)]
 simp [sbw]
theorem bpr_get (s : List UInt8) : ∃ h : bpr s < (sarr s).length, (sarr s)[bpr s] = 0 := by
 have h : (sarr s).idxOf 0 < (sarr s).length := List.idxOf_lt_length_of_mem ((ydz s 0).2 (by omega))
 exact ⟨h, List.getElem_idxOf h⟩
theorem bat (s : List UInt8) (p : Nat) (h : p < s.length + 1) : ∃ k, ∃ hk : k < (sarr s).length, (sarr s)[k] = p := by
 obtain ⟨k, hk, e⟩ := qaI ((ydz s p).2 h)
 exact ⟨k, hk, e⟩
theorem sarr_first (s : List UInt8) : ∃ h : 0 < (sarr s).length, (sarr s)[0] = s.length := by
 have hl := ybY s
 obtain ⟨k, hk, e⟩ := bat s s.length (by omega)
 cases k with
 | zero => exact ⟨hk, e⟩
 | succ k =>
  have := ycN (ycO s) 0 (k + 1) (by omega) hk (by omega)
  rw [e] at this
  unfold slt at this
  rw [List.drop_length, ycZ] at this
  cases this
theorem bpr_pos (s : List UInt8) (h : 0 < s.length) : 0 < bpr s := by
 obtain ⟨h1, e1⟩ := bpr_get s
 obtain ⟨h2, e2⟩ := sarr_first s
 refine Nat.pos_of_ne_zero fun e => ?_
 have : (sarr s)[bpr s]'h1 = (sarr s)[0]'h2 := by simp only [e]
 omega
theorem slt_row (s : List UInt8) (i k : Nat) (hi : i < (sarr s).length) (hk : k < (sarr s).length) : slt s (sarr s)[k] (sarr s)[i] = decide (k < i) := by
 by_cases h : k < i
 ·rw [ycN (ycO s) k i hk hi h, qaP h]
 ·rw [qbv h]
  by_cases e : k = i
  ·subst e
   exact (yeZ s).irr _
  ·exact (yeZ s).asym _ _ (ycN (ycO s) i k hi hk (by omega))
theorem bslt_step (s : List UInt8) (q p : Nat) (hq : q < s.length) (hp : p < s.length) : slt s q p = true ↔ s[q].toNat < s[p].toNat ∨ (s[q] = s[p] ∧ slt s (q + 1) (p + 1) = true) := by
 unfold slt
 rw [qa6 hq, qa6 hp]
 exact ydV _ _ _ _
theorem blf (s : List UInt8) (i p : Nat) (hi : i < (sarr s).length) (hp : (sarr s)[i] = p + 1) : ∃ h : brk (sbw s) i < (sarr s).length, (sarr s)[brk (sbw s) i] = p := by
 have hle := sarr_le s i hi
 have hl := ybY s
 obtain ⟨k, hk, e⟩ := bat s p (by omega)
 have hc := wsort_idx (yeZ s) (ycO s) k hk
 rw [e, (sarr_perm s).countP_eq, List.range_succ, qbK, List.countP_singleton] at hc
 have hlast : slt s s.length p = true := by
  unfold slt
  rw [List.drop_length, qa6 (show p < s.length by omega)]
  rfl
 rw [qah hlast] at hc
 have hb : brk (sbw s) i = (sarr s).countP fun q => q == 0 || slt s (q - 1) p := by
  unfold brk
  rw [sbw_len, ← hl]
  have e2 : (sarr s).countP (fun q => q == 0 || slt s (q - 1) p) = ((List.range (sarr s).length).map fun k => (sarr s).getD k 0).countP (fun q => q == 0 || slt s (q - 1) p) := by
   congr 1
   apply qbg
   ·simp
   ·intro j h1 h2
    simp [h1]
  rw [e2, List.countP_map]
  refine List.countP_congr fun j hj => ?_
  rw [qaU] at hj
  rw [yfc, sbw_get s j hj, sbw_get s i hi, hp]
  show _ ↔ ((sarr s).getD j 0 == 0 || slt s ((sarr s).getD j 0 - 1) p) = true
  rw [show (sarr s).getD j 0 = (sarr s)[j] from by rw [qar, qaj hj]; rfl]
  have hr := slt_row s i j hi hj
  have hle2 := sarr_le s j hj
  have hv : bval s (p + 1) = (s[p].toNat : Int) := by
   unfold bval
   rw [qag (by omega), qbL, qar, qaj (by omega)]
   rfl
  rw [hv]
  generalize hq : (sarr s)[j] = q at *
  cases q with
  | zero =>
   have : bval s 0 = -1 := rfl
   rw [this]
   simp
   omega
  | succ q =>
   have hv2 : bval s (q + 1) = (s[q].toNat : Int) := by
    unfold bval
    rw [qag (by omega), qbL, qar, qaj (by omega)]
    rfl
   rw [hv2, hp] at *
   have hs := bslt_step s q p (by omega) (by omega)
   rw [hr] at hs
   rw [qbL, show ((q + 1 == 0) = false) from rfl, Bool.false_or, hs, qaR]
   constructor
   ·rintro (h | ⟨h, h2⟩)
    ·exact qas (by omega)
    ·exact qaK ⟨UInt8.toNat_inj.1 (by omega), h2⟩
   ·rintro (h | ⟨h, h2⟩)
    ·exact qas (by omega)
    ·exact qaK ⟨by rw [h], h2⟩
 rw [(sarr_perm s).countP_eq, List.range_succ_eq_map, qbG, List.countP_map] at hb
 have e3 : brk (sbw s) i = k := by
  rw [hb, ← hc]
  congr 1
 exact ⟨by omega, by simp only [e3]; exact e⟩
theorem bwalk (s : List UInt8) : ∀ k, k ≤ s.length → ∃ h : bro (sbw s) k < (sarr s).length, (sarr s)[bro (sbw s) k] = s.length - k
 | 0, _ => by
  obtain ⟨h, e⟩ := sarr_first s
  exact ⟨h, by show (sarr s)[0] = _; rw [e]; rfl⟩
 | k + 1, hk => by
  obtain ⟨h, e⟩ := bwalk s k (by omega)
  exact blf s _ _ h (by rw [e]; omega)
def bch (x : Int) : UInt8 := UInt8.ofNat x.toNat
theorem bch_nat (b : UInt8) : bch (b.toNat : Int) = b := by
 unfold bch
 rw [qav]
 exact UInt8.ofNat_toNat
def bout (c : List Int) : Nat → List UInt8
 | 0 => []
 | k + 1 => bch (c.getD (bro c k) 0) :: bout c k
theorem bout_len (c : List Int) : ∀ k, (bout c k).length = k
 | 0 => rfl
 | k + 1 => by
  show (bout c k).length + 1 = k + 1
  rw [bout_len c k]
def bok (l : List UInt8) (r : Nat) : Bool := (List.range l.length).all (fun k => decide (bro (bcol l r) k ≠ r)) && decide (bro (bcol l r) l.length = r)
theorem bok_iff (l : List UInt8) (r : Nat) : bok l r = true ↔ (∀ k, k < l.length → bro (bcol l r) k ≠ r) ∧ bro (bcol l r) l.length = r := by
 unfold bok
 rw [qbH, qb5, qaR]
 constructor
 ·rintro ⟨h1, h2⟩
  exact ⟨fun k hk => qbo (h1 k (qaU.2 hk)), h2⟩
 ·rintro ⟨h1, h2⟩
  exact ⟨fun k hk => qaP (h1 k (qaU.1 hk)), h2⟩
def bbad (l : List UInt8) (r : Int) : Prop := (l.length = 0 ∧ r ≠ 0) ∨ (0 < l.length ∧ (r < 1 ∨ (l.length : Int) < r))
instance (l : List UInt8) (r : Int) : Decidable (bbad l r) := by unfold bbad; infer_instance
def btF (s : List UInt8) : List UInt8 × Int × Int := if 20000 < s.length then ([], 0, 3) else (ybq s, (bpr s : Int), 0)
def bsF (l : List UInt8) (r : Int) : List Int × Int := if 20000 < l.length then ([], 3) else if bbad l r then ([], 130) else (splc ((List.range (l.length + 1)).map (brk (bcol l r.toNat))), 0)
def biF (l : List UInt8) (r : Int) : List UInt8 × Int := if 20000 < l.length then ([], 3) else if bbad l r then ([], 130) else if bok l r.toNat = true then (bout (bcol l r.toNat) l.length, 0) else ([], 130)
theorem bgood {l : List UInt8} {r : Int} (h : ¬ bbad l r) : ∃ k : Nat, r = (k : Int) ∧ k ≤ l.length ∧ (0 < l.length → 0 < k) := by
 unfold bbad at h
 refine ⟨r.toNat, ?_, ?_, fun h2 => ?_⟩ <;> by_cases e : l.length = 0 <;> omega
theorem bpr_good (s : List UInt8) : ¬ bbad (ybq s) (bpr s) := by
 unfold bbad
 rw [yb0]
 have h1 := bpr_le s
 have h2 := bpr_pos s
 rintro (⟨h3, h4⟩ | ⟨h3, h4⟩)
 ·omega
 ·have := h2 h3
  omega
theorem bout_back (s : List UInt8) : ∀ k, k ≤ s.length → bout (sbw s) k = s.drop (s.length - k)
 | 0, _ => by
  rw [Nat.sub_zero, List.drop_length]
  rfl
 | k + 1, hk => by
  obtain ⟨h, e⟩ := bwalk s k (by omega)
  show bch ((sbw s).getD (bro (sbw s) k) 0) :: bout (sbw s) k = _
  rw [bout_back s k (by omega), sbw_get s _ h, e, qa6 (show s.length - (k + 1) < s.length by omega), show s.length - (k + 1) + 1 = s.length - k from by omega]
  unfold bval
  have e9 : s.length - k - 1 = s.length - (k + 1) := by omega
  rw [qag (by omega), bch_nat, e9, qar, qaj (by omega)]
  rfl
theorem bok_back (s : List UInt8) : bok (ybq s) (bpr s) = true := by
 rw [bok_iff, bcol_sbw, yb0]
 obtain ⟨h0, e0⟩ := bpr_get s
 constructor
 ·intro k hk e
  obtain ⟨h, e2⟩ := bwalk s k (by omega)
  simp only [e] at e2
  omega
 ·obtain ⟨h, e2⟩ := bwalk s s.length (qaf _)
  exact sarr_inj s _ _ h h0 (by omega)
theorem bback (s : List UInt8) (h : s.length ≤ 20000) : biF (ybq s) (bpr s) = (s, 0) := by
 unfold biF
 rw [qag (by rw [yb0]; omega), qag (bpr_good s), qav, qah (bok_back s), bcol_sbw, yb0, bout_back s _ (qaf _), qcc]
 rfl
theorem bcol_byte (l : List UInt8) (r i : Nat) (h : r ≤ l.length) (hi : i < l.length + 1) (hne : i ≠ r) : ∃ b : UInt8, (bcol l r).getD i 0 = (b.toNat : Int) := by
 rcases Nat.lt_or_gt_of_ne hne with h2 | h2
 ·exact ⟨_, yfM l r i h h2⟩
 ·exact ⟨_, yel l r i h h2 hi⟩
theorem yg0 {l : List Int} (h : ya3 l = 0) : l.length ≤ 257 ∧ ydN l = true := by
 unfold ya3 at h
 by_cases h1 : 257 < l.length
 ·rw [qah h1] at h; cases h
 ·rw [qag h1] at h
  refine ⟨by omega, ?_⟩
  cases hg : ydN l with
  | true => rfl
  | false =>
   unfold sumF at h
   rw [hg] at h
   rw [qag (by simp)] at h
   cases h
theorem bget_four {L : List Nat} (to : Nat) (x : Int) (T : List Nat) (hx : 0 ≤ x ∧ x ≤ 15) (h : L.drop to = digI x 4 ++ T) : ybs L to 4 = (x, 0) := by
 have hl := qbD List.length h
 have hd : (digI x 4).length = 4 := by unfold digI; rw [yab]; rfl
 rw [qat, qae, hd] at hl
 unfold ybs
 rw [qag (by omega), qag (by omega), qav, h, show (4 : Int).toNat = 4 from rfl, qbk (by omega), qa5 (by omega)]
 unfold digI
 rw [show (4 : Int).toNat = 4 from rfl, ydf, qc8 (by show _ < 16; omega)]
 congr 1
 omega
theorem tget_back (L : List Nat) (l : List Int) (h15 : ∀ i (h : i < l.length), 0 ≤ l[i] ∧ l[i] ≤ 15) (hl : l.length ≤ 257) (T : List Nat) : ∀ (f i to : Nat) (last : Int), i ≤ l.length → l.length - i < f → (∀ hi : i < l.length, l[i] ≠ last) → L.drop to = yaR (l.drop i) ++ T → ycc L l.length f to last (l.take i) = (l, to + (yaR (l.drop i)).length, 0)
 | 0, i, to, last, hi, hf, _, _ => by omega
 | f + 1, i, to, last, hi, hf, hlast, hL => by
  rw [ycq, qao, qbi hi]
  by_cases hn : l.length ≤ i
  ·rw [qah hn, qaO hn, qa5 hn]
   rfl
  ·rw [qag hn]
   have hil : i < l.length := by omega
   obtain ⟨k, h1, h2, h3, h4⟩ := trun_end l (l.length - i) i hil (qaf _)
   have hb := tbits_at l l[i] i k h1 h2 h3 h4
   have hx := h15 i hil
   obtain ⟨x, hxe⟩ : ∃ x, l[i] = x := ⟨_, rfl⟩
   rw [hxe] at hb hx h3 h4
   have hne := hlast hil
   rw [hxe] at hne
   obtain ⟨d, hd⟩ : ∃ d, k - i = d := ⟨_, rfl⟩
   rw [hd] at hb
   rw [hb] at hL ⊢
   unfold trb at hL ⊢
   rw [qak, qak] at hL
   have g1 := bget_four to x _ hx hL
   have g2 : L.drop (to + 4) = gam d ++ (yaR (l.drop k) ++ T) := by
    rw [← qbh, hL, qaX (by unfold digI; rw [yab]; exact qaf _), qaO (by unfold digI; rw [yab]; exact qaf _), qaS]
   obtain ⟨g3, g4⟩ := ungam_gam d (yaR (l.drop k) ++ T) (by omega) (by omega)
   have g5 : l.take i ++ List.replicate d x = l.take k := by
    have := ygJ l x i d (by omega) fun j hj a b => h3 j hj a (by omega)
    rw [show k = i + d from by omega, qco, this, qbT (by simp)]
   have g6 : L.drop (to + 4 + (gam d).length) = yaR (l.drop k) ++ T := by
    rw [← qbh, g2, qaX (qaf _), qaO (qaf _), qaS]
   rw [g1, g2, g3]
   dsimp only
   rw [qag (by decide), qag (by decide), qag hne, qag (by omega), qav, g5, ← g4, tget_back L l h15 hl T f k _ x h2 (by omega) (fun hk => h4 hk) g6]
   congr 2
   rw [qae, qae]
   unfold digI
   rw [yab]
   show to + 4 + _ + _ = to + (4 + _ + _)
   omega
theorem bget_facts {L : List Nat} (hb : Bin L) (to : Nat) (x e : Int) (h : ybs L to 4 = (x, e)) : (e = 0 ∧ to + 4 ≤ L.length ∧ 0 ≤ x ∧ x ≤ 15) ∨ (e = 4 ∧ x = 0) := by
 unfold ybs at h
 rw [qag (by omega)] at h
 by_cases a : (to : Int) + 4 > L.length
 ·rw [qah a] at h
  simp only [qb3] at h
  exact qaK ⟨h.2.symm, h.1.symm⟩
 ·rw [qag a] at h
  simp only [qb3] at h
  left
  have h1 := ye3 (l := (L.drop ((to : Int)).toNat).take (4 : Int).toNat) fun d hd => hb d (qbt (qaV hd))
  have h2 : (2 : Nat) ^ ((L.drop ((to : Int)).toNat).take (4 : Int).toNat).length ≤ 2 ^ 4 := qaH (by omega) (by rw [qao]; exact Nat.min_le_left _ _)
  have h3 : (2 : Nat) ^ 4 = 16 := by decide
  obtain ⟨h4, h5⟩ := h
  refine ⟨h5.symm, by omega, by omega, by omega⟩
theorem ungam_facts {R : List Nat} (hb : Bin R) (c e : Int) (s : Nat) (h : ybp R = (c, s, e)) : (e = 0 ∧ 1 ≤ c ∧ c < 4294967296 ∧ s ≤ R.length) ∨ (e = 4 ∨ e = 40) := by
 by_cases he : e = 0
 ·subst he
  obtain ⟨h1, h2, h3, _⟩ := ungam_take hb c s h
  exact qas ⟨rfl, h2, h3, h1⟩
 ·right
  unfold ybp at h
  split at h
  ·simp only [qb3] at h; omega
  ·split at h
   ·simp only [qb3] at h; omega
   ·split at h
    ·simp only [qb3] at h; omega
    ·simp only [qb3] at h; omega
def yaF (l : List Int) : List Int := (List.range 257).map fun s : Nat => ((l.count (s : Int) : Nat) : Int)
theorem ya6 (l : List Int) : (yaF l).length = 257 := by unfold yaF; rw [qaM, qaC]
theorem ybi (l : List Int) (s : Nat) (h : s < (yaF l).length) : (yaF l)[s] = ((l.count (s : Int) : Nat) : Int) := by
 have e : (yaF l)[s]? = some ((l.count (s : Int) : Nat) : Int) := by
  unfold yaF
  rw [List.getElem?_map, List.getElem?_range (by rw [ya6] at h; exact h)]
  rfl
 rw [qaj h] at e
 injection e
theorem hcount_nil : yaF [] = List.replicate 257 0 := by
 apply qbg
 ·rw [ya6, qaE]
 ·intro i h1 h2
  rw [ybi, qcf]
  rfl
theorem hcount_snoc (l : List Int) (x : Int) (h0 : 0 ≤ x) (h1 : x ≤ 256) : yaF (l ++ [x]) = (yaF l).set x.toNat ((yaF l)[x.toNat]'(by rw [ya6]; omega) + 1) := by
 apply qbg
 ·rw [qbM, ya6, ya6]
 ·intro i h2 h3
  rw [ybi, qcq, List.count_append, List.count_singleton]
  by_cases e : x.toNat = i
  ·have e2 : x = (i : Int) := by omega
   have e3 : (x == (i : Int)) = true := by rw [beq_iff_eq]; exact e2
   rw [qah e, ybi, qah e3, e]
   omega
  ·have e3 : ¬ (x == (i : Int)) = true := by rw [beq_iff_eq]; omega
   rw [qag e, ybi, qag e3, qb0]
def hin (l : List Int) : Bool := l.all fun x => decide (0 ≤ x) && decide (x ≤ 256)
theorem hin_get {l : List Int} (h : hin l = true) : ∀ x ∈ l, 0 ≤ x ∧ x ≤ 256 := by
 intro x hx
 unfold hin at h
 rw [qb5] at h
 simpa using h x hx
theorem hin_of {l : List Int} (h : ∀ x ∈ l, 0 ≤ x ∧ x ≤ 256) : hin l = true := by
 unfold hin
 rw [qb5]
 intro x hx
 simpa using h x hx
def hcF (l : List Int) : List Int × Int := if 100000 < l.length then ([], 3) else if hin l = true then (yaF l, 0) else ([], 70)
theorem hc_ok {l : List Int} (h : (hcF l).2 = 0) : l.length ≤ 100000 ∧ hin l = true ∧ hcF l = (yaF l, 0) := by
 unfold hcF at h ⊢
 by_cases h1 : 100000 < l.length
 ·rw [qah h1] at h; cases h
 ·rw [qag h1] at h ⊢
  by_cases h2 : hin l = true
  ·rw [qah h2]
   exact ⟨by omega, h2, rfl⟩
  ·rw [qag h2] at h; cases h
theorem hc_bad {l : List Int} (h : (hcF l).2 ≠ 0) : (hcF l).1 = [] := by
 unfold hcF at h ⊢
 by_cases h1 : 100000 < l.length
 ·rw [qah h1]
 ·rw [qag h1] at h ⊢
  by_cases h2 : hin l = true
  ·rw [qah h2] at h; exact absurd rfl h
  ·rw [qag h2]
theorem ydR {l : List Int} (h : l.length ≤ 100000) : ygd (yaF l) = true := cgood_of fun i hi => by
 rw [ybi]
 have := List.count_le_length (a := (i : Int)) (l := l)
 omega
def hL (l : List Int) : List Int := ya0 (yaF l) 15
theorem yhl (l : List Int) : (hL l).length = 257 := by unfold hL; rw [ydy, ya6]
theorem hleaves (l : List Int) : (yaa (yaF l)).length ≤ 2 ^ 15 := by
 have := ydH (yaF l)
 rw [ya6] at this
 have : (257 : Nat) ≤ 2 ^ 15 := by decide
 omega
theorem hbest {l : List Int} (h : l.length ≤ 100000) : yee (yaF l) 15 = (hL l, 0) := by
 have := hleaves l
 unfold yee
 rw [qag (by rw [ya6]; decide), qag (by omega), qah (ydR h), qag (by show ¬ 2 ^ 15 < _; omega)]
 rfl
theorem hL_good {l : List Int} (h : l.length ≤ 100000) : LGoodB (yaF l) (hL l) 15 := ygb ⟨by omega, by omega⟩ (ydR h) (hleaves l)
theorem ye9 {l : List Int} (h : l.length ≤ 100000) : ya3 (hL l) = 0 := by
 rw [← yeJ]
 exact lbestL_check ⟨by omega, by omega⟩ (ydR h) (hleaves l) (by rw [ya6]; omega)
def hws (l : List Int) : List (Int × Int) := wat ((hL l).map Int.toNat) 16 0
theorem hL_word {l : List Int} (h : l.length ≤ 100000) (hi : hin l = true) : ∀ s ∈ l, (yaZ (hws l) s).2 = 0 := by
 intro s hs
 obtain ⟨s0, s1⟩ := hin_get hi s hs
 obtain ⟨k, rfl⟩ := qaQ s0
 have hk : k < (hL l).length := by rw [yhl]; omega
 have hkc : k < (yaF l).length := by rw [ya6]; omega
 have hp := ((hL_good h).pos k hk hkc).2 (by
  rw [ybi]
  have := List.count_pos_iff.2 hs
  omega)
 unfold hws
 have hk2 : k < ((hL l).map Int.toNat).length := by rw [qaM]; exact hk
 rw [cword_is (cnat15 (yg0 (ye9 h)).2) k hk2 (by rw [qaY]; omega)]
def hB (l : List Int) : List Nat := yaR (hL l) ++ ycI (hws l) l
theorem hfit (l : List Int) (h : l.length ≤ 100000) : ∀ f ∈ hws l, fits f.1 f.2 := by
 have := cwords_fit (hL l)
 rw [cwords_ok (ye9 h)] at this
 exact this
theorem hB_bin {l : List Int} (h : l.length ≤ 100000) : Bin (hB l) := (tbits_bin _).app (cbits_bin (hfit l h) l)
theorem yeT {ws : List (Int × Int)} (hf : ∀ f ∈ ws, fits f.1 f.2) : ∀ sy : List Int, (ycI ws sy).length ≤ 32 * sy.length
 | [] => qaf _
 | s :: t => by
  have h1 := (yha hf s).1
  have h2 := yeT hf t
  rw [yd1, qae, qau]
  omega
theorem htbits_len (l : List Int) : (yaR (hL l)).length ≤ 17219 := by
 have := tbits_len (hL l) (by rw [yhl]; omega)
 rw [yhl] at this
 omega
theorem hB_len {l : List Int} (h : l.length ≤ 100000) : (hB l).length ≤ 17219 + 32 * l.length := by
 have h1 := htbits_len l
 have h2 := yeT (hfit l h) l
 unfold hB
 rw [qae]
 omega
def hencF (l : List Int) : List UInt8 × Int := if (hcF l).2 = 0 then (text (hB l), 0) else ([], (hcF l).2)
theorem bget_more (L T : List Nat) (to : Nat) (h : (ybs L to 4).2 = 0) : ybs (L ++ T) to 4 = ybs L to 4 ∧ to + 4 ≤ L.length := by
 unfold ybs at h ⊢
 rw [qag (by omega)] at h ⊢
 by_cases a : (to : Int) + 4 > L.length
 ·rw [qah a] at h; cases h
 ·have a2 : to + 4 ≤ L.length := by omega
  rw [qag a, qag (by rw [qae]; omega), qav, qaX (by omega), qbk (by rw [qat]; show 4 ≤ _; omega)]
  exact ⟨rfl, a2⟩
theorem lz_more : ∀ R T : List Nat, lz R < R.length → lz (R ++ T) = lz R
 | [], _, h => absurd h (by simp)
 | d :: t, T, h => by
  show (if d = 0 then lz (t ++ T) + 1 else 0) = (if d = 0 then lz t + 1 else 0)
  by_cases e : d = 0
  ·have h2 : lz (d :: t) = lz t + 1 := by show (if d = 0 then lz t + 1 else 0) = _; rw [qah e]
   rw [qah e, qah e, lz_more t T (by rw [h2, qau] at h; omega)]
  ·rw [qag e, qag e]
theorem ungam_more (R T : List Nat) (h : (ybp R).2.2 = 0) : ybp (R ++ T) = ybp R ∧ (ybp R).2.1 ≤ R.length := by
 have hl := lz_le R
 unfold ybp at h ⊢
 by_cases a1 : lz R = R.length
 ·rw [qah a1] at h; cases h
 rw [qag a1] at h ⊢
 by_cases a2 : 32 ≤ lz R
 ·rw [qah a2] at h; cases h
 rw [qag a2] at h ⊢
 by_cases a3 : R.length < 2 * lz R + 1
 ·rw [qah a3] at h; cases h
 rw [qag a3]
 have e := lz_more R T (by omega)
 rw [e, qag (by rw [qae]; omega), qag a2, qag (by rw [qae]; omega), qaX (by omega), qbk (by rw [qat]; omega)]
 exact ⟨rfl, by show 2 * lz R + 1 ≤ R.length; omega⟩
theorem tget1_more (L T : List Nat) (n : Nat) : ∀ (f to : Nat) (last : Int) (out : List Int), to ≤ L.length → (ycc L n f to last out).2.2 = 0 → ycc (L ++ T) n f to last out = ycc L n f to last out ∧ (ycc L n f to last out).2.1 ≤ L.length
 | 0, to, last, out, hto, h => ⟨rfl, hto⟩
 | f + 1, to, last, out, hto, h => by
  rw [ycq] at h ⊢
  rw [ycq]
  by_cases h1 : n ≤ out.length
  ·rw [qah h1, qah h1]
   exact ⟨rfl, hto⟩
  rw [qag h1] at h ⊢
  rw [qag h1]
  by_cases h2 : (ybs L to 4).2 ≠ 0
  ·rw [qah h2] at h; exact absurd h h2
  rw [qag h2] at h ⊢
  obtain ⟨m1, m2⟩ := bget_more L T to (by omega)
  rw [m1, qag h2, qaX m2]
  by_cases h3 : (ybp (L.drop (to + 4))).2.2 ≠ 0
  ·rw [qah h3] at h; exact absurd h h3
  rw [qag h3] at h ⊢
  obtain ⟨m3, m4⟩ := ungam_more (L.drop (to + 4)) T (by omega)
  rw [m3, qag h3]
  by_cases h4 : (ybs L to 4).1 = last
  ·rw [qah h4] at h; cases h
  rw [qag h4] at h ⊢
  rw [qag h4]
  by_cases h5 : (n : Int) - out.length < (ybp (L.drop (to + 4))).1
  ·rw [qah h5] at h; cases h
  rw [qag h5] at h ⊢
  rw [qag h5]
  rw [qat] at m4
  exact tget1_more L T n f _ _ _ (by omega) h
theorem tgetF_more (L T : List Nat) (p : Nat) (n : Int) (hp : p ≤ L.length) (h : (yb8 L p n).2.2 = 0) : yb8 (L ++ T) p n = yb8 L p n ∧ (yb8 L p n).2.1 ≤ L.length ∧ ya3 (yb8 L p n).1 = 0 := by
 unfold yb8 at h ⊢
 by_cases h1 : n < 0 ∨ 257 < n
 ·rw [qah h1] at h; cases h
 rw [qag h1] at h ⊢
 rw [qag h1]
 by_cases h2 : (ycc L n.toNat (n.toNat + 1) p (-1) []).2.2 ≠ 0
 ·rw [qah h2] at h; exact absurd h h2
 rw [qag h2] at h ⊢
 obtain ⟨m1, m2⟩ := tget1_more L T n.toNat (n.toNat + 1) p (-1) [] hp (by omega)
 rw [m1, qag h2]
 by_cases h3 : ya3 (ycc L n.toNat (n.toNat + 1) p (-1) []).1 ≠ 0
 ·rw [qah h3] at h; exact absurd h h3
 rw [qag h3]
 exact ⟨rfl, m2, by show ya3 (ycc L n.toNat (n.toNat + 1) p (-1) []).1 = 0; omega⟩
theorem ygh : ∀ R d : List Nat, (begF R d).2 = true → ∃ T, R = d ++ T
 | R, [], _ => ⟨R, rfl⟩
 | [], _ :: _, h => by cases h
 | a :: t, b :: u, h => by
  have e : begF (a :: t) (b :: u) = if a = b then begF t u else (false, false) := rfl
  rw [e] at h
  by_cases hab : a = b
  ·rw [qah hab] at h
   obtain ⟨T, hT⟩ := ygh t u h
   exact ⟨T, by rw [hab, hT]; rfl⟩
  ·rw [qag hab] at h; cases h
theorem yeN (R : List Nat) : ∀ (ws : List (Int × Int)) (s : Nat) (E : Int), E ≠ 0 → (ybr ws s R E).2.2 = 0 → ∃ j, ∃ hj : j < ws.length, ws[j].2 ≠ 0 ∧ (∃ T, R = digI ws[j].1 ws[j].2 ++ T)
 | [], s, E, hE, h => absurd h hE
 | f :: t, s, E, hE, h => by
  have e : ybr (f :: t) s R E = if f.2 = 0 then ybr t (s + 1) R E else if (begF R (digI f.1 f.2)).2 = true then ((s : Int), ((digI f.1 f.2).length : Int), 0) else ybr t (s + 1) R (if (begF R (digI f.1 f.2)).1 = true then 4 else E) := rfl
  rw [e] at h
  by_cases h1 : f.2 = 0
  ·rw [qah h1] at h
   obtain ⟨j, hj, h2⟩ := yeN R t (s + 1) E hE h
   exact ⟨j + 1, by simpa using hj, h2⟩
  ·rw [qag h1] at h
   by_cases h2 : (begF R (digI f.1 f.2)).2 = true
   ·exact ⟨0, by simp, h1, ygh R _ h2⟩
   ·rw [qag h2] at h
    obtain ⟨j, hj, h3⟩ := yeN R t (s + 1) _ (by split <;> omega) h
    exact ⟨j + 1, by simpa using hj, h3⟩
section
variable {ls : List Nat} {L : List Nat}
theorem cget_more (h15 : ∀ x ∈ ls, x ≤ 15) (hc : call ls ≤ 32768) {T : List Nat} (hb : Bin L) (hbT : Bin T) (p : Nat) (hp : p ≤ L.length) (h : (ybk (wat ls 16 0) L p).2.2 = 0) : ybk (wat ls 16 0) (L ++ T) p = ybk (wat ls 16 0) L p ∧ p + (ybk (wat ls 16 0) L p).2.1.toNat ≤ L.length := by
 unfold ybk at h ⊢
 obtain ⟨k, hk2, h1, T2, h2⟩ := yeN (L.drop p) (wat ls 16 0) 0 _ (by split <;> omega) h
 have hk : k < ls.length := by rw [yaS] at hk2; exact hk2
 have hpk : 0 < ls[k] := by
  rcases qba ls[k] with h3 | h3
  ·exact absurd (ydv h15 k hk hk2 (by omega)) h1
  ·exact h3
 rw [(yc2 h15 k hk hk2 hpk).1] at h2
 have hbd : Bin (L.drop p) := fun d hd => hb d (qbt hd)
 have g1 := ygN h15 hc hbd (if p = L.length then 4 else 40) k hk hpk T2 h2
 have g2 := ygN h15 hc (hbd.app hbT) (if p = (L ++ T).length then 4 else 40) k hk hpk (T2 ++ T) (by rw [h2, qak])
 rw [qaX hp, g1, g2]
 refine ⟨rfl, ?_⟩
 have := qbD List.length h2
 rw [qat, qae, yab] at this
 show p + ((ls[k] : Nat) : Int).toNat ≤ L.length
 omega
theorem cunp_more (h15 : ∀ x ∈ ls, x ≤ 15) (hc : call ls ≤ 32768) {T : List Nat} (hb : Bin L) (hbT : Bin T) : ∀ (i p : Nat) (acc : List Int), p ≤ L.length → (cunp (wat ls 16 0) L i p acc).2.2 = 0 → cunp (wat ls 16 0) (L ++ T) i p acc = cunp (wat ls 16 0) L i p acc ∧ (cunp (wat ls 16 0) L i p acc).2.1 ≤ L.length
 | 0, p, acc, hp, _ => ⟨rfl, hp⟩
 | i + 1, p, acc, hp, h => by
  rw [ycQ] at h ⊢
  rw [ycQ]
  by_cases h1 : (ybk (wat ls 16 0) L p).2.2 = 0
  ·rw [qah h1] at h ⊢
   obtain ⟨g1, g2⟩ := cget_more h15 hc hb hbT p hp h1
   rw [g1, qah h1]
   exact cunp_more h15 hc hb hbT i _ _ g2 h
  ·rw [qag h1] at h
   exact absurd h h1
end
def ygX (L : List Nat) (p : Nat) : Bool := decide (L.length - p < 8) && decide (lz (L.drop p) = L.length - p)
def hdec2 (L : List Nat) (U : List Int × Nat × Int) : List Int × Int := if U.2.2 ≠ 0 then ([], U.2.2) else if ygX L U.2.1 = true then (U.1, 0) else ([], 6)
def hdec1 (L : List Nat) (n : Nat) (G : List Int × Nat × Int) : List Int × Int := if G.2.2 ≠ 0 then ([], G.2.2) else hdec2 L (cunp (wat (G.1.map Int.toNat) 16 0) L n G.2.1 [])
def yci (s : List UInt8) (n : Int) : List Int × Int := if n < 0 ∨ 100000 < n then ([], 2) else hdec1 (yaf s) n.toNat (yb8 (yaf s) 0 257)
theorem tgetF_back {l : List Int} (h : ya3 l = 0) (L T : List Nat) (hL : L = yaR l ++ T) : yb8 L 0 (l.length : Int) = (l, (yaR l).length, 0) := by
 obtain ⟨hl, hg⟩ := yg0 h
 have hr := tget_back L l (fun i hi => ybK hg i hi) hl T (l.length + 1) 0 0 (-1) (qbE _) (by omega) (fun hi e => by have := ybK hg 0 hi; omega) (by rw [qb9, qb9, hL])
 rw [qb9, qaL, qbb] at hr
 unfold yb8
 rw [qag (by omega), qav, hr, qag (by simp), qag (by rw [h]; simp)]
theorem hback_row {l : List Int} (h : l.length ≤ 100000) (hi : hin l = true) (L T : List Nat) (hL2 : L = hB l ++ T) (hb : Bin L) : yb8 L 0 257 = (hL l, (yaR (hL l)).length, 0) ∧ cunp (hws l) L l.length (yaR (hL l)).length [] = (l, (hB l).length, 0) := by
 have hc := ye9 h
 obtain ⟨_, hg, hca⟩ := ydi hc
 constructor
 ·have := tgetF_back hc L (ycI (hws l) l ++ T) (by rw [hL2]; unfold hB; rw [qak])
  rw [yhl] at this
  exact this
 ·have := cunp_back (cnat15 hg) hca hb l (yaR (hL l)).length [] T (hL_word h hi) (by
   rw [hL2]
   unfold hB
   rw [qak, qbF rfl]
   rfl)
  rw [qaS] at this
  unfold hws
  rw [this]
  unfold hB hws
  rw [qae]
theorem hlz_zeros : ∀ n, lz (List.replicate n 0) = n
 | 0 => rfl
 | n + 1 => by
  rw [qby]
  show (if (0 : Nat) = 0 then lz (List.replicate n 0) + 1 else 0) = n + 1
  rw [qah rfl, hlz_zeros n]
theorem hrow {l : List Int} (h : l.length ≤ 100000) (B : List UInt8) : yaf (text (hB l) ++ B) = hB l ++ (List.replicate (fr (hB l)) 0 ++ yaf B) := by rw [row_append, row_text (hB_bin h), qak]
theorem hback {l : List Int} (h : l.length ≤ 100000) (hi : hin l = true) : yci (text (hB l)) (l.length : Int) = (l, 0) := by
 have hr := hrow h []
 rw [qa8] at hr
 have e : yaf [] = [] := rfl
 rw [e, qa8] at hr
 obtain ⟨h1, h2⟩ := hback_row h hi _ _ hr (ycT _)
 unfold yci hdec1
 rw [qag (by omega), h1, qag (by simp), qav]
 show hdec2 _ (cunp (hws l) _ _ _ _) = _
 rw [h2]
 unfold hdec2
 rw [qag (by simp), qah]
 unfold ygX
 rw [hr, qbF rfl, hlz_zeros, qae, qaE]
 have := fr_lt (hB l)
 simp
 omega
theorem tbP_pos : ∀ (t : List Int) (x : Int) (c : Nat), 4 ≤ (tbP x c t).length
 | [], x, c => by
  show 4 ≤ (trb x c).length
  unfold trb digI
  rw [qae, yab]
  exact Nat.le_add_right _ _
 | y :: t, x, c => by
  show 4 ≤ (if y = x then tbP x (c + 1) t else trb x c ++ tbP y 1 t).length
  by_cases e : y = x
  ·rw [qah e]; exact tbP_pos t x (c + 1)
  ·rw [qag e, qae]
   have := tbP_pos t y 1
   omega
theorem hB_pos (l : List Int) : 4 ≤ (hB l).length := by
 unfold hB
 rw [qae]
 have h1 := yhl l
 generalize hL l = k at *
 cases k with
 | nil => cases h1
 | cons x t =>
  have := tbP_pos t x 1
  show 4 ≤ (tbP x 1 t).length + _
  omega
theorem hcut {l : List Int} (h : l.length ≤ 100000) (hi : hin l = true) (k : Nat) (hk : k + 1 = (text (hB l)).length) : (yci ((text (hB l)).take k) (l.length : Int)).2 ≠ 0 := by
 intro hz
 have hr := hrow h []
 rw [qa8] at hr
 obtain ⟨h1, h2⟩ := hback_row h hi _ _ hr (ycT _)
 have hsplit : yaf (text (hB l)) = yaf ((text (hB l)).take k) ++ yaf ((text (hB l)).drop k) := by rw [← row_append, qax]
 have hlen : (yaf ((text (hB l)).take k)).length = 8 * k := by rw [yar, qao]; omega
 have htl := yc3 (hB l)
 have hpos := hB_pos l
 unfold yci hdec1 at hz
 rw [qag (by omega), qav] at hz
 have hb1 := ycT ((text (hB l)).take k)
 have hb2 := ycT ((text (hB l)).drop k)
 rw [hsplit] at h1 h2
 generalize yaf ((text (hB l)).take k) = R at *
 generalize yaf ((text (hB l)).drop k) = T at *
 by_cases g : (yb8 R 0 257).2.2 ≠ 0
 ·rw [qah g] at hz
  exact g hz
 rw [qag g] at hz
 obtain ⟨m1, m2, m3⟩ := tgetF_more R T 0 257 (qbE _) (by omega)
 rw [← m1, h1] at hz m2 m3
 dsimp only at hz m2 m3
 unfold hdec2 at hz
 obtain ⟨_, hg, hca⟩ := ydi m3
 by_cases g2 : (cunp (wat ((hL l).map Int.toNat) 16 0) R l.length (yaR (hL l)).length []).2.2 ≠ 0
 ·rw [qah g2] at hz
  exact g2 hz
 obtain ⟨m4, m5⟩ := cunp_more (cnat15 hg) hca hb1 hb2 l.length (yaR (hL l)).length [] m2 (by omega)
 unfold hws at h2
 rw [h2] at m4
 rw [← m4] at m5
 dsimp only at m5
 omega
def trip (r : Int × Int × Int) : Value := .tuple #[.int .i64 r.1, .int .i64 r.2.1, .int .i64 r.2.2]
theorem ycg (l : List UInt8) (p : Int) (w : World) : Calls prog 178 #[.string ⟨l.toArray⟩, .int .i64 p] w fun e w' => e = .returned (.bool (decide (0 ≤ p) && decide (p ≤ l.length))) ∧ w = w' := by
 go_enter func178, ntmps178
 go_wp2
 ·rename_i h
  go_ret
  exact ⟨by simp [h], rfl⟩
 ·rename_i h
  go_ret
  exact ⟨by simp; omega, rfl⟩
theorem pow128 (k : Nat) : (128 : Nat) ^ k = 2 ^ (7 * k) := by rw [Nat.pow_mul]
theorem pow256 (k : Nat) : (256 : Nat) ^ k = 2 ^ (8 * k) := by rw [Nat.pow_mul]
theorem or_digit (X b k : Nat) (hX : X < 128 ^ k) (hk : k < 9) : bits .or .i64 (X : Int) (wrap64 ((b : Int) % 128 * 2 ^ (7 * k))) = ((X + 128 ^ k * (b % 128) : Nat) : Int) := by
 have hb : b % 128 < 128 := Nat.mod_lt _ (by omega)
 have h1 : X + 128 ^ k * (b % 128) < 128 ^ (k + 1) := by
  rw [qaW]
  have : 128 ^ k * (b % 128) ≤ 128 ^ k * 127 := qcp _ (by omega)
  omega
 have h2 : 128 ^ (k + 1) ≤ 128 ^ 9 := qaH (by omega) (by omega)
 rw [pow9] at h2
 have e : ((X : Int) + (b : Int) % 128 * 2 ^ (7 * k)) = ((X + 128 ^ k * (b % 128) : Nat) : Int) := by
  rw [pow128, qb7, qc1, Int.natCast_pow, Int.natCast_emod, Int.mul_comm]
  rfl
 have hX' : (X : Int) < 2 ^ (7 * k) := by
  have : ((X : Nat) : Int) < ((2 ^ (7 * k) : Nat) : Int) := by rw [← pow128]; exact Int.ofNat_lt.2 hX
  rwa [Int.natCast_pow] at this
 rw [or_i64 (X : Int) ((b : Int) % 128) (7 * k) (by omega) hX' (by omega) (by rw [e]; omega), e]
section
variable {l : List UInt8} {p : Nat} (hp : p ≤ l.length)
include hp
theorem getF_err {e : Int} (he : e ≠ 0) (h : getR (l.drop p) = (0, 0, e)) : getF l p = (0, 0, e) := by
 unfold getF
 rw [qah ⟨by omega, by omega⟩, qav, h, qag he]
theorem getF_form (h : 9 ≤ lead (l.drop p)) : getF l p = (0, 0, 5) := getF_err hp (by decide) (by unfold getR; rw [qah h])
theorem getF_short (h : lead (l.drop p) < 9) (h2 : lead (l.drop p) = l.length - p) : getF l p = (0, 0, 4) := getF_err hp (by decide) (by unfold getR; rw [qag (by omega), qah (by rw [qat]; exact h2)])
theorem getF_zero (h : lead (l.drop p) < 9) (h2 : lead (l.drop p) < l.length - p) (h3 : 0 < lead (l.drop p)) (h4 : l[p + lead (l.drop p)]'(by omega) = 0) : getF l p = (0, 0, 5) := getF_err hp (by decide) (by
 have hz : (l.drop p).getD (lead (l.drop p)) 0 = 0 := by
  rw [qar, List.getElem?_drop, qaj (by omega), h4]
  rfl
 unfold getR
 rw [qag (by omega), qag (by rw [qat]; omega), qah ⟨h3, hz⟩])
theorem getF_ok (h : lead (l.drop p) < 9) (h2 : lead (l.drop p) < l.length - p) (h4 : lead (l.drop p) = 0 ∨ l[p + lead (l.drop p)]'(by omega) ≠ 0) : getF l p = ((val ((l.drop p).take (lead (l.drop p) + 1)) : Int), (p : Int) + ((lead (l.drop p) + 1 : Nat) : Int), 0) := by
 have e : getR (l.drop p) = ((val ((l.drop p).take (lead (l.drop p) + 1)) : Int), lead (l.drop p) + 1, 0) := by
  unfold getR
  rw [qag (by omega), qag (by rw [qat]; omega), qag ?_]
  rintro ⟨h5, h6⟩
  rw [qar, List.getElem?_drop, qaj (by omega)] at h6
  rcases h4 with h4 | h4
  ·omega
  ·exact h4 h6
 unfold getF
 rw [qah ⟨by omega, by omega⟩, qav, e]
 simp
end
theorem get_in (l : List UInt8) (p : Nat) (w : World) (hp : p ≤ l.length) (hl : l.length ≤ 4611686018427387904) : Calls prog 140 #[.string ⟨l.toArray⟩, .int .i64 p] w fun e w' => e = .returned (trip (getF l p)) ∧ w = w' := by
 go_enter func140, ntmps140
 go_wp2
 go_step3
 go_wp2_with (refine (ycg l p w).mono ?_; rintro e w1 ⟨rfl, rfl⟩; rw [show (decide (0 ≤ (p : Int)) && decide ((p : Int) ≤ l.length)) = true from by simp; omega])
 go_step3
 go_wp2
 go_loop [4, 13] (fun n i => ∃ (k X : Nat), k ≤ 9 ∧ p + k ≤ l.length ∧ i = .int .i64 k ∧ n = .int .i64 X ∧ Hid (k ≤ lead (l.drop p) ∧ X = val ((l.drop p).take k))) (fun _ i => match i with | .int _ m => 9 - m.toNat | _ => 0)
 case atStart => exact ⟨0, 0, by omega, by omega, rfl, rfl, ⟨by omega, by simp [val]⟩⟩
 case round =>
  obtain ⟨k, X, hk, hpk, rfl, rfl, hd⟩ := hrel
  go_wp2
  ·rename_i hx _
   have hx : p + k = l.length := by have := WalkArith.int_eq hx; omega
   have hle := lead_le (l.drop p)
   rw [qat] at hle
   try rw [qca]
   go_ret3
   refine ⟨?_, rfl⟩
   rw [getF_short hp (by have := hd.out.1; omega) (by have := hd.out.1; omega)]
   rfl
  ·-- a byte that goes on
   rename_i hx hin _ _ hb
   have hlt : p + k < l.length := by omega
   rw [yd2] at hb ⊢
   have hb' : 128 ≤ (l[p + k]).toNat := by omega
   obtain ⟨hd1, hd2⟩ := hd.out
   have hdl : k < (l.drop p).length := by rw [qat]; omega
   have hge : (l.drop p)[k]'hdl = l[p + k] := qbX ..
   have hmore := lead_more (l.drop p) k hd1 hdl (by rw [hge]; exact hb')
   have hXlt : X < 128 ^ k := by
    rw [hd2]
    have := val_lt ((l.drop p).take k)
    rwa [qao, qbi (by omega)] at this
   rw [or_digit X _ k hXlt (by omega)]
   refine ⟨⟨k + 1, X + 128 ^ k * ((l[p + k]).toNat % 128), by omega, by omega, iv (by omega), rfl, hmore, ?_⟩, ?_⟩
   ·rw [yfJ _ k hdl, hge, ← hd2]
   ·show 9 - Int.toNat _ < 9 - Int.toNat _
    omega
  ·-- a last byte of 0 that is not the only one
   rename_i hb0 hk0
   have hlt : p + k < l.length := by omega
   rw [yd2] at hb0
   obtain ⟨hd1, hd2⟩ := hd.out
   have hdl : k < (l.drop p).length := by rw [qat]; omega
   have hge : (l.drop p)[k]'hdl = l[p + k] := qbX ..
   have hlead := lead_is (l.drop p) k hd1 hdl (by rw [hge]; omega)
   rw [qca]
   go_ret3
   refine ⟨?_, rfl⟩
   rw [getF_zero hp (by omega) (by omega) (by omega) (by simp only [hlead]; exact u8_eq (by simpa using hb0))]
   rfl
  ·-- a 0 that is the only byte
   rename_i hb0 hk0
   have hlt : p + k < l.length := by omega
   rw [yd2] at hb0
   obtain ⟨hd1, hd2⟩ := hd.out
   have hk0' : k = 0 := by omega
   subst hk0'
   have hdl : 0 < (l.drop p).length := by rw [qat]; omega
   have hge : (l.drop p)[0]'hdl = l[p + 0] := qbX ..
   have hlead := lead_is (l.drop p) 0 hd1 hdl (by rw [hge]; omega)
   rw [qca]
   go_ret3
   refine ⟨?_, rfl⟩
   rw [getF_ok hp (by omega) (by omega) (qas hlead), hlead, yfJ _ 0 hdl, hge, hb0]
   simp at hd2
   subst hd2
   refine tv _ _ _ _ _ _ ?_
   have h00 := or_digit 0 0 0 (by decide) (by decide)
   simp [val] at h00 ⊢
   exact h00
  ·rename_i hb hb0
   have hlt : p + k < l.length := by omega
   rw [yd2] at hb hb0
   rw [yd2]
   obtain ⟨hd1, hd2⟩ := hd.out
   have hdl : k < (l.drop p).length := by rw [qat]; omega
   have hge : (l.drop p)[k]'hdl = l[p + k] := qbX ..
   have hlead := lead_is (l.drop p) k hd1 hdl (by rw [hge]; omega)
   have hXlt : X < 128 ^ k := by
    rw [hd2]
    have := val_lt ((l.drop p).take k)
    rwa [qao, qbi (by omega)] at this
   rw [or_digit X _ k hXlt (by omega)]
   rw [qca]
   go_ret3
   refine ⟨?_, rfl⟩
   rw [getF_ok hp (by omega) (by omega) (qaK (by simp only [hlead]; exact fun h => hb0 (by rw [h]; rfl))), hlead, yfJ _ k hdl, hge, ← hd2]
   refine tv _ _ _ _ _ _ ?_
   simp only [qb3, true_and, and_true]
   omega
  ·exfalso
   have := WalkArith.int_ne (by assumption : ((p : Int) + (k : Int) == (l.length : Int)) = false)
   omega
  ·rename_i hx
   go_ret3
   refine ⟨?_, rfl⟩
   rw [getF_form hp (by have := hd.out.1; omega)]
   rfl
theorem get_any (l : List UInt8) (p : Int) (w : World) (hl : l.length ≤ 4611686018427387904) : Calls prog 140 #[.string ⟨l.toArray⟩, .int .i64 p] w fun e w' => e = .returned (trip (getF l p)) ∧ w = w' := by
 by_cases hp : 0 ≤ p ∧ p ≤ l.length
 ·obtain ⟨q, rfl⟩ := qaQ hp.1
  exact get_in l q w (by omega) hl
 ·have fin : getF l p = (0, 0, 2) := by unfold getF; rw [qag hp]
  rw [fin]
  clear fin
  go_enter func140, ntmps140
  go_wp2
  go_step3
  go_wp2_with (refine (ycg l p w).mono ?_; rintro e w1 ⟨rfl, rfl⟩; rw [show (decide (0 ≤ p) && decide (p ≤ l.length)) = false from by simp; omega])
  rw [qca]
  go_ret3
  exact ⟨rfl, rfl⟩
theorem or_byte (X b k : Nat) (hX : X < 256 ^ k) (hk : k < 8) (hb : b < 256) :
  (X + 256 ^ k * b < 9223372036854775808 → bits .or .i64 (X : Int) (wrap64 ((b : Int) * 2 ^ (8 * k))) = ((X + 256 ^ k * b : Nat) : Int)) ∧
  (9223372036854775808 ≤ X + 256 ^ k * b → k = 7 ∧ bits .or .i64 (X : Int) (wrap64 ((b : Int) * 2 ^ (8 * k))) < 0) := by
 constructor
 ·intro h
  have e : ((X : Int) + (b : Int) * 2 ^ (8 * k)) = ((X + 256 ^ k * b : Nat) : Int) := by
   rw [pow256, qb7, qc1, Int.natCast_pow, Int.mul_comm]
   rfl
  have hX' : (X : Int) < 2 ^ (8 * k) := by
   have : ((X : Nat) : Int) < ((2 ^ (8 * k) : Nat) : Int) := by rw [← pow256]; exact Int.ofNat_lt.2 hX
   rwa [Int.natCast_pow] at this
  rw [or_i64 (X : Int) (b : Int) (8 * k) (by omega) hX' (by omega) (by rw [e]; omega), e]
 ·intro h
  have hk7 : k = 7 := by
   rcases qbz k 7 with hlt | hge
   ·exfalso
    have h1 : 256 ^ k * b ≤ 256 ^ k * 255 := qcp _ (by omega)
    have h2 : 256 ^ k ≤ 256 ^ 6 := qaH (by omega) (by omega)
    have e6 : (256 : Nat) ^ 6 = 281474976710656 := by decide
    omega
   ·omega
  subst hk7
  refine ⟨rfl, ?_⟩
  have e7 : (256 : Nat) ^ 7 = 72057594037927936 := by decide
  have e56 : (2 : Int) ^ (8 * 7) = 72057594037927936 := by decide
  rw [e7] at hX h
  rw [e56]
  have hw : wrap64 ((b : Int) * 72057594037927936) = (b : Int) * 72057594037927936 - 18446744073709551616 := by unfold wrap64; omega
  rw [hw]
  exact or_neg _ _ (by omega) (by omega) (by omega) (by omega)
theorem unfix_in (l : List UInt8) (p v : Nat) (w : World) (h1 : 1 ≤ v) (h8 : v ≤ 8) (hp : p + v ≤ l.length) (hl : l.length ≤ 4611686018427387904) :
  Calls prog 191 #[.string ⟨l.toArray⟩, .int .i64 p, .int .i64 v] w fun e w' => e = .returned (trip (yau l p v)) ∧ w = w' := by
 have hv8 := val8_lt ((l.drop p).take v)
 rw [qao, qat, qbi (by omega)] at hv8
 have hv8 := qaa hv8
 have fin : yau l p v = if 9223372036854775808 ≤ val8 ((l.drop p).take v) then (0, 0, 5) else ((val8 ((l.drop p).take v) : Int), (p : Int) + v, 0) := by
  unfold yau
  rw [qah ⟨by omega, by omega, by omega, by omega⟩, qag (by omega), qav, qav]
 rw [fin]
 clear fin
 go_enter func191, ntmps191
 go_wp2_with (refine (ycg l p w).mono ?_; rintro e w1 ⟨rfl, rfl⟩; rw [show (decide (0 ≤ (p : Int)) && decide ((p : Int) ≤ l.length)) = true from by simp; omega])
 go_loop [6, 29] (fun n i => ∃ (k : Nat) (X : Int), k ≤ v ∧ i = .int .i64 k ∧ n = .int .i64 X ∧ Hid (val8 ((l.drop p).take k) < 9223372036854775808 → X = val8 ((l.drop p).take k)) ∧ Hid (9223372036854775808 ≤ val8 ((l.drop p).take k) → k = 8 ∧ X < 0)) (fun _ i => match i with | .int _ m => 9 - m.toNat | _ => 0)
 case atStart => exact ⟨0, 0, by omega, rfl, rfl, (fun _ => rfl), fun h => absurd h (by simp [val8])⟩
 case round =>
  obtain ⟨k, X, hk, rfl, rfl, hd1, hd2⟩ := hrel
  go_wp2
  ·rename_i hkv _
   have hdl : k < (l.drop p).length := by rw [qat]; omega
   have hge : (l.drop p)[k]'hdl = l[p + k] := qbX ..
   rw [yd2]
   have hb := u8_lt l[p + k]
   have hwb : wrap64 ((l[p + k]).toNat : Int) = ((l[p + k]).toNat : Int) := by unfold wrap64; omega
   rw [hwb]
   have hvl := val8_lt ((l.drop p).take k)
   rw [qao, qbi (by omega)] at hvl
   have hX : X = val8 ((l.drop p).take k) := by
    rcases qbz (val8 ((l.drop p).take k)) 9223372036854775808 with h | h
    ·exact hd1.out h
    ·have := (hd2.out h).1; omega
   rw [hX]
   obtain ⟨o1, o2⟩ := or_byte _ (l[p + k]).toNat k hvl (by omega) hb
   refine ⟨⟨k + 1, _, by omega, iv (by omega), rfl, ?_, ?_⟩, ?_⟩
   ·intro h
    rw [val8_take _ k hdl, hge] at h ⊢
    exact o1 h
   ·intro h
    rw [val8_take _ k hdl, hge] at h
    obtain ⟨h7, hneg⟩ := o2 h
    exact ⟨by omega, hneg⟩
   ·show 9 - Int.toNat _ < 9 - Int.toNat _
    omega
  all_goals
   obtain rfl : k = v := by omega
   go_ret3
   refine ⟨?_, rfl⟩
   rcases qbz (val8 ((l.drop p).take k)) 9223372036854775808 with hlt | hge
   ·have hX := hd1.out hlt
    first
    | (exfalso; omega)
    | (refine tv _ _ _ _ _ _ ?_; rw [hX])
   ·have hX := (hd2.out hge).2
    first
    | (exfalso; omega)
    | rfl
theorem unfix_any (l : List UInt8) (p v : Int) (w : World) (hl : l.length ≤ 4611686018427387904) :
  Calls prog 191 #[.string ⟨l.toArray⟩, .int .i64 p, .int .i64 v] w fun e w' => e = .returned (trip (yau l p v)) ∧ w = w' := by
 by_cases hv : 1 ≤ v
 ·by_cases hv8 : v ≤ 8
  ·by_cases hp : 0 ≤ p ∧ p ≤ l.length
   ·by_cases hs : l.length < p + v
    ·have fin : yau l p v = (0, 0, 4) := by unfold yau; rw [qah ⟨hv, hv8, hp.1, hp.2⟩, qah hs]
     rw [fin]
     clear fin
     go_enter func191, ntmps191
     go_wp2_with (refine (ycg l p w).mono ?_; rintro e w1 ⟨rfl, rfl⟩; rw [show (decide (0 ≤ p) && decide (p ≤ l.length)) = true from by simp; omega])
     go_ret3
     exact ⟨rfl, rfl⟩
    ·obtain ⟨q, rfl⟩ := qaQ hp.1
     obtain ⟨u, rfl⟩ := qaQ (by omega : 0 ≤ v)
     exact unfix_in l q u w (by omega) (by omega) (by omega) hl
   ·have fin : yau l p v = (0, 0, 2) := by unfold yau; rw [qag (by omega)]
    rw [fin]
    clear fin
    go_enter func191, ntmps191
    go_wp2_with (refine (ycg l p w).mono ?_; rintro e w1 ⟨rfl, rfl⟩; rw [show (decide (0 ≤ p) && decide (p ≤ l.length)) = false from by simp; omega])
    go_ret3
    exact ⟨rfl, rfl⟩
  ·have fin : yau l p v = (0, 0, 2) := by unfold yau; rw [qag (by omega)]
   rw [fin]
   clear fin
   go_enter func191, ntmps191
   go_wp2
   go_ret3
   exact ⟨rfl, rfl⟩
 ·have fin : yau l p v = (0, 0, 2) := by unfold yau; rw [qag (by omega)]
  rw [fin]
  clear fin
  go_enter func191, ntmps191
  go_wp2
  go_ret3
  exact ⟨rfl, rfl⟩
theorem size_any (n : Int) (w : World) (h : n < 9223372036854775808) : Calls prog 59 #[.int .i64 n] w fun e w' => e = .returned (.int .i64 (sizeF n)) ∧ w = w' := by
 by_cases h0 : n < 0
 ·have fin : sizeF n = 0 := by simp [sizeF, putB, h0]
  rw [fin]
  clear fin
  go_enter func59, ntmps59
  go_wp2
  go_ret
  exact ⟨rfl, rfl⟩
 ·obtain ⟨m, rfl⟩ := qaQ (by omega : 0 ≤ n)
  have hm : m < 128 ^ (8 + 1) := by rw [pow9]; omega
  have fin : sizeF (m : Int) = ((dg 9 m).length : Int) := by unfold sizeF; rw [ycW (by omega), qav]
  rw [fin]
  clear fin
  have st : Hid (m < 128 ^ (8 + 1) ∧ 1 + (dg (8 + 1) m).length = (dg 9 m).length + 1) := qaa ⟨hm, qc9 _ _⟩
  clear hm
  generalize hL : (dg 9 m).length = L at st ⊢
  have hL' := qaa hL
  clear hL
  go_enter func59, ntmps59
  go_wp2
  go_loop [0, 3] (fun n s => ∃ (f k c : Nat), n = .int .i64 (k : Int) ∧ s = .int .i64 (c : Int) ∧ c + f ≤ 9 ∧ (k : Int) < 9223372036854775808 ∧ Hid (k < 128 ^ (f + 1) ∧ c + (dg (f + 1) k).length = L + 1)) (fun n _ => match n with | .int _ m => m.toNat | _ => 0)
  case atStart => exact ⟨8, m, 1, rfl, rfl, by omega, by omega, ⟨st.1, by rw [← hL'.out]; exact qc9 _ _⟩⟩
  case round =>
   obtain ⟨f, k, c, rfl, rfl, hc, hk, hd⟩ := hrel
   clear st hL' h h0
   by_cases h128 : 128 ≤ (k : Int)
   ·go_wp2
    obtain ⟨hd1, hd2⟩ := hd.out
    cases f with
    | zero => exfalso; simp at hd1; omega
    | succ f =>
     have hdiv : k / 128 < 128 ^ (f + 1) := by rw [qbB (by omega)]; rw [qaW] at hd1; exact hd1
     have e : dg (f + 1 + 1) k = UInt8.ofNat (128 + k % 128) :: dg (f + 1) (k / 128) := by rw [dg, qag (by omega)]
     rw [e, qau] at hd2
     refine ⟨⟨f, k / 128, c + 1, iv (by omega), iv (by omega), by omega, by omega, hdiv, by omega⟩, ?_⟩
     show Int.toNat _ < Int.toNat _
     omega
   ·go_wp2
    obtain ⟨hd1, hd2⟩ := hd.out
    have e : dg (f + 1) k = [UInt8.ofNat k] := by rw [dg, qah (by omega)]
    rw [e] at hd2
    go_ret
    exact ⟨qbD Ending.returned (iv (by simp at hd2; omega)), rfl⟩
def hd : Nat → Nat → List UInt8
 | 0, _ => []
 | f + 1, n => UInt8.ofNat (128 + n % 128) :: hd f (n / 128)
theorem yeb : ∀ f n, (hd f n).length = f
 | 0, _ => rfl
 | f + 1, n => by simp [hd, yeb f]
theorem hd_snoc : ∀ f n, hd (f + 1) n = hd f n ++ [UInt8.ofNat (128 + n / 128 ^ f % 128)]
 | 0, n => by simp [hd]
 | f + 1, n => by
  have := hd_snoc f (n / 128)
  rw [hd, this, hd, qce, qaW, qbO 128]
  rfl
theorem dg_hd : ∀ f n, n < 128 ^ (f + 1) → ∃ j, j ≤ f ∧ dg (f + 1) n = hd j n ++ [UInt8.ofNat (n / 128 ^ j)] ∧ n / 128 ^ j < 128
 | f, n, h => by
  by_cases h1 : n < 128
  ·exact ⟨0, by omega, by simp [dg, h1, hd], by simpa using h1⟩
  ·cases f with
   | zero => simp at h; omega
   | succ f =>
    have hdiv : n / 128 < 128 ^ (f + 1) := by rw [qbB (by omega)]; rw [qaW] at h; exact h
    obtain ⟨j, hj, e, hq⟩ := dg_hd f (n / 128) hdiv
    have e2 : n / 128 / 128 ^ j = n / 128 ^ (j + 1) := by rw [qce, qaW, qbO 128]
    rw [e2] at e hq
    refine ⟨j + 1, by omega, ?_, hq⟩
    rw [dg, qag h1, e]
    rfl
theorem ycV : (prog.info? 5).map (fun i => (i.zero, i.size, i.bytes)) = some (some (.int .u8 0), 1, 1) := by kernel_rfl
theorem lay_any (n N : Nat) (pre mid post : List UInt8) (g : Nat) (w : World) (hn : n < 9223372036854775808) (hm : mid.length = (dg 9 n).length) (hN : pre.length + mid.length + post.length = N) (hB : Blk w g 5 (bc (pre ++ (mid ++ post)))) (hmax : N ≤ 4611686018427387904) :
  Calls prog 138 #[.slice (some ⟨g, 0, none⟩) N N, .int .i64 pre.length, .int .i64 n] w fun e w' => e = .returned (.int .i64 ((pre.length + (dg 9 n).length : Nat) : Int)) ∧ Blk w' g 5 (bc (pre ++ (dg 9 n ++ post))) ∧ Below g w w' := by
 obtain ⟨i0, hi, hz0, hz1, hz2⟩ := qb4 ycV
 obtain ⟨j, hj, hdg, hq⟩ := dg_hd 8 n (by rw [← pow9] at hn; exact hn)
 have hL : (dg 9 n).length = j + 1 := by rw [hdg]; simp [yeb]
 have hsz : sizeF (n : Int) = (j : Int) + 1 := by unfold sizeF; rw [ycW (by omega), qav, hL]; rfl
 have hsl : ∀ W : World, (Instr.slice 36 (.slice (some ⟨g, 0, none⟩) N N) (some (.int .i64 (pre.length : Int))) (some (.int .i64 ((pre.length : Int) + ((j : Int) + 1)))) (some (.int .i64 ((pre.length : Int) + ((j : Int) + 1))))).run prog W = .ok (.slice (some ⟨g, pre.length, none⟩) (j + 1) (j + 1)) W := fun W => by
  have := ygL (P := prog) underlying36 hi hz1 g 0 N N pre.length (pre.length + (j + 1)) (by omega) (by omega) W
  rw [qb7, qb7, show pre.length + (j + 1) - pre.length = j + 1 from by omega, qaL] at this
  exact this
 have e9 : (dg 9 n) = hd j n ++ [UInt8.ofNat (n / 128 ^ j)] := hdg
 rw [hL] at hm ⊢
 rw [e9]
 have hn' : (n : Int) < 9223372036854775808 := by omega
 have hmaxp : pre.length + (j + 1) ≤ 4611686018427387904 := by omega
 have Hq := qaa hq
 have Hm := qaa hm
 have HB := qaa hB
 clear hdg hq hL e9 hn hm hB hz0 hz1 hz2 hi
 generalize hP : pre.length = P0 at *
 have HP := qaa hP
 clear hP
 go_enter func138, ntmps138
 go_wp2_with (refine (size_any (n : Int) _ hn').mono ?_; rintro e w1 ⟨rfl, rfl⟩; rw [hsz])
 go_loopw [2, 21] (fun s i wr => ∃ k x : Nat, k ≤ j + 1 ∧ i = .int .i64 k ∧ s = .int .i64 x ∧ (x : Int) < 9223372036854775808 ∧ Hid (x = n / 128 ^ k) ∧ Hid (Blk wr g 5 (bc (pre ++ (hd k n ++ (mid.drop k ++ post))))) ∧ Hid (Below g w wr)) (fun _ i _ => 20 - (intOf i).toNat)
 case atStart => exact ⟨0, n, by omega, rfl, rfl, hn', by show n = n / 1; omega, HB.out, qam _ _⟩
 case round =>
  obtain ⟨k, x, hk, rfl, rfl, hx, Hx, HBk, Hb⟩ := hrel
  by_cases hlt : k < j + 1
  ·obtain ⟨b, hb⟩ : ∃ b, mid.drop k = b :: mid.drop (k + 1) := ⟨mid[k]'(by have := Hm.out; omega), qa6 (by have := Hm.out; omega)⟩
   have hlen : (pre ++ hd k n).length = P0 + k := by rw [qae, HP.out, yeb]
   have hg : wr.cell? ⟨g, P0 + k, none⟩ = some (.int .u8 (b.toNat : Int)) := ycv HBk.out (by
    rw [← qak, qbs (by omega), hlen, hb]
    simp)
   have hf : wr.frozen? ⟨g, P0 + k, none⟩ = false := HBk.out.frozen _
   have hglt := HBk.out.lt
   have Hlen := qaa hlen
   have Hbb := qaa hb
   clear hlen hb hsl hsz
   generalize hbv : (b.toNat : Int) = bv at hg
   clear hbv
   have hx0 : (0 : Int) ≤ x := by omega
   have hkk : (k : Int) < (j : Int) + 1 := by omega
   go_wp2
   go_roundw
   case rel =>
    have hx' : x = n / 128 ^ k := Hx.out
    have hb := Hb.out
    have hval : ((UInt8.ofNat (128 + x % 128)).toNat : Int) = (x : Int) % 128 + 128 := by rw [yaE _ (by omega)]; omega
    have hnew := HBk.out.set_ (P0 + k) (.int .u8 ((UInt8.ofNat (128 + x % 128)).toNat : Int))
    rw [Hbb.out, ← qak, qbl, ← Hlen.out, bc_set, hval, Hlen.out] at hnew
    refine ⟨k + 1, x / 128, by omega, iv (by omega), iv (by omega), by omega, ?_, ?_, by show Below g w _; go_grown⟩
    ·show x / 128 = n / 128 ^ (k + 1)
     rw [hx', qce, qaW]
    ·show Blk _ g _ _
     rw [hd_snoc, ← hx']
     simpa using hnew
   case measure => simp [intOf]; omega
  ·obtain rfl : k = j + 1 := by omega
   have hdrop : mid.drop (j + 1) = [] := List.drop_eq_nil_of_le (by have := Hm.out; omega)
   have hblk : Blk wr g 5 (bc ((pre ++ hd j n) ++ UInt8.ofNat (128 + n / 128 ^ j % 128) :: post)) := by
    have := HBk.out
    rw [hdrop, hd_snoc] at this
    simpa using this
   have hlen : (pre ++ hd j n).length = P0 + j := by rw [qae, HP.out, yeb]
   have hq := Hq.out
   generalize hqq : n / 128 ^ j = q at *
   have hg : wr.cell? ⟨g, P0 + j, none⟩ = some (.int .u8 ((q : Int) + 128)) := by
    rw [ycv hblk (b := UInt8.ofNat (128 + q % 128)) (by rw [qbs (by omega), hlen]; simp), yaE _ (by omega)]
    congr 2
    omega
   have hf : wr.frozen? ⟨g, P0 + j, none⟩ = false := hblk.frozen _
   have hglt := hblk.lt
   have hnew := hblk.set_ (P0 + j) (.int .u8 ((UInt8.ofNat q).toNat : Int))
   rw [← hlen, bc_set, yaE _ (by omega), hlen] at hnew
   have Hnew := qaa hnew
   clear hnew hblk hdrop hlen hsl hsz Hx HBk HB
   have hj0 : (0 : Int) ≤ j := by omega
   have hq0 : (0 : Int) ≤ q := by omega
   have hq128 : (q : Int) < 128 := by omega
   have Hqq := qaa hqq
   have Hq2 := Hq.out
   clear hq hqq Hq2
   go_wp2
   go_ret
   have hb := Hb.out
   refine ⟨qbD Ending.returned (iv (by omega)), ?_, by go_grown⟩
   rw [Hqq.out]
   simpa using Hnew.out
theorem run_make_bytes (n : Nat) (h : n ≤ 281474976710656) (w : World) :
  (Instr.makeSlice 36 (.int .i64 (n : Int)) (.int .i64 (n : Int))).run prog w = .ok (.slice (some ⟨w.heap.size, 0, none⟩) n n) (w.alloc (.cells (bc (List.replicate n 0)) 5)) := by
 rw [← bc_zero]
 exact run_make_row' (P := prog) 36 5 (.int .u8 0) 1 underlying36 ycV rfl .i64 .i64 n (by omega) (by omega) w
theorem run_str (w : World) (g n c : Nat) (t : TypeId) (l : List UInt8) (hn : l.length = n) (h : Blk w g t (bc l)) :
  (convert 36 9 (.slice (some ⟨g, 0, none⟩) n c)).run prog w = .ok (.string ⟨l.toArray⟩) w :=
 ycF underlying36 underlying5 underlying9 w g 0 c l n hn fun j b hj => by rw [qaL]; exact ycv h hj
def strInt (l : List UInt8) (e : Int) : Value := .tuple #[.string ⟨l.toArray⟩, .int .i64 e]
theorem put_any (n : Int) (w : World) (h : n < 9223372036854775808) : Calls prog 94 #[.int .i64 n] w fun e w' => e = .returned (strInt (putB n) (putE n)) ∧ Below w.heap.size w w' := by
 by_cases h0 : n < 0
 ·have e1 : putB n = [] := by simp [putB, h0]
  have e2 : putE n = 2 := by simp [putE, h0]
  rw [e1, e2]
  clear e1 e2
  go_enter func94, ntmps94
  go_wp2
  go_ret2
  exact ⟨rfl, by go_grown⟩
 ·obtain ⟨m, rfl⟩ := qaQ (by omega : 0 ≤ n)
  have e1 : putB (m : Int) = dg 9 m := by rw [ycW (by omega), qav]
  have e2 : putE (m : Int) = 0 := by unfold putE; rw [qag h0]
  have hsz : sizeF (m : Int) = ((dg 9 m).length : Int) := by unfold sizeF; rw [e1]
  have hle := dg_le 9 m
  rw [e1, e2]
  clear e1 e2
  have hmk := fun W : World => run_make_bytes (dg 9 m).length (by omega) W
  have hlay := fun W : World => fun hB => lay_any m (dg 9 m).length [] (List.replicate (dg 9 m).length 0) [] w.heap.size W (by omega) (by simp) (by simp) hB (by omega)
  have hstr := fun (W : World) => run_str W w.heap.size (dg 9 m).length (dg 9 m).length 5 (dg 9 m) rfl
  simp only [qaS, qa8, List.length_nil, qaL] at hlay
  generalize dg 9 m = D at *
  generalize hDL : D.length = L at *
  have Hlay := qaa hlay
  have Hstr := qaa hstr
  clear hlay hstr
  go_enter func94, ntmps94
  go_wp2_with (first
   | (go_at_call 59; refine (size_any (m : Int) _ h).mono ?_; rintro e w1 ⟨rfl, rfl⟩; rw [hsz])
   | (go_at_call 138; refine (Hlay.out _ (Blk.new _ _ _)).mono ?_; rintro e w2 ⟨rfl, hB2, hb2⟩; have hcv := Hstr.out w2 hB2))
  go_ret2
  exact ⟨rfl, Below.trans (by go_grown) hb2⟩
theorem tmask (d : Nat) (h : d < 4294967296) : bits .and .u64 (d : Int) 4294967295 = (d : Int) := by
 have h1 := bits_and_u64_nat d 4294967295 (by omega) (by omega)
 have e : d &&& 4294967295 = d % 4294967296 := Nat.and_two_pow_sub_one_eq_mod d 32
 rw [e, qc8 h] at h1
 exact h1
theorem tmul64_one (z : Int) (h0 : 0 ≤ z) (h1 : z ≤ 1000000) (w : World) :
  Calls prog 204 #[.int .u64 1, .int .u64 z] w fun e w' => e = .returned (.tuple #[.int .u64 0, .int .u64 z]) ∧ w = w' := by
 have m1 : bits .and .u64 1 4294967295 = 1 := tmask 1 (by decide)
 have m0 : bits .and .u64 0 4294967295 = 0 := tmask 0 (by decide)
 have m2 : bits .and .u64 z 4294967295 = z := by
  obtain ⟨d, rfl⟩ := qaQ h0
  exact tmask d (by omega)
 have m3 : z / 4294967296 = 0 := by omega
 go_enter func204, ntmps204
 go_wp2
 go_ret2
 exact ⟨rfl, rfl⟩
theorem tmul_one (z : Int) (h0 : 0 ≤ z) (h1 : z ≤ 1000000) (w : World) :
  Calls prog 194 #[.int .u64 1, .int .u64 z] w fun e w' => e = .returned (.tuple #[.int .u64 0, .int .u64 z]) ∧ w = w' := by
 go_enter func194, ntmps194
 go_wp2_with (go_at_call 204; refine (tmul64_one z h0 h1 _).mono ?_; rintro e w1 ⟨rfl, rfl⟩)
 go_ret2
 exact ⟨rfl, rfl⟩
theorem yfV : (prog.info? 3).map (fun i => (i.zero, i.size, i.bytes)) = some (some (.int .i64 0), 1, 8) := by kernel_rfl
theorem tints_zero (n : Nat) : madeCells #[.int .i64 0] n = (ints (List.replicate n 0)).toArray := by
 unfold ints
 apply Array.ext'
 simp [madeCells, Nat.mod_one]
 rw [qc0, qaC]
theorem tmk_ints (n : Int) (N : Nat) (hN : (N : Int) = n) (h : N ≤ 17592186044416) (w : World) :
  (Instr.makeSlice 28 (.int .i64 n) (.int .i64 n)).run prog w = .ok (.slice (some ⟨w.heap.size, 0, none⟩) N N) (w.alloc (.cells (ints (List.replicate N 0)).toArray 3)) := by
 subst hN
 rw [← tints_zero]
 exact run_make_row' (P := prog) 28 3 (.int .i64 0) 8 underlying28 yfV rfl .i64 .i64 N (by omega) (by omega) w
def trow (x : Int) (d k : Nat) : List Int := List.replicate k x ++ List.replicate (d - k) 0
theorem trow_len (x : Int) (d k : Nat) (h : k ≤ d) : (ints (trow x d k)).length = d := by rw [yac]; simp [trow]; omega
theorem trow_zero (x : Int) (d : Nat) : trow x d 0 = List.replicate d 0 := by simp [trow]
theorem trow_all (x : Int) (d : Nat) : trow x d d = List.replicate d x := by simp [trow]
theorem ygU (x : Int) (d k m : Nat) (h : k + m ≤ d) : splice (ints (trow x d k)) k (ints (List.replicate m x)) = ints (trow x d (k + m)) := by
 unfold splice trow ints
 rw [qaM, qaE, ← List.map_take, ← List.map_drop, ← qc3, ← qc3]
 congr 1
 rw [qbT (by simp), ← qbh, qbF (by simp), List.drop_replicate, ← qak, qci, show d - k - m = d - (k + m) from by omega]
theorem trow_get (x : Int) (d k j : Nat) (h : j < k) : (ints (trow x d k)).toArray[j]? = some (.int .i64 x) := by
 unfold ints trow
 simp [List.getElem?_append, h]
theorem ygV (l : List Int) : ∀ u ∈ ints l, u.oneCell' = true := by
 intro u hu
 obtain ⟨b, _, rfl⟩ := qbI.1 hu
 rfl
theorem trep_src {w : World} {g d k m : Nat} {x : Int} {t : TypeId} (h : Blk w g t (ints (trow x d k)).toArray) (hm : m ≤ k) : ∀ j v, (ints (List.replicate m x))[j]? = some v → w.cell? ((⟨g, 0, none⟩ : Addr).add j) = some v := by
 intro j v hj
 have hlt : j < m := by
  have := (qcj.1 hj).1
  rw [yac, qaE] at this
  exact this
 rw [yco, qaL, h.cell, trow_get x d k j (by omega), ← hj]
 simp [ints, hlt]
theorem trepeat_any (x : Int) (A : Option Addr) (c d : Nat) (w : World) (h0 : 0 < d) (hd : d ≤ 1000000) (hr : Reads w w.heap.size 1 A 1 (ints [x])) :
  Calls prog 169 #[.slice A 1 c, .int .i64 (d : Int)] w fun e w' => ∃ g, e = .returned (.slice (some ⟨g, 0, none⟩) d d) ∧ w.heap.size ≤ g ∧ Blk w' g 3 (ints (List.replicate d x)).toArray ∧ Below w.heap.size w w' := by
 obtain ⟨b, off, rfl, hb, hc⟩ := hr.2 (by omega)
 have hmk := fun w => tmk_ints (d : Int) d rfl (by omega) w
 have hi0 : (0 : Int) < (d : Int) ∧ (d : Int) ≤ 1000000 := by omega
 have hsrc : ∀ j v, (ints (List.replicate 1 x))[j]? = some v → (w.alloc (.cells (ints (trow x d 0)).toArray 3)).cell? ((⟨b, off, none⟩ : Addr).add j) = some v := by
  intro j v hj
  rw [yco, World.cell?_alloc_lt w _ _ hb]
  exact hc j v hj
 have Hsrc := qaa hsrc
 rw [← trow_zero x d] at hmk
 clear hc hr hsrc
 go_enter func169, ntmps169
 go_wp2_with (first
  | (go_at_call 194; refine (tmul_one (d : Int) (by omega) (by omega) _).mono ?_; rintro e w1 ⟨rfl, rfl⟩)
  | (refine wpList_copy_splice rfl _ _ _ _ rfl 3 underlying28 (by kernel_rfl) _ _ d d 1 c rfl rfl w.heap.size 0 (ints (trow x d 0)) 3 (Blk.new w _ _) (ints (List.replicate 1 x)) ?c1 (fun _ => ⟨rfl, _, rfl, Hsrc.out⟩) ?c2 (ygV _) w.heap.size w ((qam _ _).alloc (qaf _) _) (qaf _) ?_))

 case c1 =>
  rw [yac, qaE]
  exact (qbi h0).symm
 case c2 => rw [trow_len _ _ _ (by omega), yac, qaE]; omega
 intro w1 hb1 hB1
 have Hb1 : Hid (Blk w1 w.heap.size 3 (ints (trow x d 1)).toArray) := qaa (by
  have e : splice (ints (trow x d 0)) 0 (ints [x]) = ints (trow x d 1) := by
   have := ygU x d 0 1 (by omega)
   rwa [qaL] at this
  have := hb1.out
  rw [e] at this
  exact this)
 have HB1 := qaa hB1
 clear hb1 hB1 Hsrc hmk
 rw [yac]
 generalize hg : w.heap.size = g at *
 have Hg := qaa hg
 clear hg
 go_wp2
 go_loopw [8] (fun i wr => ∃ k : Nat, 1 ≤ k ∧ k ≤ d ∧ i = .int .i64 k ∧ Hid (Blk wr g 3 (ints (trow x d k)).toArray) ∧ Hid (Below g w wr)) (fun i _ => d - (intOf i).toNat)
 case atStart => exact ⟨1, by omega, by omega, rfl, Hb1, HB1⟩
 case round =>
  obtain ⟨k, hk1, hk2, rfl, HB, HO⟩ := hrel
  by_cases hlt : k < d
  ·have hki : (0 : Int) < (k : Int) ∧ (k : Int) < (d : Int) := by omega
   obtain ⟨m, hm⟩ : ∃ m, Nat.min k (d - k) = m := ⟨_, rfl⟩
   have hmk : 1 ≤ m ∧ m ≤ k ∧ k + m ≤ d := by
    have h1 : min k (d - k) = m := hm
    omega
   have hlen : (ints (List.replicate m x)).length = m := by rw [yac, qaE]
   have Hs := qaa (ygU x d k m hmk.2.2)
   have Hsrc := qaa (trep_src HB.out hmk.2.1)
   have hkl : ((d - k : Nat) : Int) = (d : Int) - (k : Int) := by omega
   have hkm : (k : Int) + (m : Int) ≤ 1000000 ∧ (1 : Int) ≤ (m : Int) := by omega
   have Hlen := qaa hlen
   have Hc3 : Hid ((ints (List.replicate m x)).length = Nat.min k (d - k)) := qaa (by rw [hlen, hm])
   have Hc4 : Hid (k + (ints (List.replicate m x)).length ≤ (ints (trow x d k)).length) := qaa (by rw [trow_len _ _ _ (by omega), hlen]; omega)
   have hnk : ¬ d = k := by omega
   have hwr : IntKind.i64.wrap ((k : Int) + (m : Int)) = (k : Int) + (m : Int) := by rw [qai]; omega
   clear hlen hm
   go_wp2
   refine qbC (S := (fun _ => True)) (by kernel_rfl) (trivial) (fun hHeld => ?_)
   refine qal (i := 0) (oi := ⟨some 38, .move (.tmp 8), 3, _, #[], none⟩) (v := ?_) rfl (by kernel_rfl) (by kernel_rfl) (by kernel_rfl) (fun _ _ _ h => h) (qas ⟨by rfl, ?_⟩) hHeld ?_
   rotate_left
   ·(intro wz hSw; go_simp; try (with_reducible rfl))
   try simp only [Act.put, qab, qad, qac]
   refine qal (i := 1) (oi := ⟨some 39, .move (.tmp 7), 28, _, #[], none⟩) (v := ?_) rfl (by kernel_rfl) (by kernel_rfl) (by kernel_rfl) (fun _ _ _ h => h) (qas ⟨by rfl, ?_⟩) hHeld ?_
   rotate_left
   ·(intro wz hSw; go_simp; try (with_reducible rfl))
   try simp only [Act.put, qab, qad, qac]
   refine qal (i := 2) (oi := ⟨some 40, .move (.tmp 8), 3, _, #[], none⟩) (v := ?_) rfl (by kernel_rfl) (by kernel_rfl) (by kernel_rfl) (fun _ _ _ h => h) (qas ⟨by rfl, ?_⟩) hHeld ?_
   rotate_left
   ·(intro wz hSw; go_simp; try (with_reducible rfl))
   try simp only [Act.put, qab, qad, qac]
   refine qal (i := 3) (oi := ⟨some 41, .slice 28 (.tmp 39) (some (.tmp 40)) none none, 28, _, #[⟨1, .data⟩, ⟨2, .data⟩], none⟩) (v := ?_) rfl (by kernel_rfl) (by kernel_rfl) (by kernel_rfl) (fun _ _ _ h => h) (qas ⟨by rfl, ?_⟩) hHeld ?_
   rotate_left
   ·(intro wz hSw; go_simp; try (with_reducible rfl))
   try simp only [Act.put, qab, qad, qac]
   refine qal (i := 4) (oi := ⟨some 42, .move (.tmp 7), 28, _, #[], none⟩) (v := ?_) rfl (by kernel_rfl) (by kernel_rfl) (by kernel_rfl) (fun _ _ _ h => h) (qas ⟨by rfl, ?_⟩) hHeld ?_
   rotate_left
   ·(intro wz hSw; go_simp; try (with_reducible rfl))
   try simp only [Act.put, qab, qad, qac]
   refine qal (i := 5) (oi := ⟨some 43, .move (.tmp 8), 3, _, #[], none⟩) (v := ?_) rfl (by kernel_rfl) (by kernel_rfl) (by kernel_rfl) (fun _ _ _ h => h) (qas ⟨by rfl, ?_⟩) hHeld ?_
   rotate_left
   ·(intro wz hSw; go_simp; try (with_reducible rfl))
   try simp only [Act.put, qab, qad, qac]
   refine qal (i := 6) (oi := ⟨some 44, .slice 28 (.tmp 42) none (some (.tmp 43)) none, 28, _, #[⟨4, .data⟩, ⟨5, .data⟩], none⟩) (v := ?_) rfl (by kernel_rfl) (by kernel_rfl) (by kernel_rfl) (fun _ _ _ h => h) (qas ⟨by rfl, ?_⟩) hHeld ?_
   rotate_left
   ·(intro wz hSw; go_simp; try (with_reducible rfl))
   try simp only [Act.put, qab, qad, qac]
   refine qaF (rs := [7]) (by kernel_rfl) (by simp) ?_
   refine qa1 (o := ⟨some 45, .call { callee := .builtin .copy, args := #[.tmp 41, .tmp 44], argTypes := #[28, 28] }, 3, _, #[⟨3, .data⟩, ⟨6, .data⟩], none⟩) rfl (fun K hK => ?_) qa9
   refine step_copy_splice (by rfl) (.tmp 41) (.tmp 44) 28 28 (by rfl) 3 underlying28 (by kernel_rfl) _ _ (d - k) (d - k) k d (by rfl) (by rfl) g k (ints (trow x d k)) 3 HB.out.drew (ints (List.replicate m x)) Hc3.out (fun _ => ⟨rfl, _, rfl, Hsrc.out⟩) Hc4.out (ygV _) g w HO.out.drew (qaf _) ?_
   intro w2 hb2 hB2
   rw [Hlen.out]
   refine hK.out _ _ (trivial) (fun hH => ?_)
   clear hK K hHeld
   have hHeld : True := trivial
   try simp only [Act.put, qab, qad, qac]
   refine qal (i := 8) (oi := ⟨some 46, .binOp BinOp.add 3 (.tmp 38) (.tmp 45) 3, 3, _, #[⟨0, .data⟩, ⟨7, .data⟩], none⟩) (v := ?_) rfl (by kernel_rfl) (by kernel_rfl) (by kernel_rfl) (fun _ _ _ h => h) (qas ⟨by rfl, ?_⟩) hHeld ?_
   rotate_left
   ·(intro wz hSw; go_simp; try (with_reducible rfl))
   try simp only [Act.put, qab, qad, qac]
   refine qal (i := 9) (oi := ⟨some 8, .assign (.tmp 46), 3, _, #[⟨8, .data⟩, ⟨7, .chain⟩, ⟨0, .phase⟩, ⟨1, .phase⟩, ⟨2, .phase⟩, ⟨3, .phase⟩, ⟨4, .phase⟩, ⟨5, .phase⟩, ⟨6, .phase⟩, ⟨7, .phase⟩, ⟨8, .phase⟩], none⟩) (v := ?_) rfl (by kernel_rfl) (by kernel_rfl) (by kernel_rfl) (fun _ _ _ h => h) (qas ⟨by rfl, ?_⟩) hHeld ?_
   rotate_left
   ·(intro wz hSw; go_simp; try (with_reducible rfl))
   try simp only [Act.put, qab, qad, qac]
   refine qbP (by kernel_rfl) ?_ _
   have Hb2 := qaa (show Blk w2 g 3 (ints (trow x d (k + m))).toArray by have := hb2.out; rw [Hs.out] at this; exact this)
   have HB2 := qaa hB2
   clear hb2 hB2
   go_wp2
   go_roundw
   case rel => exact ⟨k + m, by omega, by omega, iv (by omega), Hb2, HB2⟩
   case measure => simp only [intOf]; omega
  ·obtain rfl : k = d := by omega
   have HB' : Hid (Blk wr g 3 (ints (List.replicate k x)).toArray) := qaa (by rw [← trow_all x k]; exact HB.out)
   clear HB HB1 Hb1
   go_wp2
   go_ret
   exact ⟨g, rfl, Nat.le_of_eq Hg.out, HB'.out, by rw [Hg.out]; exact HO.out⟩
theorem len64_any (x : Int) (w : World) (h0 : 0 ≤ x) (h1 : x ≤ 4294967295) : Calls prog 187 #[.int .u64 x] w fun e w' => e = .returned (.int .i64 (Lib.bitLen x.toNat)) ∧ w = w' := by
 by_cases a1 : x ≤ 255
 ·have a2 : x < 256 := by omega
  have a3 : x < 65536 := by omega
  have a4 : x < 4294967296 := by omega
  go_enter func187, ntmps187
  go_wp2
  go_ret
  refine ⟨qbD Ending.returned (iv ?_), rfl⟩
  have l := Lib.bitLen_le8' x h0 a1
  rw [Lib.len8_of x h0 a1]
  unfold wrap64
  omega
 ·by_cases b1 : x ≤ 65535
  ·have a2 : ¬ x < 256 := by omega
   have a3 : x < 65536 := by omega
   have a4 : x < 4294967296 := by omega
   have a5 : 0 ≤ x / 256 := by omega
   have a6 : x / 256 ≤ 255 := by omega
   clear a1
   go_enter func187, ntmps187
   go_wp2
   go_ret
   refine ⟨qbD Ending.returned (iv ?_), rfl⟩
   have l := Lib.bitLen_le8' (x / 256) a5 a6
   have s := Lib.bitLen_shift8 x.toNat (by omega) (by omega)
   rw [Lib.len8_of (x / 256) a5 a6, s]
   rw [show (x / 256).toNat = x.toNat / 256 from by omega] at l ⊢
   unfold wrap64
   omega
  ·by_cases c1 : x ≤ 16777215
   ·have a2 : ¬ x < 65536 := by omega
    have a4 : x < 4294967296 := by omega
    have a5 : 0 ≤ x / 65536 := by omega
    have a6 : x / 65536 ≤ 255 := by omega
    have a7 : x / 65536 < 256 := by omega
    clear a1 b1
    go_enter func187, ntmps187
    go_wp2
    go_ret
    refine ⟨qbD Ending.returned (iv ?_), rfl⟩
    have l := Lib.bitLen_le8' (x / 65536) a5 a6
    have s := Lib.bitLen_shift16 x.toNat (by omega) (by omega)
    rw [Lib.len8_of (x / 65536) a5 a6, s]
    rw [show (x / 65536).toNat = x.toNat / 65536 from by omega] at l ⊢
    unfold wrap64
    omega
   ·have a2 : ¬ x < 65536 := by omega
    have a4 : x < 4294967296 := by omega
    have a5 : 0 ≤ x / 65536 / 256 := by omega
    have a6 : x / 65536 / 256 ≤ 255 := by omega
    have a7 : ¬ x / 65536 < 256 := by omega
    clear a1 b1 c1
    go_enter func187, ntmps187
    go_wp2
    go_ret
    refine ⟨qbD Ending.returned (iv ?_), rfl⟩
    have l := Lib.bitLen_le8' (x / 65536 / 256) a5 a6
    have s := Lib.bitLen_shift24 x.toNat (by omega) (by omega)
    rw [Lib.len8_of (x / 65536 / 256) a5 a6, s]
    rw [show (x / 65536 / 256).toNat = x.toNat / 16777216 from by omega] at l ⊢
    unfold wrap64
    omega
theorem lz8_any (x : Int) (w : World) (h0 : 0 ≤ x) (h1 : x ≤ 255) : Calls prog 171 #[.int .u8 x] w fun e w' => e = .returned (.int .i64 (8 - Lib.bitLen x.toNat)) ∧ w = w' := by
 have hl := Lib.bitLen_le8' x h0 h1
 have he := Lib.len8_of x h0 h1
 have HH : Hid (wrap64 (8 - wrap64 (Lib.len8 x)) = 8 - Lib.bitLen x.toNat) := qaa (by rw [he]; unfold wrap64; omega)
 clear hl he
 go_enter func171, ntmps171
 go_wp2
 go_ret
 exact ⟨qbD Ending.returned (iv HH.out), rfl⟩
theorem len_any (x : Int) (w : World) (h0 : 0 ≤ x) (h1 : x ≤ 4294967295) : Calls prog 150 #[.int .u64 x] w fun e w' => e = .returned (.int .i64 (Lib.bitLen x.toNat)) ∧ w = w' := by
 go_enter func150, ntmps150
 go_wp2_with (go_at_call 187; refine (len64_any x _ h0 h1).mono ?_; rintro e w1 ⟨rfl, rfl⟩)
 go_ret
 exact ⟨rfl, rfl⟩
theorem wgamma_yes (B g : Nat) (n : Int) (v : Value) (R : List Nat) (w : World) (h : hasG n) (hH : WHold w B g v R) (hB : B ≤ w.heap.size) (hR : R.length ≤ 1099511627700) :
  Calls prog 108 #[.pointer (some ⟨g, 0, none⟩), .int .i64 n] w fun e w' => e = .returned (.int .i64 0) ∧ ∃ v', WHold w' B g v' (R ++ gam n.toNat) ∧ Touch w w' (WS g v) ∧ Sep w v v' := by
 obtain ⟨h1, h2⟩ := h
 have e32 : (2 : Int) ^ (32 : Int).toNat = 4294967296 := by decide
 have hs := fun w => bfits_yes n 32 w ⟨by omega, by omega, by omega, by rw [e32]; omega⟩
 have hlen := fun w => len_any n w (by omega) (by omega)
 obtain ⟨b1, b2, b3⟩ := ydB 32 n.toNat (by omega) (by rw [show (2 : Nat) ^ 32 = 4294967296 from by decide]; omega) (by omega)
 have ble := bl_le (n := n.toNat) (by omega) (by omega)
 have hgam : gam n.toNat = List.replicate (bl n.toNat - 1) 0 ++ dig (bl n.toNat) n.toNat := rfl
 have hbl : Lib.bitLen n.toNat = bl n.toNat := rfl
 simp only [hbl] at hlen
 generalize bl n.toNat = k at *
 have f1 : fits 0 ((k : Int) - 1) := ⟨by omega, by omega, by omega, Int.pow_pos (by decide)⟩
 have f2 : fits n k := ⟨by omega, by omega, by omega, by have : (n.toNat : Int) < 2 ^ k := (by exact_mod_cast b3); simp only [qav]; omega⟩
 have d1 : digI 0 ((k : Int) - 1) = List.replicate (k - 1) 0 := by unfold digI; rw [show ((k : Int) - 1).toNat = k - 1 from by omega]; exact ye4 _
 have d2 : digI n k = dig k n.toNat := by unfold digI; rw [qav]
 have hput1 := fun w hH hB => bput_is B g 0 ((k : Int) - 1) v R w f1 hH hB (by omega)
 have hput2 := fun w v1 hH hB => bput_is B g n k v1 (R ++ List.replicate (k - 1) 0) w f2 hH hB (by simp; omega)
 rw [d1] at hput1
 rw [d2] at hput2
 have hk1 : (1 : Int) ≤ k := by omega
 have hk2 : (k : Int) ≤ 32 := by omega
 have Hgam := qaa hgam
 have HH := qaa hH
 have HB := qaa hB
 have h0 : 0 ≤ n := by omega
 have Hput1 := qaa hput1
 have Hput2 := qaa hput2
 clear hgam hH hB hput1 hput2 d1 d2 f1 f2 b1 b2 b3 ble hbl e32 hR
 go_enter func108, ntmps108
 go_wp2_with (first
  | (go_at_call 149; refine (hs _).mono ?_; rintro e w1 ⟨rfl, rfl⟩)
  | (go_at_call 150; refine (hlen _).mono ?_; rintro e w1 ⟨rfl, rfl⟩)
  | (go_at_call 107; (with_reducible refine (Hput1.out _ HH.out HB.out).mono ?_); rintro e w1 ⟨rfl, v1, hH1, ht1, hs1⟩; have HH1 := qaa hH1; have Ht1 := qaa ht1; have Hs1 := qaa hs1; clear hH1 ht1 hs1)
  | (go_at_call 107; (with_reducible refine (Hput2.out _ _ HH1.out (qaG HB.out Ht1.out.size)).mono ?_); rintro e w2 ⟨rfl, v2, hH2, ht2, hs2⟩; have HH2 := qaa hH2; have Ht2 := qaa ht2; have Hs2 := qaa hs2; clear hH2 ht2 hs2))
 go_ret
 refine ⟨rfl, v2, ?_, touch_ws Ht1.out Ht2.out Hs1.out, Hs1.out.trans Hs2.out Ht1.out.size⟩
 have := HH2.out
 rw [Hgam.out, ← qak]
 exact this
theorem tfits4 {x : Int} (hx : 0 ≤ x ∧ x ≤ 15) : fits x 4 := ⟨by omega, by omega, hx.1, by show x < 16; omega⟩
theorem tbox_apart {w : World} {B g pb : Nat} {v : Value} {R : List Nat} (hP : Blk w pb 104 #[.pointer (some ⟨g, 0, none⟩)]) (hH : WHold w B g v R) : ¬ WS g v pb := by
 rintro (e | e)
 ·subst e
  have h1 := hH.1
  unfold Blk at h1 hP
  rw [hP] at h1
  injection h1 with h1
  injection h1 with _ h2
  cases h2
 ·exact ya4 hH.2.1 hP (by decide) e
theorem tput1_any (B g pb : Nat) (v : Value) (R : List Nat) (x : Int) (d : Nat) (w : World) (hx : 0 ≤ x ∧ x ≤ 15) (hd : 1 ≤ d ∧ d ≤ 257) (hP : Blk w pb 104 #[.pointer (some ⟨g, 0, none⟩)]) (hH : WHold w B g v R) (hB : B ≤ w.heap.size) (hR : R.length ≤ 1000100000) :
  Calls prog 106 #[.int .i64 x, .int .i64 (d : Int), .pointer (some ⟨pb, 0, none⟩)] w fun e w' => (∃ r, e = .returned r) ∧ ∃ v', WHold w' B g v' (R ++ trb x d) ∧ Touch w w' (WS g v) ∧ Sep w v v' := by
 have hap := tbox_apart hP hH
 have x1 : w.cell? ⟨pb, 0, none⟩ = some (.pointer (some ⟨g, 0, none⟩)) := hP.cell 0
 have hdl : (digI x 4).length = 4 := by unfold digI; rw [yab]; rfl
 have Hput := qaa (bput_is B g x 4 v R w (tfits4 hx) hH hB (by omega))
 have Hgam := qaa fun W v1 hH hB => wgamma_yes B g (d : Int) v1 (R ++ digI x 4) W ⟨by omega, by omega⟩ hH hB (by rw [qae, hdl]; omega)
 have Hnext := qaa fun (w1 : World) (h : Touch w w1 (WS g v)) => (hP.touch h hap).cell 0
 have HB := qaa hB
 have hass : R ++ trb x d = R ++ digI x 4 ++ gam d := by unfold trb; rw [qak]
 rw [qav] at Hgam
 rw [hass]
 clear hap hdl hass hP hH hB hR hx hd
 generalize R ++ digI x 4 = R1 at *
 generalize R1 ++ gam d = R2 at *
 go_enter func106, ntmps106
 go_wp2_with (first
  | (go_at_call 107; refine Hput.out.mono ?_; rintro e w1 ⟨rfl, v1, hH1, ht1, hs1⟩; have HH1 := qaa hH1; have Ht1 := qaa ht1; have Hs1 := qaa hs1; have x2 := Hnext.out _ ht1; clear hH1 ht1 hs1)
  | (go_at_call 108; refine (Hgam.out _ _ HH1.out (qaG HB.out Ht1.out.size)).mono ?_; rintro e w2 ⟨rfl, v2, hH2, ht2, hs2⟩; have HH2 := qaa hH2; have Ht2 := qaa ht2; have Hs2 := qaa hs2; clear hH2 ht2 hs2))
 go_end0
 exact ⟨⟨_, rfl⟩, v2, HH2.out, touch_ws Ht1.out Ht2.out Hs1.out, Hs1.out.trans Hs2.out Ht1.out.size⟩
theorem tint_info2 : (prog.info? 3).map (fun i => (i.zero, i.size, i.bytes)) = some (some (.int .i64 0), 1, 8) := by kernel_rfl
theorem tints_drop (l : List Int) (k : Nat) : (ints l).drop k = ints (l.drop k) := by simp [ints]
def TEach (w : World) (B g : Nat) (v : Value) (R : List Nat) (l : List Int) (i : Nat) (wr : World) : Prop :=
 ∃ R' v', WHold wr B g v' R' ∧ Touch w wr (WS g v) ∧ Sep w v v' ∧ R' ++ yaR (l.drop i) = R ++ yaR l ∧ R'.length ≤ R.length + 67 * i
section
variable {w wr : World} {B g pb N0 : Nat} {v : Value} {R : List Nat} {l : List Int}
theorem TEach.step (hr : R.length ≤ 1000000000) (hl : l.length ≤ 257) (h15 : ∀ i (h : i < l.length), 0 ≤ l[i] ∧ l[i] ≤ 15) (hB : B ≤ w.heap.size) (hP : Blk w pb 104 #[.pointer (some ⟨g, 0, none⟩)]) (hH : WHold w B g v R)
  (i k : Nat) (h : TEach w B g v R l i wr) (x : Int) (hik : i < k) (hk : k ≤ l.length) (hx : ∀ j (hj : j < l.length), i ≤ j → j < k → l[j] = x) (hs : ∀ hj : k < l.length, l[k] ≠ x) :
  Calls prog 106 #[.int .i64 x, .int .i64 ((k - i : Nat) : Int), .pointer (some ⟨pb, 0, none⟩)] wr fun e w' => (∃ r, e = .returned r) ∧ TEach w B g v R l k w' := by
 obtain ⟨R', v', h1, h2, h3, h4, h5⟩ := h
 have hil : i < l.length := by omega
 have hx15 : 0 ≤ x ∧ x ≤ 15 := by have := h15 i hil; rw [hx i hil (qaf _) hik] at this; exact this
 refine (tput1_any B g pb v' R' x (k - i) wr hx15 ⟨by omega, by omega⟩ (hP.touch h2 (tbox_apart hP hH)) h1 (qaG hB h2.size) (by omega)).mono ?_
 rintro e w' ⟨hr', v2, g1, g2, g3⟩
 refine ⟨hr', R' ++ trb x (k - i), v2, g1, touch_ws h2 g2 h3, h3.trans g3 h2.size, ?_, ?_⟩
 ·rw [← h4, tbits_at l x i k hik hk hx hs, qak]
 ·rw [qae]
  have := trb_len x (k - i) (by omega) (by omega)
  omega
end
theorem teach_any (B N0 g pb : Nat) (v : Value) (R : List Nat) (l : List Int) (A : Option Addr) (n c : Nat) (w : World) (hr : Reads w N0 1 A n (ints l)) (hg : N0 ≤ g ∧ N0 ≤ B) (hl : l.length ≤ 257) (h15 : ∀ i (h : i < l.length), 0 ≤ l[i] ∧ l[i] ≤ 15)
  (hP : Blk w pb 104 #[.pointer (some ⟨g, 0, none⟩)]) (hH : WHold w B g v R) (hB : B ≤ w.heap.size) (hR : R.length ≤ 1000000000) (hc : n ≤ c) :
  Calls prog 105 #[.slice A n c, .func (.func 106) #[] #[.pointer (some ⟨pb, 0, none⟩)]] w fun e w' => (∃ r, e = .returned r) ∧ ∃ v', WHold w' B g v' (R ++ yaR l) ∧ Touch w w' (WS g v) ∧ Sep w v v' := by
 obtain ⟨i0, hi, hz0, hz1, hz2⟩ := qb4 tint_info2
 have en : l.length = n := by have := hr.1; rw [yac] at this; omega
 have h0 : TEach w B g v R l 0 w := ⟨R, v, hH, Touch.refl _ _, fun k hk => qas hk, rfl, by omega⟩
 have hN0 : N0 ≤ w.heap.size := by have := hH.1.lt; omega
 have Hbelow : Hid (∀ i wr, TEach w B g v R l i wr → Below N0 w wr) := qaa fun i wr h => by
  obtain ⟨R', v', h1, h2, h3, h4, h5⟩ := h
  refine h2.below (fun k _ e => ?_) hN0
  rcases e with e | e
  ·omega
  ·exact qaG hg.2 (hH.2.1.lt k e).1
 have Hstep := qaa fun wr i k h x => TEach.step (wr := wr) hR hl h15 hB hP hH i k h x
 have Hend : Hid (∀ wr, TEach w B g v R l n wr → ∃ v', WHold wr B g v' (R ++ yaR l) ∧ Touch w wr (WS g v) ∧ Sep w v v') := qaa fun wr h => by
  obtain ⟨R', v', h1, h2, h3, h4, h5⟩ := h
  rw [qaO (by omega)] at h4
  have e : R' = R ++ yaR l := by rw [← h4]; simp [yaR]
  subst e
  exact ⟨v', h1, h2, h3⟩
 have En := qaa en
 have Hn : (n : Int) ≤ 257 := by omega
 have H0 := qaa h0
 have Hr0 := qaa hr
 have Hh15 := qaa h15
 clear hr hg hl h15 hP hH hB hR h0 hN0 en
 go_enter func105, ntmps105
 go_wp2
 go_step3
 go_wp2
 go_step3
 go_wp2
 go_loopw [0] (fun s wr => ∃ (i m ck : Nat) (Ak : Option Addr), i + m = n ∧ s = .slice Ak m ck ∧ m ≤ ck ∧ Hid (Reads w N0 1 Ak m (ints (l.drop i))) ∧ Hid (TEach w B g v R l i wr)) (fun s _ => match s with | .slice _ m _ => m | _ => 0)
 case atStart => exact ⟨0, n, c, A, by omega, rfl, hc, qaa Hr0.out, H0⟩
 case round =>
  obtain ⟨i, m, ck, Ak, hk, rfl, hck, Hr, HI⟩ := hrel
  clear H0 Hr0
  by_cases hlt : 0 < m
  ·have hki : (0 : Int) < (m : Int) := by omega
   have hil : i < l.length := by rw [En.out]; omega
   obtain ⟨x, hx⟩ : ∃ x, l[i] = x := ⟨_, rfl⟩
   obtain ⟨b, off, rfl, hb, hcell⟩ := (Hr.out.below (Hbelow.out i wr HI.out)).2 hlt
   have Hcell : Hid (∀ a (ha : i + a < l.length), a < m → wr.cell? ⟨b, off + a, none⟩ = some (.int .i64 l[i + a])) := qaa fun a ha _ => hcell a _ (by rw [yao _ a (by simp; omega)]; simp)
   have x1 : wr.cell? ⟨b, off, none⟩ = some (.int .i64 x) := by
    have := Hcell.out 0 hil hlt
    rw [qb0] at this
    rw [this]
    show some (Value.int .i64 l[i]) = _
    rw [hx]
   have Hx := qaa hx
   clear hcell hx
   go_wp2
   go_loop [0, 11] (fun s j => ∃ a : Nat, a ≤ m ∧ s = .slice (some ⟨b, off, none⟩) m ck ∧ j = .int .i64 a ∧ Hid (∀ j (hj : j < l.length), i ≤ j → j < i + a → l[j] = x)) (fun _ j => m - (intOf j).toNat)
   case atStart => exact ⟨0, by omega, rfl, rfl, qaa fun j hj h1 h2 => by omega⟩
   case round =>
    obtain ⟨a, ha, rfl, rfl, Hg⟩ := hrel
    by_cases hal : a < m
    ·have hai : (0 : Int) ≤ (a : Int) ∧ (a : Int) < m := by omega
     have hkl : i + a < l.length := by rw [En.out]; omega
     have x2 := Hcell.out a hkl hal
     by_cases hy : l[i + a] = x
     ·rw [hy] at x2
      have hb1 : (x == x) = true := by simp
      have Hg2 : Hid (∀ j (hj : j < l.length), i ≤ j → j < i + (a + 1) → l[j] = x) := qaa fun j hj h1 h2 => by
       by_cases e : j = i + a
       ·subst e; exact hy
       ·exact Hg.out j hj h1 (by omega)
      clear hy
      go_wp2
      go_round
      case rel => exact ⟨a + 1, by omega, rfl, iv (by omega), Hg2⟩
      case measure => simp only [intOf]; omega
     ·have ha0 : 0 < a := by
       rcases qba a with h | h
       ·subst h
        exact absurd Hx.out hy
       ·exact h
      have hfrom := fun W => yaN (P := prog) underlying28 hi hz1 (some ⟨b, off, none⟩) m ck a (by omega) W
      have hst := Hstep.out wr i (i + a) HI.out x (by omega) (by omega) Hg.out (fun _ => hy)
      rw [qbR] at hst
      have Hst := qaa hst
      obtain ⟨y, hye⟩ : ∃ y, l[i + a] = y := ⟨_, rfl⟩
      have hb1 : (y == x) = false := by rw [← hye]; simpa using hy
      rw [hye] at x2
      clear hst hye hy
      go_wp2_with (go_at_call 106; refine Hst.out.mono ?_; rintro e w2 ⟨⟨v2, rfl⟩, hI2⟩; have HI2 := qaa hI2; clear hI2)
      have hcut : Reads w N0 1 (some ⟨b, off + a, none⟩) (m - a) (ints (l.drop (i + a))) := by
       have := Hr.out.cut (k := a) (cap := ck) (by omega) (by omega)
       rw [qag (by omega), qcA, tints_drop, qbh, qbN, yco] at this
       exact this
      refine ⟨⟨i + a, m - a, ck - a, _, by omega, rfl, by omega, qaa hcut, HI2⟩, ?_⟩
      show m - a < m
      omega
    ·obtain rfl : a = m := by omega
     have hst := Hstep.out wr i (i + a) HI.out x (by omega) (by rw [En.out]; omega) Hg.out (fun hj => by rw [En.out] at hj; omega)
     rw [qbR, hk] at hst
     have Hst := qaa hst
     clear hst
     go_wp2_with (go_at_call 106; refine Hst.out.mono ?_; rintro e w2 ⟨⟨v2, rfl⟩, hI2⟩; have HI2 := qaa hI2; clear hI2)
     rw [qca]
     refine qaN (results_none rfl _ _ _) rfl ?_
     exact ⟨⟨_, rfl⟩, Hend.out _ HI2.out⟩
  ·obtain rfl : m = 0 := by omega
   obtain rfl : i = n := by omega
   go_wp2
   rw [Exit.noGoto_normal]
   go_end0
   exact ⟨⟨_, rfl⟩, Hend.out _ HI.out⟩
end Go.Proofs.YtanjhbkbpalnaaaGreat
