/-
 What the law of the last of these texts stands on, part 11.
-/
import Derived.Test.YtanjhbkbpalnaaaGreatMb06
set_option maxRecDepth 100000
set_option maxHeartbeats 8000000
open Go.Proofs.Tryz
namespace Go.Proofs.YtanjhbkbpalnaaaGreat
set_option linter.unusedSimpArgs false
set_option linter.unusedVariables false
open Go.ChangeShapes Go.WideShapes Go.ChangeAt Go.RowKit Go.Joins Go.Deep
theorem wsort_idx {lt : Nat → Nat → Bool} {n : Nat} (ho : SOrd lt n) {l : List Nat} (h : yeC lt l) (k : Nat) (hk : k < l.length) : l.countP (fun q => lt q l[k]) = k := by
 have e := qa1 k l
 have e2 : l.countP (fun q => lt q l[k]) = (l.take k ++ l.drop k).countP (fun q => lt q l[k]) := by rw [e]
 rw [e2, List.countP_append, List.countP_eq_length.2 fun q hq => ?_, List.countP_eq_zero.2 fun q hq => ?_, qar]
 ·omega
 ·obtain ⟨j, hj, rfl⟩ := qaI hq
  rw [qbE]
  rw [qaz] at hj
  cases j with
  | zero => simp [ho.irr]
  | succ j =>
   have := ybK h k (k + (j + 1)) hk (by omega) (by omega)
   rw [ho.asym _ _ this]
   simp
 ·obtain ⟨j, hj, rfl⟩ := qaI hq
  rw [qar] at hj
  rw [List.getElem_take]
  exact ybK h j k (by omega) hk (by omega)
def brk (c : List Int) (i : Nat) : Nat := (List.range c.length).countP fun k => klt c k i
def bbs (l : List UInt8) : List Int := l.map fun b => (b.toNat : Int)
def bcol (l : List UInt8) (r : Nat) : List Int := bbs (l.take r) ++ -1 :: bbs (l.drop r)
def bro (c : List Int) : Nat → Nat
 | 0 => 0
 | k + 1 => brk c (bro c k)
def bahead (s : List UInt8) (p : Nat) : Option UInt8 := if p = 0 then none else some (s.getD (p - 1) 0)
def yaW (s : List UInt8) : List UInt8 := (sarr s).filterMap (bahead s)
def bpr (s : List UInt8) : Nat := (sarr s).idxOf 0
def bval (s : List UInt8) (p : Nat) : Int := if p = 0 then -1 else ((s.getD (p - 1) 0).toNat : Int)
def sbw (s : List UInt8) : List Int := (sarr s).map (bval s)
theorem wfm (s : List UInt8) : ∀ A : List Nat, 0 ∉ A → A.filterMap (bahead s) = A.map (fun p => s.getD (p - 1) 0)
 | [], _ => rfl
 | p :: A, h => by
  have hp : p ≠ 0 := fun e => h (by rw [e]; exact qaC ..)
  rw [List.filterMap_cons_some (b := s.getD (p - 1) 0) (by unfold bahead; rw [qag hp]), qcn, wfm s A fun h2 => h (qaD _ h2)]
theorem wfb (s : List UInt8) : ∀ A : List Nat, 0 ∉ A → bbs (A.map (fun p => s.getD (p - 1) 0)) = A.map (bval s)
 | [], _ => rfl
 | p :: A, h => by
  have hp : p ≠ 0 := fun e => h (by rw [e]; exact qaC ..)
  have ih := wfb s A fun h2 => h (qaD _ h2)
  have hv : bval s p = ((s.getD (p - 1) 0).toNat : Int) := qag hp
  rw [qcn, qcn, ← ih, hv]
  rfl
theorem widx : ∀ (A B : List Nat), 0 ∉ A → (A ++ 0 :: B).idxOf 0 = A.length
 | [], B, _ => by simp
 | a :: A, B, h => by
  have ha : a ≠ 0 := fun e => h (by rw [e]; exact qaC ..)
  rw [qbC, List.idxOf_cons, widx A B fun h2 => h (qaD _ h2), show (a == 0) = false from qbw.2 ha]
  rfl
theorem bsplit (s : List UInt8) : ∃ A B, sarr s = A ++ 0 :: B ∧ 0 ∉ A ∧ 0 ∉ B := by
 obtain ⟨A, B, e⟩ := List.append_of_mem ((yde s 0).2 (by omega))
 have hn := yex s
 rw [e, List.nodup_append] at hn
 refine ⟨A, B, e, fun h => hn.2.2 0 h 0 (qaC ..) rfl, (List.nodup_cons.1 hn.2.1).1⟩
theorem bparts (s : List UInt8) : yaW s = (yaW s).take (bpr s) ++ (yaW s).drop (bpr s) ∧ bpr s ≤ (yaW s).length ∧ (yaW s).length = s.length ∧ bcol (yaW s) (bpr s) = sbw s := by
 obtain ⟨A, B, e, hA, hB⟩ := bsplit s
 have h1 : yaW s = A.map (fun p => s.getD (p - 1) 0) ++ B.map (fun p => s.getD (p - 1) 0) := by
  unfold yaW
  rw [e, List.filterMap_append, List.filterMap_cons_none (by rfl), wfm s A hA, wfm s B hB]
 have h2 : bpr s = A.length := by
  unfold bpr
  rw [e, widx A B hA]
 have h3 := yb5 s
 rw [e, qae, qau] at h3
 refine ⟨(qa1 _ _).symm, ?_, ?_, ?_⟩
 ·rw [h1, h2, qae, qaN]
  omega
 ·rw [h1, qae, qaN, qaN]
  omega
 ·unfold bcol sbw
  rw [h1, h2, qcg (by rw [qaN]), qbZ (by rw [qaN]), wfb s A hA, wfb s B hB, e, List.map_append, qcn]
  rfl
theorem yaZ (s : List UInt8) : (yaW s).length = s.length := (bparts s).2.2.1
theorem bpr_le (s : List UInt8) : bpr s ≤ s.length := by rw [← yaZ s]; exact (bparts s).2.1
theorem bcol_sbw (s : List UInt8) : bcol (yaW s) (bpr s) = sbw s := (bparts s).2.2.2
theorem sbw_len (s : List UInt8) : (sbw s).length = s.length + 1 := by unfold sbw; rw [qaN, yb5]
theorem sbw_get (s : List UInt8) (i : Nat) (h : i < (sarr s).length) : (sbw s).getD i 0 = bval s (sarr s)[i] := by
 rw [qaw, qan (by rw [sbw_len, ← yb5 s]; exact h)]
 simp [sbw]
theorem bpr_get (s : List UInt8) : ∃ h : bpr s < (sarr s).length, (sarr s)[bpr s] = 0 := by
 have h : (sarr s).idxOf 0 < (sarr s).length := List.idxOf_lt_length_of_mem ((yde s 0).2 (by omega))
 exact ⟨h, List.getElem_idxOf h⟩
theorem bat (s : List UInt8) (p : Nat) (h : p < s.length + 1) : ∃ k, ∃ hk : k < (sarr s).length, (sarr s)[k] = p := by
 obtain ⟨k, hk, e⟩ := qaI ((yde s p).2 h)
 exact ⟨k, hk, e⟩
theorem sarr_first (s : List UInt8) : ∃ h : 0 < (sarr s).length, (sarr s)[0] = s.length := by
 have hl := yb5 s
 obtain ⟨k, hk, e⟩ := bat s s.length (by omega)
 cases k with
 | zero => exact ⟨hk, e⟩
 | succ k =>
  have := ybK (ycL s) 0 (k + 1) (by omega) hk (by omega)
  rw [e] at this
  unfold slt at this
  rw [qc3, ycB] at this
  cases this
theorem bpr_pos (s : List UInt8) (h : 0 < s.length) : 0 < bpr s := by
 obtain ⟨h1, e1⟩ := bpr_get s
 obtain ⟨h2, e2⟩ := sarr_first s
 refine Nat.pos_of_ne_zero fun e => ?_
 have : (sarr s)[bpr s]'h1 = (sarr s)[0]'h2 := by simp only [e]
 omega
theorem slt_row (s : List UInt8) (i k : Nat) (hi : i < (sarr s).length) (hk : k < (sarr s).length) : slt s (sarr s)[k] (sarr s)[i] = decide (k < i) := by
 by_cases h : k < i
 ·rw [ybK (ycL s) k i hk hi h, qaP h]
 ·rw [qaU h]
  by_cases e : k = i
  ·subst e
   exact (yce s).irr _
  ·exact (yce s).asym _ _ (ybK (ycL s) i k hi hk (by omega))
theorem bslt_step (s : List UInt8) (q p : Nat) (hq : q < s.length) (hp : p < s.length) : slt s q p = true ↔ s[q].toNat < s[p].toNat ∨ (s[q] = s[p] ∧ slt s (q + 1) (p + 1) = true) := by
 unfold slt
 rw [qa3 hq, qa3 hp]
 exact ydE _ _ _ _
theorem blf (s : List UInt8) (i p : Nat) (hi : i < (sarr s).length) (hp : (sarr s)[i] = p + 1) : ∃ h : brk (sbw s) i < (sarr s).length, (sarr s)[brk (sbw s) i] = p := by
 have hle := sarr_le s i hi
 have hl := yb5 s
 obtain ⟨k, hk, e⟩ := bat s p (by omega)
 have hc := wsort_idx (yce s) (ycL s) k hk
 rw [e, (sarr_perm s).countP_eq, List.range_succ, List.countP_append, List.countP_singleton] at hc
 have hlast : slt s s.length p = true := by
  unfold slt
  rw [qc3, qa3 (show p < s.length by omega)]
  rfl
 rw [qah hlast] at hc
 have hb : brk (sbw s) i = (sarr s).countP fun q => q == 0 || slt s (q - 1) p := by
  unfold brk
  rw [sbw_len, ← hl]
  have e2 : (sarr s).countP (fun q => q == 0 || slt s (q - 1) p) = ((List.range (sarr s).length).map fun k => (sarr s).getD k 0).countP (fun q => q == 0 || slt s (q - 1) p) := by
   congr 1
   apply qbR
   ·simp
   ·intro j h1 h2
    simp [h1]
  rw [e2, List.countP_map]
  refine List.countP_congr fun j hj => ?_
  rw [qbk] at hj
  rw [klt_iff, sbw_get s j hj, sbw_get s i hi, hp]
  show _ ↔ ((sarr s).getD j 0 == 0 || slt s ((sarr s).getD j 0 - 1) p) = true
  rw [show (sarr s).getD j 0 = (sarr s)[j] from by rw [qaw, qan hj]; rfl]
  have hr := slt_row s i j hi hj
  have hle2 := sarr_le s j hj
  have hv : bval s (p + 1) = (s[p].toNat : Int) := by
   unfold bval
   rw [qag (by omega), qbH, qaw, qan (by omega)]
   rfl
  rw [hv]
  generalize hq : (sarr s)[j] = q at *
  cases q with
  | zero =>
   have : bval s 0 = -1 := rfl
   rw [this]
   simp
   omega
  | succ q =>
   have hv2 : bval s (q + 1) = (s[q].toNat : Int) := by
    unfold bval
    rw [qag (by omega), qbH, qaw, qan (by omega)]
    rfl
   rw [hv2, hp] at *
   have hs := bslt_step s q p (by omega) (by omega)
   rw [hr] at hs
   rw [qbH, show ((q + 1 == 0) = false) from rfl, Bool.false_or, hs, qbq]
   constructor
   ·rintro (h | ⟨h, h2⟩)
    ·exact qat (by omega)
    ·exact qaT ⟨UInt8.toNat_inj.1 (by omega), h2⟩
   ·rintro (h | ⟨h, h2⟩)
    ·exact qat (by omega)
    ·exact qaT ⟨by rw [h], h2⟩
 rw [(sarr_perm s).countP_eq, List.range_succ_eq_map, List.countP_cons, List.countP_map] at hb
 have e3 : brk (sbw s) i = k := by
  rw [hb, ← hc]
  congr 1
 exact ⟨by omega, by simp only [e3]; exact e⟩
theorem bwalk (s : List UInt8) : ∀ k, k ≤ s.length → ∃ h : bro (sbw s) k < (sarr s).length, (sarr s)[bro (sbw s) k] = s.length - k
 | 0, _ => by
  obtain ⟨h, e⟩ := sarr_first s
  exact ⟨h, by show (sarr s)[0] = _; rw [e]; rfl⟩
 | k + 1, hk => by
  obtain ⟨h, e⟩ := bwalk s k (by omega)
  exact blf s _ _ h (by rw [e]; omega)
def row0 : List UInt8 := (List.range 256).map UInt8.ofNat
def mv (R : List UInt8) (k : Nat) : List UInt8 := R.getD k 0 :: (R.take k ++ R.drop (k + 1))
def pl (R : List UInt8) (b : UInt8) : Nat := R.idxOf b
def rowS (R : List UInt8) (s : List UInt8) : List UInt8 := s.foldl (fun R b => mv R (pl R b)) R
def rks : List UInt8 → List UInt8 → List Int
 | _, [] => []
 | R, b :: t => (pl R b : Int) :: rks (mv R (pl R b)) t
def rgood (ks : List Int) : Bool := ks.all fun k => decide (0 ≤ k) && decide (k ≤ 255)
def bys : List UInt8 → List Int → List UInt8
 | _, [] => []
 | R, k :: t => R.getD k.toNat 0 :: bys (mv R k.toNat) t
structure Whole (R : List UInt8) : Prop where
 nodup : R.Nodup
 len : R.length = 256
 mem : ∀ b, b ∈ R
theorem row0_get (k : Nat) (h : k < 256) : row0[k]? = some (UInt8.ofNat k) := by simp [row0, h]
theorem yf2 : row0.length = 256 := by simp [row0]
theorem row0_lt : row0.Pairwise (fun a b => a.toNat < b.toNat) := by
 unfold row0
 rw [List.pairwise_map]
 refine qbj ?_ List.pairwise_lt_range
 intro a b ha hb h
 rw [qbk] at ha hb
 rw [yaw _ ha, yaw _ hb]
 exact h
theorem row0_mem (b : UInt8) : b ∈ row0 := by
 unfold row0
 exact qbM.2 ⟨b.toNat, qbk.2 (u8_lt b), u8_eq (yaw _ (u8_lt b))⟩
theorem row0_nodup : row0.Nodup := by
 unfold List.Nodup
 exact row0_lt.imp fun h e => by rw [e] at h; omega
theorem row0_whole : Whole row0 := ⟨row0_nodup, yf2, row0_mem⟩
theorem yf1 (R : List UInt8) (k : Nat) (h : k < R.length) : R.getD k 0 = R[k] := by rw [qaw, qan h]; rfl
theorem parted (R : List UInt8) (k : Nat) (h : k < R.length) : R = R.take k ++ R.getD k 0 :: R.drop (k + 1) := by
 rw [yf1 R k h, ← qa3 h, qa1]
theorem mv_perm (R : List UInt8) (k : Nat) (h : k < R.length) : (mv R k).Perm R := by
 conv => rhs; rw [parted R k h]
 unfold mv
 exact List.perm_middle.symm
theorem Whole.mv {R : List UInt8} (h : Whole R) (k : Nat) (hk : k < 256) : Whole (mv R k) := by
 have hp := mv_perm R k (by rw [h.len]; exact hk)
 exact ⟨hp.nodup_iff.2 h.nodup, hp.length_eq.trans h.len, fun b => hp.mem_iff.2 (h.mem b)⟩
theorem pl_lt {R : List UInt8} (h : Whole R) (b : UInt8) : pl R b < 256 := by
 have := List.idxOf_lt_length_of_mem (h.mem b)
 rw [h.len] at this
 exact this
theorem pl_get {R : List UInt8} (h : Whole R) (b : UInt8) : R.getD (pl R b) 0 = b := by
 have := pl_lt h b
 rw [yf1 _ _ (by rw [h.len]; exact this)]
 exact List.getElem_idxOf _
theorem Whole.rowS {R : List UInt8} (h : Whole R) : ∀ s, Whole (rowS R s)
 | [] => h
 | b :: t => by
  have := Whole.rowS (h.mv (pl R b) (pl_lt h b)) t
  exact this
theorem rgood_cons (k : Int) (t : List Int) : rgood (k :: t) = true ↔ (0 ≤ k ∧ k ≤ 255) ∧ rgood t = true := by simp [rgood]
theorem rowS_snoc (R s : List UInt8) (b : UInt8) : rowS R (s ++ [b]) = mv (rowS R s) (pl (rowS R s) b) := by simp [rowS, List.foldl_append]
theorem rks_snoc (s : List UInt8) (b : UInt8) : ∀ R, rks R (s ++ [b]) = rks R s ++ [(pl (rowS R s) b : Int)] := by
 induction s with
 | nil => intro R; rfl
 | cons c t ih => intro R; show _ :: rks _ (t ++ [b]) = _; rw [ih]; rfl
theorem yg6 (s : List UInt8) : ∀ R, (rks R s).length = s.length := by
 induction s with
 | nil => intro R; rfl
 | cons c t ih => intro R; show (rks _ t).length + 1 = _; rw [ih]; rfl
theorem yfY {α : Type} (l : List α) (k : Nat) (h : k < l.length) : l.take (k + 1) = l.take k ++ [l[k]] := qao h
theorem rowS_take (R l : List UInt8) (k : Nat) (h : k < l.length) : rowS R (l.take (k + 1)) = mv (rowS R (l.take k)) (pl (rowS R (l.take k)) l[k]) := by rw [yfY l k h, rowS_snoc]
theorem rks_take (R l : List UInt8) (k : Nat) (h : k < l.length) : rks R (l.take (k + 1)) = rks R (l.take k) ++ [(pl (rowS R (l.take k)) l[k] : Int)] := by rw [yfY l k h, rks_snoc]
theorem yfD : ∀ (s R : List UInt8), Whole R → bys R (rks R s) = s ∧ rgood (rks R s) = true
 | [], _, _ => ⟨rfl, rfl⟩
 | b :: t, R, h => by
  have hl := pl_lt h b
  obtain ⟨h1, h2⟩ := yfD t (mv R (pl R b)) (h.mv _ hl)
  refine ⟨?_, ?_⟩
  ·show R.getD (pl R b : Int).toNat 0 :: bys (mv R (pl R b : Int).toNat) (rks (mv R (pl R b)) t) = b :: t
   rw [qap, h1, pl_get h]
  ·show rgood ((pl R b : Int) :: rks (mv R (pl R b)) t) = true
   rw [rgood_cons]
   exact ⟨by omega, h2⟩
def zd (n : Nat) : List Int := if h : n = 0 then [] else (((n - 1) % 2 : Nat) : Int) :: zd ((n - 1) / 2)
termination_by n
decreasing_by omega
def zv : List Int → Nat
 | [] => 0
 | s :: t => s.toNat + 1 + 2 * zv t
def yaE (top : Int) (l : List Int) : Bool := l.all fun k => decide (0 ≤ k) && decide (k ≤ top)
def zpk (r : Nat) : List Int → List Int
 | [] => zd r
 | x :: t => if x = 0 then zpk (r + 1) t else zd r ++ (x + 1) :: zpk 0 t
def zun (d : List Int) : List Int → List Int
 | [] => List.replicate (zv d) 0
 | s :: t => if 0 ≤ s ∧ s ≤ 1 then zun (d ++ [s]) t else List.replicate (zv d) 0 ++ (s - 1) :: zun [] t
def zct (d : List Int) : List Int → Nat
 | [] => zv d
 | s :: t => if 0 ≤ s ∧ s ≤ 1 then zct (d ++ [s]) t else zv d + (if 2 ≤ s ∧ s ≤ 256 then 1 else 0) + zct [] t
def ygv (l : List Int) : Nat := min (zct [] l) 100001
def ybm (l : List Int) : List Int × Int := if yaE 255 l = true then (zpk 0 l, 0) else ([], 60)
def zunF (l : List Int) (most : Int) : List Int × Int :=
 if yaE 256 l = true then (if (ygv l : Int) > most ∨ (ygv l : Int) > 100000 then ([], 3) else (zun [] l, 0)) else ([], 70)
theorem yaU : zd 0 = [] := by unfold zd; simp
theorem ygt (n : Nat) (h : n ≠ 0) : zd n = (((n - 1) % 2 : Nat) : Int) :: zd ((n - 1) / 2) := by
 conv => lhs; unfold zd
 rw [dif_neg h]
theorem ybi (top s : Int) (t : List Int) : yaE top (s :: t) = true ↔ (0 ≤ s ∧ s ≤ top) ∧ yaE top t = true := by simp [yaE]
theorem ygH (top : Int) (a b : List Int) : yaE top (a ++ b) = true ↔ yaE top a = true ∧ yaE top b = true := by simp [yaE, List.all_append]
theorem yby {top : Int} {l : List Int} (h : yaE top l = true) (i : Nat) (hi : i < l.length) : 0 ≤ l[i] ∧ l[i] ≤ top := by
 unfold yaE at h
 rw [qby] at h
 have := h l[i] (qam hi)
 simpa using this
theorem zgood_of {top : Int} {l : List Int} (h : ∀ i (hi : i < l.length), 0 ≤ l[i] ∧ l[i] ≤ top) : yaE top l = true := by
 unfold yaE
 rw [qby]
 intro x hx
 obtain ⟨i, hi, rfl⟩ := qaI hx
 simpa using h i hi
theorem zgood_bad {top : Int} {l : List Int} (i : Nat) (hi : i < l.length) (hb : ¬(0 ≤ l[i] ∧ l[i] ≤ top)) : yaE top l = false := by
 cases h : yaE top l with
 | false => rfl
 | true => exact absurd (yby h i hi) hb
theorem ycl (n : Nat) : yaE 1 (zd n) = true := by
 induction n using Nat.strongRecOn with
 | _ n ih =>
  by_cases h : n = 0
  ·subst h; rw [yaU]; rfl
  ·rw [ygt n h, ybi]
   exact ⟨by omega, ih _ (by omega)⟩
theorem zv_zd (n : Nat) : zv (zd n) = n := by
 induction n using Nat.strongRecOn with
 | _ n ih =>
  by_cases h : n = 0
  ·subst h; rw [yaU]; rfl
  ·rw [ygt n h]
   unfold zv
   rw [ih _ (by omega)]
   omega
theorem zpk_run : ∀ (r : Nat) (p t : List Int), (∀ x ∈ p, x = 0) → zpk r (p ++ t) = zpk (r + p.length) t
 | r, [], t, _ => rfl
 | r, x :: p, t, h => by
  have h0 := h x (qaC ..)
  have ih := zpk_run (r + 1) p t fun y hy => h y (qaD _ hy)
  show zpk r (x :: (p ++ t)) = _
  conv => lhs; unfold zpk
  rw [qah h0, ih, qau, show r + 1 + p.length = r + (p.length + 1) from by omega]
theorem zpk_end (r : Nat) (t : List Int) (h : ∀ x s, t = x :: s → x ≠ 0) : zpk r t = zd r ++ zpk 0 t := by
 cases t with
 | nil => simp [zpk, yaU]
 | cons x s =>
  have := h x s rfl
  unfold zpk
  rw [qag this, qag this, yaU]
  rfl
theorem ycQ (x : Int) (t : List Int) (h : x ≠ 0) : zpk 0 (x :: t) = (x + 1) :: zpk 0 t := by
 conv => lhs; unfold zpk
 rw [qag h, yaU]
 rfl
theorem zun_run : ∀ (d p t : List Int), yaE 1 p = true → zun d (p ++ t) = zun (d ++ p) t
 | d, [], t, _ => by rw [qa6]; rfl
 | d, s :: p, t, h => by
  rw [ybi] at h
  have ih := zun_run (d ++ [s]) p t h.2
  show zun d (s :: (p ++ t)) = _
  conv => lhs; unfold zun
  rw [qah h.1, ih, qak]
  rfl
theorem zun_len : ∀ (l d : List Int), yaE 256 l = true → (zun d l).length = zct d l
 | [], d, _ => by simp [zun, zct]
 | s :: t, d, h => by
  rw [ybi] at h
  unfold zun zct
  by_cases h1 : 0 ≤ s ∧ s ≤ 1
  ·rw [qah h1, qah h1, zun_len t _ h.2]
  ·rw [qag h1, qag h1, qah (by omega), qae, qau, qaY, zun_len t _ h.2]
   omega
theorem zun_zpk : ∀ (l : List Int) (r : Nat), yaE 255 l = true → zun [] (zpk r l) = List.replicate r 0 ++ l
 | [], r, _ => by
  have h := zun_run [] (zd r) [] (ycl r)
  rw [qa6, qbc] at h
  unfold zpk
  rw [h]
  unfold zun
  rw [zv_zd, qa6]
 | x :: t, r, h => by
  rw [ybi] at h
  unfold zpk
  by_cases h0 : x = 0
  ·rw [qah h0, zun_zpk t (r + 1) h.2, h0, List.replicate_succ', qak]
   rfl
  ·rw [qag h0, zun_run [] (zd r) _ (ycl r), qbc]
   conv => lhs; unfold zun
   rw [qag (by omega), zv_zd, zun_zpk t 0 h.2]
   simp
theorem yfk : ∀ (l : List Int) (r : Nat), yaE 255 l = true → yaE 256 (zpk r l) = true
 | [], r, _ => by
  unfold zpk
  exact zgood_of fun i hi => by have := yby (ycl r) i hi; omega
 | x :: t, r, h => by
  rw [ybi] at h
  unfold zpk
  by_cases h0 : x = 0
  ·rw [qah h0]; exact yfk t _ h.2
  ·rw [qag h0, ygH, ybi]
   exact ⟨zgood_of fun i hi => by have := yby (ycl r) i hi; omega, by omega, yfk t 0 h.2⟩
theorem zd_len (n : Nat) : (zd n).length ≤ n := by
 induction n using Nat.strongRecOn with
 | _ n ih =>
  by_cases h : n = 0
  ·subst h; rw [yaU]; simp
  ·rw [ygt n h, qau]
   have := ih ((n - 1) / 2) (by omega)
   omega
theorem yeG : ∀ (l : List Int) (r : Nat), (zpk r l).length ≤ r + l.length
 | [], r => by unfold zpk; have := zd_len r; simp; omega
 | x :: t, r => by
  unfold zpk
  by_cases h0 : x = 0
  ·rw [qah h0]; have := yeG t (r + 1); rw [qau]; omega
  ·rw [qag h0, qae, qau, qau]
   have := yeG t 0
   have := zd_len r
   omega
theorem zback (l : List Int) (hl : l.length ≤ 100000) (h : yaE 255 l = true) : zunF (zpk 0 l) l.length = (l, 0) ∧ ygv (zpk 0 l) = l.length ∧ (zpk 0 l).length ≤ l.length := by
 have hu := zun_zpk l 0 h
 have hg := yfk l 0 h
 have hc : ygv (zpk 0 l) = l.length := by
  unfold ygv
  rw [← zun_len _ _ hg, hu]
  simp
  omega
 refine ⟨?_, hc, by have := yeG l 0; omega⟩
 unfold zunF
 rw [qah hg, hc, qag (by omega), hu]
 rfl
def zlog (m : Nat) : Nat := if h : m ≤ 1 then 0 else zlog (m / 2) + 1
termination_by m
decreasing_by omega
theorem zlog_one (m : Nat) (h : m ≤ 1) : zlog m = 0 := by unfold zlog; rw [dif_pos h]
theorem zlog_more (m : Nat) (h : 1 < m) : zlog m = zlog (m / 2) + 1 := by
 conv => lhs; unfold zlog
 rw [dif_neg (by omega)]
theorem zd_log (n : Nat) : (zd n).length = zlog (n + 1) := by
 induction n using Nat.strongRecOn with
 | _ n ih =>
  by_cases h : n = 0
  ·subst h; rw [yaU, zlog_one 1 (by omega)]; rfl
  ·rw [ygt n h, qau, ih _ (by omega), zlog_more (n + 1) (by omega)]
   congr 2
   omega
theorem zlog_lt : ∀ (k m : Nat), m < 2 ^ (k + 1) → zlog m ≤ k
 | 0, m, h => by rw [zlog_one m (by simp at h; omega)]; omega
 | k + 1, m, h => by
  by_cases h1 : m ≤ 1
  ·rw [zlog_one m h1]; omega
  ·rw [zlog_more m (by omega)]
   have := zlog_lt k (m / 2) (by rw [qaO] at h; omega)
   omega
def ydA (l : List UInt8) (p n : Int) : List UInt8 × Int × Int :=
 if n < 0 then ([], 0, 2) else if (l.length : Int) - p < n then ([], 0, 4) else ((l.drop p.toNat).take n.toNat, p + n, 0)
def yba (l : List UInt8) (p k n : Int) : (Int × List UInt8) × Int × Int :=
 if k = 1 then (((ya0 l p 1).1, []), (ya0 l p 1).2.1, (ya0 l p 1).2.2)
 else if k = 2 then (((getF l p).1, []), (getF l p).2.1, (getF l p).2.2)
 else if k = 3 then (((ya0 l p n).1, []), (ya0 l p n).2.1, (ya0 l p n).2.2)
 else if k = 4 then ((0, (ydA l p n).1), (ydA l p n).2.1, (ydA l p n).2.2)
 else if k = 5 then ((0, l.drop p.toNat), l.length, 0)
 else if k = 6 then (if p < l.length then ((0, []), 0, 6) else ((0, []), p, 0))
 else ((0, []), 0, 2)
theorem getF_ok' {l : List UInt8} {p : Int} (h : (getF l p).2.2 = 0) : 0 ≤ p ∧ p < (getF l p).2.1 ∧ (getF l p).2.1 ≤ l.length ∧ 0 ≤ (getF l p).1 ∧ (getF l p).1 < 9223372036854775808 := by
 unfold getF at h ⊢
 by_cases hp : 0 ≤ p ∧ p ≤ l.length
 ·rw [qah hp] at h ⊢
  by_cases h2 : (getR (l.drop p.toNat)).2.2 = 0
  ·rw [qah h2]
   obtain ⟨m, hm, e1, e2, e3, _⟩ := getR_ok _ h2
   rw [qaz] at e3
   simp only
   omega
  ·rw [qag h2] at h
   exact absurd h h2
 ·rw [qag hp] at h
  simp at h
theorem size_any (n : Int) (w : World) (h : n < 9223372036854775808) : Calls prog 59 #[.int .i64 n] w fun e w' => e = .returned (.int .i64 (sizeF n)) ∧ w = w' := by
 by_cases h0 : n < 0
 ·have fin : sizeF n = 0 := by simp [sizeF, putB, h0]
  rw [fin]
  clear fin
  go_enter func59, ntmps59
  go_wp2
  go_ret
  exact ⟨rfl, rfl⟩
 ·obtain ⟨m, rfl⟩ := qaK (by omega : 0 ≤ n)
  have hm : m < 128 ^ (8 + 1) := by rw [pow9]; omega
  have fin : sizeF (m : Int) = ((dg 9 m).length : Int) := by unfold sizeF; rw [ycq (by omega), qap]
  rw [fin]
  clear fin
  have st : Hid (m < 128 ^ (8 + 1) ∧ 1 + (dg (8 + 1) m).length = (dg 9 m).length + 1) := qaa ⟨hm, qcz _ _⟩
  clear hm
  generalize hL : (dg 9 m).length = L at st ⊢
  have hL' := qaa hL
  clear hL
  go_enter func59, ntmps59
  go_wp2
  go_loop [0, 3] (fun n s => ∃ (f k c : Nat), n = .int .i64 (k : Int) ∧ s = .int .i64 (c : Int) ∧ c + f ≤ 9 ∧ (k : Int) < 9223372036854775808 ∧ Hid (k < 128 ^ (f + 1) ∧ c + (dg (f + 1) k).length = L + 1)) (fun n _ => match n with | .int _ m => m.toNat | _ => 0)
  case atStart => exact ⟨8, m, 1, rfl, rfl, by omega, by omega, ⟨st.1, by rw [← hL'.out]; exact qcz _ _⟩⟩
  case round =>
   obtain ⟨f, k, c, rfl, rfl, hc, hk, hd⟩ := hrel
   clear st hL' h h0
   by_cases h128 : 128 ≤ (k : Int)
   ·go_wp2
    obtain ⟨hd1, hd2⟩ := hd.out
    cases f with
    | zero => exfalso; simp at hd1; omega
    | succ f =>
     have hdiv : k / 128 < 128 ^ (f + 1) := by rw [qb1 (by omega)]; rw [qaO] at hd1; exact hd1
     have e : dg (f + 1 + 1) k = UInt8.ofNat (128 + k % 128) :: dg (f + 1) (k / 128) := by rw [dg, qag (by omega)]
     rw [e, qau] at hd2
     refine ⟨⟨f, k / 128, c + 1, iv (by omega), iv (by omega), by omega, by omega, hdiv, by omega⟩, ?_⟩
     show Int.toNat _ < Int.toNat _
     omega
   ·go_wp2
    obtain ⟨hd1, hd2⟩ := hd.out
    have e : dg (f + 1) k = [UInt8.ofNat k] := by rw [dg, qah (by omega)]
    rw [e] at hd2
    go_ret
    exact ⟨qbJ Ending.returned (iv (by simp at hd2; omega)), rfl⟩
end Go.Proofs.YtanjhbkbpalnaaaGreat
