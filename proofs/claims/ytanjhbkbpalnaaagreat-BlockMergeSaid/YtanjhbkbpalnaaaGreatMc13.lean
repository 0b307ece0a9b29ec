/-
 What the law of the last of these texts stands on, part 13.
-/
import Derived.Test.YtanjhbkbpalnaaaGreatMc12
import Derived.Deep.Strs
set_option maxRecDepth 100000
set_option maxHeartbeats 8000000
open Go.Proofs.Tryz
namespace Go.Proofs.YtanjhbkbpalnaaaGreat
set_option linter.unusedSimpArgs false
set_option linter.unusedVariables false
open Go.ChangeShapes Go.WideShapes Go.ChangeAt Go.RowKit Go.Joins Go.Deep
def row0 : List UInt8 := (List.range 256).map UInt8.ofNat
def mv (R : List UInt8) (k : Nat) : List UInt8 := R.getD k 0 :: (R.take k ++ R.drop (k + 1))
def pl (R : List UInt8) (b : UInt8) : Nat := R.idxOf b
def rowS (R : List UInt8) (s : List UInt8) : List UInt8 := s.foldl (fun R b => mv R (pl R b)) R
def rks : List UInt8 → List UInt8 → List Int
 | _, [] => []
 | R, b :: t => (pl R b : Int) :: rks (mv R (pl R b)) t
def ydd (ks : List Int) : Bool := ks.all fun k => decide (0 ≤ k) && decide (k ≤ 255)
def rowK (R : List UInt8) (ks : List Int) : List UInt8 := ks.foldl (fun R k => mv R k.toNat) R
def bys : List UInt8 → List Int → List UInt8
 | _, [] => []
 | R, k :: t => R.getD k.toNat 0 :: bys (mv R k.toNat) t
def ydc (ks : List Int) : List UInt8 × Int := if ydd ks = true then (bys row0 ks, 0) else ([], 60)
structure Whole (R : List UInt8) : Prop where
 nodup : R.Nodup
 len : R.length = 256
 mem : ∀ b, b ∈ R
theorem row0_len : row0.length = 256 := by simp [row0]
theorem row0_lt : row0.Pairwise (fun a b => a.toNat < b.toNat) := by
 unfold row0
 rw [List.pairwise_map]
 refine qbr ?_ List.pairwise_lt_range
 intro a b ha hb h
 rw [qaU] at ha hb
 rw [yaE _ ha, yaE _ hb]
 exact h
theorem row0_mem (b : UInt8) : b ∈ row0 := by
 unfold row0
 exact qbI.2 ⟨b.toNat, qaU.2 (u8_lt b), u8_eq (yaE _ (u8_lt b))⟩
theorem row0_nodup : row0.Nodup := by
 unfold List.Nodup
 exact row0_lt.imp fun h e => by rw [e] at h; omega
theorem row0_whole : Whole row0 := ⟨row0_nodup, row0_len, row0_mem⟩
theorem getD_get (R : List UInt8) (k : Nat) (h : k < R.length) : R.getD k 0 = R[k] := by rw [qar, qaj h]; rfl
theorem parted (R : List UInt8) (k : Nat) (h : k < R.length) : R = R.take k ++ R.getD k 0 :: R.drop (k + 1) := by
 rw [getD_get R k h, ← qa6 h, qax]
theorem mv_perm (R : List UInt8) (k : Nat) (h : k < R.length) : (mv R k).Perm R := by
 conv => rhs; rw [parted R k h]
 unfold mv
 exact List.perm_middle.symm
theorem Whole.mv {R : List UInt8} (h : Whole R) (k : Nat) (hk : k < 256) : Whole (mv R k) := by
 have hp := mv_perm R k (by rw [h.len]; exact hk)
 exact ⟨hp.nodup_iff.2 h.nodup, hp.length_eq.trans h.len, fun b => hp.mem_iff.2 (h.mem b)⟩
theorem pl_lt {R : List UInt8} (h : Whole R) (b : UInt8) : pl R b < 256 := by
 have := List.idxOf_lt_length_of_mem (h.mem b)
 rw [h.len] at this
 exact this
theorem pl_get {R : List UInt8} (h : Whole R) (b : UInt8) : R.getD (pl R b) 0 = b := by
 have := pl_lt h b
 rw [getD_get _ _ (by rw [h.len]; exact this)]
 exact List.getElem_idxOf _
theorem Whole.rowS {R : List UInt8} (h : Whole R) : ∀ s, Whole (rowS R s)
 | [] => h
 | b :: t => by
  have := Whole.rowS (h.mv (pl R b) (pl_lt h b)) t
  exact this
theorem rgood_cons (k : Int) (t : List Int) : ydd (k :: t) = true ↔ (0 ≤ k ∧ k ≤ 255) ∧ ydd t = true := by simp [ydd]
theorem Whole.rowK {R : List UInt8} (h : Whole R) : ∀ ks, ydd ks = true → Whole (rowK R ks) := by
 intro ks
 induction ks generalizing R with
 | nil => intro _; exact h
 | cons k t ih =>
  intro hg
  rw [rgood_cons] at hg
  exact ih (h.mv k.toNat (by omega)) hg.2
theorem rowS_snoc (R s : List UInt8) (b : UInt8) : rowS R (s ++ [b]) = mv (rowS R s) (pl (rowS R s) b) := by simp [rowS, List.foldl_append]
theorem rks_snoc (s : List UInt8) (b : UInt8) : ∀ R, rks R (s ++ [b]) = rks R s ++ [(pl (rowS R s) b : Int)] := by
 induction s with
 | nil => intro R; rfl
 | cons c t ih => intro R; show _ :: rks _ (t ++ [b]) = _; rw [ih]; rfl
theorem rks_len (s : List UInt8) : ∀ R, (rks R s).length = s.length := by
 induction s with
 | nil => intro R; rfl
 | cons c t ih => intro R; show (rks _ t).length + 1 = _; rw [ih]; rfl
theorem rowK_snoc (R : List UInt8) (ks : List Int) (k : Int) : rowK R (ks ++ [k]) = mv (rowK R ks) k.toNat := by simp [rowK, List.foldl_append]
theorem bys_snoc (ks : List Int) (k : Int) : ∀ R, bys R (ks ++ [k]) = bys R ks ++ [(rowK R ks).getD k.toNat 0] := by
 induction ks with
 | nil => intro R; rfl
 | cons c t ih => intro R; show _ :: bys _ (t ++ [k]) = _; rw [ih]; rfl
theorem bys_len (ks : List Int) : ∀ R, (bys R ks).length = ks.length := by
 induction ks with
 | nil => intro R; rfl
 | cons c t ih => intro R; show (bys _ t).length + 1 = _; rw [ih]; rfl
theorem rgood_snoc (ks : List Int) (k : Int) : ydd (ks ++ [k]) = (ydd ks && (decide (0 ≤ k) && decide (k ≤ 255))) := by simp [ydd, List.all_append]
theorem ycM {α : Type} (l : List α) (k : Nat) (h : k < l.length) : l.take (k + 1) = l.take k ++ [l[k]] := qap h
theorem rowS_take (R l : List UInt8) (k : Nat) (h : k < l.length) : rowS R (l.take (k + 1)) = mv (rowS R (l.take k)) (pl (rowS R (l.take k)) l[k]) := by rw [ycM l k h, rowS_snoc]
theorem rks_take (R l : List UInt8) (k : Nat) (h : k < l.length) : rks R (l.take (k + 1)) = rks R (l.take k) ++ [(pl (rowS R (l.take k)) l[k] : Int)] := by rw [ycM l k h, rks_snoc]
theorem rowK_take (R : List UInt8) (l : List Int) (k : Nat) (h : k < l.length) : rowK R (l.take (k + 1)) = mv (rowK R (l.take k)) l[k].toNat := by rw [ycM l k h, rowK_snoc]
theorem bys_take (R : List UInt8) (l : List Int) (k : Nat) (h : k < l.length) : bys R (l.take (k + 1)) = bys R (l.take k) ++ [(rowK R (l.take k)).getD l[k].toNat 0] := by rw [ycM l k h, bys_snoc]
theorem ygr : ∀ (s R : List UInt8), Whole R → bys R (rks R s) = s ∧ ydd (rks R s) = true
 | [], _, _ => ⟨rfl, rfl⟩
 | b :: t, R, h => by
  have hl := pl_lt h b
  obtain ⟨h1, h2⟩ := ygr t (mv R (pl R b)) (h.mv _ hl)
  refine ⟨?_, ?_⟩
  ·show R.getD (pl R b : Int).toNat 0 :: bys (mv R (pl R b : Int).toNat) (rks (mv R (pl R b)) t) = b :: t
   rw [qav, h1, pl_get h]
  ·show ydd ((pl R b : Int) :: rks (mv R (pl R b)) t) = true
   rw [rgood_cons]
   exact ⟨by omega, h2⟩
def qsy (s : List UInt8) : List Int := zpk 0 (rks row0 (ybq s))
theorem qrk_good (s : List UInt8) : ya5 255 (rks row0 s) = true := (ygr s row0 row0_whole).2
theorem qrk_len (s : List UInt8) : (rks row0 (ybq s)).length = s.length := by rw [rks_len, yb0]
theorem qsy_pack (s : List UInt8) : yfZ (rks row0 (ybq s)) = (qsy s, 0) := qah (qrk_good _)
theorem yfa (s : List UInt8) : (qsy s).length ≤ s.length := by
 have := yhk (rks row0 (ybq s)) 0
 rw [qrk_len, qaL] at this
 exact this
theorem qsy_in (s : List UInt8) : hin (qsy s) = true := yf7 _ 0 (qrk_good _)
def qsF (s : List UInt8) : List Int × Int × Int := if 20000 < s.length then ([], 0, 3) else (qsy s, (bpr s : Int), 0)
def qhd (a b c : Int) : List UInt8 := putB a ++ (putB b ++ putB c)
def qB (s : List UInt8) : List UInt8 := qhd s.length (bpr s) (qsy s).length ++ text (hB (qsy s))
def qpF (s : List UInt8) : List UInt8 × Int := if 20000 < s.length then ([], 3) else (qB s, 0)
def qtF (l : List Int) (r n : Int) : List UInt8 × Int :=
 if n < 0 ∨ 20000 < n then ([], 2) else if (zunF l n).2 ≠ 0 then ([], (zunF l n).2) else if ((zunF l n).1.length : Int) ≠ n then ([], 5) else biF (bys row0 (zunF l n).1) r
def ybl (b : List UInt8) : (Int × Int × Int) × Int × Int :=
 if (getF b 0).2.2 ≠ 0 then ((0, 0, 0), 0, (getF b 0).2.2)
 else if (getF b (getF b 0).2.1).2.2 ≠ 0 then ((0, 0, 0), 0, (getF b (getF b 0).2.1).2.2)
 else if (getF b (getF b (getF b 0).2.1).2.1).2.2 ≠ 0 then ((0, 0, 0), 0, (getF b (getF b (getF b 0).2.1).2.1).2.2)
 else (((getF b 0).1, (getF b (getF b 0).2.1).1, (getF b (getF b (getF b 0).2.1).2.1).1), (getF b (getF b (getF b 0).2.1).2.1).2.1, 0)
def qu2 (n p k : Int) (rest : List UInt8) : List UInt8 × Int :=
 if 20000 < n ∨ n < k then ([], 3) else if (yci rest k).2 ≠ 0 then ([], (yci rest k).2) else qtF (yci rest k).1 p n
def quF (b : List UInt8) : List UInt8 × Int :=
 if (ybl b).2.2 ≠ 0 then ([], (ybl b).2.2) else qu2 (ybl b).1.1 (ybl b).1.2.1 (ybl b).1.2.2 (b.drop (ybl b).2.1.toNat)
theorem qt_back (s : List UInt8) (h : s.length ≤ 20000) : qtF (qsy s) (bpr s) s.length = (s, 0) := by
 obtain ⟨h1, _, _⟩ := zback (rks row0 (ybq s)) (by rw [qrk_len]; omega) (qrk_good _)
 rw [qrk_len] at h1
 unfold qtF qsy
 rw [qag (by omega), h1, qag (by simp), qag (by simp only [qrk_len]; simp), (ygr (ybq s) row0 row0_whole).1]
 exact bback s h
theorem qput_pos (n : Nat) : 0 < (putB (n : Int)).length := by
 rw [ycW (by omega)]
 exact dg_pos 8 _
theorem qget (pre rest : List UInt8) (n : Nat) (h : n < 9223372036854775808) (p : Int) (hp : p = (pre.length : Int)) : getF (pre ++ (putB n ++ rest)) p = ((n : Int), (pre.length : Int) + (putB (n : Int)).length, 0) := by
 subst hp
 rw [ycW (by omega), qav]
 exact getF_put pre rest n h
theorem qcut_put (a b c : Nat) (T : List UInt8) (ha : a < 1000000) (hb : b < 1000000) (hc : c < 1000000) : ybl (qhd a b c ++ T) = (((a : Int), (b : Int), (c : Int)), ((qhd a b c).length : Int), 0) := by
 have g1 := qget [] (putB b ++ (putB c ++ T)) a (by omega) 0 rfl
 have g2 := qget (putB a) (putB c ++ T) b (by omega) _ rfl
 have g3 := qget (putB a ++ putB b) T c (by omega) ((putB a).length + (putB b).length) (by rw [qae]; omega)
 have e1 : qhd a b c ++ T = putB a ++ (putB b ++ (putB c ++ T)) := by unfold qhd; simp only [qak]
 rw [qak] at g3
 rw [qaS, ← e1] at g1
 rw [← e1] at g2 g3
 have z : (([] : List UInt8).length : Int) = 0 := rfl
 rw [z, Int.zero_add] at g1
 unfold ybl
 rw [g1]
 dsimp only
 rw [g2]
 dsimp only
 rw [g3]
 dsimp only
 rw [qag (by simp), qag (by simp), qag (by simp)]
 congr 2
 unfold qhd
 rw [qae, qae, qae]
 omega
theorem qu_put (s T : List UInt8) (h : s.length ≤ 20000) : quF (qhd s.length (bpr s) (qsy s).length ++ T) = qu2 s.length (bpr s) (qsy s).length T := by
 have h1 := bpr_le s
 have h2 := yfa s
 unfold quF
 rw [qcut_put _ _ _ T (by omega) (by omega) (by omega), qag (by simp)]
 dsimp only
 rw [qav, qbF rfl]
theorem qback (s : List UInt8) (h : s.length ≤ 20000) : quF (qB s) = (s, 0) := by
 have h2 := yfa s
 unfold qB
 rw [qu_put s _ h]
 unfold qu2
 rw [qag (by omega), hback (by omega) (qsy_in s), qag (by simp)]
 exact qt_back s h
theorem orow_at : ∀ (t : List Rc) (a : Rc), yb4 a t = 0 → ∀ (i : Nat) (h : i < (a :: t).length), (a :: t)[i].1 = a.1 + i ∧ a.2.1 ≤ (a :: t)[i].2.1 ∧ (a :: t)[i].2.1 ≤ ((a :: t).getLast (by simp)).2.1
 | [], a, _, i, h => by
  obtain rfl : i = 0 := by simpa using h
  exact ⟨(Int.add_zero _).symm, qcw _, qcw _⟩
 | b :: t, a, hr, i, h => by
  obtain ⟨_, h2, h3⟩ := ycr hr
  have h4 := (rgo_iff a b).1 h2
  rw [List.getLast_cons_cons]
  cases i with
  | zero =>
   have := (orow_at t b h3 0 (by simp)).2.2
   exact ⟨(Int.add_zero _).symm, qcw _, Int.le_trans h4.2 this⟩
  | succ i =>
   obtain ⟨k1, k2, k3⟩ := orow_at t b h3 i (by simpa using h)
   rw [List.getElem_cons_succ]
   refine ⟨by rw [k1]; omega, by omega, k3⟩
def yad (l : List Rc) : Rc := l.headD yfT
def ya9 (l : List Rc) : Rc := l.getLastD yfT
theorem orow {l : List Rc} (h : yaz l = 0) (i : Nat) (hi : i < l.length) : l[i].1 = (yad l).1 + i ∧ (yad l).2.1 ≤ l[i].2.1 ∧ l[i].2.1 ≤ (ya9 l).2.1 := by
 cases l with
 | nil => cases hi
 | cons a t =>
  change (if rmay a = true then yb4 a t else 150) = 0 at h
  by_cases h1 : rmay a = true
  ·rw [qah h1] at h
   have := orow_at t a h i hi
   have e : ya9 (a :: t) = (a :: t).getLast (by simp) := by unfold ya9; rw [List.getLastD_eq_getLast?, List.getLast?_eq_some_getLast (by simp), qbW]
   rw [e]
   exact this
  ·rw [qag h1] at h
   cases h
theorem ygP {l : List Rc} (h : 0 < l.length) : yad l = l[0] := by
 cases l with
 | nil => cases h
 | cons a t => rfl
theorem olast_at {l : List Rc} (h : 0 < l.length) : ya9 l = l[l.length - 1] := by
 have hn : l ≠ [] := List.ne_nil_of_length_pos h
 unfold ya9
 rw [List.getLastD_eq_getLast?, List.getLast?_eq_some_getLast hn, qbW, List.getLast_eq_getElem]
def ohd (a b c d e : Int) : List UInt8 := putB a ++ (putB b ++ (putB c ++ (putB d ++ putB e)))
def opk (s : List UInt8) : Bool := decide ((qB s).length < s.length)
def ohL (l : List Rc) : List UInt8 := ohd (rjB l).length l.length (yad l).1 (yad l).2.1 ((ya9 l).2.1 - (yad l).2.1)
def ygw (s : List UInt8) : List UInt8 := if opk s = true then qB s else s
def omode (s : List UInt8) : UInt8 := if opk s = true then 1 else 0
def oB (l : List Rc) : List UInt8 := omode (rjB l) :: (ohL l ++ ygw (rjB l))
def yaj (l : List Rc) : List UInt8 × Int := if l.length = 0 then ([], 2) else if (yas l).2 ≠ 0 then ([], (yas l).2) else (oB l, 0)
theorem obody_len (s : List UInt8) : (ygw s).length ≤ s.length := by
 unfold ygw opk
 by_cases h : (qB s).length < s.length
 ·rw [qah (qaP h)]
  omega
 ·rw [qag (by rw [qbv h]; decide)]
  exact qaf _
theorem dg_small : ∀ (k f n : Nat), n < 128 ^ (k + 1) → (dg f n).length ≤ k + 1
 | _, 0, n, _ => qbE _
 | 0, f + 1, n, h => by
  unfold dg
  rw [qah (by simpa using h)]
  exact qaf _
 | k + 1, f + 1, n, h => by
  unfold dg
  split
  ·simp
  ·have := dg_small k f (n / 128) (by rw [qbB (by omega)]; rwa [qaW] at h)
   rw [qau]
   omega
theorem yeB {n : Int} (k : Nat) (h : n < (128 ^ (k + 1) : Nat)) : (putB n).length ≤ k + 1 := by
 unfold putB
 by_cases h0 : n < 0
 ·rw [qah h0]
  exact qbE _
 ·rw [qag h0]
  exact dg_small k 9 n.toNat (by omega)
theorem ohd_len (a b c d e : Int) : (ohd a b c d e).length = (putB a).length + (putB b).length + (putB c).length + (putB d).length + (putB e).length := by
 unfold ohd
 simp only [qae]
 omega
def opl (s : List UInt8) : Nat → Int
 | 0 => 1
 | k + 1 => (getF s (opl s k)).2.1
def oer (s : List UInt8) (k : Nat) : Int := (getF s (opl s k)).2.2
def ono (s : List UInt8) (k : Nat) : Int := (getF s (opl s k)).1
def oflt (s : List UInt8) : Nat → Int
 | 0 => if s.length = 0 then 4 else 0
 | k + 1 => if oflt s k ≠ 0 then oflt s k else oer s k
abbrev OM := Int × Int × Int × Int × Int
def ygB : OM := (0, 0, 0, 0, 0)
def ook (s : List UInt8) : Bool := decide ((s.getD 0 0).toNat < 2 ∧ ono s 0 ≤ 20000 ∧ 1 ≤ ono s 1 ∧ ono s 1 ≤ ono s 0 ∧ 1 ≤ ono s 2 ∧ ono s 1 + ono s 2 ≤ 1000000001 ∧ ono s 3 + ono s 4 ≤ 1000000000)
def yaw (s : List UInt8) : OM × Int := if oflt s 5 ≠ 0 then (ygB, oflt s 5) else if ook s = true then ((ono s 0, ono s 1, ono s 2, ono s 3, ono s 3 + ono s 4), 0) else (ygB, 170)
def ydY (s : List UInt8) : List UInt8 × Int := if (s.getD 0 0).toNat = 1 then quF (s.drop (opl s 5).toNat) else (s.drop (opl s 5).toNat, 0)
def ofit (m : OM) (l : List Rc) : Bool := decide ((l.length : Int) = m.2.1 ∧ (yad l).1 = m.2.2.1 ∧ (yad l).2.1 = m.2.2.2.1 ∧ (ya9 l).2.1 = m.2.2.2.2)
def odec2 (m : OM) (t : List UInt8) : List Rc × Int :=
 if (t.length : Int) ≠ m.1 then ([], 5) else if (yae t).2 ≠ 0 then ([], (yae t).2) else if ofit m (yae t).1 = true then ((yae t).1, 0) else ([], 170)
def yak (s : List UInt8) : List Rc × Int := if (yaw s).2 ≠ 0 then ([], (yaw s).2) else if (ydY s).2 ≠ 0 then ([], (ydY s).2) else odec2 (yaw s).1 (ydY s).1
def yca (a b : List UInt8) : List UInt8 × Int := if (yak a).2 ≠ 0 then ([], (yak a).2) else if (yak b).2 ≠ 0 then ([], (yak b).2) else yaj ((yak a).1 ++ (yak b).1)
theorem oflt_le {s : List UInt8} {k : Nat} (h : oflt s (k + 1) = 0) : oflt s k = 0 ∧ oer s k = 0 := by
 change (if oflt s k ≠ 0 then oflt s k else oer s k) = 0 at h
 by_cases h1 : oflt s k ≠ 0
 ·rw [qah h1] at h
  exact absurd h h1
 ·rw [qag h1] at h
  exact ⟨qb2.1 h1, h⟩
theorem ydA {s : List UInt8} : ∀ {k : Nat}, oflt s k = 0 → 0 < s.length ∧ ∀ j, j < k → oer s j = 0
 | 0, h => by
  change (if s.length = 0 then 4 else 0) = (0 : Int) at h
  by_cases h1 : s.length = 0
  ·rw [qah h1] at h
   cases h
  ·exact ⟨by omega, fun j hj => by cases hj⟩
 | k + 1, h => by
  obtain ⟨h1, h2⟩ := oflt_le h
  obtain ⟨h3, h4⟩ := ydA h1
  refine ⟨h3, fun j hj => ?_⟩
  by_cases e : j = k
  ·subst e
   exact h2
  ·exact h4 j (by omega)
theorem ono_at {s : List UInt8} {k : Nat} (h : oer s k = 0) : 0 ≤ ono s k ∧ ono s k < 9223372036854775808 ∧ opl s k < opl s (k + 1) ∧ opl s (k + 1) ≤ s.length := by
 have := ygj h
 exact ⟨this.2.2.1, this.2.2.2.1, this.2.2.2.2.1, this.2.2.2.2.2.1⟩
theorem ohd_get (m : UInt8) (a b c d e : Int) (T : List UInt8) (ha : 0 ≤ a ∧ a < 9223372036854775808) (hb : 0 ≤ b ∧ b < 9223372036854775808) (hc : 0 ≤ c ∧ c < 9223372036854775808) (hd : 0 ≤ d ∧ d < 9223372036854775808) (he : 0 ≤ e ∧ e < 9223372036854775808) :
  oflt (m :: (ohd a b c d e ++ T)) 5 = 0 ∧ ono (m :: (ohd a b c d e ++ T)) 0 = a ∧ ono (m :: (ohd a b c d e ++ T)) 1 = b ∧ ono (m :: (ohd a b c d e ++ T)) 2 = c ∧ ono (m :: (ohd a b c d e ++ T)) 3 = d ∧ ono (m :: (ohd a b c d e ++ T)) 4 = e ∧ opl (m :: (ohd a b c d e ++ T)) 5 = 1 + ((ohd a b c d e).length : Int) := by
 obtain ⟨s, hs⟩ : ∃ s, m :: (ohd a b c d e ++ T) = s := ⟨_, rfl⟩
 have e0 : s = [m] ++ (putB a ++ (putB b ++ (putB c ++ (putB d ++ (putB e ++ T))))) := by rw [← hs]; simp [ohd]
 have e1 : s = ([m] ++ putB a) ++ (putB b ++ (putB c ++ (putB d ++ (putB e ++ T)))) := by rw [e0]; simp
 have e2 : s = ([m] ++ putB a ++ putB b) ++ (putB c ++ (putB d ++ (putB e ++ T))) := by rw [e0]; simp
 have e3 : s = ([m] ++ putB a ++ putB b ++ putB c) ++ (putB d ++ (putB e ++ T)) := by rw [e0]; simp
 have e4 : s = ([m] ++ putB a ++ putB b ++ putB c ++ putB d) ++ (putB e ++ T) := by rw [e0]; simp
 have g0 := ybW [m] (putB b ++ (putB c ++ (putB d ++ (putB e ++ T)))) a ha.1 ha.2 1 rfl
 rw [← e0] at g0
 have p1 : opl s 1 = (([m] ++ putB a).length : Int) := by
  show (getF s 1).2.1 = _
  rw [g0]
  simp
  omega
 have g1 := ybW ([m] ++ putB a) (putB c ++ (putB d ++ (putB e ++ T))) b hb.1 hb.2 _ p1
 rw [← e1] at g1
 have p2 : opl s 2 = (([m] ++ putB a ++ putB b).length : Int) := by
  show (getF s (opl s 1)).2.1 = _
  rw [g1]
  simp
  omega
 have g2 := ybW ([m] ++ putB a ++ putB b) (putB d ++ (putB e ++ T)) c hc.1 hc.2 _ p2
 rw [← e2] at g2
 have p3 : opl s 3 = (([m] ++ putB a ++ putB b ++ putB c).length : Int) := by
  show (getF s (opl s 2)).2.1 = _
  rw [g2]
  simp
  omega
 have g3 := ybW ([m] ++ putB a ++ putB b ++ putB c) (putB e ++ T) d hd.1 hd.2 _ p3
 rw [← e3] at g3
 have p4 : opl s 4 = (([m] ++ putB a ++ putB b ++ putB c ++ putB d).length : Int) := by
  show (getF s (opl s 3)).2.1 = _
  rw [g3]
  simp
  omega
 have g4 := ybW ([m] ++ putB a ++ putB b ++ putB c ++ putB d) T e he.1 he.2 _ p4
 rw [← e4] at g4
 have p5 : opl s 5 = 1 + ((ohd a b c d e).length : Int) := by
  show (getF s (opl s 4)).2.1 = _
  rw [g4, ohd_len]
  simp
  omega
 have hl : s.length ≠ 0 := by rw [← hs]; simp
 have r0 : oer s 0 = 0 := by show (getF s 1).2.2 = 0; rw [g0]
 have r1 : oer s 1 = 0 := by show (getF s (opl s 1)).2.2 = 0; rw [g1]
 have r2 : oer s 2 = 0 := by show (getF s (opl s 2)).2.2 = 0; rw [g2]
 have r3 : oer s 3 = 0 := by show (getF s (opl s 3)).2.2 = 0; rw [g3]
 have r4 : oer s 4 = 0 := by show (getF s (opl s 4)).2.2 = 0; rw [g4]
 rw [hs]
 refine ⟨?_, by show (getF s 1).1 = a; rw [g0], by show (getF s (opl s 1)).1 = b; rw [g1], by show (getF s (opl s 2)).1 = c; rw [g2], by show (getF s (opl s 3)).1 = d; rw [g3], by show (getF s (opl s 4)).1 = e; rw [g4], p5⟩
 simp [oflt, hl, r0, r1, r2, r3, r4]
theorem yfw {l : List Rc} (h0 : l.length ≠ 0) (h : (yas l).2 = 0) : yas l = (rjB l, 0) ∧ (rjB l).length ≤ 20000 ∧ yaz l = 0 ∧ l.length ≤ (rjB l).length ∧ 1 ≤ (yad l).1 ∧ (yad l).1 + l.length ≤ 1000000001 ∧ 0 ≤ (yad l).2.1 ∧ (yad l).2.1 ≤ (ya9 l).2.1 ∧ (ya9 l).2.1 ≤ 1000000000 := by
 obtain ⟨_, h2, h3⟩ := rback h
 have hr : yaz l = 0 := by
  unfold yas at h
  by_cases h1 : yaz l ≠ 0
  ·rw [qah h1] at h
   exact absurd h h1
  ·exact qb2.1 h1
 have hm := ydt hr
 have hp : 0 < l.length := by omega
 have k0 := (ybc _).1 (hm _ (qaq hp))
 have k1 := (ybc _).1 (hm _ (qaq (by omega : l.length - 1 < l.length)))
 have k2 := orow hr (l.length - 1) (by omega)
 rw [← ygP hp] at k0
 rw [← olast_at hp] at k1 k2
 refine ⟨h2, h3, hr, rjB_count hm, by omega, by omega, by omega, by omega, by omega⟩
theorem yeO {l : List Rc} (h : (yaj l).2 = 0) : l.length ≠ 0 ∧ (yas l).2 = 0 ∧ yaj l = (oB l, 0) := by
 unfold yaj at h ⊢
 by_cases h0 : l.length = 0
 ·rw [qah h0] at h
  cases h
 rw [qag h0] at h ⊢
 by_cases h1 : (yas l).2 ≠ 0
 ·rw [qah h1] at h
  exact absurd h h1
 ·rw [qag h1]
  exact ⟨h0, qb2.1 h1, rfl⟩
theorem oenc_none {l : List Rc} (h : (yaj l).2 ≠ 0) : (yaj l).1 = [] := by
 unfold yaj at h ⊢
 by_cases h0 : l.length = 0
 ·rw [qah h0]
 rw [qag h0] at h ⊢
 by_cases h1 : (yas l).2 ≠ 0
 ·rw [qah h1]
 ·rw [qag h1] at h
  exact absurd rfl h
theorem omode_one (s : List UInt8) : (omode s).toNat = if opk s = true then 1 else 0 := by
 unfold omode
 split <;> rfl
theorem oback {l : List Rc} (h : (yaj l).2 = 0) : yaw (yaj l).1 = ((((rjB l).length : Int), (l.length : Int), (yad l).1, (yad l).2.1, (ya9 l).2.1), 0) ∧ yak (yaj l).1 = (l, 0) := by
 obtain ⟨h0, h1, h2⟩ := yeO h
 obtain ⟨j1, j2, j3, j4, j5, j6, j7, j8, j9⟩ := yfw h0 h1
 rw [h2]
 dsimp only
 have hg := ohd_get (omode (rjB l)) (rjB l).length l.length (yad l).1 (yad l).2.1 ((ya9 l).2.1 - (yad l).2.1) (ygw (rjB l)) (by omega) (by omega) (by omega) (by omega) (by omega)
 have eB : oB l = omode (rjB l) :: (ohd (rjB l).length l.length (yad l).1 (yad l).2.1 ((ya9 l).2.1 - (yad l).2.1) ++ ygw (rjB l)) := rfl
 rw [← eB] at hg
 obtain ⟨g0, g1, g2, g3, g4, g5, g6⟩ := hg
 have hb0 : (oB l).getD 0 0 = omode (rjB l) := rfl
 have hm := omode_one (rjB l)
 have hok : ook (oB l) = true := by
  unfold ook
  rw [hb0, hm, g1, g2, g3, g4, g5]
  refine qaP ⟨?_, by omega, by omega, by omega, by omega, by omega, by omega⟩
  split <;> omega
 have hp : yaw (oB l) = ((((rjB l).length : Int), (l.length : Int), (yad l).1, (yad l).2.1, (ya9 l).2.1), 0) := by
  unfold yaw
  rw [qag (fun h => h g0), qah hok, g1, g2, g3, g4, g5]
  simp only [qb3, and_true, true_and]
  omega
 refine ⟨hp, ?_⟩
 have hd : (oB l).drop (opl (oB l) 5).toNat = ygw (rjB l) := by
  rw [g6, show (1 + ((ohd (rjB l).length l.length (yad l).1 (yad l).2.1 ((ya9 l).2.1 - (yad l).2.1)).length : Int)).toNat = (ohd (rjB l).length l.length (yad l).1 (yad l).2.1 ((ya9 l).2.1 - (yad l).2.1)).length + 1 from by omega, eB, qbn]
  exact List.drop_left
 have hraw : ydY (oB l) = (rjB l, 0) := by
  unfold ydY
  rw [hb0, hm, hd]
  unfold ygw
  by_cases hk : opk (rjB l) = true
  ·rw [qah hk, qah hk, qah rfl, qback _ j2]
  ·rw [qag hk, qag hk, qag (by decide)]
 unfold yak
 rw [hp, hraw]
 dsimp only
 rw [qag (fun h => h rfl), qag (fun h => h rfl)]
 have hs : yae (rjB l) = (l, 0) := by
  have := (rback h1).1
  rwa [j1] at this
 unfold odec2
 rw [qag (fun h => h rfl), hs]
 dsimp only
 rw [qag (fun h => h rfl), qah]
 unfold ofit
 exact qaP ⟨rfl, rfl, rfl, rfl⟩
theorem ygp {l : List Rc} (h : (yaj l).2 = 0) : (yaj l).1.length ≤ (rjB l).length + 26 ∧ (yaj l).1.length ≤ 60000 := by
 obtain ⟨h0, h1, h2⟩ := yeO h
 obtain ⟨j1, j2, j3, j4, j5, j6, j7, j8, j9⟩ := yfw h0 h1
 have l1 := yeB (n := (rjB l).length) 2 (by simp; omega)
 have l2 := yeB (n := l.length) 2 (by simp; omega)
 have l3 := yeB (n := (yad l).1) 4 (by simp; omega)
 have l4 := yeB (n := (yad l).2.1) 4 (by simp; omega)
 have l5 := yeB (n := (ya9 l).2.1 - (yad l).2.1) 4 (by simp; omega)
 have lb := obody_len (rjB l)
 have e : (oB l).length = (ohL l).length + (ygw (rjB l)).length + 1 := by unfold oB; rw [qau, qae]
 rw [h2]
 dsimp only
 rw [e]
 unfold ohL
 rw [ohd_len]
 omega
theorem oagain {s : List UInt8} (h : (yak s).2 = 0) : (yak s).1.length ≠ 0 ∧ (yaj (yak s).1).2 = 0 := by
 unfold yak at h ⊢
 by_cases h1 : (yaw s).2 ≠ 0
 ·rw [qah h1] at h
  exact absurd h h1
 rw [qag h1] at h ⊢
 by_cases h2 : (ydY s).2 ≠ 0
 ·rw [qah h2] at h
  exact absurd h h2
 rw [qag h2] at h ⊢
 have hp : yaw s = ((ono s 0, ono s 1, ono s 2, ono s 3, ono s 3 + ono s 4), 0) ∧ 1 ≤ ono s 1 := by
  unfold yaw at h1 ⊢
  by_cases h3 : oflt s 5 ≠ 0
  ·rw [qah h3] at h1
   exact absurd h3 (fun h => h1 h)
  rw [qag h3] at h1 ⊢
  by_cases h4 : ook s = true
  ·rw [qah h4]
   exact ⟨rfl, (qbo h4).2.2.1⟩
  ·rw [qag h4] at h1
   exact absurd (fun h => by cases h) h1
 rw [hp.1] at h ⊢
 generalize (ydY s).1 = t at *
 unfold odec2 at h ⊢
 by_cases h5 : (t.length : Int) ≠ ono s 0
 ·rw [qah h5] at h
  cases h
 rw [qag h5] at h ⊢
 by_cases h6 : (yae t).2 ≠ 0
 ·rw [qah h6] at h
  exact absurd h h6
 rw [qag h6] at h ⊢
 by_cases h7 : ofit (ono s 0, ono s 1, ono s 2, ono s 3, ono s 3 + ono s 4) (yae t).1 = true
 ·rw [qah h7]
  have h8 := qbo h7
  dsimp only at h8
  have h9 : (yae t).1.length ≠ 0 := by omega
  refine ⟨h9, ?_⟩
  unfold yaj
  rw [qag h9, qag]
  rw [rforth (qb2.1 h6)]
  exact fun h => h rfl
 ·rw [qag h7] at h
  cases h
theorem odec_none {s : List UInt8} (h : (yak s).2 ≠ 0) : (yak s).1 = [] := by
 unfold yak at h ⊢
 by_cases h1 : (yaw s).2 ≠ 0
 ·rw [qah h1]
 rw [qag h1] at h ⊢
 by_cases h2 : (ydY s).2 ≠ 0
 ·rw [qah h2]
 rw [qag h2] at h ⊢
 unfold odec2 at h ⊢
 by_cases h5 : ((ydY s).1.length : Int) ≠ (yaw s).1.1
 ·rw [qah h5]
 rw [qag h5] at h ⊢
 by_cases h6 : (yae (ydY s).1).2 ≠ 0
 ·rw [qah h6]
 rw [qag h6] at h ⊢
 by_cases h7 : ofit (yaw s).1 (yae (ydY s).1).1 = true
 ·rw [qah h7] at h
  exact absurd rfl h
 ·rw [qag h7]
theorem omerge {a b : List Rc} (ha : (yaj a).2 = 0) (hb : (yaj b).2 = 0) : yca (yaj a).1 (yaj b).1 = yaj (a ++ b) := by
 unfold yca
 rw [(oback ha).2, (oback hb).2, qag (fun h => h rfl), qag (fun h => h rfl)]
theorem opart {a b : List Rc} (hr : yaz (a ++ b) = 0) (ha : a.length ≠ 0) (hb : b.length ≠ 0) :
  ((yaj a).2 ≠ 0 → (yaj (a ++ b)).2 = 3) ∧ ((yaj b).2 ≠ 0 → (yaj (a ++ b)).2 = 3) ∧ ((yaj (a ++ b)).2 = 0 ∨ (yaj (a ++ b)).2 = 3) := by
 obtain ⟨r1, r2⟩ := rrow_part hr
 have big : ∀ {l : List Rc}, yaz l = 0 → l.length ≠ 0 → (yaj l).2 = if 20000 < (rjB l).length then 3 else 0 := fun {l} h0 h1 => by
  have ej : yas l = if 20000 < (rjB l).length then ([], 3) else (rjB l, 0) := by unfold yas; rw [qag (fun h => h h0)]
  unfold yaj
  rw [qag h1, ej]
  by_cases h2 : 20000 < (rjB l).length
  ·rw [qah h2, qah h2, qah (by decide)]
  ·rw [qag h2, qag h2, qag (fun h => h rfl)]
 have hl : (a ++ b).length ≠ 0 := by rw [qae]; omega
 rw [big r1 ha, big r2 hb, big hr hl, rjB_app, qae]
 refine ⟨fun h => ?_, fun h => ?_, ?_⟩
 ·by_cases h2 : 20000 < (rjB a).length
  ·rw [qah (by omega)]
  ·rw [qag h2] at h
   exact absurd rfl h
 ·by_cases h2 : 20000 < (rjB b).length
  ·rw [qah (by omega)]
  ·rw [qag h2] at h
   exact absurd rfl h
 ·by_cases h2 : 20000 < (rjB a).length + (rjB b).length
  ·rw [qah h2]
   exact qaK rfl
  ·rw [qag h2]
   exact qas rfl
def rcs (l : List Rc) : List Value := l.flatMap fun r => [.int .i64 r.1, .int .i64 r.2.1, .string ⟨r.2.2.toArray⟩]
theorem yfA (r : Rc) (l : List Rc) : rcs (r :: l) = .int .i64 r.1 :: .int .i64 r.2.1 :: .string ⟨r.2.2.toArray⟩ :: rcs l := rfl
theorem yeR (l : List Rc) : (rcs l).length = l.length * 3 := by
 induction l with
 | nil => rfl
 | cons r l ih => rw [yfA]; simp [ih]; omega
theorem rcs_app (a b : List Rc) : rcs (a ++ b) = rcs a ++ rcs b := by simp [rcs]
theorem rcs_at (l : List Rc) : ∀ (i : Nat) (h : i < l.length), (rcs l)[i * 3]? = some (.int .i64 l[i].1) ∧ (rcs l)[i * 3 + 1]? = some (.int .i64 l[i].2.1) ∧ (rcs l)[i * 3 + 2]? = some (.string ⟨l[i].2.2.toArray⟩) := by
 induction l with
 | nil => intro i h; cases h
 | cons r l ih =>
  intro i h
  cases i with
  | zero => exact ⟨rfl, rfl, rfl⟩
  | succ i =>
   rw [yfA, show (i + 1) * 3 = i * 3 + 1 + 1 + 1 from by omega]
   simpa using ih i (by simpa using h)
theorem yev : ∀ (l : List Rc) (i : Nat), (rcs l).drop (i * 3) = rcs (l.drop i)
 | l, 0 => by simp
 | [], i + 1 => by simp [rcs]
 | r :: l, i + 1 => by
  rw [yfA, show (i + 1) * 3 = i * 3 + 1 + 1 + 1 from by omega]
  simpa using yev l i
theorem yby {w : World} {B n : Nat} {A : Option Addr} {l : List Rc} (hr : Reads w B 3 A n (rcs l)) (hl : l.length = n) (k : Nat) (hk : k < n) :
  ∃ b off, A = some ⟨b, off, none⟩ ∧ b < B ∧ ∀ i (hi : i < l.length), w.cell? ⟨b, off + i * 3, none⟩ = some (.int .i64 l[i].1) ∧ w.cell? ⟨b, off + i * 3 + 1, none⟩ = some (.int .i64 l[i].2.1) ∧ w.cell? ⟨b, off + i * 3 + 2, none⟩ = some (.string ⟨l[i].2.2.toArray⟩) := by
 obtain ⟨b, off, e, hb, hc⟩ := hr.2 (by omega)
 refine ⟨b, off, e, hb, fun i hi => ?_⟩
 obtain ⟨h0, h1, h2⟩ := rcs_at l i hi
 exact ⟨hc _ _ h0, hc _ _ h1, hc _ _ h2⟩
section
variable {H : Type} {enc : TypeId × Value → H} {P : Program} {w : World} {base : Nat} {spare : Nat → Bool} {held : Bool}
theorem yg9 {b0 : Nat} {t e : TypeId} {f0 f1 f2 : Field} {v : Value} {d : DataW H} {p : List MemPlace} (ht : P.underlying t = some (.slice e)) (he : P.underlying e = some (.struct #[f0, f1, f2])) (hone : oneCellFields P #[f0, f1, f2] = true) (ce : P.cellsOf e = 3)
  (h0 : P.underlying f0.type = some (.int .i64)) (h1 : P.underlying f1.type = some (.int .i64)) (h2 : P.underlying f2.type = some .string) (hv : Value.okWide P w .any b0 t v) (h : DataW.Trod enc P w base spare held t v d p) :
  ∃ (A : Option Addr) (n c : Nat) (l : List Rc), v = .slice A n c ∧ l.length = n ∧ n ≤ c ∧ c ≤ maxLen ∧ Reads w w.heap.size 3 A n (rcs l) ∧ ∀ r ∈ l, r.1 < 9223372036854775808 ∧ r.2.1 < 9223372036854775808 := by
 obtain ⟨A, n, c, rfl⟩ := okWide_slice ht hv
 obtain ⟨fuel, hf⟩ := h
 rcases open_slice ht hf with ⟨hcs, _⟩ | ⟨a, len, cap, m, q, D, Pl, hcs, _, hl, hm, hmm, _, hx⟩
 ·simp [Value.cells] at hcs
  obtain ⟨rfl, rfl, rfl⟩ := hcs
  exact ⟨none, 0, 0, [], rfl, rfl, qaf _, qbE _, Reads.none_, by simp⟩
 ·simp [Value.cells] at hcs
  obtain ⟨rfl, rfl, rfl⟩ := hcs
  obtain ⟨o0, c0⟩ := hone_of hone 0 f0 rfl
  obtain ⟨o1, c1⟩ := hone_of hone 1 f1 rfl
  obtain ⟨o2, c2⟩ := hone_of hone 2 f2 rfl
  have each : ∀ i, i < n → ∃ r : Rc, (w.cell? (a.add (i * 3)) = some (.int .i64 r.1) ∧ w.cell? (a.add (i * 3 + 1)) = some (.int .i64 r.2.1) ∧ w.cell? (a.add (i * 3 + 2)) = some (.string ⟨r.2.2.toArray⟩)) ∧ r.1 < 9223372036854775808 ∧ r.2.1 < 9223372036854775808 := fun i hi => by
   obtain ⟨cs, g, ht2⟩ := hx i (by rw [hmm]; split <;> omega)
   obtain ⟨y0, y1, y2, m2, -, hlen, k0, k1, k2⟩ := trod_struct3 he ht2
   rw [ce] at g hlen
   obtain ⟨-, -, hc⟩ := World.cells?_some g
   match cs, hlen with
   | [u0, u1, u2], _ =>
    simp [o0, c0] at k0
    simp [o1, c1] at k1
    simp [o2, c2] at k2
    obtain ⟨x, e0, _, wx⟩ := DataW.trod_int h0 k0
    obtain ⟨y, e1, _, wy⟩ := DataW.trod_int h1 k1
    obtain ⟨s, e2, _, _⟩ := DataW.trod_string h2 k2
    simp at e0 e1 e2
    subst e0 e1 e2
    have q0 := hc 0 (by omega)
    have q1 := hc 1 (by omega)
    have q2 := hc 2 (by omega)
    rw [add_of_add] at q0 q1 q2
    refine ⟨(x, y, s.data.toList), ⟨by simpa using q0, by simpa using q1, ?_⟩, ?_, ?_⟩
    ·rw [← ba_list]
     simpa using q2
    ·exact Int.lt_of_le_of_lt (bounds_i64 wx).2 (by decide)
    ·exact Int.lt_of_le_of_lt (bounds_i64 wy).2 (by decide)
  obtain ⟨f, hf2⟩ := choose_lt each
  refine ⟨some a, n, c, (List.range n).map f, rfl, by simp, hl, hm, ⟨by rw [yeR]; simp, fun hn => ?_⟩, fun r hr => ?_⟩
  ·have h3 := (hf2 0 hn).1.1
   have hlt0 := cell_lt h3
   have hsp0 : a.spot = none := by simpa [Addr.add] using World.cell?_spot h3
   obtain ⟨b, off, sp⟩ := a
   simp only at hsp0
   subst hsp0
   refine ⟨b, off, rfl, by simpa [block_of_add] using hlt0, fun j u hu => ?_⟩
   rw [← yco]
   have hj : j < n * 3 := by
    have := (qcj.1 hu).1
    rw [yeR] at this
    simpa using this
   obtain ⟨i, hi, hj2⟩ : ∃ i, i < n ∧ (j = i * 3 ∨ j = i * 3 + 1 ∨ j = i * 3 + 2) := ⟨j / 3, by omega, by omega⟩
   obtain ⟨g0, g1, g2⟩ := rcs_at ((List.range n).map f) i (by simp; omega)
   have hfi := (hf2 i hi).1
   rcases hj2 with rfl | rfl | rfl
   ·rw [g0] at hu
    injection hu with hu
    subst hu
    simpa using hfi.1
   ·rw [g1] at hu
    injection hu with hu
    subst hu
    simpa using hfi.2.1
   ·rw [g2] at hu
    injection hu with hu
    subst hu
    simpa using hfi.2.2
  ·obtain ⟨i, hi, rfl⟩ := qbI.1 hr
   exact (hf2 i (qaU.1 hi)).2
end
theorem wcount_or {p q : Nat → Bool} : ∀ l : List Nat, (∀ k ∈ l, ¬ (p k = true ∧ q k = true)) → l.countP (fun k => p k || q k) = l.countP p + l.countP q
 | [], _ => rfl
 | a :: l, h => by
  have ih := wcount_or l fun k hk => h k (qa3 _ hk)
  have ha := h a (qa4 ..)
  rw [qbG, qbG, qbG, ih]
  cases h1 : p a <;> cases h2 : q a <;> simp_all <;> omega
theorem ygZ (c : List Int) (f : Int → Bool) : (List.range c.length).countP (fun j => f (c.getD j 0)) = c.countP f := by
 have e : (List.range c.length).map (fun j => c.getD j 0) = c := by
  apply qbg
  ·simp
  ·intro i h1 h2
   simp [h2]
 have h := List.countP_map (p := f) (f := fun j => c.getD j 0) (l := List.range c.length)
 rw [e] at h
 exact h.symm
theorem wcount_take (c : List Int) (f : Int → Bool) (k : Nat) (hk : k ≤ c.length) : (List.range c.length).countP (fun j => f (c.getD j 0) && decide (j < k)) = (c.take k).countP f := by
 have e : List.range c.length = List.range k ++ (List.range (c.length - k)).map (k + ·) := by
  rw [← List.range_add]
  congr 1
  omega
 rw [e, qbK]
 have h2 : ((List.range (c.length - k)).map (k + ·)).countP (fun j => f (c.getD j 0) && decide (j < k)) = 0 := by
  rw [qc5]
  intro j hj
  obtain ⟨i, _, rfl⟩ := qbI.1 hj
  simp
 rw [h2, qb0]
 have h3 : (List.range k).countP (fun j => f (c.getD j 0) && decide (j < k)) = (List.range k).countP (fun j => f ((c.take k).getD j 0)) := by
  refine List.countP_congr fun j hj => ?_
  rw [qaU] at hj
  have : (c.take k).getD j 0 = c.getD j 0 := by
   rw [qar, qar, List.getElem?_take, qah hj]
  rw [this, qaP hj, Bool.and_true]
 have hl : (c.take k).length = k := by rw [qao]; omega
 rw [h3]
 have := ygZ (c.take k) f
 rw [hl] at this
 exact this
theorem ycU (l : List UInt8) (f : Int → Bool) : (bbs l).countP f = l.countP fun b => f (b.toNat : Int) := by
 unfold bbs
 rw [List.countP_map]
 rfl
theorem bbs_take (l : List UInt8) (k : Nat) : (bbs l).take k = bbs (l.take k) := by simp [bbs]
def yaO (l : List UInt8) (b : Nat) : Nat := l.countP fun x => decide (x.toNat < b)
def ybT (l : List UInt8) (b i : Nat) : Nat := (l.take i).countP fun x => decide (x.toNat = b)
theorem brk_is (l : List UInt8) (r k i : Nat) (h : r ≤ l.length) (hk : k < l.length + 1) (hi : i < l.length) (hki : (k < r ∧ i = k) ∨ (r < k ∧ i + 1 = k)) : brk (bcol l r) k = yaO l l[i].toNat + ybT l l[i].toNat i + 1 := by
 have hc := ybx l r h
 have hv : (bcol l r).getD k 0 = (l[i].toNat : Int) := by
  rcases hki with ⟨h1, rfl⟩ | ⟨h1, h2⟩
  ·rw [yfM l r i h h1, qar, qaj hi]
   rfl
  ·rw [yel l r k h h1 hk, qar, show k - 1 = i from by omega, qaj hi]
   rfl
 generalize hb : l[i].toNat = b at *
 have h1 : brk (bcol l r) k = (List.range (bcol l r).length).countP (fun j => decide ((bcol l r).getD j 0 < (b : Int)) || (decide ((bcol l r).getD j 0 = (b : Int)) && decide (j < k))) := by
  unfold brk klt
  rw [hv]
 rw [h1, wcount_or _ fun j _ hj => by
  have e1 := qbo hj.1
  have e2 := qbo (Bool.and_eq_true_iff.1 hj.2).1
  omega]
 rw [ygZ (bcol l r) (fun x => decide (x < (b : Int))), wcount_take (bcol l r) (fun x => decide (x = (b : Int))) k (by omega)]
 have h2 : (bcol l r).countP (fun x => decide (x < (b : Int))) = yaO l b + 1 := by
  unfold bcol yaO
  rw [qbK, qbG, ycU, ycU, qah (by rw [qaR]; omega)]
  have := qbK (p := fun x : UInt8 => decide ((x.toNat : Int) < (b : Int))) (l₁ := l.take r) (l₂ := l.drop r)
  rw [qax] at this
  have e : l.countP (fun x => decide ((x.toNat : Int) < (b : Int))) = l.countP (fun x => decide (x.toNat < b)) := List.countP_congr fun x _ => by rw [qaR, qaR]; omega
  omega
 have h3 : ((bcol l r).take k).countP (fun x => decide (x = (b : Int))) = ybT l b i := by
  have e : ∀ m : List UInt8, m.countP (fun x => decide ((x.toNat : Int) = (b : Int))) = m.countP (fun x => decide (x.toNat = b)) := fun m => List.countP_congr fun x _ => by rw [qaR, qaR]; omega
  unfold bcol ybT
  rcases hki with ⟨h4, rfl⟩ | ⟨h4, h5⟩
  ·rw [qbk (by rw [ydC, qao]; omega), bbs_take, ycU, e, List.take_take, qbi (by omega)]
  ·have h6 : (bbs (l.take r)).length = r := by rw [ydC, qao]; omega
   obtain ⟨m, hm⟩ : ∃ m, k - r = m + 1 := ⟨k - r - 1, by omega⟩
   rw [List.take_append, h6, hm, qa5 (by omega), qaJ, qbK, qbG, qag (by rw [qaR]; omega), bbs_take, ycU, ycU, e, e, qb0]
   have e2 : l.take i = l.take r ++ (l.drop r).take m := by
    rw [← qco]
    congr 1
    omega
   rw [e2, qbK]
 omega
theorem yeA : (prog.info? 3).map (fun i => (i.zero, i.size, i.bytes)) = some (some (.int .i64 0), 1, 8) := by kernel_rfl
theorem ye0 (fn : Fn) (first cap : Array Value) (w : World) : (Instr.makeFunc fn first cap).run prog w = .ok (.func fn first cap) w := rfl
def zin (top n : Int) : Bool := decide (0 ≤ n) && decide (n ≤ top)
theorem ybP (top n : Int) : zin top n = true ↔ 0 ≤ n ∧ n ≤ top := by simp [zin]
theorem zin_no (top n : Int) (h : ¬(0 ≤ n ∧ n ≤ top)) : zin top n = false := by
 cases h2 : zin top n with
 | false => rfl
 | true => exact absurd ((ybP top n).1 h2) h
theorem yc7 (n top : Int) (w : World) : Calls prog 120 #[.int .i64 n, .int .i64 top] w fun e w' => e = .returned (.bool (zin top n)) ∧ w' = w := by
 by_cases h0 : 0 ≤ n
 ·by_cases h1 : n ≤ top
  ·have fin : zin top n = true := (ybP _ _).2 ⟨h0, h1⟩
   rw [fin]
   clear fin
   go_enter func120, ntmps120
   go_wp2
   go_ret
   exact ⟨rfl, rfl⟩
  ·have fin : zin top n = false := zin_no _ _ fun h => h1 h.2
   rw [fin]
   clear fin
   go_enter func120, ntmps120
   go_wp2
   go_ret
   exact ⟨rfl, rfl⟩
 ·have fin : zin top n = false := zin_no _ _ fun h => h0 h.1
  rw [fin]
  clear fin
  go_enter func120, ntmps120
  go_wp2
  go_ret
  exact ⟨rfl, rfl⟩
theorem zr_not_any (n top : Int) (pb : Nat) (w : World) (hP : Blk w pb 3 #[.int .i64 top]) : Calls prog 119 #[.int .i64 n, .pointer (some ⟨pb, 0, none⟩)] w fun e w' => e = .returned (.bool (!zin top n)) ∧ w' = w := by
 have c1 : w.cell? ⟨pb, 0, none⟩ = some (.int .i64 top) := hP.cell 0
 clear hP
 go_enter func119, ntmps119
 go_wp2_with (go_at_call 120; refine (yc7 n top _).mono ?_; rintro e w1 ⟨rfl, rfl⟩)
 go_ret
 exact ⟨rfl, rfl⟩
theorem zr_index_any (l : List Int) (top : Int) (A : Option Addr) (n c pb : Nat) (w : World) (hm : n ≤ 4611686018427387904) (hr : Reads w w.heap.size 1 A n (ints l)) (hP : Blk w pb 3 #[.int .i64 top]) :
  Calls prog 164 #[.slice A n c, .func (.func 119) #[] #[.pointer (some ⟨pb, 0, none⟩)]] w fun e w' => ∃ r : Int, e = .returned (.int .i64 r) ∧ (decide (0 ≤ r)) = !ya5 top l ∧ w' = w := by
 have en : l.length = n := by have := hr.1; rw [yac] at this; omega
 have Hcell : Hid (0 < n → ∃ b off, A = some ⟨b, off, none⟩ ∧ ∀ k, (hk : k < l.length) → w.cell? ⟨b, off + k, none⟩ = some (.int .i64 l[k])) := qaa fun h => by
  obtain ⟨b, off, e, hb, hc⟩ := hr.2 h
  exact ⟨b, off, e, fun k hk => hc k _ (yao l k hk)⟩
 have Hcl := qaa fun n => zr_not_any n top pb w hP
 have Hbad : Hid (∀ k (hk : k < l.length), zin top l[k] = false → ya5 top l = false) := qaa fun k hk h => zgood_bad k hk fun h2 => by rw [(ybP _ _).2 h2] at h; cases h
 have Hgood : Hid ((∀ k (hk : k < l.length), zin top l[k] = true) → ya5 top l = true) := qaa fun h => yef fun k hk => (ybP _ _).1 (h k hk)
 have En := qaa en
 clear hr hP en
 go_enter func164, ntmps164
 go_wp2
 go_loop [8] (fun i => ∃ k : Nat, k ≤ n ∧ i = .int .i64 k ∧ Hid (∀ j (hj : j < l.length), j < k → zin top l[j] = true)) (fun i => n - (intOf i).toNat)
 case atStart => exact ⟨0, by omega, rfl, fun j _ h => by omega⟩
 case round =>
  obtain ⟨k, hk, rfl, Hk⟩ := hrel
  by_cases hlt : k < n
  ·have hkl : k < l.length := by rw [En.out]; exact hlt
   obtain ⟨b, off, rfl, hc⟩ := Hcell.out (by omega)
   have hcell := hc k hkl
   have hki : (0 : Int) ≤ (k : Int) ∧ (k : Int) < n := by omega
   have Hc2 := qaa (Hcl.out l[k])
   clear hc
   cases hz : zin top l[k] with
   | true =>
    have Hn : Hid (∀ j (hj : j < l.length), j < k + 1 → zin top l[j] = true) := qaa fun j hj h => by
     rcases qbz j k with h1 | h1
     ·exact Hk.out j hj h1
     ·obtain rfl : j = k := by omega
      exact hz
    rw [hz] at Hc2
    clear hz Hbad Hgood
    generalize l[k] = x at *
    go_wp2_with (go_at_call 119; refine Hc2.out.mono ?_; rintro e w1 ⟨rfl, rfl⟩)
    go_round
    case rel => exact ⟨k + 1, by omega, iv (by omega), Hn.out⟩
    case measure => simp only [intOf]; omega
   | false =>
    have Hf := qaa (Hbad.out k hkl hz)
    rw [hz] at Hc2
    clear hz Hbad Hgood
    generalize l[k] = x at *
    go_wp2_with (go_at_call 119; refine Hc2.out.mono ?_; rintro e w1 ⟨rfl, rfl⟩)
    go_ret
    exact ⟨_, rfl, by rw [Hf.out]; simp, rfl⟩
  ·obtain rfl : k = n := by omega
   have Hg := qaa (Hgood.out fun j hj => Hk.out j hj (by have := En.out; omega))
   clear Hbad Hgood
   go_wp2
   go_ret
   exact ⟨_, rfl, by rw [Hg.out]; rfl, rfl⟩
theorem ygv (l : List Int) (top : Int) (A : Option Addr) (n c pb : Nat) (w : World) (hm : n ≤ 4611686018427387904) (hr : Reads w w.heap.size 1 A n (ints l)) (hP : Blk w pb 3 #[.int .i64 top]) :
  Calls prog 118 #[.slice A n c, .func (.func 119) #[] #[.pointer (some ⟨pb, 0, none⟩)]] w fun e w' => e = .returned (.bool (!ya5 top l)) ∧ w' = w := by
 have Hi := qaa (zr_index_any l top A n c pb w hm hr hP)
 clear hr hP
 generalize ya5 top l = g at *
 go_enter func118, ntmps118
 go_wp2_with (go_at_call 164; refine Hi.out.mono ?_; rintro e w1 ⟨r, rfl, hd, rfl⟩; have Hd := qaa hd; clear hd)
 go_ret
 exact ⟨by rw [← Hd.out]; rfl, rfl⟩
theorem zr_all_any (l : List Int) (top : Int) (A : Option Addr) (n c : Nat) (w : World) (hm : n ≤ 4611686018427387904) (hr : Reads w w.heap.size 1 A n (ints l)) :
  Calls prog 69 #[.slice A n c, .int .i64 top] w fun e w' => e = .returned (.bool (ya5 top l)) ∧ Below w.heap.size w w' := by
 have hmf := ye0
 have hb : Below w.heap.size w (w.alloc (.cells #[.int .i64 top] 3)) := (qam _ _).alloc (qaf _) _
 have Hc := qaa (ygv l top A n c w.heap.size (w.alloc (.cells #[.int .i64 top] 3)) hm ((hr.below hb).more hb.size) (Blk.new w _ _))
 have Hb := qaa hb
 clear hr hb
 generalize ya5 top l = g at *
 go_enter func69, ntmps69
 go_wp2_with (go_at_call 118; refine Hc.out.mono ?_; rintro e w1 ⟨rfl, rfl⟩)
 go_ret
 exact ⟨by cases g <;> rfl, Hb.out⟩
def ycH (n : Int) : List Int := (zd n.toNat).map (· + 1)
theorem zdigF_len (n : Int) (h : n < 9223372036854775808) : (ycH n).length ≤ 63 := by
 unfold ycH
 rw [qaM, zd_log]
 exact zlog_lt 63 _ (by simp; omega)
theorem zr_digits_any (n : Int) (hn : n < 9223372036854775808) (w : World) :
  Calls prog 73 #[.int .i64 n] w fun e w' => ∃ A c, e = .returned (.slice A (ycH n).length c) ∧ (ycH n).length ≤ c ∧ w'.ownsRow w.heap.size 3 1 (.slice A (ycH n).length c) (ycH n).length (ints (ycH n)) ∧ Below w.heap.size w w' := by
 obtain ⟨i0, hi, hz0, hz1, hz2⟩ := qb4 yeA
 have hl63 := zdigF_len n hn
 by_cases h0 : n ≤ 0
 ·have e0 : ycH n = [] := by unfold ycH; rw [show n.toNat = 0 from by omega, yb5]; rfl
  rw [e0]
  clear e0 hl63
  go_enter func73, ntmps73
  go_wp2
  go_loopw [0, 3] (fun i v wr => i = .int .i64 n ∧ v = .slice none 0 0 ∧ wr = w) (fun _ _ _ => 0)
  case atStart => exact ⟨rfl, rfl, rfl⟩
  case round =>
   obtain ⟨rfl, rfl, rfl⟩ := hrel
   go_wp2
   go_ret
   exact ⟨none, 0, rfl, qaf _, qbS _ _ _ _, qam _ _⟩
 ·obtain ⟨N, rfl⟩ : ∃ N : Nat, n = N := ⟨n.toNat, by omega⟩
  have hD : ycH (N : Int) = (zd N).map (· + 1) := by unfold ycH; rw [qav]
  have Hstart : Hid ([] ++ (zd N).map (· + 1) = ycH (N : Int)) := qaa (by rw [hD]; rfl)
  clear hD h0
  generalize ycH (N : Int) = D at *
  go_enter func73, ntmps73
  go_wp2
  go_loopw [0, 3] (fun i v wr => ∃ (m : Nat) (acc : List Int), i = .int .i64 m ∧ (m : Int) < 9223372036854775808 ∧ Hid (acc ++ (zd m).map (· + 1) = D) ∧ Hid (wr.ownsRow w.heap.size 3 1 v acc.length (ints acc)) ∧ Hid (Below w.heap.size w wr)) (fun i _ _ => (intOf i).toNat)
  case atStart => exact ⟨N, [], rfl, hn, Hstart.out, qbS _ _ _ _, qam _ _⟩
  case round =>
   obtain ⟨m, acc, rfl, hm, Hacc, Hown, Hb⟩ := hrel
   cases m with
   | zero =>
    have hf := Hacc.out
    rw [yb5] at hf
    simp at hf
    subst hf
    obtain ⟨A2, c2, rfl, hc2, hr2⟩ := yag Hown.out
    go_wp2
    go_ret
    exact ⟨A2, c2, rfl, hc2, Hown.out, Hb.out⟩
   | succ p =>
    have hf := Hacc.out
    rw [zd_pos _ (by omega), show p + 1 - 1 = p from by omega, qcr] at hf
    have hle : acc.length ≤ 62 := by
     have := qbD List.length hf
     rw [qae, qau] at this
     omega
    have hsub : ((p + 1 : Nat) : Int) - 1 = (p : Int) := by omega
    have hw1 : IntKind.i64.wrap (((p + 1 : Nat) : Int) - 1) = (p : Int) := by rw [qai]; omega
    have hmod : Int.tmod (p : Int) 2 = ((p % 2 : Nat) : Int) := by rw [Int.tmod_eq_emod_of_nonneg (by omega)]; omega
    have hdiv : Int.tdiv (p : Int) 2 = ((p / 2 : Nat) : Int) := by rw [Int.tdiv_eq_ediv_of_nonneg (by omega)]; omega
    have Hn : Hid ((acc ++ [((p % 2 : Nat) : Int) + 1]) ++ (zd (p / 2)).map (· + 1) = D) := qaa (by rw [← hf]; simp)
    have hp2 : p % 2 < 2 := Nat.mod_lt _ (by omega)
    have hszr := Hb.out.size
    have hpp : p / 2 ≤ p := by omega
    clear hf Hacc
    generalize p % 2 = q at *
    generalize p / 2 = m2 at *
    go_wp2_with (at_builtin; refine wpList_append_own _ rfl _ _ 28 rfl w.heap.size 3 i0 (.int .i64 0) 1 8 underlying28 hi hz0 hz1 hz2 rfl (by decide) _ _ _ rfl (Hown.out.alloc _) ⟨wr.heap.size, 0, none⟩ 1 1 [.int .i64 ((q : Int) + 1)] rfl rfl ?c1 ?c2 ?c3 ?c4 ?c5 ?_)
    case c1 =>
     intro j u hj
     match j, hj with
     | 0, hj => simp at hj; subst hj; simp [Addr.add]
    case c2 => intro u hu; simp at hu; subst hu; rfl
    case c3 => unfold maxLen; omega
    case c4 => omega
    case c5 => simp; omega
    intro v' w1 hown' hgrow _
    have Hb' : Hid (Below w.heap.size w w1) := qaa ((Below.trans Hb.out (by go_grown)).grown hgrow (by simp; omega) (fun g hg => (Hown.out.lt g hg).1))
    have Hown' : Hid (w1.ownsRow w.heap.size 3 1 v' (acc ++ [(q : Int) + 1]).length (ints (acc ++ [(q : Int) + 1]))) := qaa (by
     have e1 : (acc ++ [(q : Int) + 1]).length = acc.length + 1 := by simp
     have e2 : ints (acc ++ [(q : Int) + 1]) = ints acc ++ [.int .i64 ((q : Int) + 1)] := by simp [ints]
     rw [e1, e2]
     exact hown')
    clear hown' hgrow
    go_wp2
    go_roundw
    case rel => exact ⟨m2, _, rfl, by omega, Hn.out, Hown'.out, Hb'.out⟩
    case measure => simp only [intOf]; omega
def RHold (w : World) (g : Nat) (l : List UInt8) (p : Nat) : Prop := Blk w g 174 #[.string ⟨l.toArray⟩, .int .i64 p]
section
variable {w w' : World} {g : Nat} {l : List UInt8} {p : Nat} {S : Nat → Prop}
theorem RHold.drewN (h : RHold w g l p) (n : Nat) : RHold (w.drewN n) g l p := h
theorem RHold.go (h : RHold w g l p) (n : Nat) (q : Int) (e : q = ((p + n : Nat) : Int)) : RHold (w.setCell ⟨g, 1, none⟩ (.int .i64 q)) g l (p + n) := by
 subst e
 exact Blk.set_ h 1 _
end
theorem get_yes (l : List UInt8) (p W g : Nat) (w : World) (hl : l.length ≤ 1099511627776) (hp : p + W ≤ 8 * l.length) (hW : W ≤ 32) (hB : RHold w g l p) :
  Calls prog 128 #[.pointer (some ⟨g, 0, none⟩), .int .i64 W] w fun e w' => e = .returned (.tuple #[.int .i64 (num (((yaf l).drop p).take W)), .int .i64 0]) ∧ RHold w' g l (p + W) ∧ Touch w w' (fun k => k = g) := by
 have hnum := fun v hB => number_any l p W g p v hl hp hW hB
 have hleft := fun v hB => ybQ l p g v (by omega) (by omega) hB
 have hle : (W : Int) ≤ ((8 * l.length - p : Nat) : Int) := by omega
 have hWi : (W : Int) ≤ 32 := by omega
 have hpl : (p : Int) ≤ 8796093022208 := by omega
 have hg := Blk.lt hB
 obtain ⟨c1, c2, z1, z2⟩ := Blk.two hB
 have HB := qaa hB
 clear hB hl hp
 generalize num (((yaf l).drop p).take W) = N at *
 generalize 8 * l.length - p = M at *
 go_enter func128, ntmps128
 go_wp2_with (first
  | (go_at_call 129; refine (ycb g _).mono ?_; rintro e w1 ⟨rfl, rfl⟩)
  | (go_at_call 130; refine (hleft _ HB.out).mono ?_; rintro e w1 ⟨rfl, k1, rfl⟩)
  | (go_at_call 170; refine (hnum _ (HB.out.drewN _)).mono ?_; rintro e w1 ⟨rfl, k2, rfl⟩))
 go_ret2
 exact ⟨rfl, RHold.go (HB.out.drewN _) W _ (by omega), ((Touch.refl w (fun k => k = g)).drewN _).set (p := ⟨g, 1, none⟩) (qas rfl) _⟩
theorem get_no (l : List UInt8) (p g : Nat) (width e : Int) (w : World) (hl : l.length ≤ 1099511627776) (hp : p ≤ 8 * l.length) (hB : RHold w g l p) (he : (ybs (yaf l) p width).2 = e) (hne : e ≠ 0) :
  Calls prog 128 #[.pointer (some ⟨g, 0, none⟩), .int .i64 width] w fun r w' => r = .returned (.tuple #[.int .i64 0, .int .i64 e]) ∧ ∃ k, w.drewN k = w' := by
 by_cases h1 : width < 0
 ·have : e = 2 := by rw [← he]; unfold ybs; rw [qah (qas h1)]
  subst this
  clear he hne hl
  go_enter func128, ntmps128
  go_wp2
  go_ret2
  exact ⟨rfl, 0, rfl⟩
 ·by_cases h2 : 32 < width
  ·have : e = 2 := by rw [← he]; unfold ybs; rw [qah (qaK h2)]
   subst this
   clear he hne hl
   go_enter func128, ntmps128
   go_wp2
   go_ret2
   exact ⟨rfl, 0, rfl⟩
  ·by_cases h3 : (p : Int) + width > (yaf l).length
   ·have : e = 4 := by rw [← he]; unfold ybs; rw [qag (by omega), qah h3]
    subst this
    rw [yar] at h3
    have hleft := fun v hB => ybQ l p g v (by omega) (by omega) hB
    have hle : ((8 * l.length - p : Nat) : Int) < width := by omega
    clear he hne hl h3
    have HB := qaa hB
    clear hB hp
    generalize 8 * l.length - p = M at *
    go_enter func128, ntmps128
    go_wp2_with (first
     | (go_at_call 129; refine (ycb g _).mono ?_; rintro e w1 ⟨rfl, rfl⟩)
     | (go_at_call 130; refine (hleft _ HB.out).mono ?_; rintro e w1 ⟨rfl, k1, rfl⟩))
    go_ret2
    exact ⟨rfl, k1, rfl⟩
   ·exfalso
    apply hne
    rw [← he]
    unfold ybs
    rw [qag (by omega), qag h3]
def csy (l : List Nat) : List Int := l.map (fun s : Nat => (s : Int))
theorem csy_app (a b : List Nat) : csy (a ++ b) = csy a ++ csy b := by simp [csy]
theorem csy_get {l : List Nat} {k s : Nat} (h : l[k]? = some s) : (ints (csy l))[k]? = some (.int .i64 (s : Int)) := by
 simp [ints, csy, h]
def ybt (h n : Nat) (st : List Int) (rows : List Value) (d : Int) : List Value := .bool true :: .slice (some ⟨h, 0, none⟩) n n :: (ints st ++ (rows ++ [.int .i64 d]))
section
variable {h n : Nat} {st : List Int} {rows : List Value} {d : Int}
theorem yfu (hs : st.length = 16) (j : Nat) (hj : j < 16) : (ybt h n st rows d)[2 + j]? = some (.int .i64 (st[j]'(by omega))) := by
 unfold ybt
 rw [show 2 + j = j + 1 + 1 from by omega, qaw, qaw, qbV (by rw [yac]; omega)]
 exact yao st j (by omega)
theorem yeH (hs : st.length = 16) (hr : rows.length = 16) (j : Nat) (hj : j < 16) : (ybt h n st rows d)[18 + j]? = some (rows[j]'(by omega)) := by
 unfold ybt
 rw [show 18 + j = 16 + j + 1 + 1 from by omega, qaw, qaw, qbs (by rw [yac]; omega), yac, show 16 + j - st.length = j from by omega, qbV (by omega), qaj (by omega)]
theorem ygR (hs : st.length = 16) (hr : rows.length = 16) : (ybt h n st rows d)[34]? = some (.int .i64 d) := by
 unfold ybt
 rw [show 34 = 32 + 1 + 1 from rfl, qaw, qaw, qbs (by rw [yac]; omega), yac, qbs (by omega), show 32 - st.length - rows.length = 0 from by omega]
 rfl
theorem yfv (hs : st.length = 16) (j : Nat) (hj : j < 16) (v : Int) : (ybt h n st rows d).set (2 + j) (.int .i64 v) = ybt h n (st.set j v) rows d := by
 unfold ybt
 rw [show 2 + j = j + 1 + 1 from by omega, qac, qac, List.set_append_left _ _ (by rw [yac]; omega)]
 simp [ints, qcs]
theorem ccells_set_row (hs : st.length = 16) (hr : rows.length = 16) (j : Nat) (hj : j < 16) (v : Value) : (ybt h n st rows d).set (18 + j) v = ybt h n st (rows.set j v) d := by
 unfold ybt
 rw [show 18 + j = 16 + j + 1 + 1 from by omega, qac, qac, qbY _ _ (by rw [yac]; omega), yac, show 16 + j - st.length = j from by omega, List.set_append_left _ _ (by omega)]
theorem yhd (hs : st.length = 16) (hr : rows.length = 16) (v : Int) : (ybt h n st rows d).set 34 (.int .i64 v) = ybt h n st rows v := by
 unfold ybt
 rw [show 34 = 32 + 1 + 1 from rfl, qac, qac, qbY _ _ (by rw [yac]; omega), yac, qbY _ _ (by omega), show 32 - st.length - rows.length = 0 from by omega]
 rfl
end
structure CRows (W : World) (B : Nat) (rows : List Value) (R : Nat → List Nat) : Prop where
 len : rows.length = 16
 own : ∀ j (hj : j < rows.length), W.ownsRow B 3 1 rows[j] (R j).length (ints (csy (R j)))
 sep : ∀ i j (hi : i < rows.length) (hj : j < rows.length), i ≠ j → ∀ k, rows[i].ownBlock = some k → rows[j].ownBlock ≠ some k
section
variable {W W' W2 Wa : World} {B g : Nat} {rows : List Value} {R R' : Nat → List Nat} {cs : Array Value} {t : TypeId} {S : Nat → Prop}
theorem CRows.congr (h : CRows W B rows R) (he : ∀ j, j < 16 → R j = R' j) : CRows W B rows R' := ⟨h.len, fun j hj => by rw [← he j (by have := h.len; omega)]; exact h.own j hj, h.sep⟩
theorem CRows.touch (h : CRows W B rows R) (ht : Touch W W' S) (hS : ∀ j (hj : j < rows.length) k, rows[j].ownBlock = some k → ¬ S k) : CRows W' B rows R := ⟨h.len, fun j hj => yaG (h.own j hj) ht (hS j hj), h.sep⟩
theorem CRows.store (h : CRows W B rows R) (hB : Blk W g t cs) (hne : 3 ≠ t) (i : Nat) (u : Value) : CRows (W.setCell ⟨g, i, none⟩ u) B rows R :=
 h.touch ((Touch.refl W (fun k => k = g)).set (p := ⟨g, i, none⟩) (qas rfl) u) fun j hj k hk e => ya4 (h.own j hj) hB hne (by rw [hk, e])
theorem CRows.append (h : CRows W B rows R) (hb : Below W.heap.size W Wa) (j : Nat) (hj : j < 16) (v' : Value) (s : Nat) (hg : Wa.grownBy W2 (rows[j]'(by have := h.len; omega)).ownBlock)
  (ho : W2.ownsRow B 3 1 v' ((R j).length + 1) (ints (csy (R j)) ++ [.int .i64 (s : Int)])) (hs : Sep Wa (rows[j]'(by have := h.len; omega)) v') :
  CRows W2 B (rows.set j v') (fun i => if i = j then R j ++ [s] else R i) := by
 have hl := h.len
 have hsz := hb.size
 refine ⟨by rw [qbM]; exact hl, fun i hi => ?_, fun i k hi hk hne b hb1 hb2 => ?_⟩
 ·rw [qbM] at hi
  by_cases e : j = i
  ·subst e
   rw [List.getElem_set_self, qah rfl, csy_app, qae]
   have : ints (csy (R j) ++ csy [s]) = ints (csy (R j)) ++ [.int .i64 (s : Int)] := by simp [ints, csy]
   rw [this]
   exact ho
  ·rw [List.getElem_set_ne e, qag (fun h => e h.symm)]
   have h1 := yah (h.own i hi) hb (qaf _)
   refine yaG h1 (yaT hg) fun k hk e2 => ?_
   exact h.sep j i (by omega) hi e k e2.symm hk
 ·rw [qbM] at hi hk
  have hnew : ∀ m (hm : m < rows.length), m ≠ j → ∀ b, v'.ownBlock = some b → rows[m].ownBlock ≠ some b := fun m hm hmj b h1 h2 => by
   rcases hs b h1 with h3 | h3
   ·exact h.sep j m (by omega) hm (fun e => hmj e.symm) b h3 h2
   ·have := ((h.own m hm).lt b h2).2
    omega
  by_cases e1 : j = i
  ·subst e1
   rw [List.getElem_set_self] at hb1
   rw [List.getElem_set_ne hne] at hb2
   exact hnew k hk (fun e => hne e.symm) b hb1 hb2
  ·rw [List.getElem_set_ne e1] at hb1
   by_cases e2 : j = k
   ·subst e2
    rw [List.getElem_set_self] at hb2
    exact hnew i hi hne b hb2 hb1
   ·rw [List.getElem_set_ne e2] at hb2
    exact h.sep i k hi hk hne b hb1 hb2
end
structure CSt (w1 W : World) (n : Nat) (L : List (Int × Int)) (st : List Int) (rows : List Value) (d : Int) (R : Nat → List Nat) : Prop where
 code : Blk W (w1.heap.size + 1) 141 (ybt w1.heap.size n st rows d).toArray
 words : Blk W w1.heap.size 143 (ydT .i64 L).toArray
 rows : CRows W w1.heap.size rows R
 frame : Below w1.heap.size w1 W
 stl : st.length = 16
section
variable {w1 W Wa W2 : World} {n : Nat} {L : List (Int × Int)} {st : List Int} {rows : List Value} {d : Int} {R R' : Nat → List Nat}
theorem CSt.start (h : CSt w1 W n L st rows d R) (j : Nat) (hj : j < 16) : W.cell? ⟨w1.heap.size + 1, 2 + j, none⟩ = some (.int .i64 (st[j]'(by have := h.stl; omega))) := by
 rw [h.code.cell, qan]
 exact yfu h.stl j hj
theorem CSt.row (h : CSt w1 W n L st rows d R) (j : Nat) (hj : j < 16) : W.cell? ⟨w1.heap.size + 1, 18 + j, none⟩ = some (rows[j]'(by have := h.rows.len; omega)) := by
 rw [h.code.cell, qan]
 exact yeH h.stl h.rows.len j hj
theorem CSt.deep (h : CSt w1 W n L st rows d R) : W.cell? ⟨w1.heap.size + 1, 34, none⟩ = some (.int .i64 d) := by
 rw [h.code.cell, qan]
 exact ygR h.stl h.rows.len
theorem CSt.wslice (h : CSt w1 W n L st rows d R) : W.cell? ⟨w1.heap.size + 1, 1, none⟩ = some (.slice (some ⟨w1.heap.size, 0, none⟩) n n) := by
 rw [h.code.cell, qan]
 rfl
theorem CSt.put_start (h : CSt w1 W n L st rows d R) (j : Nat) (hj : j < 16) (v : Int) : CSt w1 (W.setCell ⟨w1.heap.size + 1, 2 + j, none⟩ (.int .i64 v)) n L (st.set j v) rows d R := by
 refine ⟨?_, h.words.far (by simp) _, h.rows.store h.code (by decide) _ _, h.frame.setCell (by simp) _, by rw [qbM]; exact h.stl⟩
 have := h.code.set_ (2 + j) (.int .i64 v)
 rw [qab, yfv h.stl j hj] at this
 exact this
theorem CSt.put_deep (h : CSt w1 W n L st rows d R) (v : Int) : CSt w1 (W.setCell ⟨w1.heap.size + 1, 34, none⟩ (.int .i64 v)) n L st rows v R := by
 refine ⟨?_, h.words.far (by simp) _, h.rows.store h.code (by decide) _ _, h.frame.setCell (by simp) _, h.stl⟩
 have := h.code.set_ 34 (.int .i64 v)
 rw [qab, yhd h.stl h.rows.len] at this
 exact this
theorem CSt.put_word (h : CSt w1 W n L st rows d R) (s : Nat) (hs : s < L.length) (a b : Int) : CSt w1 ((W.setCell ⟨w1.heap.size, s * 2, none⟩ (.int .i64 a)).setCell ⟨w1.heap.size, s * 2 + 1, none⟩ (.int .i64 b)) n (L.set s (a, b)) st rows d R := by
 have hw := h.words.set_ (s * 2) (.int .i64 a)
 refine ⟨(h.code.far (by simp) _).far (by simp) _, ?_, (h.rows.store h.words (by decide) _ _).store hw (by decide) _ _, (h.frame.setCell (by simp) _).setCell (by simp) _, h.stl⟩
 have := hw.set_ (s * 2 + 1) (.int .i64 b)
 rw [qab, qab, pairs_set2 .i64 a b L s hs] at this
 exact this
theorem CSt.put_row (h : CSt w1 W n L st rows d R) (hb : Below W.heap.size W Wa) (j : Nat) (hj : j < 16) (v' : Value) (s : Nat) (hg : Wa.grownBy W2 (rows[j]'(by have := h.rows.len; omega)).ownBlock)
  (ho : W2.ownsRow w1.heap.size 3 1 v' ((R j).length + 1) (ints (csy (R j)) ++ [.int .i64 (s : Int)])) (hs : Sep Wa (rows[j]'(by have := h.rows.len; omega)) v') :
  W2.frozen? ⟨w1.heap.size + 1, 18 + j, none⟩ = false ∧ (∃ u, W2.cell? ⟨w1.heap.size + 1, 18 + j, none⟩ = some u) ∧ CSt w1 (W2.setCell ⟨w1.heap.size + 1, 18 + j, none⟩ v') n L st (rows.set j v') d (fun i => if i = j then R j ++ [s] else R i) := by
 have hoj := h.rows.own j (by have := h.rows.len; omega)
 have hgb : ∀ {b : Nat} {t : TypeId} {cs : Array Value}, Blk W b t cs → 3 ≠ t → Blk W2 b t cs := fun {b t cs} hB hne => (hB.below hb hB.lt).grow' hg (fun e => ya4 hoj hB hne e)
 have hc := hgb h.code (by decide)
 have hw := hgb h.words (by decide)
 have hrow := h.rows.append hb j hj v' s hg ho hs
 refine ⟨hc.frozen _, ⟨rows[j]'(by have := h.rows.len; omega), ?_⟩, ⟨?_, hw.far (by simp) _, hrow.store hc (by decide) _ _, ?_, h.stl⟩⟩
 ·rw [hc.cell, qan]
  exact yeH h.stl h.rows.len j hj
 ·have := hc.set_ (18 + j) v'
  rw [qab, ccells_set_row h.stl h.rows.len j hj] at this
  exact this
 ·refine Below.setCell ?_ (by simp) _
  have h1 := h.frame.trans (hb.mono h.frame.size)
  exact Below.grown h1 hg h1.size fun b hb2 => (hoj.lt b hb2).1
theorem CSt.congr (h : CSt w1 W n L st rows d R) (he : ∀ j, j < 16 → R j = R' j) : CSt w1 W n L st rows d R' := ⟨h.code, h.words, h.rows.congr he, h.frame, h.stl⟩
end
structure CHold (W : World) (B g : Nat) (ls : List Nat) (h : Nat) (st : List Int) (rows : List Value) : Prop where
 code : Blk W g 141 (ybt h ls.length st rows (ya7 ls ls.length : Nat)).toArray
 words : Blk W h 143 (ydT .i64 (wat ls 16 0)).toArray
 gB : g < B
 hB : h < B
 stl : st.length = 16
 rl : rows.length = 16
 st : ∀ j (hj : j < st.length), 1 ≤ j → j ≤ ya7 ls ls.length → st[j] = (cst ls j : Int)
 row : ∀ j (hj : j < rows.length), ∃ A c, rows[j] = .slice A (crow ls ls.length j).length c ∧ Reads W B 1 A (crow ls ls.length j).length (ints (csy (crow ls ls.length j)))
def CCode (W : World) (B g : Nat) (ls : List Nat) : Prop := ∃ h st rows, CHold W B g ls h st rows
section
variable {W W' : World} {B B' g : Nat} {ls : List Nat}
theorem CCode.below (h : CCode W B g ls) (hb : Below B W W') : CCode W' B g ls := by
 obtain ⟨k, st, rows, h⟩ := h
 exact ⟨k, st, rows, h.code.below hb h.gB, h.words.below hb h.hB, h.gB, h.hB, h.stl, h.rl, h.st, fun j hj => by
  obtain ⟨A, c, e, hr⟩ := h.row j hj
  exact ⟨A, c, e, hr.below hb⟩⟩
theorem CCode.more (h : CCode W B g ls) (hB : B ≤ B') : CCode W B' g ls := by
 obtain ⟨k, st, rows, h⟩ := h
 exact ⟨k, st, rows, h.code, h.words, qaZ h.gB hB, qaZ h.hB hB, h.stl, h.rl, h.st, fun j hj => by
  obtain ⟨A, c, e, hr⟩ := h.row j hj
  exact ⟨A, c, e, hr.more hB⟩⟩
theorem CCode.made (h : CCode W B g ls) : W.cell? ⟨g, 0, none⟩ = some (.bool true) := by
 obtain ⟨k, st, rows, h⟩ := h
 rw [h.code.cell, qan]
 rfl
theorem CCode.deep (h : CCode W B g ls) : W.cell? ⟨g, 34, none⟩ = some (.int .i64 (ya7 ls ls.length : Nat)) := by
 obtain ⟨k, st, rows, h⟩ := h
 rw [h.code.cell, qan]
 exact ygR h.stl h.rl
theorem CCode.start (h : CCode W B g ls) (j : Nat) (h1 : 1 ≤ j) (h2 : j ≤ ya7 ls ls.length) (h3 : j < 16) : W.cell? ⟨g, 2 + j, none⟩ = some (.int .i64 (cst ls j : Int)) := by
 obtain ⟨k, st, rows, h⟩ := h
 rw [h.code.cell, qan, yfu h.stl j h3, h.st j (by have := h.stl; omega) h1 h2]
theorem CCode.row (h : CCode W B g ls) (j : Nat) (h3 : j < 16) : ∃ A c, W.cell? ⟨g, 18 + j, none⟩ = some (.slice A (crow ls ls.length j).length c) ∧ (0 < (crow ls ls.length j).length → ∃ b off, A = some ⟨b, off, none⟩ ∧ b < B ∧ ∀ k s : Nat, (crow ls ls.length j)[k]? = some s → W.cell? ⟨b, off + k, none⟩ = some (.int .i64 (s : Int))) := by
 obtain ⟨k, st, rows, h⟩ := h
 obtain ⟨A, c, e, hr⟩ := h.row j (by have := h.rl; omega)
 refine ⟨A, c, ?_, fun hp => ?_⟩
 ·rw [h.code.cell, qan, yeH h.stl h.rl j h3, e]
 ·obtain ⟨b, off, e2, hb, hc⟩ := hr.2 hp
  exact ⟨b, off, e2, hb, fun k s hk => hc k _ (csy_get hk)⟩
theorem CCode.words (h : CCode W B g ls) : ∃ b, b < B ∧ W.cell? ⟨g, 1, none⟩ = some (.slice (some ⟨b, 0, none⟩) ls.length ls.length) ∧ Blk W b 143 (ydT .i64 (wat ls 16 0)).toArray := by
 obtain ⟨k, st, rows, h⟩ := h
 refine ⟨k, h.hB, ?_, h.words⟩
 rw [h.code.cell, qan]
 rfl
theorem CCode.at (h : CCode W B g ls) : g < B ∧ g < W.heap.size := by
 obtain ⟨k, st, rows, h⟩ := h
 exact ⟨h.gB, h.code.lt⟩
end
def CFar (W : World) (g : Nat) (ls : List Nat) (ok : Nat → Prop) : Prop :=
 ∃ B h st rows, CHold W B g ls h st rows ∧ B ≤ W.heap.size ∧ ok g ∧ ok h ∧ ∀ j (hj : j < rows.length) (A : Option Addr) (n c : Nat), rows[j] = .slice A n c → 0 < n → ∀ a : Addr, A = some a → ok a.block
section
variable {W W' : World} {B g : Nat} {ls : List Nat} {ok ok' S : Nat → Prop}
theorem CFar.code (h : CFar W g ls ok) : ∃ B, B ≤ W.heap.size ∧ CCode W B g ls := by
 obtain ⟨B, k, st, rows, h1, h2, _⟩ := h
 exact ⟨B, h2, k, st, rows, h1⟩
theorem CFar.touch (h : CFar W g ls ok) (ht : Touch W W' S) (hS : ∀ k, ok k → ¬ S k) : CFar W' g ls ok := by
 obtain ⟨B, k, st, rows, h, hB, o1, o2, o3⟩ := h
 refine ⟨B, k, st, rows, ⟨h.code.touch ht (hS _ o1), h.words.touch ht (hS _ o2), h.gB, h.hB, h.stl, h.rl, h.st, fun j hj => ?_⟩, qaG hB ht.size, o1, o2, o3⟩
 obtain ⟨A, c, e, hr⟩ := h.row j hj
 refine ⟨A, c, e, hr.1, fun hn => ?_⟩
 obtain ⟨b, off, e2, hb, hc⟩ := hr.2 hn
 refine ⟨b, off, e2, hb, fun q u hu => ?_⟩
 have := ht.block b (by omega) (hS b (o3 j hj A _ c e hn ⟨b, off, none⟩ e2))
 exact (qcb (w := W) (w' := W') (a := ⟨b, off + q, none⟩) this).trans (hc q u hu)
theorem CFar.mono (h : CFar W g ls ok) (hk : ∀ k, ok k → ok' k) : CFar W g ls ok' := by
 obtain ⟨B, k, st, rows, h, hB, o1, o2, o3⟩ := h
 exact ⟨B, k, st, rows, h, hB, hk _ o1, hk _ o2, fun j hj A n c e hn a ha => hk _ (o3 j hj A n c e hn a ha)⟩
theorem CCode.far (h : CCode W B g ls) (hB : B ≤ W.heap.size) : CFar W g ls (fun k => k < B) := by
 obtain ⟨k, st, rows, h⟩ := h
 refine ⟨B, k, st, rows, h, hB, h.gB, h.hB, fun j hj A n c e hn a ha => ?_⟩
 obtain ⟨A2, c2, e2, hr⟩ := h.row j hj
 rw [e] at e2
 injection e2 with e3 e4 _
 subst e3 e4
 obtain ⟨b, off, e5, hb, _⟩ := hr.2 hn
 rw [ha] at e5
 injection e5 with e5
 rw [e5]
 exact hb
end
theorem ccheck_ref (l : List Int) : ycC l = ya3 l := by
 have h2 := (yeI l).1
 have h1 := yeU l
 unfold ycC ya3
 by_cases h : 257 < l.length
 ·rw [qah h, qah h]
 ·rw [qag h, qag h]
  unfold sumF yfz
  by_cases hg : ydN l = true
  ·rw [qah hg, qah hg]
   by_cases u0 : ya1 l = 0
   ·rw [qah u0, qah (by omega), qah (by omega)]
   ·rw [qag u0]
    by_cases u1 : ya1 l = 1
    ·rw [qah u1]
     by_cases hp : (yaA l : Int) = 16384
     ·rw [qah hp, qah (by omega)]
     ·rw [qag hp, qag (by omega)]
    ·rw [qag u1]
     by_cases hp : (yaA l : Int) = 32768
     ·rw [qah hp, qah (by omega)]
     ·rw [qag hp, qag (by omega)]
  ·rw [qag hg, qag hg, qag (by omega)]
theorem bl_mul (m r : Nat) (h0 : m ≠ 0) (h : m * 2 ^ r < 4294967296) : bl (m * 2 ^ r) = bl m + r := by
 have hp : 0 < 2 ^ r := qbf (by omega)
 have hm : m ≤ m * 2 ^ r := Nat.le_mul_of_pos_right m hp
 obtain ⟨a, b, c⟩ := ydB 32 m h0 (by rw [show (2 : Nat) ^ 32 = 4294967296 from by decide]; omega) (by omega)
 have := bl_of (n := m * 2 ^ r) (k := bl m - 1 + r) (by rw [qbJ]; exact qcl _ b)
  (by rw [show bl m - 1 + r + 1 = bl m + r from by omega, qbJ]; exact qb6 c hp) h
 omega
theorem lz_dig (m s : Nat) (l : List Nat) (h0 : m ≠ 0) (h : m < 2 ^ s) (hs : s ≤ 32) : lz (dig s m ++ l) = s - bl m ∧ bl m ≤ s := by
 have h32 : m < 2 ^ 32 := qaZ h (qaH (by omega) hs)
 obtain ⟨a, b, c⟩ := ydB 32 m h0 h32 (by omega)
 obtain ⟨k, hk⟩ : ∃ k, bl m = k + 1 := ⟨bl m - 1, by omega⟩
 rw [hk] at b c ⊢
 rw [qbL] at b
 have hks : k + 1 ≤ s := Nat.le_of_not_lt fun hgt => by
  have := qaH (n := 2) (by omega) (show s ≤ k by omega)
  omega
 refine ⟨?_, hks⟩
 have h1 := ycA (s - (k + 1)) (k + 1) m
 rw [show s - (k + 1) + (k + 1) = s from by omega, Nat.div_eq_of_lt c, ye4, yfS b c] at h1
 rw [h1, qak, yfC, qbl, lz_one]
 rfl
theorem row_left (l : List UInt8) (k : Nat) (hq : k / 8 < l.length) : (yaf l).drop k = dig (8 - k % 8) (l[k / 8].toNat % 2 ^ (8 - k % 8)) ++ yaf (l.drop (k / 8 + 1)) := by
 have h1 : k = 8 * (k / 8) + k % 8 := (Nat.div_add_mod k 8).symm
 rw [show (yaf l).drop k = ((yaf l).drop (8 * (k / 8))).drop (k % 8) from by rw [qbh, ← h1], row_drop, qa6 hq, ydZ, qaX (by rw [yab]; omega)]
 congr 1
 have h2 := ycA (k % 8) (8 - k % 8) l[k / 8].toNat
 rw [show k % 8 + (8 - k % 8) = 8 from by omega] at h2
 rw [h2, qbF (yab _ _)]
 have h3 := dig_num (ycw (8 - k % 8) l[k / 8].toNat)
 rw [yab, ydf] at h3
 exact h3.symm
theorem shl_byte (b r : Nat) (hr : r < 8) : b * 2 ^ r % 256 = b % 2 ^ (8 - r) * 2 ^ r := by
 rw [show 256 = 2 ^ (8 - r) * 2 ^ r from by rw [← qbJ, show 8 - r + r = 8 from by omega], Nat.mul_mod_mul_right]
theorem left_zero (l : List UInt8) (p k : Nat) (hp : p ≤ k) (hq : k / 8 < l.length) (hz : ((yaf l).drop p).take (k - p) = List.replicate (k - p) 0) (hb : l[k / 8].toNat * 2 ^ (k % 8) % 256 = 0) :
  ((yaf l).drop p).take (8 * (k / 8 + 1) - p) = List.replicate (8 * (k / 8 + 1) - p) 0 := by
 have h1 := row_left l k hq
 rw [shl_byte _ _ (by omega)] at hb
 have hp' : 0 < 2 ^ (k % 8) := qbf (by omega)
 have hm : l[k / 8].toNat % 2 ^ (8 - k % 8) = 0 := by
  rcases Nat.mul_eq_zero.1 hb with h | h
  ·exact h
  ·omega
 rw [hm, ye4] at h1
 rw [show 8 * (k / 8 + 1) - p = (k - p) + (8 - k % 8) from by omega, qco, qbh, show p + (k - p) = k from by omega, hz, h1, qbT (by simp), qci]
theorem left_some (l : List UInt8) (p k : Nat) (hp : p ≤ k) (hq : k / 8 < l.length) (hz : ((yaf l).drop p).take (k - p) = List.replicate (k - p) 0) (hb : l[k / 8].toNat * 2 ^ (k % 8) % 256 ≠ 0) :
  lz ((yaf l).drop p) + p = k + (8 - bl (l[k / 8].toNat * 2 ^ (k % 8) % 256)) ∧ bl (l[k / 8].toNat * 2 ^ (k % 8) % 256) ≤ 8 := by
 have h1 := row_left l k hq
 rw [shl_byte _ _ (by omega)] at hb ⊢
 have hm : l[k / 8].toNat % 2 ^ (8 - k % 8) ≠ 0 := fun e => hb (by rw [e, qcB])
 have hlt : l[k / 8].toNat % 2 ^ (8 - k % 8) < 2 ^ (8 - k % 8) := Nat.mod_lt _ (qbf (by omega))
 have hsm : l[k / 8].toNat % 2 ^ (8 - k % 8) * 2 ^ (k % 8) < 256 := by
  have h2 := qb6 hlt (show 0 < 2 ^ (k % 8) from qbf (by omega))
  rw [← qbJ, show 8 - k % 8 + k % 8 = 8 from by omega] at h2
  exact h2
 have hc := lz_cut ((yaf l).drop p) (k - p) (by rw [qat, yar]; omega) hz
 rw [qbh, show p + (k - p) = k from by omega, h1] at hc
 have hd := lz_dig _ (8 - k % 8) (yaf (l.drop (k / 8 + 1))) hm hlt (by omega)
 rw [bl_mul _ _ hm (by omega), hc, hd.1]
 have := hd.2
 omega
theorem ycD (l : List UInt8) (p g : Nat) (w : World) (hl : l.length ≤ 1099511627776) (hp : p ≤ 8 * l.length) (hB : Blk w g 174 #[.string ⟨l.toArray⟩, .int .i64 p]) :
  Calls prog 131 #[.pointer (some ⟨g, 0, none⟩)] w fun e w' => e = .returned (.int .i64 (lz ((yaf l).drop p))) ∧ ∃ k, w.drewN k = w' := by
 obtain ⟨c1, c2, _, _⟩ := hB.two
 have hll : (l.length : Int) ≤ 1099511627776 := by omega
 have hpl : (p : Int) ≤ 8 * l.length := by omega
 have Hlz : Hid (((yaf l).drop p).length = 8 * l.length - p) := qaa (by rw [qat, yar])
 have hp0 : (0 : Int) ≤ p := by omega
 clear hB hl
 go_enter func131, ntmps131
 go_wp2
 go_loop [4] (fun a => ∃ k : Nat, p ≤ k ∧ k ≤ 8 * l.length ∧ a = .int .i64 k ∧ Hid (((yaf l).drop p).take (k - p) = List.replicate (k - p) 0)) (fun a => 8 * l.length - (intOf a).toNat)
 case atStart => exact ⟨p, qaf _, hp, rfl, qaa (by rw [qcc]; rfl)⟩
 case round =>
  obtain ⟨k, hk0, hk, rfl, Hz⟩ := hrel
  by_cases hlt : k < 8 * l.length
  ·have hq : k / 8 < l.length := by omega
   have hqi : 0 ≤ (k : Int) / 8 ∧ (k : Int) / 8 < l.length := by omega
   have hki : (k : Int) < 8 * l.length := by omega
   have hkb : (k : Int) ≤ 8796093022208 := by omega
   have Hq := qaa (left_zero l p k hk0 hq Hz.out)
   have Hs := qaa (left_some l p k hk0 hq Hz.out)
   go_wp2
   ·have hb : (((ByteArray.mk l.toArray)[k / 8]'(by rw [qbc, qaA]; exact hq)).toNat * 2 ^ (k % 8) % 256 != (0 : Int)) = true := by assumption
    rw [yd2] at hb ⊢
    have eB : ((l[k / 8].toNat : Int) * 2 ^ (k % 8) % 256) = ((l[k / 8].toNat * 2 ^ (k % 8) % 256 : Nat) : Int) := by norm_cast
    have hs := Hs.out
    have hB8 : l[k / 8].toNat * 2 ^ (k % 8) % 256 < 256 := Nat.mod_lt _ (by omega)
    rw [eB] at hb ⊢
    generalize l[k / 8].toNat * 2 ^ (k % 8) % 256 = B at hs hb hB8 ⊢
    have hb0 : B ≠ 0 := by
     rintro rfl
     exact absurd hb (by decide)
    obtain ⟨hs1, hs2⟩ := hs hb0
    have hlz := fun w => lz8_any (B : Int) w (by omega) (by omega)
    have e8 : Lib.bitLen ((B : Int)).toNat = bl B := rfl
    rw [e8] at hlz
    have hw1 : IntKind.i64.wrap ((k : Int) + (8 - (bl B : Int))) = ((k + (8 - bl B) : Nat) : Int) := by rw [qai]; omega
    have hw2 : IntKind.i64.wrap (((k + (8 - bl B) : Nat) : Int) - p) = (lz ((yaf l).drop p) : Int) := by rw [qai]; omega
    clear hb hB8 hs hs1 hs2 eB e8
    generalize k + (8 - bl B) = K at *
    generalize hZ : lz ((yaf l).drop p) = Z at *
    have HZ := qaa hZ
    clear hZ
    go_quiet ((go_at_call 171; exact (hlz _).mono fun _ _ ⟨he, hm⟩ => ⟨he, _, hm.symm⟩))
    go_wp2
    go_ret
    exact ⟨by rw [HZ.out]; rfl, _, rfl⟩
   ·have hb : (((ByteArray.mk l.toArray)[k / 8]'(by rw [qbc, qaA]; exact hq)).toNat * 2 ^ (k % 8) % 256 != (0 : Int)) = false := by assumption
    rw [yd2] at hb
    have eB : ((l[k / 8].toNat : Int) * 2 ^ (k % 8) % 256) = ((l[k / 8].toNat * 2 ^ (k % 8) % 256 : Nat) : Int) := by norm_cast
    rw [eB] at hb
    have hb0 : l[k / 8].toNat * 2 ^ (k % 8) % 256 = 0 := by
     have := bne_eq_false_iff_eq.1 hb
     omega
    go_round
    case rel => exact ⟨8 * (k / 8 + 1), by omega, by omega, iv (by omega), qaa (Hq.out hb0)⟩
    case measure => simp only [intOf]; omega
  ·obtain rfl : k = 8 * l.length := by omega
   have hlz : lz ((yaf l).drop p) = 8 * l.length - p := by
    have h1 := Hz.out
    rw [qa5 (by rw [Hlz.out]; omega)] at h1
    rw [h1]
    have := yfC (8 * l.length - p) []
    rw [qa8] at this
    rw [this]
    rfl
   have Hl2 := qaa hlz
   clear hlz
   go_wp2
   go_ret
   refine ⟨qbD Ending.returned (iv ?_), 0, rfl⟩
   rw [Hl2.out]
   omega
theorem rgamma_yes (l : List UInt8) (p g n : Nat) (w : World) (hl : l.length ≤ 1099511627776) (hp : p ≤ 8 * l.length) (hB : RHold w g l p) (k : Nat) (h : ybp ((yaf l).drop p) = ((n : Int), k, 0)) :
  Calls prog 168 #[.pointer (some ⟨g, 0, none⟩)] w fun e w' => e = .returned (.tuple #[.int .i64 n, .int .i64 0]) ∧ RHold w' g l (p + k) ∧ Touch w w' (fun k => k = g) := by
 have hlen : ((yaf l).drop p).length = 8 * l.length - p := by rw [qat, yar]
 unfold ybp at h
 by_cases a1 : lz ((yaf l).drop p) = ((yaf l).drop p).length
 ·rw [qah a1] at h
  simp at h
 ·rw [qag a1] at h
  by_cases a2 : 32 ≤ lz ((yaf l).drop p)
  ·rw [qah a2] at h
   simp at h
  ·rw [qag a2] at h
   by_cases a3 : ((yaf l).drop p).length < 2 * lz ((yaf l).drop p) + 1
   ·rw [qah a3] at h
    simp at h
   ·rw [qag a3] at h
    simp only [qb3, and_true] at h
    obtain ⟨hn, hk⟩ := h
    rw [qbh] at hn
    rw [hlen] at a1 a3
    have hnou := fun v hB => ycD l p g v hl hp hB
    have hleft := fun v hB => ybQ l p g v (by omega) hp hB
    generalize lz ((yaf l).drop p) = z at *
    have hnum := fun v hB => number_any l (p + z) (z + 1) g p v hl (by omega) (by omega) hB
    rw [Int.natCast_inj.1 hn] at hnum
    have b1 : ¬ (z : Int) = ((8 * l.length - p : Nat) : Int) := by omega
    have b2 : (z : Int) < 32 := by omega
    have b3 : ¬ ((8 * l.length - p : Nat) : Int) < 2 * z + 1 := by omega
    have hpl : (p : Int) ≤ 8796093022208 := by omega
    have hM : ((8 * l.length - p : Nat) : Int) ≤ 8796093022208 := by omega
    have e1 : (p : Int) + z = ((p + z : Nat) : Int) := by omega
    have e2 : (z : Int) + 1 = ((z + 1 : Nat) : Int) := by omega
    have Hk := qaa hk
    obtain ⟨c1, c2, z1, z2⟩ := Blk.two hB
    have hg := Blk.lt hB
    have HB := qaa hB
    have Hnum := qaa hnum
    have E := qaa (And.intro e1 e2)
    clear hB hp hl hn hk a1 a2 a3 hlen hnum e1 e2
    generalize 8 * l.length - p = M at *
    go_enter func168, ntmps168
    go_wp2_with (first
     | (go_at_call 129; refine (ycb g _).mono ?_; rintro e w1 ⟨rfl, rfl⟩)
     | (go_at_call 131; refine (hnou _ (HB.out.drewN 0)).mono ?_; rintro e w1 ⟨rfl, k0, rfl⟩)
     | (go_at_call 130; refine (hleft _ (HB.out.drewN _)).mono ?_; rintro e w1 ⟨rfl, k1, rfl⟩)
     | (go_at_call 170; rw [E.out.1, E.out.2]; refine (Hnum.out _ (HB.out.drewN _)).mono ?_; rintro e w1 ⟨rfl, k2, rfl⟩))
    go_ret2
    refine ⟨rfl, ?_, ((Touch.refl w (fun k => k = g)).drewN _).set (p := ⟨g, 1, none⟩) (qas rfl) _⟩
    rw [← Hk.out]
    exact RHold.go (HB.out.drewN _) (2 * z + 1) _ (by omega)
def CNewPost (w w' : World) (e : Ending) (l : List Int) : Prop :=
 Below w.heap.size w w' ∧ ((ya3 l = 0 ∧ ∃ g, w.heap.size ≤ g ∧ e = .returned (.tuple #[.pointer (some ⟨g, 0, none⟩), .int .i64 0]) ∧ CCode w' w'.heap.size g (l.map Int.toNat) ∧ CFar w' g (l.map Int.toNat) (fun k => w.heap.size ≤ k)) ∨ (ya3 l ≠ 0 ∧ e = .returned (.tuple #[.pointer none, .int .i64 (ya3 l)])))
theorem cst_begin (w1 : World) (n : Nat) (ls : List Nat) (hn : ls.length = n) : CSt w1 ((w1.alloc (.cells (ydT .i64 (wat ls 1 0)).toArray 143)).alloc (.cells #[.bool true, .slice (some ⟨w1.heap.size, 0, none⟩) n n, .int .i64 0, .int .i64 0, .int .i64 0, .int .i64 0, .int .i64 0, .int .i64 0, .int .i64 0, .int .i64 0, .int .i64 0, .int .i64 0, .int .i64 0, .int .i64 0, .int .i64 0, .int .i64 0, .int .i64 0, .int .i64 0, .slice none 0 0, .slice none 0 0, .slice none 0 0, .slice none 0 0, .slice none 0 0, .slice none 0 0, .slice none 0 0, .slice none 0 0, .slice none 0 0, .slice none 0 0, .slice none 0 0, .slice none 0 0, .slice none 0 0, .slice none 0 0, .slice none 0 0, .slice none 0 0, .int .i64 1] 141)) n (wat ls 1 0) (List.replicate 16 0) (List.replicate 16 (.slice none 0 0)) 1 (crow ls 0) := by
 have hc := Blk.new (w1.alloc (.cells (ydT .i64 (wat ls 1 0)).toArray 143)) 141 (ybt w1.heap.size n (List.replicate 16 0) (List.replicate 16 (.slice none 0 0)) 1).toArray
 rw [qay] at hc
 refine ⟨hc, (Blk.new w1 _ _).alloc _, ⟨rfl, fun j hj => ?_, fun i j hi hj hne k hk => ?_⟩, by go_grown, rfl⟩
 ·rw [ye8, qcf]
  exact qbS _ _ _ _
 ·rw [qcf] at hk
  cases hk
def csts (ls : List Nat) (N : Nat) : List Int := (List.range 16).map fun j => if j < N then (cst ls j : Int) else 0
theorem csts_len (ls : List Nat) (N : Nat) : (csts ls N).length = 16 := by simp [csts]
theorem csts_one (ls : List Nat) : csts ls 1 = List.replicate 16 0 := by
 refine qbg (by simp [csts]) fun j h1 h2 => ?_
 simp only [csts, qaY, qbp, qcf]
 by_cases h : j < 1
 ·rw [qah h, show j = 0 from by omega, cst_none]; rfl
 ·rw [qag h]
theorem csts_get (ls : List Nat) (N p : Nat) (h : p < N) (h2 : p < (csts ls N).length) : (csts ls N)[p] = (cst ls p : Int) := by
 simp only [csts, qaY, qbp]
 rw [qah h]
theorem csts_set (ls : List Nat) (N : Nat) (h : N < 16) : (csts ls N).set N (cst ls N : Int) = csts ls (N + 1) := by
 refine qbg (by simp [csts]) fun j h1 h2 => ?_
 rw [qcq]
 simp only [csts, qaY, qbp]
 by_cases e : N = j
 ·subst e
  rw [qah rfl, qah (by omega)]
 ·rw [qag e]
  by_cases e2 : j < N
  ·rw [qah e2, qah (by omega)]
  ·rw [qag e2, qag (by omega)]
section
variable {w1 W : World} {n : Nat} {L : List (Int × Int)} {st : List Int} {rows : List Value} {d : Int} {R : Nat → List Nat}
theorem CSt.drew (h : CSt w1 W n L st rows d R) : CSt w1 W.drew n L st rows d R := ⟨h.code.drew, h.words.drew, h.rows.touch (S := fun _ => False) (yai (B := W.heap.size) (qam _ _).drew (qaf _)) (fun _ _ _ _ h => h), h.frame.drew, h.stl⟩
theorem CSt.slice (h : CSt w1 W n L st rows d R) (j : Nat) (hj : j < 16) : ∃ A c, W.cell? ⟨w1.heap.size + 1, 18 + j, none⟩ = some (.slice A (R j).length c) ∧ rows[j]'(by have := h.rows.len; omega) = .slice A (R j).length c := by
 have h1 := h.row j hj
 obtain ⟨A, c, e, _, _⟩ := yag (h.rows.own j (by have := h.rows.len; omega))
 rw [e] at h1
 exact ⟨A, c, h1, e⟩
theorem CSt.sym (h : CSt w1 W n L st rows d R) (j : Nat) (hj : j < 16) (A : Option Addr) (m c q sy : Nat) (e : rows[j]'(by have := h.rows.len; omega) = .slice A m c) (hq : (R j)[q]? = some sy) : ∃ b off, A = some ⟨b, off, none⟩ ∧ W.cell? ⟨b, off + q, none⟩ = some (.int .i64 (sy : Int)) := by
 obtain ⟨A2, c2, e2, _, hr⟩ := yag (h.rows.own j (by have := h.rows.len; omega))
 rw [e] at e2
 injection e2 with e3 e4 e5
 subst e3
 obtain ⟨hlt, _⟩ := qcj.1 hq
 obtain ⟨b, off, e6, hb, hc⟩ := hr.2 (by omega)
 exact ⟨b, off, e6, hc q _ (csy_get hq)⟩
end
theorem cst_put {w1 W : World} {n : Nat} {ls : List Nat} {st : List Int} {rows : List Value} {d : Int} {R : Nat → List Nat} {N s q sy : Nat} (hn : ls.length = n) (hN : 0 < N) (hN2 : N ≤ 15) (hs : (crow ls s N).length = q) (hq : (crow ls n N)[q]? = some sy) (h : CSt w1 W n (wat ls N s) st rows d R) (a b : Int) (ha : a = ((cst ls N + q : Nat) : Int)) (hb : b = (N : Int)) :
  CSt w1 ((W.setCell ⟨w1.heap.size, sy * 2, none⟩ (.int .i64 a)).setCell ⟨w1.heap.size, sy * 2 + 1, none⟩ (.int .i64 b)) n (wat ls N (sy + 1)) st rows d R ∧ sy + 1 ≤ n ∧ (crow ls (sy + 1) N).length = q + 1 := by
 subst hn
 obtain ⟨h1, h2, h3, h4⟩ := cst_word N q sy hN hN2 hq
 have h5 := (crow_eq (ls := ls) N hN s sy (by omega)).2
 have h6 := h.put_word sy (by rw [yaS]; exact h2) ((yb7 ls N sy : Nat) : Int) (N : Int)
 rw [h5, wat_set ls N sy h2 h3 hN] at h6
 subst ha hb
 rw [← h1]
 refine ⟨h6, h2, ?_⟩
 rw [ybR, qah ⟨hN, h3⟩, qae, h4]
 rfl
theorem cst_row {w1 W : World} {n : Nat} {ls : List Nat} {st : List Int} {rows : List Value} {d : Int} {R : Nat → List Nat} {N s : Nat} (hn : ls.length = n) (hN : 0 < N) (hs : (crow ls s N).length = (crow ls n N).length) (h : CSt w1 W n (wat ls N s) st rows d R) : CSt w1 W n (wat ls (N + 1) 0) st rows d R := by
 subst hn
 rw [(crow_eq (ls := ls) N hN s ls.length hs).2, wat_next ls N ls.length (qaf _)] at h
 exact h
theorem cst_end {w w1 W : World} {n : Nat} {ls : List Nat} {rows : List Value} (hn : ls.length = n) (h15 : ∀ s (hs : s < ls.length), ls[s] ≤ 15) (hb : Below w.heap.size w w1) (h : CSt w1 W n (wat ls (ya7 ls n + 1) 0) (csts ls (ya7 ls n + 1)) rows (ya7 ls n : Nat) (crow ls n)) :
  Below w.heap.size w W ∧ w.heap.size ≤ w1.heap.size + 1 ∧ CCode W W.heap.size (w1.heap.size + 1) ls ∧ CFar W (w1.heap.size + 1) ls (fun k => w.heap.size ≤ k) := by
 subst hn
 have hsz := hb.size
 have h2 := (cdeep_all (ls := ls) (ya7 ls ls.length) (ye7 h15 _ (qaf _)) fun s hs => cdeep_ge _ (qaf _) s hs hs).2
 have hH : CHold W W.heap.size (w1.heap.size + 1) ls w1.heap.size (csts ls (ya7 ls ls.length + 1)) rows := ⟨h.code, by rw [← h2]; exact h.words, h.code.lt, h.words.lt, csts_len _ _, h.rows.len, fun j hj h1 h3 => csts_get ls _ j (by omega) hj, fun j hj => by
  obtain ⟨A, c, e, _, hr⟩ := yag (h.rows.own j hj)
  exact ⟨A, c, e, hr⟩⟩
 refine ⟨hb.trans (h.frame.mono hsz), by omega, ⟨_, _, _, hH⟩, _, _, _, _, hH, qaf _, by omega, by omega, fun j hj A n c e hn a ha => ?_⟩
 have := (h.rows.own j hj).lt a.block (by rw [e, ha]; rfl)
 omega
theorem c_new_any (l : List Int) (A : Option Addr) (n c : Nat) (w : World) (hm : n ≤ 1000000) (hr : Reads w w.heap.size 1 A n (ints l)) :
  Calls prog 62 #[.slice A n c] w fun e w' => CNewPost w w' e l := by
 obtain ⟨i0, hi, hz0, hz1, hz2⟩ := qb4 aint_info
 have el : l.length = n := by have := hr.1; rw [yac] at this; omega
 have Hchk := qaa (ydQ l A n c w hm hr)
 rw [ccheck_ref] at Hchk
 by_cases h0 : ya3 l = 0
 ·rw [h0] at Hchk
  obtain ⟨hl, hg, hca⟩ := ydi h0
  have Hc1 : Hid (0 < n → ∃ b off, A = some ⟨b, off, none⟩ ∧ ∀ wr, Below w.heap.size w wr → ∀ k, (hk : k < l.length) → wr.cell? ⟨b, off + k, none⟩ = some (.int .i64 l[k])) := qaa fun h => by
   obtain ⟨b, off, e, hb, hc⟩ := hr.2 h
   exact ⟨b, off, e, fun wr hw k hk => (hw.cell (p := ⟨b, off + k, none⟩) hb).trans (hc k _ (yao l k hk))⟩
  obtain ⟨ls, hls⟩ : ∃ ls, l.map Int.toNat = ls := ⟨_, rfl⟩
  have hlsn : ls.length = n := by rw [← hls, qaM, el]
  have Hls : Hid (∀ k (hk : k < l.length) (hk2 : k < ls.length), (ls[k] : Int) = l[k] ∧ ls[k] ≤ 15) := qaa fun k hk hk2 => by
   have := ybK hg k hk
   subst hls
   rw [qaY]
   omega
  have H15 : Hid (∀ s (hs : s < ls.length), ls[s] ≤ 15) := qaa fun s hs => (Hls.out s (by omega) hs).2
  rw [hls] at hca
  have Hca := qaa hca
  have Hel := qaa el
  have Hln := qaa hlsn
  have hmk := fun W => mk_fields n hm W
  rw [← hlsn, ← wat_zero] at hmk
  rw [hlsn] at hmk
  have hni : (n : Int) ≤ 257 := by omega
  unfold CNewPost
  rw [hls]
  have H0 := qaa h0
  clear hr h0 hg hca hls el hl hlsn
  go_enter func62, ntmps62
  go_wp2_with (go_at_call 104; refine Hchk.out.mono ?_; rintro e w1 ⟨rfl, hb1⟩; have Hb1 := qaa hb1; clear hb1)
  have HB0 := qaa (cst_begin w1 n ls Hln.out)
  generalize ((w1.alloc (.cells (ydT .i64 (wat ls 1 0)).toArray 143)).alloc (.cells #[.bool true, .slice (some ⟨w1.heap.size, 0, none⟩) n n, .int .i64 0, .int .i64 0, .int .i64 0, .int .i64 0, .int .i64 0, .int .i64 0, .int .i64 0, .int .i64 0, .int .i64 0, .int .i64 0, .int .i64 0, .int .i64 0, .int .i64 0, .int .i64 0, .int .i64 0, .int .i64 0, .slice none 0 0, .slice none 0 0, .slice none 0 0, .slice none 0 0, .slice none 0 0, .slice none 0 0, .slice none 0 0, .slice none 0 0, .slice none 0 0, .slice none 0 0, .slice none 0 0, .slice none 0 0, .slice none 0 0, .slice none 0 0, .slice none 0 0, .slice none 0 0, .int .i64 1] 141)) = wz at *
  clear hmk Hchk
  go_loopw [6, 7, 23] (fun sx wx i wr => ∃ (k : Nat) (rows : List Value), k ≤ n ∧ i = .int .i64 k ∧ Hid (CSt w1 wr n (wat ls 1 0) (List.replicate 16 0) rows (ya7 ls k : Nat) (crow ls k))) (fun _ _ i _ => n - (intOf i).toNat)
  case atStart => exact ⟨0, _, by omega, rfl, HB0⟩
  case round =>
   obtain ⟨k, rows, hk, rfl, HS⟩ := hrel
   clear HB0
   by_cases hlt : k < n
   ·have hki : (0 : Int) ≤ (k : Int) ∧ (k : Int) < (n : Int) := by omega
    have hkl : k < l.length := by rw [Hel.out]; exact hlt
    have hkn : k < ls.length := by rw [Hln.out]; exact hlt
    obtain ⟨b1, o1, rfl, hcell⟩ := Hc1.out (by omega)
    have x1 := hcell wr (Hb1.out.trans (HS.out.frame.mono Hb1.out.size)) k hkl
    obtain ⟨hv, hv2⟩ := Hls.out k hkl hkn
    clear hcell
    rw [← hv] at x1
    have hgd := yc4 (l := ls) k hkn
    have Hnx := qaa (fun j => ybR (ls := ls) k j)
    have Hdp : Hid (ya7 ls (k + 1) = max (ya7 ls k) ls[k]) := qaa (by rw [← hgd]; rfl)
    rw [hgd] at Hnx
    clear hv hgd
    generalize ls[k] = wd at *
    by_cases hz : wd = 0
    ·subst hz
     have hS2 := HS.out.congr (R' := crow ls (k + 1)) fun j hj => by rw [Hnx.out j, qag (by omega), qa8]
     have hS3 := HS.out.congr (R' := crow ls (k + 1)) fun j hj => by rw [Hnx.out j, qag (by omega), qa8]
     have hd2 : ya7 ls (k + 1) = ya7 ls k := by rw [Hdp.out]; have := ycp (ls := ls) k; omega
     rw [← hd2] at hS3
     have HS3 := qaa hS3
     clear hS2 hS3 hd2 hkn hkl
     go_wp2
     go_roundw
     case rel => exact ⟨k + 1, rows, by omega, iv (by omega), HS3⟩
     case measure => simp only [intOf]; omega
    ·have hwd : (0 : Int) < (wd : Int) ∧ (wd : Int) < 16 := by omega
     have hw16 : wd < 16 := by omega
     have hwp : (0 : Int) ≤ (wd : Int) := by omega
     have hwt : IntKind.i64.wrap (wd : Int) = (wd : Int) := by rw [qai]; omega
     have x2 := HS.out.row wd hw16
     have hc0 := HS.out.code.lt
     obtain ⟨Av, cv, ev, hcv, hrv⟩ := yag (HS.out.rows.own wd (by have := HS.out.rows.len; omega))
     rw [ev] at x2
     obtain ⟨cn, hcn⟩ : ∃ cn, (crow ls k wd).length = cn := ⟨_, rfl⟩
     have hcn2 : cn ≤ k := by rw [← hcn]; exact ydG k wd
     rw [hcn] at x2 ev
     have hdp1 := ycp (ls := ls) k
     have hdp2 := ye7 H15.out k (by rw [Hln.out]; exact hk)
     have Hput := qaa fun (Wa W2 : World) (hb : Below wr.heap.size wr Wa) (A2 : Option Addr) (c2 : Nat) (hg : Wa.grownBy W2 (Value.slice Av cn cv).ownBlock) (ho : W2.ownsRow w1.heap.size 3 1 (.slice A2 (cn + 1) c2) (cn + 1) (ints (csy (crow ls k wd)) ++ [.int .i64 (k : Int)])) (hs : Sep Wa (.slice Av cn cv) (.slice A2 (cn + 1) c2)) =>
      HS.out.put_row (Wa := Wa) (W2 := W2) hb wd hw16 (.slice A2 (cn + 1) c2) k (by rw [ev]; exact hg) (by rw [hcn]; exact ho) (by rw [ev]; exact hs)
     have Hown := qaa (HS.out.rows.own wd (by have := HS.out.rows.len; omega))
     rw [ev, hcn] at Hown
     clear hcv hrv hkn hkl
     have Hb := qaa (show Below wr.heap.size wr (wr.alloc (.cells #[.int .i64 (k : Int)] 3)).drew from ((qam _ _).alloc (qaf _) _).drew)
     have Hrd : Hid (Reads (wr.alloc (.cells #[.int .i64 (k : Int)] 3)).drew (wr.heap.size + 1) 1 (some ⟨wr.heap.size, 0, none⟩) 1 [.int .i64 (k : Int)]) := qaa (yaB wr 3 #[.int .i64 (k : Int)] 1 1 rfl)
     have Howa := qaa (yah Hown.out Hb.out (qaf _))
     have Hone : Hid (∀ u ∈ [Value.int .i64 (k : Int)], u.oneCell' = true) := qaa fun u hu => by rw [qbZ.1 hu]; rfl
     have Hws : Hid (w1.heap.size ≤ (wr.alloc (.cells #[.int .i64 (k : Int)] 3)).drew.heap.size) := qaa (qaG HS.out.frame.size Hb.out.size)
     have Hdk : Hid (∀ v : Int, v = ((max (ya7 ls k) wd : Nat) : Int) → v = ((ya7 ls (k + 1) : Nat) : Int)) := qaa fun v hv => by rw [Hdp.out, hv]
     have Hfin : Hid (∀ X (v : Int), v = ((ya7 ls (k + 1) : Nat) : Int) → ∀ rows', CSt w1 X n (wat ls 1 0) (List.replicate 16 0) rows' (ya7 ls k : Nat) (fun i => if i = wd then crow ls k wd ++ [k] else crow ls k i) → CSt w1 (X.setCell ⟨w1.heap.size + 1, 34, none⟩ (.int .i64 v)) n (wat ls 1 0) (List.replicate 16 0) rows' (ya7 ls (k + 1) : Nat) (crow ls (k + 1))) := qaa fun X v hv rows' h => by
      subst hv
      refine (h.put_deep _).congr fun j hj => ?_
      rw [Hnx.out j]
      by_cases e : j = wd
      ·subst e
       rw [qah rfl, qah ⟨by omega, rfl⟩]
      ·rw [qag e, qag (fun h => e h.2.symm), qa8]
     clear Hown hcn
     generalize crow ls k wd = CR at *
     generalize hdk : ya7 ls k = dk at *
     go_wp2
     go_region_law (refine yat (by rfl) (.tmp 37) (.tmp 39) 28 (by rfl) w1.heap.size 3 i0 _ 1 8 underlying28 hi hz0 hz1 hz2 rfl (by decide) (.slice Av cn cv) cn (ints (csy CR)) (by rfl) Howa.out (some ⟨wr.heap.size, 0, none⟩) 1 1 _ [.int .i64 (k : Int)] (by rfl) Hrd.out Hone.out (by unfold maxLen; omega) (by omega) Hws.out (cn + 1) rfl ?_; intro A2 c2 w2 ho2 hg2 hs2; obtain ⟨z1, ⟨u2, z2⟩, hS2⟩ := Hput.out _ w2 Hb.out A2 c2 hg2 ho2 hs2; have HS2 := qaa hS2; clear hS2 ho2 hg2 hs2)
     all_goals (
      have x3 := HS2.out.deep
      have x4 := HS2.out.code.frozen 34
      have x5 := HS2.out.code.lt
      clear z1 z2
      generalize w2.setCell ⟨w1.heap.size + 1, 18 + wd, none⟩ (.slice A2 (cn + 1) c2) = X at *
      go_wp2
      go_roundw
      case rel => exact ⟨k + 1, _, by omega, iv (by omega), qaa (Hfin.out X _ (Hdk.out _ (by split <;> omega)) _ HS2.out)⟩
      case measure => simp only [intOf]; omega)
   ·obtain rfl : k = n := by omega
    have hD1 := ycp (ls := ls) k
    have hD2 := ye7 H15.out k (by rw [Hln.out]; exact qaf _)
    have HE := qaa fun W h => cst_end (W := W) (rows := rows) Hln.out H15.out Hb1.out h
    have HS1 : Hid (CSt w1 wr k (wat ls 1 0) (csts ls 1) rows (ya7 ls k : Nat) (crow ls k)) := qaa (by rw [csts_one]; exact HS.out)
    clear HS hlt Hc1 Hls Hel H15 Hb1
    generalize ya7 ls k = D at *
    have hDi : (1 : Int) ≤ (D : Int) ∧ (D : Int) ≤ 15 := by omega
    go_wp2
    go_loopw [8, 9, 10, 91] (fun wx kx sx ix W => ∃ N : Nat, 1 ≤ N ∧ N ≤ D + 1 ∧ wx = .int .i64 N ∧ Hid (CSt w1 W k (wat ls N 0) (csts ls N) rows (D : Nat) (crow ls k))) (fun wx _ _ _ _ => D + 1 - (intOf wx).toNat)
    case atStart => exact ⟨1, by omega, by omega, rfl, HS1⟩
    case round =>
     obtain ⟨N, hN1, hN2, rfl, HS⟩ := hrel
     clear HS1
     have x1 := HS.out.deep
     have x2 := HS.out.code.lt
     by_cases hlt : N ≤ D
     ·have hNi : (N : Int) ≤ (D : Int) := by omega
      obtain ⟨p, hp⟩ : ∃ p, p + 1 = N := ⟨N - 1, by omega⟩
      have hN16 : N < 16 := by omega
      have x3 := HS.out.start p (by omega)
      rw [csts_get ls N p (by omega)] at x3
      obtain ⟨Ap, cp, x4, -⟩ := HS.out.slice p (by omega)
      have x5 := HS.out.code.frozen (2 + N)
      have x6 := HS.out.start N hN16
      have hcn := cst_next (ls := ls) p (by omega)
      rw [hp, Hln.out] at hcn
      have hcl := cst_le (ls := ls) N (by omega) Hca.out
      have HS2 : Hid (∀ v : Int, v = (cst ls N : Int) → CSt w1 (wr.setCell ⟨w1.heap.size + 1, 2 + N, none⟩ (.int .i64 v)).drew k (wat ls N 0) (csts ls (N + 1)) rows (D : Nat) (crow ls k)) := qaa fun v hv => by
       subst hv
       have := HS.out.put_start N hN16 (cst ls N : Int)
       rw [csts_set ls N hN16] at this
       exact this.drew
      generalize hold : (csts ls N)[N]'(by rw [csts_len]; exact hN16) = old at x6
      clear hold
      obtain ⟨cN, hcN⟩ : ∃ cN, (crow ls k N).length = cN := ⟨_, rfl⟩
      obtain ⟨AN, pN, x7, erow⟩ := HS.out.slice N hN16
      rw [hcN] at x7 erow
      have Her := qaa erow
      clear erow
      have hcNk : cN ≤ k := by rw [← hcN]; exact ydG k N
      have HcN := qaa hcN
      have hsym : Hid (∀ q, q < cN → ∃ sy, (crow ls k N)[q]? = some sy ∧ cst ls N + q ≤ 32768 ∧ sy < k) := qaa fun q hq => by
       have h1 : q < (crow ls k N).length := by rw [HcN.out]; exact hq
       obtain ⟨sy, hsy⟩ : ∃ sy, (crow ls k N)[q]? = some sy := ⟨_, qaj h1⟩
       have h3 := Hln.out
       obtain ⟨h4, h5, h6, _⟩ := cst_word N q sy (by omega) (by omega) (by rw [h3]; exact hsy)
       have h7 := cword_lt (ls := ls) N sy h5 (by rw [← yc4 _ h5]; exact h6) ⟨by omega, by omega⟩ Hca.out
       have h8 : (2 : Nat) ^ N ≤ 2 ^ 15 := qaH (by omega) (by omega)
       exact ⟨sy, hsy, by omega, by omega⟩
      clear hcN
      generalize (crow ls k p).length = cnp at *
      generalize cst ls p = sp at *
      generalize hsN : cst ls N = sN at *
      obtain ⟨tt, htt⟩ : ∃ tt, sp + cnp = tt := ⟨_, rfl⟩
      rw [htt] at hcn
      have hs1 : IntKind.i64.wrap ((sp : Int) + (cnp : Int)) = (tt : Int) := by rw [qai]; omega
      have hs2 : IntKind.i64.wrap (2 * (tt : Int)) = (sN : Int) := by rw [qai]; omega
      have hsub : (N : Int) - 1 = (p : Int) := by omega
      have hsw : IntKind.i64.wrap ((N : Int) - 1) = (p : Int) := by rw [qai]; omega
      have hsw2 : IntKind.i64.wrap (p : Int) = (p : Int) := by rw [qai]; omega
      have hpb : (0 : Int) ≤ (p : Int) ∧ (p : Int) < 16 := by omega
      have hNb : (0 : Int) ≤ (N : Int) ∧ (N : Int) < 16 := by omega
      have HP := qaa (And.intro hp (And.intro htt (And.intro hcn hcl)))
      clear hp htt hcn hcl
      go_wp2
      refine qb1 22 (by kernel_rfl) (by kernel_rfl) ?_
      simp only [qaJ, qbb, qbn, qb9]
      change wpStill _ _ (World.drew _) (fun a' => wpList _ _ _ _ a' (World.drew _)) _ _
      repeat still_step
      refine qcv ?_
      go_wp2
      have HS3 := qaa (HS2.out (sN : Int) rfl)
      clear HS2 x1 x2 x3 x4 x5 x6 x7 hs1 hs2 hsub hsw hsw2 hpb
      generalize (wr.setCell ⟨w1.heap.size + 1, 2 + N, none⟩ (.int .i64 (sN : Int))).drew = X at *
      have HcS := qaa hsN
      have hcNi : (cN : Int) ≤ 257 := by omega
      go_loopw [9, 10, 91] (fun kx sx ix W => ∃ (q s : Nat), q ≤ cN ∧ ix = .int .i64 q ∧ Hid (s ≤ k ∧ (crow ls s N).length = q) ∧ Hid (CSt w1 W k (wat ls N s) (csts ls (N + 1)) rows (D : Nat) (crow ls k))) (fun _ _ ix _ => cN - (intOf ix).toNat)
      case atStart => exact ⟨0, 0, by omega, rfl, qaa ⟨by omega, rfl⟩, HS3⟩
      case round =>
       obtain ⟨q, s, hq, rfl, Hq, HS4⟩ := hrel
       clear HS3
       by_cases hqt : q < cN
       ·have hqi : (0 : Int) ≤ (q : Int) ∧ (q : Int) < (cN : Int) := by omega
        obtain ⟨sy, hsy, hsb, hsk⟩ := hsym.out q hqt
        obtain ⟨b, off, rfl, y1⟩ := HS4.out.sym N hN16 AN cN pN q sy Her.out hsy
        have y2 := HS4.out.wslice
        have y3 := HS4.out.start N hN16
        rw [csts_get ls (N + 1) N (by omega), HcS.out] at y3
        have y4 := HS4.out.code.lt
        have y5 := HS4.out.words.lt
        have y6 := HS4.out.words.frozen (sy * 2)
        have y7 := HS4.out.words.frozen (sy * 2 + 1)
        have hwl : sy < (wat ls N s).length := by rw [yaS, Hln.out]; exact hsk
        have y8 := HS4.out.words.cell (sy * 2)
        rw [qan, yge .i64 _ sy hwl] at y8
        have y9 := HS4.out.words.cell (sy * 2 + 1)
        rw [qan, yg8 .i64 _ sy hwl] at y9
        generalize (wat ls N s)[sy].1 = o1 at *
        generalize (wat ls N s)[sy].2 = o2 at *
        have Hput := qaa fun a b ha hb => cst_put (a := a) (b := b) Hln.out (by omega) (by omega) Hq.out.2 hsy HS4.out ha hb
        rw [HcS.out] at Hput
        obtain ⟨cw, hcw⟩ : ∃ cw, sN + q = cw := ⟨_, rfl⟩
        rw [hcw] at hsb Hput
        have hs1 : IntKind.i64.wrap ((sN : Int) + (q : Int)) = (cw : Int) := by rw [qai]; omega
        have hs2 : (0 : Int) ≤ (sy : Int) ∧ (sy : Int) < (k : Int) := by omega
        have hs3 : IntKind.i64.wrap (sy : Int) = (sy : Int) := by rw [qai]; omega
        clear hwl hsy hcw
        go_wp2
        refine qb1 16 (by kernel_rfl) (by kernel_rfl) ?_
        simp only [qaJ, qbb, qbn, qb9]
        change wpStill _ _ (World.drew _) (fun a' => wpList _ _ _ _ a' (World.drew _)) _ _
        repeat still_step
        refine qcv ?_
        go_wp2
        go_roundw
        case rel =>
         obtain ⟨f1, f2, f3⟩ := Hput.out _ _ rfl rfl
         exact ⟨q + 1, sy + 1, by omega, iv (by omega), qaa ⟨f2, f3⟩, f1.drew⟩
        case measure => simp only [intOf]; omega
       ·have hqi : ¬ (q : Int) < (cN : Int) := by omega
        obtain rfl : q = cN := by omega
        have HS5 := qaa (cst_row Hln.out (by omega) (by rw [Hq.out.2, HcN.out]) HS4.out)
        clear HS4 Hq hsym
        go_wp2
        go_roundw
        case rel => exact ⟨N + 1, by omega, by omega, iv (by omega), HS5⟩
        case measure => simp only [intOf]; omega
     ·obtain rfl : N = D + 1 := by omega
      have hNi : ¬ ((D + 1 : Nat) : Int) ≤ (D : Int) := by omega
      have hE := HE.out _ HS.out
      have HE2 := qaa hE
      clear hE
      go_wp2
      go_ret2
      exact ⟨HE2.out.1, qas ⟨H0.out, _, HE2.out.2.1, rfl, HE2.out.2.2⟩⟩
 ·have hb0 : (ya3 l == 0) = false := by simpa using h0
  have H0 := qaa h0
  clear h0 hr
  unfold CNewPost
  generalize ya3 l = E at *
  go_enter func62, ntmps62
  go_wp2_with (go_at_call 104; refine Hchk.out.mono ?_; rintro e w1 ⟨rfl, hb1⟩; have Hb1 := qaa hb1; clear hb1)
  go_ret2
  exact ⟨Hb1.out, qaK ⟨H0.out, rfl⟩⟩
theorem tmkfunc (fn : Fn) (first cap : Array Value) (w : World) : (Instr.makeFunc fn first cap).run prog w = .ok (.func fn first cap) w := rfl
theorem p_tput_yes (B N0 g : Nat) (v : Value) (R : List Nat) (l : List Int) (A : Option Addr) (n c : Nat) (w : World) (hr : Reads w N0 1 A n (ints l)) (hg : N0 ≤ g ∧ N0 ≤ B) (h0 : ya3 l = 0) (hH : WHold w B g v R) (hB : B ≤ w.heap.size) (hR : R.length ≤ 1000000000) (hc : n ≤ c) :
  Calls prog 63 #[.pointer (some ⟨g, 0, none⟩), .slice A n c] w fun e w' => e = .returned (.int .i64 0) ∧ ∃ v', WHold w' B g v' (R ++ yaR l) ∧ Touch w w' (WS g v) ∧ Sep w v v' := by
 obtain ⟨hl, hgd⟩ := yg0 h0
 have en : l.length = n := by have := hr.1; rw [yac] at this; omega
 have hN0 : N0 ≤ w.heap.size := by have := hH.1.lt; omega
 have Hck := qaa fun (W : World) (hW : Below w.heap.size w W) => ydQ l A n c W (by omega) ((hr.below (hW.mono hN0)).more (qaG hN0 hW.size))
 rw [yeJ, h0] at Hck
 have Heach := qaa fun (W : World) (hW : Below w.heap.size w W) hP => teach_any B N0 g w.heap.size v R l A n c W (hr.below (hW.mono hN0)) hg hl (ybK hgd) hP (hH.below hW (qaf _)) (qaG hB hW.size) hR hc
 have Hb1 := qaa fun o => (qam w.heap.size w).alloc (qaf _) o
 have Hnew := qaa (Blk.new w 104 #[.pointer (some ⟨g, 0, none⟩)])
 have hmf := tmkfunc
 clear hr hg h0 hH hB hR hc hl hgd en hN0
 generalize R ++ yaR l = R2 at *
 go_enter func63, ntmps63
 go_wp2_with (first
  | (go_at_call 104; refine (Hck.out _ (Hb1.out _)).mono ?_; rintro e w2 ⟨rfl, hb2⟩; have Hb2 := qaa ((Hb1.out _).trans (hb2.mono (by simp))); have HP2 := qaa (Hnew.out.below hb2 (by simp)); clear hb2)
  | (go_at_call 105; refine (Heach.out _ Hb2.out HP2.out).mono ?_; rintro e w3 ⟨⟨v3, rfl⟩, hp3⟩; have Hp3 := qaa hp3; clear hp3))
 go_ret
 obtain ⟨v', g1, g2, g3⟩ := Hp3.out
 refine ⟨rfl, v', g1, (yai Hb2.out (qaf _)).trans g2, fun k hk => ?_⟩
 rcases g3 k hk with e | e
 ·exact qas e
 ·exact qaK (qaG Hb2.out.size e)
theorem twriter_new (w : World) : WHold (w.alloc (.cells #[.slice none 0 0, .int .i64 0] 102)) w.heap.size w.heap.size (.slice none 0 0) [] := by
 refine ⟨by simpa [fr] using Blk.new w 102 #[.slice none 0 0, .int .i64 0], ?_, yeL⟩
 simpa [yc5, bc] using qbS (w.alloc (.cells #[.slice none 0 0, .int .i64 0] 102)) w.heap.size 5 1
theorem twriter_back {w W w' : World} {o : Obj} {v : Value} (hW : W = w.alloc o) (h : Touch W w' (WS w.heap.size v)) (hv : ∀ k, v.ownBlock = some k → w.heap.size ≤ k) : Below w.heap.size w w' := by
 subst hW
 refine ((qam w.heap.size w).alloc (qaf _) o).trans (h.below (fun k _ e => ?_) (by simp))
 rcases e with e | e
 ·omega
 ·exact hv k e
theorem rgamma_no (l : List UInt8) (p g : Nat) (e : Int) (w : World) (hl : l.length ≤ 1099511627776) (hp : p ≤ 8 * l.length) (hB : RHold w g l p) (he : (ybp ((yaf l).drop p)).2.2 = e) (hne : e ≠ 0) :
  Calls prog 168 #[.pointer (some ⟨g, 0, none⟩)] w fun r w' => r = .returned (.tuple #[.int .i64 0, .int .i64 e]) ∧ ∃ k, w.drewN k = w' := by
 have hlen : ((yaf l).drop p).length = 8 * l.length - p := by rw [qat, yar]
 have hzl := lz_le ((yaf l).drop p)
 unfold ybp at he
 rw [hlen] at he hzl
 have Hnou := qaa fun v hB => ycD l p g v hl hp hB
 have Hleft := qaa fun v hB => ybQ l p g v (by omega) hp hB
 have hMi : ((8 * l.length - p : Nat) : Int) ≤ 8796093022208 := by omega
 obtain ⟨c1, c2, z1, z2⟩ := Blk.two hB
 have hg := Blk.lt hB
 have HB := qaa hB
 clear hB hl hp hlen
 generalize lz ((yaf l).drop p) = z at *
 generalize 8 * l.length - p = M at *
 by_cases a1 : z = M
 ·rw [qah a1] at he
  subst he
  have b1 : (z : Int) = (M : Int) := by omega
  have b2 : ((z : Int) == (M : Int)) = true := by simp; omega
  subst a1
  go_enter func168, ntmps168
  go_wp2_with (first
   | (go_at_call 129; refine (ycb g _).mono ?_; rintro e w1 ⟨rfl, rfl⟩)
   | (go_at_call 131; refine (Hnou.out _ (HB.out.drewN 0)).mono ?_; rintro e w1 ⟨rfl, k0, rfl⟩)
   | (go_at_call 130; refine (Hleft.out _ (HB.out.drewN _)).mono ?_; rintro e w1 ⟨rfl, k1, rfl⟩))
  go_ret2
  exact ⟨rfl, _, rfl⟩
 ·rw [qag a1] at he
  have b1 : ¬ (z : Int) = (M : Int) := by omega
  have b2 : ((z : Int) == (M : Int)) = false := by simp; omega
  by_cases a2 : 32 ≤ z
  ·rw [qah a2] at he
   subst he
   have b3 : (32 : Int) ≤ (z : Int) := by omega
   go_enter func168, ntmps168
   go_wp2_with (first
    | (go_at_call 129; refine (ycb g _).mono ?_; rintro e w1 ⟨rfl, rfl⟩)
    | (go_at_call 131; refine (Hnou.out _ (HB.out.drewN 0)).mono ?_; rintro e w1 ⟨rfl, k0, rfl⟩)
    | (go_at_call 130; refine (Hleft.out _ (HB.out.drewN _)).mono ?_; rintro e w1 ⟨rfl, k1, rfl⟩))
   go_ret2
   exact ⟨rfl, _, rfl⟩
  ·rw [qag a2] at he
   by_cases a3 : M < 2 * z + 1
   ·rw [qah a3] at he
    subst he
    have b3 : ¬ (32 : Int) ≤ (z : Int) := by omega
    have b4 : (M : Int) < 2 * (z : Int) + 1 := by omega
    go_enter func168, ntmps168
    go_wp2_with (first
     | (go_at_call 129; refine (ycb g _).mono ?_; rintro e w1 ⟨rfl, rfl⟩)
     | (go_at_call 131; refine (Hnou.out _ (HB.out.drewN 0)).mono ?_; rintro e w1 ⟨rfl, k0, rfl⟩)
     | (go_at_call 130; refine (Hleft.out _ (HB.out.drewN _)).mono ?_; rintro e w1 ⟨rfl, k1, rfl⟩))
    go_ret2
    exact ⟨rfl, ⟨_, rfl⟩⟩
   ·rw [qag a3] at he
    exact absurd he.symm hne
theorem tcheck1_any (lb nb M ol cv : Nat) (Av : Option Addr) (out : List Int) (x cnt last : Int) (W : World) (hol : out.length = ol) (hle : ol ≤ M) (hM : M ≤ 257) (hlast : (out = [] ∧ last = -1) ∨ out.getLast? = some last) (hx : 0 ≤ x)
  (c1 : W.cell? ⟨lb, 0, none⟩ = some (.slice Av ol cv)) (c2 : W.cell? ⟨nb, 0, none⟩ = some (.int .i64 (M : Int))) (hr : Reads W W.heap.size 1 Av ol (ints out)) :
  Calls prog 167 #[.int .i64 x, .int .i64 cnt, .pointer (some ⟨lb, 0, none⟩), .pointer (some ⟨nb, 0, none⟩)] W fun e w' => e = .returned (.int .i64 (if x = last then 5 else if (M : Int) - ol < cnt then 40 else 0)) ∧ w' = W := by
 have hMi : (0 : Int) ≤ (ol : Int) ∧ (ol : Int) ≤ (M : Int) ∧ (M : Int) ≤ 257 := by omega
 rcases qba ol with h0 | h0
 ·subst h0
  have ho : out = [] := qaz.1 hol
  have hl : last = -1 := by
   rcases hlast with h | h
   ·exact h.2
   ·rw [ho] at h; cases h
  rw [qag (by omega)]
  clear hlast hl hol ho hr hle hM
  by_cases hc : (M : Int) - ((0 : Nat) : Int) < cnt
  ·rw [qah hc]
   have hc2 : (M : Int) < cnt := by omega
   clear hc
   go_enter func167, ntmps167
   go_wp2
   go_ret
   exact ⟨rfl, rfl⟩
  ·rw [qag hc]
   have hc2 : ¬ (M : Int) < cnt := by omega
   clear hc
   go_enter func167, ntmps167
   go_wp2
   go_ret
   exact ⟨rfl, rfl⟩
 ·obtain ⟨p, hp⟩ : ∃ p, p + 1 = ol := ⟨ol - 1, by omega⟩
  have hpl : p < out.length := by omega
  have hlp : out[p] = last := by
   rcases hlast with h | h
   ·rw [h.1] at hpl; simp at hpl
   ·rw [List.getLast?_eq_getElem?, hol, show ol - 1 = p from by omega, qaj hpl] at h
    injection h
  obtain ⟨b, off, rfl, hb, hcell⟩ := hr.2 h0
  have x1 : W.cell? ⟨b, off + p, none⟩ = some (.int .i64 last) := by
   rw [← hlp]
   exact hcell p _ (yao out p hpl)
  have hpos : (0 : Int) < (ol : Int) := by omega
  have hsub : (ol : Int) - 1 = (p : Int) := by omega
  have hw1 : IntKind.i64.wrap ((ol : Int) - 1) = (p : Int) := by rw [qai]; omega
  have hw2 : IntKind.i64.wrap (p : Int) = (p : Int) := by rw [qai]; omega
  have hpi : (0 : Int) ≤ (p : Int) ∧ (p : Int) < (ol : Int) := by omega
  clear hlast hlp hpl hp hr hcell hol hle hM h0
  by_cases hxl : x = last
  ·rw [qah hxl]
   have hb1 : (last == x) = true := by simpa using hxl.symm
   clear hxl
   go_enter func167, ntmps167
   go_wp2
   go_ret
   exact ⟨rfl, rfl⟩
  ·rw [qag hxl]
   have hb1 : (last == x) = false := by simpa using fun h => hxl h.symm
   clear hxl
   by_cases hc : (M : Int) - (ol : Int) < cnt
   ·rw [qah hc]
    go_enter func167, ntmps167
    go_wp2
    go_ret
    exact ⟨rfl, rfl⟩
   ·rw [qag hc]
    go_enter func167, ntmps167
    go_wp2
    go_ret
    exact ⟨rfl, rfl⟩
structure TRd (w wr : World) (s : List UInt8) (g M to ol : Nat) (out : List Int) (Av : Option Addr) (cv : Nat) : Prop where
 rd : RHold wr g s to
 nbx : Blk wr w.heap.size 3 #[.int .i64 (M : Int)]
 lbx : Blk wr (w.heap.size + 1) 28 #[.slice Av ol cv]
 row : wr.ownsRow (w.heap.size + 2) 3 1 (.slice Av ol cv) ol (ints out)
 tch : Touch w wr (fun k => k = g)
 glt : g < w.heap.size
section
variable {w wr w2 : World} {s : List UInt8} {g M to ol : Nat} {out : List Int} {Av : Option Addr} {cv : Nat}
theorem TRd.below (T : TRd w wr s g M to ol out Av cv) (hb : Below wr.heap.size wr w2) : TRd w w2 s g M to ol out Av cv :=
 ⟨Blk.below T.rd hb (Blk.lt T.rd), T.nbx.below hb T.nbx.lt, T.lbx.below hb T.lbx.lt, yah T.row hb (qaf _), T.tch.trans (yai hb (qaf _)), T.glt⟩
theorem TRd.go (T : TRd w wr s g M to ol out Av cv) {to2 : Nat} (h : RHold w2 g s to2) (ht : Touch wr w2 (fun k => k = g)) : TRd w w2 s g M to2 ol out Av cv :=
 ⟨h, T.nbx.touch ht (by have := T.glt; omega), T.lbx.touch ht (by have := T.glt; omega), yaG T.row ht (fun k hk e => by have := (T.row.lt k hk).1; have := T.glt; omega), T.tch.trans ht, T.glt⟩
theorem TRd.drewN (T : TRd w wr s g M to ol out Av cv) (k : Nat) : TRd w (wr.drewN k) s g M to ol out Av cv := T.below (yay (qam _ _) k)
theorem TRd.reads (T : TRd w wr s g M to ol out Av cv) : Reads wr wr.heap.size 1 Av ol (ints out) ∧ ol ≤ cv := by
 obtain ⟨A, c, e, h1, h2⟩ := yag T.row
 injection e with e1 _ e2
 subst e1 e2
 exact ⟨h2, h1⟩
theorem TRd.app (T : TRd w wr s g M to ol out Av cv) {A2 : Option Addr} {N c2 : Nat} {ys : List Int} (ho : w2.ownsRow (w.heap.size + 2) 3 1 (.slice A2 N c2) N (ints out ++ ints ys)) (hg : wr.grownBy w2 (Value.slice Av ol cv).ownBlock) :
  w2.cell? ⟨w.heap.size + 1, 0, none⟩ = some (.slice Av ol cv) ∧ w2.frozen? ⟨w.heap.size + 1, 0, none⟩ = false ∧ TRd w (w2.setCell ⟨w.heap.size + 1, 0, none⟩ (.slice A2 N c2)) s g M to N (out ++ ys) A2 c2 := by
 have hown : ∀ k, (Value.slice Av ol cv).ownBlock = some k → w.heap.size + 2 ≤ k := fun k hk => (T.row.lt k hk).1
 have hne : ∀ k, k < w.heap.size + 2 → (Value.slice Av ol cv).ownBlock ≠ some k := fun k hk e => by have := hown k e; omega
 have h1 := T.lbx.grow' hg (hne _ (by omega))
 have h2 := T.nbx.grow' hg (hne _ (by omega))
 have h3 := Blk.grow' T.rd hg (hne _ (by have := T.glt; omega))
 have ht := yaT hg
 refine ⟨h1.cell 0, h1.frozen 0, ?_, h2.far (by simp) _, ?_, ?_, ?_, T.glt⟩
 ·exact Blk.far h3 (by have := T.glt; show g ≠ w.heap.size + 1; omega) _
 ·exact h1.set_ 0 _
 ·have e : ints (out ++ ys) = ints out ++ ints ys := by simp [ints]
  rw [e]
  exact yaG ho ((Touch.refl w2 (fun k => k = w.heap.size + 1)).set (p := ⟨w.heap.size + 1, 0, none⟩) (qas rfl) _) (fun k hk e => by have := (ho.lt k hk).1; omega)
 ·refine (T.tch.next ht (fun k hk e => ?_)).set (p := ⟨w.heap.size + 1, 0, none⟩) (qaK (by show w.heap.size ≤ w.heap.size + 1; omega)) _
  have := hown k e.symm
  omega
end
theorem blk_ints {w : World} {g n : Nat} {t : TypeId} {l : List Int} (h : Blk w g t (ints l).toArray) (hn : l.length = n) : Reads w w.heap.size 1 (some ⟨g, 0, none⟩) n (ints l) :=
 ⟨by rw [yac]; omega, fun _ => ⟨g, 0, rfl, h.lt, fun j u hu => by rw [qaL, h.cell]; simpa using hu⟩⟩
def trdL (Z : List Int × Nat × Int) : List Int := if Z.2.2 ≠ 0 then [] else Z.1
def trdE (Z : List Int × Nat × Int) : Int := if Z.2.2 ≠ 0 then Z.2.2 else ya3 Z.1
theorem trd_bad {Z : List Int × Nat × Int} {to : Nat} {e : Int} (h : ([], to, e) = Z) (he : e ≠ 0) : trdL Z = [] ∧ trdE Z = e := by
 subst h
 exact ⟨qah he, qah he⟩
theorem trd_good {Z : List Int × Nat × Int} {to : Nat} {out : List Int} (h : (out, to, 0) = Z) : trdL Z = out ∧ trdE Z = ya3 out ∧ Z.2.1 = to := by
 subst h
 exact ⟨qag (by simp), qag (by simp), rfl⟩
def ydK (w w' : World) (s : List UInt8) (g : Nat) (e : Ending) (Z : List Int × Nat × Int) : Prop :=
 ∃ A c q, e = .returned (.tuple #[.slice A (trdL Z).length c, .int .i64 (trdE Z)]) ∧ (trdL Z).length ≤ c ∧ Reads w' w'.heap.size 1 A (trdL Z).length (ints (trdL Z)) ∧ RHold w' g s q ∧ Touch w w' (fun k => k = g) ∧ (Z.2.2 = 0 → q = Z.2.1) ∧ ∀ a : Addr, A = some a → w.heap.size ≤ a.block
theorem trd_end {w wr : World} {s : List UInt8} {g M to ol : Nat} {out : List Int} {Av : Option Addr} {cv : Nat} {Z : List Int × Nat × Int} {to2 : Nat} {e : Int} (T : TRd w wr s g M to ol out Av cv) (h : ([], to2, e) = Z) (he : e ≠ 0) :
  ydK w wr s g (.returned (.tuple #[.slice none 0 0, .int .i64 e])) Z := by
 obtain ⟨h1, h2⟩ := trd_bad h he
 have h3 : Z.2.2 = e := by rw [← h]
 unfold ydK
 rw [h1, h2]
 exact ⟨none, 0, to, rfl, qaf _, Reads.none_, T.rd, T.tch, fun h => absurd (h3.symm.trans h) he, fun a h => by cases h⟩
theorem p_tread_any (s : List UInt8) (p g M : Nat) (w : World) (hM : M ≤ 257) (hs : s.length ≤ 100000000000) (hp : p ≤ 8 * s.length) (hR : RHold w g s p) (Z : List Int × Nat × Int) (hZ : ycc (yaf s) M (M + 1) p (-1) [] = Z) :
  Calls prog 126 #[.pointer (some ⟨g, 0, none⟩), .int .i64 (M : Int)] w fun e w' => ydK w w' s g e Z := by
 obtain ⟨i0, hi, hz0, hz1, hz9⟩ := qb4 tint_info2
 have hmf := tmkfunc
 have hMi : (0 : Int) ≤ (M : Int) ∧ (M : Int) ≤ 257 := by omega
 have hbin : Bin (yaf s) := ycT s
 have hrl : (yaf s).length = 8 * s.length := yar s
 have hgl := Blk.lt hR
 have T0 : TRd w ((w.alloc (.cells #[.int .i64 (M : Int)] 3)).alloc (.cells #[.slice none 0 0] 28)) s g M p 0 [] none 0 := by
  have e1 : (w.alloc (.cells #[.int .i64 (M : Int)] 3)).heap.size = w.heap.size + 1 := qay _ _
  refine ⟨(Blk.alloc (Blk.alloc hR _) _), (Blk.new w _ _).alloc _, ?_, qbS _ _ _ _, ((Touch.refl w _).alloc _).alloc _, hgl⟩
  rw [← e1]
  exact Blk.new _ _ _
 have HT0 := qaa T0
 have HZ0 := qaa hZ
 have Hbf := qaa fun to x e h => bget_facts hbin to x e h
 have Huf := qaa fun (to : Nat) c e k h => ungam_facts (R := (yaf s).drop to) (fun d hd => hbin d (qbt hd)) c e k h
 have Hrl := qaa hrl
 have Hs := qaa hs
 have HL0 : Hid (([] : List Int).length = 0 ∧ M < 0 + (M + 1)) := qaa ⟨rfl, by omega⟩
 clear T0 hZ hbin hrl hs hR
 go_enter func126, ntmps126
 go_wp2
 go_loopw [8, 9, 10, 11] (fun xa xb xc xd wr => ∃ (fu to ol : Nat) (last : Int) (out : List Int) (Av : Option Addr) (cv : Nat), to ≤ 8 * s.length ∧ ol ≤ M ∧ Hid (out.length = ol ∧ M < ol + fu) ∧ Hid ((out = [] ∧ last = -1) ∨ out.getLast? = some last) ∧ Hid (ycc (yaf s) M fu to last out = Z) ∧ Hid (TRd w wr s g M to ol out Av cv)) (fun xa xb xc xd wr => M - (match wr.cell? ⟨w.heap.size + 1, 0, none⟩ with | some (.slice _ m _) => m | _ => 0))
 case atStart => exact ⟨M + 1, p, 0, -1, [], none, 0, hp, by omega, HL0, qaa (qas ⟨rfl, rfl⟩), HZ0, HT0⟩
 case round =>
  obtain ⟨fu, to, ol, last, out, Av, cv, hto, hol, HL, Hlast, HZ, HT⟩ := hrel
  clear HT0 HZ0 HL0 hp
  have x1 : wr.cell? ⟨w.heap.size + 1, 0, none⟩ = some (.slice Av ol cv) := HT.out.lbx.cell 0
  have x2 : wr.cell? ⟨w.heap.size, 0, none⟩ = some (.int .i64 (M : Int)) := HT.out.nbx.cell 0
  rw [x1]
  by_cases hlt : ol < M
  ·have hoi : (ol : Int) < (M : Int) := by omega
   obtain ⟨f, hf⟩ : ∃ f, fu = f + 1 := ⟨fu - 1, by have := HL.out.2; omega⟩
   have hz := HZ.out
   rw [hf, ycq, qag (by have := HL.out.1; omega)] at hz
   have Hfu : Hid (M < ol + (f + 1)) := qaa (by have := HL.out.2; omega)
   clear hf
   obtain ⟨x, e, hxe⟩ : ∃ x e, ybs (yaf s) to 4 = (x, e) := ⟨_, _, rfl⟩
   have hbf := Hbf.out to x e hxe
   rw [hxe] at hz
   dsimp only at hz
   rcases hbf with ⟨rfl, h4, hx0, hx1⟩ | ⟨rfl, rfl⟩
   ·rw [qag (by decide)] at hz
    rw [Hrl.out] at h4
    have hxv : ((num (((yaf s).drop to).take 4) : Nat) : Int) = x := by
     have := qbD Prod.fst hxe
     unfold ybs at this
     rw [qag (by omega), qag (by rw [Hrl.out]; omega), qav] at this
     exact this
    have hget : Calls prog 128 #[.pointer (some ⟨g, 0, none⟩), .int .i64 4] wr fun e w' => e = .returned (.tuple #[.int .i64 ((num (((yaf s).drop to).take 4) : Nat) : Int), .int .i64 0]) ∧ RHold w' g s (to + 4) ∧ Touch wr w' (fun k => k = g) := get_yes s to 4 g wr (by have := Hs.out; omega) h4 (by decide) HT.out.rd
    rw [hxv] at hget
    have Hget := qaa hget
    obtain ⟨c, k, fe, hke⟩ : ∃ c k fe, ybp ((yaf s).drop (to + 4)) = (c, k, fe) := ⟨_, _, _, rfl⟩
    have huf := Huf.out (to + 4) c fe k hke
    rw [hke] at hz
    dsimp only at hz
    clear hget hxv hxe
    by_cases hfe : fe = 0
    ·subst hfe
     rcases huf with ⟨_, hk1, hk2, hsl⟩ | h
     ·rw [qat, Hrl.out] at hsl
      rw [qag (by decide)] at hz
      obtain ⟨d, rfl⟩ := qaQ (by omega : 0 ≤ c)
      have hto2 : to + 4 + k ≤ 8 * s.length := by omega
      have Hgam := qaa fun W hR => rgamma_yes s (to + 4) g d W (by have := Hs.out; omega) h4 hR k hke
      have hchk := fun W c1 c2 hr => tcheck1_any (w.heap.size + 1) w.heap.size M ol cv Av out x (d : Int) last W HL.out.1 hol hM Hlast.out hx0 c1 c2 hr
      rw [HL.out.1] at hz
      clear hke hsl
      by_cases hxl : x = last
      ·rw [qah hxl] at hz
       rw [qah hxl] at hchk
       have Hchk := qaa hchk
       have Hend := qaa fun (W : World) (h : TRd w W s g M (to + 4 + k) ol out Av cv) => trd_end h hz (by decide)
       clear hz hchk hxl
       go_wp2_with (first
        | (go_at_call 128; refine Hget.out.mono ?_; rintro e w2 ⟨rfl, hR2, ht2⟩; have HT2 := qaa (HT.out.go hR2 ht2); clear hR2 ht2)
        | (go_at_call 168; refine (Hgam.out _ HT2.out.rd).mono ?_; rintro e w3 ⟨rfl, hR3, ht3⟩; have HT3 := qaa (HT2.out.go hR3 ht3); clear hR3 ht3)
        | (go_at_call 167; refine (Hchk.out _ (HT3.out.lbx.cell 0) (HT3.out.nbx.cell 0) HT3.out.reads.1).mono ?_; rintro e w4 ⟨rfl, rfl⟩))
       go_ret2
       exact Hend.out _ HT3.out
      ·rw [qag hxl] at hz
       rw [qag hxl] at hchk
       by_cases hkb : (M : Int) - ol < (d : Int)
       ·rw [qah hkb] at hz
        rw [qah hkb] at hchk
        have Hchk := qaa hchk
        have Hend := qaa fun (W : World) (h : TRd w W s g M (to + 4 + k) ol out Av cv) => trd_end h hz (by decide)
        clear hz hchk hxl hkb
        go_wp2_with (first
         | (go_at_call 128; refine Hget.out.mono ?_; rintro e w2 ⟨rfl, hR2, ht2⟩; have HT2 := qaa (HT.out.go hR2 ht2); clear hR2 ht2)
         | (go_at_call 168; refine (Hgam.out _ HT2.out.rd).mono ?_; rintro e w3 ⟨rfl, hR3, ht3⟩; have HT3 := qaa (HT2.out.go hR3 ht3); clear hR3 ht3)
         | (go_at_call 167; refine (Hchk.out _ (HT3.out.lbx.cell 0) (HT3.out.nbx.cell 0) HT3.out.reads.1).mono ?_; rintro e w4 ⟨rfl, rfl⟩))
        go_ret2
        exact Hend.out _ HT3.out
       ·rw [qag hkb] at hz
        rw [qag hkb] at hchk
        rw [qav] at hz
        have Hchk := qaa hchk
        have Hz := qaa hz
        have hdm : ol + d ≤ M ∧ 1 ≤ d ∧ d ≤ 257 := by omega
        clear hz hchk hxl hkb hk1 hk2
        go_wp2_with (first
         | (go_at_call 128; refine Hget.out.mono ?_; rintro e w2 ⟨rfl, hR2, ht2⟩; have HT2 := qaa (HT.out.go hR2 ht2); clear hR2 ht2)
         | (go_at_call 168; refine (Hgam.out _ HT2.out.rd).mono ?_; rintro e w3 ⟨rfl, hR3, ht3⟩; have HT3 := qaa (HT2.out.go hR3 ht3); clear hR3 ht3)
         | (go_at_call 167; refine (Hchk.out _ (HT3.out.lbx.cell 0) (HT3.out.nbx.cell 0) HT3.out.reads.1).mono ?_; rintro e w4 ⟨rfl, rfl⟩))
        have hsz : w.heap.size ≤ w4.heap.size := HT3.out.tch.size
        have hlbs : w.heap.size + 1 < w4.heap.size := HT3.out.lbx.lt
        have y1 : w4.cell? ⟨w.heap.size + 1, 0, none⟩ = some (.slice Av ol cv) := HT3.out.lbx.cell 0
        have Hrep := qaa (trepeat_any x (some ⟨w4.heap.size, 0, none⟩) 1 d (w4.drew.alloc (.cells #[.int .i64 x] 3)) (by omega) (by omega) (by
         have := yaB w4.drew 3 #[.int .i64 x] 1 1 rfl
         exact this.more (by simp)))
        have Hpre : Hid (Below w4.heap.size w4 (w4.drew.alloc (.cells #[.int .i64 x] 3))) := qaa ((qam w4.heap.size w4).drew.alloc (qaf _) _)
        have Hone : Hid (∀ u ∈ ints (List.replicate d x), u.oneCell' = true) := qaa (ygV _)
        clear x1 x2
        go_region_law (first
         | (go_simp; go_at_call 169; refine Hrep.out.mono ?_; rintro e w6 ⟨g4, rfl, hg4, hB4, hb4⟩; have Hb4 := qaa (Hpre.out.trans (hb4.mono Hpre.out.size)); have HT4 := qaa (HT3.out.below Hb4.out); have HB4 := qaa hB4; have y4 : w6.cell? ⟨w.heap.size + 1, 0, none⟩ = some (.slice Av ol cv) := HT4.out.lbx.cell 0; clear hB4 hb4 hg4)
         | (refine yat (by rfl) (.tmp 40) (.tmp 44) 28 (by rfl) (w.heap.size + 2) 3 i0 _ 1 8 underlying28 hi hz0 hz1 hz9 rfl (by decide) (.slice Av ol cv) ol (ints out) (by rfl) HT4.out.row (some ⟨g4, 0, none⟩) d d _ (ints (List.replicate d x)) (by rfl) (blk_ints HB4.out (by simp)) Hone.out (by unfold maxLen; omega) (by omega) (HT4.out.lbx.lt) (ol + d) rfl ?_; intro A5 c5 w7 ho5 hg5 hs5; obtain ⟨z1, z2, hT5⟩ := HT4.out.app ho5 hg5; have HT5 := qaa hT5; clear hT5 ho5 hg5 hs5))
        all_goals (
         go_wp2
         have HT8 := qaa HT5.out
         have x8 := HT8.out.lbx.cell 0
         clear Hlast
         go_roundw
         case rel => exact ⟨f, to + 4 + k, ol + d, x, out ++ List.replicate d x, A5, c5, hto2, hdm.1, qaa ⟨by rw [qae, qaE, HL.out.1], by have := Hfu.out; omega⟩, qaa (qaK (by rw [show d = d - 1 + 1 from by omega, qcz, ← qak, List.getLast?_append]; simp)), qaa Hz.out, HT8⟩
         case measure =>
          rw [x8]
          show M - (ol + d) < M - ol
          omega)
     ·exact absurd h (by decide)
    ·rw [qah hfe] at hz
     have Hgam := qaa fun W hR => rgamma_no s (to + 4) g fe W (by have := Hs.out; omega) h4 hR (by rw [hke]) hfe
     have Hend := qaa fun (W : World) (h : TRd w W s g M (to + 4) ol out Av cv) => trd_end h hz hfe
     have hb1 : (fe == 0) = false := by simpa using hfe
     have hb2 : (fe != 0) = true := by simpa using hfe
     clear hz hke huf
     go_wp2_with (first
      | (go_at_call 128; refine Hget.out.mono ?_; rintro e w2 ⟨rfl, hR2, ht2⟩; have HT2 := qaa (HT.out.go hR2 ht2); clear hR2 ht2)
      | (go_at_call 168; refine (Hgam.out _ HT2.out.rd).mono ?_; rintro e w3 ⟨rfl, kd, rfl⟩))
     go_ret2
     exact Hend.out _ (HT2.out.drewN kd)
   ·rw [qah (by decide)] at hz
    have Hget := qaa (get_no s to g 4 4 wr (by have := Hs.out; omega) hto HT.out.rd (by rw [hxe]) (by decide))
    have Hend := qaa fun k => trd_end (HT.out.drewN k) hz (by decide)
    clear hz hxe
    go_wp2_with (go_at_call 128; refine Hget.out.mono ?_; rintro e w2 ⟨rfl, kd, rfl⟩)
    go_ret2
    exact Hend.out _
  ·have hoi : ¬ (ol : Int) < (M : Int) := by omega
   obtain ⟨f, hf⟩ : ∃ f, fu = f + 1 ∨ fu = 0 := ⟨fu - 1, by omega⟩
   have hz : (out, to, (0 : Int)) = Z := by
    have h := HZ.out
    rcases hf with hf | hf
    ·rw [hf, ycq, qah (by have := HL.out.1; omega)] at h
     exact h
    ·rw [hf] at h
     exact h
   obtain ⟨g1, g2, g3⟩ := trd_good hz
   have G1 := qaa g1
   have G2 := qaa g2
   have G3 := qaa g3
   have Hck := qaa fun (W : World) (T : TRd w W s g M to ol out Av cv) => ydQ out Av ol cv W (by omega) T.reads.1
   rw [yeJ] at Hck
   have hfin : Hid (∀ W, TRd w W s g M to ol out Av cv → ydK w W s g (.returned (.tuple #[.slice Av ol cv, .int .i64 (ya3 out)])) Z) := qaa fun W T => by
    unfold ydK
    rw [G1.out, G2.out, HL.out.1]
    exact ⟨Av, cv, to, rfl, T.reads.2, T.reads.1, T.rd, T.tch, fun _ => G3.out.symm, fun a h => by have := (T.row.lt a.block (by rw [h]; rfl)).1; omega⟩
   have H0 : Hid (wr.drew.cell? ⟨w.heap.size + 1, 0, none⟩ = some (.slice Av ol cv) ∧ TRd w wr.drew s g M to ol out Av cv) := qaa ⟨x1, HT.out.drewN 1⟩
   clear hf hz g1 g2 g3
   generalize ya3 out = E at *
   go_wp2
   go_region_held3 (fun w' => w'.cell? ⟨w.heap.size + 1, 0, none⟩ = some (.slice Av ol cv) ∧ TRd w w' s g M to ol out Av cv)
    (first | exact ⟨((show _ ∧ TRd w _ s g M to ol out Av cv by assumption).2.below hb1).lbx.cell 0, (show _ ∧ TRd w _ s g M to ol out Av cv by assumption).2.below hb1⟩ | exact H0.out)
    (first | (go_at_call 104; refine (Hck.out _ (show _ ∧ TRd w _ s g M to ol out Av cv by assumption).2).mono ?_; rintro e w' ⟨rfl, hb1⟩))
   go_wp2
   go_ret2
   exact hfin.out _ (show _ ∧ TRd w _ s g M to ol out Av cv by assumption).2
end Go.Proofs.YtanjhbkbpalnaaaGreat
