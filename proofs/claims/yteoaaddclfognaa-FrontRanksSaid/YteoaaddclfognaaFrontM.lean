/-
  Layer 6, plain: the row as a list of bytes, a step, ranks, text, the row behind bytes, and what follows.
-/
import Derived.Test.YteoaaddclfognaaMore
namespace Go.Proofs.Yteoaaddclfognaa
set_option linter.unusedSimpArgs false
set_option linter.unusedVariables false
open Go.ChangeShapes Go.WideShapes Go.ChangeAt Go.RowKit Go.Joins Go.Deep

/-- The row as it begins. -/
def row0 : List UInt8 := (List.range 256).map UInt8.ofNat
/-- The byte of a place goes to the front. -/
def mv (R : List UInt8) (k : Nat) : List UInt8 := R.getD k 0 :: (R.take k ++ R.drop (k + 1))
/-- A byte's place. -/
def pl (R : List UInt8) (b : UInt8) : Nat := R.idxOf b
def rowS (R : List UInt8) (s : List UInt8) : List UInt8 := s.foldl (fun R b => mv R (pl R b)) R
def rks : List UInt8 → List UInt8 → List Int
  | _, [] => []
  | R, b :: t => (pl R b : Int) :: rks (mv R (pl R b)) t
/-- All are ranks. -/
def rgood (ks : List Int) : Bool := ks.all fun k => decide (0 ≤ k) && decide (k ≤ 255)
def rowK (R : List UInt8) (ks : List Int) : List UInt8 := ks.foldl (fun R k => mv R k.toNat) R
def bys : List UInt8 → List Int → List UInt8
  | _, [] => []
  | R, k :: t => R.getD k.toNat 0 :: bys (mv R k.toNat) t
/-- What Text answers. -/
def rtextF (ks : List Int) : List UInt8 × Int := if rgood ks = true then (bys row0 ks, 0) else ([], 60)

/-! ### The row has each byte once -/
structure Whole (R : List UInt8) : Prop where
  nodup : R.Nodup
  len : R.length = 256
  mem : ∀ b, b ∈ R
theorem row0_get (k : Nat) (h : k < 256) : row0[k]? = some (UInt8.ofNat k) := by simp [row0, h]
theorem row0_len : row0.length = 256 := by simp [row0]
theorem row0_lt : row0.Pairwise (fun a b => a.toNat < b.toNat) := by
  unfold row0
  rw [List.pairwise_map]
  refine List.Pairwise.imp_of_mem ?_ List.pairwise_lt_range
  intro a b ha hb h
  rw [List.mem_range] at ha hb
  rw [u8_ofNat _ ha, u8_ofNat _ hb]
  exact h
theorem row0_mem (b : UInt8) : b ∈ row0 := by
  unfold row0
  exact List.mem_map.2 ⟨b.toNat, List.mem_range.2 (u8_lt b), u8_eq (u8_ofNat _ (u8_lt b))⟩
theorem row0_nodup : row0.Nodup := by
  unfold List.Nodup
  exact row0_lt.imp fun h e => by rw [e] at h; omega
theorem row0_whole : Whole row0 := ⟨row0_nodup, row0_len, row0_mem⟩
theorem getD_get (R : List UInt8) (k : Nat) (h : k < R.length) : R.getD k 0 = R[k] := by rw [List.getD_eq_getElem?_getD, List.getElem?_eq_getElem h]; rfl
theorem parted (R : List UInt8) (k : Nat) (h : k < R.length) : R = R.take k ++ R.getD k 0 :: R.drop (k + 1) := by
  rw [getD_get R k h, ← List.drop_eq_getElem_cons h, List.take_append_drop]
theorem mv_perm (R : List UInt8) (k : Nat) (h : k < R.length) : (mv R k).Perm R := by
  conv => rhs; rw [parted R k h]
  unfold mv
  exact List.perm_middle.symm
theorem mv_len (R : List UInt8) (k : Nat) (h : k < R.length) : (mv R k).length = R.length := (mv_perm R k h).length_eq
theorem Whole.mv {R : List UInt8} (h : Whole R) (k : Nat) (hk : k < 256) : Whole (mv R k) := by
  have hp := mv_perm R k (by rw [h.len]; exact hk)
  exact ⟨hp.nodup_iff.2 h.nodup, hp.length_eq.trans h.len, fun b => hp.mem_iff.2 (h.mem b)⟩
theorem pl_lt {R : List UInt8} (h : Whole R) (b : UInt8) : pl R b < 256 := by
  have := List.idxOf_lt_length_of_mem (h.mem b)
  rw [h.len] at this
  exact this
theorem pl_get {R : List UInt8} (h : Whole R) (b : UInt8) : R.getD (pl R b) 0 = b := by
  have := pl_lt h b
  rw [getD_get _ _ (by rw [h.len]; exact this)]
  exact List.getElem_idxOf _
theorem pl_of {R : List UInt8} (h : Whole R) (k : Nat) (hk : k < 256) : pl R (R.getD k 0) = k := by
  have h1 := pl_lt h (R.getD k 0)
  have h2 := pl_get h (R.getD k 0)
  generalize hj : pl R (R.getD k 0) = j at *
  rw [getD_get _ _ (by rw [h.len]; exact h1), getD_get _ _ (by rw [h.len]; exact hk)] at h2
  exact (List.getElem_inj h.nodup).1 h2
theorem Whole.rowS {R : List UInt8} (h : Whole R) : ∀ s, Whole (rowS R s)
  | [] => h
  | b :: t => by
    have := Whole.rowS (h.mv (pl R b) (pl_lt h b)) t
    exact this
theorem rgood_cons (k : Int) (t : List Int) : rgood (k :: t) = true ↔ (0 ≤ k ∧ k ≤ 255) ∧ rgood t = true := by simp [rgood]
theorem Whole.rowK {R : List UInt8} (h : Whole R) : ∀ ks, rgood ks = true → Whole (rowK R ks) := by
  intro ks
  induction ks generalizing R with
  | nil => intro _; exact h
  | cons k t ih =>
    intro hg
    rw [rgood_cons] at hg
    exact ih (h.mv k.toNat (by omega)) hg.2

/-! ### Step by step -/
theorem rowS_snoc (R s : List UInt8) (b : UInt8) : rowS R (s ++ [b]) = mv (rowS R s) (pl (rowS R s) b) := by simp [rowS, List.foldl_append]
theorem rks_snoc (s : List UInt8) (b : UInt8) : ∀ R, rks R (s ++ [b]) = rks R s ++ [(pl (rowS R s) b : Int)] := by
  induction s with
  | nil => intro R; rfl
  | cons c t ih => intro R; show _ :: rks _ (t ++ [b]) = _; rw [ih]; rfl
theorem rks_len (s : List UInt8) : ∀ R, (rks R s).length = s.length := by
  induction s with
  | nil => intro R; rfl
  | cons c t ih => intro R; show (rks _ t).length + 1 = _; rw [ih]; rfl
theorem rowK_snoc (R : List UInt8) (ks : List Int) (k : Int) : rowK R (ks ++ [k]) = mv (rowK R ks) k.toNat := by simp [rowK, List.foldl_append]
theorem bys_snoc (ks : List Int) (k : Int) : ∀ R, bys R (ks ++ [k]) = bys R ks ++ [(rowK R ks).getD k.toNat 0] := by
  induction ks with
  | nil => intro R; rfl
  | cons c t ih => intro R; show _ :: bys _ (t ++ [k]) = _; rw [ih]; rfl
theorem bys_len (ks : List Int) : ∀ R, (bys R ks).length = ks.length := by
  induction ks with
  | nil => intro R; rfl
  | cons c t ih => intro R; show (bys _ t).length + 1 = _; rw [ih]; rfl
theorem rgood_snoc (ks : List Int) (k : Int) : rgood (ks ++ [k]) = (rgood ks && (decide (0 ≤ k) && decide (k ≤ 255))) := by simp [rgood, List.all_append]
theorem take_snoc {α : Type} (l : List α) (k : Nat) (h : k < l.length) : l.take (k + 1) = l.take k ++ [l[k]] := List.take_succ_eq_append_getElem h
theorem rowS_take (R l : List UInt8) (k : Nat) (h : k < l.length) : rowS R (l.take (k + 1)) = mv (rowS R (l.take k)) (pl (rowS R (l.take k)) l[k]) := by rw [take_snoc l k h, rowS_snoc]
theorem rks_take (R l : List UInt8) (k : Nat) (h : k < l.length) : rks R (l.take (k + 1)) = rks R (l.take k) ++ [(pl (rowS R (l.take k)) l[k] : Int)] := by rw [take_snoc l k h, rks_snoc]
theorem rowK_take (R : List UInt8) (l : List Int) (k : Nat) (h : k < l.length) : rowK R (l.take (k + 1)) = mv (rowK R (l.take k)) l[k].toNat := by rw [take_snoc l k h, rowK_snoc]
theorem bys_take (R : List UInt8) (l : List Int) (k : Nat) (h : k < l.length) : bys R (l.take (k + 1)) = bys R (l.take k) ++ [(rowK R (l.take k)).getD l[k].toNat 0] := by rw [take_snoc l k h, bys_snoc]

/-! ### Back -/
theorem back_text : ∀ (s R : List UInt8), Whole R → bys R (rks R s) = s ∧ rgood (rks R s) = true
  | [], _, _ => ⟨rfl, rfl⟩
  | b :: t, R, h => by
    have hl := pl_lt h b
    obtain ⟨h1, h2⟩ := back_text t (mv R (pl R b)) (h.mv _ hl)
    refine ⟨?_, ?_⟩
    · show R.getD (pl R b : Int).toNat 0 :: bys (mv R (pl R b : Int).toNat) (rks (mv R (pl R b)) t) = b :: t
      rw [Int.toNat_natCast, h1, pl_get h]
    · show rgood ((pl R b : Int) :: rks (mv R (pl R b)) t) = true
      rw [rgood_cons]
      exact ⟨by omega, h2⟩
theorem back_ranks : ∀ (ks : List Int) (R : List UInt8), Whole R → rgood ks = true → rks R (bys R ks) = ks
  | [], _, _, _ => rfl
  | k :: t, R, h, hg => by
    rw [rgood_cons] at hg
    have hk : k.toNat < 256 := by omega
    show (pl R (R.getD k.toNat 0) : Int) :: rks (mv R (pl R (R.getD k.toNat 0))) (bys (mv R k.toNat) t) = k :: t
    rw [pl_of h _ hk, back_ranks t _ (h.mv _ hk) hg.2]
    congr 1
    omega
theorem text_ranks (s : List UInt8) : rtextF (rks row0 s) = (s, 0) := by
  obtain ⟨h1, h2⟩ := back_text s row0 row0_whole
  unfold rtextF
  rw [if_pos h2, h1]
end Go.Proofs.Yteoaaddclfognaa
