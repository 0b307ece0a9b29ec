/-
 What the law of the last of these texts stands on, part 48.
-/
import Derived.Test.YtanjhbkbpalnaaaGreatMa32
import Derived.Test.YtanjhbkbpalnaaaGreatMa35
set_option maxRecDepth 100000
set_option maxHeartbeats 8000000
open Go.Proofs.Tryz
namespace Go.Proofs.YtanjhbkbpalnaaaGreat
set_option linter.unusedSimpArgs false
set_option linter.unusedVariables false
open Go.ChangeShapes Go.WideShapes Go.ChangeAt Go.RowKit Go.Joins Go.Deep
theorem qless_same (x : UInt8) : ∀ a b : Nat, Op.bytesLess (List.replicate a x) (List.replicate b x) = true → a < b
 | a, 0, h => by
  rw [qcG, ycr] at h
  cases h
 | 0, b + 1, _ => Nat.succ_pos b
 | a + 1, b + 1, h => by
  rw [qaP, qaP, ydb] at h
  rcases h with h | ⟨_, h⟩
  ·omega
  ·have := qless_same x a b h
   omega
theorem qsame_pr (n : Nat) (x : UInt8) : bpr (List.replicate n x) = n := by
 have hl := yf4 (List.replicate n x)
 rw [qav] at hl
 obtain ⟨h, e⟩ := bpr_get (List.replicate n x)
 by_cases hn : bpr (List.replicate n x) = n
 ·exact hn
 ·have h2 : bpr (List.replicate n x) + 1 < (sarr (List.replicate n x)).length := by
   rw [yb0, qav]
   omega
  have h3 := sarr_next _ _ h2
  rw [e, qbi, List.drop_replicate] at h3
  have := qless_same x _ _ h3
  omega
theorem qsame_last (n : Nat) (x : UInt8) : yaV (List.replicate n x) = List.replicate n x := List.perm_replicate.1 (blast_perm _)
theorem qmv_head (R : List UInt8) (k : Nat) : ∃ T, mv R k = R.getD k 0 :: T := ⟨_, rfl⟩
theorem qsame_go (x : UInt8) (T : List UInt8) : ∀ m, rks (x :: T) (List.replicate m x) = List.replicate m 0
 | 0 => rfl
 | m + 1 => by
  have e : pl (x :: T) x = 0 := by unfold pl; simp
  have e2 : mv (x :: T) 0 = x :: T := by unfold mv; simp
  rw [qaP, qaP]
  show ((pl (x :: T) x : Nat) : Int) :: rks (mv (x :: T) (pl (x :: T) x)) _ = _
  rw [e, e2, qsame_go x T m]
  rfl
theorem qsame_rks (n : Nat) (x : UInt8) : rks row0 (List.replicate (n + 1) x) = ((pl row0 x : Nat) : Int) :: List.replicate n 0 := by
 rw [qaP]
 show ((pl row0 x : Nat) : Int) :: rks (mv row0 (pl row0 x)) _ = _
 obtain ⟨T, e⟩ := qmv_head row0 (pl row0 x)
 rw [pl_get row0_whole] at e
 rw [e, qsame_go]
theorem qsame_sy (n : Nat) (x : UInt8) (hn : n < 5000) : ∃ y : Nat, y < 257 ∧ (qsy (List.replicate (n + 1) x)).length ≤ 13 ∧ ∀ s ∈ qsy (List.replicate (n + 1) x), s = 0 ∨ s = 1 ∨ s = (y : Int) := by
 have hk := pl_lt row0_whole x
 have hz : ∀ m : Nat, m ≤ 5000 → (zd m).length ≤ 12 := fun m hm => by
  rw [zd_log]
  exact zlog_lt 12 (m + 1) (by omega)
 have hd : ∀ m : Nat, ∀ s ∈ zd m, s = 0 ∨ s = 1 := fun m s hs => by
  have hg := yci m
  unfold ya2 at hg
  rw [qbH] at hg
  have := hg s hs
  simp at this
  omega
 unfold qsy
 rw [qsame_last, qsame_rks]
 by_cases h0 : pl row0 x = 0
 ·refine ⟨0, by omega, ?_, ?_⟩
  all_goals
   rw [h0, show (((0 : Nat) : Int) :: List.replicate n 0) = List.replicate (n + 1) 0 from by rw [qaP]; rfl, ydT]
  ·have := hz (n + 1) (by omega)
   omega
  ·intro s hs
   rcases hd _ s hs with h | h
   ·exact qay h
   ·exact qaI (qay h)
 ·refine ⟨pl row0 x + 1, by omega, ?_, ?_⟩
  all_goals rw [yd6 _ _ (by omega), ydT]
  ·have := hz n (by omega)
   rw [qap]
   omega
  ·intro s hs
   rcases qaC.1 hs with h | h
   ·exact qaI (qaI (by omega))
   ·rcases hd _ s h with h | h
    ·exact qay h
    ·exact qaI (qay h)
theorem qbl (n k : Nat) (h0 : n ≠ 0) (h : n < 2 ^ k) (hk : k ≤ 32) : 1 ≤ bl n ∧ bl n ≤ k ∧ 2 ^ (bl n - 1) ≤ n ∧ n < 2 ^ bl n := by
 obtain ⟨h1, h2, h3⟩ := ycF k n h0 h (by omega)
 refine ⟨h1, ?_, h2, h3⟩
 have h4 : 2 ^ (bl n - 1) < 2 ^ k := Nat.lt_of_le_of_lt h2 h
 have := (Nat.pow_lt_pow_iff_right (by omega)).1 h4
 omega
theorem qgam_len (n : Nat) (h0 : n ≠ 0) (h : n < 4294967296) : (gam n).length = 2 * (bl n - 1) + 1 := (yg6 n [] h0 h).2
theorem ycd (x : Int) (n : Nat) (h0 : n ≠ 0) (h : n < 4294967296) : (trb x n).length = 5 + 2 * (bl n - 1) := by
 unfold trb digI
 rw [qab, yad, qgam_len n h0 h]
 show 4 + (2 * (bl n - 1) + 1) = _
 omega
theorem qbl_add (c d : Nat) (hc : c ≠ 0) (hd : d ≠ 0) (h : c + d < 4294967296) : bl (c + d) ≤ bl c + bl d := by
 obtain ⟨a1, _, _, a4⟩ := qbl c 32 hc (by omega) (by omega)
 obtain ⟨b1, _, _, b4⟩ := qbl d 32 hd (by omega) (by omega)
 have h1 : c + d < 2 ^ (bl c + bl d) := by
  have e1 : 2 ^ bl c = 2 * 2 ^ (bl c - 1) := by rw [← Nat.pow_succ']; congr 1; omega
  have e2 : 2 ^ bl d = 2 * 2 ^ (bl d - 1) := by rw [← Nat.pow_succ']; congr 1; omega
  have p1 := Nat.two_pow_pos (bl c - 1)
  have p2 := Nat.two_pow_pos (bl d - 1)
  rw [qbF, e1, e2]
  rw [e1] at a4
  rw [e2] at b4
  generalize 2 ^ (bl c - 1) = u at *
  generalize 2 ^ (bl d - 1) = v at *
  have h2 : 2 * u * (2 * v) = 4 * (u * v) := by rw [Nat.mul_mul_mul_comm]
  rw [h2]
  have h3 : u * v + 1 ≥ u + v := by
   obtain ⟨i, rfl⟩ : ∃ i, u = i + 1 := ⟨u - 1, by omega⟩
   obtain ⟨j, rfl⟩ : ∃ j, v = j + 1 := ⟨v - 1, by omega⟩
   rw [qcs, Nat.mul_add]
   omega
  have h4 : 1 ≤ u * v := Nat.mul_pos p1 p2
  omega
 have h5 := (ycF 32 (c + d) (by omega) (by omega) (by omega)).2.1
 have h6 : 2 ^ (bl (c + d) - 1) < 2 ^ (bl c + bl d) := Nat.lt_of_le_of_lt h5 h1
 have := (Nat.pow_lt_pow_iff_right (by omega)).1 h6
 omega
theorem qtb_more : ∀ (t : List Int) (x : Int) (c d : Nat), c ≠ 0 → d ≠ 0 → c + d + t.length < 4294967296 → (tbP x (c + d) t).length ≤ (trb x c).length + (tbP x d t).length
 | [], x, c, d, hc, hd, h => by
  show (trb x (c + d)).length ≤ _ + (trb x d).length
  rw [qbx] at h
  rw [ycd x _ (by omega) (by omega), ycd x c hc (by omega), ycd x d hd (by omega)]
  have := qbl_add c d hc hd (by omega)
  have a := (qbl c 32 hc (by omega) (by omega)).1
  have b := (qbl d 32 hd (by omega) (by omega)).1
  omega
 | y :: t, x, c, d, hc, hd, h => by
  rw [qap] at h
  show (if y = x then tbP x (c + d + 1) t else trb x (c + d) ++ tbP y 1 t).length ≤ _ + (if y = x then tbP x (d + 1) t else trb x d ++ tbP y 1 t).length
  by_cases e : y = x
  ·rw [qag e, qag e]
   exact qtb_more t x c (d + 1) hc (by omega) (by omega)
  ·rw [qae e, qae e, qab, qab, ycd x _ (by omega) (by omega), ycd x c hc (by omega), ycd x d hd (by omega)]
   have := qbl_add c d hc hd (by omega)
   have a := (qbl c 32 hc (by omega) (by omega)).1
   have b := (qbl d 32 hd (by omega) (by omega)).1
   omega
theorem qtb_app : ∀ (a b : List Int) (x : Int) (c : Nat), c ≠ 0 → c + a.length + b.length < 4294967296 → (tbP x c (a ++ b)).length ≤ (tbP x c a).length + (yaw b).length
 | [], [], x, c, hc, h => Nat.le_add_right _ _
 | [], y :: t, x, c, hc, h => by
  show (if y = x then tbP x (c + 1) t else trb x c ++ tbP y 1 t).length ≤ (trb x c).length + (tbP y 1 t).length
  rw [qap, qbx] at h
  by_cases e : y = x
  ·rw [qag e, e]
   exact qtb_more t x c 1 hc (by omega) (by omega)
  ·rw [qae e, qab]
   exact qad _
 | z :: a, b, x, c, hc, h => by
  rw [qap] at h
  show (if z = x then tbP x (c + 1) (a ++ b) else trb x c ++ tbP z 1 (a ++ b)).length ≤ (if z = x then tbP x (c + 1) a else trb x c ++ tbP z 1 a).length + _
  by_cases e : z = x
  ·rw [qag e, qag e]
   exact qtb_app a b x (c + 1) (by omega) (by omega)
  ·rw [qae e, qae e, qab, qab]
   have := qtb_app a b z 1 (by omega) (by omega)
   omega
theorem yd8 (a b : List Int) (h : a.length + b.length < 1000000) : (yaw (a ++ b)).length ≤ (yaw a).length + (yaw b).length := by
 cases a with
 | nil => exact Nat.le_add_left _ _
 | cons z a =>
  rw [qap] at h
  exact qtb_app a b z 1 (by omega) (by omega)
theorem yfe (x : Int) (d : Nat) (hd : d < 256) : (yaw (List.replicate d x)).length ≤ 19 := by
 cases d with
 | zero => exact qcb _
 | succ d =>
  have := yhg x (d + 1) [] (by omega) (by simp)
  rw [qa8] at this
  rw [this, qab, ycd x _ (by omega) (by omega)]
  have := (qbl (d + 1) 8 (by omega) (by omega) (by omega)).2.1
  show 5 + 2 * (bl (d + 1) - 1) + 0 ≤ 19
  omega
theorem yeX (x : Int) : (yaw [x]).length = 5 := by
 show (trb x 1).length = 5
 rw [ycd x 1 (by omega) (by omega), bl_of (k := 0) (by omega) (by omega) (by omega)]
theorem qparts (l : List Int) (y : Nat) (hl : l.length = 257) (hy : y < 257) (h : ∀ j (hj : j < l.length), j ≠ 0 → j ≠ 1 → j ≠ y → l[j] = 0) : (yaw l).length ≤ 57 := by
 have hz : ∀ a b : Nat, a ≤ b → b ≤ 257 → (∀ j, a ≤ j → j < b → j ≠ 0 ∧ j ≠ 1 ∧ j ≠ y) → (l.drop a).take (b - a) = List.replicate (b - a) 0 := fun a b hab hb hj => by
  rw [List.eq_replicate_iff]
  refine ⟨by rw [qao, qas]; omega, fun v hv => ?_⟩
  obtain ⟨i, hi, rfl⟩ := qaJ hv
  rw [qao, qas] at hi
  rw [qc9, qbL]
  obtain ⟨a1, a2, a3⟩ := hj (a + i) (by omega) (by omega)
  exact h (a + i) (by omega) a1 a2 a3
 have e2 : l = [l[0]'(by omega)] ++ ([l[1]'(by omega)] ++ l.drop 2) := by
  have a0 := qau (show 0 < l.length by omega)
  have a1 := qau (show 1 < l.length by omega)
  rw [qbi] at a0
  rw [a1] at a0
  exact a0
 have hq : (yaw (l.drop 2)).length ≤ 43 := by
  by_cases h2 : 2 ≤ y
  ·have b0 : l.drop 2 = (l.drop 2).take (y - 2) ++ ([l[y]'(by omega)] ++ (l.drop (y + 1)).take (257 - (y + 1))) := by
    have c1 := qau (show y < l.length by omega)
    have c2 : (l.drop (y + 1)).take (257 - (y + 1)) = l.drop (y + 1) := qar (by rw [qas]; omega)
    have c3 : (l.drop 2).drop (y - 2) = l.drop y := by rw [qbt]; congr 1; omega
    have c4 := qax (y - 2) (l.drop 2)
    rw [c3, c1] at c4
    rw [c2]
    exact c4.symm
   rw [b0, hz 2 y h2 (by omega) (fun j _ _ => ⟨by omega, by omega, by omega⟩), hz (y + 1) 257 (by omega) (by omega) (fun j _ _ => ⟨by omega, by omega, by omega⟩)]
   have d1 := yd8 (List.replicate (y - 2) 0) ([l[y]'(by omega)] ++ List.replicate (257 - (y + 1)) 0) (by simp; omega)
   have d2 := yd8 [l[y]'(by omega)] (List.replicate (257 - (y + 1)) 0) (by simp; omega)
   have d3 := yfe 0 (y - 2) (by omega)
   have d4 := yfe 0 (257 - (y + 1)) (by omega)
   have d5 := yeX (l[y]'(by omega))
   omega
  ·have b0 : l.drop 2 = (l.drop 2).take (257 - 2) := (qar (by rw [qas]; omega)).symm
   rw [b0, hz 2 257 (by omega) (by omega) (fun j _ _ => ⟨by omega, by omega, by omega⟩)]
   have := yfe 0 (257 - 2) (by omega)
   omega
 rw [e2]
 have d1 := yd8 [l[0]'(by omega)] ([l[1]'(by omega)] ++ l.drop 2) (by simp; omega)
 have d2 := yd8 [l[1]'(by omega)] (l.drop 2) (by simp; omega)
 have d3 := yeX (l[0]'(by omega))
 have d4 := yeX (l[1]'(by omega))
 omega
def qoth (y : Nat) : List Int := (List.range 257).map fun i => if i = 0 ∨ i = 1 ∨ i = (if y < 2 then 254 else y) ∨ i = (if y = 256 then 255 else 256) then 2 else 0
theorem qoth_len (y : Nat) : (qoth y).length = 257 := by unfold qoth; rw [qaD, qa7]
theorem qoth_get (y j : Nat) (h : j < (qoth y).length) : (qoth y)[j] = if j = 0 ∨ j = 1 ∨ j = (if y < 2 then 254 else y) ∨ j = (if y = 256 then 255 else 256) then 2 else 0 := by
 simp only [qoth, qaQ, qbd]
theorem qoth_check : ∀ y, y < 257 → yat (qoth y) = 0 := by decide +kernel
theorem qoth_size (y : Nat) : ∀ l : List Int, ydO (qoth y) l ≤ 2 * l.length
 | [] => Int.le_refl _
 | s :: t => by
  have ih := qoth_size y t
  have hs : (qoth y).getD s.toNat 0 ≤ 2 := by
   rw [qaj]
   by_cases h : s.toNat < (qoth y).length
   ·rw [qah h, qbG, qoth_get]
    split <;> omega
   ·rw [qbq (by omega)]
    decide
  show (qoth y).getD s.toNat 0 + ydO (qoth y) t ≤ _
  rw [qap]
  omega
theorem qfew (l : List Int) (y : Nat) (hy : y < 257) (hl : l.length ≤ 13) (h : ∀ s ∈ l, s = 0 ∨ s = 1 ∨ s = (y : Int)) : (hB l).length ≤ 83 := by
 have hi : hin l = true := hin_of fun s hs => by
  have := h s hs
  omega
 have h1 := hsize_is (l := l) (by omega) hi
 have hg := hL_good (l := l) (by omega)
 have h2 := hleast (l := l) (by omega) hi (qoth y) (qoth_check y hy) fun s hs => by
  have := h s hs
  refine ⟨by rw [qoth_len]; omega, ?_⟩
  rw [qoth_get]
  rw [qag]
  ·decide
  ·rcases this with e | e | e
   ·exact qay (by omega)
   ·exact qaI (qay (by omega))
   ·by_cases h2 : y < 2
    ·by_cases e0 : y = 0
     ·exact qay (by omega)
     ·exact qaI (qay (by omega))
    ·rw [qae h2]
     exact qaI (qaI (qay (by omega)))
 rw [yeP (by omega) hi (qoth y) (qoth_len y) fun j hj => by rw [qoth_get]; split <;> omega] at h2
 have h3 := qoth_size y l
 have h4 := qparts (hL l) y (yce l) hy fun j hj h0 hj1 hjy => by
  have a := hg.pos j hj (by rw [yak, ← yce l]; exact hj)
  have b := (hg.rng j hj).1
  rw [ya7] at a
  have c : l.count ((j : Nat) : Int) = 0 := List.count_eq_zero.2 fun hm => by
   have := h _ hm
   omega
  rw [c] at a
  omega
 omega
theorem qput_le (n : Nat) (h : n < 16384) : (putB (n : Int)).length ≤ 2 := by
 rw [yeg (by omega), qan]
 unfold dg
 split
 ·simp
 ·rw [qap]
  unfold dg
  rw [qag (by omega)]
  simp
theorem qsame (n : Nat) (x : UInt8) (hn : n < 5000) : (qsy (List.replicate (n + 1) x)).length ≤ 14 ∧ (qB (List.replicate (n + 1) x)).length ≤ 24 := by
 obtain ⟨y, hy, hl, hm⟩ := qsame_sy n x hn
 have h1 := qfew _ y hy hl hm
 have h2 := yaW (hB (qsy (List.replicate (n + 1) x)))
 refine ⟨by omega, ?_⟩
 unfold qB qhd
 have a1 := qput_le (List.replicate (n + 1) x).length (by rw [qav]; omega)
 have a2 := qput_le (bpr (List.replicate (n + 1) x)) (by rw [qsame_pr]; omega)
 have a3 := qput_le (qsy (List.replicate (n + 1) x)).length (by omega)
 rw [qab, qab, qab]
 omega
end Go.Proofs.YtanjhbkbpalnaaaGreat
