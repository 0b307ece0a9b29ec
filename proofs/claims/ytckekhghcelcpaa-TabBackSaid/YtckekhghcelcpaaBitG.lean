/-
  Layer 4, plain: gamma bits: as they are written, and as they are read.
-/
import Derived.Test.YtckekhghcelcpaaBitM
import Derived.Lib.BitFns
namespace Go.Proofs.Ytckekhghcelcpaa
set_option linter.unusedSimpArgs false
set_option linter.unusedVariables false
open Go.ChangeShapes Go.WideShapes Go.ChangeAt Go.RowKit Go.Joins Go.Deep

def bl (n : Nat) : Nat := Lib.bitLen n
theorem bl_spec : ∀ (f n : Nat), n ≠ 0 → n < 2 ^ f → f ≤ 64 → 1 ≤ bl n ∧ 2 ^ (bl n - 1) ≤ n ∧ n < 2 ^ bl n
  | 0, n, h0, h, _ => by simp at h; omega
  | f + 1, n, h0, h, hf => by
    have h64 : n < 2 ^ 64 := Nat.lt_of_lt_of_le h (Nat.pow_le_pow_right (by omega) hf)
    have e : bl n = 1 + bl (n / 2) := Lib.bitLen_half n h0 h64
    by_cases h1 : n / 2 = 0
    · have hb : bl (n / 2) = 0 := by rw [h1]; rfl
      rw [e, hb]
      simp
      omega
    · obtain ⟨a, b, c⟩ := bl_spec f (n / 2) h1 (by rw [Nat.pow_succ] at h; omega) (by omega)
      rw [e]
      refine ⟨by omega, ?_, ?_⟩
      · rw [show 1 + bl (n / 2) - 1 = bl (n / 2) - 1 + 1 from by omega, Nat.pow_succ]
        omega
      · rw [Nat.add_comm, Nat.pow_succ]
        omega
theorem bl_of {n k : Nat} (h1 : 2 ^ k ≤ n) (h2 : n < 2 ^ (k + 1)) (h : n < 4294967296) : bl n = k + 1 := by
  have hp : 0 < 2 ^ k := Nat.pow_pos (by omega)
  obtain ⟨a, b, c⟩ := bl_spec 32 n (by omega) (by rw [show (2 : Nat) ^ 32 = 4294967296 from by decide]; exact h) (by omega)
  rcases Nat.lt_trichotomy (bl n) (k + 1) with hlt | he | hgt
  · have := Nat.pow_le_pow_right (n := 2) (by omega) (show bl n ≤ k by omega)
    omega
  · exact he
  · have := Nat.pow_le_pow_right (n := 2) (by omega) (show k + 1 ≤ bl n - 1 by omega)
    omega
theorem bl_le {n : Nat} (h0 : n ≠ 0) (h : n < 4294967296) : 1 ≤ bl n ∧ bl n ≤ 32 := by
  obtain ⟨a, b, c⟩ := bl_spec 32 n h0 (by rw [show (2 : Nat) ^ 32 = 4294967296 from by decide]; exact h) (by omega)
  refine ⟨a, Nat.le_of_not_lt fun hgt => ?_⟩
  have := Nat.pow_le_pow_right (n := 2) (by omega) (show 32 ≤ bl n - 1 by omega)
  rw [show (2 : Nat) ^ 32 = 4294967296 from by decide] at this
  omega

/-- Has n gamma bits? -/
def hasG (n : Int) : Prop := 1 ≤ n ∧ n ≤ 4294967295
instance (n : Int) : Decidable (hasG n) := by unfold hasG; infer_instance
/-- The gamma bits of a number. -/
def gam (n : Nat) : List Nat := List.replicate (bl n - 1) 0 ++ dig (bl n) n
theorem gam_is {n k : Nat} (h1 : 2 ^ k ≤ n) (h2 : n < 2 ^ (k + 1)) (h : n < 4294967296) : gam n = List.replicate k 0 ++ dig (k + 1) n := by
  unfold gam
  rw [bl_of h1 h2 h, Nat.add_sub_cancel]
theorem gam_bin (n : Nat) : Bin (gam n) := Bin.app (fun d hd => by rw [List.eq_of_mem_replicate hd]; omega) (dig_bin _ _)

/-- How many noughts stand ahead. -/
def lz : List Nat → Nat
  | [] => 0
  | d :: t => if d = 0 then lz t + 1 else 0
theorem lz_le : ∀ l, lz l ≤ l.length
  | [] => Nat.le_refl _
  | d :: t => by
    have := lz_le t
    unfold lz
    split <;> simp <;> omega
theorem lz_zeros (k : Nat) (l : List Nat) : lz (List.replicate k 0 ++ l) = k + lz l := by
  induction k with
  | zero => simp
  | succ k ih => rw [List.replicate_succ, List.cons_append, lz, if_pos rfl, ih]; omega
theorem lz_one (l : List Nat) : lz (1 :: l) = 0 := rfl
theorem lz_all : ∀ (l : List Nat), lz l = l.length → l = List.replicate l.length 0
  | [], _ => rfl
  | d :: t, h => by
    unfold lz at h
    split at h
    · rename_i hd
      subst hd
      have := lz_all t (by simpa using h)
      rw [List.length_cons, List.replicate_succ, ← this]
    · simp at h
/-- Noughts first, then what is behind them. -/
theorem lz_cut (l : List Nat) (k : Nat) (hk : k ≤ l.length) (h : l.take k = List.replicate k 0) : lz l = k + lz (l.drop k) := by
  have h1 := List.take_append_drop k l
  rw [h] at h1
  rw [← h1, lz_zeros]
  congr 2
  rw [List.drop_left' (by simp)]
/-- What Gamma tells of a row that is left: the number, how many bits, the error. -/
def ungam (l : List Nat) : Int × Nat × Int :=
  if lz l = l.length then (0, 0, 4) else if 32 ≤ lz l then (0, 0, 40) else if l.length < 2 * lz l + 1 then (0, 0, 4) else ((num ((l.drop (lz l)).take (lz l + 1)) : Int), 2 * lz l + 1, 0)
theorem bin_dig_top {k n : Nat} (h1 : 2 ^ k ≤ n) (h2 : n < 2 ^ (k + 1)) : dig (k + 1) n = 1 :: dig k n := by
  have h : n / 2 ^ k = 1 := Nat.div_eq_of_lt_le (by omega) (by rw [Nat.pow_succ] at h2; omega)
  rw [Nat.add_comm, dig_add 1 k, h]
  rfl
/-- What Gamma writes, Gamma reads. -/
theorem ungam_gam (n : Nat) (l : List Nat) (h0 : n ≠ 0) (h : n < 4294967296) : ungam (gam n ++ l) = ((n : Int), 2 * (bl n - 1) + 1, 0) ∧ (gam n).length = 2 * (bl n - 1) + 1 := by
  obtain ⟨a, b, c⟩ := bl_spec 32 n h0 (by rw [show (2 : Nat) ^ 32 = 4294967296 from by decide]; exact h) (by omega)
  have hle := bl_le h0 h
  obtain ⟨k, hk⟩ : ∃ k, bl n = k + 1 := ⟨bl n - 1, by omega⟩
  rw [hk] at b c hle ⊢
  rw [Nat.add_sub_cancel] at b ⊢
  have hg := gam_is b c h
  have htop := bin_dig_top b c
  have hlz : lz (gam n ++ l) = k := by rw [hg, htop, List.append_assoc, lz_zeros, List.cons_append, lz_one]; rfl
  have hlen : (gam n).length = 2 * k + 1 := by rw [hg, List.length_append, List.length_replicate, dig_length]; omega
  refine ⟨?_, hlen⟩
  unfold ungam
  rw [hlz, List.length_append, hlen, if_neg (by omega), if_neg (by omega), if_neg (by omega), hg, List.append_assoc, List.drop_left' (by simp), List.take_left' (by rw [dig_length]), num_dig, Nat.mod_eq_of_lt c]
end Go.Proofs.Ytckekhghcelcpaa
