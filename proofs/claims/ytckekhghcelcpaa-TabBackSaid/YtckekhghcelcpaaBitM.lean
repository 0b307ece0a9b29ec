/-
  Layer 4, plain: rows of bits (noughts and ones): the digits of a number, the number of a row, the bytes of a row, the row of bytes, gamma bits.
-/
import Derived.Test.YtckekhghcelcpaaMore
namespace Go.Proofs.Ytckekhghcelcpaa
set_option linter.unusedSimpArgs false
set_option linter.unusedVariables false
open Go.ChangeShapes Go.WideShapes Go.ChangeAt Go.RowKit Go.Joins Go.Deep

/-! ### Digits -/
def dig : Nat → Nat → List Nat
  | 0, _ => []
  | w + 1, n => dig w (n / 2) ++ [n % 2]
theorem dig_length : ∀ w n, (dig w n).length = w
  | 0, _ => rfl
  | w + 1, n => by simp [dig, dig_length w]
def Bin (l : List Nat) : Prop := ∀ d ∈ l, d < 2
theorem bin_nil : Bin [] := by simp [Bin]
theorem Bin.app {a b : List Nat} (h : Bin a) (k : Bin b) : Bin (a ++ b) := fun d hd => by
  rcases List.mem_append.1 hd with hd | hd
  · exact h d hd
  · exact k d hd
theorem dig_bin : ∀ w n, Bin (dig w n)
  | 0, _ => bin_nil
  | w + 1, n => (dig_bin w (n / 2)).app fun d hd => by
    rw [List.mem_singleton] at hd
    omega
theorem dig_add : ∀ (a b n : Nat), dig (a + b) n = dig a (n / 2 ^ b) ++ dig b n
  | a, 0, n => by simp [dig]
  | a, b + 1, n => by
    show dig (a + b) (n / 2) ++ [n % 2] = _
    rw [dig_add a b (n / 2), Nat.div_div_eq_div_mul, Nat.mul_comm 2, ← Nat.pow_succ, dig, List.append_assoc]
theorem dig_zero : ∀ w, dig w 0 = List.replicate w 0
  | 0 => rfl
  | w + 1 => by
    rw [dig, List.replicate_succ', Nat.zero_div, dig_zero w]
def num (l : List Nat) : Nat := l.foldl (fun s d => 2 * s + d) 0
theorem num_fold (l : List Nat) : ∀ s, l.foldl (fun s d => 2 * s + d) s = s * 2 ^ l.length + num l := by
  induction l with
  | nil => intro s; simp [num]
  | cons a t ih =>
    intro s
    have e : num (a :: t) = a * 2 ^ t.length + num t := by
      show (a :: t).foldl (fun s d => 2 * s + d) 0 = _
      rw [List.foldl_cons, ih]
      simp
    rw [List.foldl_cons, ih, e, List.length_cons, Nat.pow_succ]
    simp only [Nat.add_mul]
    rw [Nat.mul_comm 2 s, Nat.mul_assoc, Nat.mul_comm 2, Nat.add_assoc]
theorem num_append (a b : List Nat) : num (a ++ b) = num a * 2 ^ b.length + num b := by
  unfold num
  rw [List.foldl_append, num_fold]
  rfl
theorem num_snoc (a : List Nat) (d : Nat) : num (a ++ [d]) = 2 * num a + d := by
  rw [num_append]
  simp [num]
  omega
theorem num_dig : ∀ w n, num (dig w n) = n % 2 ^ w
  | 0, n => by simp [dig, num, Nat.mod_one]
  | w + 1, n => by
    rw [dig, num_snoc, num_dig w, Nat.pow_succ, Nat.mul_comm (2 ^ w), Nat.mod_mul]
    omega
theorem Bin.snoc {l : List Nat} {d : Nat} (h : Bin (l ++ [d])) : Bin l ∧ d < 2 :=
  ⟨fun x hx => h x (by simp [hx]), h d (by simp)⟩
theorem snoc_of {n : Nat} {l : List Nat} (h : l.length = n + 1) : ∃ a d, l = a ++ [d] ∧ a.length = n := by
  have hne : l ≠ [] := by
    rintro rfl
    simp at h
  exact ⟨l.dropLast, l.getLast hne, (List.dropLast_concat_getLast hne).symm, by simp; omega⟩
theorem num_lt_of : ∀ (n : Nat) (l : List Nat), l.length = n → Bin l → num l < 2 ^ n
  | 0, l, h, _ => by
    rw [List.length_eq_zero_iff.1 h]
    simp [num]
  | n + 1, l, h, hb => by
    obtain ⟨a, d, rfl, ha⟩ := snoc_of h
    have := num_lt_of n a ha hb.snoc.1
    have := hb.snoc.2
    rw [num_snoc, Nat.pow_succ]
    omega
theorem num_lt {l : List Nat} (h : Bin l) : num l < 2 ^ l.length := num_lt_of _ l rfl h
theorem dig_num_of : ∀ (n : Nat) (l : List Nat), l.length = n → Bin l → dig n (num l) = l
  | 0, l, h, _ => by
    rw [List.length_eq_zero_iff.1 h]
    rfl
  | n + 1, l, h, hb => by
    obtain ⟨a, d, rfl, ha⟩ := snoc_of h
    have h1 := dig_num_of n a ha hb.snoc.1
    have := hb.snoc.2
    rw [num_snoc, dig, show (2 * num a + d) / 2 = num a from by omega, show (2 * num a + d) % 2 = d from by omega, h1]
theorem dig_num {l : List Nat} (h : Bin l) : dig l.length (num l) = l := dig_num_of _ l rfl h
/-- A row of so many digits out of the middle. -/
theorem dig_mid (a p c n : Nat) : ((dig (a + p + c) n).drop a).take p = dig p (n / 2 ^ c) := by
  rw [dig_add (a + p) c, dig_add a p, List.append_assoc, List.drop_left' (dig_length _ _), List.take_left' (dig_length _ _)]

/-! ### Bytes of a row -/
def text : List Nat → List UInt8
  | [] => []
  | a :: t => UInt8.ofNat (num ((a :: t).take 8) * 2 ^ (8 - ((a :: t).take 8).length)) :: text (t.drop 7)
termination_by l => l.length
decreasing_by simp; omega
theorem text_nil : text [] = [] := by rw [text]
theorem text_step (l : List Nat) (h : l ≠ []) : text l = UInt8.ofNat (num (l.take 8) * 2 ^ (8 - (l.take 8).length)) :: text (l.drop 8) := by
  cases l with
  | nil => exact absurd rfl h
  | cons a t => rw [text]; rfl
theorem text_whole : ∀ (q : Nat) (A B : List Nat), A.length = 8 * q → text (A ++ B) = text A ++ text B
  | 0, A, B, h => by
    obtain rfl := List.length_eq_zero_iff.1 (show A.length = 0 by omega)
    simp [text_nil]
  | q + 1, A, B, h => by
    have hA : A ≠ [] := by
      rintro rfl
      simp at h
    rw [text_step (A ++ B) (by simp [hA]), text_step A hA, List.take_append_of_le_length (by omega), List.drop_append_of_le_length (by omega), text_whole q (A.drop 8) B (by simp; omega)]
    rfl
theorem text_short (B : List Nat) (h0 : 0 < B.length) (h8 : B.length ≤ 8) : text B = [UInt8.ofNat (num B * 2 ^ (8 - B.length))] := by
  rw [text_step B (by rintro rfl; simp at h0), List.take_of_length_le h8, List.drop_of_length_le h8, text_nil]
theorem text_length_of : ∀ (n : Nat) (l : List Nat), l.length ≤ n → (text l).length = (l.length + 7) / 8
  | 0, l, h => by
    obtain rfl := List.length_eq_zero_iff.1 (show l.length = 0 by omega)
    rw [text_nil]
    rfl
  | n + 1, l, h => by
    by_cases hl : l = []
    · subst hl
      rw [text_nil]
      rfl
    · have hpos : 0 < l.length := List.length_pos_iff.2 hl
      rw [text_step l hl, List.length_cons, text_length_of n _ (by simp; omega), List.length_drop]
      omega
theorem text_length (l : List Nat) : (text l).length = (l.length + 7) / 8 := text_length_of _ l (Nat.le_refl _)

/-- How many bits are free in the last byte. -/
def fr (l : List Nat) : Nat := (8 - l.length % 8) % 8
theorem fr_lt (l : List Nat) : fr l < 8 := by unfold fr; omega

theorem pow_split {a b : Nat} (h : b ≤ a) : 2 ^ a = 2 ^ b * 2 ^ (a - b) := by rw [← Nat.pow_add]; congr 1; omega
theorem text_new (R P : List Nat) (hR : fr R = 0) (h0 : 0 < P.length) (h8 : P.length ≤ 8) : text (R ++ P) = text R ++ [UInt8.ofNat (num P * 2 ^ (8 - P.length))] := by
  rw [text_whole (R.length / 8) R P (by unfold fr at hR; omega), text_short P h0 h8]
theorem text_more (R P : List Nat) (f : Nat) (hR : fr R = f) (hf : 0 < f) (hb : Bin R) (hP : P.length ≤ f) :
    ∃ T b, text R = T ++ [b] ∧ text (R ++ P) = T ++ [UInt8.ofNat (b.toNat + num P * 2 ^ (f - P.length))] ∧ b.toNat % 2 ^ f = 0 := by
  have hf8 : f < 8 := by rw [← hR]; exact fr_lt R
  have hAl : (R.take (8 * (R.length / 8))).length = 8 * (R.length / 8) := by simp; omega
  have hBl : (R.drop (8 * (R.length / 8))).length = 8 - f := by simp; unfold fr at hR; omega
  have hsp := List.take_append_drop (8 * (R.length / 8)) R
  have hBb : Bin (R.drop (8 * (R.length / 8))) := fun d hd => hb d (List.mem_of_mem_drop hd)
  generalize R.take (8 * (R.length / 8)) = A at *
  generalize R.drop (8 * (R.length / 8)) = B at *
  have hnB := num_lt hBb
  rw [hBl] at hnB
  have hsz : num B * 2 ^ f < 256 := by
    have h1 : num B * 2 ^ f < 2 ^ (8 - f) * 2 ^ f := Nat.mul_lt_mul_of_pos_right hnB (Nat.pow_pos (by omega))
    rw [← Nat.pow_add, show 8 - f + f = 8 from by omega] at h1
    exact h1
  refine ⟨text A, UInt8.ofNat (num B * 2 ^ f), ?_, ?_, ?_⟩
  · rw [← hsp, text_whole _ A B hAl, text_short B (by omega) (by omega), hBl, show 8 - (8 - f) = f from by omega]
  · rw [← hsp, List.append_assoc, text_whole _ A (B ++ P) hAl, text_short (B ++ P) (by rw [List.length_append]; omega) (by rw [List.length_append]; omega), num_append, List.length_append, hBl,
      show 8 - (8 - f + P.length) = f - P.length from by omega, u8_ofNat _ hsz, Nat.add_mul, Nat.mul_assoc, ← Nat.pow_add, show P.length + (f - P.length) = f from by omega]
  · rw [u8_ofNat _ hsz]
    exact Nat.mul_mod_left _ _

/-! ### The row of bytes -/
def rowOf (s : List UInt8) : List Nat := s.flatMap fun b => dig 8 b.toNat
theorem row_cons (b : UInt8) (s : List UInt8) : rowOf (b :: s) = dig 8 b.toNat ++ rowOf s := rfl
theorem row_append (a b : List UInt8) : rowOf (a ++ b) = rowOf a ++ rowOf b := by simp [rowOf]
theorem row_length (s : List UInt8) : (rowOf s).length = 8 * s.length := by
  induction s with
  | nil => rfl
  | cons b s ih => rw [row_cons, List.length_append, dig_length, ih, List.length_cons]; omega
theorem row_bin : ∀ s, Bin (rowOf s)
  | [] => bin_nil
  | b :: s => (dig_bin 8 b.toNat).app (row_bin s)
theorem row_drop : ∀ (s : List UInt8) (q : Nat), (rowOf s).drop (8 * q) = rowOf (s.drop q)
  | s, 0 => by simp
  | [], q + 1 => by simp [rowOf]
  | b :: s, q + 1 => by
    rw [row_cons, List.drop_succ_cons, ← row_drop s q, show 8 * (q + 1) = 8 + 8 * q from by omega, ← List.drop_drop, List.drop_left' (dig_length _ _)]
/-- Some bits out of one byte. -/
theorem row_mid (s : List UInt8) (q r p : Nat) (hq : q < s.length) (hr : r + p ≤ 8) : ((rowOf s).drop (8 * q + r)).take p = dig p (s[q].toNat / 2 ^ (8 - r - p)) := by
  rw [← List.drop_drop, row_drop, List.drop_eq_getElem_cons hq, row_cons, List.drop_append_of_le_length (by rw [dig_length]; omega), List.take_append_of_le_length (by rw [List.length_drop, dig_length]; omega)]
  have := dig_mid r p (8 - r - p) s[q].toNat
  rwa [show r + p + (8 - r - p) = 8 from by omega] at this
theorem row_text_of : ∀ (n : Nat) (R : List Nat), R.length ≤ n → Bin R → rowOf (text R) = R ++ List.replicate (fr R) 0
  | 0, R, h, _ => by
    obtain rfl := List.length_eq_zero_iff.1 (show R.length = 0 by omega)
    rw [text_nil]
    rfl
  | n + 1, R, h, hb => by
    by_cases hl : R = []
    · subst hl
      rw [text_nil]
      rfl
    · have hpos : 0 < R.length := List.length_pos_iff.2 hl
      rw [text_step R hl, row_cons, row_text_of n (R.drop 8) (by simp; omega) (fun d hd => hb d (List.mem_of_mem_drop hd))]
      have hb8 : Bin (R.take 8) := fun d hd => hb d (List.mem_of_mem_take hd)
      have hnB := num_lt hb8
      have hl8 : (R.take 8).length ≤ 8 := by simp; omega
      have hsz : num (R.take 8) * 2 ^ (8 - (R.take 8).length) < 256 := by
        have h1 : num (R.take 8) * 2 ^ (8 - (R.take 8).length) < 2 ^ (R.take 8).length * 2 ^ (8 - (R.take 8).length) := Nat.mul_lt_mul_of_pos_right hnB (Nat.pow_pos (by omega))
        rw [← Nat.pow_add, show (R.take 8).length + (8 - (R.take 8).length) = 8 from by omega] at h1
        exact h1
      rw [u8_ofNat _ hsz]
      have hd : dig 8 (num (R.take 8) * 2 ^ (8 - (R.take 8).length)) = R.take 8 ++ List.replicate (8 - (R.take 8).length) 0 := by
        have h1 := dig_add (R.take 8).length (8 - (R.take 8).length) (num (R.take 8) * 2 ^ (8 - (R.take 8).length))
        rw [show (R.take 8).length + (8 - (R.take 8).length) = 8 from by omega, Nat.mul_div_cancel _ (Nat.pow_pos (by omega)), dig_num hb8] at h1
        rw [h1]
        congr 1
        have hz : num (dig (8 - (R.take 8).length) (num (R.take 8) * 2 ^ (8 - (R.take 8).length))) = 0 := by rw [num_dig]; exact Nat.mul_mod_left _ _
        have h2 := dig_num (dig_bin (8 - (R.take 8).length) (num (R.take 8) * 2 ^ (8 - (R.take 8).length)))
        rw [hz, dig_length, dig_zero] at h2
        exact h2.symm
      rw [hd]
      by_cases h8 : 8 ≤ R.length
      · rw [show (R.take 8).length = 8 from by simp; omega]
        simp only [Nat.sub_self, List.replicate_zero, List.append_nil]
        rw [← List.append_assoc, List.take_append_drop]
        congr 2
        unfold fr
        simp
        omega
      · rw [List.take_of_length_le (by omega), List.drop_of_length_le (by omega), List.nil_append]
        have : fr ([] : List Nat) = 0 := rfl
        rw [this, List.replicate_zero, List.append_nil]
        congr 2
        unfold fr
        omega
/-- The row of a row's bytes: the row, and noughts up to a whole byte. -/
theorem row_text {R : List Nat} (h : Bin R) : rowOf (text R) = R ++ List.replicate (fr R) 0 := row_text_of _ R (Nat.le_refl _) h

/-! ### Fields -/
/-- Has n bits of a width? -/
def fits (n w : Int) : Prop := 0 ≤ w ∧ w ≤ 32 ∧ 0 ≤ n ∧ n < 2 ^ w.toNat
instance (n w : Int) : Decidable (fits n w) := by unfold fits; infer_instance
def digI (n w : Int) : List Nat := dig w.toNat n.toNat
/-- The bits of fields, or none: one of them has none. -/
def packF : List (Int × Int) → Option (List Nat)
  | [] => some []
  | f :: t => if fits f.1 f.2 then (packF t).map (digI f.1 f.2 ++ ·) else none
/-- What Get tells of a row, at a place. -/
def bgetF (l : List Nat) (at_ w : Int) : Int × Int :=
  if w < 0 ∨ 32 < w then (0, 2) else if at_ + w > l.length then (0, 4) else ((num ((l.drop at_.toNat).take w.toNat) : Int), 0)
/-- What Unpack tells: the numbers, the place, the error. -/
def unpackF (l : List Nat) : Int → List Int → List Int × Int × Int
  | p, [] => ([], p, 0)
  | p, w :: t => if (bgetF l p w).2 = 0 then (((bgetF l p w).1 :: (unpackF l (p + w) t).1), (unpackF l (p + w) t).2) else ([], p, (bgetF l p w).2)
end Go.Proofs.Ytckekhghcelcpaa
