/-
  What the law of the last of these texts stands on, part 12.
-/
import Derived.Test.YtpocpckhcciecaaRows
import Derived.Test.YtpocpckhcciecaaMg01
import Derived.Test.YtpocpckhcciecaaMg02
import Derived.Test.YtpocpckhcciecaaMg03
import Derived.Test.YtpocpckhcciecaaMg04
import Derived.Test.YtpocpckhcciecaaMg05
import Derived.Test.YtpocpckhcciecaaMg10
import Derived.Test.YtpocpckhcciecaaMg11
import Derived.WalkKit
import Derived.WalkSpells
import Derived.WalkLawsBesides
import Derived.ProofKit
import Derived.OpenShut
import Derived.Handy
import Derived.SizedLaws
import Derived.JoinedOf
import Derived.KernelRfl
import Derived.Lib.Hide
import Derived.Lib.SmallJoins
import Derived.Deep.Slices
import Derived.Deep.Fields
import Derived.Deep.SlicePairs
import Derived.Deep.Draws
import Derived.Deep.AppendLies
import Derived.Deep.QuietTactic
import Derived.BigQuiet
import Derived.Deep.RegionHeld3
import Derived.StillTailTactics
import Derived.Laws.OwnMore
import Derived.Laws.Rows
import Derived.Below
import Derived.Carry
import Derived.WalkMore
import Derived.Laws.BytesString
import Derived.Laws.BitsLemmas
import Derived.Laws.Concat
import Derived.Deep.Upon
import Derived.Deep.OwnRows
import Derived.OwnWalk
namespace Go.Proofs.Ytpocpckhcciecaa
set_option linter.unusedSimpArgs false
set_option linter.unusedVariables false
open Go.ChangeShapes Go.WideShapes Go.ChangeAt Go.RowKit Go.Joins Go.Deep
def dig : Nat → Nat → List Nat
  | 0, _ => []
  | w + 1, n => dig w (n / 2) ++ [n % 2]
theorem dig_length : ∀ w n, (dig w n).length = w
  | 0, _ => rfl
  | w + 1, n => by simp [dig, dig_length w]
def Bin (l : List Nat) : Prop := ∀ d ∈ l, d < 2
theorem bin_nil : Bin [] := by simp [Bin]
theorem Bin.app {a b : List Nat} (h : Bin a) (k : Bin b) : Bin (a ++ b) := fun d hd => by
  rcases List.mem_append.1 hd with hd | hd
  · exact h d hd
  · exact k d hd
theorem dig_bin : ∀ w n, Bin (dig w n)
  | 0, _ => bin_nil
  | w + 1, n => (dig_bin w (n / 2)).app fun d hd => by
    rw [List.mem_singleton] at hd
    omega
theorem dig_add : ∀ (a b n : Nat), dig (a + b) n = dig a (n / 2 ^ b) ++ dig b n
  | a, 0, n => by simp [dig]
  | a, b + 1, n => by
    show dig (a + b) (n / 2) ++ [n % 2] = _
    rw [dig_add a b (n / 2), Nat.div_div_eq_div_mul, Nat.mul_comm 2, ← Nat.pow_succ, dig, List.append_assoc]
theorem dig_zero : ∀ w, dig w 0 = List.replicate w 0
  | 0 => rfl
  | w + 1 => by
    rw [dig, List.replicate_succ', Nat.zero_div, dig_zero w]
def num (l : List Nat) : Nat := l.foldl (fun s d => 2 * s + d) 0
theorem num_fold (l : List Nat) : ∀ s, l.foldl (fun s d => 2 * s + d) s = s * 2 ^ l.length + num l := by
  induction l with
  | nil => intro s; simp [num]
  | cons a t ih =>
    intro s
    have e : num (a :: t) = a * 2 ^ t.length + num t := by
      show (a :: t).foldl (fun s d => 2 * s + d) 0 = _
      rw [List.foldl_cons, ih]
      simp
    rw [List.foldl_cons, ih, e, List.length_cons, Nat.pow_succ]
    simp only [Nat.add_mul]
    rw [Nat.mul_comm 2 s, Nat.mul_assoc, Nat.mul_comm 2, Nat.add_assoc]
theorem num_append (a b : List Nat) : num (a ++ b) = num a * 2 ^ b.length + num b := by
  unfold num
  rw [List.foldl_append, num_fold]
  rfl
theorem num_snoc (a : List Nat) (d : Nat) : num (a ++ [d]) = 2 * num a + d := by
  rw [num_append]
  simp [num]
  omega
theorem num_dig : ∀ w n, num (dig w n) = n % 2 ^ w
  | 0, n => by simp [dig, num, Nat.mod_one]
  | w + 1, n => by
    rw [dig, num_snoc, num_dig w, Nat.pow_succ, Nat.mul_comm (2 ^ w), Nat.mod_mul]
    omega
theorem Bin.snoc {l : List Nat} {d : Nat} (h : Bin (l ++ [d])) : Bin l ∧ d < 2 :=
  ⟨fun x hx => h x (by simp [hx]), h d (by simp)⟩
theorem snoc_of {n : Nat} {l : List Nat} (h : l.length = n + 1) : ∃ a d, l = a ++ [d] ∧ a.length = n := by
  have hne : l ≠ [] := by
    rintro rfl
    simp at h
  exact ⟨l.dropLast, l.getLast hne, (List.dropLast_concat_getLast hne).symm, by simp; omega⟩
theorem num_lt_of : ∀ (n : Nat) (l : List Nat), l.length = n → Bin l → num l < 2 ^ n
  | 0, l, h, _ => by
    rw [List.length_eq_zero_iff.1 h]
    simp [num]
  | n + 1, l, h, hb => by
    obtain ⟨a, d, rfl, ha⟩ := snoc_of h
    have := num_lt_of n a ha hb.snoc.1
    have := hb.snoc.2
    rw [num_snoc, Nat.pow_succ]
    omega
theorem num_lt {l : List Nat} (h : Bin l) : num l < 2 ^ l.length := num_lt_of _ l rfl h
theorem dig_num_of : ∀ (n : Nat) (l : List Nat), l.length = n → Bin l → dig n (num l) = l
  | 0, l, h, _ => by
    rw [List.length_eq_zero_iff.1 h]
    rfl
  | n + 1, l, h, hb => by
    obtain ⟨a, d, rfl, ha⟩ := snoc_of h
    have h1 := dig_num_of n a ha hb.snoc.1
    have := hb.snoc.2
    rw [num_snoc, dig, show (2 * num a + d) / 2 = num a from by omega, show (2 * num a + d) % 2 = d from by omega, h1]
theorem dig_num {l : List Nat} (h : Bin l) : dig l.length (num l) = l := dig_num_of _ l rfl h
/-- A row of so many digits out of the middle. -/
theorem dig_mid (a p c n : Nat) : ((dig (a + p + c) n).drop a).take p = dig p (n / 2 ^ c) := by
  rw [dig_add (a + p) c, dig_add a p, List.append_assoc, List.drop_left' (dig_length _ _), List.take_left' (dig_length _ _)]
def text : List Nat → List UInt8
  | [] => []
  | a :: t => UInt8.ofNat (num ((a :: t).take 8) * 2 ^ (8 - ((a :: t).take 8).length)) :: text (t.drop 7)
termination_by l => l.length
decreasing_by simp; omega
theorem text_nil : text [] = [] := by rw [text]
theorem text_step (l : List Nat) (h : l ≠ []) : text l = UInt8.ofNat (num (l.take 8) * 2 ^ (8 - (l.take 8).length)) :: text (l.drop 8) := by
  cases l with
  | nil => exact absurd rfl h
  | cons a t => rw [text]; rfl
theorem text_whole : ∀ (q : Nat) (A B : List Nat), A.length = 8 * q → text (A ++ B) = text A ++ text B
  | 0, A, B, h => by
    obtain rfl := List.length_eq_zero_iff.1 (show A.length = 0 by omega)
    simp [text_nil]
  | q + 1, A, B, h => by
    have hA : A ≠ [] := by
      rintro rfl
      simp at h
    rw [text_step (A ++ B) (by simp [hA]), text_step A hA, List.take_append_of_le_length (by omega), List.drop_append_of_le_length (by omega), text_whole q (A.drop 8) B (by simp; omega)]
    rfl
theorem text_short (B : List Nat) (h0 : 0 < B.length) (h8 : B.length ≤ 8) : text B = [UInt8.ofNat (num B * 2 ^ (8 - B.length))] := by
  rw [text_step B (by rintro rfl; simp at h0), List.take_of_length_le h8, List.drop_of_length_le h8, text_nil]
theorem text_length_of : ∀ (n : Nat) (l : List Nat), l.length ≤ n → (text l).length = (l.length + 7) / 8
  | 0, l, h => by
    obtain rfl := List.length_eq_zero_iff.1 (show l.length = 0 by omega)
    rw [text_nil]
    rfl
  | n + 1, l, h => by
    by_cases hl : l = []
    · subst hl
      rw [text_nil]
      rfl
    · have hpos : 0 < l.length := List.length_pos_iff.2 hl
      rw [text_step l hl, List.length_cons, text_length_of n _ (by simp; omega), List.length_drop]
      omega
theorem text_length (l : List Nat) : (text l).length = (l.length + 7) / 8 := text_length_of _ l (Nat.le_refl _)
/-- How many bits are free in the last byte. -/
def fr (l : List Nat) : Nat := (8 - l.length % 8) % 8
theorem fr_lt (l : List Nat) : fr l < 8 := by unfold fr; omega
theorem text_new (R P : List Nat) (hR : fr R = 0) (h0 : 0 < P.length) (h8 : P.length ≤ 8) : text (R ++ P) = text R ++ [UInt8.ofNat (num P * 2 ^ (8 - P.length))] := by
  rw [text_whole (R.length / 8) R P (by unfold fr at hR; omega), text_short P h0 h8]
theorem text_more (R P : List Nat) (f : Nat) (hR : fr R = f) (hf : 0 < f) (hb : Bin R) (hP : P.length ≤ f) :
    ∃ T b, text R = T ++ [b] ∧ text (R ++ P) = T ++ [UInt8.ofNat (b.toNat + num P * 2 ^ (f - P.length))] ∧ b.toNat % 2 ^ f = 0 := by
  have hf8 : f < 8 := by rw [← hR]; exact fr_lt R
  have hAl : (R.take (8 * (R.length / 8))).length = 8 * (R.length / 8) := by simp; omega
  have hBl : (R.drop (8 * (R.length / 8))).length = 8 - f := by simp; unfold fr at hR; omega
  have hsp := List.take_append_drop (8 * (R.length / 8)) R
  have hBb : Bin (R.drop (8 * (R.length / 8))) := fun d hd => hb d (List.mem_of_mem_drop hd)
  generalize R.take (8 * (R.length / 8)) = A at *
  generalize R.drop (8 * (R.length / 8)) = B at *
  have hnB := num_lt hBb
  rw [hBl] at hnB
  have hsz : num B * 2 ^ f < 256 := by
    have h1 : num B * 2 ^ f < 2 ^ (8 - f) * 2 ^ f := Nat.mul_lt_mul_of_pos_right hnB (Nat.pow_pos (by omega))
    rw [← Nat.pow_add, show 8 - f + f = 8 from by omega] at h1
    exact h1
  refine ⟨text A, UInt8.ofNat (num B * 2 ^ f), ?_, ?_, ?_⟩
  · rw [← hsp, text_whole _ A B hAl, text_short B (by omega) (by omega), hBl, show 8 - (8 - f) = f from by omega]
  · rw [← hsp, List.append_assoc, text_whole _ A (B ++ P) hAl, text_short (B ++ P) (by rw [List.length_append]; omega) (by rw [List.length_append]; omega), num_append, List.length_append, hBl,
      show 8 - (8 - f + P.length) = f - P.length from by omega, u8_ofNat _ hsz, Nat.add_mul, Nat.mul_assoc, ← Nat.pow_add, show P.length + (f - P.length) = f from by omega]
  · rw [u8_ofNat _ hsz]
    exact Nat.mul_mod_left _ _
def rowOf (s : List UInt8) : List Nat := s.flatMap fun b => dig 8 b.toNat
theorem row_cons (b : UInt8) (s : List UInt8) : rowOf (b :: s) = dig 8 b.toNat ++ rowOf s := rfl
theorem row_append (a b : List UInt8) : rowOf (a ++ b) = rowOf a ++ rowOf b := by simp [rowOf]
theorem row_length (s : List UInt8) : (rowOf s).length = 8 * s.length := by
  induction s with
  | nil => rfl
  | cons b s ih => rw [row_cons, List.length_append, dig_length, ih, List.length_cons]; omega
theorem row_bin : ∀ s, Bin (rowOf s)
  | [] => bin_nil
  | b :: s => (dig_bin 8 b.toNat).app (row_bin s)
theorem row_drop : ∀ (s : List UInt8) (q : Nat), (rowOf s).drop (8 * q) = rowOf (s.drop q)
  | s, 0 => by simp
  | [], q + 1 => by simp [rowOf]
  | b :: s, q + 1 => by
    rw [row_cons, List.drop_succ_cons, ← row_drop s q, show 8 * (q + 1) = 8 + 8 * q from by omega, ← List.drop_drop, List.drop_left' (dig_length _ _)]
/-- Some bits out of one byte. -/
theorem row_mid (s : List UInt8) (q r p : Nat) (hq : q < s.length) (hr : r + p ≤ 8) : ((rowOf s).drop (8 * q + r)).take p = dig p (s[q].toNat / 2 ^ (8 - r - p)) := by
  rw [← List.drop_drop, row_drop, List.drop_eq_getElem_cons hq, row_cons, List.drop_append_of_le_length (by rw [dig_length]; omega), List.take_append_of_le_length (by rw [List.length_drop, dig_length]; omega)]
  have := dig_mid r p (8 - r - p) s[q].toNat
  rwa [show r + p + (8 - r - p) = 8 from by omega] at this
theorem row_text_of : ∀ (n : Nat) (R : List Nat), R.length ≤ n → Bin R → rowOf (text R) = R ++ List.replicate (fr R) 0
  | 0, R, h, _ => by
    obtain rfl := List.length_eq_zero_iff.1 (show R.length = 0 by omega)
    rw [text_nil]
    rfl
  | n + 1, R, h, hb => by
    by_cases hl : R = []
    · subst hl
      rw [text_nil]
      rfl
    · have hpos : 0 < R.length := List.length_pos_iff.2 hl
      rw [text_step R hl, row_cons, row_text_of n (R.drop 8) (by simp; omega) (fun d hd => hb d (List.mem_of_mem_drop hd))]
      have hb8 : Bin (R.take 8) := fun d hd => hb d (List.mem_of_mem_take hd)
      have hnB := num_lt hb8
      have hl8 : (R.take 8).length ≤ 8 := by simp; omega
      have hsz : num (R.take 8) * 2 ^ (8 - (R.take 8).length) < 256 := by
        have h1 : num (R.take 8) * 2 ^ (8 - (R.take 8).length) < 2 ^ (R.take 8).length * 2 ^ (8 - (R.take 8).length) := Nat.mul_lt_mul_of_pos_right hnB (Nat.pow_pos (by omega))
        rw [← Nat.pow_add, show (R.take 8).length + (8 - (R.take 8).length) = 8 from by omega] at h1
        exact h1
      rw [u8_ofNat _ hsz]
      have hd : dig 8 (num (R.take 8) * 2 ^ (8 - (R.take 8).length)) = R.take 8 ++ List.replicate (8 - (R.take 8).length) 0 := by
        have h1 := dig_add (R.take 8).length (8 - (R.take 8).length) (num (R.take 8) * 2 ^ (8 - (R.take 8).length))
        rw [show (R.take 8).length + (8 - (R.take 8).length) = 8 from by omega, Nat.mul_div_cancel _ (Nat.pow_pos (by omega)), dig_num hb8] at h1
        rw [h1]
        congr 1
        have hz : num (dig (8 - (R.take 8).length) (num (R.take 8) * 2 ^ (8 - (R.take 8).length))) = 0 := by rw [num_dig]; exact Nat.mul_mod_left _ _
        have h2 := dig_num (dig_bin (8 - (R.take 8).length) (num (R.take 8) * 2 ^ (8 - (R.take 8).length)))
        rw [hz, dig_length, dig_zero] at h2
        exact h2.symm
      rw [hd]
      by_cases h8 : 8 ≤ R.length
      · rw [show (R.take 8).length = 8 from by simp; omega]
        simp only [Nat.sub_self, List.replicate_zero, List.append_nil]
        rw [← List.append_assoc, List.take_append_drop]
        congr 2
        unfold fr
        simp
        omega
      · rw [List.take_of_length_le (by omega), List.drop_of_length_le (by omega), List.nil_append]
        have : fr ([] : List Nat) = 0 := rfl
        rw [this, List.replicate_zero, List.append_nil]
        congr 2
        unfold fr
        omega
/-- The row of a row's bytes: the row, and noughts up to a whole byte. -/
theorem row_text {R : List Nat} (h : Bin R) : rowOf (text R) = R ++ List.replicate (fr R) 0 := row_text_of _ R (Nat.le_refl _) h
/-- Has n bits of a width? -/
def fits (n w : Int) : Prop := 0 ≤ w ∧ w ≤ 32 ∧ 0 ≤ n ∧ n < 2 ^ w.toNat
instance (n w : Int) : Decidable (fits n w) := by unfold fits; infer_instance
def digI (n w : Int) : List Nat := dig w.toNat n.toNat
/-- What Get tells of a row, at a place. -/
def bgetF (l : List Nat) (at_ w : Int) : Int × Int :=
  if w < 0 ∨ 32 < w then (0, 2) else if at_ + w > l.length then (0, 4) else ((num ((l.drop at_.toNat).take w.toNat) : Int), 0)
end Go.Proofs.Ytpocpckhcciecaa
namespace Go.Proofs.Ytpocpckhcciecaa
set_option linter.unusedSimpArgs false
set_option linter.unusedVariables false
open Go.ChangeShapes Go.WideShapes Go.ChangeAt Go.RowKit Go.Joins Go.Deep
theorem bint_info : (Try.prog.info? 3).map (fun i => (i.zero, i.size, i.bytes)) = some (some (.int .i64 0), 1, 8) := by kernel_rfl
/-- The cells of a row of bits. -/
def bcs (l : List Nat) : List Value := l.map fun d : Nat => Value.int .i64 (d : Int)
theorem bcs_length (l : List Nat) : (bcs l).length = l.length := by simp [bcs]
theorem bcs_get (l : List Nat) (i : Nat) (h : i < l.length) : (bcs l)[i]? = some (.int .i64 (l[i] : Int)) := by simp [bcs, h]
theorem bcs_append (a b : List Nat) : bcs (a ++ b) = bcs a ++ bcs b := by simp [bcs]
theorem bcs_set (A C : List Nat) (b c : Nat) : (bcs (A ++ b :: C)).toArray.setIfInBounds A.length (.int .i64 (c : Int)) = (bcs (A ++ c :: C)).toArray := by
  rw [List.setIfInBounds_toArray]
  congr 1
  simp [bcs]
theorem bcs_one (l : List Nat) : ∀ u ∈ bcs l, u.oneCell' = true := by
  intro u hu
  obtain ⟨d, _, rfl⟩ := List.mem_map.1 hu
  rfl
theorem run_make_ints (n : Nat) (h : n ≤ 17592186044416) (w : World) :
    (Instr.makeSlice 22 (.int .i64 (n : Int)) (.int .i64 (n : Int))).run Try.prog w = .ok (.slice (some ⟨w.heap.size, 0, none⟩) n n) (w.alloc (.cells (bcs (List.replicate n 0)).toArray 3)) := by
  have e : madeCells #[.int .i64 0] n = (bcs (List.replicate n 0)).toArray := by
    apply Array.ext'
    simp [madeCells, Nat.mod_one, bcs]
    rw [List.map_const', List.length_range]
  rw [← e]
  exact run_make_row' (P := Try.prog) 22 3 (.int .i64 0) 8 Try.underlying22 bint_info rfl .i64 .i64 n (by omega) (by omega) w
theorem dig_low (k N : Nat) : dig (k + 1) N = N / 2 ^ k % 2 :: dig k N := by
  rw [Nat.add_comm, dig_add 1 k]
  rfl
set_option maxRecDepth 100000 in
set_option maxHeartbeats 1000000 in
theorem refDig_in (N W : Nat) (w : World) (hW : W ≤ 32) (hN : N < 9223372036854775808) : Calls Try.prog 70 #[.int .i64 N, .int .i64 W] w fun e w' =>
    ∃ h, e = .returned (.tuple #[.slice (some ⟨h, 0, none⟩) W W, .bool ((N : Int) / 2 ^ W == 0)]) ∧ Blk w' h 3 (bcs (dig W N)).toArray ∧ w.heap.size ≤ h ∧ Below w.heap.size w w' := by
  have hmk := run_make_ints W (by omega) w
  have hWi : (W : Int) ≤ 32 := by omega
  have hN0 : (0 : Int) ≤ N := by omega
  have HN := Lib.hid hN
  clear hN
  go_enter Try.func70, Try.ntmps70
  go_wp2
  clear hmk
  go_loopw [0, 7] (fun n i wr => ∃ j x : Nat, j ≤ W ∧ i = .int .i64 ((j : Int) - 1) ∧ n = .int .i64 x ∧ Hid (x = N / 2 ^ (W - j)) ∧ Hid (Blk wr w.heap.size 3 (bcs (List.replicate j 0 ++ dig (W - j) N)).toArray) ∧ Hid (Below w.heap.size w wr)) (fun _ i _ => (intOf i + 1).toNat)
  case atStart => exact ⟨W, N, Nat.le_refl _, rfl, rfl, by show N = _; simp, by show Blk _ _ _ _; simpa [dig] using Blk.new w 3 _, by show Below _ _ _; go_grown⟩
  case round =>
    obtain ⟨j, x, hj, rfl, rfl, Hx, HB, Hb⟩ := hrel
    by_cases hlt : 0 < j
    · obtain ⟨j, rfl⟩ : ∃ i, j = i + 1 := ⟨j - 1, by omega⟩
      have e1 : ((j + 1 : Nat) : Int) - 1 = (j : Int) := by omega
      rw [e1]
      have hb0 := HB.out
      rw [List.replicate_succ', List.append_assoc] at hb0
      have hf : wr.frozen? ⟨w.heap.size, j, none⟩ = false := hb0.frozen _
      have hc : wr.cell? ⟨w.heap.size, j, none⟩ = some (.int .i64 0) := by
        rw [hb0.cell]
        simp [bcs]
      have hnew := hb0.set_ j (.int .i64 ((x % 2 : Nat) : Int))
      rw [show ([0] ++ dig (W - (j + 1)) N : List Nat) = 0 :: dig (W - (j + 1)) N from rfl] at hnew
      have hset := bcs_set (List.replicate j 0) (dig (W - (j + 1)) N) 0 (x % 2)
      rw [List.length_replicate] at hset
      rw [hset] at hnew
      have hglt := hb0.lt
      have hjW : (j : Int) < W := by omega
      have Hnew := Lib.hid hnew
      clear hnew hset hb0 e1
      go_wp2
      go_roundw
      case rel =>
        refine ⟨j, x / 2, by omega, rfl, iv (by have := HN.out; have : N / 2 ^ (W - (j + 1)) ≤ N := Nat.div_le_self _ _; have := Hx.out; unfold wrap64; omega), ?_, ?_, ?_⟩
        · show x / 2 = N / 2 ^ (W - j)
          rw [Hx.out, show W - j = W - (j + 1) + 1 from by omega, Nat.pow_succ, Nat.div_div_eq_div_mul]
        · show Blk _ _ _ _
          have h1 := Hnew.out
          rw [Hx.out, ← dig_low, show W - (j + 1) + 1 = W - j from by omega] at h1
          simpa [Hx.out] using h1
        · show Below _ _ _
          have := Hb.out
          go_grown
      case measure => simp [intOf]
    · obtain rfl : j = 0 := by omega
      have hx := Hx.out
      have hfin : ((x : Int) == 0) = ((N : Int) / 2 ^ W == 0) := by
        rw [hx, Nat.sub_zero]
        norm_cast
      have Hfin := Lib.hid hfin
      clear hfin hx
      go_wp2
      go_ret2
      refine ⟨w.heap.size, by rw [← Hfin.out]; rfl, ?_, Nat.le_refl _, Hb.out⟩
      have := HB.out
      simpa using this
theorem refDig_yes (n width : Int) (w : World) (h : fits n width) : Calls Try.prog 70 #[.int .i64 n, .int .i64 width] w fun e w' =>
    ∃ g, e = .returned (.tuple #[.slice (some ⟨g, 0, none⟩) width.toNat width.toNat, .bool true]) ∧ Blk w' g 3 (bcs (digI n width)).toArray ∧ w.heap.size ≤ g ∧ Below w.heap.size w w' := by
  obtain ⟨h1, h2, h3, h4⟩ := h
  obtain ⟨W, rfl⟩ := Int.eq_ofNat_of_zero_le h1
  obtain ⟨N, rfl⟩ := Int.eq_ofNat_of_zero_le h3
  refine (refDig_in N W w (by omega) (by have h5 : 2 ^ W ≤ 2 ^ 32 := Nat.pow_le_pow_right (by omega) (by omega); rw [show (2 : Nat) ^ 32 = 4294967296 from by decide] at h5; simp only [Int.toNat_natCast] at h4; have h6 : N < 2 ^ W := (by exact_mod_cast h4); omega)).mono ?_
  rintro e w' ⟨g, rfl, hB, hg, hb⟩
  refine ⟨g, ?_, hB, hg, hb⟩
  have hd : (N : Int) / 2 ^ W = 0 := Int.ediv_eq_zero_of_lt h3 (by simpa using h4)
  rw [hd]
  rfl
theorem blk_reads {w : World} {h : Nat} {t : TypeId} (l : List Value) (hB : Blk w h t l.toArray) (n : Nat) (hn : l.length = n) : Reads w w.heap.size 1 (some ⟨h, 0, none⟩) n l :=
  ⟨by omega, fun _ => ⟨h, 0, rfl, hB.lt, fun j u hu => by rw [Nat.zero_add, hB.cell]; simpa using hu⟩⟩
theorem reads_at {w : World} {B n : Nat} {A : Option Addr} {l : List Nat} (hr : Reads w B 1 A n (bcs l)) (hn : 0 < n) : ∃ b off, A = some ⟨b, off, none⟩ ∧ b < B ∧ ∀ k, (hk : k < l.length) → w.cell? ⟨b, off + k, none⟩ = some (.int .i64 (l[k] : Int)) := by
  obtain ⟨b, off, e, hb, hc⟩ := hr.2 hn
  exact ⟨b, off, e, hb, fun k hk => hc k _ (bcs_get l k hk)⟩
end Go.Proofs.Ytpocpckhcciecaa
namespace Go.Proofs.Ytpocpckhcciecaa
set_option linter.unusedSimpArgs false
set_option linter.unusedVariables false
open Go.ChangeShapes Go.WideShapes Go.ChangeAt Go.RowKit Go.Joins Go.Deep
/-- Are bits those of a row, as far as they go; and do they have all of it? -/
def begF : List Nat → List Nat → Bool × Bool
  | _, [] => (true, true)
  | [], _ :: _ => (true, false)
  | a :: t, b :: u => if a = b then begF t u else (false, false)
end Go.Proofs.Ytpocpckhcciecaa
namespace Go.Proofs.Ytpocpckhcciecaa
set_option linter.unusedSimpArgs false
set_option linter.unusedVariables false
open Go.ChangeShapes Go.WideShapes Go.ChangeAt Go.RowKit Go.Joins Go.Deep
/-- The bits of a symbol's code word; or that it has none. -/
def cwordF (ws : List (Int × Int)) (s : Int) : List Nat × Int := if 0 ≤ s ∧ s < ws.length ∧ (ws.getD s.toNat (0, 0)).2 ≠ 0 then (digI (ws.getD s.toNat (0, 0)).1 (ws.getD s.toNat (0, 0)).2, 0) else ([], 70)
theorem cfields_at {w : World} {B n : Nat} {A : Option Addr} {l : List (Int × Int)} (hr : Reads w B 2 A n (pairs .i64 l)) (hn : 0 < n) : ∃ b off, A = some ⟨b, off, none⟩ ∧ b < B ∧ ∀ k, (hk : k < l.length) → w.cell? ⟨b, off + k * 2, none⟩ = some (.int .i64 l[k].1) ∧ w.cell? ⟨b, off + k * 2 + 1, none⟩ = some (.int .i64 l[k].2) := by
  obtain ⟨b, off, e, hb, hc⟩ := hr.2 hn
  exact ⟨b, off, e, hb, fun k hk => ⟨hc _ _ (pairs_fst .i64 l k hk), hc _ _ (pairs_snd .i64 l k hk)⟩⟩
theorem cheld_next {w' w1 : World} {b o1 o2 : Nat} {x y : Value} (h : w'.cell? ⟨b, o1, none⟩ = some x ∧ w'.cell? ⟨b, o2, none⟩ = some y ∧ b < w'.heap.size) (hb : Below w'.heap.size w' w1) : w1.cell? ⟨b, o1, none⟩ = some x ∧ w1.cell? ⟨b, o2, none⟩ = some y ∧ b < w1.heap.size :=
  ⟨(hb.cell (p := ⟨b, o1, none⟩) h.2.2).trans h.1, (hb.cell (p := ⟨b, o2, none⟩) h.2.2).trans h.2.1, Nat.lt_of_lt_of_le h.2.2 hb.size⟩
/-- What Word returns. -/
def CWordPost (w w' : World) (e : Ending) (F : List Nat × Int) : Prop := ∃ D m cd, e = .returned (.tuple #[.slice D m cd, .int .i64 F.2]) ∧ F.1.length = m ∧ Reads w' w'.heap.size 1 D m (bcs F.1) ∧ Below w.heap.size w w'
set_option maxRecDepth 100000 in
set_option maxHeartbeats 4000000 in
theorem cref_word_any (ws : List (Int × Int)) (A : Option Addr) (n c : Nat) (s : Int) (w : World) (hn : ws.length = n) (hl : n ≤ 1000) (hr : Reads w w.heap.size 2 A n (pairs .i64 ws)) (hf : ∀ f ∈ ws, fits f.1 f.2) :
    Calls Try.prog 50 #[.slice A n c, .int .i64 s] w fun e w' => CWordPost w w' e (cwordF ws s) := by
  have hni : (n : Int) ≤ 1000 := by omega
  by_cases h0 : s < 0
  · have hF : cwordF ws s = ([], 70) := by unfold cwordF; rw [if_neg (by omega)]
    rw [hF]
    clear hr hf hF hn
    go_enter Try.func50, Try.ntmps50
    go_wp2
    go_ret2
    exact ⟨none, 0, 0, rfl, rfl, Reads.none_, by go_grown⟩
  by_cases h1 : (n : Int) ≤ s
  · have hF : cwordF ws s = ([], 70) := by unfold cwordF; rw [if_neg (by omega)]
    rw [hF]
    clear hr hf hF hn
    go_enter Try.func50, Try.ntmps50
    go_wp2
    go_ret2
    exact ⟨none, 0, 0, rfl, rfl, Reads.none_, by go_grown⟩
  obtain ⟨k, rfl⟩ := Int.eq_ofNat_of_zero_le (by omega : 0 ≤ s)
  have hkl : k < ws.length := by omega
  have hkn : k < n := by omega
  obtain ⟨b, off, rfl, hb, hc⟩ := cfields_at hr (by omega)
  obtain ⟨x1, x2⟩ := hc k hkl
  have hki : (0 : Int) ≤ (k : Int) ∧ (k : Int) < (n : Int) := by omega
  have hgd : ws.getD k (0, 0) = ws[k] := by rw [List.getD_eq_getElem?_getD, List.getElem?_eq_getElem hkl]; rfl
  have hfit := hf _ (List.getElem_mem hkl)
  have hFF : cwordF ws (k : Int) = if ws[k].2 ≠ 0 then (digI ws[k].1 ws[k].2, 0) else ([], 70) := by
    unfold cwordF
    rw [Int.toNat_natCast, hgd]
    by_cases hz : ws[k].2 ≠ 0
    · rw [if_pos hz, if_pos ⟨by omega, by omega, hz⟩]
    · rw [if_neg hz, if_neg (fun h => hz h.2.2)]
  rw [hFF]
  clear hFF hgd hc hf hr hn
  generalize ws[k].1 = fn at *
  generalize ws[k].2 = fw at *
  by_cases hz : fw = 0
  · subst hz
    rw [if_neg (by simp)]
    clear hfit
    go_enter Try.func50, Try.ntmps50
    go_wp2
    try go_quiet (fail)
    go_wp2
    go_ret2
    exact ⟨none, 0, 0, rfl, rfl, Reads.none_, by go_grown <;> refine below_drewN ?_ _ <;> go_grown⟩
  · rw [if_pos hz]
    have hdg := fun W => refDig_yes fn fw W hfit
    have hdl : (digI fn fw).length = fw.toNat := dig_length _ _
    have hzb : (fw == (0 : Int)) = false := by simpa using hz
    clear hfit
    generalize digI fn fw = D at *
    generalize fw.toNat = m at *
    go_enter Try.func50, Try.ntmps50
    go_wp2
    try go_quiet (fail)
    go_wp2
    go_region_held3 (fun w' => w'.cell? ⟨b, off + k * 2, none⟩ = some (.int .i64 fn) ∧ w'.cell? ⟨b, off + k * 2 + 1, none⟩ = some (.int .i64 fw) ∧ b < w'.heap.size)
      (first | exact cheld_next (by assumption) hb1 | exact ⟨x1, x2, hb⟩)
      (first | (go_at_call 70; (with_reducible refine (hdg _).mono ?_); rintro e w1 ⟨g, rfl, hB1, hg1, hb1⟩))
    rename_i hS
    have hb1' : Below w.heap.size w w1 := ⟨hb1.os, hb1.tape, hb1.output, hb1.size, hb1.block⟩
    go_wp2
    go_ret2
    exact ⟨some ⟨g, 0, none⟩, m, m, rfl, hdl, blk_reads _ hB1 m (by rw [bcs_length]; exact hdl), hb1'⟩
end Go.Proofs.Ytpocpckhcciecaa
namespace Go.Proofs.Ytpocpckhcciecaa
set_option linter.unusedSimpArgs false
set_option linter.unusedVariables false
open Go.ChangeShapes Go.WideShapes Go.ChangeAt Go.RowKit Go.Joins Go.Deep
/-- Which of the words, from number s on, begins the bits R; E: what is said if none does. -/
def cget1 : List (Int × Int) → Nat → List Nat → Int → Int × Int × Int
  | [], _, _, E => (0, 0, E)
  | f :: t, s, R, E => if f.2 = 0 then cget1 t (s + 1) R E else if (begF R (digI f.1 f.2)).2 = true then ((s : Int), ((digI f.1 f.2).length : Int), 0) else cget1 t (s + 1) R (if (begF R (digI f.1 f.2)).1 = true then 4 else E)
/-- What Get answers at a place. -/
def cgetF (ws : List (Int × Int)) (L : List Nat) (p : Nat) : Int × Int × Int := cget1 ws 0 (L.drop p) (if p = L.length then 4 else 40)
theorem cword_at (ws : List (Int × Int)) (k : Nat) (h : k < ws.length) : cwordF ws (k : Int) = if ws[k].2 ≠ 0 then (digI ws[k].1 ws[k].2, 0) else ([], 70) := by
  have hgd : ws.getD k (0, 0) = ws[k] := by rw [List.getD_eq_getElem?_getD, List.getElem?_eq_getElem h]; rfl
  unfold cwordF
  rw [Int.toNat_natCast, hgd]
  by_cases hz : ws[k].2 ≠ 0
  · rw [if_pos hz, if_pos ⟨by omega, by omega, hz⟩]
  · rw [if_neg hz, if_neg (fun h => hz h.2.2)]
end Go.Proofs.Ytpocpckhcciecaa
