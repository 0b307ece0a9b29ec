/-
 What the law of the last of these texts stands on, part 52.
-/
import Derived.Test.YtanjhbkbpalnaaaGreatMa25
import Derived.Outline
set_option maxRecDepth 100000
set_option maxHeartbeats 8000000
open Go.Proofs.Tryz
namespace Go.Proofs.YtanjhbkbpalnaaaGreat
set_option linter.unusedSimpArgs false
set_option linter.unusedVariables false
open Go.ChangeShapes Go.WideShapes Go.ChangeAt Go.RowKit Go.Joins Go.Deep
theorem one_byte (x : Int) (b : UInt8) (h : (b.toNat : Int) = x) (W : World) :
  (convert 36 9 (.slice (some ⟨W.heap.size, 0, none⟩) 1 1)).run prog (W.alloc (.cells #[.int .u8 x] 5)) = .ok (.string ⟨#[b]⟩) (W.alloc (.cells #[.int .u8 x] 5)) := by
 subst h
 exact run_str (W.alloc (.cells #[.int .u8 (b.toNat : Int)] 5)) W.heap.size 1 1 5 [b] rfl (Blk.new W 5 (bc [b]))
theorem add_bytes (a b : List UInt8) (h : a.length + b.length ≤ 9223372036854775807) (w : World) : (Op.stringOp .add ⟨a.toArray⟩ ⟨b.toArray⟩).run prog w = .ok (.string ⟨(a ++ b).toArray⟩) w := by
 rw [run_string_add_sum w _ _ (by rw [qaL, qaL, qa3, qa3]; exact h), ByteArray.mk_append_mk]
theorem w_div (m d : Nat) (hd : 0 < d) (h : m < 9223372036854775808) : wrap64 ((m : Int).tdiv (d : Int)) = ((m / d : Nat) : Int) := by
 rw [Int.tdiv_eq_ediv_of_nonneg (by omega), ← Int.natCast_ediv]
 have := Nat.div_le_self m d
 generalize m / d = q at *
 unfold wrap64
 omega
theorem lt_63 {f m : Nat} (hf : f ≤ 8) (hm : m < 128 ^ (f + 1)) : m < 9223372036854775808 := by
 rw [← pow9]
 exact qaZ hm (qa0 (by omega) (by omega))
theorem refPut_small (m : Int) (b : UInt8) (w : World) (hb : (b.toNat : Int) = m) (h0 : 0 ≤ m) (h1 : m < 128) : Calls prog 37 #[.int .i64 m] w fun e w' => e = .returned (ygS [b] 0) ∧ Below w.heap.size w w' := by
 have hcv := one_byte m b hb w
 clear hb
 go_enter func37, ntmps37
 go_wp2
 go_ret2
 exact ⟨rfl, by go_grown⟩
theorem refPut_step (m : Int) (b : UInt8) (t : List UInt8) (w : World) (h1 : 128 ≤ m) (hb : (b.toNat : Int) = m % 128 + 128) (ht : t.length ≤ 9)
  (ih : Hid (Calls prog 37 #[.int .i64 (wrap64 (m.tdiv 128))] w fun e w' => e = .returned (.tuple #[.string ⟨t.toArray⟩, .int .i64 0]) ∧ Below w.heap.size w w')) :
  Calls prog 37 #[.int .i64 m] w fun e w' => e = .returned (ygS (b :: t) 0) ∧ Below w.heap.size w w' := by
 have hcv := one_byte (128 + m % 128) b (by omega)
 have had := add_bytes [b] t (by simp; omega)
 have e1 : (ByteArray.mk [b].toArray) = ⟨#[b]⟩ := rfl
 rw [e1] at had
 clear hb ht
 go_enter func37, ntmps37
 go_wp2_with (refine ih.out.mono ?_; rintro e w1 ⟨rfl, hb1⟩)
 go_ret2
 have hs1 := hb1.size
 exact ⟨rfl, by go_grown⟩
theorem refPut_in : ∀ (f m : Nat) (w : World), f ≤ 8 → m < 128 ^ (f + 1) → Calls prog 37 #[.int .i64 m] w fun e w' => e = .returned (ygS (dg (f + 1) m) 0) ∧ Below w.heap.size w w'
 | f, m, w, hf, hm => by
  by_cases h1 : m < 128
  ·have e : dg (f + 1) m = [UInt8.ofNat m] := by rw [dg, qag h1]
   rw [e]
   exact refPut_small (m : Int) _ w (by rw [yaz _ (by omega)]) (by omega) (by omega)
  ·cases f with
   | zero => simp at hm; omega
   | succ f =>
    have hdiv : m / 128 < 128 ^ (f + 1) := by rw [qbE (by omega)]; rw [qaR] at hm; exact hm
    have ih := refPut_in f (m / 128) w (by omega) hdiv
    have hm63 := lt_63 (f := f + 1) hf hm
    have e : dg (f + 1 + 1) m = UInt8.ofNat (128 + m % 128) :: dg (f + 1) (m / 128) := by rw [dg, qae h1]
    have hle := dg_le (f + 1) (m / 128)
    rw [e]
    exact refPut_step (m : Int) _ (dg (f + 1) (m / 128)) w (by omega) (by rw [yaz _ (by omega)]; omega) (by omega) (qaa (by rw [show (128 : Int) = ((128 : Nat) : Int) from rfl, w_div m 128 (by omega) hm63]; exact ih))
theorem yeY (n : Int) (w : World) (h : n < 9223372036854775808) : Calls prog 37 #[.int .i64 n] w fun e w' => e = .returned (ygS (putB n) (putE n)) ∧ Below w.heap.size w w' := by
 by_cases h0 : n < 0
 ·have e1 : putB n = [] := by simp [putB, h0]
  have e2 : putE n = 2 := by simp [putE, h0]
  rw [e1, e2]
  clear e1 e2
  go_enter func37, ntmps37
  go_wp2
  go_ret2
  exact ⟨rfl, by go_grown⟩
 ·obtain ⟨m, rfl⟩ := qaF (by omega : 0 ≤ n)
  have e1 : putB (m : Int) = dg 9 m := by rw [yeg (by omega), qan]
  have e2 : putE (m : Int) = 0 := by unfold putE; rw [qae h0]
  rw [e1, e2]
  exact refPut_in 8 m w (by omega) (by rw [pow9]; omega)
end Go.Proofs.YtanjhbkbpalnaaaGreat
