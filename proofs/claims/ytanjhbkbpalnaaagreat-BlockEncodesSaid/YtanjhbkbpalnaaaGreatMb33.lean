/-
 What the law of the last of these texts stands on, part 33.
-/
import Derived.Test.YtanjhbkbpalnaaaGreatMb23
set_option maxRecDepth 100000
set_option maxHeartbeats 8000000
open Go.Proofs.Tryz
namespace Go.Proofs.YtanjhbkbpalnaaaGreat
set_option linter.unusedSimpArgs false
set_option linter.unusedVariables false
open Go.ChangeShapes Go.WideShapes Go.ChangeAt Go.RowKit Go.Joins Go.Deep
theorem str_head (l : List UInt8) (p : Nat) (hp : p ≤ l.length) (w : World) :
  (Instr.slice 9 (.string ⟨l.toArray⟩) none (some (.int .i64 (p : Int))) none).run prog w = .ok (.string ⟨(l.take p).toArray⟩) w := by
 rw [run_slice_string_h w 9 ⟨l.toArray⟩ underlying9 .i64 (p : Int) (by omega) (by rw [qaA, qa0]; omega), qbQ, qbt, Nat.sub_zero, qap]
theorem str_tail (l : List UInt8) (p : Int) (h0 : 0 ≤ p) (hp : p ≤ l.length) (w : World) :
  (Instr.slice 9 (.string ⟨l.toArray⟩) (some (.int .i64 p)) none none).run prog w = .ok (.string ⟨(l.drop p.toNat).toArray⟩) w := by
 rw [run_slice_string_l w 9 ⟨l.toArray⟩ underlying9 .i64 p h0 (by rw [qaA, qa0]; exact hp), qbQ, qaA, qa0, qax (by rw [qaz]; omega)]
theorem str_part (l : List UInt8) (p q : Int) (h0 : 0 ≤ p) (hn : p ≤ q) (hl : q ≤ l.length) (w : World) :
  (Instr.slice 9 (.string ⟨l.toArray⟩) (some (.int .i64 p)) (some (.int .i64 q)) none).run prog w = .ok (.string ⟨((l.drop p.toNat).take (q.toNat - p.toNat)).toArray⟩) w := by
 rw [run_slice_string w 9 ⟨l.toArray⟩ .i64 .i64 p q underlying9 h0 (by omega) (by rw [qaA, qa0]; exact hl), qbQ]
theorem str_add (a b : List UInt8) (h : a.length + b.length ≤ 9223372036854775807) (w : World) : (Op.stringOp .add ⟨a.toArray⟩ ⟨b.toArray⟩).run prog w = .ok (.string ⟨(a ++ b).toArray⟩) w := by
 rw [run_string_add_sum w _ _ (by rw [qaA, qaA, qa0, qa0]; exact h), qcl]
theorem fr_begun_any (w : World) : Calls prog 79 #[] w fun e w' => e = .returned (.string ⟨row0.toArray⟩) ∧ Below w.heap.size w w' := by
 obtain ⟨i0, hi, hz0, hz1, hz2⟩ := qbn ybY
 have Hnext : Hid (∀ k, k < 256 → (bc (row0.take k)).toList ++ [Value.int .u8 (k : Int)] = (bc (row0.take (k + 1))).toList ∧ (row0.take k).length = k) := qaa fun k hk => by
  refine ⟨?_, by rw [qar, yf2]; omega⟩
  have hl : k < row0.length := by rw [yf2]; exact hk
  have hg := row0_get k hk
  rw [qan hl] at hg
  injection hg with hg
  rw [yfY row0 k hl, hg, ycI, ycI, List.map_append]
  simp [yaw k hk]
 have Hend : Hid (∀ wr A c, wr.ownsRow w.heap.size 5 1 (.slice A 256 c) 256 (bc (row0.take 256)).toList → (convert 36 9 (.slice A 256 c)).run prog wr = .ok (.string ⟨row0.toArray⟩) wr) := qaa fun wr A c h => by
  obtain ⟨A', c', he, _, hr⟩ := yad h
  injection he with e1 e2 e3
  subst e1
  subst e3
  have hl := yf2
  rw [qax (by omega)] at hr
  have := ybd underlying36 underlying5 underlying9 wr A c row0 (by rw [hl]; exact hr)
  rw [hl] at this
  exact this
 generalize hf : (fun k => (bc (row0.take k)).toList) = f at *
 have hf' : ∀ k, (bc (row0.take k)).toList = f k := fun k => by rw [← hf]
 have hf0 : f 0 = [] := by rw [← hf' 0]; rfl
 simp only [hf'] at *
 clear hf hf'
 have Hf0 := qaa hf0
 clear hf0
 generalize row0 = RR at *
 go_enter func79, ntmps79
 go_wp2
 go_loopw [1, 2] (fun v i wr => ∃ k : Nat, k ≤ 256 ∧ i = .int .i64 k ∧ Hid (wr.ownsRow w.heap.size 5 1 v k (f k)) ∧ Hid (Below w.heap.size w wr)) (fun _ i _ => 256 - (intOf i).toNat)
 case atStart => exact ⟨0, by omega, rfl, qaa (by rw [Hf0.out]; exact qbg _ _ _ _), qaa (qaj _ _)⟩
 case round =>
  obtain ⟨k, hk, rfl, Hown, Hb⟩ := hrel
  by_cases hlt : k < 256
  ·have hki : (0 : Int) ≤ (k : Int) ∧ (k : Int) < 256 := by omega
   have hm : (k : Int) % 256 = k := by omega
   have Hn := qaa (Hnext.out k hlt)
   have hszr := Hb.out.size
   clear Hnext
   go_wp2_with (at_builtin; refine yaf _ rfl _ _ 36 rfl w.heap.size 5 i0 (.int .u8 0) 1 1 underlying36 hi hz0 hz1 hz2 rfl (by decide) _ _ _ rfl (Hown.out.alloc _) _ 1 1 _ _ rfl (yar wr 5 #[.int .u8 (k : Int)] 1 1 rfl) ?c1 ?c2 ?c3 ?c4 ?_)
   case c1 => exact rfl
   case c2 => unfold maxLen; omega
   case c3 => omega
   case c4 => simp; omega
   intro v2 w2 hown2 hgrow hsep
   have hb2 : Below w.heap.size w w2 := (Hb.out.trans ((qaj _ _).alloc hszr _)).grown hgrow (by simp; omega) (fun g hg => (Hown.out.lt g hg).1)
   have Hown3 : Hid (w2.ownsRow w.heap.size 5 1 v2 (k + 1) (f (k + 1))) := qaa (by rw [← Hn.out.1]; simpa using hown2)
   have Hb2 := qaa hb2
   clear hb2 hown2 hgrow hsep
   go_wp2
   go_roundw
   case rel => exact ⟨k + 1, by omega, iv (by omega), Hown3.out, Hb2.out⟩
   case measure => simp only [intOf]; omega
  ·obtain rfl : k = 256 := by omega
   obtain ⟨A, c, rfl, _, _⟩ := yad Hown.out
   have hcv := Hend.out wr A c Hown.out
   go_wp2
   go_ret
   exact ⟨rfl, Hb.out⟩
theorem fr_moved_any (R : List UInt8) (hR : R.length = 256) (k : Nat) (hk : k < 256) (w : World) :
  Calls prog 81 #[.string ⟨R.toArray⟩, .int .i64 (k : Int)] w fun e w' => e = .returned (.string ⟨(mv R k).toArray⟩) ∧ Below w.heap.size w w' := by
 have hki : (0 : Int) ≤ (k : Int) ∧ (k : Int) < 256 := by omega
 have hw1 : IntKind.i64.wrap ((k : Int) + 1) = (k : Int) + 1 := by rw [qai]; omega
 have h1 := fun w => str_part R (k : Int) ((k : Int) + 1) (by omega) (by omega) (by omega) w
 have h2 := fun w => str_head R k (by omega) w
 have h3 := fun w => str_tail R ((k : Int) + 1) (by omega) (by omega) w
 have e1 : (R.drop (k : Int).toNat).take (((k : Int) + 1).toNat - (k : Int).toNat) = [R.getD k 0] := by
  rw [show (k : Int).toNat = k from rfl, show ((k : Int) + 1).toNat = k + 1 from by omega, show k + 1 - k = 1 from by omega, qa3 (by omega), yf1 R k (by omega)]
  rfl
 have e3 : ((k : Int) + 1).toNat = k + 1 := by omega
 have a1 := fun w => str_add [R.getD k 0] (R.take k) (by rw [qar, qbv]; omega) w
 have a2 := fun w => str_add ([R.getD k 0] ++ R.take k) (R.drop (k + 1)) (by rw [qae, qar, qbv, qaz]; omega) w
 have e4 : ([R.getD k 0] ++ R.take k) ++ R.drop (k + 1) = mv R k := by simp [mv]
 rw [e1] at h1
 rw [e3] at h3
 rw [e4] at a2
 clear e1 e3 e4 hR
 generalize [R.getD k 0] ++ R.take k = B2 at *
 generalize [R.getD k 0] = B1 at *
 generalize mv R k = M at *
 generalize R.take k = T at *
 generalize R.drop (k + 1) = D at *
 go_enter func81, ntmps81
 go_wp2
 go_quiet (fail)
 go_wp2
 go_ret
 exact ⟨rfl, yaj (qaj _ _) _⟩
theorem pl_ne (R : List UInt8) (b : UInt8) (k : Nat) (hk : k < R.length) (h : k < pl R b) : R[k] ≠ b := by
 have := List.not_of_lt_findIdx (p := (· == b)) (xs := R) (i := k) h
 simpa using this
theorem fr_place_any (R : List UInt8) (h : Whole R) (b : UInt8) (w : World) :
  Calls prog 80 #[.string ⟨R.toArray⟩, .int .u8 (b.toNat : Int)] w fun e w' => e = .returned (.int .i64 (pl R b : Int)) ∧ w = w' := by
 have hlen := h.len
 have hp := pl_lt h b
 have Hne : Hid (∀ k (hk : k < (ByteArray.mk R.toArray).size), k < pl R b → ¬ (((ByteArray.mk R.toArray)[k]'hk).toNat : Int) = (b.toNat : Int)) := qaa fun k hk hlt e => by
  rw [yeV] at e
  exact pl_ne R b k _ hlt (u8_eq (by omega))
 have Heq : Hid (∀ (hk : pl R b < (ByteArray.mk R.toArray).size), (((ByteArray.mk R.toArray)[pl R b]'hk).toNat : Int) = (b.toNat : Int)) := qaa fun hk => by
  rw [yeV]
  have := pl_get h b
  rw [yf1 _ _ (by omega)] at this
  rw [this]
 have hsz : (ByteArray.mk R.toArray).size = 256 := by rw [qaA]; simpa using hlen
 have Hsz := qaa hsz
 clear h hsz
 generalize (b.toNat : Int) = bv at *
 generalize pl R b = p at *
 go_enter func80, ntmps80
 go_wp2
 go_loop [5] (fun i => ∃ k : Nat, k ≤ p ∧ i = .int .i64 k) (fun i => p - (intOf i).toNat)
 case atStart => exact ⟨0, by omega, rfl⟩
 case round =>
  obtain ⟨k, hk, rfl⟩ := hrel
  have hki : (0 : Int) ≤ (k : Int) ∧ (k : Int) < 256 := by omega
  have hks : k < (ByteArray.mk R.toArray).size := by rw [Hsz.out]; omega
  have hkz : (k : Int) < R.length := by omega
  by_cases hlt : k < p
  ·have hn := Hne.out k hks hlt
   go_wp2
   go_round
   case rel => exact ⟨k + 1, by omega, by go_num⟩
   case measure => simp only [intOf]; omega
  ·obtain rfl : k = p := by omega
   have hn := Heq.out hks
   go_wp2
   go_ret
   exact ⟨rfl, rfl⟩
end Go.Proofs.YtanjhbkbpalnaaaGreat
