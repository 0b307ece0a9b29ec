/-
 What the law of the last of these texts stands on, part 34.
-/
import Derived.Test.YtanjhbkbpalnaaaGreatMc22
import Derived.Test.YtanjhbkbpalnaaaGreatMc31
set_option maxRecDepth 100000
set_option maxHeartbeats 8000000
open Go.Proofs.Tryz
namespace Go.Proofs.YtanjhbkbpalnaaaGreat
set_option linter.unusedSimpArgs false
set_option linter.unusedVariables false
open Go.ChangeShapes Go.WideShapes Go.ChangeAt Go.RowKit Go.Joins Go.Deep
theorem q_add (a b : List UInt8) (h : a.length + b.length ≤ 9223372036854775807) (w : World) : (Op.stringOp .add ⟨a.toArray⟩ ⟨b.toArray⟩).run prog w = .ok (.string ⟨(a ++ b).toArray⟩) w := by
 rw [run_string_add_sum w _ _ (by rw [qbc, qbc, qaA, qaA]; exact h), ByteArray.mk_append_mk]
theorem qput_len (n : Int) : (putB n).length ≤ 9 := by
 unfold putB
 split
 ·exact qbE _
 ·exact dg_le 9 _
theorem q_text_any (a b c : Int) (w : World) (ha : a < 9223372036854775808) (hb : b < 9223372036854775808) (hc : c < 9223372036854775808) :
  Calls prog 36 #[.agg #[.int .i64 a, .int .i64 b, .int .i64 c]] w fun e w' => e = .returned (.string ⟨(qhd a b c).toArray⟩) ∧ Below w.heap.size w w' := by
 have hB := Blk.new w 62 #[.int .i64 a, .int .i64 b, .int .i64 c]
 have c0 : (w.alloc (.cells #[.int .i64 a, .int .i64 b, .int .i64 c] 62)).cell? ⟨w.heap.size, 0, none⟩ = some (.int .i64 a) := hB.cell 0
 have c1 : (w.alloc (.cells #[.int .i64 a, .int .i64 b, .int .i64 c] 62)).cell? ⟨w.heap.size, 1, none⟩ = some (.int .i64 b) := hB.cell 1
 have c2 : (w.alloc (.cells #[.int .i64 a, .int .i64 b, .int .i64 c] 62)).cell? ⟨w.heap.size, 2, none⟩ = some (.int .i64 c) := hB.cell 2
 have HP : Hid (∀ W : World, Calls prog 49 #[.slice (some ⟨W.heap.size, 0, none⟩) 3 3] (W.alloc (.cells #[.int .i64 a, .int .i64 b, .int .i64 c] 3)) fun e w' => e = .returned (.string ⟨(qhd a b c).toArray⟩) ∧ Below W.heap.size W w') := qaa fun W => by
  have hr : Reads (W.alloc (.cells #[.int .i64 a, .int .i64 b, .int .i64 c] 3)) (W.alloc (.cells #[.int .i64 a, .int .i64 b, .int .i64 c] 3)).heap.size 1 (some ⟨W.heap.size, 0, none⟩) 3 (ints [a, b, c]) := by
   refine ⟨rfl, fun _ => ⟨W.heap.size, 0, rfl, by rw [qay]; omega, fun j u hj => ?_⟩⟩
   rw [qaL]
   rw [(Blk.new W 3 #[.int .i64 a, .int .i64 b, .int .i64 c]).cell j]
   simpa [ints] using hj
  have h := p_pput_any [a, b, c] (some ⟨W.heap.size, 0, none⟩) 3 3 _ rfl (by decide) hr (by
   intro x hx
   simp only [qaB, List.not_mem_nil, or_false] at hx
   omega)
  refine h.mono fun e w' h => ⟨?_, ((qam _ _).alloc (qaf _) _).trans (h.2.mono (by rw [qay]; omega))⟩
  rw [h.1]
  simp [ppB, qhd]
 have HP1 := HP.out (w.alloc (.cells #[.int .i64 a, .int .i64 b, .int .i64 c] 62))
 rw [qay] at HP1
 replace HP := qaa HP1
 clear hB ha hb hc HP1
 go_enter func36, ntmps36
 go_wp2_with (go_at_call 49; (with_reducible refine HP.out.mono ?_); rintro e w1 ⟨rfl, hb1⟩; have HB1 := qaa (((qam w.heap.size w).alloc (qaf _) (.cells #[.int .i64 a, .int .i64 b, .int .i64 c] 62)).trans (hb1.mono (Nat.le_succ _))); clear hb1)
 go_ret
 exact ⟨rfl, HB1.out⟩
end Go.Proofs.YtanjhbkbpalnaaaGreat
