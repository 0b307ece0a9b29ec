/-
  Layer 3: what text, end and piece of package take return, for every argument.
-/
import Derived.Test.YtjodckinfoldgaaTakeM
import Derived.Test.YtjodckinfoldgaaVarG0
import Derived.Test.YtjodckinfoldgaaFrame
namespace Go.Proofs.Ytjodckinfoldgaa
set_option linter.unusedSimpArgs false
set_option linter.unusedVariables false
open Go.ChangeShapes Go.WideShapes Go.ChangeAt Go.RowKit Go.Joins Go.Deep
theorem get_is3 (l : List UInt8) (p : Int) (w : World) (hl : l.length ≤ 4611686018427387904) :
    Calls Try.prog 49 #[.string ⟨l.toArray⟩, .int .i64 p] w fun r w' => r = .returned (.tuple #[.int .i64 (getF l p).1, .int .i64 (getF l p).2.1, .int .i64 (getF l p).2.2]) ∧ w = w' := get_any l p w hl
theorem unfix_is3 (l : List UInt8) (p v : Int) (w : World) (hl : l.length ≤ 4611686018427387904) :
    Calls Try.prog 48 #[.string ⟨l.toArray⟩, .int .i64 p, .int .i64 v] w fun r w' => r = .returned (.tuple #[.int .i64 (unfixF l p v).1, .int .i64 (unfixF l p v).2.1, .int .i64 (unfixF l p v).2.2]) ∧ w = w' := unfix_any l p v w hl
theorem run_part (l : List UInt8) (p n : Int) (h0 : 0 ≤ p) (hn : 0 ≤ n) (hl : p + n ≤ l.length) (w : World) :
    (Instr.slice 9 (.string ⟨l.toArray⟩) (some (.int .i64 p)) (some (.int .i64 (p + n))) none).run Try.prog w = .ok (.string ⟨((l.drop p.toNat).take n.toNat).toArray⟩) w := by
  rw [run_slice_string w 9 ⟨l.toArray⟩ .i64 .i64 p (p + n) Try.underlying9 h0 (by omega) (by rw [ByteArray.size_mk', List.size_toArray]; exact hl), ByteArray.extract_mk]
  congr 5
  omega
theorem text_any (l : List UInt8) (p n : Int) (w : World) (hl : l.length ≤ 4611686018427387904) (h0 : 0 ≤ p) (hp : p ≤ l.length) (r : List UInt8 × Int × Int) (hr : textF l p n = r) :
    Calls Try.prog 50 #[.string ⟨l.toArray⟩, .int .i64 p, .int .i64 n] w fun e w' => e = .returned (.tuple #[.string ⟨r.1.toArray⟩, .int .i64 r.2.1, .int .i64 r.2.2]) ∧ w = w' := by
  by_cases hn : n < 0
  · have fin : r = ([], 0, 2) := by rw [← hr]; unfold textF; rw [if_pos hn]
    rw [fin]
    clear fin hr
    go_enter Try.func50, Try.ntmps50
    go_wp2
    go_ret3
    exact ⟨rfl, rfl⟩
  · by_cases hs : (l.length : Int) - p < n
    · have fin : r = ([], 0, 4) := by rw [← hr]; unfold textF; rw [if_neg hn, if_pos hs]
      rw [fin]
      clear fin hr
      go_enter Try.func50, Try.ntmps50
      go_wp2
      go_ret3
      exact ⟨rfl, rfl⟩
    · have fin : r = ((l.drop p.toNat).take n.toNat, p + n, 0) := by rw [← hr]; unfold textF; rw [if_neg hn, if_neg hs]
      have hsl := run_part l p n h0 (by omega) (by omega)
      rw [fin]
      clear fin hr
      go_enter Try.func50, Try.ntmps50
      go_wp2
      go_ret3
      exact ⟨rfl, rfl⟩
theorem end_any (l : List UInt8) (p : Int) (w : World) (hl : l.length ≤ 4611686018427387904) :
    Calls Try.prog 51 #[.string ⟨l.toArray⟩, .int .i64 p] w fun e w' => e = .returned (.tuple #[.int .i64 (if p < l.length then 0 else p), .int .i64 (if p < l.length then 6 else 0)]) ∧ w = w' := by
  by_cases h : p < l.length
  · rw [if_pos h, if_pos h]
    go_enter Try.func51, Try.ntmps51
    go_wp2
    go_ret2
    exact ⟨rfl, rfl⟩
  · rw [if_neg h, if_neg h]
    go_enter Try.func51, Try.ntmps51
    go_wp2
    go_ret2
    exact ⟨rfl, rfl⟩
set_option maxRecDepth 100000 in
set_option maxHeartbeats 1000000 in
theorem piece_any (l : List UInt8) (p k n : Int) (w : World) (hl : l.length ≤ 4611686018427387904) (h0 : 0 ≤ p) (hp : p ≤ l.length) (r : (Int × List UInt8) × Int × Int) (hr : pieceF l p k n = r) :
    Calls Try.prog 47 #[.string ⟨l.toArray⟩, .int .i64 p, .agg #[.int .i64 k, .int .i64 n]] w fun e w' => e = .returned (.tuple #[.agg #[.int .i64 r.1.1, .string ⟨r.1.2.toArray⟩], .int .i64 r.2.1, .int .i64 r.2.2]) ∧ Below w.heap.size w w' := by
  by_cases h1 : k = 1
  · have fin : r = (((unfixF l p 1).1, []), (unfixF l p 1).2.1, (unfixF l p 1).2.2) := by rw [← hr]; unfold pieceF; rw [if_pos h1]
    rw [fin]
    clear fin hr
    subst h1
    go_enter Try.func47, Try.ntmps47
    go_wp2_with (refine (unfix_is3 l p 1 _ hl).mono ?_; rintro e w1 ⟨rfl, rfl⟩)
    refine bodyPost_ret (v := .tuple #[.agg #[.int .i64 ((unfixF l p 1).1), .string ⟨#[]⟩], .int .i64 ((unfixF l p 1).2.1), .int .i64 ((unfixF l p 1).2.2)]) (by simp [results, Try.results47, go_sem]) rfl ⟨rfl, by go_grown⟩
  by_cases h2 : k = 2
  · have fin : r = (((getF l p).1, []), (getF l p).2.1, (getF l p).2.2) := by rw [← hr]; unfold pieceF; rw [if_neg h1, if_pos h2]
    rw [fin]
    clear fin hr
    subst h2
    go_enter Try.func47, Try.ntmps47
    go_wp2_with (refine (get_is3 l p _ hl).mono ?_; rintro e w1 ⟨rfl, rfl⟩)
    refine bodyPost_ret (v := .tuple #[.agg #[.int .i64 ((getF l p).1), .string ⟨#[]⟩], .int .i64 ((getF l p).2.1), .int .i64 ((getF l p).2.2)]) (by simp [results, Try.results47, go_sem]) rfl ⟨rfl, by go_grown⟩
  by_cases h3 : k = 3
  · have fin : r = (((unfixF l p n).1, []), (unfixF l p n).2.1, (unfixF l p n).2.2) := by rw [← hr]; unfold pieceF; rw [if_neg h1, if_neg h2, if_pos h3]
    rw [fin]
    clear fin hr
    subst h3
    go_enter Try.func47, Try.ntmps47
    go_wp2_with (refine (unfix_is3 l p n _ hl).mono ?_; rintro e w1 ⟨rfl, rfl⟩)
    refine bodyPost_ret (v := .tuple #[.agg #[.int .i64 ((unfixF l p n).1), .string ⟨#[]⟩], .int .i64 ((unfixF l p n).2.1), .int .i64 ((unfixF l p n).2.2)]) (by simp [results, Try.results47, go_sem]) rfl ⟨rfl, by go_grown⟩
  by_cases h4 : k = 4
  · have fin : r = ((0, (textF l p n).1), (textF l p n).2.1, (textF l p n).2.2) := by rw [← hr]; unfold pieceF; rw [if_neg h1, if_neg h2, if_neg h3, if_pos h4]
    rw [fin]
    clear fin hr
    subst h4
    go_enter Try.func47, Try.ntmps47
    go_wp2_with (refine (text_any l p n _ hl h0 hp _ rfl).mono ?_; rintro e w1 ⟨rfl, rfl⟩)
    refine bodyPost_ret (v := .tuple #[.agg #[.int .i64 (0), .string ⟨(textF l p n).1.toArray⟩], .int .i64 ((textF l p n).2.1), .int .i64 ((textF l p n).2.2)]) (by simp [results, Try.results47, go_sem]) rfl ⟨rfl, by go_grown⟩
  by_cases h5 : k = 5
  · have fin : r = (((0 : Int), l.drop p.toNat), (l.length : Int), (0 : Int)) := by rw [← hr]; unfold pieceF; rw [if_neg h1, if_neg h2, if_neg h3, if_neg h4, if_pos h5]
    rw [fin]
    clear fin hr
    subst h5
    have ht : textF l p ((l.length : Int) - p) = (l.drop p.toNat, (l.length : Int), (0 : Int)) := by
      unfold textF
      rw [if_neg (by omega), if_neg (by omega), List.take_of_length_le (by rw [List.length_drop]; omega)]
      congr 2
      omega
    go_enter Try.func47, Try.ntmps47
    go_wp2_with (refine (text_any l p _ _ hl h0 hp _ ht).mono ?_; rintro e w1 ⟨rfl, rfl⟩)
    refine bodyPost_ret (v := .tuple #[.agg #[.int .i64 (0), .string ⟨(l.drop p.toNat).toArray⟩], .int .i64 (l.length), .int .i64 (0)]) (by simp [results, Try.results47, go_sem]) rfl ⟨rfl, by go_grown⟩
  by_cases h6 : k = 6
  · have fin : r = ((0, []), (if p < l.length then 0 else p), (if p < l.length then 6 else 0)) := by
      rw [← hr]; unfold pieceF; rw [if_neg h1, if_neg h2, if_neg h3, if_neg h4, if_neg h5, if_pos h6]
      split <;> rfl
    rw [fin]
    clear fin hr
    subst h6
    have he := fun w => end_any l p w hl
    generalize (if p < (l.length : Int) then (0 : Int) else p) = q at he ⊢
    generalize (if p < (l.length : Int) then (6 : Int) else 0) = e at he ⊢
    go_enter Try.func47, Try.ntmps47
    go_wp2_with (refine (he _).mono ?_; rintro e w1 ⟨rfl, rfl⟩)
    refine bodyPost_ret (v := .tuple #[.agg #[.int .i64 (0), .string ⟨#[]⟩], .int .i64 (q), .int .i64 (e)]) (by simp [results, Try.results47, go_sem]) rfl ⟨rfl, by go_grown⟩
  have fin : r = ((0, []), 0, 2) := by rw [← hr]; unfold pieceF; rw [if_neg h1, if_neg h2, if_neg h3, if_neg h4, if_neg h5, if_neg h6]
  rw [fin]
  clear fin hr
  go_enter Try.func47, Try.ntmps47
  go_wp2
  refine bodyPost_ret (v := .tuple #[.agg #[.int .i64 (0), .string ⟨#[]⟩], .int .i64 (0), .int .i64 (2)]) (by simp [results, Try.results47, go_sem]) rfl ⟨rfl, by go_grown⟩
end Go.Proofs.Ytjodckinfoldgaa
