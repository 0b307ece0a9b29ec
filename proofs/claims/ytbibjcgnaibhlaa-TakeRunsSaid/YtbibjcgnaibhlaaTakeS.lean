/-
  Layer 3: what the document's own one, Run and Same return, for every argument.
-/
import Derived.Test.YtbibjcgnaibhlaaTakeR
import Derived.Test.YtbibjcgnaibhlaaVarS
namespace Go.Proofs.Ytbibjcgnaibhlaa
set_option linter.unusedSimpArgs false
set_option linter.unusedVariables false
open Go.ChangeShapes Go.WideShapes Go.ChangeAt Go.RowKit Go.Joins Go.Deep

theorem refGet_is3 (l : List UInt8) (p : Int) (w : World) (hl : l.length ≤ 4611686018427387904) :
    Calls Try.prog 25 #[.string ⟨l.toArray⟩, .int .i64 p] w fun r w' => r = .returned (.tuple #[.int .i64 (getF l p).1, .int .i64 (getF l p).2.1, .int .i64 (getF l p).2.2]) ∧ w = w' := refGet_any l p w hl
theorem refUnfix_is3 (l : List UInt8) (p v : Int) (w : World) (hl : l.length ≤ 4611686018427387904) :
    Calls Try.prog 26 #[.string ⟨l.toArray⟩, .int .i64 p, .int .i64 v] w fun r w' => r = .returned (.tuple #[.int .i64 (unfixF l p v).1, .int .i64 (unfixF l p v).2.1, .int .i64 (unfixF l p v).2.2]) ∧ w = w' := refUnfix_any l p v w hl

/-- The document's piece: with a fault the place stays. -/
def oneF (l : List UInt8) (p k n : Int) : (Int × List UInt8) × Int × Int := if (pieceF l p k n).2.2 = 0 then pieceF l p k n else ((0, []), p, (pieceF l p k n).2.2)

set_option maxRecDepth 100000 in
set_option maxHeartbeats 4000000 in
theorem refOne_any (l : List UInt8) (p k n : Int) (w : World) (hl : l.length ≤ 4611686018427387904) (h0 : 0 ≤ p) (hp : p ≤ l.length) (r : (Int × List UInt8) × Int × Int) (hr : oneF l p k n = r) :
    Calls Try.prog 23 #[.string ⟨l.toArray⟩, .int .i64 p, .agg #[.int .i64 k, .int .i64 n]] w fun e w' => e = .returned (.tuple #[.agg #[.int .i64 r.1.1, .string ⟨r.1.2.toArray⟩], .int .i64 r.2.1, .int .i64 r.2.2]) ∧ Below w.heap.size w w' := by
  by_cases h1 : k = 1
  · subst h1
    have hpb : pieceF l p 1 n = pieceF l p 1 0 := by unfold pieceF; rw [if_pos rfl, if_pos rfl]
    by_cases hs : p < l.length
    · have hv := pieceF_byte l p h0 hs
      have hlt : p.toNat < l.length := by omega
      have fin : r = ((((l[p.toNat]'hlt).toNat : Int), []), p + 1, 0) := by
        rw [← hr]; unfold oneF; rw [hpb, hv]; rfl
      rw [fin]
      clear fin hr
      clear hv hpb
      go_enter Try.func23, Try.ntmps23
      go_wp2
      try rw [ba_get]
      have hwb : wrap64 ((l[p.toNat]'hlt).toNat : Int) = ((l[p.toNat]'hlt).toNat : Int) := by have := UInt8.toNat_lt (l[p.toNat]'hlt); unfold wrap64; omega
      rw [hwb]
      refine bodyPost_ret (v := .tuple #[.agg #[.int .i64 (((l[p.toNat]'hlt).toNat : Int)), .string ⟨#[]⟩], .int .i64 (p + 1), .int .i64 (0)]) (by simp [results, Try.results23, go_sem]) rfl ⟨rfl, by go_grown⟩
    · have hv := pieceF_byte_no l p h0 (by omega)
      have fin : r = ((0, []), p, 4) := by
        rw [← hr]; unfold oneF; rw [hpb, hv]; rfl
      rw [fin]
      clear fin hr
      clear hv hpb
      go_enter Try.func23, Try.ntmps23
      go_wp2
      refine bodyPost_ret (v := .tuple #[.agg #[.int .i64 (0), .string ⟨#[]⟩], .int .i64 (p), .int .i64 (4)]) (by simp [results, Try.results23, go_sem]) rfl ⟨rfl, by go_grown⟩
  by_cases h2 : k = 2
  · have hv : pieceF l p k n = (((getF l p).1, []), (getF l p).2.1, (getF l p).2.2) := by unfold pieceF; rw [if_neg h1, if_pos h2]
    subst h2
    by_cases he : (getF l p).2.2 = 0
    · have fin : r = (((getF l p).1, []), (getF l p).2.1, 0) := by
        rw [← hr]; unfold oneF; rw [hv, if_pos he, he]
      rw [fin]
      clear fin hr
      clear hv
      go_enter Try.func23, Try.ntmps23
      go_wp2_with (refine (refGet_is3 l p _ hl).mono ?_; rintro e w1 ⟨rfl, rfl⟩)
      refine bodyPost_ret (v := .tuple #[.agg #[.int .i64 ((getF l p).1), .string ⟨#[]⟩], .int .i64 ((getF l p).2.1), .int .i64 (0)]) (by simp [results, Try.results23, go_sem]) rfl ⟨rfl, by go_grown⟩
    · have fin : r = ((0, []), p, (getF l p).2.2) := by
        rw [← hr]; unfold oneF; rw [hv, if_neg he]
      rw [fin]
      clear fin hr
      clear hv
      go_enter Try.func23, Try.ntmps23
      go_wp2_with (refine (refGet_is3 l p _ hl).mono ?_; rintro e w1 ⟨rfl, rfl⟩)
      refine bodyPost_ret (v := .tuple #[.agg #[.int .i64 (0), .string ⟨#[]⟩], .int .i64 (p), .int .i64 ((getF l p).2.2)]) (by simp [results, Try.results23, go_sem]) rfl ⟨rfl, by go_grown⟩
  by_cases h3 : k = 3
  · have hv : pieceF l p k n = (((unfixF l p n).1, []), (unfixF l p n).2.1, (unfixF l p n).2.2) := by unfold pieceF; rw [if_neg h1, if_neg h2, if_pos h3]
    subst h3
    by_cases he : (unfixF l p n).2.2 = 0
    · have fin : r = (((unfixF l p n).1, []), (unfixF l p n).2.1, 0) := by
        rw [← hr]; unfold oneF; rw [hv, if_pos he, he]
      rw [fin]
      clear fin hr
      clear hv
      go_enter Try.func23, Try.ntmps23
      go_wp2_with (refine (refUnfix_is3 l p n _ hl).mono ?_; rintro e w1 ⟨rfl, rfl⟩)
      refine bodyPost_ret (v := .tuple #[.agg #[.int .i64 ((unfixF l p n).1), .string ⟨#[]⟩], .int .i64 ((unfixF l p n).2.1), .int .i64 (0)]) (by simp [results, Try.results23, go_sem]) rfl ⟨rfl, by go_grown⟩
    · have fin : r = ((0, []), p, (unfixF l p n).2.2) := by
        rw [← hr]; unfold oneF; rw [hv, if_neg he]
      rw [fin]
      clear fin hr
      clear hv
      go_enter Try.func23, Try.ntmps23
      go_wp2_with (refine (refUnfix_is3 l p n _ hl).mono ?_; rintro e w1 ⟨rfl, rfl⟩)
      refine bodyPost_ret (v := .tuple #[.agg #[.int .i64 (0), .string ⟨#[]⟩], .int .i64 (p), .int .i64 ((unfixF l p n).2.2)]) (by simp [results, Try.results23, go_sem]) rfl ⟨rfl, by go_grown⟩
  by_cases h4 : k = 4
  · subst h4
    have hv := pieceF_text l p n
    by_cases hn : n < 0
    · have ht : textF l p n = ([], 0, 2) := by unfold textF; rw [if_pos hn]
      have fin : r = ((0, []), p, 2) := by
        rw [← hr]; unfold oneF; rw [hv, ht]; rfl
      rw [fin]
      clear fin hr
      clear hv ht
      go_enter Try.func23, Try.ntmps23
      go_wp2
      refine bodyPost_ret (v := .tuple #[.agg #[.int .i64 (0), .string ⟨#[]⟩], .int .i64 (p), .int .i64 (2)]) (by simp [results, Try.results23, go_sem]) rfl ⟨rfl, by go_grown⟩
    · by_cases hs : (l.length : Int) - p < n
      · have ht : textF l p n = ([], 0, 4) := by unfold textF; rw [if_neg hn, if_pos hs]
        have fin : r = ((0, []), p, 4) := by
          rw [← hr]; unfold oneF; rw [hv, ht]; rfl
        rw [fin]
        clear fin hr
        clear hv ht
        go_enter Try.func23, Try.ntmps23
        go_wp2
        refine bodyPost_ret (v := .tuple #[.agg #[.int .i64 (0), .string ⟨#[]⟩], .int .i64 (p), .int .i64 (4)]) (by simp [results, Try.results23, go_sem]) rfl ⟨rfl, by go_grown⟩
      · have ht : textF l p n = ((l.drop p.toNat).take n.toNat, p + n, 0) := by unfold textF; rw [if_neg hn, if_neg hs]
        have hsl := run_part l p n h0 (by omega) (by omega)
        have fin : r = ((0, (l.drop p.toNat).take n.toNat), p + n, 0) := by
          rw [← hr]; unfold oneF; rw [hv, ht]; rfl
        rw [fin]
        clear fin hr
        clear hv ht
        go_enter Try.func23, Try.ntmps23
        go_wp2
        go_region
        go_wp2
        refine bodyPost_ret (v := .tuple #[.agg #[.int .i64 (0), .string ⟨((l.drop p.toNat).take n.toNat).toArray⟩], .int .i64 (p + n), .int .i64 (0)]) (by simp [results, Try.results23, go_sem]) rfl ⟨rfl, by go_grown⟩
  by_cases h5 : k = 5
  · have hv : pieceF l p k n = ((0, l.drop p.toNat), (l.length : Int), 0) := by unfold pieceF; rw [if_neg h1, if_neg h2, if_neg h3, if_neg h4, if_pos h5]
    have hsl := run_rest l p h0 hp
    have fin : r = ((0, l.drop p.toNat), (l.length : Int), 0) := by
      rw [← hr]; unfold oneF; rw [hv]; rfl
    rw [fin]
    clear fin hr
    clear hv
    subst h5
    go_enter Try.func23, Try.ntmps23
    go_wp2
    refine bodyPost_ret (v := .tuple #[.agg #[.int .i64 (0), .string ⟨(l.drop p.toNat).toArray⟩], .int .i64 ((l.length : Int)), .int .i64 (0)]) (by simp [results, Try.results23, go_sem]) rfl ⟨rfl, by go_grown⟩
  by_cases h6 : k = 6
  · by_cases hs : p < l.length
    · have hv : pieceF l p k n = ((0, []), 0, 6) := by unfold pieceF; rw [if_neg h1, if_neg h2, if_neg h3, if_neg h4, if_neg h5, if_pos h6, if_pos hs]
      have fin : r = ((0, []), p, 6) := by
        rw [← hr]; unfold oneF; rw [hv]; rfl
      rw [fin]
      clear fin hr
      clear hv
      subst h6
      go_enter Try.func23, Try.ntmps23
      go_wp2
      refine bodyPost_ret (v := .tuple #[.agg #[.int .i64 (0), .string ⟨#[]⟩], .int .i64 (p), .int .i64 (6)]) (by simp [results, Try.results23, go_sem]) rfl ⟨rfl, by go_grown⟩
    · have hv : pieceF l p k n = ((0, []), p, 0) := by unfold pieceF; rw [if_neg h1, if_neg h2, if_neg h3, if_neg h4, if_neg h5, if_pos h6, if_neg hs]
      have fin : r = ((0, []), p, 0) := by
        rw [← hr]; unfold oneF; rw [hv]; rfl
      rw [fin]
      clear fin hr
      clear hv
      subst h6
      go_enter Try.func23, Try.ntmps23
      go_wp2
      refine bodyPost_ret (v := .tuple #[.agg #[.int .i64 (0), .string ⟨#[]⟩], .int .i64 (p), .int .i64 (0)]) (by simp [results, Try.results23, go_sem]) rfl ⟨rfl, by go_grown⟩
  have hv : pieceF l p k n = ((0, []), 0, 2) := by unfold pieceF; rw [if_neg h1, if_neg h2, if_neg h3, if_neg h4, if_neg h5, if_neg h6]
  have fin : r = ((0, []), p, 2) := by
    rw [← hr]; unfold oneF; rw [hv]; rfl
  rw [fin]
  clear fin hr
  clear hv
  go_enter Try.func23, Try.ntmps23
  go_wp2
  refine bodyPost_ret (v := .tuple #[.agg #[.int .i64 (0), .string ⟨#[]⟩], .int .i64 (p), .int .i64 (2)]) (by simp [results, Try.results23, go_sem]) rfl ⟨rfl, by go_grown⟩
end Go.Proofs.Ytbibjcgnaibhlaa
