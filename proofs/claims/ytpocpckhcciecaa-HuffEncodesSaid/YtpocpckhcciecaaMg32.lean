/-
  What the law of the last of these texts stands on, part 32.
-/
import Derived.Test.YtpocpckhcciecaaRows
import Derived.Test.YtpocpckhcciecaaMg01
import Derived.Test.YtpocpckhcciecaaMg02
import Derived.Test.YtpocpckhcciecaaMg03
import Derived.Test.YtpocpckhcciecaaMg04
import Derived.Test.YtpocpckhcciecaaMg05
import Derived.Test.YtpocpckhcciecaaMg06
import Derived.Test.YtpocpckhcciecaaMg07
import Derived.Test.YtpocpckhcciecaaMg08
import Derived.Test.YtpocpckhcciecaaMg09
import Derived.Test.YtpocpckhcciecaaMg10
import Derived.Test.YtpocpckhcciecaaMg23
import Derived.Test.YtpocpckhcciecaaMg24
import Derived.Test.YtpocpckhcciecaaMg25
import Derived.Test.YtpocpckhcciecaaMg26
import Derived.Test.YtpocpckhcciecaaMg27
import Derived.Test.YtpocpckhcciecaaMg28
import Derived.Test.YtpocpckhcciecaaMg29
import Derived.Test.YtpocpckhcciecaaMg30
import Derived.Test.YtpocpckhcciecaaMg31
import Derived.WalkKit
import Derived.WalkSpells
import Derived.WalkLawsBesides
import Derived.ProofKit
import Derived.OpenShut
import Derived.Handy
import Derived.SizedLaws
import Derived.JoinedOf
import Derived.KernelRfl
import Derived.Lib.Hide
import Derived.Lib.SmallJoins
import Derived.Deep.Slices
import Derived.Deep.Fields
import Derived.Deep.SlicePairs
import Derived.Deep.Draws
import Derived.Deep.AppendLies
import Derived.Deep.QuietTactic
import Derived.BigQuiet
import Derived.Deep.RegionHeld3
import Derived.StillTailTactics
import Derived.Laws.OwnMore
import Derived.Laws.Rows
import Derived.Below
import Derived.Carry
import Derived.WalkMore
import Derived.Laws.BytesString
import Derived.Laws.BitsLemmas
import Derived.Laws.Concat
import Derived.Shelf.Spec.SlicesGrow
import Derived.Deep.OwnRows
import Derived.Lib.OwnBridge
import Derived.Shelf.SlSorted.Search
import Derived.Deep.RegionWith
import Derived.Deep.Upon
import Derived.Sort.WalkB2
import Derived.Sort.WalkB12
import Derived.Deep.LoopGhost
import Derived.Shelf.SlSortCmp.KitK
import Derived.Deep.RegionLaw
namespace Go.Proofs.Ytpocpckhcciecaa
set_option linter.unusedSimpArgs false
set_option linter.unusedVariables false
open Go.ChangeShapes Go.WideShapes Go.ChangeAt Go.RowKit Go.Joins Go.Deep
theorem lints_zero (n : Nat) : madeCells #[.int .i64 0] n = (ints (List.replicate n 0)).toArray := by
  unfold ints
  apply Array.ext'
  simp [madeCells, Nat.mod_one]
  rw [List.map_const', List.length_range]
theorem lmk_ints (n : Int) (N : Nat) (hN : (N : Int) = n) (h : N ≤ 17592186044416) (w : World) :
    (Instr.makeSlice 22 (.int .i64 n) (.int .i64 n)).run Try.prog w = .ok (.slice (some ⟨w.heap.size, 0, none⟩) N N) (w.alloc (.cells (ints (List.replicate N 0)).toArray 3)) := by
  subst hN
  rw [← lints_zero]
  exact run_make_row' (P := Try.prog) 22 3 (.int .i64 0) 8 Try.underlying22 lint_info rfl .i64 .i64 N (by omega) (by omega) w
theorem lints_set (l : List Int) (k : Nat) (v : Int) : (ints l).toArray.setIfInBounds k (.int .i64 v) = (ints (l.set k v)).toArray := by
  rw [List.setIfInBounds_toArray]
  simp [ints, List.map_set]
theorem lout_zero (n : Nat) : List.replicate n (0 : Int) = lout n (fun _ => 0) := by
  unfold lout
  rw [List.map_const', List.length_range]
theorem LOk.of {ok ok' : Nat → Prop} {W : World} {B size n : Nat} {A : Option Addr} {xs : List Value} (hr : Reads W B size A n xs) (h : ∀ b, b < B → ok' b) : LOk ok' A n := fun hn => by
  obtain ⟨b, off, e, hb, _⟩ := hr.2 hn
  exact ⟨b, off, e, h b hb⟩
theorem LMem.ok' {ok ok' : Nat → Prop} {W : World} {B : Nat} (h : ∀ b, b < B → ok' b) : ∀ {R : List LTh} {xs : List Value}, LMem W B ok xs R → LMem W B ok' xs R
  | [], _, k => k
  | x :: t, _, ⟨As, ns, cs, rest, e, hn, hc, hr, ht⟩ => ⟨As, ns, cs, rest, e, hn, hc, ⟨hr.1, LOk.of (ok := ok) hr.1 h⟩, LMem.ok' h ht⟩
theorem LHRow.ok' {ok ok' : Nat → Prop} {W : World} {B n : Nat} {A : Option Addr} {R : List LTh} (k : LHRow W B ok A n R) (h : ∀ b, b < B → ok' b) : LHRow W B ok' A n R := by
  obtain ⟨hn, ho, xs, hr, hm⟩ := k
  exact ⟨hn, LOk.of (ok := ok) hr h, xs, hr, hm.ok' h⟩
/-- What is read of a row of things while one other block turns. -/
theorem LHRow.cells {W : World} {n g : Nat} {A : Option Addr} {R : List LTh} (k : LHRow W W.heap.size (fun b => b ≠ g) A n R) (i : Nat) (hi : i < R.length) :
    ∃ b off As cs, A = some ⟨b, off, none⟩ ∧ (∀ W', W.grownBy W' (some g) → W'.cell? ⟨b, off + i * 3 + 1, none⟩ = some (.slice As R[i].syms.length cs)) ∧
      ∀ q (hq : q < R[i].syms.length), ∃ bs os, As = some ⟨bs, os, none⟩ ∧ ∀ W', W.grownBy W' (some g) → W'.cell? ⟨bs, os + q, none⟩ = some (.int .i64 (R[i].syms[q] : Int)) := by
  obtain ⟨hn, ho, xs, hr, hm⟩ := k
  obtain ⟨As, cs, h1, h2, h3, h4, h5, h6⟩ := hm.at i hi
  obtain ⟨b, off, e, hb, hc⟩ := hr.2 (by omega)
  obtain ⟨b', off', e', hbg⟩ := ho (by omega)
  rw [e] at e'
  injection e' with e'
  injection e' with e1 e2
  subst e1
  refine ⟨b, off, As, cs, e, fun W' hg => ?_, fun q hq => ?_⟩
  · refine (World.cell?_of_block (a := ⟨b, off + i * 3 + 1, none⟩) (hg.block b hb (fun h => by injection h with h; exact hbg h))).trans ?_
    rw [Nat.add_assoc]
    exact hc _ _ h2
  · obtain ⟨bs, os, es, hbs, hcs⟩ := h5.2 (by omega)
    obtain ⟨bs', os', es', hbsg⟩ := h6 (by omega)
    rw [es] at es'
    injection es' with es'
    injection es' with e3 e4
    subst e3
    refine ⟨bs, os, es, fun W' hg => ?_⟩
    refine (World.cell?_of_block (a := ⟨bs, os + q, none⟩) (hg.block bs hbs (fun h => by injection h with h; exact hbsg h))).trans (hcs q _ ?_)
    rw [ints_get _ q (by simpa [lsy] using hq)]
    simp [lsy]
theorem lhas_bound (s : Nat) (x : LTh) (h : x.syms.length ≤ 400000) : 0 ≤ lhas s x ∧ lhas s x ≤ 400000 := by
  unfold lhas
  have := List.count_le_length (a := s) (l := x.syms)
  omega
theorem lsum_bound (s : Nat) : ∀ (R : List LTh), (∀ x ∈ R, x.syms.length ≤ 400000) → 0 ≤ lsum (lhas s) R ∧ lsum (lhas s) R ≤ 400000 * R.length
  | [], _ => by simp [lsum]
  | x :: t, h => by
    have h1 := lhas_bound s x (h x (by simp))
    have h2 := lsum_bound s t fun y hy => h y (by simp [hy])
    simp only [lsum, List.length_cons]
    omega
theorem lfar_bound (R : List LTh) (i k s : Nat) (hi : i < R.length) (h : ∀ x ∈ R, x.syms.length ≤ 400000) : 0 ≤ lfar R i k s ∧ lfar R i k s ≤ 400000 * (i + 1) := by
  unfold lfar
  have h1 := lsum_bound s (R.take i) fun x hx => h x (List.mem_of_mem_take hx)
  rw [List.length_take] at h1
  rw [List.getElem?_eq_getElem hi]
  simp only [Option.map_some, Option.getD_some]
  have h2 := List.count_le_length (a := s) (l := R[i].syms.take k)
  rw [List.length_take] at h2
  have h3 := h R[i] (List.getElem_mem hi)
  omega
/-- One more of a symbol. -/
theorem lcount_one {W : World} {g n : Nat} {R : List LTh} {i k : Nat} (hB : Blk W g 3 (ints (lout n (lfar R i k))).toArray) (hi : i < R.length) (hk : k < R[i].syms.length) (hs : R[i].syms[k] < n) :
    W.cell? ⟨g, R[i].syms[k], none⟩ = some (.int .i64 (lfar R i k R[i].syms[k])) ∧ W.frozen? ⟨g, R[i].syms[k], none⟩ = false ∧
      Blk (W.setCell ⟨g, R[i].syms[k], none⟩ (.int .i64 (lfar R i k R[i].syms[k] + 1))) g 3 (ints (lout n (lfar R i (k + 1)))).toArray := by
  refine ⟨?_, hB.frozen _, ?_⟩
  · rw [hB.cell]
    simp only [List.getElem?_toArray]
    unfold ints
    rw [List.getElem?_map, lout_get n _ _ hs]
    rfl
  · have h := hB.set_ R[i].syms[k] (.int .i64 (lfar R i k R[i].syms[k] + 1))
    rw [lints_set, lout_set n (lfar R i k) (lfar R i (k + 1)) _ _ (by rw [lfar_step R i k _ hi hk, if_pos rfl]) (fun t ht => by rw [lfar_step R i k t hi hk, if_neg ht]; omega)] at h
    exact h
theorem lcount_next {W : World} {g n : Nat} {R : List LTh} {i : Nat} (hi : i < R.length) (h : Blk W g 3 (ints (lout n (lfar R i R[i].syms.length))).toArray) : Blk W g 3 (ints (lout n (lfar R (i + 1) 0))).toArray := by
  rw [lout_congr n (lfar R (i + 1) 0) (lfar R i R[i].syms.length) fun t _ => by rw [lfar_zero, lfar_end R i t hi]]
  exact h
theorem lrow_single (x : LTh) : ∀ k, lrow [x] k = [x]
  | 0 => rfl
  | k + 1 => by
    show lnext (lrow [x] k) [x] = [x]
    rw [lrow_single x k]
    rfl
/-- The best lengths tell how often a symbol is in the things taken. -/
theorem lbest_taken (counts : List Int) (L : Nat) : lbestL counts L = lout counts.length (fun s => lsum (lhas s) ((lrow (lleaves counts) (L - 1)).take (max (2 * (lleaves counts).length - 2) (lleaves counts).length))) := by
  by_cases h : (lleaves counts).length = 1
  · obtain ⟨x, hx⟩ := List.length_eq_one_iff.1 h
    obtain ⟨j, hj, hp, e⟩ := (lleaves_mem counts x).1 (by rw [hx]; simp)
    obtain ⟨_, h2⟩ := lbestL_one counts L j h (by simp only [hx, List.getElem_cons_zero, e])
    rw [← h2, lout_set counts.length (fun _ => 0) (fun t => if t = j then 1 else 0) j 1 (by simp) (fun t ht => if_neg ht)]
    refine lout_congr _ _ _ fun t _ => ?_
    rw [hx, lrow_single]
    simp only [lsum, lhas, e, List.length_singleton]
    by_cases ht : t = j
    · subst ht; simp [lsum, lhas]
    · rw [if_neg ht]
      simp [lsum, lhas, List.count_cons, Ne.symm ht]
  · rw [lbestL_many counts L h]
    refine lout_congr _ _ _ fun t _ => ?_
    unfold ltaken
    rw [show max (2 * (lleaves counts).length - 2) (lleaves counts).length = 2 * (lleaves counts).length - 2 from by omega]
/-- The cells of one of the program's things, while another block turns. -/
theorem PRow.cells {W : World} {n g : Nat} {A : Option Addr} {E : List PEl} (h : PRow (fun b => b ≠ g) W W.heap.size A n E) (i : Nat) (hi : i < E.length) :
    ∃ b off, A = some ⟨b, off, none⟩ ∧ b ≠ g ∧ (∀ W', W.grownBy W' (some g) → W'.cell? ⟨b, off + i * 2, none⟩ = some (.int .i64 E[i].th.w) ∧ W'.cell? ⟨b, off + i * 2 + 1, none⟩ = some (.slice E[i].A E[i].th.syms.length E[i].c)) ∧
      ∀ q (hq : q < E[i].th.syms.length), ∃ bs os, E[i].A = some ⟨bs, os, none⟩ ∧ ∀ W', W.grownBy W' (some g) → W'.cell? ⟨bs, os + q, none⟩ = some (.int .i64 (E[i].th.syms[q] : Int)) := by
  obtain ⟨hn, hr, hok, ho⟩ := h
  obtain ⟨b, off, e, hb, hc⟩ := pcell_row hr hn (by omega)
  obtain ⟨b', off', e', hbg⟩ := ho (by omega)
  rw [e] at e'
  injection e' with e'
  injection e' with e1 e2
  subst e1
  obtain ⟨c1, c2⟩ := hc i hi
  refine ⟨b, off, e, hbg, fun W' hg => ⟨?_, ?_⟩, fun q hq => ?_⟩
  · exact (World.cell?_of_block (a := ⟨b, off + i * 2, none⟩) (hg.block b hb (fun h => by injection h with h; exact hbg h))).trans c1
  · exact (World.cell?_of_block (a := ⟨b, off + i * 2 + 1, none⟩) (hg.block b hb (fun h => by injection h with h; exact hbg h))).trans c2
  · have hx := hok _ (List.getElem_mem hi)
    obtain ⟨bs, os, es, hbs, hcs⟩ := hx.reads.2 (by omega)
    obtain ⟨bs', os', cs', es', _, hbsg⟩ := hx.ty (by omega)
    rw [es] at es'
    injection es' with es'
    injection es' with e3 e4
    subst e3
    refine ⟨bs, os, es, fun W' hg => ?_⟩
    refine (World.cell?_of_block (a := ⟨bs, os + q, none⟩) (hg.block bs hbs (fun h => by injection h with h; exact hbsg h))).trans (hcs q _ ?_)
    rw [ints_get _ q (by simpa [lsy] using hq)]
    simp [lsy]
end Go.Proofs.Ytpocpckhcciecaa
