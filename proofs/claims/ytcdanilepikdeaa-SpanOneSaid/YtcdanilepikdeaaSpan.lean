/-
  Layer 1: what each function of package span, and of the document's own answers, returns, for every argument.
-/
import Derived.Test.YtcdanilepikdeaaBase
import Derived.Test.YtcdanilepikdeaaRows
namespace Go.Proofs.Ytcdanilepikdeaa
set_option linter.unusedSimpArgs false
set_option linter.unusedVariables false
open Go.ChangeShapes Go.WideShapes Go.ChangeAt Go.RowKit Go.Joins Go.Deep

/-! ### The plain functions -/
def hasF (r : Int × Int) (n : Int) : Bool := decide (r.1 ≤ n) && decide (n ≤ r.2)
def emptyF (r : Int × Int) : Bool := decide (r.2 < r.1)

set_option maxHeartbeats 400000 in
theorem has_any (lo hi n : Int) (w : World) :
    Calls Try.prog 7 #[.agg #[.int .i64 lo, .int .i64 hi], .int .i64 n] w fun e w' => e = .returned (.bool (decide (lo ≤ n) && decide (n ≤ hi))) ∧ Below w.heap.size w w' := by
  go_enter Try.func7, Try.ntmps7
  go_wp2
  · go_ret
    exact ⟨by simp [*], by go_grown⟩
  · go_ret
    have : ¬ lo ≤ n := by omega
    exact ⟨by simp [this], by go_grown⟩

set_option maxHeartbeats 400000 in
theorem empty_any (lo hi : Int) (w : World) :
    Calls Try.prog 9 #[.agg #[.int .i64 lo, .int .i64 hi]] w fun e w' => e = .returned (.bool (decide (hi < lo))) ∧ Below w.heap.size w w' := by
  go_enter Try.func9, Try.ntmps9
  go_wp2
  go_ret
  exact ⟨rfl, by go_grown⟩

set_option maxHeartbeats 400000 in
theorem none_any (w : World) :
    Calls Try.prog 25 #[] w fun e w' => e = .returned (.agg #[.int .i64 1, .int .i64 0]) ∧ Below w.heap.size w w' := by
  go_enter Try.func25, Try.ntmps25
  go_wp2
  go_returns
  exact ⟨rfl, by go_grown⟩

set_option maxHeartbeats 400000 in
theorem pick_above (a b : Int) (w : World) :
    Calls Try.prog 26 #[.func (.func 27) #[] #[], .int .i64 a, .int .i64 b] w fun e w' => e = .returned (.int .i64 (if a < b then b else a)) ∧ w = w' := by
  go_enter Try.func26, Try.ntmps26
  go_wp2
  all_goals go_ret
  all_goals exact ⟨rfl, rfl⟩

set_option maxHeartbeats 400000 in
theorem pick_below (a b : Int) (w : World) :
    Calls Try.prog 26 #[.func (.func 28) #[] #[], .int .i64 a, .int .i64 b] w fun e w' => e = .returned (.int .i64 (if b < a then b else a)) ∧ w = w' := by
  go_enter Try.func26, Try.ntmps26
  go_wp2
  all_goals go_ret
  all_goals exact ⟨rfl, rfl⟩

def bothStep (q x : Int × Int) : Int × Int := (if q.1 < x.1 then x.1 else q.1, if x.2 < q.2 then x.2 else q.2)
def shut (q : Int × Int) : Int × Int := if q.2 < q.1 then (1, 0) else q
def bothF : List (Int × Int) → Int × Int
  | [] => (1, 0)
  | r :: t => shut (t.foldl bothStep r)

theorem fold_take {α β : Type} (f : β → α → β) (b : β) (l : List α) (k : Nat) (h : k < l.length) : (l.take (k + 1)).foldl f b = f ((l.take k).foldl f b) l[k] := by
  rw [List.take_succ_eq_append_getElem h, List.foldl_append]; rfl

theorem range_info : (Try.prog.info? 23).map (fun i => (i.zero, i.size, i.bytes)) = some (some (.agg #[.int .i64 0, .int .i64 0]), 2, 16) := by kernel_rfl

set_option maxHeartbeats 1000000 in
theorem both_cons (A : Option Addr) (n c : Nat) (r : Int × Int) (t : List (Int × Int)) (w : World) (hn : t.length + 1 = n) (hc : n ≤ c) (hm : c ≤ maxLen) (hr : Reads w w.heap.size 2 A n (pairs .i64 (r :: t))) :
    Calls Try.prog 16 #[.slice A n c] w fun e w' => e = .returned (.agg #[.int .i64 (bothF (r :: t)).1, .int .i64 (bothF (r :: t)).2]) ∧ Below w.heap.size w w' := by
  unfold maxLen at hm
  subst hn
  obtain ⟨i0, hi, hz0, hz1, hz2⟩ := info_parts range_info
  have hr1 := hr.cut (k := 1) (cap := c) (by omega) hc
  rw [pairs_drop] at hr1
  obtain ⟨b, off, rfl, hblt, hcell⟩ := hr.2 (by omega)
  have hsl0 := fun W => run_slice_from (P := Try.prog) Try.underlying29 hi hz1 (some ⟨b, off, none⟩) (t.length + 1) c 1 (by omega) W
  generalize (if c = 1 then some (⟨b, off, none⟩ : Addr) else (some (⟨b, off, none⟩ : Addr)).map (·.add (1 * 2))) = A1 at hr1 hsl0
  have hsl : ∀ W : World, (Instr.slice 29 (.slice (some ⟨b, off, none⟩) (t.length + 1) c) (some (.int .i64 1)) none none).run Try.prog W = .ok (.slice A1 t.length (c - 1)) W := hsl0
  clear hsl0
  have hc0 : w.cell? ⟨b, off, none⟩ = some (.int .i64 r.1) := hcell 0 _ rfl
  have hc1 : w.cell? ⟨b, off + 1, none⟩ = some (.int .i64 r.2) := hcell 1 _ rfl
  have hn0 : ((t.length : Int) + 1 == 0) = false := by simp; omega
  have HR := Lib.hid hr1
  clear hr hcell hr1 hz0 hz1 hz2 hi
  go_enter Try.func16, Try.ntmps16
  go_wp2
  go_loopw [16] (fun i wr => ∃ k : Nat, k ≤ t.length ∧ i = .int .i64 k ∧ Below w.heap.size w wr ∧ Blk wr w.heap.size 23 #[.int .i64 0, .int .i64 0] ∧
      Blk wr (w.heap.size + 1) 23 #[.int .i64 ((t.take k).foldl bothStep r).1, .int .i64 ((t.take k).foldl bothStep r).2])
    (fun i _ => t.length - (intOf i).toNat)
  case atStart => exact ⟨0, Nat.zero_le _, rfl, by go_grown, (Blk.new _ _ _).alloc _, by simpa using Blk.new (w.alloc _) _ _⟩
  case round =>
    obtain ⟨k, hk, rfl, hbw, hq0, hq⟩ := hrel
    obtain ⟨z0, z1, z2, z3⟩ := hq0.two
    obtain ⟨g0, g1, g2, g3⟩ := hq.two
    have hsz := hbw.size
    have hszq := hq.lt
    have Hbw := Lib.hid hbw
    have Hq0 := Lib.hid hq0
    have Hq := Lib.hid hq
    clear hbw hq0 hq
    by_cases hlt : k < t.length
    · obtain ⟨b1, off1, rfl, hb1, hcell1⟩ := HR.out.2 (by omega)
      have x0 : wr.cell? ⟨b1, off1 + k * 2, none⟩ = some (.int .i64 t[k].1) := (Hbw.out.cell (p := ⟨b1, _, none⟩) hb1).trans (hcell1 _ _ (pairs_fst _ t k hlt))
      have x1 : wr.cell? ⟨b1, off1 + k * 2 + 1, none⟩ = some (.int .i64 t[k].2) := (Hbw.out.cell (p := ⟨b1, _, none⟩) hb1).trans (by rw [Nat.add_assoc]; exact hcell1 _ _ (pairs_snd _ t k hlt))
      have hstep := fold_take bothStep r t k hlt
      generalize (t.take k).foldl bothStep r = q at *
      generalize t[k] = x at *
      have Hstep := Lib.hid hstep
      clear hstep hcell1
      go_wp2_with (first
        | (go_at_call 26; (with_reducible refine (pick_above _ _ _).mono ?_); rintro e w' ⟨rfl, rfl⟩)
        | (go_at_call 26; (with_reducible refine (pick_below _ _ _).mono ?_); rintro e w' ⟨rfl, rfl⟩))
      have Hb := Hbw.out
      go_roundw
      case rel =>
        refine ⟨k + 1, by omega, by go_num, by go_grown, ((Hq0.out.far (by simp) _).far (by simp) _).alloc _, ?_⟩
        rw [Hstep.out]
        exact ((Hq.out.set_ 0 _).set_ 1 _).alloc _
      case measure => simp [intOf]; omega
    · have hkt : (t.take k) = t := List.take_of_length_le (by omega)
      have hfin : bothF (r :: t) = shut ((t.take k).foldl bothStep r) := by rw [hkt]; rfl
      clear hkt
      generalize (t.take k).foldl bothStep r = q at *
      have Hfin := Lib.hid hfin
      clear hfin
      have hszp : w.heap.size < wr.heap.size := by omega
      have Hb := Hbw.out
      go_wp2_with (first
        | (go_at_call 9; (with_reducible refine (empty_any _ _ _).mono ?_); rintro e w1 ⟨rfl, hb1⟩; obtain ⟨c1, f1⟩ := bcell hb1; have hs1 : w.heap.size + 1 < w1.heap.size := Nat.lt_of_lt_of_le hszq hb1.size; have hs1' : w.heap.size < w1.heap.size := Nat.lt_of_lt_of_le hszp hb1.size)
        | (go_at_call 25; (with_reducible refine (none_any _).mono ?_); rintro e w2 ⟨rfl, hb2⟩; obtain ⟨c2, f2⟩ := bcell hb2; have hs2 : w.heap.size + 1 < w2.heap.size := Nat.lt_of_lt_of_le hs1 hb2.size; have hs2' : w.heap.size < w2.heap.size := Nat.lt_of_lt_of_le hs1' hb2.size))
      · have h12 := Hb.trans ((hb1.mono (B' := w.heap.size) (by omega)).trans (hb2.mono (B' := w.heap.size) (by omega)))
        have hlt' : q.2 < q.1 := by assumption
        exact bodyPost_ret (v := .agg #[.int .i64 1, .int .i64 0]) (by simp [results, Try.results16, go_sem, z0, z1, c1, c2, hszp, hs1']) rfl ⟨by rw [Hfin.out]; simp [shut, hlt'], by go_grown⟩
      · have h12 := Hb.trans (hb1.mono (B' := w.heap.size) (by omega))
        have hlt' : ¬ q.2 < q.1 := by omega
        exact bodyPost_ret (v := .agg #[.int .i64 q.1, .int .i64 q.2]) (by simp [results, Try.results16, go_sem, z0, z1, c1, hszp]) rfl ⟨by rw [Hfin.out]; simp [shut, hlt'], by go_grown⟩

set_option maxHeartbeats 1000000 in
theorem both_any (A : Option Addr) (n c : Nat) (l : List (Int × Int)) (w : World) (hn : l.length = n) (hc : n ≤ c) (hm : c ≤ maxLen) (hr : Reads w w.heap.size 2 A n (pairs .i64 l)) :
    Calls Try.prog 16 #[.slice A n c] w fun e w' => e = .returned (.agg #[.int .i64 (bothF l).1, .int .i64 (bothF l).2]) ∧ Below w.heap.size w w' := by
  cases l with
  | cons r t => exact both_cons A n c r t w hn hc hm hr
  | nil =>
    have hn' : n = 0 := hn.symm
    subst hn'
    clear hr hn
    go_enter Try.func16, Try.ntmps16
    go_wp2_with (first
      | (go_at_call 25; (with_reducible refine (none_any _).mono ?_); rintro e w2 ⟨rfl, hb2⟩; obtain ⟨c2, f2⟩ := bcell hb2; have hs2 := hb2.size; have hs2' : w.heap.size < w2.heap.size := by simp at hs2; omega))
    have h12 : Below w.heap.size w w2 := (by go_grown : Below w.heap.size w (w.alloc (.cells #[.int .i64 0, .int .i64 0] 23))).trans (hb2.mono (by simp))
    exact bodyPost_ret (v := .agg #[.int .i64 1, .int .i64 0]) (by simp [results, Try.results16, go_sem, c2]) rfl ⟨rfl, by go_grown⟩
end Go.Proofs.Ytcdanilepikdeaa
