/-
  Layer 1: the document's own answers: Both, Cover: what each returns, for every argument.
-/
import Derived.Test.YtcdanilepikdeaaRefA
namespace Go.Proofs.Ytcdanilepikdeaa
set_option linter.unusedSimpArgs false
set_option linter.unusedVariables false
open Go.ChangeShapes Go.WideShapes Go.ChangeAt Go.RowKit Go.Joins Go.Deep

set_option maxHeartbeats 1000000 in
theorem refBoth_cons (A : Option Addr) (n c : Nat) (r : Int × Int) (t : List (Int × Int)) (w : World) (hn : t.length + 1 = n) (hc : n ≤ c) (hm : c ≤ maxLen) (hr : Reads w w.heap.size 2 A n (pairs .i64 (r :: t))) :
    Calls Try.prog 17 #[.slice A n c] w fun e w' => e = .returned (.agg #[.int .i64 (bothF (r :: t)).1, .int .i64 (bothF (r :: t)).2]) ∧ Below w.heap.size w w' := by
  unfold maxLen at hm
  subst hn
  obtain ⟨b, off, rfl, hblt, hcell⟩ := hr.2 (by omega)
  have hc0 : w.cell? ⟨b, off, none⟩ = some (.int .i64 r.1) := hcell 0 _ rfl
  have hc1 : w.cell? ⟨b, off + 1, none⟩ = some (.int .i64 r.2) := hcell 1 _ rfl
  have hn0 : ((t.length : Int) + 1 == 0) = false := by simp; omega
  have hn1 : (0 : Int) < (t.length : Int) + 1 := by omega
  have HC := Lib.hid hcell
  clear hr hcell
  go_enter Try.func17, Try.ntmps17
  go_wp2
  go_quiet (fail)
  go_wp2
  go_loop [3, 4, 5] (fun lo hi i => ∃ k : Nat, k ≤ t.length ∧ i = .int .i64 (k + 1) ∧ lo = .int .i64 ((t.take k).foldl bothStep r).1 ∧ hi = .int .i64 ((t.take k).foldl bothStep r).2)
    (fun _ _ i => t.length + 1 - (intOf i).toNat)
  case atStart => exact ⟨0, Nat.zero_le _, rfl, rfl, rfl⟩
  case round =>
    obtain ⟨k, hk, rfl, rfl, rfl⟩ := hrel
    by_cases hlt : k < t.length
    · have x0 : w.cell? ⟨b, off + (k + 1) * 2, none⟩ = some (.int .i64 t[k].1) := HC.out _ _ (pairs_fst .i64 (r :: t) (k + 1) (by simpa using hlt))
      have x1 : w.cell? ⟨b, off + (k + 1) * 2 + 1, none⟩ = some (.int .i64 t[k].2) := by rw [Nat.add_assoc]; exact HC.out _ _ (pairs_snd .i64 (r :: t) (k + 1) (by simpa using hlt))
      have hstep := fold_take bothStep r t k hlt
      generalize (t.take k).foldl bothStep r = q at *
      generalize t[k] = x at *
      have Hstep := Lib.hid hstep
      clear hstep
      have e : bothStep q x = (if q.1 < x.1 then x.1 else q.1, if x.2 < q.2 then x.2 else q.2) := rfl
      have E := Lib.hid e
      clear e
      go_wp2
      all_goals
        go_round
        case rel => exact ⟨k + 1, by omega, by go_num, by rw [Hstep.out, E.out]; simp only []; first | (rw [if_pos (by omega)]) | (rw [if_neg (by omega)]), by rw [Hstep.out, E.out]; simp only []; first | (rw [if_pos (by omega)]) | (rw [if_neg (by omega)])⟩
        case measure => simp [intOf]; omega
    · have hkt : (t.take k) = t := List.take_of_length_le (by omega)
      have hfin : bothF (r :: t) = shut ((t.take k).foldl bothStep r) := by rw [hkt]; rfl
      clear hkt
      generalize (t.take k).foldl bothStep r = q at *
      have Hfin := Lib.hid hfin
      clear hfin
      go_wp2
      · have hlt' : q.2 < q.1 := by assumption
        exact bodyPost_ret (v := .agg #[.int .i64 1, .int .i64 0]) (by simp [results, Try.results17, go_sem]) rfl ⟨by rw [Hfin.out]; simp [shut, hlt'], by go_grown <;> refine below_drewN ?_ _ <;> go_grown <;> refine below_drewN ?_ _ <;> go_grown⟩
      · have hlt' : ¬ q.2 < q.1 := by omega
        exact bodyPost_ret (v := .agg #[.int .i64 q.1, .int .i64 q.2]) (by simp [results, Try.results17, go_sem]) rfl ⟨by rw [Hfin.out]; simp [shut, hlt'], by go_grown <;> refine below_drewN ?_ _ <;> go_grown <;> refine below_drewN ?_ _ <;> go_grown⟩

set_option maxHeartbeats 1000000 in
theorem refBoth_any (A : Option Addr) (n c : Nat) (l : List (Int × Int)) (w : World) (hn : l.length = n) (hc : n ≤ c) (hm : c ≤ maxLen) (hr : Reads w w.heap.size 2 A n (pairs .i64 l)) :
    Calls Try.prog 17 #[.slice A n c] w fun e w' => e = .returned (.agg #[.int .i64 (bothF l).1, .int .i64 (bothF l).2]) ∧ Below w.heap.size w w' := by
  cases l with
  | cons r t => exact refBoth_cons A n c r t w hn hc hm hr
  | nil =>
    have hn' : n = 0 := hn.symm
    subst hn'
    clear hr hn
    go_enter Try.func17, Try.ntmps17
    go_wp2
    exact bodyPost_ret (v := .agg #[.int .i64 1, .int .i64 0]) (by simp [results, Try.results17, go_sem]) rfl ⟨rfl, by go_grown⟩

set_option maxHeartbeats 1000000 in
theorem refCover_any (A : Option Addr) (n c : Nat) (l : List (Int × Int)) (w : World) (hn : l.length = n) (hc : n ≤ c) (hm : c ≤ maxLen) (hr : Reads w w.heap.size 2 A n (pairs .i64 l)) :
    Calls Try.prog 19 #[.slice A n c] w fun e w' => e = .returned (.agg #[.int .i64 (coverF l).1, .int .i64 (coverF l).2]) ∧ Below w.heap.size w w' := by
  unfold maxLen at hm
  subst hn
  have HR := Lib.hid hr
  clear hr
  go_enter Try.func19, Try.ntmps19
  go_wp2
  go_loopw [4] (fun i wr => ∃ k : Nat, k ≤ l.length ∧ i = .int .i64 k ∧ Below w.heap.size w wr ∧ Blk wr w.heap.size 23 #[.int .i64 0, .int .i64 0] ∧
      Blk wr (w.heap.size + 1 + 1) 23 #[.int .i64 ((l.take k).foldl coverStep (1, 0)).1, .int .i64 ((l.take k).foldl coverStep (1, 0)).2])
    (fun i _ => l.length - (intOf i).toNat)
  case atStart => exact ⟨0, Nat.zero_le _, rfl, by go_grown, ((Blk.new _ _ _).alloc _).alloc _, by simpa using Blk.new ((w.alloc _).alloc _) _ _⟩
  case round =>
    obtain ⟨k, hk, rfl, hbw, hq0, hq⟩ := hrel
    obtain ⟨z0, z1, z2, z3⟩ := hq0.two
    obtain ⟨g0, g1, g2, g3⟩ := hq.two
    have hsz := hbw.size
    have hszq := hq.lt
    have hszp := hq0.lt
    have Hbw := Lib.hid hbw
    have Hq0 := Lib.hid hq0
    have Hq := Lib.hid hq
    clear hbw hq0 hq
    by_cases hlt : k < l.length
    · obtain ⟨b, off, rfl, hb0, hcell1⟩ := HR.out.2 (by omega)
      have hblt : b < wr.heap.size := by omega
      have x0 : wr.cell? ⟨b, off + k * 2, none⟩ = some (.int .i64 l[k].1) := (Hbw.out.cell (p := ⟨b, _, none⟩) hb0).trans (hcell1 _ _ (pairs_fst _ l k hlt))
      have x1 : wr.cell? ⟨b, off + k * 2 + 1, none⟩ = some (.int .i64 l[k].2) := (Hbw.out.cell (p := ⟨b, _, none⟩) hb0).trans (by rw [Nat.add_assoc]; exact hcell1 _ _ (pairs_snd _ l k hlt))
      have hstep := fold_take coverStep (1, 0) l k hlt
      generalize (l.take k).foldl coverStep (1, 0) = q at *
      generalize l[k] = x at *
      have Hstep := Lib.hid hstep
      clear hstep hcell1
      have Hb := Hbw.out
      have hltI : (k : Int) < (l.length : Int) := by omega
      by_cases hx : x.2 < x.1
      · go_wp2
        go_roundw
        case rel =>
          refine ⟨k + 1, by omega, by go_num, by go_grown, Hq0.out.alloc _, ?_⟩
          rw [Hstep.out]
          have e : coverStep q x = q := by simp [coverStep, hx]
          rw [e]
          exact Hq.out.alloc _
        case measure => simp [intOf]; omega
      · have hx' : decide (x.2 < x.1) = false := by simpa using hx
        have hbne : w.heap.size + 1 + 1 ≠ b := by omega
        go_wp2_with (first
          | (go_at_call 10; (with_reducible refine (refEmpty_any x.1 _ _).mono ?_); rintro e w1 ⟨rfl, hb1⟩; obtain ⟨c1, f1⟩ := bcell hb1; have hs1 : w.heap.size < w1.heap.size := Nat.lt_of_lt_of_le hszp hb1.size; have hs1' : w.heap.size + 1 + 1 < w1.heap.size := Nat.lt_of_lt_of_le hszq hb1.size; have hs1b : b < w1.heap.size := Nat.lt_of_lt_of_le hblt hb1.size)
          | fail)
        by_cases hqe : q.2 < q.1
        · have hd : decide (q.2 < q.1) = true := by simpa using hqe
          have e : coverStep q x = x := by rw [coverStep, if_neg (by omega : ¬ x.2 < x.1)]; simp [coverGo, hqe]
          rw [e] at Hstep
          refine (refEmpty_any q.1 q.2 _).mono ?_
          rintro e w3 ⟨rfl, hb3⟩
          obtain ⟨c3, f3⟩ := bcell hb3
          have hs3 : w.heap.size < w3.heap.size := Nat.lt_of_lt_of_le hs1 hb3.size
          have hs3' : w.heap.size + 1 + 1 < w3.heap.size := Nat.lt_of_lt_of_le hs1' hb3.size
          have hbw : Below w.heap.size w w3 := Hb.trans ((hb1.mono (by omega)).trans (hb3.mono (by omega)))
          have b0 : Blk w3 w.heap.size 23 #[.int .i64 0, .int .i64 0] := (Hq0.out.below hb1 hszp).below hb3 hs1
          have b1 : Blk w3 (w.heap.size + 1 + 1) 23 #[.int .i64 q.1, .int .i64 q.2] := (Hq.out.below hb1 hszq).below hb3 hs1'
          have B0 := Lib.hid b0
          have B1 := Lib.hid b1
          clear b0 b1
          go_wp2
          go_quiet (fail)
          go_wp2
          go_quiet (fail)
          go_wp2
          go_roundw
          case rel =>
            refine ⟨k + 1, by omega, by go_num, by go_grown <;> refine below_drewN ?_ _ <;> go_grown <;> refine below_drewN ?_ _ <;> go_grown, ?_, ?_⟩
            · exact ((B0.out.far (by simp; omega) _).far (by simp; omega) _).drewN _
            · rw [Hstep.out]
              exact ((B1.out.set_ 0 _).set_ 1 _).drewN _
          case measure => simp [intOf]; omega
        · have hd : decide (q.2 < q.1) = false := by simpa using hqe
          by_cases h1 : x.1 < q.1 <;> by_cases h2 : q.2 < x.2
          · have e : coverStep q x = (x.1, x.2) := by rw [coverStep, if_neg (by omega : ¬ x.2 < x.1)]; simp [coverGo, hqe, h1, h2]
            rw [e] at Hstep
            clear e
            refine (refEmpty_any q.1 q.2 _).mono ?_
            rintro e w3 ⟨rfl, hb3⟩
            obtain ⟨c3, f3⟩ := bcell hb3
            have hs3 : w.heap.size < w3.heap.size := Nat.lt_of_lt_of_le hs1 hb3.size
            have hs3' : w.heap.size + 1 + 1 < w3.heap.size := Nat.lt_of_lt_of_le hs1' hb3.size
            have hbw : Below w.heap.size w w3 := Hb.trans ((hb1.mono (by omega)).trans (hb3.mono (by omega)))
            have b0 : Blk w3 w.heap.size 23 #[.int .i64 0, .int .i64 0] := (Hq0.out.below hb1 hszp).below hb3 hs1
            have b1 : Blk w3 (w.heap.size + 1 + 1) 23 #[.int .i64 q.1, .int .i64 q.2] := (Hq.out.below hb1 hszq).below hb3 hs1'
            have B0 := Lib.hid b0
            have B1 := Lib.hid b1
            clear b0 b1
            go_wp2
            go_quiet (fail)
            go_wp2
            go_quiet (fail)
            go_wp2
            go_roundw
            case rel =>
              refine ⟨k + 1, by omega, by go_num, by go_grown <;> refine below_drewN ?_ _ <;> go_grown <;> refine below_drewN ?_ _ <;> go_grown, ?_, ?_⟩
              · first | exact ((B0.out.far (by simp; omega) _).drewN _).far (by simp; omega) _ | exact (((B0.out.drewN _).far (by simp; omega) _).drewN _).far (by simp; omega) _ | exact (((B0.out.drewN _).far (by simp; omega) _).far (by simp; omega) _).drewN _ | exact ((B0.out.drewN _).far (by simp; omega) _).far (by simp; omega) _
              · rw [Hstep.out]
                first | exact ((B1.out.set_ 0 _).drewN _).set_ 1 _ | exact (((B1.out.drewN _).set_ 0 _).drewN _).set_ 1 _ | exact (((B1.out.drewN _).set_ 0 _).set_ 1 _).drewN _ | exact ((B1.out.drewN _).set_ 0 _).set_ 1 _
            case measure => simp [intOf]; omega
          · have e : coverStep q x = (x.1, q.2) := by rw [coverStep, if_neg (by omega : ¬ x.2 < x.1)]; simp [coverGo, hqe, h1, h2]
            rw [e] at Hstep
            clear e
            refine (refEmpty_any q.1 q.2 _).mono ?_
            rintro e w3 ⟨rfl, hb3⟩
            obtain ⟨c3, f3⟩ := bcell hb3
            have hs3 : w.heap.size < w3.heap.size := Nat.lt_of_lt_of_le hs1 hb3.size
            have hs3' : w.heap.size + 1 + 1 < w3.heap.size := Nat.lt_of_lt_of_le hs1' hb3.size
            have hbw : Below w.heap.size w w3 := Hb.trans ((hb1.mono (by omega)).trans (hb3.mono (by omega)))
            have b0 : Blk w3 w.heap.size 23 #[.int .i64 0, .int .i64 0] := (Hq0.out.below hb1 hszp).below hb3 hs1
            have b1 : Blk w3 (w.heap.size + 1 + 1) 23 #[.int .i64 q.1, .int .i64 q.2] := (Hq.out.below hb1 hszq).below hb3 hs1'
            have B0 := Lib.hid b0
            have B1 := Lib.hid b1
            clear b0 b1
            go_wp2
            go_quiet (fail)
            go_wp2
            go_quiet (fail)
            go_wp2
            go_roundw
            case rel =>
              refine ⟨k + 1, by omega, by go_num, by go_grown <;> refine below_drewN ?_ _ <;> go_grown <;> refine below_drewN ?_ _ <;> go_grown, ?_, ?_⟩
              · first | exact (B0.out.far (by simp; omega) _).drewN _ | exact ((B0.out.drewN _).far (by simp; omega) _).drewN _ | exact (B0.out.drewN _).far (by simp; omega) _
              · rw [Hstep.out]
                first | exact (B1.out.set_ 0 _).drewN _ | exact ((B1.out.drewN _).set_ 0 _).drewN _ | exact (B1.out.drewN _).set_ 0 _
            case measure => simp [intOf]; omega
          · have e : coverStep q x = (q.1, x.2) := by rw [coverStep, if_neg (by omega : ¬ x.2 < x.1)]; simp [coverGo, hqe, h1, h2]
            rw [e] at Hstep
            clear e
            refine (refEmpty_any q.1 q.2 _).mono ?_
            rintro e w3 ⟨rfl, hb3⟩
            obtain ⟨c3, f3⟩ := bcell hb3
            have hs3 : w.heap.size < w3.heap.size := Nat.lt_of_lt_of_le hs1 hb3.size
            have hs3' : w.heap.size + 1 + 1 < w3.heap.size := Nat.lt_of_lt_of_le hs1' hb3.size
            have hbw : Below w.heap.size w w3 := Hb.trans ((hb1.mono (by omega)).trans (hb3.mono (by omega)))
            have b0 : Blk w3 w.heap.size 23 #[.int .i64 0, .int .i64 0] := (Hq0.out.below hb1 hszp).below hb3 hs1
            have b1 : Blk w3 (w.heap.size + 1 + 1) 23 #[.int .i64 q.1, .int .i64 q.2] := (Hq.out.below hb1 hszq).below hb3 hs1'
            have B0 := Lib.hid b0
            have B1 := Lib.hid b1
            clear b0 b1
            go_wp2
            go_quiet (fail)
            go_wp2
            go_quiet (fail)
            go_wp2
            go_roundw
            case rel =>
              refine ⟨k + 1, by omega, by go_num, by go_grown <;> refine below_drewN ?_ _ <;> go_grown <;> refine below_drewN ?_ _ <;> go_grown, ?_, ?_⟩
              · first | exact (B0.out.far (by simp; omega) _).drewN _ | exact ((B0.out.drewN _).far (by simp; omega) _).drewN _ | exact (B0.out.drewN _).far (by simp; omega) _
              · rw [Hstep.out]
                first | exact (B1.out.set_ 1 _).drewN _ | exact ((B1.out.drewN _).set_ 1 _).drewN _ | exact (B1.out.drewN _).set_ 1 _
            case measure => simp [intOf]; omega
          · have e : coverStep q x = (q.1, q.2) := by rw [coverStep, if_neg (by omega : ¬ x.2 < x.1)]; simp [coverGo, hqe, h1, h2]
            rw [e] at Hstep
            clear e
            refine (refEmpty_any q.1 q.2 _).mono ?_
            rintro e w3 ⟨rfl, hb3⟩
            obtain ⟨c3, f3⟩ := bcell hb3
            have hs3 : w.heap.size < w3.heap.size := Nat.lt_of_lt_of_le hs1 hb3.size
            have hs3' : w.heap.size + 1 + 1 < w3.heap.size := Nat.lt_of_lt_of_le hs1' hb3.size
            have hbw : Below w.heap.size w w3 := Hb.trans ((hb1.mono (by omega)).trans (hb3.mono (by omega)))
            have b0 : Blk w3 w.heap.size 23 #[.int .i64 0, .int .i64 0] := (Hq0.out.below hb1 hszp).below hb3 hs1
            have b1 : Blk w3 (w.heap.size + 1 + 1) 23 #[.int .i64 q.1, .int .i64 q.2] := (Hq.out.below hb1 hszq).below hb3 hs1'
            have B0 := Lib.hid b0
            have B1 := Lib.hid b1
            clear b0 b1
            go_wp2
            go_quiet (fail)
            go_wp2
            go_quiet (fail)
            go_wp2
            go_roundw
            case rel =>
              refine ⟨k + 1, by omega, by go_num, by go_grown <;> refine below_drewN ?_ _ <;> go_grown <;> refine below_drewN ?_ _ <;> go_grown, ?_, ?_⟩
              · exact B0.out.drewN _
              · rw [Hstep.out]
                exact B1.out.drewN _
            case measure => simp [intOf]; omega
    · have hkt : (l.take k) = l := List.take_of_length_le (by omega)
      have hfin : coverF l = (l.take k).foldl coverStep (1, 0) := by rw [hkt]; rfl
      clear hkt
      generalize (l.take k).foldl coverStep (1, 0) = q at *
      have Hfin := Lib.hid hfin
      clear hfin
      have Hb := Hbw.out
      go_wp2
      exact bodyPost_ret (v := .agg #[.int .i64 q.1, .int .i64 q.2]) (by simp [results, Try.results19, go_sem, z0, z1]) rfl ⟨by rw [Hfin.out], by go_grown⟩
end Go.Proofs.Ytcdanilepikdeaa
