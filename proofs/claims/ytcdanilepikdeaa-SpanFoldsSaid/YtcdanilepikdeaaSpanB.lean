/-
  Layer 1: Cover, Meets, Within, Trim, Size of package span: what each returns, for every argument.
-/
import Derived.Test.YtcdanilepikdeaaSpan
namespace Go.Proofs.Ytcdanilepikdeaa
set_option linter.unusedSimpArgs false
set_option linter.unusedVariables false
open Go.ChangeShapes Go.WideShapes Go.ChangeAt Go.RowKit Go.Joins Go.Deep

def coverGo (q x : Int × Int) : Int × Int := (if x.1 < q.1 then x.1 else q.1, if q.2 < x.2 then x.2 else q.2)
def coverStep (q x : Int × Int) : Int × Int := if x.2 < x.1 then q else coverGo (if q.2 < q.1 then x else q) x
def coverF (l : List (Int × Int)) : Int × Int := l.foldl coverStep (1, 0)

set_option maxHeartbeats 1000000 in
theorem cover_any (A : Option Addr) (n c : Nat) (l : List (Int × Int)) (w : World) (hn : l.length = n) (hc : n ≤ c) (hm : c ≤ maxLen) (hr : Reads w w.heap.size 2 A n (pairs .i64 l)) :
    Calls Try.prog 18 #[.slice A n c] w fun e w' => e = .returned (.agg #[.int .i64 (coverF l).1, .int .i64 (coverF l).2]) ∧ Below w.heap.size w w' := by
  unfold maxLen at hm
  subst hn
  have HR := Lib.hid hr
  clear hr
  go_enter Try.func18, Try.ntmps18
  go_wp2_with (first
    | (go_at_call 25; (with_reducible refine (none_any _).mono ?_); rintro e w2 ⟨rfl, hb2⟩))
  have hb : Below w.heap.size w w2 := (by go_grown : Below w.heap.size w (w.alloc (.cells #[.int .i64 0, .int .i64 0] 23))).trans (hb2.mono (by simp))
  have hblk : Blk w2 w.heap.size 23 #[.int .i64 0, .int .i64 0] := (Blk.new w _ _).below hb2 (by simp)
  have hs2 : w.heap.size < w2.heap.size := hblk.lt
  have Hb := Lib.hid hb
  have Hblk := Lib.hid hblk
  clear hb hblk hb2
  go_loopw [9] (fun i wr => ∃ k : Nat, k ≤ l.length ∧ i = .int .i64 k ∧ Below w.heap.size w wr ∧ Blk wr w.heap.size 23 #[.int .i64 0, .int .i64 0] ∧
      Blk wr w2.heap.size 23 #[.int .i64 ((l.take k).foldl coverStep (1, 0)).1, .int .i64 ((l.take k).foldl coverStep (1, 0)).2])
    (fun i _ => l.length - (intOf i).toNat)
  case atStart => exact ⟨0, Nat.zero_le _, rfl, Hb.out.alloc (by omega) _, Hblk.out.alloc _, by simpa using Blk.new w2 _ _⟩
  case round =>
    clear Hb Hblk
    obtain ⟨k, hk, rfl, hbw, hq0, hq⟩ := hrel
    obtain ⟨z0, z1, z2, z3⟩ := hq0.two
    obtain ⟨g0, g1, g2, g3⟩ := hq.two
    have hsz := hbw.size
    have hszq := hq.lt
    have hszp := hq0.lt
    have hne : w.heap.size ≠ w2.heap.size := by omega
    have Hbw := Lib.hid hbw
    have Hq0 := Lib.hid hq0
    have Hq := Lib.hid hq
    clear hbw hq0 hq
    by_cases hlt : k < l.length
    · obtain ⟨b1, off1, rfl, hb1, hcell1⟩ := HR.out.2 (by omega)
      have x0 : wr.cell? ⟨b1, off1 + k * 2, none⟩ = some (.int .i64 l[k].1) := (Hbw.out.cell (p := ⟨b1, _, none⟩) hb1).trans (hcell1 _ _ (pairs_fst _ l k hlt))
      have x1 : wr.cell? ⟨b1, off1 + k * 2 + 1, none⟩ = some (.int .i64 l[k].2) := (Hbw.out.cell (p := ⟨b1, _, none⟩) hb1).trans (by rw [Nat.add_assoc]; exact hcell1 _ _ (pairs_snd _ l k hlt))
      have hstep := fold_take coverStep (1, 0) l k hlt
      generalize (l.take k).foldl coverStep (1, 0) = q at *
      generalize l[k] = x at *
      have Hstep := Lib.hid hstep
      clear hstep hcell1
      have Hb := Hbw.out
      have hq0w : w.heap.size < wr.heap.size + 1 := by omega
      have hqw : w2.heap.size < wr.heap.size + 1 := by omega
      have hxw : wr.heap.size < wr.heap.size + 1 := by omega
      by_cases hx : x.2 < x.1
      · go_wp2
        go_roundw
        case rel =>
          refine ⟨k + 1, by omega, by go_num, by go_grown, (Hq0.out.alloc _).alloc _, ?_⟩
          rw [Hstep.out]
          have e : coverStep q x = q := by simp [coverStep, hx]
          rw [e]
          exact (Hq.out.alloc _).alloc _
        case measure => simp [intOf]; omega
      · have hx' : decide (x.2 < x.1) = false := by simpa using hx
        go_wp2_with (first
          | (go_at_call 9; (with_reducible refine (empty_any x.1 _ _).mono ?_); rintro e w1 ⟨rfl, hb1⟩; obtain ⟨c1, f1⟩ := bcell hb1; simp only [World.size_alloc] at c1 f1; have hs1 : w.heap.size < w1.heap.size := Nat.lt_of_lt_of_le hq0w (by simpa using hb1.size); have hs1' : w2.heap.size < w1.heap.size := Nat.lt_of_lt_of_le hqw (by simpa using hb1.size); have hs1x : wr.heap.size < w1.heap.size := Nat.lt_of_lt_of_le hxw (by simpa using hb1.size))
          | fail)
        by_cases hqe : q.2 < q.1
        · have hd : decide (q.2 < q.1) = true := by simpa using hqe
          have e : coverStep q x = x := by have hxx : ¬ x.2 < x.1 := by omega
                                           simp [coverStep, coverGo, hxx, hqe]
          rw [e] at Hstep
          · refine (empty_any q.1 q.2 _).mono ?_
            rintro e w3 ⟨rfl, hb3⟩
            obtain ⟨c3, f3⟩ := bcell hb3
            have hs3 : w.heap.size < w3.heap.size := Nat.lt_of_lt_of_le hs1 hb3.size
            have hs3' : w2.heap.size < w3.heap.size := Nat.lt_of_lt_of_le hs1' hb3.size
            have hs3x : wr.heap.size < w3.heap.size := Nat.lt_of_lt_of_le hs1x hb3.size
            have hnx : w2.heap.size ≠ wr.heap.size := by omega
            have hbw : Below w.heap.size w w3 := (Hb.alloc hsz _).trans ((hb1.mono (by simp; omega)).trans (hb3.mono (by omega)))
            have b0 : Blk w3 w.heap.size 23 #[.int .i64 0, .int .i64 0] := ((Hq0.out.alloc _).below hb1 (by simp; omega)).below hb3 hs1
            have b1 : Blk w3 w2.heap.size 23 #[.int .i64 q.1, .int .i64 q.2] := ((Hq.out.alloc _).below hb1 (by simp; omega)).below hb3 hs1'
            have B0 := Lib.hid b0
            have B1 := Lib.hid b1
            clear b0 b1
            go_wp2_with (first
              | (go_at_call 26; (with_reducible refine (pick_above _ _ _).mono ?_); rintro e w' ⟨rfl, rfl⟩)
              | (go_at_call 26; (with_reducible refine (pick_below _ _ _).mono ?_); rintro e w' ⟨rfl, rfl⟩))
            go_roundw
            case rel =>
              refine ⟨k + 1, by omega, by go_num, by go_grown, ?_, ?_⟩
              · exact ((((B0.out.far (by simp; omega) _).far (by simp; omega) _).far (by simp; omega) _).far (by simp; omega) _)
              · rw [Hstep.out]
                exact ((((B1.out.set_ 0 _).set_ 1 _).set_ 0 _).set_ 1 _)
            case measure => simp [intOf]; omega
        · have hd : decide (q.2 < q.1) = false := by simpa using hqe
          have e : coverStep q x = coverGo q x := by have hxx : ¬ x.2 < x.1 := by omega
                                                     simp [coverStep, hxx, hqe]
          rw [e] at Hstep
          · refine (empty_any q.1 q.2 _).mono ?_
            rintro e w3 ⟨rfl, hb3⟩
            obtain ⟨c3, f3⟩ := bcell hb3
            have hs3 : w.heap.size < w3.heap.size := Nat.lt_of_lt_of_le hs1 hb3.size
            have hs3' : w2.heap.size < w3.heap.size := Nat.lt_of_lt_of_le hs1' hb3.size
            have hs3x : wr.heap.size < w3.heap.size := Nat.lt_of_lt_of_le hs1x hb3.size
            have hnx : w2.heap.size ≠ wr.heap.size := by omega
            have hbw : Below w.heap.size w w3 := (Hb.alloc hsz _).trans ((hb1.mono (by simp; omega)).trans (hb3.mono (by omega)))
            have b0 : Blk w3 w.heap.size 23 #[.int .i64 0, .int .i64 0] := ((Hq0.out.alloc _).below hb1 (by simp; omega)).below hb3 hs1
            have b1 : Blk w3 w2.heap.size 23 #[.int .i64 q.1, .int .i64 q.2] := ((Hq.out.alloc _).below hb1 (by simp; omega)).below hb3 hs1'
            have B0 := Lib.hid b0
            have B1 := Lib.hid b1
            clear b0 b1
            go_wp2_with (first
              | (go_at_call 26; (with_reducible refine (pick_above _ _ _).mono ?_); rintro e w' ⟨rfl, rfl⟩)
              | (go_at_call 26; (with_reducible refine (pick_below _ _ _).mono ?_); rintro e w' ⟨rfl, rfl⟩))
            go_roundw
            case rel =>
              refine ⟨k + 1, by omega, by go_num, by go_grown, ?_, ?_⟩
              · exact (B0.out.far (by simp; omega) _).far (by simp; omega) _
              · rw [Hstep.out]
                exact (B1.out.set_ 0 _).set_ 1 _
            case measure => simp [intOf]; omega
    · have hkt : (l.take k) = l := List.take_of_length_le (by omega)
      have hfin : coverF l = (l.take k).foldl coverStep (1, 0) := by rw [hkt]; rfl
      clear hkt
      generalize (l.take k).foldl coverStep (1, 0) = q at *
      have Hfin := Lib.hid hfin
      clear hfin
      have Hb := Hbw.out
      go_wp2
      exact bodyPost_ret (v := .agg #[.int .i64 q.1, .int .i64 q.2]) (by simp [results, Try.results18, go_sem, z0, z1]) rfl ⟨by rw [Hfin.out], by go_grown⟩
end Go.Proofs.Ytcdanilepikdeaa
