/-
 What the law of the last of these texts stands on, part 24.
-/
import Derived.Test.YtanjhbkbpalnaaaGreatMb23
import Derived.Laws.StructEq
set_option maxRecDepth 100000
set_option maxHeartbeats 8000000
open Go.Proofs.Tryz
namespace Go.Proofs.YtanjhbkbpalnaaaGreat
set_option linter.unusedSimpArgs false
set_option linter.unusedVariables false
open Go.ChangeShapes Go.WideShapes Go.ChangeAt Go.RowKit Go.Joins Go.Deep
theorem ydH (n lo hi : Int) (r : Bool) (hr : decide (lo ≤ n ∧ n ≤ hi) = r) (w : World) : Calls prog 142 #[.int .i64 n, .int .i64 lo, .int .i64 hi] w fun e w' => e = .returned (.bool r) ∧ w = w' := by
 subst hr
 by_cases h1 : lo ≤ n
 ·by_cases h2 : n ≤ hi
  ·rw [qaP (show lo ≤ n ∧ n ≤ hi from ⟨h1, h2⟩)]
   go_enter func142, ntmps142
   go_wp2
   go_ret
   exact ⟨rfl, rfl⟩
  ·rw [qaU (show ¬ (lo ≤ n ∧ n ≤ hi) from fun h => h2 h.2)]
   go_enter func142, ntmps142
   go_wp2
   go_ret
   exact ⟨rfl, rfl⟩
 ·rw [qaU (show ¬ (lo ≤ n ∧ n ≤ hi) from fun h => h1 h.1)]
  go_enter func142, ntmps142
  go_wp2
  go_ret
  exact ⟨rfl, rfl⟩
def rh3 (x y n : Int) : Int := if 1 ≤ x ∧ x ≤ 1000000000 ∧ 0 ≤ y ∧ y ≤ 1000000000 ∧ 0 ≤ n ∧ n ≤ 2000 then 0 else 150
theorem rh3_chk (x y : Int) (d : List UInt8) : rh3 x y (d.length : Int) = rchk (x, y, d) := by
 unfold rh3 rchk
 by_cases h : rmay (x, y, d) = true
 ·rw [qah h]
  have := (ya1 _).1 h
  dsimp only at this
  rw [qah (by omega)]
 ·rw [qag h, qag]
  intro g
  exact h ((ya1 _).2 (by dsimp only; omega))
theorem yeX (x y n : Int) (w : World) : Calls prog 101 #[.agg #[.int .i64 x, .int .i64 y, .int .i64 n]] w fun e w' => e = .returned (.int .i64 (rh3 x y n)) ∧ Below w.heap.size w w' := by
 have c1 := fun r hr W => ydH x 1 1000000000 r hr W
 have c2 := fun r hr W => ydH y 0 1000000000 r hr W
 have c3 := fun r hr W => ydH n 0 2000 r hr W
 by_cases h1 : 1 ≤ x ∧ x ≤ 1000000000
 ·by_cases h2 : 0 ≤ y ∧ y ≤ 1000000000
  ·by_cases h3 : 0 ≤ n ∧ n ≤ 2000
   ·have hF := qaa (show rh3 x y n = 0 from qah ⟨h1.1, h1.2, h2.1, h2.2, h3.1, h3.2⟩)
    replace c1 := qaa (c1 true (qaP h1))
    replace c2 := qaa (c2 true (qaP h2))
    replace c3 := qaa (c3 true (qaP h3))
    clear h1 h2 h3
    go_enter func101, ntmps101
    go_wp2_with (first
     | (go_at_call 142; (with_reducible refine (c1.out _).mono ?_); rintro e w1 ⟨rfl, rfl⟩; clear c1)
     | (go_at_call 142; (with_reducible refine (c2.out _).mono ?_); rintro e w1 ⟨rfl, rfl⟩; clear c2)
     | (go_at_call 142; (with_reducible refine (c3.out _).mono ?_); rintro e w1 ⟨rfl, rfl⟩; clear c3))
    go_ret
    exact ⟨by rw [hF.out]; rfl, by go_grown⟩
   ·have hF := qaa (show rh3 x y n = 150 from qag fun h => h3 ⟨h.2.2.2.2.1, h.2.2.2.2.2⟩)
    replace c1 := qaa (c1 true (qaP h1))
    replace c2 := qaa (c2 true (qaP h2))
    replace c3 := qaa (c3 false (qaU h3))
    clear h1 h2 h3
    go_enter func101, ntmps101
    go_wp2_with (first
     | (go_at_call 142; (with_reducible refine (c1.out _).mono ?_); rintro e w1 ⟨rfl, rfl⟩; clear c1)
     | (go_at_call 142; (with_reducible refine (c2.out _).mono ?_); rintro e w1 ⟨rfl, rfl⟩; clear c2)
     | (go_at_call 142; (with_reducible refine (c3.out _).mono ?_); rintro e w1 ⟨rfl, rfl⟩; clear c3))
    go_ret
    exact ⟨by rw [hF.out]; rfl, by go_grown⟩
  ·have hF := qaa (show rh3 x y n = 150 from qag fun h => h2 ⟨h.2.2.1, h.2.2.2.1⟩)
   replace c1 := qaa (c1 true (qaP h1))
   replace c2 := qaa (c2 false (qaU h2))
   clear h1 h2 c3
   go_enter func101, ntmps101
   go_wp2_with (first
    | (go_at_call 142; (with_reducible refine (c1.out _).mono ?_); rintro e w1 ⟨rfl, rfl⟩; clear c1)
    | (go_at_call 142; (with_reducible refine (c2.out _).mono ?_); rintro e w1 ⟨rfl, rfl⟩; clear c2))
   go_ret
   exact ⟨by rw [hF.out]; rfl, by go_grown⟩
 ·have hF := qaa (show rh3 x y n = 150 from qag fun h => h1 ⟨h.1, h.2.1⟩)
  replace c1 := qaa (c1 false (qaU h1))
  clear h1 c2 c3
  go_enter func101, ntmps101
  go_wp2_with (go_at_call 142; (with_reducible refine (c1.out _).mono ?_); rintro e w1 ⟨rfl, rfl⟩; clear c1)
  go_ret
  exact ⟨by rw [hF.out]; rfl, by go_grown⟩
theorem ycA (x y : Int) (d : List UInt8) (w : World) : Calls prog 58 #[.agg #[.int .i64 x, .int .i64 y, .string ⟨d.toArray⟩]] w fun e w' => e = .returned (.agg #[.int .i64 x, .int .i64 y, .int .i64 (d.length : Int)]) ∧ Below w.heap.size w w' := by
 go_enter func58, ntmps58
 go_wp2
 refine qaQ (v := .agg #[.int .i64 x, .int .i64 y, .int .i64 (d.length : Int)]) (by simp [results, results58, go_sem]) rfl ⟨rfl, by go_grown⟩
theorem yeY (x y : Int) (d : List UInt8) (w : World) : Calls prog 57 #[.agg #[.int .i64 x, .int .i64 y, .string ⟨d.toArray⟩]] w fun e w' => e = .returned (.int .i64 (rchk (x, y, d))) ∧ Below w.heap.size w w' := by
 have HB0 := qaa ((qaj w.heap.size w).alloc (qaf _) (.cells #[.int .i64 x, .int .i64 y, .string ⟨d.toArray⟩] 54))
 have c1 := qaa fun W => ycA x y d W
 have c2 := qaa fun W => yeX x y (d.length : Int) W
 rw [rh3_chk] at c2
 generalize rchk (x, y, d) = E at *
 go_enter func57, ntmps57
 go_wp2_with (first
  | (go_at_call 58; (with_reducible refine (c1.out _).mono ?_); rintro e w1 ⟨rfl, hb1⟩; have HB1 := qaa (HB0.out.trans (hb1.mono HB0.out.size)); clear hb1 c1)
  | (go_at_call 101; (with_reducible refine (c2.out _).mono ?_); rintro e w2 ⟨rfl, hb2⟩; have HB2 := qaa (HB1.out.trans (hb2.mono HB1.out.size)); clear hb2 c2))
 go_ret
 exact ⟨rfl, HB2.out⟩
def RGPost (w w' : World) (e : Ending) (F : Rc × Int × Int) : Prop := e = .returned (.tuple #[.agg #[.int .i64 F.1.1, .int .i64 F.1.2.1, .string ⟨F.1.2.2.toArray⟩], .int .i64 F.2.1, .int .i64 F.2.2]) ∧ Below w.heap.size w w'
theorem rrun_part (l : List UInt8) (p n : Int) (h0 : 0 ≤ p) (hn : 0 ≤ n) (hl : p + n ≤ l.length) (w : World) :
  (Instr.slice 9 (.string ⟨l.toArray⟩) (some (.int .i64 p)) (some (.int .i64 (p + n))) none).run prog w = .ok (.string ⟨((l.drop p.toNat).take n.toNat).toArray⟩) w := by
 rw [run_slice_string w 9 ⟨l.toArray⟩ .i64 .i64 p (p + n) underlying9 h0 (by omega) (by rw [qaA, qa0]; exact hl), qbQ]
 congr 5
 omega
def rpl (s : List UInt8) (p : Int) : Nat → Int
 | 0 => p
 | k + 1 => (getF s (rpl s p k)).2.1
def rer (s : List UInt8) (p : Int) (k : Nat) : Int := (getF s (rpl s p k)).2.2
def rno (s : List UInt8) (p : Int) (k : Nat) : Int := (getF s (rpl s p k)).1
def rfill (s : List UInt8) (p : Int) : Nat → List Int
 | 0 => [0, 0, 0]
 | 1 => [rno s p 0, 0, 0]
 | 2 => [rno s p 0, rno s p 1, 0]
 | _ => [rno s p 0, rno s p 1, rno s p 2]
theorem rfill_set (s : List UInt8) (p : Int) (k : Nat) (h : k < 3) : (ints (rfill s p k)).toArray.setIfInBounds k (.int .i64 (rno s p k)) = (ints (rfill s p (k + 1))).toArray := by
 match k, h with
 | 0, _ => rfl
 | 1, _ => rfl
 | 2, _ => rfl
theorem rget_bad (s : List UInt8) (p : Int) (k : Nat) (hk : k < 3) (h : ∀ j, j < k → rer s p j = 0) (he : rer s p k ≠ 0) : ya2 s p = (yfL, 0, rer s p k) := by
 unfold ya2
 by_cases h0 : k = 0
 ·subst h0
  exact qah he
 have e0 : (getF s p).2.2 = 0 := h 0 (by omega)
 rw [qag (by omega)]
 unfold rg1
 by_cases h1 : k = 1
 ·subst h1
  exact qah he
 have e1 : (getF s (getF s p).2.1).2.2 = 0 := h 1 (by omega)
 rw [qag (by omega)]
 obtain rfl : k = 2 := by omega
 exact qah he
theorem rget_end (s : List UInt8) (p : Int) (h : ∀ j, j < 3 → rer s p j = 0) : ya2 s p = rg3 s (rno s p 0) (rno s p 1) (rno s p 2) (rpl s p 3) := by
 have e0 : (getF s p).2.2 = 0 := h 0 (by omega)
 have e1 : (getF s (getF s p).2.1).2.2 = 0 := h 1 (by omega)
 have e2 : (getF s (getF s (getF s p).2.1).2.1).2.2 = 0 := h 2 (by omega)
 unfold ya2
 rw [qag (by omega)]
 unfold rg1
 rw [qag (by omega)]
 unfold rg2
 rw [qag (by omega)]
 rfl
theorem rno_at (s : List UInt8) (p : Int) (k : Nat) (h : rer s p k = 0) : 0 ≤ rno s p k ∧ 0 ≤ rpl s p (k + 1) ∧ rpl s p (k + 1) ≤ s.length := by
 have := ygF h
 exact ⟨this.2.2.1, by show (0 : Int) ≤ (getF s (rpl s p k)).2.1; omega, this.2.2.2.2.2.1⟩
theorem rfill_len (s : List UInt8) (p : Int) : ∀ k, (rfill s p k).length = 3
 | 0 => rfl
 | 1 => rfl
 | 2 => rfl
 | _ + 3 => rfl
theorem rcell_some {w : World} {g : Nat} {t : TypeId} {l : List Int} {k : Nat} (h : Blk w g t (ints l).toArray) (hk : k < l.length) : w.cell? ⟨g, k, none⟩ = some (.int .i64 l[k]) := by
 rw [h.cell k]
 simpa using yak l k hk
theorem rstored {W : World} {g : Nat} {x0 x1 x2 : Value} (h : Blk W g 54 #[x0, x1, x2]) (a b c : Value) :
  (W.setCell ⟨g, 0, none⟩ a).cell? ⟨g, 0, none⟩ = some a ∧ ((W.setCell ⟨g, 0, none⟩ a).setCell ⟨g, 1, none⟩ b).cell? ⟨g, 1, none⟩ = some b ∧ (((W.setCell ⟨g, 0, none⟩ a).setCell ⟨g, 1, none⟩ b).setCell ⟨g, 2, none⟩ c).cell? ⟨g, 2, none⟩ = some c :=
 ⟨(h.set_ 0 a).cell 0, ((h.set_ 0 a).set_ 1 b).cell 1, (((h.set_ 0 a).set_ 1 b).set_ 2 c).cell 2⟩
theorem yb3 {W w : World} {g : Nat} (hb : Below w.heap.size w W) (hg : w.heap.size ≤ g) (a b c : Value) : Below w.heap.size w (((W.setCell ⟨g, 0, none⟩ a).setCell ⟨g, 1, none⟩ b).setCell ⟨g, 2, none⟩ c) :=
 ((hb.setCell (p := ⟨g, 0, none⟩) hg _).setCell (p := ⟨g, 1, none⟩) hg _).setCell (p := ⟨g, 2, none⟩) hg _
theorem p_rget_any (s : List UInt8) (p : Int) (w : World) (hs : s.length ≤ 1000000) :
  Calls prog 100 #[.string ⟨s.toArray⟩, .int .i64 p] w fun e w' => RGPost w w' e (ya2 s p) := by
 unfold RGPost
 have HR0 := Blk.new w 54 #[.int .i64 0, .int .i64 0, .string ⟨#[]⟩]
 have HI0 : Hid (Blk ((w.alloc (.cells #[.int .i64 0, .int .i64 0, .string ⟨#[]⟩] 54)).alloc (.cells #[.int .i64 0, .int .i64 0, .int .i64 0] 91)) w.heap.size 54 #[.int .i64 0, .int .i64 0, .string ⟨#[]⟩] ∧
   Blk ((w.alloc (.cells #[.int .i64 0, .int .i64 0, .string ⟨#[]⟩] 54)).alloc (.cells #[.int .i64 0, .int .i64 0, .int .i64 0] 91)) (w.heap.size + 1) 91 (ints (rfill s p 0)).toArray ∧
   Below w.heap.size w ((w.alloc (.cells #[.int .i64 0, .int .i64 0, .string ⟨#[]⟩] 54)).alloc (.cells #[.int .i64 0, .int .i64 0, .int .i64 0] 91))) := qaa ⟨HR0.alloc _, by
    have := Blk.new (w.alloc (.cells #[.int .i64 0, .int .i64 0, .string ⟨#[]⟩] 54)) 91 #[.int .i64 0, .int .i64 0, .int .i64 0]
    rwa [qas] at this, ((qaj _ _).alloc (qaf _) _).alloc (by rw [qas]; omega) _⟩
 have Hg : Hid (∀ k W, Calls prog 140 #[.string ⟨s.toArray⟩, .int .i64 (rpl s p k)] W fun e w' => e = .returned (.tuple #[.int .i64 (rno s p k), .int .i64 (rpl s p (k + 1)), .int .i64 (rer s p k)]) ∧ W = w') := qaa fun k W => get_any s (rpl s p k) W (by omega)
 have Hbad := qaa fun k hk h he => rget_bad s p k hk h he
 have Hend := qaa fun h => rget_end s p h
 have Hset := qaa fun k h => rfill_set s p k h
 have Hno := qaa fun k h => rno_at s p k h
 have H3 : Hid (rfill s p 3 = [rno s p 0, rno s p 1, rno s p 2]) := qaa rfl
 have Hlen : Hid (∀ k, (rfill s p k).length = 3) := qaa (rfill_len s p)
 have HP0 : Hid (rpl s p 0 = p) := qaa rfl
 clear HR0
 generalize ya2 s p = R at *
 generalize rfill s p = F at *
 generalize rer s p = E at *
 generalize rno s p = N at *
 generalize rpl s p = T at *
 go_enter func100, ntmps100
 go_wp2
 go_loopw [5, 6, 8, 12] (fun tv ev _ iv wr => ∃ k : Nat, k ≤ 3 ∧ iv = .int .i64 (k : Int) ∧ tv = .int .i64 (T k) ∧ ev = .int .i64 0 ∧ Hid (∀ j, j < k → E j = 0) ∧ Hid (Blk wr w.heap.size 54 #[.int .i64 0, .int .i64 0, .string ⟨#[]⟩] ∧ Blk wr (w.heap.size + 1) 91 (ints (F k)).toArray ∧ Below w.heap.size w wr)) (fun _ _ _ iv _ => 3 - (intOf iv).toNat)
 case atStart => exact ⟨0, by omega, rfl, by rw [HP0.out], rfl, qaa fun j hj => absurd hj (Nat.not_lt_zero _), HI0⟩
 case round =>
  obtain ⟨k, hk, rfl, rfl, rfl, HE, HI⟩ := hrel
  by_cases hlt : k < 3
  ·have hki : (0 : Int) ≤ (k : Int) ∧ (k : Int) < 3 := by omega
   have hg := qaa (Hg.out k)
   have hfz : wr.frozen? ⟨w.heap.size + 1, k, none⟩ = false := HI.out.2.1.frozen k
   have hku : ∃ u, wr.cell? ⟨w.heap.size + 1, k, none⟩ = some u := ⟨_, rcell_some HI.out.2.1 (by rw [Hlen.out]; exact hlt)⟩
   obtain ⟨u, hu⟩ := hku
   have r0 : wr.cell? ⟨w.heap.size, 0, none⟩ = some (.int .i64 0) := HI.out.1.cell 0
   have r1 : wr.cell? ⟨w.heap.size, 1, none⟩ = some (.int .i64 0) := HI.out.1.cell 1
   have r2 : wr.cell? ⟨w.heap.size, 2, none⟩ = some (.string ⟨#[]⟩) := HI.out.1.cell 2
   have z0 : wr.frozen? ⟨w.heap.size, 0, none⟩ = false := HI.out.1.frozen 0
   have z1 : wr.frozen? ⟨w.heap.size, 1, none⟩ = false := HI.out.1.frozen 1
   have z2 : wr.frozen? ⟨w.heap.size, 2, none⟩ = false := HI.out.1.frozen 2
   have HI2 : Hid (∀ W, W = wr.setCell ⟨w.heap.size + 1, k, none⟩ (.int .i64 (N k)) → Blk W w.heap.size 54 #[.int .i64 0, .int .i64 0, .string ⟨#[]⟩] ∧ Blk W (w.heap.size + 1) 91 (ints (F (k + 1))).toArray ∧ Below w.heap.size w W) := qaa fun W hW => by
    subst hW
    refine ⟨Blk.far HI.out.1 (by simp) _, ?_, HI.out.2.2.setCell (p := ⟨w.heap.size + 1, k, none⟩) (by show w.heap.size ≤ w.heap.size + 1; omega) _⟩
    rw [← Hset.out k hlt]
    exact HI.out.2.1.set_ k _
   by_cases he : E k ≠ 0
   ·have HF := qaa (Hbad.out k hlt HE.out he)
    have HB := qaa HI.out.2.2
    clear Hbad Hend Hset Hno H3 HP0 HI0 Hg HE
    generalize N k = z at *
    generalize T (k + 1) = q at *
    generalize E k = ek at *
    go_wp2_with (go_at_call 140; (with_reducible refine (hg.out _).mono ?_); rintro e w1 ⟨rfl, rfl⟩; clear hg)
    have HI3 := HI2.out _ rfl
    obtain ⟨q0, q1, q2⟩ := rstored HI3.1 (.int .i64 0) (.int .i64 0) (.string ⟨#[]⟩)
    refine qaQ (v := .tuple #[.agg #[.int .i64 0, .int .i64 0, .string ⟨#[]⟩], .int .i64 0, .int .i64 ek]) (by simp [results, results100, go_sem, q0, q1, q2]) rfl ⟨by rw [HF.out]; rfl, yb3 HI3.2.2 (qaf _) _ _ _⟩
   ·obtain he : E k = 0 := by omega
    have HE2 : Hid (∀ j, j < k + 1 → E j = 0) := qaa fun j hj => by
     by_cases h : j = k
     ·rw [h]; exact he
     ·exact HE.out j (by omega)
    rw [he] at hg
    clear Hbad Hend Hset Hno H3 HP0 HI0 Hg HE he
    generalize N k = z at *
    generalize hq : T (k + 1) = q at *
    go_wp2_with (go_at_call 140; (with_reducible refine (hg.out _).mono ?_); rintro e w1 ⟨rfl, rfl⟩; clear hg)
    go_roundw
    case rel => exact ⟨k + 1, by omega, iv (by omega), by rw [hq], rfl, HE2, qaa (HI2.out _ rfl)⟩
    case measure => simp only [intOf]; omega
  ·obtain rfl : k = 3 := by omega
   have hR := Hend.out HE.out
   have n0 := (Hno.out 0 (HE.out 0 (by omega))).1
   have n1 := (Hno.out 1 (HE.out 1 (by omega))).1
   have n2 := (Hno.out 2 (HE.out 2 (by omega)))
   have hH := HI.out.2.1
   rw [H3.out] at hH
   have HB := qaa HI.out.2.2
   have HR := qaa HI.out.1
   clear Hbad Hend Hset Hno H3 HP0 HI0 Hg HE HI Hlen
   generalize N 0 = x at *
   generalize N 1 = y at *
   generalize N 2 = n at *
   generalize T 3 = c at *
   have HH : Hid (Blk wr (w.heap.size + 1) 91 #[.int .i64 x, .int .i64 y, .int .i64 n]) := qaa hH
   have hc := qaa fun W => yeX x y n W
   have y0 : wr.cell? ⟨w.heap.size + 1, 0, none⟩ = some (.int .i64 x) := HH.out.cell 0
   have y1 : wr.cell? ⟨w.heap.size + 1, 1, none⟩ = some (.int .i64 y) := HH.out.cell 1
   have y2 : wr.cell? ⟨w.heap.size + 1, 2, none⟩ = some (.int .i64 n) := HH.out.cell 2
   have hci : (0 : Int) ≤ c ∧ c ≤ 1000000 := by omega
   unfold rg3 at hR
   clear hH
   by_cases h4 : 1 ≤ x ∧ x ≤ 1000000000 ∧ y ≤ 1000000000 ∧ n ≤ 2000
   ·rw [qah h4] at hR
    have e0 : rh3 x y n = 0 := qah (by omega)
    rw [e0] at hc
    have hni : (0 : Int) ≤ n ∧ n ≤ 2000 := by omega
    by_cases h5 : (s.length : Int) < c + n
    ·rw [qah h5] at hR
     have HF := qaa hR
     have hgt : (s.length : Int) - c < n := by omega
     clear hR e0
     go_wp2_with (first
      | (go_at_call 101; (with_reducible refine (hc.out _).mono ?_); rintro e w2 ⟨rfl, hb2⟩; have HB2 := qaa (HB.out.trans (hb2.mono HB.out.size)); have HR2 := qaa (HR.out.below hb2 HR.out.lt); have HH2 := qaa (HH.out.below hb2 HH.out.lt); have x0 : w2.cell? ⟨w.heap.size + 1, 0, none⟩ = some (.int .i64 x) := HH2.out.cell 0; have x1 : w2.cell? ⟨w.heap.size + 1, 1, none⟩ = some (.int .i64 y) := HH2.out.cell 1; have x2 : w2.cell? ⟨w.heap.size + 1, 2, none⟩ = some (.int .i64 n) := HH2.out.cell 2; have r0 : w2.cell? ⟨w.heap.size, 0, none⟩ = some (.int .i64 0) := HR2.out.cell 0; have r1 : w2.cell? ⟨w.heap.size, 1, none⟩ = some (.int .i64 0) := HR2.out.cell 1; have r2 : w2.cell? ⟨w.heap.size, 2, none⟩ = some (.string ⟨#[]⟩) := HR2.out.cell 2; have z0 := HR2.out.frozen 0; have z1 := HR2.out.frozen 1; have z2 := HR2.out.frozen 2; clear hb2 hc))
     obtain ⟨q0, q1, q2⟩ := rstored HR2.out (.int .i64 0) (.int .i64 0) (.string ⟨#[]⟩)
     refine qaQ (v := .tuple #[.agg #[.int .i64 0, .int .i64 0, .string ⟨#[]⟩], .int .i64 0, .int .i64 4]) (by simp [results, results100, go_sem, q0, q1, q2]) rfl ⟨by rw [HF.out]; rfl, yb3 HB2.out (qaf _) _ _ _⟩
    ·rw [qag h5] at hR
     have HF := qaa hR
     have hgt : ¬ (s.length : Int) - c < n := by omega
     have hsl := rrun_part s c n (by omega) (by omega) (by omega)
     have hcl := qaa fun W => clone_any ((s.drop c.toNat).take n.toNat) W (by rw [qar, qaz]; omega)
     clear hR e0
     generalize (s.drop c.toNat).take n.toNat = D at *
     go_wp2_with (first
      | (go_at_call 101; (with_reducible refine (hc.out _).mono ?_); rintro e w2 ⟨rfl, hb2⟩; have HB2 := qaa (HB.out.trans (hb2.mono HB.out.size)); have HR2 := qaa (HR.out.below hb2 HR.out.lt); have HH2 := qaa (HH.out.below hb2 HH.out.lt); have x0 : w2.cell? ⟨w.heap.size + 1, 0, none⟩ = some (.int .i64 x) := HH2.out.cell 0; have x1 : w2.cell? ⟨w.heap.size + 1, 1, none⟩ = some (.int .i64 y) := HH2.out.cell 1; have x2 : w2.cell? ⟨w.heap.size + 1, 2, none⟩ = some (.int .i64 n) := HH2.out.cell 2; have r0 : w2.cell? ⟨w.heap.size, 0, none⟩ = some (.int .i64 0) := HR2.out.cell 0; have r1 : w2.cell? ⟨w.heap.size, 1, none⟩ = some (.int .i64 0) := HR2.out.cell 1; have r2 : w2.cell? ⟨w.heap.size, 2, none⟩ = some (.string ⟨#[]⟩) := HR2.out.cell 2; have z0 := HR2.out.frozen 0; have z1 := HR2.out.frozen 1; have z2 := HR2.out.frozen 2; clear hb2 hc)
      | (go_at_call 141; (with_reducible refine (hcl.out _).mono ?_); rintro e w3 ⟨rfl, hb3⟩; have HB3 := qaa (HB2.out.trans (hb3.mono HB2.out.size)); have HR3 := qaa (HR2.out.below hb3 HR2.out.lt); have HH3 := qaa (HH2.out.below hb3 HH2.out.lt); have x03 : w3.cell? ⟨w.heap.size + 1, 0, none⟩ = some (.int .i64 x) := HH3.out.cell 0; have x13 : w3.cell? ⟨w.heap.size + 1, 1, none⟩ = some (.int .i64 y) := HH3.out.cell 1; have r03 : w3.cell? ⟨w.heap.size, 0, none⟩ = some (.int .i64 0) := HR3.out.cell 0; have r13 : w3.cell? ⟨w.heap.size, 1, none⟩ = some (.int .i64 0) := HR3.out.cell 1; have r23 : w3.cell? ⟨w.heap.size, 2, none⟩ = some (.string ⟨#[]⟩) := HR3.out.cell 2; have z03 := HR3.out.frozen 0; have z13 := HR3.out.frozen 1; have z23 := HR3.out.frozen 2; clear hb3 hcl x0 x1 x2 r0 r1 r2 z0 z1 z2))
     obtain ⟨q0, q1, q2⟩ := rstored HR3.out (.int .i64 x) (.int .i64 y) (.string ⟨D.toArray⟩)
     refine qaQ (v := .tuple #[.agg #[.int .i64 x, .int .i64 y, .string ⟨D.toArray⟩], .int .i64 (c + n), .int .i64 0]) (by simp [results, results100, go_sem, q0, q1, q2]) rfl ⟨by rw [HF.out], yb3 HB3.out (qaf _) _ _ _⟩
   ·rw [qag h4] at hR
    have e0 : rh3 x y n = 150 := qag (by omega)
    rw [e0] at hc
    have HF := qaa hR
    clear hR e0
    go_wp2_with (first
     | (go_at_call 101; (with_reducible refine (hc.out _).mono ?_); rintro e w2 ⟨rfl, hb2⟩; have HB2 := qaa (HB.out.trans (hb2.mono HB.out.size)); have HR2 := qaa (HR.out.below hb2 HR.out.lt); have HH2 := qaa (HH.out.below hb2 HH.out.lt); have x0 : w2.cell? ⟨w.heap.size + 1, 0, none⟩ = some (.int .i64 x) := HH2.out.cell 0; have x1 : w2.cell? ⟨w.heap.size + 1, 1, none⟩ = some (.int .i64 y) := HH2.out.cell 1; have x2 : w2.cell? ⟨w.heap.size + 1, 2, none⟩ = some (.int .i64 n) := HH2.out.cell 2; have r0 : w2.cell? ⟨w.heap.size, 0, none⟩ = some (.int .i64 0) := HR2.out.cell 0; have r1 : w2.cell? ⟨w.heap.size, 1, none⟩ = some (.int .i64 0) := HR2.out.cell 1; have r2 : w2.cell? ⟨w.heap.size, 2, none⟩ = some (.string ⟨#[]⟩) := HR2.out.cell 2; have z0 := HR2.out.frozen 0; have z1 := HR2.out.frozen 1; have z2 := HR2.out.frozen 2; clear hb2 hc))
    obtain ⟨q0, q1, q2⟩ := rstored HR2.out (.int .i64 0) (.int .i64 0) (.string ⟨#[]⟩)
    refine qaQ (v := .tuple #[.agg #[.int .i64 0, .int .i64 0, .string ⟨#[]⟩], .int .i64 0, .int .i64 150]) (by simp [results, results100, go_sem, q0, q1, q2]) rfl ⟨by rw [HF.out]; rfl, yb3 HB2.out (qaf _) _ _ _⟩
theorem rrec_equal (x y x' y' : Int) (d d' : List UInt8) (w : World) : (Op.equalIn 10000 54 (.agg #[.int .i64 x, .int .i64 y, .string ⟨d.toArray⟩]) (.agg #[.int .i64 x', .int .i64 y', .string ⟨d'.toArray⟩])).run prog w = .ok (decide (x = x' ∧ y = y' ∧ d = d')) w := by
 by_cases h1 : x = x' <;> by_cases h2 : y = y' <;> by_cases h3 : d = d' <;> simp [go_sem, h1, h2, h3]
theorem rrec_guard : prog.eqGuardType prog.depth 54 = false := by kernel_rfl
theorem p_behind_any (x y u v m : Int) (d e : List UInt8) (w : World) (h0 : -1000000000 ≤ u) (h1 : u ≤ 1000000000) (hm : (v < y ∧ m = y) ∨ (y ≤ v ∧ m = v)) : Calls prog 60 #[.agg #[.int .i64 u, .int .i64 v, .string ⟨e.toArray⟩], .agg #[.int .i64 x, .int .i64 y, .string ⟨d.toArray⟩]] w fun r w' => r = .returned (.agg #[.int .i64 (u + 1), .int .i64 m, .string ⟨d.toArray⟩]) ∧ Below w.heap.size w w' := by
 have hu : IntKind.i64.wrap (u + 1) = u + 1 := by rw [qai]; omega
 rcases hm with ⟨h, rfl⟩ | ⟨h, rfl⟩
 ·have h2 : ¬ m < v := by omega
  have h3 : ¬ m ≤ v := by omega
  go_enter func60, ntmps60
  go_wp2
  refine qaQ (v := .agg #[.int .i64 (u + 1), .int .i64 m, .string ⟨d.toArray⟩]) (by simp [results, results60, go_sem]) rfl ⟨rfl, by go_grown⟩
 ·have h2 : ¬ m < y := by omega
  go_enter func60, ntmps60
  go_wp2
  refine qaQ (v := .agg #[.int .i64 (u + 1), .int .i64 m, .string ⟨d.toArray⟩]) (by simp [results, results60, go_sem]) rfl ⟨rfl, by go_grown⟩
theorem rrow_at {a : List Rc} {b : Rc} {u : List Rc} (h : ya9 a = 0) : ya9 (a ++ b :: u) = if rmay b = true then (if a = [] ∨ rgo (a.getLast?.getD yfL) b = true then ycu b u else 151) else 150 := by
 cases a with
 | nil =>
  show (if rmay b = true then ycu b u else 150) = _
  rw [qah (qat rfl)]
 | cons x t =>
  change (if rmay x = true then ycu x t else 150) = 0 at h
  by_cases hx : rmay x = true
  ·rw [qah hx] at h
   rw [qbC]
   show (if rmay x = true then ycu x (t ++ b :: u) else 150) = _
   rw [qah hx, rrow1_app b u t x h]
   have e : (x :: t).getLast?.getD yfL = (x :: t).getLast (by simp) := by rw [List.getLast?_eq_some_getLast (by simp)]; rfl
   rw [e]
   show (if rmay b = true then (if rgo _ b = true then ycu b u else 151) else 150) = _
   by_cases g : rgo ((x :: t).getLast (by simp)) b = true
   ·rw [qah g, qah (qaT g)]
   ·rw [qag g, qag (fun h => Or.elim h (fun h => by cases h) g)]
  ·rw [qag hx] at h
   cases h
theorem rsplit_at (l : List Rc) (k : Nat) (h : k < l.length) : l = l.take k ++ l[k] :: l.drop (k + 1) := by rw [← qa3 h, qa1]
theorem rlast_at (l : List Rc) (p : Nat) (h : p + 1 ≤ l.length) : (l.take (p + 1)).getLast?.getD yfL = l[p]'(by omega) := by
 rw [qao (show p < l.length by omega), List.getLast?_concat]
 rfl
theorem rrow_bad {l : List Rc} {k : Nat} (h : k < l.length) (h0 : ya9 (l.take k) = 0) (hm : ¬ rmay l[k] = true) : ya9 l = 150 := by
 rw [rsplit_at l k h, rrow_at h0, qag hm]
theorem rrow_ord {l : List Rc} {p : Nat} (h : p + 1 < l.length) (h0 : ya9 (l.take (p + 1)) = 0) (hm : rmay l[p + 1] = true) (hg : ¬ rgo (l[p]'(by omega)) l[p + 1] = true) : ya9 l = 151 := by
 rw [rsplit_at l (p + 1) h, rrow_at h0, qah hm, qag]
 rw [rlast_at l p (by omega)]
 rintro (e | e)
 ·have := qbJ List.length e
  rw [qar, qch] at this
  omega
 ·exact hg e
theorem rrow_first {l : List Rc} (h : 0 < l.length) (hm : rmay l[0] = true) : ya9 (l.take 1) = 0 := by
 have e : l.take 1 = [] ++ l[0] :: [] := by rw [qao h]; rfl
 rw [e, rrow_at rfl, qah hm, qah (qat rfl)]
 rfl
theorem rrow_next {l : List Rc} {p : Nat} (h : p + 1 < l.length) (h0 : ya9 (l.take (p + 1)) = 0) (hm : rmay l[p + 1] = true) (hg : rgo (l[p]'(by omega)) l[p + 1] = true) : ya9 (l.take (p + 1 + 1)) = 0 := by
 rw [qao h, rrow_at h0, qah hm, qah]
 ·rfl
 ·exact qaT (by rw [rlast_at l p (by omega)]; exact hg)
theorem rrow_prev {l : List Rc} {p : Nat} (h : p + 1 < l.length) (h0 : ya9 (l.take (p + 1)) = 0) : rmay (l[p]'(by omega)) = true := by
 refine ycS h0 _ ?_
 rw [qao (show p < l.length by omega)]
 exact qbe _ (qcb.2 rfl)
theorem rrow_step {l : List Rc} {k p : Nat} (hp : p + 1 = k) (h : k < l.length) (h0 : ya9 (l.take k) = 0) (hm : rmay l[k] = true) : ∃ hpl : p < l.length, (-1000000000 : Int) ≤ l[p].1 ∧ l[p].1 ≤ 1000000000 ∧
  (¬ (l[k].1 = l[p].1 + 1 ∧ l[p].2.1 ≤ l[k].2.1) → ya9 l = 151) ∧ ((l[k].1 = l[p].1 + 1 ∧ l[p].2.1 ≤ l[k].2.1) → ya9 (l.take (k + 1)) = 0) := by
 subst hp
 have hpm := (ya1 _).1 (rrow_prev h h0)
 refine ⟨by omega, by omega, by omega, fun g => rrow_ord h h0 hm fun g2 => g ((rgo_iff _ _).1 g2), fun g => rrow_next h h0 hm ((rgo_iff _ _).2 g)⟩
theorem rref_row_any (l : List Rc) (A : Option Addr) (n c : Nat) (w : World) (hl : l.length = n) (hn : n ≤ 1000000) (hr : Reads w w.heap.size 3 A n (rcs l)) :
  Calls prog 95 #[.slice A n c] w fun e w' => e = .returned (.int .i64 (ya9 l)) ∧ Below w.heap.size w w' := by
 have Hc := qaa (yaX hr hl)
 have Hl := qaa hl
 have H0 : Hid (ya9 (l.take 0) = 0) := qaa rfl
 clear hr hl
 go_enter func95, ntmps95
 go_wp2
 go_loopw [3] (fun i wr => ∃ k : Nat, k ≤ n ∧ i = .int .i64 (k : Int) ∧ Hid (ya9 (l.take k) = 0) ∧ Hid (Below w.heap.size w wr)) (fun i _ => n - (intOf i).toNat)
 case atStart => exact ⟨0, by omega, rfl, H0, qaa (qaj _ _)⟩
 case round =>
  obtain ⟨k, hk, rfl, HR, HB⟩ := hrel
  by_cases hlt : k < n
  ·have hkl : k < l.length := by have := Hl.out; omega
   obtain ⟨b, off, rfl, hb, hcell⟩ := Hc.out k hlt
   obtain ⟨d0, d1, d2⟩ := hcell k hkl
   have c0 := (HB.out.cell (p := ⟨b, off + k * 3, none⟩) hb).trans d0
   have c1 := (HB.out.cell (p := ⟨b, off + k * 3 + 1, none⟩) hb).trans d1
   have c2 := (HB.out.cell (p := ⟨b, off + k * 3 + 2, none⟩) hb).trans d2
   have hki : (0 : Int) ≤ (k : Int) ∧ (k : Int) < (n : Int) := by omega
   have hchk := qaa fun W => yds l[k].1 l[k].2.1 l[k].2.2 W
   by_cases hm : rmay l[k] = true
   ·have e1 : rchk (l[k].1, l[k].2.1, l[k].2.2) = 0 := (yb7 hm).1
    rw [e1] at hchk
    by_cases hk0 : k = 0
    ·subst hk0
     have H1 := qaa (rrow_first hkl hm)
     clear d0 d1 d2 e1 hm hcell HR H0
     rw [qcy, qbr] at c0 c1 c2
     generalize l[0].1 = x at *
     generalize l[0].2.1 = y at *
     generalize l[0].2.2 = d at *
     go_wp2_with (go_at_call 139; (with_reducible refine (hchk.out _).mono ?_); rintro e w1 ⟨rfl, hb1⟩; have HB1 := qaa (HB.out.trans (hb1.mono HB.out.size)); clear hb1 hchk)
     go_quiet (fail)
     go_wp2
     go_roundw
     case rel => exact ⟨1, by omega, iv (by omega), H1, qaa (yaj HB1.out _)⟩
     case measure => simp only [intOf]; omega
    ·obtain ⟨p, hp⟩ : ∃ p, p + 1 = k := ⟨k - 1, by omega⟩
     obtain ⟨hpl, u0, u1, hord, hnext⟩ := rrow_step hp hkl HR.out hm
     obtain ⟨q0, q1, q2⟩ := hcell p hpl
     have hsub : (k : Int) - 1 = (p : Int) := by omega
     have hsub1 : IntKind.i64.wrap ((k : Int) - 1) = (p : Int) := by rw [qai]; omega
     have hsub2 : IntKind.i64.wrap (p : Int) = (p : Int) := by rw [qai]; omega
     have hpk : (0 : Int) ≤ (p : Int) ∧ (p : Int) < (n : Int) := by omega
     have hgt : decide ((0 : Int) < (k : Int)) = true := qaP (by omega)
     have hgt2 : decide (0 < k) = true := qaP (by omega)
     have hgt3 : 0 < k := by omega
     have hwr : IntKind.i64.wrap (l[p].1 + 1) = l[p].1 + 1 := by rw [qai]; omega
     have Hord := qaa hord
     have Hnext := qaa hnext
     have Q0 := qaa q0
     have Q1 := qaa q1
     have Hp := qaa hp
     clear d0 d1 d2 q0 q1 q2 e1 hm hcell HR H0 hord hnext hp hk0 u0 u1
     generalize l[k].1 = x at *
     generalize l[k].2.1 = y at *
     generalize l[k].2.2 = d at *
     generalize l[p].1 = u at *
     generalize l[p].2.1 = v at *
     by_cases a1 : x = u + 1
     ·subst a1
      by_cases a2 : y < v
      ·have b2 : decide (y < v) = true := qaP a2
       have HF := qaa (Hord.out (fun h => by omega))
       clear Hord Hnext
       go_wp2_with (go_at_call 139; (with_reducible refine (hchk.out _).mono ?_); rintro e w1 ⟨rfl, hb1⟩; have HB1 := qaa (HB.out.trans (hb1.mono HB.out.size)); have y0 := (HB1.out.cell (p := ⟨b, off + p * 3, none⟩) hb).trans Q0.out; have y1 := (HB1.out.cell (p := ⟨b, off + p * 3 + 1, none⟩) hb).trans Q1.out; have z0 := (hb1.cell (p := ⟨b, off + k * 3, none⟩) (qaM hb HB.out.size)).trans c0; have z1 := (hb1.cell (p := ⟨b, off + k * 3 + 1, none⟩) (qaM hb HB.out.size)).trans c1; clear hb1 hchk)
       go_quiet (fail)
       go_wp2
       go_ret
       exact ⟨by rw [HF.out]; rfl, yaj HB1.out _⟩
      ·have b2 : decide (y < v) = false := qaU a2
       have H1 := qaa (Hnext.out ⟨rfl, by omega⟩)
       clear Hord Hnext
       go_wp2_with (go_at_call 139; (with_reducible refine (hchk.out _).mono ?_); rintro e w1 ⟨rfl, hb1⟩; have HB1 := qaa (HB.out.trans (hb1.mono HB.out.size)); have y0 := (HB1.out.cell (p := ⟨b, off + p * 3, none⟩) hb).trans Q0.out; have y1 := (HB1.out.cell (p := ⟨b, off + p * 3 + 1, none⟩) hb).trans Q1.out; have z0 := (hb1.cell (p := ⟨b, off + k * 3, none⟩) (qaM hb HB.out.size)).trans c0; have z1 := (hb1.cell (p := ⟨b, off + k * 3 + 1, none⟩) (qaM hb HB.out.size)).trans c1; clear hb1 hchk)
       go_quiet (fail)
       go_wp2
       go_roundw
       case rel => exact ⟨k + 1, by omega, iv (by omega), H1, qaa (yaj HB1.out _)⟩
       case measure => simp only [intOf]; omega
     ·have b1 : (x == u + 1) = false := qbw.2 a1
      have HF := qaa (Hord.out (fun h => a1 h.1))
      clear Hord Hnext
      go_wp2_with (go_at_call 139; (with_reducible refine (hchk.out _).mono ?_); rintro e w1 ⟨rfl, hb1⟩; have HB1 := qaa (HB.out.trans (hb1.mono HB.out.size)); have y0 := (HB1.out.cell (p := ⟨b, off + p * 3, none⟩) hb).trans Q0.out; have y1 := (HB1.out.cell (p := ⟨b, off + p * 3 + 1, none⟩) hb).trans Q1.out; have z0 := (hb1.cell (p := ⟨b, off + k * 3, none⟩) (qaM hb HB.out.size)).trans c0; have z1 := (hb1.cell (p := ⟨b, off + k * 3 + 1, none⟩) (qaM hb HB.out.size)).trans c1; clear hb1 hchk)
      go_quiet (fail)
      go_wp2
      go_ret
      exact ⟨by rw [HF.out]; rfl, yaj HB1.out _⟩
   ·have e1 : rchk (l[k].1, l[k].2.1, l[k].2.2) = 150 := (ybH hm).1
    rw [e1] at hchk
    have HF := qaa (rrow_bad hkl HR.out hm)
    clear d0 d1 d2 e1 hm hcell HR H0
    generalize l[k].1 = x at *
    generalize l[k].2.1 = y at *
    generalize l[k].2.2 = d at *
    go_wp2_with (go_at_call 139; (with_reducible refine (hchk.out _).mono ?_); rintro e w1 ⟨rfl, hb1⟩; have HB1 := qaa (HB.out.trans (hb1.mono HB.out.size)); clear hb1 hchk)
    go_ret
    exact ⟨by rw [HF.out]; rfl, HB1.out⟩
  ·obtain rfl : k = n := by omega
   have e : ya9 l = 0 := by
    have h := HR.out
    rwa [qax (by have := Hl.out; omega)] at h
   have HF := qaa e
   clear e
   go_wp2
   go_ret
   exact ⟨by rw [HF.out]; rfl, HB.out⟩
structure RRow (w W : World) (g b o : Nat) (x y : Int) (d : List UInt8) (u v : Int) (e : List UInt8) : Prop where
 own : Blk W g 54 #[.int .i64 x, .int .i64 y, .string ⟨d.toArray⟩]
 c0 : W.cell? ⟨b, o, none⟩ = some (.int .i64 u)
 c1 : W.cell? ⟨b, o + 1, none⟩ = some (.int .i64 v)
 c2 : W.cell? ⟨b, o + 2, none⟩ = some (.string ⟨e.toArray⟩)
 lt : b < W.heap.size
 below : Below w.heap.size w W
theorem RRow.next {w W W' : World} {g b o : Nat} {x y : Int} {d : List UInt8} {u v : Int} {e : List UInt8} (h : RRow w W g b o x y d u v e) (hb : Below W.heap.size W W') : RRow w W' g b o x y d u v e :=
 ⟨h.own.below hb h.own.lt, (hb.cell (p := ⟨b, o, none⟩) h.lt).trans h.c0, (hb.cell (p := ⟨b, o + 1, none⟩) h.lt).trans h.c1, (hb.cell (p := ⟨b, o + 2, none⟩) h.lt).trans h.c2, qaM h.lt hb.size, h.below.trans (hb.mono h.below.size)⟩
theorem p_rrow_any (l : List Rc) (A : Option Addr) (n c : Nat) (w : World) (hl : l.length = n) (hn : n ≤ 1000000) (hr : Reads w w.heap.size 3 A n (rcs l)) :
  Calls prog 33 #[.slice A n c] w fun e w' => e = .returned (.int .i64 (ya9 l)) ∧ Below w.heap.size w w' := by
 have Hc := qaa (yaX hr hl)
 have Hl := qaa hl
 have H0 : Hid (ya9 (l.take 0) = 0) := qaa rfl
 clear hr hl
 go_enter func33, ntmps33
 go_wp2
 go_step3
 go_wp2
 go_step3
 go_wp2
 go_loopw [3, 8] (fun ev i wr => ∃ k : Nat, k ≤ n ∧ i = .int .i64 (k : Int) ∧ ev = .int .i64 0 ∧ Hid (ya9 (l.take k) = 0) ∧ Hid (Below w.heap.size w wr)) (fun _ i _ => n - (intOf i).toNat)
 case atStart => exact ⟨0, by omega, rfl, rfl, H0, qaa (qaj _ _)⟩
 case round =>
  obtain ⟨k, hk, rfl, rfl, HR, HB⟩ := hrel
  by_cases hlt : k < n
  ·have hkl : k < l.length := by have := Hl.out; omega
   obtain ⟨b, off, rfl, hb, hcell⟩ := Hc.out k hlt
   obtain ⟨d0, d1, d2⟩ := hcell k hkl
   have c0 := (HB.out.cell (p := ⟨b, off + k * 3, none⟩) hb).trans d0
   have c1 := (HB.out.cell (p := ⟨b, off + k * 3 + 1, none⟩) hb).trans d1
   have c2 := (HB.out.cell (p := ⟨b, off + k * 3 + 2, none⟩) hb).trans d2
   have hki : (0 : Int) ≤ (k : Int) ∧ (k : Int) < (n : Int) := by omega
   have hchk := qaa fun W => yeY l[k].1 l[k].2.1 l[k].2.2 W
   by_cases hm : rmay l[k] = true
   ·have e1 : rchk (l[k].1, l[k].2.1, l[k].2.2) = 0 := (yb7 hm).1
    rw [e1] at hchk
    by_cases hk0 : k = 0
    ·subst hk0
     have H1 := qaa (rrow_first hkl hm)
     clear d0 d1 d2 e1 hm hcell HR H0
     rw [qcy, qbr] at c0 c1 c2
     generalize l[0].1 = x at *
     generalize l[0].2.1 = y at *
     generalize l[0].2.2 = d at *
     have HX := qaa (Blk.new wr 54 #[.int .i64 x, .int .i64 y, .string ⟨d.toArray⟩])
     have HA := qaa (HB.out.alloc HB.out.size (.cells #[.int .i64 x, .int .i64 y, .string ⟨d.toArray⟩] 54))
     go_wp2_with (go_at_call 57; (with_reducible refine (hchk.out _).mono ?_); rintro e w1 ⟨rfl, hb1⟩; have HB1 := qaa (HA.out.trans (hb1.mono HA.out.size)); have x0 : w1.cell? ⟨wr.heap.size, 0, none⟩ = some (.int .i64 x) := (HX.out.below hb1 HX.out.lt).cell 0; clear hb1 hchk)
     go_quiet (fail)
     go_wp2
     go_roundw
     case rel => exact ⟨1, by omega, iv (by omega), rfl, H1, qaa (yaj HB1.out _)⟩
     case measure => simp only [intOf]; omega
    ·obtain ⟨p, hp⟩ : ∃ p, p + 1 = k := ⟨k - 1, by omega⟩
     obtain ⟨hpl, u0, u1, hord, hnext⟩ := rrow_step hp hkl HR.out hm
     obtain ⟨q0, q1, q2⟩ := hcell p hpl
     have hsub : (k : Int) - 1 = (p : Int) := by omega
     have hsub1 : IntKind.i64.wrap ((k : Int) - 1) = (p : Int) := by rw [qai]; omega
     have hsub2 : IntKind.i64.wrap (p : Int) = (p : Int) := by rw [qai]; omega
     have hpk : (0 : Int) ≤ (p : Int) ∧ (p : Int) < (n : Int) := by omega
     have hgt : decide ((0 : Int) < (k : Int)) = true := qaP (by omega)
     have hgt2 : decide (0 < k) = true := qaP (by omega)
     have hgt3 : 0 < k := by omega
     have Hord := qaa hord
     have Hnext := qaa hnext
     have Q0 := qaa q0
     have Q1 := qaa q1
     have Q2 := qaa q2
     have Hp := qaa hp
     have Hub := qaa (And.intro u0 u1)
     clear d0 d1 d2 q0 q1 q2 e1 hm hcell HR H0 hord hnext hp hk0 u0 u1
     generalize l[k].1 = x at *
     generalize l[k].2.1 = y at *
     generalize l[k].2.2 = d at *
     generalize l[p].1 = u at *
     generalize l[p].2.1 = v at *
     generalize l[p].2.2 = e2 at *
     obtain ⟨m, hm⟩ : ∃ m, (v < y ∧ m = y) ∨ (y ≤ v ∧ m = v) := by
      by_cases h : v < y
      ·exact ⟨y, qat ⟨h, rfl⟩⟩
      ·exact ⟨v, qaT ⟨by omega, rfl⟩⟩
     have Hbh := qaa fun W => p_behind_any x y u v m d e2 W Hub.out.1 Hub.out.2 hm
     have heq := fun W => rrec_equal x y (u + 1) m d d W
     have hgu := rrec_guard
     obtain ⟨r, hr⟩ : ∃ r, decide (x = u + 1 ∧ y = m ∧ d = d) = r := ⟨_, rfl⟩
     rw [hr] at heq
     have HX := qaa (Blk.new wr 54 #[.int .i64 x, .int .i64 y, .string ⟨d.toArray⟩])
     have HA := qaa (HB.out.alloc HB.out.size (.cells #[.int .i64 x, .int .i64 y, .string ⟨d.toArray⟩] 54))
     have Hr : Hid (r = true ↔ (x = u + 1 ∧ v ≤ y)) := qaa (by rw [← hr, qbq]; exact ⟨fun h => ⟨h.1, by have := h.2.1; omega⟩, fun h => ⟨h.1, by have := h.2; omega, rfl⟩⟩)
     clear hm hr
     cases r
     ·have HF := qaa (Hord.out fun h => by have := Hr.out.2 h; cases this)
      clear Hord Hnext Hr
      go_wp2_with (go_at_call 57; (with_reducible refine (hchk.out _).mono ?_); rintro e w1 ⟨rfl, hb1⟩; have HB1 := qaa (HA.out.trans (hb1.mono HA.out.size)); have HS1 : Hid (RRow w w1 wr.heap.size b (off + p * 3) x y d u v e2) := qaa ⟨HX.out.below hb1 HX.out.lt, (HB1.out.cell (p := ⟨b, off + p * 3, none⟩) hb).trans Q0.out, (HB1.out.cell (p := ⟨b, off + p * 3 + 1, none⟩) hb).trans Q1.out, (HB1.out.cell (p := ⟨b, off + p * 3 + 2, none⟩) hb).trans Q2.out, qaM hb HB1.out.size, HB1.out⟩; clear hb1 hchk)
-- REG
      refine qb4 (S := (fun W => RRow w W wr.heap.size b (off + p * 3) x y d u v e2)) (by kernel_rfl) (HS1.out.next ((qaj _ _).drew)) (fun hHeld => ?_)
      refine qal (i := 0) (oi := _) (v := ?_) rfl (by kernel_rfl) (by kernel_rfl) (by kernel_rfl) (fun _ _ _ h => h) (qat ⟨by rfl, ?_⟩) hHeld ?_
      rotate_left
      ·(intro wz hSw; go_simp; try (with_reducible rfl))
      try dsimp only [List.getElem_toArray, List.getElem_cons_zero, List.getElem_cons_succ]
      try simp only [Act.put, qab, qad, qac]
      refine qal (i := 1) (oi := _) (v := ?_) rfl (by kernel_rfl) (by kernel_rfl) (by kernel_rfl) (fun _ _ _ h => h) (qat ⟨by rfl, ?_⟩) hHeld ?_
      rotate_left
      ·(intro wz hSw; go_simp; try (with_reducible rfl))
      try dsimp only [List.getElem_toArray, List.getElem_cons_zero, List.getElem_cons_succ]
      try simp only [Act.put, qab, qad, qac]
      refine qal (i := 2) (oi := _) (v := ?_) rfl (by kernel_rfl) (by kernel_rfl) (by kernel_rfl) (fun _ _ _ h => h) (qat ⟨by rfl, ?_⟩) hHeld ?_
      rotate_left
      ·(intro wz hSw; go_simp; try (with_reducible rfl))
      try dsimp only [List.getElem_toArray, List.getElem_cons_zero, List.getElem_cons_succ]
      try simp only [Act.put, qab, qad, qac]
      refine qal (i := 3) (oi := _) (v := ?_) rfl (by kernel_rfl) (by kernel_rfl) (by kernel_rfl) (fun _ _ _ h => h) (qat ⟨by rfl, ?_⟩) hHeld ?_
      rotate_left
      ·(intro wz hSw; have k0 := hSw.own.cell 0; have k1 := hSw.own.cell 1; have k2 := hSw.own.cell 2; simp only [qaq, qaH, qa8] at k0 k1 k2; go_simp; try (with_reducible rfl))
      try dsimp only [List.getElem_toArray, List.getElem_cons_zero, List.getElem_cons_succ]
      try simp only [Act.put, qab, qad, qac]
      refine qal (i := 9) (oi := _) (v := ?_) rfl (by kernel_rfl) (by kernel_rfl) (by kernel_rfl) (fun _ _ _ h => h) (qat ⟨by rfl, ?_⟩) hHeld ?_
      rotate_left
      ·(intro wz hSw; have k0 := hSw.own.cell 0; have k1 := hSw.own.cell 1; have k2 := hSw.own.cell 2; simp only [qaq, qaH, qa8] at k0 k1 k2; go_simp; try (with_reducible rfl))
      try dsimp only [List.getElem_toArray, List.getElem_cons_zero, List.getElem_cons_succ]
      try simp only [Act.put, qab, qad, qac]
      refine qal (i := 4) (oi := _) (v := ?_) rfl (by kernel_rfl) (by kernel_rfl) (by kernel_rfl) (fun _ _ _ h => h) (qat ⟨by rfl, ?_⟩) hHeld ?_
      rotate_left
      ·(intro wz hSw; go_simp; try (with_reducible rfl))
      try dsimp only [List.getElem_toArray, List.getElem_cons_zero, List.getElem_cons_succ]
      try simp only [Act.put, qab, qad, qac]
      refine qal (i := 5) (oi := _) (v := ?_) rfl (by kernel_rfl) (by kernel_rfl) (by kernel_rfl) (fun _ _ _ h => h) (qat ⟨by rfl, ?_⟩) hHeld ?_
      rotate_left
      ·(intro wz hSw; go_simp; try (with_reducible rfl))
      try dsimp only [List.getElem_toArray, List.getElem_cons_zero, List.getElem_cons_succ]
      try simp only [Act.put, qab, qad, qac]
      refine qal (i := 6) (oi := _) (v := ?_) rfl (by kernel_rfl) (by kernel_rfl) (by kernel_rfl) (fun _ _ _ h => h) (qat ⟨by rfl, ?_⟩) hHeld ?_
      rotate_left
      ·(intro wz hSw; go_simp; try (with_reducible rfl))
      try dsimp only [List.getElem_toArray, List.getElem_cons_zero, List.getElem_cons_succ]
      try simp only [Act.put, qab, qad, qac]
      refine qal (i := 7) (oi := _) (v := ?_) rfl (by kernel_rfl) (by kernel_rfl) (by kernel_rfl) (fun _ _ _ h => h) (qat ⟨by rfl, ?_⟩) hHeld ?_
      rotate_left
      ·(intro wz hSw; go_simp; try (with_reducible rfl))
      try dsimp only [List.getElem_toArray, List.getElem_cons_zero, List.getElem_cons_succ]
      try simp only [Act.put, qab, qad, qac]
      refine qal (i := 8) (oi := _) (v := ?_) rfl (by kernel_rfl) (by kernel_rfl) (by kernel_rfl) (fun _ _ _ h => h) (qat ⟨by rfl, ?_⟩) hHeld ?_
      rotate_left
      ·(intro wz hSw; have k0 := hSw.c0; have k1 := hSw.c1; have k2 := hSw.c2; go_simp; try (with_reducible rfl))
      try dsimp only [List.getElem_toArray, List.getElem_cons_zero, List.getElem_cons_succ]
      try simp only [Act.put, qab, qad, qac]
      refine qaB (rs := [10]) (by kernel_rfl) (by simp) ?_
      refine qav (o := _) rfl (fun K hK => ?_) qa4
      go_simp
      go_at_call 60
      (with_reducible refine (Hbh.out _).mono ?_)
      rintro e w2 ⟨rfl, hb1⟩
      refine hK.out _ _ (hHeld.next hb1) (fun hH => ?_)
      clear hHeld hK K hb1
      have hHeld := hH
      clear hH
      try dsimp only [List.getElem_toArray, List.getElem_cons_zero, List.getElem_cons_succ]
      try simp only [Act.put, qab, qad, qac]
      refine qal (i := 11) (oi := _) (v := ?_) rfl (by kernel_rfl) (by kernel_rfl) (by kernel_rfl) (fun _ _ _ h => h) (qat ⟨by rfl, ?_⟩) hHeld ?_
      rotate_left
      ·(intro wz hSw; go_simp; try (with_reducible rfl))
      try dsimp only [List.getElem_toArray, List.getElem_cons_zero, List.getElem_cons_succ]
      try simp only [Act.put, qab, qad, qac]
      refine qal (i := 12) (oi := _) (v := ?_) rfl (by kernel_rfl) (by kernel_rfl) (by kernel_rfl) (fun _ _ _ h => h) (qat ⟨by rfl, ?_⟩) hHeld ?_
      rotate_left
      ·(intro wz hSw; go_simp; try (with_reducible rfl))
      try dsimp only [List.getElem_toArray, List.getElem_cons_zero, List.getElem_cons_succ]
      try simp only [Act.put, qab, qad, qac]
      refine qal (i := 13) (oi := _) (v := ?_) rfl (by kernel_rfl) (by kernel_rfl) (by kernel_rfl) (fun _ _ _ h => h) (qat ⟨by rfl, ?_⟩) hHeld ?_
      rotate_left
      ·(intro wz hSw; go_simp; try (with_reducible rfl))
      try dsimp only [List.getElem_toArray, List.getElem_cons_zero, List.getElem_cons_succ]
      try simp only [Act.put, qab, qad, qac]
      refine qb3 (by kernel_rfl) ?_ _
      have HB2 := qaa hHeld.below
      clear hHeld HS1
      go_wp2
      rw [qbN]
      go_ret
      exact ⟨by rw [HF.out]; rfl, HB2.out⟩
-- END REG
     ·have H1 := qaa (Hnext.out (Hr.out.1 rfl))
      clear Hord Hnext Hr
      go_wp2_with (go_at_call 57; (with_reducible refine (hchk.out _).mono ?_); rintro e w1 ⟨rfl, hb1⟩; have HB1 := qaa (HA.out.trans (hb1.mono HA.out.size)); have HS1 : Hid (RRow w w1 wr.heap.size b (off + p * 3) x y d u v e2) := qaa ⟨HX.out.below hb1 HX.out.lt, (HB1.out.cell (p := ⟨b, off + p * 3, none⟩) hb).trans Q0.out, (HB1.out.cell (p := ⟨b, off + p * 3 + 1, none⟩) hb).trans Q1.out, (HB1.out.cell (p := ⟨b, off + p * 3 + 2, none⟩) hb).trans Q2.out, qaM hb HB1.out.size, HB1.out⟩; clear hb1 hchk)
-- REG
      refine qb4 (S := (fun W => RRow w W wr.heap.size b (off + p * 3) x y d u v e2)) (by kernel_rfl) (HS1.out.next ((qaj _ _).drew)) (fun hHeld => ?_)
      refine qal (i := 0) (oi := _) (v := ?_) rfl (by kernel_rfl) (by kernel_rfl) (by kernel_rfl) (fun _ _ _ h => h) (qat ⟨by rfl, ?_⟩) hHeld ?_
      rotate_left
      ·(intro wz hSw; go_simp; try (with_reducible rfl))
      try dsimp only [List.getElem_toArray, List.getElem_cons_zero, List.getElem_cons_succ]
      try simp only [Act.put, qab, qad, qac]
      refine qal (i := 1) (oi := _) (v := ?_) rfl (by kernel_rfl) (by kernel_rfl) (by kernel_rfl) (fun _ _ _ h => h) (qat ⟨by rfl, ?_⟩) hHeld ?_
      rotate_left
      ·(intro wz hSw; go_simp; try (with_reducible rfl))
      try dsimp only [List.getElem_toArray, List.getElem_cons_zero, List.getElem_cons_succ]
      try simp only [Act.put, qab, qad, qac]
      refine qal (i := 2) (oi := _) (v := ?_) rfl (by kernel_rfl) (by kernel_rfl) (by kernel_rfl) (fun _ _ _ h => h) (qat ⟨by rfl, ?_⟩) hHeld ?_
      rotate_left
      ·(intro wz hSw; go_simp; try (with_reducible rfl))
      try dsimp only [List.getElem_toArray, List.getElem_cons_zero, List.getElem_cons_succ]
      try simp only [Act.put, qab, qad, qac]
      refine qal (i := 3) (oi := _) (v := ?_) rfl (by kernel_rfl) (by kernel_rfl) (by kernel_rfl) (fun _ _ _ h => h) (qat ⟨by rfl, ?_⟩) hHeld ?_
      rotate_left
      ·(intro wz hSw; have k0 := hSw.own.cell 0; have k1 := hSw.own.cell 1; have k2 := hSw.own.cell 2; simp only [qaq, qaH, qa8] at k0 k1 k2; go_simp; try (with_reducible rfl))
      try dsimp only [List.getElem_toArray, List.getElem_cons_zero, List.getElem_cons_succ]
      try simp only [Act.put, qab, qad, qac]
      refine qal (i := 9) (oi := _) (v := ?_) rfl (by kernel_rfl) (by kernel_rfl) (by kernel_rfl) (fun _ _ _ h => h) (qat ⟨by rfl, ?_⟩) hHeld ?_
      rotate_left
      ·(intro wz hSw; have k0 := hSw.own.cell 0; have k1 := hSw.own.cell 1; have k2 := hSw.own.cell 2; simp only [qaq, qaH, qa8] at k0 k1 k2; go_simp; try (with_reducible rfl))
      try dsimp only [List.getElem_toArray, List.getElem_cons_zero, List.getElem_cons_succ]
      try simp only [Act.put, qab, qad, qac]
      refine qal (i := 4) (oi := _) (v := ?_) rfl (by kernel_rfl) (by kernel_rfl) (by kernel_rfl) (fun _ _ _ h => h) (qat ⟨by rfl, ?_⟩) hHeld ?_
      rotate_left
      ·(intro wz hSw; go_simp; try (with_reducible rfl))
      try dsimp only [List.getElem_toArray, List.getElem_cons_zero, List.getElem_cons_succ]
      try simp only [Act.put, qab, qad, qac]
      refine qal (i := 5) (oi := _) (v := ?_) rfl (by kernel_rfl) (by kernel_rfl) (by kernel_rfl) (fun _ _ _ h => h) (qat ⟨by rfl, ?_⟩) hHeld ?_
      rotate_left
      ·(intro wz hSw; go_simp; try (with_reducible rfl))
      try dsimp only [List.getElem_toArray, List.getElem_cons_zero, List.getElem_cons_succ]
      try simp only [Act.put, qab, qad, qac]
      refine qal (i := 6) (oi := _) (v := ?_) rfl (by kernel_rfl) (by kernel_rfl) (by kernel_rfl) (fun _ _ _ h => h) (qat ⟨by rfl, ?_⟩) hHeld ?_
      rotate_left
      ·(intro wz hSw; go_simp; try (with_reducible rfl))
      try dsimp only [List.getElem_toArray, List.getElem_cons_zero, List.getElem_cons_succ]
      try simp only [Act.put, qab, qad, qac]
      refine qal (i := 7) (oi := _) (v := ?_) rfl (by kernel_rfl) (by kernel_rfl) (by kernel_rfl) (fun _ _ _ h => h) (qat ⟨by rfl, ?_⟩) hHeld ?_
      rotate_left
      ·(intro wz hSw; go_simp; try (with_reducible rfl))
      try dsimp only [List.getElem_toArray, List.getElem_cons_zero, List.getElem_cons_succ]
      try simp only [Act.put, qab, qad, qac]
      refine qal (i := 8) (oi := _) (v := ?_) rfl (by kernel_rfl) (by kernel_rfl) (by kernel_rfl) (fun _ _ _ h => h) (qat ⟨by rfl, ?_⟩) hHeld ?_
      rotate_left
      ·(intro wz hSw; have k0 := hSw.c0; have k1 := hSw.c1; have k2 := hSw.c2; go_simp; try (with_reducible rfl))
      try dsimp only [List.getElem_toArray, List.getElem_cons_zero, List.getElem_cons_succ]
      try simp only [Act.put, qab, qad, qac]
      refine qaB (rs := [10]) (by kernel_rfl) (by simp) ?_
      refine qav (o := _) rfl (fun K hK => ?_) qa4
      go_simp
      go_at_call 60
      (with_reducible refine (Hbh.out _).mono ?_)
      rintro e w2 ⟨rfl, hb1⟩
      refine hK.out _ _ (hHeld.next hb1) (fun hH => ?_)
      clear hHeld hK K hb1
      have hHeld := hH
      clear hH
      try dsimp only [List.getElem_toArray, List.getElem_cons_zero, List.getElem_cons_succ]
      try simp only [Act.put, qab, qad, qac]
      refine qal (i := 11) (oi := _) (v := ?_) rfl (by kernel_rfl) (by kernel_rfl) (by kernel_rfl) (fun _ _ _ h => h) (qat ⟨by rfl, ?_⟩) hHeld ?_
      rotate_left
      ·(intro wz hSw; go_simp; try (with_reducible rfl))
      try dsimp only [List.getElem_toArray, List.getElem_cons_zero, List.getElem_cons_succ]
      try simp only [Act.put, qab, qad, qac]
      refine qal (i := 12) (oi := _) (v := ?_) rfl (by kernel_rfl) (by kernel_rfl) (by kernel_rfl) (fun _ _ _ h => h) (qat ⟨by rfl, ?_⟩) hHeld ?_
      rotate_left
      ·(intro wz hSw; go_simp; try (with_reducible rfl))
      try dsimp only [List.getElem_toArray, List.getElem_cons_zero, List.getElem_cons_succ]
      try simp only [Act.put, qab, qad, qac]
      refine qal (i := 13) (oi := _) (v := ?_) rfl (by kernel_rfl) (by kernel_rfl) (by kernel_rfl) (fun _ _ _ h => h) (qat ⟨by rfl, ?_⟩) hHeld ?_
      rotate_left
      ·(intro wz hSw; go_simp; try (with_reducible rfl))
      try dsimp only [List.getElem_toArray, List.getElem_cons_zero, List.getElem_cons_succ]
      try simp only [Act.put, qab, qad, qac]
      refine qb3 (by kernel_rfl) ?_ _
      have HB2 := qaa hHeld.below
      clear hHeld HS1
      go_wp2
      go_roundw
      case rel => exact ⟨k + 1, by omega, iv (by omega), rfl, H1, HB2⟩
      case measure => simp only [intOf]; omega
-- END REG
   ·have e1 : rchk (l[k].1, l[k].2.1, l[k].2.2) = 150 := (ybH hm).1
    rw [e1] at hchk
    have HF := qaa (rrow_bad hkl HR.out hm)
    clear d0 d1 d2 e1 hm hcell HR H0
    generalize l[k].1 = x at *
    generalize l[k].2.1 = y at *
    generalize l[k].2.2 = d at *
    have HA := qaa (HB.out.alloc HB.out.size (.cells #[.int .i64 x, .int .i64 y, .string ⟨d.toArray⟩] 54))
    go_wp2_with (go_at_call 57; (with_reducible refine (hchk.out _).mono ?_); rintro e w1 ⟨rfl, hb1⟩; have HB1 := qaa (HA.out.trans (hb1.mono HA.out.size)); clear hb1 hchk)
    rw [qbN]
    go_ret
    exact ⟨by rw [HF.out]; rfl, HB1.out⟩
  ·obtain rfl : k = n := by omega
   have e : ya9 l = 0 := by
    have h := HR.out
    rwa [qax (by have := Hl.out; omega)] at h
   have HF := qaa e
   clear e
   go_wp2
   rw [qbN]
   go_ret
   exact ⟨by rw [HF.out]; rfl, HB.out⟩
theorem ydO (l : List Int) (A : Option Addr) (n c : Nat) (w : World) (hm : n ≤ 1000000) (hr : Reads w w.heap.size 1 A n (ints l)) :
  Calls prog 102 #[.slice A n c] w fun e w' => HCPost w w' e (hcF l) := by
 have en : l.length = n := by have := hr.1; rw [yae] at this; omega
 have hni : (n : Int) ≤ 1000000 := by omega
 by_cases hbig : 100000 < n
 ·rw [hc_big (by omega)]
  have hb1 : (100000 : Int) < (n : Int) := by omega
  clear hr
  go_enter func102, ntmps102
  go_wp2
  go_ret2
  exact ybr (qaj _ _)
 have hb1 : ¬ (100000 : Int) < (n : Int) := by omega
 have hbl : ¬ 100000 < l.length := by omega
 obtain ⟨C, hC⟩ : ∃ C : Nat → List Value, HCells l C := ⟨_, hcells l⟩
 have hmk := fun w => tmk_ints 257 257 rfl (by decide) w
 rw [← hC.zero] at hmk
 have HC := qaa hC
 have Hcell : Hid (∀ W, Below w.heap.size w W → ∀ k (hk : k < l.length), ∃ b off, A = some ⟨b, off, none⟩ ∧ W.cell? ⟨b, off + k, none⟩ = some (.int .i64 l[k])) := qaa fun W hW k hk => by
  obtain ⟨b, off, e, hb, hc⟩ := hr.2 (by omega)
  exact ⟨b, off, e, (hW.cell (p := ⟨b, off + k, none⟩) hb).trans (hc k _ (yak l k hk))⟩
 have En := qaa en
 have Hbl := qaa hbl
 have HB0 := qaa (Blk.new w 3 (C 0).toArray)
 have HO0 := qaa ((qaj w.heap.size w).alloc (qaf _) (.cells (C 0).toArray 3))
 clear hr hC en hbl
 generalize hg : w.heap.size = g at *
 go_enter func102, ntmps102
 go_wp2
 go_loopw [6, 13] (fun xv i wr => ∃ k : Nat, k ≤ n ∧ i = .int .i64 k ∧ Hid (hin (l.take k) = true) ∧ Hid (Blk wr g 3 (C k).toArray) ∧ Hid (Below g w wr)) (fun _ i _ => n - (intOf i).toNat)
 case atStart => exact ⟨0, by omega, rfl, qaa rfl, HB0, HO0⟩
 case round =>
  obtain ⟨k, hk, rfl, Hin, HB, HO⟩ := hrel
  clear HB0 HO0 hmk
  by_cases hlt : k < n
  ·have hki : (k : Int) < (n : Int) := by omega
   have hkl : k < l.length := by rw [En.out]; exact hlt
   obtain ⟨b, off, rfl, x1⟩ := Hcell.out wr HO.out k hkl
   obtain ⟨x, hx⟩ : ∃ x, l[k] = x := ⟨_, rfl⟩
   rw [hx] at x1
   by_cases hin0 : 0 ≤ x ∧ x ≤ 256
   ·obtain ⟨s, rfl⟩ := qaK hin0.1
    have hsi : (0 : Int) ≤ (s : Int) ∧ (s : Int) < 257 ∧ (s : Int) ≤ 256 := by omega
    obtain ⟨v, hv1, hv2, hv3⟩ := HC.out.get k s (by omega)
    have x2 : wr.cell? ⟨g, s, none⟩ = some (.int .i64 (v : Int)) := by rw [HB.out.cell]; exact hv2
    have x3 := HB.out.frozen s
    have Hset := qaa (hv3 hkl hx)
    have Hin2 := qaa (hin_take k hkl Hin.out (by rw [hx]; exact hin0))
    have hvi : (0 : Int) ≤ (v : Int) ∧ (v : Int) ≤ 1000000 := by omega
    have hgl := HB.out.lt
    clear hx hv2 hv3 hin0 hkl
    go_wp2
    go_roundw
    case rel =>
     refine ⟨k + 1, by omega, iv (by omega), Hin2, qaa ?_, qaa ?_⟩
     ·rw [← Hset.out]
      exact HB.out.set_ s _
     ·exact HO.out.setCell (p := ⟨g, s, none⟩) (qaf _) _
    case measure => simp only [intOf]; omega
   ·have Hf := qaa (hc_none Hbl.out k hkl (by rw [hx]; exact hin0))
    by_cases h0 : 0 ≤ x
    ·have h1 : ¬ x ≤ 256 := by omega
     clear hx hkl
     go_wp2
     go_ret2
     rw [Hf.out]
     subst hg
     exact ybr HO.out
    ·clear hx hkl
     go_wp2
     go_ret2
     rw [Hf.out]
     subst hg
     exact ybr HO.out
  ·obtain rfl : k = n := by omega
   have hii : ¬ (k : Int) < (k : Int) := by omega
   have hin2 := Hin.out
   rw [qax (by rw [En.out]; exact qaf _)] at hin2
   have Hf := qaa (hc_all Hbl.out hin2)
   have hlast := HC.out.last
   rw [En.out] at hlast
   have HB2 : Hid (Blk wr g 3 (ints (ya4 l)).toArray) := qaa (by rw [← hlast]; exact HB.out)
   clear hin2 hlast
   go_wp2
   go_ret2
   rw [Hf.out]
   subst hg
   exact hcpost_row (yat l) HB2.out HO.out
theorem c_put_yes (ls : List Nat) (B Bw g gw : Nat) (v : Value) (R : List Nat) (s : Int) (w : World) (h : CCode w B g ls) (hl : ls.length ≤ 1000000) (hE : (yaD (wat ls 16 0) s).2 = 0) (hf : ∀ f ∈ wat ls 16 0, fits f.1 f.2) (hH : WHold w Bw gw v R) (hB : Bw ≤ w.heap.size) (hR : R.length ≤ 1099511627776) :
  Calls prog 64 #[.pointer (some ⟨g, 0, none⟩), .pointer (some ⟨gw, 0, none⟩), .int .i64 s] w fun e w' => e = .returned (.int .i64 0) ∧ ∃ v', WHold w' Bw gw v' (R ++ (yaD (wat ls 16 0) s).1) ∧ Touch w w' (WS gw v) ∧ Sep w v v' := by
 have hmf : ∀ (fn : Fn) (first cap : Array Value) (w : World), (Instr.makeFunc fn first cap).run prog w = .ok (.func fn first cap) w := fun _ _ _ _ => rfl
 have hy := c_hand_yes ls B Bw g gw v R s w h hl ((pword_ref (wat ls 16 0) s).1.trans hE) hf hH hB hR
 unfold cputV at hy
 have Hy := qaa hy
 clear h hE hf hH hB hR hy
 generalize R ++ (yaD (wat ls 16 0) s).1 = R2 at *
 go_enter func64, ntmps64
 go_wp2_with (go_at_call 109; refine Hy.out.mono ?_; rintro e w1 ⟨rfl, hp⟩; have Hp := qaa hp; clear hp)
 go_ret
 exact ⟨rfl, Hp.out⟩
def CNewPost (w w' : World) (e : Ending) (l : List Int) : Prop :=
 Below w.heap.size w w' ∧ ((ya6 l = 0 ∧ ∃ g, w.heap.size ≤ g ∧ e = .returned (.tuple #[.pointer (some ⟨g, 0, none⟩), .int .i64 0]) ∧ CCode w' w'.heap.size g (l.map Int.toNat) ∧ CFar w' g (l.map Int.toNat) (fun k => w.heap.size ≤ k)) ∨ (ya6 l ≠ 0 ∧ e = .returned (.tuple #[.pointer none, .int .i64 (ya6 l)])))
theorem cst_begin (w1 : World) (n : Nat) (ls : List Nat) (hn : ls.length = n) : CSt w1 ((w1.alloc (.cells (ybe .i64 (wat ls 1 0)).toArray 143)).alloc (.cells #[.bool true, .slice (some ⟨w1.heap.size, 0, none⟩) n n, .int .i64 0, .int .i64 0, .int .i64 0, .int .i64 0, .int .i64 0, .int .i64 0, .int .i64 0, .int .i64 0, .int .i64 0, .int .i64 0, .int .i64 0, .int .i64 0, .int .i64 0, .int .i64 0, .int .i64 0, .int .i64 0, .slice none 0 0, .slice none 0 0, .slice none 0 0, .slice none 0 0, .slice none 0 0, .slice none 0 0, .slice none 0 0, .slice none 0 0, .slice none 0 0, .slice none 0 0, .slice none 0 0, .slice none 0 0, .slice none 0 0, .slice none 0 0, .slice none 0 0, .slice none 0 0, .int .i64 1] 141)) n (wat ls 1 0) (List.replicate 16 0) (List.replicate 16 (.slice none 0 0)) 1 (crow ls 0) := by
 have hc := Blk.new (w1.alloc (.cells (ybe .i64 (wat ls 1 0)).toArray 143)) 141 (ybp w1.heap.size n (List.replicate 16 0) (List.replicate 16 (.slice none 0 0)) 1).toArray
 rw [qas] at hc
 refine ⟨hc, (Blk.new w1 _ _).alloc _, ⟨rfl, fun j hj => ?_, fun i j hi hj hne k hk => ?_⟩, by go_grown, rfl⟩
 ·rw [yea, qck]
  exact qbg _ _ _ _
 ·rw [qck] at hk
  cases hk
def csts (ls : List Nat) (N : Nat) : List Int := (List.range 16).map fun j => if j < N then (cst ls j : Int) else 0
theorem csts_len (ls : List Nat) (N : Nat) : (csts ls N).length = 16 := by simp [csts]
theorem csts_one (ls : List Nat) : csts ls 1 = List.replicate 16 0 := by
 refine qbR (by simp [csts]) fun j h1 h2 => ?_
 simp only [csts, qbB, List.getElem_range, qck]
 by_cases h : j < 1
 ·rw [qah h, show j = 0 from by omega, cst_none]; rfl
 ·rw [qag h]
theorem csts_get (ls : List Nat) (N p : Nat) (h : p < N) (h2 : p < (csts ls N).length) : (csts ls N)[p] = (cst ls p : Int) := by
 simp only [csts, qbB, List.getElem_range]
 rw [qah h]
theorem csts_set (ls : List Nat) (N : Nat) (h : N < 16) : (csts ls N).set N (cst ls N : Int) = csts ls (N + 1) := by
 refine qbR (by simp [csts]) fun j h1 h2 => ?_
 rw [List.getElem_set]
 simp only [csts, qbB, List.getElem_range]
 by_cases e : N = j
 ·subst e
  rw [qah rfl, qah (by omega)]
 ·rw [qag e]
  by_cases e2 : j < N
  ·rw [qah e2, qah (by omega)]
  ·rw [qag e2, qag (by omega)]
section
variable {w1 W : World} {n : Nat} {L : List (Int × Int)} {st : List Int} {rows : List Value} {d : Int} {R : Nat → List Nat}
theorem CSt.drew (h : CSt w1 W n L st rows d R) : CSt w1 W.drew n L st rows d R := ⟨h.code.drew, h.words.drew, h.rows.touch (S := fun _ => False) (yaP (B := W.heap.size) (qaj _ _).drew (qaf _)) (fun _ _ _ _ h => h), h.frame.drew, h.stl⟩
theorem CSt.slice (h : CSt w1 W n L st rows d R) (j : Nat) (hj : j < 16) : ∃ A c, W.cell? ⟨w1.heap.size + 1, 18 + j, none⟩ = some (.slice A (R j).length c) ∧ rows[j]'(by have := h.rows.len; omega) = .slice A (R j).length c := by
 have h1 := h.row j hj
 obtain ⟨A, c, e, _, _⟩ := yad (h.rows.own j (by have := h.rows.len; omega))
 rw [e] at h1
 exact ⟨A, c, h1, e⟩
theorem CSt.sym (h : CSt w1 W n L st rows d R) (j : Nat) (hj : j < 16) (A : Option Addr) (m c q sy : Nat) (e : rows[j]'(by have := h.rows.len; omega) = .slice A m c) (hq : (R j)[q]? = some sy) : ∃ b off, A = some ⟨b, off, none⟩ ∧ W.cell? ⟨b, off + q, none⟩ = some (.int .i64 (sy : Int)) := by
 obtain ⟨A2, c2, e2, _, hr⟩ := yad (h.rows.own j (by have := h.rows.len; omega))
 rw [e] at e2
 injection e2 with e3 e4 e5
 subst e3
 obtain ⟨hlt, _⟩ := qcr.1 hq
 obtain ⟨b, off, e6, hb, hc⟩ := hr.2 (by omega)
 exact ⟨b, off, e6, hc q _ (csy_get hq)⟩
end
theorem cst_put {w1 W : World} {n : Nat} {ls : List Nat} {st : List Int} {rows : List Value} {d : Int} {R : Nat → List Nat} {N s q sy : Nat} (hn : ls.length = n) (hN : 0 < N) (hN2 : N ≤ 15) (hs : (crow ls s N).length = q) (hq : (crow ls n N)[q]? = some sy) (h : CSt w1 W n (wat ls N s) st rows d R) (a b : Int) (ha : a = ((cst ls N + q : Nat) : Int)) (hb : b = (N : Int)) :
  CSt w1 ((W.setCell ⟨w1.heap.size, sy * 2, none⟩ (.int .i64 a)).setCell ⟨w1.heap.size, sy * 2 + 1, none⟩ (.int .i64 b)) n (wat ls N (sy + 1)) st rows d R ∧ sy + 1 ≤ n ∧ (crow ls (sy + 1) N).length = q + 1 := by
 subst hn
 obtain ⟨h1, h2, h3, h4⟩ := cst_word N q sy hN hN2 hq
 have h5 := (crow_eq (ls := ls) N hN s sy (by omega)).2
 have h6 := h.put_word sy (by rw [yaO]; exact h2) ((ybP ls N sy : Nat) : Int) (N : Int)
 rw [h5, wat_set ls N sy h2 h3 hN] at h6
 subst ha hb
 rw [← h1]
 refine ⟨h6, h2, ?_⟩
 rw [ybG, qah ⟨hN, h3⟩, qae, h4]
 rfl
theorem cst_row {w1 W : World} {n : Nat} {ls : List Nat} {st : List Int} {rows : List Value} {d : Int} {R : Nat → List Nat} {N s : Nat} (hn : ls.length = n) (hN : 0 < N) (hs : (crow ls s N).length = (crow ls n N).length) (h : CSt w1 W n (wat ls N s) st rows d R) : CSt w1 W n (wat ls (N + 1) 0) st rows d R := by
 subst hn
 rw [(crow_eq (ls := ls) N hN s ls.length hs).2, wat_next ls N ls.length (qaf _)] at h
 exact h
theorem cst_end {w w1 W : World} {n : Nat} {ls : List Nat} {rows : List Value} (hn : ls.length = n) (h15 : ∀ s (hs : s < ls.length), ls[s] ≤ 15) (hb : Below w.heap.size w w1) (h : CSt w1 W n (wat ls (ybq ls n + 1) 0) (csts ls (ybq ls n + 1)) rows (ybq ls n : Nat) (crow ls n)) :
  Below w.heap.size w W ∧ w.heap.size ≤ w1.heap.size + 1 ∧ CCode W W.heap.size (w1.heap.size + 1) ls ∧ CFar W (w1.heap.size + 1) ls (fun k => w.heap.size ≤ k) := by
 subst hn
 have hsz := hb.size
 have h2 := (cdeep_all (ls := ls) (ybq ls ls.length) (yfx h15 _ (qaf _)) fun s hs => cdeep_ge _ (qaf _) s hs hs).2
 have hH : CHold W W.heap.size (w1.heap.size + 1) ls w1.heap.size (csts ls (ybq ls ls.length + 1)) rows := ⟨h.code, by rw [← h2]; exact h.words, h.code.lt, h.words.lt, csts_len _ _, h.rows.len, fun j hj h1 h3 => csts_get ls _ j (by omega) hj, fun j hj => by
  obtain ⟨A, c, e, _, hr⟩ := yad (h.rows.own j hj)
  exact ⟨A, c, e, hr⟩⟩
 refine ⟨hb.trans (h.frame.mono hsz), by omega, ⟨_, _, _, hH⟩, _, _, _, _, hH, qaf _, by omega, by omega, fun j hj A n c e hn a ha => ?_⟩
 have := (h.rows.own j hj).lt a.block (by rw [e, ha]; rfl)
 omega
theorem c_new_any (l : List Int) (A : Option Addr) (n c : Nat) (w : World) (hm : n ≤ 1000000) (hr : Reads w w.heap.size 1 A n (ints l)) :
  Calls prog 62 #[.slice A n c] w fun e w' => CNewPost w w' e l := by
 obtain ⟨i0, hi, hz0, hz1, hz2⟩ := qbn aint_info
 have el : l.length = n := by have := hr.1; rw [yae] at this; omega
 have Hchk := qaa (yf8 l A n c w hm hr)
 rw [ccheck_ref] at Hchk
 by_cases h0 : ya6 l = 0
 ·rw [h0] at Hchk
  obtain ⟨hl, hg, hca⟩ := yek h0
  have Hc1 : Hid (0 < n → ∃ b off, A = some ⟨b, off, none⟩ ∧ ∀ wr, Below w.heap.size w wr → ∀ k, (hk : k < l.length) → wr.cell? ⟨b, off + k, none⟩ = some (.int .i64 l[k])) := qaa fun h => by
   obtain ⟨b, off, e, hb, hc⟩ := hr.2 h
   exact ⟨b, off, e, fun wr hw k hk => (hw.cell (p := ⟨b, off + k, none⟩) hb).trans (hc k _ (yak l k hk))⟩
  obtain ⟨ls, hls⟩ : ∃ ls, l.map Int.toNat = ls := ⟨_, rfl⟩
  have hlsn : ls.length = n := by rw [← hls, qaN, el]
  have Hls : Hid (∀ k (hk : k < l.length) (hk2 : k < ls.length), (ls[k] : Int) = l[k] ∧ ls[k] ≤ 15) := qaa fun k hk hk2 => by
   have := yaY hg k hk
   subst hls
   rw [qbB]
   omega
  have H15 : Hid (∀ s (hs : s < ls.length), ls[s] ≤ 15) := qaa fun s hs => (Hls.out s (by omega) hs).2
  rw [hls] at hca
  have Hca := qaa hca
  have Hel := qaa el
  have Hln := qaa hlsn
  have hmk := fun W => mk_fields n hm W
  rw [← hlsn, ← wat_zero] at hmk
  rw [hlsn] at hmk
  have hni : (n : Int) ≤ 257 := by omega
  unfold CNewPost
  rw [hls]
  have H0 := qaa h0
  clear hr h0 hg hca hls el hl hlsn
  go_enter func62, ntmps62
  go_wp2_with (go_at_call 104; refine Hchk.out.mono ?_; rintro e w1 ⟨rfl, hb1⟩; have Hb1 := qaa hb1; clear hb1)
  have HB0 := qaa (cst_begin w1 n ls Hln.out)
  generalize ((w1.alloc (.cells (ybe .i64 (wat ls 1 0)).toArray 143)).alloc (.cells #[.bool true, .slice (some ⟨w1.heap.size, 0, none⟩) n n, .int .i64 0, .int .i64 0, .int .i64 0, .int .i64 0, .int .i64 0, .int .i64 0, .int .i64 0, .int .i64 0, .int .i64 0, .int .i64 0, .int .i64 0, .int .i64 0, .int .i64 0, .int .i64 0, .int .i64 0, .int .i64 0, .slice none 0 0, .slice none 0 0, .slice none 0 0, .slice none 0 0, .slice none 0 0, .slice none 0 0, .slice none 0 0, .slice none 0 0, .slice none 0 0, .slice none 0 0, .slice none 0 0, .slice none 0 0, .slice none 0 0, .slice none 0 0, .slice none 0 0, .slice none 0 0, .int .i64 1] 141)) = wz at *
  clear hmk Hchk
  go_loopw [6, 7, 23] (fun sx wx i wr => ∃ (k : Nat) (rows : List Value), k ≤ n ∧ i = .int .i64 k ∧ Hid (CSt w1 wr n (wat ls 1 0) (List.replicate 16 0) rows (ybq ls k : Nat) (crow ls k))) (fun _ _ i _ => n - (intOf i).toNat)
  case atStart => exact ⟨0, _, by omega, rfl, HB0⟩
  case round =>
   obtain ⟨k, rows, hk, rfl, HS⟩ := hrel
   clear HB0
   by_cases hlt : k < n
   ·have hki : (0 : Int) ≤ (k : Int) ∧ (k : Int) < (n : Int) := by omega
    have hkl : k < l.length := by rw [Hel.out]; exact hlt
    have hkn : k < ls.length := by rw [Hln.out]; exact hlt
    obtain ⟨b1, o1, rfl, hcell⟩ := Hc1.out (by omega)
    have x1 := hcell wr (Hb1.out.trans (HS.out.frame.mono Hb1.out.size)) k hkl
    obtain ⟨hv, hv2⟩ := Hls.out k hkl hkn
    clear hcell
    rw [← hv] at x1
    have hgd := yd2 (l := ls) k hkn
    have Hnx := qaa (fun j => ybG (ls := ls) k j)
    have Hdp : Hid (ybq ls (k + 1) = max (ybq ls k) ls[k]) := qaa (by rw [← hgd]; rfl)
    rw [hgd] at Hnx
    clear hv hgd
    generalize ls[k] = wd at *
    by_cases hz : wd = 0
    ·subst hz
     have hS2 := HS.out.congr (R' := crow ls (k + 1)) fun j hj => by rw [Hnx.out j, qag (by omega), qa6]
     have hS3 := HS.out.congr (R' := crow ls (k + 1)) fun j hj => by rw [Hnx.out j, qag (by omega), qa6]
     have hd2 : ybq ls (k + 1) = ybq ls k := by rw [Hdp.out]; have := ydY (ls := ls) k; omega
     rw [← hd2] at hS3
     have HS3 := qaa hS3
     clear hS2 hS3 hd2 hkn hkl
     go_wp2
     go_roundw
     case rel => exact ⟨k + 1, rows, by omega, iv (by omega), HS3⟩
     case measure => simp only [intOf]; omega
    ·have hwd : (0 : Int) < (wd : Int) ∧ (wd : Int) < 16 := by omega
     have hw16 : wd < 16 := by omega
     have hwp : (0 : Int) ≤ (wd : Int) := by omega
     have hwt : IntKind.i64.wrap (wd : Int) = (wd : Int) := by rw [qai]; omega
     have x2 := HS.out.row wd hw16
     have hc0 := HS.out.code.lt
     obtain ⟨Av, cv, ev, hcv, hrv⟩ := yad (HS.out.rows.own wd (by have := HS.out.rows.len; omega))
     rw [ev] at x2
     obtain ⟨cn, hcn⟩ : ∃ cn, (crow ls k wd).length = cn := ⟨_, rfl⟩
     have hcn2 : cn ≤ k := by rw [← hcn]; exact yfU k wd
     rw [hcn] at x2 ev
     have hdp1 := ydY (ls := ls) k
     have hdp2 := yfx H15.out k (by rw [Hln.out]; exact hk)
     have Hput := qaa fun (Wa W2 : World) (hb : Below wr.heap.size wr Wa) (A2 : Option Addr) (c2 : Nat) (hg : Wa.grownBy W2 (Value.slice Av cn cv).ownBlock) (ho : W2.ownsRow w1.heap.size 3 1 (.slice A2 (cn + 1) c2) (cn + 1) (ints (csy (crow ls k wd)) ++ [.int .i64 (k : Int)])) (hs : Sep Wa (.slice Av cn cv) (.slice A2 (cn + 1) c2)) =>
      HS.out.put_row (Wa := Wa) (W2 := W2) hb wd hw16 (.slice A2 (cn + 1) c2) k (by rw [ev]; exact hg) (by rw [hcn]; exact ho) (by rw [ev]; exact hs)
     have Hown := qaa (HS.out.rows.own wd (by have := HS.out.rows.len; omega))
     rw [ev, hcn] at Hown
     clear hcv hrv hkn hkl
     have Hb := qaa (show Below wr.heap.size wr (wr.alloc (.cells #[.int .i64 (k : Int)] 3)).drew from ((qaj _ _).alloc (qaf _) _).drew)
     have Hrd : Hid (Reads (wr.alloc (.cells #[.int .i64 (k : Int)] 3)).drew (wr.heap.size + 1) 1 (some ⟨wr.heap.size, 0, none⟩) 1 [.int .i64 (k : Int)]) := qaa (yar wr 3 #[.int .i64 (k : Int)] 1 1 rfl)
     have Howa := qaa (yah Hown.out Hb.out (qaf _))
     have Hone : Hid (∀ u ∈ [Value.int .i64 (k : Int)], u.oneCell' = true) := qaa fun u hu => by rw [qcb.1 hu]; rfl
     have Hws : Hid (w1.heap.size ≤ (wr.alloc (.cells #[.int .i64 (k : Int)] 3)).drew.heap.size) := qaa (qa7 HS.out.frame.size Hb.out.size)
     have Hdk : Hid (∀ v : Int, v = ((max (ybq ls k) wd : Nat) : Int) → v = ((ybq ls (k + 1) : Nat) : Int)) := qaa fun v hv => by rw [Hdp.out, hv]
     have Hfin : Hid (∀ X (v : Int), v = ((ybq ls (k + 1) : Nat) : Int) → ∀ rows', CSt w1 X n (wat ls 1 0) (List.replicate 16 0) rows' (ybq ls k : Nat) (fun i => if i = wd then crow ls k wd ++ [k] else crow ls k i) → CSt w1 (X.setCell ⟨w1.heap.size + 1, 34, none⟩ (.int .i64 v)) n (wat ls 1 0) (List.replicate 16 0) rows' (ybq ls (k + 1) : Nat) (crow ls (k + 1))) := qaa fun X v hv rows' h => by
      subst hv
      refine (h.put_deep _).congr fun j hj => ?_
      rw [Hnx.out j]
      by_cases e : j = wd
      ·subst e
       rw [qah rfl, qah ⟨by omega, rfl⟩]
      ·rw [qag e, qag (fun h => e h.2.symm), qa6]
     clear Hown hcn
     generalize crow ls k wd = CR at *
     generalize hdk : ybq ls k = dk at *
     go_wp2
     go_region_law (refine yab (by rfl) (.tmp 37) (.tmp 39) 28 (by rfl) w1.heap.size 3 i0 _ 1 8 underlying28 hi hz0 hz1 hz2 rfl (by decide) (.slice Av cn cv) cn (ints (csy CR)) (by rfl) Howa.out (some ⟨wr.heap.size, 0, none⟩) 1 1 _ [.int .i64 (k : Int)] (by rfl) Hrd.out Hone.out (by unfold maxLen; omega) (by omega) Hws.out (cn + 1) rfl ?_; intro A2 c2 w2 ho2 hg2 hs2; obtain ⟨z1, ⟨u2, z2⟩, hS2⟩ := Hput.out _ w2 Hb.out A2 c2 hg2 ho2 hs2; have HS2 := qaa hS2; clear hS2 ho2 hg2 hs2)
     all_goals (
      have x3 := HS2.out.deep
      have x4 := HS2.out.code.frozen 34
      have x5 := HS2.out.code.lt
      clear z1 z2
      generalize w2.setCell ⟨w1.heap.size + 1, 18 + wd, none⟩ (.slice A2 (cn + 1) c2) = X at *
      go_wp2
      go_roundw
      case rel => exact ⟨k + 1, _, by omega, iv (by omega), qaa (Hfin.out X _ (Hdk.out _ (by split <;> omega)) _ HS2.out)⟩
      case measure => simp only [intOf]; omega)
   ·obtain rfl : k = n := by omega
    have hD1 := ydY (ls := ls) k
    have hD2 := yfx H15.out k (by rw [Hln.out]; exact qaf _)
    have HE := qaa fun W h => cst_end (W := W) (rows := rows) Hln.out H15.out Hb1.out h
    have HS1 : Hid (CSt w1 wr k (wat ls 1 0) (csts ls 1) rows (ybq ls k : Nat) (crow ls k)) := qaa (by rw [csts_one]; exact HS.out)
    clear HS hlt Hc1 Hls Hel H15 Hb1
    generalize ybq ls k = D at *
    have hDi : (1 : Int) ≤ (D : Int) ∧ (D : Int) ≤ 15 := by omega
    go_wp2
    go_loopw [8, 9, 10, 91] (fun wx kx sx ix W => ∃ N : Nat, 1 ≤ N ∧ N ≤ D + 1 ∧ wx = .int .i64 N ∧ Hid (CSt w1 W k (wat ls N 0) (csts ls N) rows (D : Nat) (crow ls k))) (fun wx _ _ _ _ => D + 1 - (intOf wx).toNat)
    case atStart => exact ⟨1, by omega, by omega, rfl, HS1⟩
    case round =>
     obtain ⟨N, hN1, hN2, rfl, HS⟩ := hrel
     clear HS1
     have x1 := HS.out.deep
     have x2 := HS.out.code.lt
     by_cases hlt : N ≤ D
     ·have hNi : (N : Int) ≤ (D : Int) := by omega
      obtain ⟨p, hp⟩ : ∃ p, p + 1 = N := ⟨N - 1, by omega⟩
      have hN16 : N < 16 := by omega
      have x3 := HS.out.start p (by omega)
      rw [csts_get ls N p (by omega)] at x3
      obtain ⟨Ap, cp, x4, -⟩ := HS.out.slice p (by omega)
      have x5 := HS.out.code.frozen (2 + N)
      have x6 := HS.out.start N hN16
      have hcn := cst_next (ls := ls) p (by omega)
      rw [hp, Hln.out] at hcn
      have hcl := cst_le (ls := ls) N (by omega) Hca.out
      have HS2 : Hid (∀ v : Int, v = (cst ls N : Int) → CSt w1 (wr.setCell ⟨w1.heap.size + 1, 2 + N, none⟩ (.int .i64 v)).drew k (wat ls N 0) (csts ls (N + 1)) rows (D : Nat) (crow ls k)) := qaa fun v hv => by
       subst hv
       have := HS.out.put_start N hN16 (cst ls N : Int)
       rw [csts_set ls N hN16] at this
       exact this.drew
      generalize hold : (csts ls N)[N]'(by rw [csts_len]; exact hN16) = old at x6
      clear hold
      obtain ⟨cN, hcN⟩ : ∃ cN, (crow ls k N).length = cN := ⟨_, rfl⟩
      obtain ⟨AN, pN, x7, erow⟩ := HS.out.slice N hN16
      rw [hcN] at x7 erow
      have Her := qaa erow
      clear erow
      have hcNk : cN ≤ k := by rw [← hcN]; exact yfU k N
      have HcN := qaa hcN
      have hsym : Hid (∀ q, q < cN → ∃ sy, (crow ls k N)[q]? = some sy ∧ cst ls N + q ≤ 32768 ∧ sy < k) := qaa fun q hq => by
       have h1 : q < (crow ls k N).length := by rw [HcN.out]; exact hq
       obtain ⟨sy, hsy⟩ : ∃ sy, (crow ls k N)[q]? = some sy := ⟨_, qan h1⟩
       have h3 := Hln.out
       obtain ⟨h4, h5, h6, _⟩ := cst_word N q sy (by omega) (by omega) (by rw [h3]; exact hsy)
       have h7 := cword_lt (ls := ls) N sy h5 (by rw [← yd2 _ h5]; exact h6) ⟨by omega, by omega⟩ Hca.out
       have h8 : (2 : Nat) ^ N ≤ 2 ^ 15 := qaF (by omega) (by omega)
       exact ⟨sy, hsy, by omega, by omega⟩
      clear hcN
      generalize (crow ls k p).length = cnp at *
      generalize cst ls p = sp at *
      generalize hsN : cst ls N = sN at *
      obtain ⟨tt, htt⟩ : ∃ tt, sp + cnp = tt := ⟨_, rfl⟩
      rw [htt] at hcn
      have hs1 : IntKind.i64.wrap ((sp : Int) + (cnp : Int)) = (tt : Int) := by rw [qai]; omega
      have hs2 : IntKind.i64.wrap (2 * (tt : Int)) = (sN : Int) := by rw [qai]; omega
      have hsub : (N : Int) - 1 = (p : Int) := by omega
      have hsw : IntKind.i64.wrap ((N : Int) - 1) = (p : Int) := by rw [qai]; omega
      have hsw2 : IntKind.i64.wrap (p : Int) = (p : Int) := by rw [qai]; omega
      have hpb : (0 : Int) ≤ (p : Int) ∧ (p : Int) < 16 := by omega
      have hNb : (0 : Int) ≤ (N : Int) ∧ (N : Int) < 16 := by omega
      have HP := qaa (And.intro hp (And.intro htt (And.intro hcn hcl)))
      clear hp htt hcn hcl
      go_wp2
      refine qbs 22 (by kernel_rfl) (by kernel_rfl) ?_
      simp only [qaR, qaX, qbl, qbt]
      change wpStill _ _ (World.drew _) (fun a' => wpList _ _ _ _ a' (World.drew _)) _ _
      repeat still_step
      refine qcp ?_
      go_wp2
      have HS3 := qaa (HS2.out (sN : Int) rfl)
      clear HS2 x1 x2 x3 x4 x5 x6 x7 hs1 hs2 hsub hsw hsw2 hpb
      generalize (wr.setCell ⟨w1.heap.size + 1, 2 + N, none⟩ (.int .i64 (sN : Int))).drew = X at *
      have HcS := qaa hsN
      have hcNi : (cN : Int) ≤ 257 := by omega
      go_loopw [9, 10, 91] (fun kx sx ix W => ∃ (q s : Nat), q ≤ cN ∧ ix = .int .i64 q ∧ Hid (s ≤ k ∧ (crow ls s N).length = q) ∧ Hid (CSt w1 W k (wat ls N s) (csts ls (N + 1)) rows (D : Nat) (crow ls k))) (fun _ _ ix _ => cN - (intOf ix).toNat)
      case atStart => exact ⟨0, 0, by omega, rfl, qaa ⟨by omega, rfl⟩, HS3⟩
      case round =>
       obtain ⟨q, s, hq, rfl, Hq, HS4⟩ := hrel
       clear HS3
       by_cases hqt : q < cN
       ·have hqi : (0 : Int) ≤ (q : Int) ∧ (q : Int) < (cN : Int) := by omega
        obtain ⟨sy, hsy, hsb, hsk⟩ := hsym.out q hqt
        obtain ⟨b, off, rfl, y1⟩ := HS4.out.sym N hN16 AN cN pN q sy Her.out hsy
        have y2 := HS4.out.wslice
        have y3 := HS4.out.start N hN16
        rw [csts_get ls (N + 1) N (by omega), HcS.out] at y3
        have y4 := HS4.out.code.lt
        have y5 := HS4.out.words.lt
        have y6 := HS4.out.words.frozen (sy * 2)
        have y7 := HS4.out.words.frozen (sy * 2 + 1)
        have hwl : sy < (wat ls N s).length := by rw [yaO, Hln.out]; exact hsk
        have y8 := HS4.out.words.cell (sy * 2)
        rw [qaq, ycw .i64 _ sy hwl] at y8
        have y9 := HS4.out.words.cell (sy * 2 + 1)
        rw [qaq, yc8 .i64 _ sy hwl] at y9
        generalize (wat ls N s)[sy].1 = o1 at *
        generalize (wat ls N s)[sy].2 = o2 at *
        have Hput := qaa fun a b ha hb => cst_put (a := a) (b := b) Hln.out (by omega) (by omega) Hq.out.2 hsy HS4.out ha hb
        rw [HcS.out] at Hput
        obtain ⟨cw, hcw⟩ : ∃ cw, sN + q = cw := ⟨_, rfl⟩
        rw [hcw] at hsb Hput
        have hs1 : IntKind.i64.wrap ((sN : Int) + (q : Int)) = (cw : Int) := by rw [qai]; omega
        have hs2 : (0 : Int) ≤ (sy : Int) ∧ (sy : Int) < (k : Int) := by omega
        have hs3 : IntKind.i64.wrap (sy : Int) = (sy : Int) := by rw [qai]; omega
        clear hwl hsy hcw
        go_wp2
        refine qbs 16 (by kernel_rfl) (by kernel_rfl) ?_
        simp only [qaR, qaX, qbl, qbt]
        change wpStill _ _ (World.drew _) (fun a' => wpList _ _ _ _ a' (World.drew _)) _ _
        repeat still_step
        refine qcp ?_
        go_wp2
        go_roundw
        case rel =>
         obtain ⟨f1, f2, f3⟩ := Hput.out _ _ rfl rfl
         exact ⟨q + 1, sy + 1, by omega, iv (by omega), qaa ⟨f2, f3⟩, f1.drew⟩
        case measure => simp only [intOf]; omega
       ·have hqi : ¬ (q : Int) < (cN : Int) := by omega
        obtain rfl : q = cN := by omega
        have HS5 := qaa (cst_row Hln.out (by omega) (by rw [Hq.out.2, HcN.out]) HS4.out)
        clear HS4 Hq hsym
        go_wp2
        go_roundw
        case rel => exact ⟨N + 1, by omega, by omega, iv (by omega), HS5⟩
        case measure => simp only [intOf]; omega
     ·obtain rfl : N = D + 1 := by omega
      have hNi : ¬ ((D + 1 : Nat) : Int) ≤ (D : Int) := by omega
      have hE := HE.out _ HS.out
      have HE2 := qaa hE
      clear hE
      go_wp2
      go_ret2
      exact ⟨HE2.out.1, qat ⟨H0.out, _, HE2.out.2.1, rfl, HE2.out.2.2⟩⟩
 ·have hb0 : (ya6 l == 0) = false := by simpa using h0
  have H0 := qaa h0
  clear h0 hr
  unfold CNewPost
  generalize ya6 l = E at *
  go_enter func62, ntmps62
  go_wp2_with (go_at_call 104; refine Hchk.out.mono ?_; rintro e w1 ⟨rfl, hb1⟩; have Hb1 := qaa hb1; clear hb1)
  go_ret2
  exact ⟨Hb1.out, qaT ⟨H0.out, rfl⟩⟩
end Go.Proofs.YtanjhbkbpalnaaaGreat
