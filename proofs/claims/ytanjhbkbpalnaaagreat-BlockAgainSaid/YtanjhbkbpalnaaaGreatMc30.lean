/-
 What the law of the last of these texts stands on, part 30.
-/
import Derived.Test.YtanjhbkbpalnaaaGreatMc27
import Derived.Lib.BufferWrite
import Derived.Lib.BytesEntry
set_option maxRecDepth 100000
set_option maxHeartbeats 8000000
open Go.Proofs.Tryz
namespace Go.Proofs.YtanjhbkbpalnaaaGreat
set_option linter.unusedSimpArgs false
set_option linter.unusedVariables false
open Go.ChangeShapes Go.WideShapes Go.ChangeAt Go.RowKit Go.Joins Go.Deep
theorem clone_copy (l : List UInt8) (ty : TypeId) (w : World) :
  (Builtin.copy_ #[36, 9] ty #[.slice (some ⟨w.heap.size, 0, none⟩) l.length l.length, .string ⟨l.toArray⟩]).run prog (w.alloc (.cells (bc (List.replicate l.length 0)) 5)) = .ok (.int .i64 (l.length : Int)) ((w.alloc (.cells (bc (List.replicate l.length 0)) 5)).setRow w.heap.size (bc l)) := by
 obtain ⟨i0, hi, _, hz1, _⟩ := qb4 ydl
 rw [Lib.run_copy_row_string (w.alloc (.cells (bc (List.replicate l.length 0)) 5)) 36 9 ty 5 w.heap.size 0 l.length l.length ⟨l.toArray⟩ (bc (List.replicate l.length 0)) 5 underlying36 (by rw [hi]; simp [hz1]) (Blk.new w 5 _) (by rw [qbc, qaA]; exact qaf _) (by rw [qbc, qaA, ycy, qaE]; omega)]
 have e : ((bc (List.replicate l.length 0)).toList.take 0 ++ Lib.byteCells l ++ (bc (List.replicate l.length 0)).toList.drop (0 + l.length)).toArray = bc l := by
  rw [qbb, qaS, qaO (by rw [Array.length_toList, ycy, qaE]; omega), qa8]
  rfl
 rw [qbc, qaA]
 exact qbD (fun c => Result.ok (Value.int .i64 (l.length : Int)) ((w.alloc (.cells (bc (List.replicate l.length 0)) 5)).setRow w.heap.size c)) e
theorem clone_lite_any (l : List UInt8) (w : World) (hl : l.length ≤ 281474976710656) : Calls prog 179 #[.string ⟨l.toArray⟩] w fun e w' => e = .returned (.string ⟨l.toArray⟩) ∧ Below w.heap.size w w' := by
 by_cases h0 : l.length = 0
 ·obtain rfl := qaz.1 h0
  go_enter func179, ntmps179
  go_wp2
  go_ret
  exact ⟨rfl, by go_grown⟩
 have hmk := mk_bytes (l.length : Int) l.length rfl hl w
 have hcp := fun ty => clone_copy l ty w
 have hne : ((l.length : Int) == 0) = false := qbx.2 (by omega)
 have hpos : (0 : Int) < (l.length : Int) := by omega
 have hgot : Blk ((w.alloc (.cells (bc (List.replicate l.length 0)) 5)).setRow w.heap.size (bc l)) w.heap.size 5 (bc l) := setRow_heap _ _ _ _ _ _ (Blk.new w 5 (bc (List.replicate l.length 0)))
 have hus := fun ty => Lib.run_unsafeString_row (P := prog) ((w.alloc (.cells (bc (List.replicate l.length 0)) 5)).setRow w.heap.size (bc l)) 237 3 ty 5 underlying237 (by kernel_rfl) w.heap.size l.length (by unfold World.shape?; rw [show _ = _ from hgot]; simp [ycy]) l (fun h => h0 (by rw [h]; rfl)) (qaf _) (by omega) (fun j x hx => by
  rw [yco, qaL]
  exact ycv hgot hx)
 have hb : Below w.heap.size w (((w.alloc (.cells (bc (List.replicate l.length 0)) 5)).setRow w.heap.size (bc l)).freeze ⟨w.heap.size, 0, none⟩ l.length) := Lib.below_freeze (below_setRow ((qam _ _).alloc (qaf _) _) (qaf _) _) (qaf _) _
 have HB := qaa hb
 clear hgot hb h0
 generalize hW : ((w.alloc (.cells (bc (List.replicate l.length 0)) 5)).setRow w.heap.size (bc l)).freeze ⟨w.heap.size, 0, none⟩ l.length = W at *
 generalize hW2 : (w.alloc (.cells (bc (List.replicate l.length 0)) 5)).setRow w.heap.size (bc l) = W2 at *
 generalize hW3 : w.alloc (.cells (bc (List.replicate l.length 0)) 5) = W3 at *
 clear hW hW2 hW3
 go_enter func179, ntmps179
 go_wp2
 go_ret
 exact ⟨rfl, HB.out⟩
theorem clone_any (l : List UInt8) (w : World) (hl : l.length ≤ 281474976710656) : Calls prog 141 #[.string ⟨l.toArray⟩] w fun e w' => e = .returned (.string ⟨l.toArray⟩) ∧ Below w.heap.size w w' := by
 have hc := qaa fun W => clone_lite_any l W hl
 go_enter func141, ntmps141
 go_wp2_with (go_at_call 179; (with_reducible refine (hc.out _).mono ?_); rintro e w1 ⟨rfl, hb1⟩; have HB1 := qaa hb1; clear hb1 hc)
 go_ret
 exact ⟨rfl, HB1.out⟩
def rpl (s : List UInt8) (p : Int) : Nat → Int
 | 0 => p
 | k + 1 => (getF s (rpl s p k)).2.1
def rer (s : List UInt8) (p : Int) (k : Nat) : Int := (getF s (rpl s p k)).2.2
def rno (s : List UInt8) (p : Int) (k : Nat) : Int := (getF s (rpl s p k)).1
def rfill (s : List UInt8) (p : Int) : Nat → List Int
 | 0 => [0, 0, 0]
 | 1 => [rno s p 0, 0, 0]
 | 2 => [rno s p 0, rno s p 1, 0]
 | _ => [rno s p 0, rno s p 1, rno s p 2]
theorem rfill_set (s : List UInt8) (p : Int) (k : Nat) (h : k < 3) : (ints (rfill s p k)).toArray.setIfInBounds k (.int .i64 (rno s p k)) = (ints (rfill s p (k + 1))).toArray := by
 match k, h with
 | 0, _ => rfl
 | 1, _ => rfl
 | 2, _ => rfl
theorem rget_bad (s : List UInt8) (p : Int) (k : Nat) (hk : k < 3) (h : ∀ j, j < k → rer s p j = 0) (he : rer s p k ≠ 0) : ya2 s p = (yfT, 0, rer s p k) := by
 unfold ya2
 by_cases h0 : k = 0
 ·subst h0
  exact qah he
 have e0 : (getF s p).2.2 = 0 := h 0 (by omega)
 rw [qag (by omega)]
 unfold rg1
 by_cases h1 : k = 1
 ·subst h1
  exact qah he
 have e1 : (getF s (getF s p).2.1).2.2 = 0 := h 1 (by omega)
 rw [qag (by omega)]
 obtain rfl : k = 2 := by omega
 exact qah he
theorem rget_end (s : List UInt8) (p : Int) (h : ∀ j, j < 3 → rer s p j = 0) : ya2 s p = rg3 s (rno s p 0) (rno s p 1) (rno s p 2) (rpl s p 3) := by
 have e0 : (getF s p).2.2 = 0 := h 0 (by omega)
 have e1 : (getF s (getF s p).2.1).2.2 = 0 := h 1 (by omega)
 have e2 : (getF s (getF s (getF s p).2.1).2.1).2.2 = 0 := h 2 (by omega)
 unfold ya2
 rw [qag (by omega)]
 unfold rg1
 rw [qag (by omega)]
 unfold rg2
 rw [qag (by omega)]
 rfl
theorem rno_at (s : List UInt8) (p : Int) (k : Nat) (h : rer s p k = 0) : 0 ≤ rno s p k ∧ 0 ≤ rpl s p (k + 1) ∧ rpl s p (k + 1) ≤ s.length := by
 have := ygj h
 exact ⟨this.2.2.1, by show (0 : Int) ≤ (getF s (rpl s p k)).2.1; omega, this.2.2.2.2.2.1⟩
theorem rfill_len (s : List UInt8) (p : Int) : ∀ k, (rfill s p k).length = 3
 | 0 => rfl
 | 1 => rfl
 | 2 => rfl
 | _ + 3 => rfl
theorem rcell_some {w : World} {g : Nat} {t : TypeId} {l : List Int} {k : Nat} (h : Blk w g t (ints l).toArray) (hk : k < l.length) : w.cell? ⟨g, k, none⟩ = some (.int .i64 l[k]) := by
 rw [h.cell k]
 simpa using yao l k hk
theorem rstored {W : World} {g : Nat} {x0 x1 x2 : Value} (h : Blk W g 54 #[x0, x1, x2]) (a b c : Value) :
  (W.setCell ⟨g, 0, none⟩ a).cell? ⟨g, 0, none⟩ = some a ∧ ((W.setCell ⟨g, 0, none⟩ a).setCell ⟨g, 1, none⟩ b).cell? ⟨g, 1, none⟩ = some b ∧ (((W.setCell ⟨g, 0, none⟩ a).setCell ⟨g, 1, none⟩ b).setCell ⟨g, 2, none⟩ c).cell? ⟨g, 2, none⟩ = some c :=
 ⟨(h.set_ 0 a).cell 0, ((h.set_ 0 a).set_ 1 b).cell 1, (((h.set_ 0 a).set_ 1 b).set_ 2 c).cell 2⟩
theorem ybA {W w : World} {g : Nat} (hb : Below w.heap.size w W) (hg : w.heap.size ≤ g) (a b c : Value) : Below w.heap.size w (((W.setCell ⟨g, 0, none⟩ a).setCell ⟨g, 1, none⟩ b).setCell ⟨g, 2, none⟩ c) :=
 ((hb.setCell (p := ⟨g, 0, none⟩) hg _).setCell (p := ⟨g, 1, none⟩) hg _).setCell (p := ⟨g, 2, none⟩) hg _
theorem p_rget_any (s : List UInt8) (p : Int) (w : World) (hs : s.length ≤ 1000000) :
  Calls prog 100 #[.string ⟨s.toArray⟩, .int .i64 p] w fun e w' => RGPost w w' e (ya2 s p) := by
 unfold RGPost
 have HR0 := Blk.new w 54 #[.int .i64 0, .int .i64 0, .string ⟨#[]⟩]
 have HI0 : Hid (Blk ((w.alloc (.cells #[.int .i64 0, .int .i64 0, .string ⟨#[]⟩] 54)).alloc (.cells #[.int .i64 0, .int .i64 0, .int .i64 0] 91)) w.heap.size 54 #[.int .i64 0, .int .i64 0, .string ⟨#[]⟩] ∧
   Blk ((w.alloc (.cells #[.int .i64 0, .int .i64 0, .string ⟨#[]⟩] 54)).alloc (.cells #[.int .i64 0, .int .i64 0, .int .i64 0] 91)) (w.heap.size + 1) 91 (ints (rfill s p 0)).toArray ∧
   Below w.heap.size w ((w.alloc (.cells #[.int .i64 0, .int .i64 0, .string ⟨#[]⟩] 54)).alloc (.cells #[.int .i64 0, .int .i64 0, .int .i64 0] 91))) := qaa ⟨HR0.alloc _, by
    have := Blk.new (w.alloc (.cells #[.int .i64 0, .int .i64 0, .string ⟨#[]⟩] 54)) 91 #[.int .i64 0, .int .i64 0, .int .i64 0]
    rwa [qay] at this, ((qam _ _).alloc (qaf _) _).alloc (by rw [qay]; omega) _⟩
 have Hg : Hid (∀ k W, Calls prog 140 #[.string ⟨s.toArray⟩, .int .i64 (rpl s p k)] W fun e w' => e = .returned (.tuple #[.int .i64 (rno s p k), .int .i64 (rpl s p (k + 1)), .int .i64 (rer s p k)]) ∧ W = w') := qaa fun k W => get_any s (rpl s p k) W (by omega)
 have Hbad := qaa fun k hk h he => rget_bad s p k hk h he
 have Hend := qaa fun h => rget_end s p h
 have Hset := qaa fun k h => rfill_set s p k h
 have Hno := qaa fun k h => rno_at s p k h
 have H3 : Hid (rfill s p 3 = [rno s p 0, rno s p 1, rno s p 2]) := qaa rfl
 have Hlen : Hid (∀ k, (rfill s p k).length = 3) := qaa (rfill_len s p)
 have HP0 : Hid (rpl s p 0 = p) := qaa rfl
 clear HR0
 generalize ya2 s p = R at *
 generalize rfill s p = F at *
 generalize rer s p = E at *
 generalize rno s p = N at *
 generalize rpl s p = T at *
 go_enter func100, ntmps100
 go_wp2
 go_loopw [5, 6, 8, 12] (fun tv ev _ iv wr => ∃ k : Nat, k ≤ 3 ∧ iv = .int .i64 (k : Int) ∧ tv = .int .i64 (T k) ∧ ev = .int .i64 0 ∧ Hid (∀ j, j < k → E j = 0) ∧ Hid (Blk wr w.heap.size 54 #[.int .i64 0, .int .i64 0, .string ⟨#[]⟩] ∧ Blk wr (w.heap.size + 1) 91 (ints (F k)).toArray ∧ Below w.heap.size w wr)) (fun _ _ _ iv _ => 3 - (intOf iv).toNat)
 case atStart => exact ⟨0, by omega, rfl, by rw [HP0.out], rfl, qaa fun j hj => absurd hj (Nat.not_lt_zero _), HI0⟩
 case round =>
  obtain ⟨k, hk, rfl, rfl, rfl, HE, HI⟩ := hrel
  by_cases hlt : k < 3
  ·have hki : (0 : Int) ≤ (k : Int) ∧ (k : Int) < 3 := by omega
   have hg := qaa (Hg.out k)
   have hfz : wr.frozen? ⟨w.heap.size + 1, k, none⟩ = false := HI.out.2.1.frozen k
   have hku : ∃ u, wr.cell? ⟨w.heap.size + 1, k, none⟩ = some u := ⟨_, rcell_some HI.out.2.1 (by rw [Hlen.out]; exact hlt)⟩
   obtain ⟨u, hu⟩ := hku
   have r0 : wr.cell? ⟨w.heap.size, 0, none⟩ = some (.int .i64 0) := HI.out.1.cell 0
   have r1 : wr.cell? ⟨w.heap.size, 1, none⟩ = some (.int .i64 0) := HI.out.1.cell 1
   have r2 : wr.cell? ⟨w.heap.size, 2, none⟩ = some (.string ⟨#[]⟩) := HI.out.1.cell 2
   have z0 : wr.frozen? ⟨w.heap.size, 0, none⟩ = false := HI.out.1.frozen 0
   have z1 : wr.frozen? ⟨w.heap.size, 1, none⟩ = false := HI.out.1.frozen 1
   have z2 : wr.frozen? ⟨w.heap.size, 2, none⟩ = false := HI.out.1.frozen 2
   have HI2 : Hid (∀ W, W = wr.setCell ⟨w.heap.size + 1, k, none⟩ (.int .i64 (N k)) → Blk W w.heap.size 54 #[.int .i64 0, .int .i64 0, .string ⟨#[]⟩] ∧ Blk W (w.heap.size + 1) 91 (ints (F (k + 1))).toArray ∧ Below w.heap.size w W) := qaa fun W hW => by
    subst hW
    refine ⟨Blk.far HI.out.1 (by simp) _, ?_, HI.out.2.2.setCell (p := ⟨w.heap.size + 1, k, none⟩) (by show w.heap.size ≤ w.heap.size + 1; omega) _⟩
    rw [← Hset.out k hlt]
    exact HI.out.2.1.set_ k _
   by_cases he : E k ≠ 0
   ·have HF := qaa (Hbad.out k hlt HE.out he)
    have HB := qaa HI.out.2.2
    clear Hbad Hend Hset Hno H3 HP0 HI0 Hg HE
    generalize N k = z at *
    generalize T (k + 1) = q at *
    generalize E k = ek at *
    go_wp2_with (go_at_call 140; (with_reducible refine (hg.out _).mono ?_); rintro e w1 ⟨rfl, rfl⟩; clear hg)
    have HI3 := HI2.out _ rfl
    obtain ⟨q0, q1, q2⟩ := rstored HI3.1 (.int .i64 0) (.int .i64 0) (.string ⟨#[]⟩)
    refine qaN (v := .tuple #[.agg #[.int .i64 0, .int .i64 0, .string ⟨#[]⟩], .int .i64 0, .int .i64 ek]) (by simp [results, results100, go_sem, q0, q1, q2]) rfl ⟨by rw [HF.out]; rfl, ybA HI3.2.2 (qaf _) _ _ _⟩
   ·obtain he : E k = 0 := by omega
    have HE2 : Hid (∀ j, j < k + 1 → E j = 0) := qaa fun j hj => by
     by_cases h : j = k
     ·rw [h]; exact he
     ·exact HE.out j (by omega)
    rw [he] at hg
    clear Hbad Hend Hset Hno H3 HP0 HI0 Hg HE he
    generalize N k = z at *
    generalize hq : T (k + 1) = q at *
    go_wp2_with (go_at_call 140; (with_reducible refine (hg.out _).mono ?_); rintro e w1 ⟨rfl, rfl⟩; clear hg)
    go_roundw
    case rel => exact ⟨k + 1, by omega, iv (by omega), by rw [hq], rfl, HE2, qaa (HI2.out _ rfl)⟩
    case measure => simp only [intOf]; omega
  ·obtain rfl : k = 3 := by omega
   have hR := Hend.out HE.out
   have n0 := (Hno.out 0 (HE.out 0 (by omega))).1
   have n1 := (Hno.out 1 (HE.out 1 (by omega))).1
   have n2 := (Hno.out 2 (HE.out 2 (by omega)))
   have hH := HI.out.2.1
   rw [H3.out] at hH
   have HB := qaa HI.out.2.2
   have HR := qaa HI.out.1
   clear Hbad Hend Hset Hno H3 HP0 HI0 Hg HE HI Hlen
   generalize N 0 = x at *
   generalize N 1 = y at *
   generalize N 2 = n at *
   generalize T 3 = c at *
   have HH : Hid (Blk wr (w.heap.size + 1) 91 #[.int .i64 x, .int .i64 y, .int .i64 n]) := qaa hH
   have hc := qaa fun W => yfi x y n W
   have y0 : wr.cell? ⟨w.heap.size + 1, 0, none⟩ = some (.int .i64 x) := HH.out.cell 0
   have y1 : wr.cell? ⟨w.heap.size + 1, 1, none⟩ = some (.int .i64 y) := HH.out.cell 1
   have y2 : wr.cell? ⟨w.heap.size + 1, 2, none⟩ = some (.int .i64 n) := HH.out.cell 2
   have hci : (0 : Int) ≤ c ∧ c ≤ 1000000 := by omega
   unfold rg3 at hR
   clear hH
   by_cases h4 : 1 ≤ x ∧ x ≤ 1000000000 ∧ y ≤ 1000000000 ∧ n ≤ 2000
   ·rw [qah h4] at hR
    have e0 : rh3 x y n = 0 := qah (by omega)
    rw [e0] at hc
    have hni : (0 : Int) ≤ n ∧ n ≤ 2000 := by omega
    by_cases h5 : (s.length : Int) < c + n
    ·rw [qah h5] at hR
     have HF := qaa hR
     have hgt : (s.length : Int) - c < n := by omega
     clear hR e0
     go_wp2_with (first
      | (go_at_call 101; (with_reducible refine (hc.out _).mono ?_); rintro e w2 ⟨rfl, hb2⟩; have HB2 := qaa (HB.out.trans (hb2.mono HB.out.size)); have HR2 := qaa (HR.out.below hb2 HR.out.lt); have HH2 := qaa (HH.out.below hb2 HH.out.lt); have x0 : w2.cell? ⟨w.heap.size + 1, 0, none⟩ = some (.int .i64 x) := HH2.out.cell 0; have x1 : w2.cell? ⟨w.heap.size + 1, 1, none⟩ = some (.int .i64 y) := HH2.out.cell 1; have x2 : w2.cell? ⟨w.heap.size + 1, 2, none⟩ = some (.int .i64 n) := HH2.out.cell 2; have r0 : w2.cell? ⟨w.heap.size, 0, none⟩ = some (.int .i64 0) := HR2.out.cell 0; have r1 : w2.cell? ⟨w.heap.size, 1, none⟩ = some (.int .i64 0) := HR2.out.cell 1; have r2 : w2.cell? ⟨w.heap.size, 2, none⟩ = some (.string ⟨#[]⟩) := HR2.out.cell 2; have z0 := HR2.out.frozen 0; have z1 := HR2.out.frozen 1; have z2 := HR2.out.frozen 2; clear hb2 hc))
     obtain ⟨q0, q1, q2⟩ := rstored HR2.out (.int .i64 0) (.int .i64 0) (.string ⟨#[]⟩)
     refine qaN (v := .tuple #[.agg #[.int .i64 0, .int .i64 0, .string ⟨#[]⟩], .int .i64 0, .int .i64 4]) (by simp [results, results100, go_sem, q0, q1, q2]) rfl ⟨by rw [HF.out]; rfl, ybA HB2.out (qaf _) _ _ _⟩
    ·rw [qag h5] at hR
     have HF := qaa hR
     have hgt : ¬ (s.length : Int) - c < n := by omega
     have hsl := rrun_part s c n (by omega) (by omega) (by omega)
     have hcl := qaa fun W => clone_any ((s.drop c.toNat).take n.toNat) W (by rw [qao, qat]; omega)
     clear hR e0
     generalize (s.drop c.toNat).take n.toNat = D at *
     go_wp2_with (first
      | (go_at_call 101; (with_reducible refine (hc.out _).mono ?_); rintro e w2 ⟨rfl, hb2⟩; have HB2 := qaa (HB.out.trans (hb2.mono HB.out.size)); have HR2 := qaa (HR.out.below hb2 HR.out.lt); have HH2 := qaa (HH.out.below hb2 HH.out.lt); have x0 : w2.cell? ⟨w.heap.size + 1, 0, none⟩ = some (.int .i64 x) := HH2.out.cell 0; have x1 : w2.cell? ⟨w.heap.size + 1, 1, none⟩ = some (.int .i64 y) := HH2.out.cell 1; have x2 : w2.cell? ⟨w.heap.size + 1, 2, none⟩ = some (.int .i64 n) := HH2.out.cell 2; have r0 : w2.cell? ⟨w.heap.size, 0, none⟩ = some (.int .i64 0) := HR2.out.cell 0; have r1 : w2.cell? ⟨w.heap.size, 1, none⟩ = some (.int .i64 0) := HR2.out.cell 1; have r2 : w2.cell? ⟨w.heap.size, 2, none⟩ = some (.string ⟨#[]⟩) := HR2.out.cell 2; have z0 := HR2.out.frozen 0; have z1 := HR2.out.frozen 1; have z2 := HR2.out.frozen 2; clear hb2 hc)
      | (go_at_call 141; (with_reducible refine (hcl.out _).mono ?_); rintro e w3 ⟨rfl, hb3⟩; have HB3 := qaa (HB2.out.trans (hb3.mono HB2.out.size)); have HR3 := qaa (HR2.out.below hb3 HR2.out.lt); have HH3 := qaa (HH2.out.below hb3 HH2.out.lt); have x03 : w3.cell? ⟨w.heap.size + 1, 0, none⟩ = some (.int .i64 x) := HH3.out.cell 0; have x13 : w3.cell? ⟨w.heap.size + 1, 1, none⟩ = some (.int .i64 y) := HH3.out.cell 1; have r03 : w3.cell? ⟨w.heap.size, 0, none⟩ = some (.int .i64 0) := HR3.out.cell 0; have r13 : w3.cell? ⟨w.heap.size, 1, none⟩ = some (.int .i64 0) := HR3.out.cell 1; have r23 : w3.cell? ⟨w.heap.size, 2, none⟩ = some (.string ⟨#[]⟩) := HR3.out.cell 2; have z03 := HR3.out.frozen 0; have z13 := HR3.out.frozen 1; have z23 := HR3.out.frozen 2; clear hb3 hcl x0 x1 x2 r0 r1 r2 z0 z1 z2))
     obtain ⟨q0, q1, q2⟩ := rstored HR3.out (.int .i64 x) (.int .i64 y) (.string ⟨D.toArray⟩)
     refine qaN (v := .tuple #[.agg #[.int .i64 x, .int .i64 y, .string ⟨D.toArray⟩], .int .i64 (c + n), .int .i64 0]) (by simp [results, results100, go_sem, q0, q1, q2]) rfl ⟨by rw [HF.out], ybA HB3.out (qaf _) _ _ _⟩
   ·rw [qag h4] at hR
    have e0 : rh3 x y n = 150 := qag (by omega)
    rw [e0] at hc
    have HF := qaa hR
    clear hR e0
    go_wp2_with (first
     | (go_at_call 101; (with_reducible refine (hc.out _).mono ?_); rintro e w2 ⟨rfl, hb2⟩; have HB2 := qaa (HB.out.trans (hb2.mono HB.out.size)); have HR2 := qaa (HR.out.below hb2 HR.out.lt); have HH2 := qaa (HH.out.below hb2 HH.out.lt); have x0 : w2.cell? ⟨w.heap.size + 1, 0, none⟩ = some (.int .i64 x) := HH2.out.cell 0; have x1 : w2.cell? ⟨w.heap.size + 1, 1, none⟩ = some (.int .i64 y) := HH2.out.cell 1; have x2 : w2.cell? ⟨w.heap.size + 1, 2, none⟩ = some (.int .i64 n) := HH2.out.cell 2; have r0 : w2.cell? ⟨w.heap.size, 0, none⟩ = some (.int .i64 0) := HR2.out.cell 0; have r1 : w2.cell? ⟨w.heap.size, 1, none⟩ = some (.int .i64 0) := HR2.out.cell 1; have r2 : w2.cell? ⟨w.heap.size, 2, none⟩ = some (.string ⟨#[]⟩) := HR2.out.cell 2; have z0 := HR2.out.frozen 0; have z1 := HR2.out.frozen 1; have z2 := HR2.out.frozen 2; clear hb2 hc))
    obtain ⟨q0, q1, q2⟩ := rstored HR2.out (.int .i64 0) (.int .i64 0) (.string ⟨#[]⟩)
    refine qaN (v := .tuple #[.agg #[.int .i64 0, .int .i64 0, .string ⟨#[]⟩], .int .i64 0, .int .i64 150]) (by simp [results, results100, go_sem, q0, q1, q2]) rfl ⟨by rw [HF.out]; rfl, ybA HB2.out (qaf _) _ _ _⟩
def bsp (l : List UInt8) (i : Nat) : List Int := (List.range 256).map fun b => ((yaO l b + ybT l b i : Nat) : Int)
theorem bsp_len (l : List UInt8) (i : Nat) : (bsp l i).length = 256 := by simp [bsp]
theorem bsp_zero (l : List UInt8) : bbw l 256 = bsp l 0 := by
 unfold bbw bsp
 refine qc7 fun b hb => ?_
 rw [qah (qaU.1 hb)]
 unfold ybT
 rw [qbb]
 rfl
theorem bsp_at (l : List UInt8) (i b : Nat) (h : b < 256) : (ints (bsp l i))[b]? = some (.int .i64 ((yaO l b + ybT l b i : Nat) : Int)) := by
 rw [yao _ b (by rw [bsp_len]; exact h)]
 simp [bsp]
theorem bsp_set (l : List UInt8) (i : Nat) (hi : i < l.length) : (bsp l i).set l[i].toNat ((yaO l l[i].toNat + ybT l l[i].toNat i + 1 : Nat) : Int) = bsp l (i + 1) := by
 apply qbg
 ·rw [qbM, bsp_len, bsp_len]
 ·intro b h1 h2
  have hs : ybT l b (i + 1) = ybT l b i + if l[i].toNat = b then 1 else 0 := by
   unfold ybT
   rw [qap hi, qbK, List.countP_singleton]
   simp only [qaR]
  simp only [bsp, qcq, qaY, qbp]
  rw [hs]
  by_cases e : l[i].toNat = b
  ·rw [qah e, qah e, e, qcn]
  ·rw [qag e, qag e, qb0]
theorem p_stepper_any (l : List UInt8) (w : World) (hs : l.length ≤ 1000000) : Calls prog 177 #[.string ⟨l.toArray⟩] w fun e w' => ∃ g, e = .returned (.func (.func 198) #[] #[.pointer (some ⟨g, 0, none⟩)]) ∧ w.heap.size ≤ g ∧ Blk w' g 235 (ints (bsp l 0)).toArray ∧ Below w.heap.size w w' := by
 have hz := zero_ints256.1
 have Hp := qaa (p_below_any l w hs)
 rw [bsp_zero l] at Hp
 have hlen : (ints (bsp l 0)).toArray.size = 256 := by simp [ints, bsp_len]
 have hzl : (ints (List.replicate 256 0)).toArray.size = 256 := by simp [ints]
 have Hone := qaa (ints_one13 (bsp l 0))
 have hinfo := zero_ints256.2
 have Hi : Hid ((prog.info? 235).map (·.size) = some (ints (bsp l 0)).toArray.size) := qaa (by rw [hlen]; exact hinfo)
 have Hsz : Hid ((ints (List.replicate 256 0)).toArray.size = (ints (bsp l 0)).toArray.size) := qaa (by rw [hlen]; exact hzl)
 clear hinfo hlen hzl
 generalize (ints (List.replicate 256 0)).toArray = Z at *
 generalize (ints (bsp l 0)).toArray = D at *
 have hmf : ∀ (fn : Fn) (first cap : Array Value) (w : World), (Instr.makeFunc fn first cap).run prog w = .ok (.func fn first cap) w := fun _ _ _ _ => rfl
 go_enter func177, ntmps177
 go_wp2_with (first
  | (go_at_call 197; refine Hp.out.mono ?_; rintro e w1 ⟨rfl, hb1⟩; have Hb1 := qaa hb1; clear hb1)
  | (refine ybV rfl 235 _ _ rfl _ _ Z D rfl rfl (heap_alloc_new _ _) Hi.out Hsz.out Hone.out ?_; rw [World.setRow_alloc_new]))
 go_ret
 exact ⟨w1.heap.size, rfl, Hb1.out.size, Blk.new _ _ _, Hb1.out.alloc Hb1.out.size _⟩
theorem p_step_any (l : List UInt8) (i : Nat) (hi : i < l.length) (b : UInt8) (hb : l[i] = b) (g : Nat) (w : World) (hs : l.length ≤ 1000000) (hB : Blk w g 235 (ints (bsp l i)).toArray) :
  Calls prog 198 #[.int .u8 (b.toNat : Int), .pointer (some ⟨g, 0, none⟩)] w fun e w' => e = .returned (.int .i64 ((yaO l b.toNat + ybT l b.toNat i + 1 : Nat) : Int)) ∧ Blk w' g 235 (ints (bsp l (i + 1))).toArray ∧ ∃ v, w' = w.setCell ⟨g, b.toNat, none⟩ v := by
 have hset := bsp_set l i hi
 rw [hb] at hset
 have hlt := b.toNat_lt
 have x1 := hB.cell b.toNat
 rw [qan, bsp_at l i b.toNat (by omega)] at x1
 have x2 := hB.frozen b.toNat
 have hgl := hB.lt
 have hc : yaO l b.toNat + ybT l b.toNat i ≤ 2000000 := by
  have h1 := yho l b.toNat
  have h2 := bsame_le l b.toNat i
  omega
 have HB := qaa (hB.set_ b.toNat (.int .i64 ((yaO l b.toNat + ybT l b.toNat i + 1 : Nat) : Int)))
 rw [yaC, hset] at HB
 obtain ⟨c, hcc⟩ : ∃ c, yaO l b.toNat + ybT l b.toNat i = c := ⟨_, rfl⟩
 rw [hcc] at x1 hc HB ⊢
 obtain ⟨x, hx⟩ : ∃ x, b.toNat = x := ⟨_, rfl⟩
 rw [hx] at x1 x2 HB hlt ⊢
 have hci : (0 : Int) ≤ (c : Int) ∧ (c : Int) ≤ 2000000 ∧ (0 : Int) ≤ (x : Int) ∧ (x : Int) < 256 := by omega
 clear hset hcc hx hb hB hc hlt
 go_enter func198, ntmps198
 go_wp2
 go_ret
 exact ⟨rfl, HB.out, _, rfl⟩
def rowC (k : Nat) : List UInt8 := (List.range 256).map fun i => if i < k then UInt8.ofNat i else 0
theorem yfG (k : Nat) : (rowC k).length = 256 := by simp [rowC]
theorem rowC_get (k i : Nat) (h : i < 256) : (rowC k)[i]? = some (if i < k then UInt8.ofNat i else 0) := by simp [rowC, h]
theorem rowC_all : rowC 256 = row0 := by
 unfold rowC row0
 refine qc7 fun i hi => ?_
 rw [qah (qaU.1 hi)]
theorem rowC_set (k : Nat) : (rowC k).set k (UInt8.ofNat k) = rowC (k + 1) := by
 apply qc4
 intro i
 by_cases hi : i < 256
 ·rw [List.getElem?_set, rowC_get _ _ hi]
  by_cases e : k = i
  ·subst e
   rw [qah rfl, qah (by rw [yfG]; exact hi), rowC_get _ _ hi, qah (by omega)]
  ·rw [qag e, rowC_get _ _ hi]
   by_cases h1 : i < k
   ·rw [qah h1, qah (by omega)]
   ·rw [qag h1, qag (by omega)]
 ·rw [qbw (by rw [qbM, yfG]; omega), qbw (by rw [yfG]; omega)]
theorem bcl_set (l : List UInt8) (k : Nat) (b : UInt8) : (bc l).toList.set k (.int .u8 (b.toNat : Int)) = (bc (l.set k b)).toList := by simp [bc, qcs]
theorem cells_set (k : Nat) (h : k < 256) : (bc (rowC k)).toList.set k (.int .u8 (k : Int)) = (bc (rowC (k + 1))).toList := by
 have := bcl_set (rowC k) k (UInt8.ofNat k)
 rw [yaE _ h, rowC_set] at this
 exact this
theorem zero_row : (∀ w, (zeroValue 162).run prog w = .ok (.agg (bc (rowC 0)).toList.toArray) w) ∧ (prog.info? 162).map (·.size) = some 256 := zero_of_info (by kernel_rfl)
theorem alloc_congr {w : World} {a b : List Value} {t : TypeId} (h : a = b) : w.alloc (.cells a.toArray t) = w.alloc (.cells b.toArray t) := by rw [h]
theorem yfl (w : World) : Calls prog 75 #[] w fun e w' => e = .returned (.pointer (some ⟨w.heap.size, 0, none⟩)) ∧ w' = w.alloc (.cells (bc row0) 162) := by
 have hz := zero_row.1
 have Hset : Hid (∀ k, k < 256 → (bc (rowC k)).toList.set k (.int .u8 (k : Int)) = (bc (rowC (k + 1))).toList) := qaa cells_set
 have Hget : Hid (∀ k, k < 256 → ∃ v, (bc (rowC k)).toList[k]? = some v) := qaa fun k hk => ⟨_, qaj (by rw [Array.length_toList, ycy, yfG]; exact hk)⟩
 have he : bc row0 = (bc (rowC 256)).toList.toArray := by rw [rowC_all]
 rw [he]
 clear he
 generalize hf : (fun k => (bc (rowC k)).toList) = f at *
 have hf' : ∀ k, (bc (rowC k)).toList = f k := fun k => by rw [← hf]
 simp only [hf'] at *
 clear hf' hf
 generalize hZ : f 0 = Z at *
 have HZ := qaa hZ
 clear hZ
 generalize hD : f 256 = D at *
 have HD := qaa hD
 clear hD
 go_enter func75, ntmps75
 go_wp2
 go_loopw [3] (fun i wr => ∃ k : Nat, k ≤ 256 ∧ i = .int .i64 k ∧ Hid (wr = w.alloc (.cells (f k).toArray 162))) (fun i _ => 256 - (intOf i).toNat)
 case atStart => exact ⟨0, by omega, rfl, qaa (by rw [HZ.out])⟩
 case round =>
  obtain ⟨k, hk, rfl, Hw⟩ := hrel
  obtain rfl := Hw.out
  by_cases hlt : k < 256
  ·have hki : (0 : Int) ≤ (k : Int) ∧ (k : Int) < 256 := by omega
   have hm : (k : Int) % 256 = k := by omega
   obtain ⟨v, hv⟩ := Hget.out k hlt
   have Hs := qaa (Hset.out k hlt)
   clear hlt Hw
   go_wp2
   go_roundw
   case rel => exact ⟨k + 1, by omega, iv (by omega), qaa (alloc_congr Hs.out)⟩
   case measure => simp only [intOf]; omega
  ·obtain rfl : k = 256 := by omega
   rw [HD.out]
   go_wp2
   go_ret
   exact ⟨rfl, rfl⟩
theorem ygk (l : List UInt8) : (bc l).toList = l.map fun b => Value.int .u8 (b.toNat : Int) := by simp [bc]
theorem mv_row (R : List UInt8) (k : Nat) (hk : k < R.length) : ((bc R).toList.take 1 ++ ((bc R).toList.take k ++ (bc R).toList.drop (1 + k))).set 0 (.int .u8 ((R.getD k 0).toNat : Int)) = (bc (mv R k)).toList := by
 rw [ygk, ygk]
 unfold mv
 cases R with
 | nil => simp at hk
 | cons b t => simp [qc9 1 k]
theorem yhp {P : Program} {w : World} {ops : Array Oper} {rest : List Oper} {o : Oper} {a : Act} {Q : Exit → Act → World → Prop} (hgd : o.guard = none) (d s : Operand) (dT sT : TypeId)
  (ho : o.op = .call { callee := .builtin .copy, args := #[d, s], argTypes := #[dT, sT] }) (elem : TypeId) (hu : P.underlying dT = some (.slice elem)) (hsz : (P.info? elem).map (·.size) = some 1)
  (g off dLen dCap : Nat) (ad : Addr) (sLen sCap : Nat) (hd : a.eval d = .slice (some ⟨g, off, none⟩) dLen dCap) (hs : a.eval s = .slice (some ad) sLen sCap)
  (cur : Array Value) (t : TypeId) (hg : Blk w g t cur) (cs : List Value) (hn : cs.length = Nat.min sLen dLen)
  (hsrc : ∀ j v, cs[j]? = some v → w.cell? (ad.add j) = some v) (hfit : off + cs.length ≤ cur.size) (h1 : ∀ v ∈ cs, v.oneCell' = true)
  (N : List Value) (hN : cur.toList.take off ++ (cs ++ cur.toList.drop (off + cs.length)) = N)
  (h : ∀ w', w.grownBy w' (some g) → Blk w' g t N.toArray → wpList P ops Q rest (a.put o.dst (goInt cs.length)) w') : wpList P ops Q (o :: rest) a w := by
 refine wpList_copy_own hgd d s dT sT ho elem hu hsz g off dLen dCap ad sLen sCap hd hs cur t hg cs hn hsrc hfit h1 (h _ (grow_row _ _ _) ?_)
 rw [hN]
 exact hg.row _
theorem yfn (R : List UInt8) (h : Whole R) (k : Nat) (hk : k < 256) (g : Nat) (w : World) (hB : Blk w g 162 (bc R)) :
  Calls prog 122 #[.pointer (some ⟨g, 0, none⟩), .int .i64 (k : Int)] w fun e w' => e = .returned (.int .u8 ((R.getD k 0).toNat : Int)) ∧ w.grownBy w' (some g) ∧ Blk w' g 162 (bc (mv R k)) := by
 have hlen := h.len
 have hc : w.cell? ⟨g, k, none⟩ = some (.int .u8 ((R.getD k 0).toNat : Int)) := ycv hB (by rw [qar, qaj (by omega)]; rfl)
 have hki : (0 : Int) ≤ (k : Int) ∧ (k : Int) < 256 := by omega
 have hsz : ((bc R).toList.take k).length = k := by simp [ycy, hlen]; omega
 have hcopy : ∀ (a : Act) (ops : Array Oper) (Q : Exit → Act → World → Prop) (o : Oper) (d s : Operand), o.guard = none → o.op = .call { callee := .builtin .copy, args := #[d, s], argTypes := #[36, 36] } →
   a.eval d = .slice (some ⟨g, 1, none⟩) k 255 → a.eval s = .slice (some ⟨g, 0, none⟩) k 256 →
   (∀ w' N v, w.grownBy w' (some g) → Blk w' g 162 N → w'.cell? ⟨g, 0, none⟩ = some v → N.setIfInBounds 0 (.int .u8 ((R.getD k 0).toNat : Int)) = bc (mv R k) → wpList prog ops Q [] (a.put o.dst (goInt k)) w') → wpList prog ops Q [o] a w.drew := by
  intro a ops Q o d s hgd ho hd hs hh
  refine yhp hgd d s _ _ ho 5 underlying36 (by kernel_rfl) g 1 k 255 ⟨g, 0, none⟩ k 256 hd hs (bc R) 162 hB.drew ((bc R).toList.take k) (by rw [hsz]; exact (Nat.min_self k).symm)
   (fun j v hj => by
    rw [yco, List.getElem?_take] at *
    split at hj
    ·rw [qaL, hB.drew.cell]; simpa using hj
    ·cases hj)
   (by rw [hsz, ycy, hlen]; omega)
   (fun v hv => by
    have := qaV hv
    rw [ygk] at this
    obtain ⟨b, _, rfl⟩ := qbI.1 this
    rfl) _ rfl ?_
  intro w' hg hb
  rw [hsz] at hb ⊢
  have hm := mv_row R k (by omega)
  have hl : 0 < (List.take 1 (bc R).toList ++ (List.take k (bc R).toList ++ List.drop (1 + k) (bc R).toList)).length := by
   rw [qae, qao, Array.length_toList, ycy, hlen]
   omega
  generalize List.take 1 (bc R).toList ++ (List.take k (bc R).toList ++ List.drop (1 + k) (bc R).toList) = N at *
  refine hh w' N.toArray N[0] ⟨hg.os, hg.tape, hg.output, hg.size, hg.block⟩ hb ?_ ?_
  ·rw [hb.cell]; simp [hl]
  ·rw [qab, hm]
 have Hcopy := qaa hcopy
 clear hcopy hsz hB h hlen
 generalize ((R.getD k 0).toNat : Int) = bv at *
 generalize bc (mv R k) = M at *
 go_enter func122, ntmps122
 go_wp2
 have hw1 : IntKind.i64.wrap ((k : Int) + 1) = (k : Int) + 1 := by rw [qai]; omega
 have hk2 : (k : Int) + 1 ≤ 256 ∧ (k : Int) ≤ 256 ∧ 1 ≤ (k : Int) + 1 := by omega
 refine qb1 9 (by kernel_rfl) (by kernel_rfl) ?_
 simp only [qaJ, qbb, qbn, qb9]
 change wpStill _ _ (World.drew _) (fun a' => wpList _ _ _ _ a' (World.drew _)) _ _
 repeat still_step
 refine qcv ?_
 refine Hcopy.out _ _ _ _ _ _ rfl rfl rfl rfl ?_
 intro w1 N v hg hb hv hN
 have hf := hb.frozen 0
 have Hg := qaa hg
 have Hb := qaa hb
 have HN := qaa hN
 clear hg hb hN Hcopy
 go_wp2
 go_ret
 refine ⟨rfl, ybE Hg.out (qas rfl) _, ?_⟩
 rw [← HN.out]
 exact Hb.out.set_ 0 _
theorem index_pl (R : List UInt8) (b : UInt8) (h : b ∈ R) : Lib.indexByte R b = (pl R b : Int) := by
 unfold pl
 induction R with
 | nil => cases h
 | cons c t ih =>
  unfold Lib.indexByte
  rw [List.idxOf_cons]
  by_cases e : c = b
  ·simp [e]
  ·have ht : b ∈ t := by
    rcases qaB.1 h with h | h
    ·exact absurd h.symm e
    ·exact h
   have e2 : (c == b) = false := by simpa using e
   have h3 : ((List.idxOf b t : Int) == -1) = false := by rw [qbx]; omega
   rw [e2, ih ht, h3]
   simp
theorem bytesOf_map (R : List UInt8) : Lib.bytesOf (R.map fun b => (b.toNat : Int)) = R := by
 simp [Lib.bytesOf, Function.comp_def]
theorem fr_index_any (R : List UInt8) (h : Whole R) (b : UInt8) (g : Nat) (w : World) (hB : Blk w g 162 (bc R)) :
  Calls prog 121 #[.slice (some ⟨g, 0, none⟩) 256 256, .int .u8 (b.toNat : Int)] w fun e w' => e = .returned (.int .i64 (pl R b : Int)) ∧ w' = w := by
 have hrun := Lib.run_indexByteSlice (P := prog) w g 0 256 256 (R.map fun b => (b.toNat : Int)) (by rw [qaM, h.len]) (fun i hi => by
  have hi' : i < R.length := by rw [h.len]; exact hi
  rw [qaL, ycv hB (qaj hi')]
  simp [qar, hi']) (b.toNat : Int)
 rw [bytesOf_map, qav, show b.toNat.toUInt8 = b from UInt8.ofNat_toNat, index_pl R b (h.mem b)] at hrun
 have hlt := pl_lt h b
 generalize (b.toNat : Int) = bv at *
 generalize pl R b = j at *
 go_enter func121, ntmps121
 go_wp2
 rw [run_callFunc_extern func165 (by kernel_rfl) (by kernel_rfl) (by kernel_rfl) (e := Extern.BytealgIndexByte.indexByte) (by kernel_rfl), hrun]
 simp only [Result.andThen]
 rw [Oper.upon_value]
 go_wp2
 go_ret
 exact ⟨rfl, rfl⟩
theorem fr_step_any (R : List UInt8) (h : Whole R) (b : UInt8) (g : Nat) (w : World) (hB : Blk w g 162 (bc R)) :
  Calls prog 76 #[.pointer (some ⟨g, 0, none⟩), .int .u8 (b.toNat : Int)] w fun e w' => e = .returned (.int .i64 (pl R b : Int)) ∧ w.grownBy w' (some g) ∧ Blk w' g 162 (bc (mv R (pl R b))) := by
 have Hi := qaa (fr_index_any R h b g w hB)
 have Hr := qaa (yfn R h (pl R b) (pl_lt h b) g w hB)
 clear hB h
 generalize (b.toNat : Int) = bv at *
 generalize bc (mv R (pl R b)) = M at *
 generalize ((R.getD (pl R b) 0).toNat : Int) = v at *
 generalize (pl R b : Int) = j at *
 go_enter func76, ntmps76
 go_wp2_with (first
  | (go_at_call 121; refine Hi.out.mono ?_; rintro e w1 ⟨rfl, rfl⟩)
  | (go_at_call 122; refine Hr.out.mono ?_; rintro e w1 ⟨rfl, hg1, hb1⟩))
 go_ret
 exact ⟨rfl, hg1, hb1⟩
theorem done_yes (l : List UInt8) (p g : Nat) (w : World) (hl : l.length ≤ 1099511627776) (hp : p ≤ 8 * l.length) (hB : RHold w g l p) (h8 : 8 * l.length - p < 8) (hz : lz ((yaf l).drop p) = 8 * l.length - p) :
  Calls prog 90 #[.pointer (some ⟨g, 0, none⟩)] w fun e w' => e = .returned (.bool true) ∧ ∃ k, w.drewN k = w' := by
 have hnou := fun v hB => ycD l p g v hl hp hB
 have hleft := fun v hB => ybQ l p g v (by omega) hp hB
 rw [hz] at hnou
 have h8i : ((8 * l.length - p : Nat) : Int) < 8 := by omega
 have HB := qaa hB
 clear hB hz hp hl h8
 generalize 8 * l.length - p = M at *
 go_enter func90, ntmps90
 go_wp2_with (first
  | (go_at_call 129; refine (ycb g _).mono ?_; rintro e w1 ⟨rfl, rfl⟩)
  | (go_at_call 131; refine (hnou _ (HB.out.drewN _)).mono ?_; rintro e w1 ⟨rfl, k0, rfl⟩)
  | (go_at_call 130; (first | (refine (hleft _ HB.out).mono ?_) | (refine (hleft _ (HB.out.drewN _)).mono ?_)); rintro e w1 ⟨rfl, k1, rfl⟩))
 go_ret
 exact ⟨by simp, _, rfl⟩
end Go.Proofs.YtanjhbkbpalnaaaGreat
