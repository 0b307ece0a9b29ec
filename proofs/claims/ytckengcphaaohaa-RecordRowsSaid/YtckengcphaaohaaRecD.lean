/-
  Layer 15, the program's: Get of a record, at every place of any bytes.
-/
import Derived.Test.YtckengcphaaohaaRecB
import Derived.Test.YtckengcphaaohaaRecS
import Derived.Test.YtckengcphaaohaaVarG0
import Derived.Test.YtckengcphaaohaaClone
namespace Go.Proofs.Ytckengcphaaohaa
set_option linter.unusedSimpArgs false
set_option linter.unusedVariables false
open Go.ChangeShapes Go.WideShapes Go.ChangeAt Go.RowKit Go.Joins Go.Deep
def rpl (s : List UInt8) (p : Int) : Nat → Int
  | 0 => p
  | k + 1 => (getF s (rpl s p k)).2.1
def rer (s : List UInt8) (p : Int) (k : Nat) : Int := (getF s (rpl s p k)).2.2
def rno (s : List UInt8) (p : Int) (k : Nat) : Int := (getF s (rpl s p k)).1
def rfill (s : List UInt8) (p : Int) : Nat → List Int
  | 0 => [0, 0, 0]
  | 1 => [rno s p 0, 0, 0]
  | 2 => [rno s p 0, rno s p 1, 0]
  | _ => [rno s p 0, rno s p 1, rno s p 2]
theorem rfill_set (s : List UInt8) (p : Int) (k : Nat) (h : k < 3) : (ints (rfill s p k)).toArray.setIfInBounds k (.int .i64 (rno s p k)) = (ints (rfill s p (k + 1))).toArray := by
  match k, h with
  | 0, _ => rfl
  | 1, _ => rfl
  | 2, _ => rfl
theorem rget_bad (s : List UInt8) (p : Int) (k : Nat) (hk : k < 3) (h : ∀ j, j < k → rer s p j = 0) (he : rer s p k ≠ 0) : rgetF s p = (rnone, 0, rer s p k) := by
  unfold rgetF
  by_cases h0 : k = 0
  · subst h0
    exact if_pos he
  have e0 : (getF s p).2.2 = 0 := h 0 (by omega)
  rw [if_neg (by omega)]
  unfold rg1
  by_cases h1 : k = 1
  · subst h1
    exact if_pos he
  have e1 : (getF s (getF s p).2.1).2.2 = 0 := h 1 (by omega)
  rw [if_neg (by omega)]
  obtain rfl : k = 2 := by omega
  exact if_pos he
theorem rget_end (s : List UInt8) (p : Int) (h : ∀ j, j < 3 → rer s p j = 0) : rgetF s p = rg3 s (rno s p 0) (rno s p 1) (rno s p 2) (rpl s p 3) := by
  have e0 : (getF s p).2.2 = 0 := h 0 (by omega)
  have e1 : (getF s (getF s p).2.1).2.2 = 0 := h 1 (by omega)
  have e2 : (getF s (getF s (getF s p).2.1).2.1).2.2 = 0 := h 2 (by omega)
  unfold rgetF
  rw [if_neg (by omega)]
  unfold rg1
  rw [if_neg (by omega)]
  unfold rg2
  rw [if_neg (by omega)]
  rfl
theorem rno_at (s : List UInt8) (p : Int) (k : Nat) (h : rer s p k = 0) : 0 ≤ rno s p k ∧ 0 ≤ rpl s p (k + 1) ∧ rpl s p (k + 1) ≤ s.length := by
  have := rnum_ok h
  exact ⟨this.2.2.1, by show (0 : Int) ≤ (getF s (rpl s p k)).2.1; omega, this.2.2.2.2.2.1⟩
theorem rfill_len (s : List UInt8) (p : Int) : ∀ k, (rfill s p k).length = 3
  | 0 => rfl
  | 1 => rfl
  | 2 => rfl
  | _ + 3 => rfl
theorem rcell_some {w : World} {g : Nat} {t : TypeId} {l : List Int} {k : Nat} (h : Blk w g t (ints l).toArray) (hk : k < l.length) : w.cell? ⟨g, k, none⟩ = some (.int .i64 l[k]) := by
  rw [h.cell k]
  simpa using ints_get l k hk
theorem rstored {W : World} {g : Nat} {x0 x1 x2 : Value} (h : Blk W g 23 #[x0, x1, x2]) (a b c : Value) :
    (W.setCell ⟨g, 0, none⟩ a).cell? ⟨g, 0, none⟩ = some a ∧ ((W.setCell ⟨g, 0, none⟩ a).setCell ⟨g, 1, none⟩ b).cell? ⟨g, 1, none⟩ = some b ∧ (((W.setCell ⟨g, 0, none⟩ a).setCell ⟨g, 1, none⟩ b).setCell ⟨g, 2, none⟩ c).cell? ⟨g, 2, none⟩ = some c :=
  ⟨(h.set_ 0 a).cell 0, ((h.set_ 0 a).set_ 1 b).cell 1, (((h.set_ 0 a).set_ 1 b).set_ 2 c).cell 2⟩
theorem rstored_below {W w : World} {g : Nat} (hb : Below w.heap.size w W) (hg : w.heap.size ≤ g) (a b c : Value) : Below w.heap.size w (((W.setCell ⟨g, 0, none⟩ a).setCell ⟨g, 1, none⟩ b).setCell ⟨g, 2, none⟩ c) :=
  ((hb.setCell (p := ⟨g, 0, none⟩) hg _).setCell (p := ⟨g, 1, none⟩) hg _).setCell (p := ⟨g, 2, none⟩) hg _
set_option maxRecDepth 100000 in
set_option maxHeartbeats 4000000 in
theorem p_rget_any (s : List UInt8) (p : Int) (w : World) (hs : s.length ≤ 1000000) :
    Calls Try.prog 11 #[.string ⟨s.toArray⟩, .int .i64 p] w fun e w' => RGPost w w' e (rgetF s p) := by
  unfold RGPost
  have HR0 := Blk.new w 23 #[.int .i64 0, .int .i64 0, .string ⟨#[]⟩]
  have HI0 : Hid (Blk ((w.alloc (.cells #[.int .i64 0, .int .i64 0, .string ⟨#[]⟩] 23)).alloc (.cells #[.int .i64 0, .int .i64 0, .int .i64 0] 54)) w.heap.size 23 #[.int .i64 0, .int .i64 0, .string ⟨#[]⟩] ∧
      Blk ((w.alloc (.cells #[.int .i64 0, .int .i64 0, .string ⟨#[]⟩] 23)).alloc (.cells #[.int .i64 0, .int .i64 0, .int .i64 0] 54)) (w.heap.size + 1) 54 (ints (rfill s p 0)).toArray ∧
      Below w.heap.size w ((w.alloc (.cells #[.int .i64 0, .int .i64 0, .string ⟨#[]⟩] 23)).alloc (.cells #[.int .i64 0, .int .i64 0, .int .i64 0] 54))) := Lib.hid ⟨HR0.alloc _, by
        have := Blk.new (w.alloc (.cells #[.int .i64 0, .int .i64 0, .string ⟨#[]⟩] 23)) 54 #[.int .i64 0, .int .i64 0, .int .i64 0]
        rwa [World.size_alloc] at this, ((Below.refl _ _).alloc (Nat.le_refl _) _).alloc (by rw [World.size_alloc]; omega) _⟩
  have Hg : Hid (∀ k W, Calls Try.prog 26 #[.string ⟨s.toArray⟩, .int .i64 (rpl s p k)] W fun e w' => e = .returned (.tuple #[.int .i64 (rno s p k), .int .i64 (rpl s p (k + 1)), .int .i64 (rer s p k)]) ∧ W = w') := Lib.hid fun k W => get_any s (rpl s p k) W (by omega)
  have Hbad := Lib.hid fun k hk h he => rget_bad s p k hk h he
  have Hend := Lib.hid fun h => rget_end s p h
  have Hset := Lib.hid fun k h => rfill_set s p k h
  have Hno := Lib.hid fun k h => rno_at s p k h
  have H3 : Hid (rfill s p 3 = [rno s p 0, rno s p 1, rno s p 2]) := Lib.hid rfl
  have Hlen : Hid (∀ k, (rfill s p k).length = 3) := Lib.hid (rfill_len s p)
  have HP0 : Hid (rpl s p 0 = p) := Lib.hid rfl
  clear HR0
  generalize rgetF s p = R at *
  generalize rfill s p = F at *
  generalize rer s p = E at *
  generalize rno s p = N at *
  generalize rpl s p = T at *
  go_enter Try.func11, Try.ntmps11
  go_wp2
  go_loopw [5, 6, 8, 12] (fun tv ev _ iv wr => ∃ k : Nat, k ≤ 3 ∧ iv = .int .i64 (k : Int) ∧ tv = .int .i64 (T k) ∧ ev = .int .i64 0 ∧ Hid (∀ j, j < k → E j = 0) ∧ Hid (Blk wr w.heap.size 23 #[.int .i64 0, .int .i64 0, .string ⟨#[]⟩] ∧ Blk wr (w.heap.size + 1) 54 (ints (F k)).toArray ∧ Below w.heap.size w wr)) (fun _ _ _ iv _ => 3 - (intOf iv).toNat)
  case atStart => exact ⟨0, by omega, rfl, by rw [HP0.out], rfl, Lib.hid fun j hj => absurd hj (Nat.not_lt_zero _), HI0⟩
  case round =>
    obtain ⟨k, hk, rfl, rfl, rfl, HE, HI⟩ := hrel
    by_cases hlt : k < 3
    · have hki : (0 : Int) ≤ (k : Int) ∧ (k : Int) < 3 := by omega
      have hg := Lib.hid (Hg.out k)
      have hfz : wr.frozen? ⟨w.heap.size + 1, k, none⟩ = false := HI.out.2.1.frozen k
      have hku : ∃ u, wr.cell? ⟨w.heap.size + 1, k, none⟩ = some u := ⟨_, rcell_some HI.out.2.1 (by rw [Hlen.out]; exact hlt)⟩
      obtain ⟨u, hu⟩ := hku
      have r0 : wr.cell? ⟨w.heap.size, 0, none⟩ = some (.int .i64 0) := HI.out.1.cell 0
      have r1 : wr.cell? ⟨w.heap.size, 1, none⟩ = some (.int .i64 0) := HI.out.1.cell 1
      have r2 : wr.cell? ⟨w.heap.size, 2, none⟩ = some (.string ⟨#[]⟩) := HI.out.1.cell 2
      have z0 : wr.frozen? ⟨w.heap.size, 0, none⟩ = false := HI.out.1.frozen 0
      have z1 : wr.frozen? ⟨w.heap.size, 1, none⟩ = false := HI.out.1.frozen 1
      have z2 : wr.frozen? ⟨w.heap.size, 2, none⟩ = false := HI.out.1.frozen 2
      have HI2 : Hid (∀ W, W = wr.setCell ⟨w.heap.size + 1, k, none⟩ (.int .i64 (N k)) → Blk W w.heap.size 23 #[.int .i64 0, .int .i64 0, .string ⟨#[]⟩] ∧ Blk W (w.heap.size + 1) 54 (ints (F (k + 1))).toArray ∧ Below w.heap.size w W) := Lib.hid fun W hW => by
        subst hW
        refine ⟨Blk.far HI.out.1 (by simp) _, ?_, HI.out.2.2.setCell (p := ⟨w.heap.size + 1, k, none⟩) (by show w.heap.size ≤ w.heap.size + 1; omega) _⟩
        rw [← Hset.out k hlt]
        exact HI.out.2.1.set_ k _
      by_cases he : E k ≠ 0
      · have HF := Lib.hid (Hbad.out k hlt HE.out he)
        have HB := Lib.hid HI.out.2.2
        clear Hbad Hend Hset Hno H3 HP0 HI0 Hg HE
        generalize N k = z at *
        generalize T (k + 1) = q at *
        generalize E k = ek at *
        go_wp2_with (go_at_call 26; (with_reducible refine (hg.out _).mono ?_); rintro e w1 ⟨rfl, rfl⟩; clear hg)
        have HI3 := HI2.out _ rfl
        obtain ⟨q0, q1, q2⟩ := rstored HI3.1 (.int .i64 0) (.int .i64 0) (.string ⟨#[]⟩)
        refine bodyPost_ret (v := .tuple #[.agg #[.int .i64 0, .int .i64 0, .string ⟨#[]⟩], .int .i64 0, .int .i64 ek]) (by simp [results, Try.results11, go_sem, q0, q1, q2]) rfl ⟨by rw [HF.out]; rfl, rstored_below HI3.2.2 (Nat.le_refl _) _ _ _⟩
      · obtain he : E k = 0 := by omega
        have HE2 : Hid (∀ j, j < k + 1 → E j = 0) := Lib.hid fun j hj => by
          by_cases h : j = k
          · rw [h]; exact he
          · exact HE.out j (by omega)
        rw [he] at hg
        clear Hbad Hend Hset Hno H3 HP0 HI0 Hg HE he
        generalize N k = z at *
        generalize hq : T (k + 1) = q at *
        go_wp2_with (go_at_call 26; (with_reducible refine (hg.out _).mono ?_); rintro e w1 ⟨rfl, rfl⟩; clear hg)
        go_roundw
        case rel => exact ⟨k + 1, by omega, iv (by omega), by rw [hq], rfl, HE2, Lib.hid (HI2.out _ rfl)⟩
        case measure => simp only [intOf]; omega
    · obtain rfl : k = 3 := by omega
      have hR := Hend.out HE.out
      have n0 := (Hno.out 0 (HE.out 0 (by omega))).1
      have n1 := (Hno.out 1 (HE.out 1 (by omega))).1
      have n2 := (Hno.out 2 (HE.out 2 (by omega)))
      have hH := HI.out.2.1
      rw [H3.out] at hH
      have HB := Lib.hid HI.out.2.2
      have HR := Lib.hid HI.out.1
      clear Hbad Hend Hset Hno H3 HP0 HI0 Hg HE HI Hlen
      generalize N 0 = x at *
      generalize N 1 = y at *
      generalize N 2 = n at *
      generalize T 3 = c at *
      have HH : Hid (Blk wr (w.heap.size + 1) 54 #[.int .i64 x, .int .i64 y, .int .i64 n]) := Lib.hid hH
      have hc := Lib.hid fun W => p_hcheck_any x y n W
      have y0 : wr.cell? ⟨w.heap.size + 1, 0, none⟩ = some (.int .i64 x) := HH.out.cell 0
      have y1 : wr.cell? ⟨w.heap.size + 1, 1, none⟩ = some (.int .i64 y) := HH.out.cell 1
      have y2 : wr.cell? ⟨w.heap.size + 1, 2, none⟩ = some (.int .i64 n) := HH.out.cell 2
      have hci : (0 : Int) ≤ c ∧ c ≤ 1000000 := by omega
      unfold rg3 at hR
      clear hH
      by_cases h4 : 1 ≤ x ∧ x ≤ 1000000000 ∧ y ≤ 1000000000 ∧ n ≤ 2000
      · rw [if_pos h4] at hR
        have e0 : rh3 x y n = 0 := if_pos (by omega)
        rw [e0] at hc
        have hni : (0 : Int) ≤ n ∧ n ≤ 2000 := by omega
        by_cases h5 : (s.length : Int) < c + n
        · rw [if_pos h5] at hR
          have HF := Lib.hid hR
          have hgt : (s.length : Int) - c < n := by omega
          clear hR e0
          go_wp2_with (first
            | (go_at_call 27; (with_reducible refine (hc.out _).mono ?_); rintro e w2 ⟨rfl, hb2⟩; have HB2 := Lib.hid (HB.out.trans (hb2.mono HB.out.size)); have HR2 := Lib.hid (HR.out.below hb2 HR.out.lt); have HH2 := Lib.hid (HH.out.below hb2 HH.out.lt); have x0 : w2.cell? ⟨w.heap.size + 1, 0, none⟩ = some (.int .i64 x) := HH2.out.cell 0; have x1 : w2.cell? ⟨w.heap.size + 1, 1, none⟩ = some (.int .i64 y) := HH2.out.cell 1; have x2 : w2.cell? ⟨w.heap.size + 1, 2, none⟩ = some (.int .i64 n) := HH2.out.cell 2; have r0 : w2.cell? ⟨w.heap.size, 0, none⟩ = some (.int .i64 0) := HR2.out.cell 0; have r1 : w2.cell? ⟨w.heap.size, 1, none⟩ = some (.int .i64 0) := HR2.out.cell 1; have r2 : w2.cell? ⟨w.heap.size, 2, none⟩ = some (.string ⟨#[]⟩) := HR2.out.cell 2; have z0 := HR2.out.frozen 0; have z1 := HR2.out.frozen 1; have z2 := HR2.out.frozen 2; clear hb2 hc))
          obtain ⟨q0, q1, q2⟩ := rstored HR2.out (.int .i64 0) (.int .i64 0) (.string ⟨#[]⟩)
          refine bodyPost_ret (v := .tuple #[.agg #[.int .i64 0, .int .i64 0, .string ⟨#[]⟩], .int .i64 0, .int .i64 4]) (by simp [results, Try.results11, go_sem, q0, q1, q2]) rfl ⟨by rw [HF.out]; rfl, rstored_below HB2.out (Nat.le_refl _) _ _ _⟩
        · rw [if_neg h5] at hR
          have HF := Lib.hid hR
          have hgt : ¬ (s.length : Int) - c < n := by omega
          have hsl := rrun_part s c n (by omega) (by omega) (by omega)
          have hcl := Lib.hid fun W => clone_any ((s.drop c.toNat).take n.toNat) W (by rw [List.length_take, List.length_drop]; omega)
          clear hR e0
          generalize (s.drop c.toNat).take n.toNat = D at *
          go_wp2_with (first
            | (go_at_call 27; (with_reducible refine (hc.out _).mono ?_); rintro e w2 ⟨rfl, hb2⟩; have HB2 := Lib.hid (HB.out.trans (hb2.mono HB.out.size)); have HR2 := Lib.hid (HR.out.below hb2 HR.out.lt); have HH2 := Lib.hid (HH.out.below hb2 HH.out.lt); have x0 : w2.cell? ⟨w.heap.size + 1, 0, none⟩ = some (.int .i64 x) := HH2.out.cell 0; have x1 : w2.cell? ⟨w.heap.size + 1, 1, none⟩ = some (.int .i64 y) := HH2.out.cell 1; have x2 : w2.cell? ⟨w.heap.size + 1, 2, none⟩ = some (.int .i64 n) := HH2.out.cell 2; have r0 : w2.cell? ⟨w.heap.size, 0, none⟩ = some (.int .i64 0) := HR2.out.cell 0; have r1 : w2.cell? ⟨w.heap.size, 1, none⟩ = some (.int .i64 0) := HR2.out.cell 1; have r2 : w2.cell? ⟨w.heap.size, 2, none⟩ = some (.string ⟨#[]⟩) := HR2.out.cell 2; have z0 := HR2.out.frozen 0; have z1 := HR2.out.frozen 1; have z2 := HR2.out.frozen 2; clear hb2 hc)
            | (go_at_call 28; (with_reducible refine (hcl.out _).mono ?_); rintro e w3 ⟨rfl, hb3⟩; have HB3 := Lib.hid (HB2.out.trans (hb3.mono HB2.out.size)); have HR3 := Lib.hid (HR2.out.below hb3 HR2.out.lt); have HH3 := Lib.hid (HH2.out.below hb3 HH2.out.lt); have x03 : w3.cell? ⟨w.heap.size + 1, 0, none⟩ = some (.int .i64 x) := HH3.out.cell 0; have x13 : w3.cell? ⟨w.heap.size + 1, 1, none⟩ = some (.int .i64 y) := HH3.out.cell 1; have r03 : w3.cell? ⟨w.heap.size, 0, none⟩ = some (.int .i64 0) := HR3.out.cell 0; have r13 : w3.cell? ⟨w.heap.size, 1, none⟩ = some (.int .i64 0) := HR3.out.cell 1; have r23 : w3.cell? ⟨w.heap.size, 2, none⟩ = some (.string ⟨#[]⟩) := HR3.out.cell 2; have z03 := HR3.out.frozen 0; have z13 := HR3.out.frozen 1; have z23 := HR3.out.frozen 2; clear hb3 hcl x0 x1 x2 r0 r1 r2 z0 z1 z2))
          obtain ⟨q0, q1, q2⟩ := rstored HR3.out (.int .i64 x) (.int .i64 y) (.string ⟨D.toArray⟩)
          refine bodyPost_ret (v := .tuple #[.agg #[.int .i64 x, .int .i64 y, .string ⟨D.toArray⟩], .int .i64 (c + n), .int .i64 0]) (by simp [results, Try.results11, go_sem, q0, q1, q2]) rfl ⟨by rw [HF.out], rstored_below HB3.out (Nat.le_refl _) _ _ _⟩
      · rw [if_neg h4] at hR
        have e0 : rh3 x y n = 150 := if_neg (by omega)
        rw [e0] at hc
        have HF := Lib.hid hR
        clear hR e0
        go_wp2_with (first
          | (go_at_call 27; (with_reducible refine (hc.out _).mono ?_); rintro e w2 ⟨rfl, hb2⟩; have HB2 := Lib.hid (HB.out.trans (hb2.mono HB.out.size)); have HR2 := Lib.hid (HR.out.below hb2 HR.out.lt); have HH2 := Lib.hid (HH.out.below hb2 HH.out.lt); have x0 : w2.cell? ⟨w.heap.size + 1, 0, none⟩ = some (.int .i64 x) := HH2.out.cell 0; have x1 : w2.cell? ⟨w.heap.size + 1, 1, none⟩ = some (.int .i64 y) := HH2.out.cell 1; have x2 : w2.cell? ⟨w.heap.size + 1, 2, none⟩ = some (.int .i64 n) := HH2.out.cell 2; have r0 : w2.cell? ⟨w.heap.size, 0, none⟩ = some (.int .i64 0) := HR2.out.cell 0; have r1 : w2.cell? ⟨w.heap.size, 1, none⟩ = some (.int .i64 0) := HR2.out.cell 1; have r2 : w2.cell? ⟨w.heap.size, 2, none⟩ = some (.string ⟨#[]⟩) := HR2.out.cell 2; have z0 := HR2.out.frozen 0; have z1 := HR2.out.frozen 1; have z2 := HR2.out.frozen 2; clear hb2 hc))
        obtain ⟨q0, q1, q2⟩ := rstored HR2.out (.int .i64 0) (.int .i64 0) (.string ⟨#[]⟩)
        refine bodyPost_ret (v := .tuple #[.agg #[.int .i64 0, .int .i64 0, .string ⟨#[]⟩], .int .i64 0, .int .i64 150]) (by simp [results, Try.results11, go_sem, q0, q1, q2]) rfl ⟨by rw [HF.out]; rfl, rstored_below HB2.out (Nat.le_refl _) _ _ _⟩
end Go.Proofs.Ytckengcphaaohaa
