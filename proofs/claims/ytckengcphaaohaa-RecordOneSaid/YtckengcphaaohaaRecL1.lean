/-
  Any record may be, or not, and has the document's bytes; at any place of any bytes its record stands, or none; the layer's probe holds (RecordOne). No condition.
-/
import Derived.Test.YtckengcphaaohaaRecAw
import Derived.Test.YtckengcphaaohaaFrame
namespace Go.Proofs.Ytckengcphaaohaa
set_option linter.unusedSimpArgs false
set_option linter.unusedVariables false
open Go.ChangeShapes Go.WideShapes Go.ChangeAt Go.RowKit Go.Joins Go.Deep
set_option maxHeartbeats 2000000 in
theorem recordOne_far0 (r : Rc) (s : List UInt8) (p : Int) (w : World) (h : fewF [r] = false) :
    Calls Try.prog 3 #[.agg #[.int .i64 r.1, .int .i64 r.2.1, .string ⟨r.2.2.toArray⟩], .string ⟨s.toArray⟩, .int .i64 p] w fun e w' => e = .returned (.bool true) ∧ Below w.heap.size w w' := by
  have Hb := Lib.hid (Below.refl w.heap.size w)
  have HB0 := Lib.hid ((Below.refl w.heap.size w).alloc (Nat.le_refl _) (.cells #[.int .i64 r.1, .int .i64 r.2.1, .string ⟨r.2.2.toArray⟩] 23))
  have HR0 := Lib.hid (Blk.new w 23 #[.int .i64 r.1, .int .i64 r.2.1, .string ⟨r.2.2.toArray⟩])
  have hf1 := Lib.hid (rfew_any r false h (w.alloc (.cells #[.int .i64 r.1, .int .i64 r.2.1, .string ⟨r.2.2.toArray⟩] 23)))
  simp only [World.size_alloc] at hf1
  go_enter Try.func3, Try.ntmps3
  go_wp2_with (first
    | (go_at_call 7; (with_reducible refine hf1.out.mono ?_); rintro e w1 ⟨rfl, hb1⟩; replace Hb := Lib.hid (HB0.out.trans (hb1.mono (Nat.le_succ _))); have HR1 := Lib.hid (HR0.out.below hb1 (Nat.lt_succ_self _)); clear hb1 hf1)
    | (go_at_call 8; refine (awake15_any _).mono ?_; rintro e w9 ⟨rfl, hb9⟩; replace Hb := Lib.hid (Hb.out.trans (hb9.mono Hb.out.size)); clear hb9))
  go_ret
  exact ⟨rfl, Hb.out⟩
set_option maxHeartbeats 2000000 in
theorem recordOne_far1 (r : Rc) (s : List UInt8) (p : Int) (w : World) (h : fewF [r] = true) (h2 : 5000 < s.length) :
    Calls Try.prog 3 #[.agg #[.int .i64 r.1, .int .i64 r.2.1, .string ⟨r.2.2.toArray⟩], .string ⟨s.toArray⟩, .int .i64 p] w fun e w' => e = .returned (.bool true) ∧ Below w.heap.size w w' := by
  have Hb := Lib.hid (Below.refl w.heap.size w)
  have HB0 := Lib.hid ((Below.refl w.heap.size w).alloc (Nat.le_refl _) (.cells #[.int .i64 r.1, .int .i64 r.2.1, .string ⟨r.2.2.toArray⟩] 23))
  have HR0 := Lib.hid (Blk.new w 23 #[.int .i64 r.1, .int .i64 r.2.1, .string ⟨r.2.2.toArray⟩])
  have hf1 := Lib.hid (rfew_any r true h (w.alloc (.cells #[.int .i64 r.1, .int .i64 r.2.1, .string ⟨r.2.2.toArray⟩] 23)))
  simp only [World.size_alloc] at hf1
  have h1 : (5000 : Int) < s.length := by omega
  go_enter Try.func3, Try.ntmps3
  go_wp2_with (first
    | (go_at_call 7; (with_reducible refine hf1.out.mono ?_); rintro e w1 ⟨rfl, hb1⟩; replace Hb := Lib.hid (HB0.out.trans (hb1.mono (Nat.le_succ _))); have HR1 := Lib.hid (HR0.out.below hb1 (Nat.lt_succ_self _)); clear hb1 hf1)
    | (go_at_call 8; refine (awake15_any _).mono ?_; rintro e w9 ⟨rfl, hb9⟩; replace Hb := Lib.hid (Hb.out.trans (hb9.mono Hb.out.size)); clear hb9))
  go_ret
  exact ⟨rfl, Hb.out⟩
structure ROne (w W : World) (g gc gd : Nat) (cs cq : Array Value) : Prop where
  own : Blk W g 23 cs
  c : Blk W gc 23 cq
  d : Blk W gd 23 cq
  below : Below w.heap.size w W
theorem ROne.next {w W W' : World} {g gc gd : Nat} {cs cq : Array Value} (h : ROne w W g gc gd cs cq) (hb : Below W.heap.size W W') : ROne w W' g gc gd cs cq :=
  ⟨h.own.below hb h.own.lt, h.c.below hb h.c.lt, h.d.below hb h.d.lt, h.below.trans (hb.mono h.below.size)⟩
set_option maxRecDepth 100000 in
set_option maxHeartbeats 8000000 in
theorem recordOne_near (r : Rc) (s : List UInt8) (p : Int) (w : World) (h : fewF [r] = true) (h2 : s.length ≤ 5000) :
    Calls Try.prog 3 #[.agg #[.int .i64 r.1, .int .i64 r.2.1, .string ⟨r.2.2.toArray⟩], .string ⟨s.toArray⟩, .int .i64 p] w fun e w' => e = .returned (.bool true) ∧ Below w.heap.size w w' := by
  have Hb := Lib.hid (Below.refl w.heap.size w)
  have HB0 := Lib.hid ((Below.refl w.heap.size w).alloc (Nat.le_refl _) (.cells #[.int .i64 r.1, .int .i64 r.2.1, .string ⟨r.2.2.toArray⟩] 23))
  have HR0 := Lib.hid (Blk.new w 23 #[.int .i64 r.1, .int .i64 r.2.1, .string ⟨r.2.2.toArray⟩])
  have hf1 := Lib.hid (rfew_any r true h (w.alloc (.cells #[.int .i64 r.1, .int .i64 r.2.1, .string ⟨r.2.2.toArray⟩] 23)))
  simp only [World.size_alloc] at hf1
  have h1 : ¬ (5000 : Int) < s.length := by omega
  have P1 := Lib.hid fun W => p_rput_any r.1 r.2.1 r.2.2 W
  have P2 := Lib.hid fun W => rref_put_any r.1 r.2.1 r.2.2 W
  have C1 := Lib.hid fun W => p_rcheck_any r.1 r.2.1 r.2.2 W
  have C2 := Lib.hid fun W => rref_check_any r.1 r.2.1 r.2.2 W
  have Z1 := Lib.hid fun W => p_rsize_any r.1 r.2.1 r.2.2 W
  have Z2 := Lib.hid fun W => rref_size_any r.1 r.2.1 r.2.2 W
  have G1 := fun W => p_rget_any s p W (by omega)
  have G2 := fun W => rref_get_any s p W (by omega)
  unfold RGPost at G1 G2
  replace G1 := Lib.hid G1
  replace G2 := Lib.hid G2
  clear h h2
  obtain ⟨x, y, d⟩ := r
  dsimp only at *
  generalize (rputF (x, y, d)).1 = X2 at *
  generalize (rputF (x, y, d)).2 = E2 at *
  generalize rchk (x, y, d) = E3 at *
  generalize (rsizeF (x, y, d) : Int) = E4 at *
  generalize rgetF s p = U at *
  obtain ⟨⟨x6, y6, d6⟩, p6, e6⟩ := U
  dsimp only at *
  have heq := fun W => rrec_same x6 y6 d6 W
  have hgu := rrec_guard
  have q2 : (E2 == E2) = true := beq_self_eq_true _
  have q3 : (E3 == E3) = true := beq_self_eq_true _
  have q4 : (E4 == E4) = true := beq_self_eq_true _
  have q6 : (p6 == p6) = true := beq_self_eq_true _
  have q7 : (e6 == e6) = true := beq_self_eq_true _
  go_enter Try.func3, Try.ntmps3
  go_wp2_with (first
    | (go_at_call 7; (with_reducible refine hf1.out.mono ?_); rintro e w1 ⟨rfl, hb1⟩; replace Hb := Lib.hid (HB0.out.trans (hb1.mono (Nat.le_succ _))); have HR1 := Lib.hid (HR0.out.below hb1 (Nat.lt_succ_self _)); clear hb1 hf1; have t0 : w1.cell? ⟨w.heap.size, 0, none⟩ = some (.int .i64 x) := HR1.out.cell 0; have t1 : w1.cell? ⟨w.heap.size, 1, none⟩ = some (.int .i64 y) := HR1.out.cell 1; have t2 : w1.cell? ⟨w.heap.size, 2, none⟩ = some (.string ⟨d.toArray⟩) := HR1.out.cell 2)
    | (go_at_call 9; (with_reducible refine (P1.out _).mono ?_); rintro e w2 ⟨rfl, hb2⟩; have HR2 := Lib.hid (HR1.out.below hb2 HR1.out.lt); replace Hb := Lib.hid (Hb.out.trans (hb2.mono Hb.out.size)); clear hb2; have u0 : w2.cell? ⟨w.heap.size, 0, none⟩ = some (.int .i64 x) := HR2.out.cell 0; have u1 : w2.cell? ⟨w.heap.size, 1, none⟩ = some (.int .i64 y) := HR2.out.cell 1; have u2 : w2.cell? ⟨w.heap.size, 2, none⟩ = some (.string ⟨d.toArray⟩) := HR2.out.cell 2; clear P1)
    | (go_at_call 10; (with_reducible refine (P2.out _).mono ?_); rintro e w3 ⟨rfl, hb3⟩; have HR3 := Lib.hid (HR2.out.below hb3 HR2.out.lt); replace Hb := Lib.hid (Hb.out.trans (hb3.mono Hb.out.size)); clear hb3; clear P2)
    | (go_at_call 11; (with_reducible refine (G1.out _).mono ?_); rintro e w4 ⟨rfl, hb4⟩; have HR4 := Lib.hid ((HR3.out.below hb4 HR3.out.lt).alloc (.cells #[.int .i64 x6, .int .i64 y6, .string ⟨d6.toArray⟩] 23)); have HC4 := Lib.hid (Blk.new w4 23 #[.int .i64 x6, .int .i64 y6, .string ⟨d6.toArray⟩]); replace Hb := Lib.hid (Hb.out.trans (hb4.mono Hb.out.size)); clear hb4; replace Hb := Lib.hid (Hb.out.alloc Hb.out.size (.cells #[.int .i64 x6, .int .i64 y6, .string ⟨d6.toArray⟩] 23)); clear G1)
    | (go_at_call 12; (with_reducible refine (G2.out _).mono ?_); rintro e w5 ⟨rfl, hb5⟩; have HR5 := Lib.hid ((HR4.out.below hb5 HR4.out.lt).alloc (.cells #[.int .i64 x6, .int .i64 y6, .string ⟨d6.toArray⟩] 23)); have HC5 := Lib.hid ((HC4.out.below hb5 HC4.out.lt).alloc (.cells #[.int .i64 x6, .int .i64 y6, .string ⟨d6.toArray⟩] 23)); have HD5 := Lib.hid (Blk.new w5 23 #[.int .i64 x6, .int .i64 y6, .string ⟨d6.toArray⟩]); replace Hb := Lib.hid (Hb.out.trans (hb5.mono Hb.out.size)); clear hb5; replace Hb := Lib.hid (Hb.out.alloc Hb.out.size (.cells #[.int .i64 x6, .int .i64 y6, .string ⟨d6.toArray⟩] 23)); clear G2))
  have HS : Hid (ROne w _ w.heap.size w4.heap.size w5.heap.size #[.int .i64 x, .int .i64 y, .string ⟨d.toArray⟩] #[.int .i64 x6, .int .i64 y6, .string ⟨d6.toArray⟩]) := Lib.hid ⟨HR5.out, HC5.out, HD5.out, Hb.out⟩
  generalize w4.heap.size = gc at *
  generalize w5.heap.size = gd at *
  clear HR5 HC5 HD5 HR4 HC4 HR3 HR2 HR1 HR0 HB0 Hb
  refine wp_region_held_drew (S := (fun W => ROne w W w.heap.size gc gd #[.int .i64 x, .int .i64 y, .string ⟨d.toArray⟩] #[.int .i64 x6, .int .i64 y6, .string ⟨d6.toArray⟩])) (by kernel_rfl) (HS.out.next ((Below.refl _ _).drew)) (fun hHeld => ?_)
  refine wpAnyH_take (i := 0) (oi := _) (v := ?_) rfl (by kernel_rfl) (by kernel_rfl) (by kernel_rfl) (fun _ _ _ h => h) (Or.inl ⟨by rfl, ?_⟩) hHeld ?_
  rotate_left
  · (intro wz hSw; have k0 := hSw.own.cell 0; have k1 := hSw.own.cell 1; have k2 := hSw.own.cell 2; simp only [List.getElem?_toArray, List.getElem?_cons_zero, List.getElem?_cons_succ] at k0 k1 k2; go_simp; try (with_reducible rfl))
  try dsimp only [List.getElem_toArray, List.getElem_cons_zero, List.getElem_cons_succ]
  try simp only [Act.put, List.setIfInBounds_toArray, List.set_cons_zero, List.set_cons_succ]
  refine wpAnyH_take (i := 2) (oi := _) (v := ?_) rfl (by kernel_rfl) (by kernel_rfl) (by kernel_rfl) (fun _ _ _ h => h) (Or.inl ⟨by rfl, ?_⟩) hHeld ?_
  rotate_left
  · (intro wz hSw; have k0 := hSw.own.cell 0; have k1 := hSw.own.cell 1; have k2 := hSw.own.cell 2; simp only [List.getElem?_toArray, List.getElem?_cons_zero, List.getElem?_cons_succ] at k0 k1 k2; go_simp; try (with_reducible rfl))
  try dsimp only [List.getElem_toArray, List.getElem_cons_zero, List.getElem_cons_succ]
  try simp only [Act.put, List.setIfInBounds_toArray, List.set_cons_zero, List.set_cons_succ]
  refine wpAnyH_ready (rs := [1]) (by kernel_rfl) (by simp) ?_
  refine AllReadyH.cons (o := _) rfl (fun K hK => ?_) AllReadyH.nil
  go_simp
  go_at_call 13
  (with_reducible refine (C1.out _).mono ?_)
  rintro e w8 ⟨rfl, hb1⟩
  refine hK.out _ _ (hHeld.next hb1) (fun hH => ?_)
  clear hHeld hK K hb1
  have hHeld := hH
  clear hH
  try dsimp only [List.getElem_toArray, List.getElem_cons_zero, List.getElem_cons_succ]
  try simp only [Act.put, List.setIfInBounds_toArray, List.set_cons_zero, List.set_cons_succ]
  refine wpAnyH_ready (rs := [3]) (by kernel_rfl) (by simp) ?_
  refine AllReadyH.cons (o := _) rfl (fun K hK => ?_) AllReadyH.nil
  go_simp
  go_at_call 14
  (with_reducible refine (C2.out _).mono ?_)
  rintro e w8 ⟨rfl, hb1⟩
  refine hK.out _ _ (hHeld.next hb1) (fun hH => ?_)
  clear hHeld hK K hb1
  have hHeld := hH
  clear hH
  try dsimp only [List.getElem_toArray, List.getElem_cons_zero, List.getElem_cons_succ]
  try simp only [Act.put, List.setIfInBounds_toArray, List.set_cons_zero, List.set_cons_succ]
  refine wpAnyH_take (i := 4) (oi := _) (v := ?_) rfl (by kernel_rfl) (by kernel_rfl) (by kernel_rfl) (fun _ _ _ h => h) (Or.inl ⟨by rfl, ?_⟩) hHeld ?_
  rotate_left
  · (intro wz hSw; go_simp; try (with_reducible rfl))
  try dsimp only [List.getElem_toArray, List.getElem_cons_zero, List.getElem_cons_succ]
  try simp only [Act.put, List.setIfInBounds_toArray, List.set_cons_zero, List.set_cons_succ]
  refine wpAnyH_take (i := 5) (oi := _) (v := ?_) rfl (by kernel_rfl) (by kernel_rfl) (by kernel_rfl) (fun _ _ _ h => h) (Or.inl ⟨by rfl, ?_⟩) hHeld ?_
  rotate_left
  · (intro wz hSw; go_simp; try (with_reducible rfl))
  try dsimp only [List.getElem_toArray, List.getElem_cons_zero, List.getElem_cons_succ]
  try simp only [Act.put, List.setIfInBounds_toArray, List.set_cons_zero, List.set_cons_succ]
  refine wpAnyH_take (i := 6) (oi := _) (v := ?_) rfl (by kernel_rfl) (by kernel_rfl) (by kernel_rfl) (fun _ _ _ h => h) (Or.inl ⟨by rfl, ?_⟩) hHeld ?_
  rotate_left
  · (intro wz hSw; have k0 := hSw.own.cell 0; have k1 := hSw.own.cell 1; have k2 := hSw.own.cell 2; simp only [List.getElem?_toArray, List.getElem?_cons_zero, List.getElem?_cons_succ] at k0 k1 k2; go_simp; try (with_reducible rfl))
  try dsimp only [List.getElem_toArray, List.getElem_cons_zero, List.getElem_cons_succ]
  try simp only [Act.put, List.setIfInBounds_toArray, List.set_cons_zero, List.set_cons_succ]
  refine wpAnyH_take (i := 8) (oi := _) (v := ?_) rfl (by kernel_rfl) (by kernel_rfl) (by kernel_rfl) (fun _ _ _ h => h) (Or.inl ⟨by rfl, ?_⟩) hHeld ?_
  rotate_left
  · (intro wz hSw; have k0 := hSw.own.cell 0; have k1 := hSw.own.cell 1; have k2 := hSw.own.cell 2; simp only [List.getElem?_toArray, List.getElem?_cons_zero, List.getElem?_cons_succ] at k0 k1 k2; go_simp; try (with_reducible rfl))
  try dsimp only [List.getElem_toArray, List.getElem_cons_zero, List.getElem_cons_succ]
  try simp only [Act.put, List.setIfInBounds_toArray, List.set_cons_zero, List.set_cons_succ]
  refine wpAnyH_ready (rs := [7]) (by kernel_rfl) (by simp) ?_
  refine AllReadyH.cons (o := _) rfl (fun K hK => ?_) AllReadyH.nil
  go_simp
  go_at_call 15
  (with_reducible refine (Z1.out _).mono ?_)
  rintro e w8 ⟨rfl, hb1⟩
  refine hK.out _ _ (hHeld.next hb1) (fun hH => ?_)
  clear hHeld hK K hb1
  have hHeld := hH
  clear hH
  try dsimp only [List.getElem_toArray, List.getElem_cons_zero, List.getElem_cons_succ]
  try simp only [Act.put, List.setIfInBounds_toArray, List.set_cons_zero, List.set_cons_succ]
  refine wpAnyH_ready (rs := [9]) (by kernel_rfl) (by simp) ?_
  refine AllReadyH.cons (o := _) rfl (fun K hK => ?_) AllReadyH.nil
  go_simp
  go_at_call 16
  (with_reducible refine (Z2.out _).mono ?_)
  rintro e w8 ⟨rfl, hb1⟩
  refine hK.out _ _ (hHeld.next hb1) (fun hH => ?_)
  clear hHeld hK K hb1
  have hHeld := hH
  clear hH
  try dsimp only [List.getElem_toArray, List.getElem_cons_zero, List.getElem_cons_succ]
  try simp only [Act.put, List.setIfInBounds_toArray, List.set_cons_zero, List.set_cons_succ]
  refine wpAnyH_take (i := 10) (oi := _) (v := ?_) rfl (by kernel_rfl) (by kernel_rfl) (by kernel_rfl) (fun _ _ _ h => h) (Or.inl ⟨by rfl, ?_⟩) hHeld ?_
  rotate_left
  · (intro wz hSw; go_simp; try (with_reducible rfl))
  try dsimp only [List.getElem_toArray, List.getElem_cons_zero, List.getElem_cons_succ]
  try simp only [Act.put, List.setIfInBounds_toArray, List.set_cons_zero, List.set_cons_succ]
  refine wpAnyH_take (i := 11) (oi := _) (v := ?_) rfl (by kernel_rfl) (by kernel_rfl) (by kernel_rfl) (fun _ _ _ h => h) (Or.inl ⟨by rfl, ?_⟩) hHeld ?_
  rotate_left
  · (intro wz hSw; go_simp; try (with_reducible rfl))
  try dsimp only [List.getElem_toArray, List.getElem_cons_zero, List.getElem_cons_succ]
  try simp only [Act.put, List.setIfInBounds_toArray, List.set_cons_zero, List.set_cons_succ]
  refine wpAnyH_take (i := 12) (oi := _) (v := ?_) rfl (by kernel_rfl) (by kernel_rfl) (by kernel_rfl) (fun _ _ _ h => h) (Or.inl ⟨by rfl, ?_⟩) hHeld ?_
  rotate_left
  · (intro wz hSw; go_simp; try (with_reducible rfl))
  try dsimp only [List.getElem_toArray, List.getElem_cons_zero, List.getElem_cons_succ]
  try simp only [Act.put, List.setIfInBounds_toArray, List.set_cons_zero, List.set_cons_succ]
  refine wpAnyH_take (i := 13) (oi := _) (v := ?_) rfl (by kernel_rfl) (by kernel_rfl) (by kernel_rfl) (fun _ _ _ h => h) (Or.inl ⟨by rfl, ?_⟩) hHeld ?_
  rotate_left
  · (intro wz hSw; go_simp; try (with_reducible rfl))
  try dsimp only [List.getElem_toArray, List.getElem_cons_zero, List.getElem_cons_succ]
  try simp only [Act.put, List.setIfInBounds_toArray, List.set_cons_zero, List.set_cons_succ]
  refine wpAnyH_take (i := 14) (oi := _) (v := ?_) rfl (by kernel_rfl) (by kernel_rfl) (by kernel_rfl) (fun _ _ _ h => h) (Or.inl ⟨by rfl, ?_⟩) hHeld ?_
  rotate_left
  · (intro wz hSw; go_simp; try (with_reducible rfl))
  try dsimp only [List.getElem_toArray, List.getElem_cons_zero, List.getElem_cons_succ]
  try simp only [Act.put, List.setIfInBounds_toArray, List.set_cons_zero, List.set_cons_succ]
  refine wpAnyH_take (i := 15) (oi := _) (v := ?_) rfl (by kernel_rfl) (by kernel_rfl) (by kernel_rfl) (fun _ _ _ h => h) (Or.inl ⟨by rfl, ?_⟩) hHeld ?_
  rotate_left
  · (intro wz hSw; go_simp; try (with_reducible rfl))
  try dsimp only [List.getElem_toArray, List.getElem_cons_zero, List.getElem_cons_succ]
  try simp only [Act.put, List.setIfInBounds_toArray, List.set_cons_zero, List.set_cons_succ]
  refine wpAnyH_take (i := 16) (oi := _) (v := ?_) rfl (by kernel_rfl) (by kernel_rfl) (by kernel_rfl) (fun _ _ _ h => h) (Or.inl ⟨by rfl, ?_⟩) hHeld ?_
  rotate_left
  · (intro wz hSw; go_simp; try (with_reducible rfl))
  try dsimp only [List.getElem_toArray, List.getElem_cons_zero, List.getElem_cons_succ]
  try simp only [Act.put, List.setIfInBounds_toArray, List.set_cons_zero, List.set_cons_succ]
  refine wpAnyH_take (i := 17) (oi := _) (v := ?_) rfl (by kernel_rfl) (by kernel_rfl) (by kernel_rfl) (fun _ _ _ h => h) (Or.inl ⟨by rfl, ?_⟩) hHeld ?_
  rotate_left
  · (intro wz hSw; go_simp; try (with_reducible rfl))
  try dsimp only [List.getElem_toArray, List.getElem_cons_zero, List.getElem_cons_succ]
  try simp only [Act.put, List.setIfInBounds_toArray, List.set_cons_zero, List.set_cons_succ]
  refine wpAnyH_take (i := 18) (oi := _) (v := ?_) rfl (by kernel_rfl) (by kernel_rfl) (by kernel_rfl) (fun _ _ _ h => h) (Or.inl ⟨by rfl, ?_⟩) hHeld ?_
  rotate_left
  · (intro wz hSw; go_simp; try (with_reducible rfl))
  try dsimp only [List.getElem_toArray, List.getElem_cons_zero, List.getElem_cons_succ]
  try simp only [Act.put, List.setIfInBounds_toArray, List.set_cons_zero, List.set_cons_succ]
  refine wpAnyH_take (i := 19) (oi := _) (v := ?_) rfl (by kernel_rfl) (by kernel_rfl) (by kernel_rfl) (fun _ _ _ h => h) (Or.inl ⟨by rfl, ?_⟩) hHeld ?_
  rotate_left
  · (intro wz hSw; go_simp; try (with_reducible rfl))
  try dsimp only [List.getElem_toArray, List.getElem_cons_zero, List.getElem_cons_succ]
  try simp only [Act.put, List.setIfInBounds_toArray, List.set_cons_zero, List.set_cons_succ]
  refine wpAnyH_take (i := 20) (oi := _) (v := ?_) rfl (by kernel_rfl) (by kernel_rfl) (by kernel_rfl) (fun _ _ _ h => h) (Or.inl ⟨by rfl, ?_⟩) hHeld ?_
  rotate_left
  · (intro wz hSw; go_simp; try (with_reducible rfl))
  try dsimp only [List.getElem_toArray, List.getElem_cons_zero, List.getElem_cons_succ]
  try simp only [Act.put, List.setIfInBounds_toArray, List.set_cons_zero, List.set_cons_succ]
  refine wpAnyH_take (i := 21) (oi := _) (v := ?_) rfl (by kernel_rfl) (by kernel_rfl) (by kernel_rfl) (fun _ _ _ h => h) (Or.inl ⟨by rfl, ?_⟩) hHeld ?_
  rotate_left
  · (intro wz hSw; go_simp; try (with_reducible rfl))
  try dsimp only [List.getElem_toArray, List.getElem_cons_zero, List.getElem_cons_succ]
  try simp only [Act.put, List.setIfInBounds_toArray, List.set_cons_zero, List.set_cons_succ]
  refine wpAnyH_take (i := 22) (oi := _) (v := ?_) rfl (by kernel_rfl) (by kernel_rfl) (by kernel_rfl) (fun _ _ _ h => h) (Or.inl ⟨by rfl, ?_⟩) hHeld ?_
  rotate_left
  · (intro wz hSw; go_simp; try (with_reducible rfl))
  try dsimp only [List.getElem_toArray, List.getElem_cons_zero, List.getElem_cons_succ]
  try simp only [Act.put, List.setIfInBounds_toArray, List.set_cons_zero, List.set_cons_succ]
  refine wpAnyH_take (i := 23) (oi := _) (v := ?_) rfl (by kernel_rfl) (by kernel_rfl) (by kernel_rfl) (fun _ _ _ h => h) (Or.inl ⟨by rfl, ?_⟩) hHeld ?_
  rotate_left
  · (intro wz hSw; have k0 := hSw.c.cell 0; have k1 := hSw.c.cell 1; have k2 := hSw.c.cell 2; simp only [List.getElem?_toArray, List.getElem?_cons_zero, List.getElem?_cons_succ] at k0 k1 k2; go_simp; try (with_reducible rfl))
  try dsimp only [List.getElem_toArray, List.getElem_cons_zero, List.getElem_cons_succ]
  try simp only [Act.put, List.setIfInBounds_toArray, List.set_cons_zero, List.set_cons_succ]
  refine wpAnyH_take (i := 24) (oi := _) (v := ?_) rfl (by kernel_rfl) (by kernel_rfl) (by kernel_rfl) (fun _ _ _ h => h) (Or.inl ⟨by rfl, ?_⟩) hHeld ?_
  rotate_left
  · (intro wz hSw; have k0 := hSw.d.cell 0; have k1 := hSw.d.cell 1; have k2 := hSw.d.cell 2; simp only [List.getElem?_toArray, List.getElem?_cons_zero, List.getElem?_cons_succ] at k0 k1 k2; go_simp; try (with_reducible rfl))
  try dsimp only [List.getElem_toArray, List.getElem_cons_zero, List.getElem_cons_succ]
  try simp only [Act.put, List.setIfInBounds_toArray, List.set_cons_zero, List.set_cons_succ]
  refine wpAnyH_take (i := 25) (oi := _) (v := ?_) rfl (by kernel_rfl) (by kernel_rfl) (by kernel_rfl) (fun _ _ _ h => h) (Or.inl ⟨by rfl, ?_⟩) hHeld ?_
  rotate_left
  · (intro wz hSw; go_simp; try (with_reducible rfl))
  try dsimp only [List.getElem_toArray, List.getElem_cons_zero, List.getElem_cons_succ]
  try simp only [Act.put, List.setIfInBounds_toArray, List.set_cons_zero, List.set_cons_succ]
  refine wpAnyH_take (i := 26) (oi := _) (v := ?_) rfl (by kernel_rfl) (by kernel_rfl) (by kernel_rfl) (fun _ _ _ h => h) (Or.inl ⟨by rfl, ?_⟩) hHeld ?_
  rotate_left
  · (intro wz hSw; go_simp; try (with_reducible rfl))
  try dsimp only [List.getElem_toArray, List.getElem_cons_zero, List.getElem_cons_succ]
  try simp only [Act.put, List.setIfInBounds_toArray, List.set_cons_zero, List.set_cons_succ]
  refine wpAnyH_take (i := 27) (oi := _) (v := ?_) rfl (by kernel_rfl) (by kernel_rfl) (by kernel_rfl) (fun _ _ _ h => h) (Or.inl ⟨by rfl, ?_⟩) hHeld ?_
  rotate_left
  · (intro wz hSw; go_simp; try (with_reducible rfl))
  try dsimp only [List.getElem_toArray, List.getElem_cons_zero, List.getElem_cons_succ]
  try simp only [Act.put, List.setIfInBounds_toArray, List.set_cons_zero, List.set_cons_succ]
  refine wpAnyH_take (i := 28) (oi := _) (v := ?_) rfl (by kernel_rfl) (by kernel_rfl) (by kernel_rfl) (fun _ _ _ h => h) (Or.inl ⟨by rfl, ?_⟩) hHeld ?_
  rotate_left
  · (intro wz hSw; go_simp; try (with_reducible rfl))
  try dsimp only [List.getElem_toArray, List.getElem_cons_zero, List.getElem_cons_succ]
  try simp only [Act.put, List.setIfInBounds_toArray, List.set_cons_zero, List.set_cons_succ]
  refine wpAnyH_take (i := 29) (oi := _) (v := ?_) rfl (by kernel_rfl) (by kernel_rfl) (by kernel_rfl) (fun _ _ _ h => h) (Or.inl ⟨by rfl, ?_⟩) hHeld ?_
  rotate_left
  · (intro wz hSw; go_simp; try (with_reducible rfl))
  try dsimp only [List.getElem_toArray, List.getElem_cons_zero, List.getElem_cons_succ]
  try simp only [Act.put, List.setIfInBounds_toArray, List.set_cons_zero, List.set_cons_succ]
  refine wpAnyH_take (i := 30) (oi := _) (v := ?_) rfl (by kernel_rfl) (by kernel_rfl) (by kernel_rfl) (fun _ _ _ h => h) (Or.inl ⟨by rfl, ?_⟩) hHeld ?_
  rotate_left
  · (intro wz hSw; go_simp; try (with_reducible rfl))
  try dsimp only [List.getElem_toArray, List.getElem_cons_zero, List.getElem_cons_succ]
  try simp only [Act.put, List.setIfInBounds_toArray, List.set_cons_zero, List.set_cons_succ]
  refine wpAnyH_take (i := 31) (oi := _) (v := ?_) rfl (by kernel_rfl) (by kernel_rfl) (by kernel_rfl) (fun _ _ _ h => h) (Or.inl ⟨by rfl, ?_⟩) hHeld ?_
  rotate_left
  · (intro wz hSw; go_simp; try (with_reducible rfl))
  try dsimp only [List.getElem_toArray, List.getElem_cons_zero, List.getElem_cons_succ]
  try simp only [Act.put, List.setIfInBounds_toArray, List.set_cons_zero, List.set_cons_succ]
  refine wpAnyH_take (i := 32) (oi := _) (v := ?_) rfl (by kernel_rfl) (by kernel_rfl) (by kernel_rfl) (fun _ _ _ h => h) (Or.inl ⟨by rfl, ?_⟩) hHeld ?_
  rotate_left
  · (intro wz hSw; go_simp; try (with_reducible rfl))
  try dsimp only [List.getElem_toArray, List.getElem_cons_zero, List.getElem_cons_succ]
  try simp only [Act.put, List.setIfInBounds_toArray, List.set_cons_zero, List.set_cons_succ]
  refine wpAnyH_take (i := 33) (oi := _) (v := ?_) rfl (by kernel_rfl) (by kernel_rfl) (by kernel_rfl) (fun _ _ _ h => h) (Or.inl ⟨by rfl, ?_⟩) hHeld ?_
  rotate_left
  · (intro wz hSw; go_simp; try (with_reducible rfl))
  try dsimp only [List.getElem_toArray, List.getElem_cons_zero, List.getElem_cons_succ]
  try simp only [Act.put, List.setIfInBounds_toArray, List.set_cons_zero, List.set_cons_succ]
  refine wpAnyH_take (i := 34) (oi := _) (v := ?_) rfl (by kernel_rfl) (by kernel_rfl) (by kernel_rfl) (fun _ _ _ h => h) (Or.inl ⟨by rfl, ?_⟩) hHeld ?_
  rotate_left
  · (intro wz hSw; go_simp; try (with_reducible rfl))
  try dsimp only [List.getElem_toArray, List.getElem_cons_zero, List.getElem_cons_succ]
  try simp only [Act.put, List.setIfInBounds_toArray, List.set_cons_zero, List.set_cons_succ]
  refine wpAnyH_take (i := 35) (oi := _) (v := ?_) rfl (by kernel_rfl) (by kernel_rfl) (by kernel_rfl) (fun _ _ _ h => h) (Or.inl ⟨by rfl, ?_⟩) hHeld ?_
  rotate_left
  · (intro wz hSw; go_simp; try (with_reducible rfl))
  try dsimp only [List.getElem_toArray, List.getElem_cons_zero, List.getElem_cons_succ]
  try simp only [Act.put, List.setIfInBounds_toArray, List.set_cons_zero, List.set_cons_succ]
  refine wpAnyH_take (i := 36) (oi := _) (v := ?_) rfl (by kernel_rfl) (by kernel_rfl) (by kernel_rfl) (fun _ _ _ h => h) (Or.inl ⟨by rfl, ?_⟩) hHeld ?_
  rotate_left
  · (intro wz hSw; go_simp; try (with_reducible rfl))
  try dsimp only [List.getElem_toArray, List.getElem_cons_zero, List.getElem_cons_succ]
  try simp only [Act.put, List.setIfInBounds_toArray, List.set_cons_zero, List.set_cons_succ]
  refine wpAnyH_take (i := 37) (oi := _) (v := ?_) rfl (by kernel_rfl) (by kernel_rfl) (by kernel_rfl) (fun _ _ _ h => h) (Or.inl ⟨by rfl, ?_⟩) hHeld ?_
  rotate_left
  · (intro wz hSw; go_simp; try (with_reducible rfl))
  try dsimp only [List.getElem_toArray, List.getElem_cons_zero, List.getElem_cons_succ]
  try simp only [Act.put, List.setIfInBounds_toArray, List.set_cons_zero, List.set_cons_succ]
  refine wpAnyH_ready (rs := [38]) (by kernel_rfl) (by simp) ?_
  refine AllReadyH.cons (o := _) rfl (fun K hK => ?_) AllReadyH.nil
  go_simp
  go_at_call 8
  (with_reducible refine (awake15_any _).mono ?_)
  rintro e w8 ⟨rfl, hb1⟩
  refine hK.out _ _ (hHeld.next hb1) (fun hH => ?_)
  clear hHeld hK K hb1
  have hHeld := hH
  clear hH
  try dsimp only [List.getElem_toArray, List.getElem_cons_zero, List.getElem_cons_succ]
  try simp only [Act.put, List.setIfInBounds_toArray, List.set_cons_zero, List.set_cons_succ]
  refine wpAnyH_take (i := 39) (oi := _) (v := ?_) rfl (by kernel_rfl) (by kernel_rfl) (by kernel_rfl) (fun _ _ _ h => h) (Or.inl ⟨by rfl, ?_⟩) hHeld ?_
  rotate_left
  · (intro wz hSw; go_simp; try (with_reducible rfl))
  try dsimp only [List.getElem_toArray, List.getElem_cons_zero, List.getElem_cons_succ]
  try simp only [Act.put, List.setIfInBounds_toArray, List.set_cons_zero, List.set_cons_succ]
  refine wpAnyH_take (i := 40) (oi := _) (v := ?_) rfl (by kernel_rfl) (by kernel_rfl) (by kernel_rfl) (fun _ _ _ h => h) (Or.inl ⟨by rfl, ?_⟩) hHeld ?_
  rotate_left
  · (intro wz hSw; go_simp; try (with_reducible rfl))
  try dsimp only [List.getElem_toArray, List.getElem_cons_zero, List.getElem_cons_succ]
  try simp only [Act.put, List.setIfInBounds_toArray, List.set_cons_zero, List.set_cons_succ]
  refine wpAnyH_done (by kernel_rfl) ?_ _
  have HB2 := Lib.hid hHeld.below
  clear hHeld HS
  go_wp2
  go_ret
  exact ⟨rfl, HB2.out⟩
theorem recordOne_walk (r : Rc) (s : List UInt8) (p : Int) (w : World) :
    Calls Try.prog 3 #[.agg #[.int .i64 r.1, .int .i64 r.2.1, .string ⟨r.2.2.toArray⟩], .string ⟨s.toArray⟩, .int .i64 p] w fun e w' => e = .returned (.bool true) ∧ Below w.heap.size w w' := by
  cases h : fewF [r] with
  | false => exact recordOne_far0 r s p w h
  | true =>
    by_cases h2 : s.length ≤ 5000
    · exact recordOne_near r s p w h h2
    · exact recordOne_far1 r s p w h (by omega)
namespace RecordOne
set_option maxRecDepth 100000 in
theorem lifted (os : Os) (started : os.Started) (H : Type) (enc : TypeId × Value → H) :
    ReturnsInHanded {} Try.checked os 3 .any (Rows.recordOneSpec.pre6 enc Try.prog Try.f3 Rows.recordOneRow.domain false) (Rows.recordOneSpec.post enc Try.prog Try.f3 false true false false) := by
  refine law_sized (C := Try.checked) (tb := 4) ownP started (by kernel_rfl) Try.func3
    (ChangeSpec.witness6 (enc := enc) (C := Try.checked) false ⟨#[], #[.agg #[.int .i64 0, .int .i64 0, .string ⟨#[]⟩], .string ⟨#[]⟩, .int .i64 0], []⟩ 8 (by kernel_rfl) (by kernel_rfl) (by kernel_rfl) (by kernel_rfl))
    laidP (by kernel_rfl) rfl (by kernel_rfl) Try.underlying4 (by intro ds h; match ds, h with | [_, _, _], _ => rfl) ?_
  intro W base args ds p hval0 hA0 hlt _
  have hval : ∀ (j : Nat) t v, Try.f3.params[j]? = some t → args[j]? = some v → Value.okWide Try.prog W .any base t v := hval0
  have hA : DataW.TrodAll enc Try.prog W 0 (fun _ => true) true Try.f3.params.toList args.toList ds p := hA0
  rw [Try.params3] at hA hval
  obtain ⟨v0, v1, v2, d0, d1, d2, p0, p1, p2, rfl, rfl, rfl, h0, h1, h2⟩ := trodAll_three hA
  obtain ⟨r, rfl, _, _⟩ := open_rec Try.underlying23 (by kernel_rfl) (by kernel_rfl) Try.underlying3 Try.underlying3 Try.underlying9 (hval 0 23 v0 rfl rfl) h0
  obtain ⟨s, rfl, rfl⟩ := open_bytes Try.underlying9 (hval 1 9 v1 rfl rfl) h1
  obtain ⟨p, rfl, rfl, rfl, wp⟩ := open_int Try.underlying3 (hval 2 3 v2 rfl rfl) h2
  exact recordOne_walk r s p W
theorem holds : Rows.RecordOneSaid :=
  OpenClaim.holds_of_wide 3 Try.f3 rfl rfl rfl rfl rfl rfl rfl ⟨rfl, rfl, rfl, rfl, rfl⟩ rfl rfl rfl rfl rfl (by kernel_rfl) Try.func3 (by kernel_rfl)
    (of_decide_eq_true (by kernel_rfl)) (by unfold Func.isWrapper; first | (rw [if_pos (by decide +kernel)]; kernel_rfl) | (rw [if_neg (by decide +kernel)]; exact ⟨rfl, rfl⟩))
    (fun os started H enc _ => lifted os started H enc)
end RecordOne
end Go.Proofs.Ytckengcphaaohaa
