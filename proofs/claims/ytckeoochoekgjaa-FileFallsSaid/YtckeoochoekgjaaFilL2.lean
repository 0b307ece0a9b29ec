/-
  What is left of a file that was only appended to begins with what was synced, is no longer than it was, and begins it up to what is garbled; the layer's probe holds (FileFalls). No condition.
-/
import Derived.Test.YtckeoochoekgjaaFilAw
namespace Go.Proofs.Ytckeoochoekgjaa
set_option linter.unusedSimpArgs false
set_option linter.unusedVariables false
open Go.ChangeShapes Go.WideShapes Go.ChangeAt Go.RowKit Go.Joins Go.Deep
set_option maxRecDepth 100000 in
set_option maxHeartbeats 2000000 in
theorem fileFalls_far0 (a s m : List UInt8) (n : Int) (w : World) (h : 5000 < a.length) :
    Calls Try.prog 4 #[.agg #[.string ⟨a.toArray⟩, .string ⟨s.toArray⟩], .int .i64 n, .string ⟨m.toArray⟩] w fun e w' => e = .returned (.bool true) ∧ Below w.heap.size w w' := by
  have HB : Hid (∀ W W' : World, Below w.heap.size w W → Below W.heap.size W W' → Below w.heap.size w W') := Lib.hid fun W W' h1 h2 => h1.trans (h2.mono h1.size)
  have hi : (5000 : Int) < (a.length : Int) := by omega
  go_enter Try.func4, Try.ntmps4
  go_wp2
  go_quiet (fail)
  go_wp2_with (first
    | (go_at_call 6; refine (awake19_any _).mono ?_; rintro e w9 ⟨rfl, hb9⟩))
  go_ret
  exact ⟨rfl, HB.out _ _ (by go_grown <;> refine below_drewN ?_ _ <;> go_grown) hb9⟩
set_option maxRecDepth 100000 in
set_option maxHeartbeats 2000000 in
theorem fileFalls_far1 (a s m : List UInt8) (n : Int) (w : World) (h : ¬ 5000 < a.length) (h2 : 5000 < s.length) :
    Calls Try.prog 4 #[.agg #[.string ⟨a.toArray⟩, .string ⟨s.toArray⟩], .int .i64 n, .string ⟨m.toArray⟩] w fun e w' => e = .returned (.bool true) ∧ Below w.heap.size w w' := by
  have HB : Hid (∀ W W' : World, Below w.heap.size w W → Below W.heap.size W W' → Below w.heap.size w W') := Lib.hid fun W W' h1 h2 => h1.trans (h2.mono h1.size)
  have hi : ¬ (5000 : Int) < (a.length : Int) := by omega
  have hi2 : (5000 : Int) < (s.length : Int) := by omega
  go_enter Try.func4, Try.ntmps4
  go_wp2
  go_quiet (fail)
  go_wp2_with (first
    | (go_at_call 6; refine (awake19_any _).mono ?_; rintro e w9 ⟨rfl, hb9⟩))
  go_ret
  exact ⟨rfl, HB.out _ _ (by go_grown <;> refine below_drewN ?_ _ <;> go_grown) hb9⟩
set_option maxRecDepth 100000 in
set_option maxHeartbeats 2000000 in
theorem fileFalls_far2 (a s m : List UInt8) (n : Int) (w : World) (h : ¬ 5000 < a.length) (h2 : ¬ 5000 < s.length) (h3 : 1000 < m.length) :
    Calls Try.prog 4 #[.agg #[.string ⟨a.toArray⟩, .string ⟨s.toArray⟩], .int .i64 n, .string ⟨m.toArray⟩] w fun e w' => e = .returned (.bool true) ∧ Below w.heap.size w w' := by
  have HB : Hid (∀ W W' : World, Below w.heap.size w W → Below W.heap.size W W' → Below w.heap.size w W') := Lib.hid fun W W' h1 h2 => h1.trans (h2.mono h1.size)
  have hi : ¬ (5000 : Int) < (a.length : Int) := by omega
  have hi2 : ¬ (5000 : Int) < (s.length : Int) := by omega
  have hi3 : (1000 : Int) < (m.length : Int) := by omega
  go_enter Try.func4, Try.ntmps4
  go_wp2
  go_quiet (fail)
  go_wp2_with (first
    | (go_at_call 6; refine (awake19_any _).mono ?_; rintro e w9 ⟨rfl, hb9⟩))
  go_ret
  exact ⟨rfl, HB.out _ _ (by go_grown <;> refine below_drewN ?_ _ <;> go_grown) hb9⟩
set_option maxRecDepth 100000 in
set_option maxHeartbeats 8000000 in
theorem fileFalls_nearLtA (a s m : List UInt8) (n : Int) (w : World) (ha : a.length ≤ 5000) (hs : s.length ≤ 5000) (hm : m.length ≤ 1000) (hc : n < (s.length : Int)) (ht : (flleft (a, a ++ s) n m).length ≤ a.length + 64) :
    Calls Try.prog 4 #[.agg #[.string ⟨a.toArray⟩, .string ⟨s.toArray⟩], .int .i64 n, .string ⟨m.toArray⟩] w fun e w' => e = .returned (.bool true) ∧ Below w.heap.size w w' := by
  have g1 : ¬ (5000 : Int) < (a.length : Int) := by omega
  have g2 : ¬ (5000 : Int) < (s.length : Int) := by omega
  have g3 : ¬ (1000 : Int) < (m.length : Int) := by omega
  have P1 := fun W => p_flapp_any a a s W (by omega) (by omega)
  rw [show flappF (a, a) s = ((a, a ++ s), 0) from if_neg (by dsimp only; omega)] at P1
  have hB : (a ++ s).length ≤ 10000 := by rw [List.length_append]; omega
  have P2 := fun W => p_flfall_any a (a ++ s) m n W (by omega) (by omega) (by omega)
  have P3 := fun W => p_flfall_any a (a ++ s) [] n W (by omega) (by omega) (by decide)
  unfold flc at P1 P2 P3
  dsimp only at P1 P2 P3
  replace P1 := Lib.hid P1
  replace P2 := Lib.hid P2
  replace P3 := Lib.hid P3
  obtain ⟨l1, l2, l3⟩ := flfalls_len a s n m
  have f1 := flfalls_safe a s n m
  have f2 := flfalls_begin a s n
  have f3 := flfalls_whole a s n m
  have f4 := flfalls_all a s n
  have s1 := fun W => fl_head (flleft (a, a ++ s) n m) a.length (by omega) W
  rw [f1] at s1
  have s2 := fun W => fl_head (a ++ s) (flleft (a, a ++ s) n []).length (by omega) W
  rw [f2] at s2
  have s3 := fun W => fl_head (a ++ s) a.length (by rw [List.length_append]; omega) W
  rw [List.take_left] at s3
  obtain ⟨d, hd⟩ : ∃ d : Int, ((flleft (a, a ++ s) n m).length : Int) - 64 = d := ⟨_, rfl⟩
  have hw : IntKind.i64.wrap (((flleft (a, a ++ s) n m).length : Int) - 64) = d := by rw [IntKind.wrap_i64]; omega
  have hmx : max (a.length : Int) d = (a.length : Int) := by omega
  have hml : d ≤ (a.length : Int) := by omega
  have cd : decide (n < (s.length : Int)) = true := decide_eq_true hc
  clear f1 f2 f3 f4
  clear hd
  generalize a ++ s = B at *
  generalize flleft (a, B) n m = G at *
  generalize flleft (a, B) n [] = H at *
  have b1 : ((G.length : Int) != (H.length : Int)) = false := by simp [l1]
  have b1n : (G.length != H.length) = false := by simp [l1]
  have b1e : ((G.length : Int) == (H.length : Int)) = true := by simp [l1]
  have b2 : decide ((G.length : Int) < (a.length : Int)) = false := decide_eq_false (by omega)
  have b2n : decide (G.length < a.length) = false := decide_eq_false (by omega)
  have b3 : decide ((B.length : Int) < (G.length : Int)) = false := decide_eq_false (by omega)
  have b3n : decide (B.length < G.length) = false := decide_eq_false (by omega)
  clear hc l1 l2 l3 hB ha hs hm ht
  go_enter Try.func4, Try.ntmps4
  go_wp2
  go_quiet (fail)
  have HB := Lib.hid (below_drewN ((Below.refl w.heap.size w).alloc (Nat.le_refl _) (.cells #[.string ⟨a.toArray⟩, .string ⟨s.toArray⟩] 23)) nq)
  go_wp2_with (first
    | (go_at_call 7; (with_reducible refine (P1.out _).mono ?_); rintro e w1 ⟨rfl, hb⟩; replace HB := Lib.hid (HB.out.trans (hb.mono HB.out.size)); clear hb; replace HB := Lib.hid (HB.out.alloc HB.out.size (.cells #[.string ⟨a.toArray⟩, .string ⟨B.toArray⟩] 23)); have Hf := Lib.hid (Blk.new w1 23 #[.string ⟨a.toArray⟩, .string ⟨B.toArray⟩]); have xf0 := Hf.out.cell 0; have xf1 := Hf.out.cell 1; simp only [List.getElem?_toArray, List.getElem?_cons_zero, List.getElem?_cons_succ] at xf0 xf1)
    | (go_at_call 14; (with_reducible refine (P2.out _).mono ?_); rintro e w2 ⟨rfl, hb⟩; replace Hf := Lib.hid (Hf.out.below hb Hf.out.lt); replace HB := Lib.hid (HB.out.trans (hb.mono HB.out.size)); clear hb; replace Hf := Lib.hid (Hf.out.alloc (.cells #[.string ⟨G.toArray⟩, .string ⟨G.toArray⟩] 23)); replace HB := Lib.hid (HB.out.alloc HB.out.size (.cells #[.string ⟨G.toArray⟩, .string ⟨G.toArray⟩] 23)); have Hg := Lib.hid (Blk.new w2 23 #[.string ⟨G.toArray⟩, .string ⟨G.toArray⟩]); clear xf0 xf1; have xf0 := Hf.out.cell 0; have xf1 := Hf.out.cell 1; simp only [List.getElem?_toArray, List.getElem?_cons_zero, List.getElem?_cons_succ] at xf0 xf1)
    | (go_at_call 14; (with_reducible refine (P3.out _).mono ?_); rintro e w3 ⟨rfl, hb⟩; replace Hf := Lib.hid (Hf.out.below hb Hf.out.lt); replace Hg := Lib.hid (Hg.out.below hb Hg.out.lt); replace HB := Lib.hid (HB.out.trans (hb.mono HB.out.size)); clear hb; replace Hf := Lib.hid (Hf.out.alloc (.cells #[.string ⟨H.toArray⟩, .string ⟨H.toArray⟩] 23)); replace Hg := Lib.hid (Hg.out.alloc (.cells #[.string ⟨H.toArray⟩, .string ⟨H.toArray⟩] 23)); replace HB := Lib.hid (HB.out.alloc HB.out.size (.cells #[.string ⟨H.toArray⟩, .string ⟨H.toArray⟩] 23)); have Hh := Lib.hid (Blk.new w3 23 #[.string ⟨H.toArray⟩, .string ⟨H.toArray⟩]); clear xf0 xf1; have xf0 := Hf.out.cell 0; have xf1 := Hf.out.cell 1; have xg0 := Hg.out.cell 0; have xg1 := Hg.out.cell 1; have xh0 := Hh.out.cell 0; have xh1 := Hh.out.cell 1; simp only [List.getElem?_toArray, List.getElem?_cons_zero, List.getElem?_cons_succ] at xf0 xf1 xg0 xg1 xh0 xh1))
  go_quiet (fail)
  have HB2 := Lib.hid (below_drewN HB.out nq)
  clear HB
  go_wp2
  have HB := Lib.hid HB2.out.drew
  clear HB2 xf0 xf1 xg0 xg1 xh0 xh1
  refine wp_region_held_drew (S := (fun W => Blk W w1.heap.size 23 #[.string ⟨a.toArray⟩, .string ⟨B.toArray⟩] ∧ Blk W w2.heap.size 23 #[.string ⟨G.toArray⟩, .string ⟨G.toArray⟩] ∧ Blk W w3.heap.size 23 #[.string ⟨H.toArray⟩, .string ⟨H.toArray⟩])) (by kernel_rfl) (⟨Hf.out, Hg.out, Hh.out⟩) (fun hHeld => ?_)
  refine wpAnyH_take (i := 0) (oi := _) (v := ?_) rfl (by kernel_rfl) (by kernel_rfl) (by kernel_rfl) (fun _ _ _ h => h) (Or.inl ⟨by rfl, ?_⟩) hHeld ?_
  rotate_left
  · (intro wz hSw; go_simp; try (with_reducible rfl))
  (try dsimp only [List.getElem_toArray, List.getElem_cons_zero, List.getElem_cons_succ]); (try simp only [Act.put, List.setIfInBounds_toArray, List.set_cons_zero, List.set_cons_succ])
  refine wpAnyH_take (i := 1) (oi := _) (v := ?_) rfl (by kernel_rfl) (by kernel_rfl) (by kernel_rfl) (fun _ _ _ h => h) (Or.inl ⟨by rfl, ?_⟩) hHeld ?_
  rotate_left
  · (intro wz hSw; have k0 := hSw.2.1.cell 0; have k1 := hSw.2.1.cell 1; simp only [List.getElem?_toArray, List.getElem?_cons_zero, List.getElem?_cons_succ] at k0 k1; go_simp; try (with_reducible rfl))
  (try dsimp only [List.getElem_toArray, List.getElem_cons_zero, List.getElem_cons_succ]); (try simp only [Act.put, List.setIfInBounds_toArray, List.set_cons_zero, List.set_cons_succ])
  refine wpAnyH_take (i := 2) (oi := _) (v := ?_) rfl (by kernel_rfl) (by kernel_rfl) (by kernel_rfl) (fun _ _ _ h => h) (Or.inl ⟨by rfl, ?_⟩) hHeld ?_
  rotate_left
  · (intro wz hSw; go_simp; try (with_reducible rfl))
  (try dsimp only [List.getElem_toArray, List.getElem_cons_zero, List.getElem_cons_succ]); (try simp only [Act.put, List.setIfInBounds_toArray, List.set_cons_zero, List.set_cons_succ])
  refine wpAnyH_take (i := 3) (oi := _) (v := ?_) rfl (by kernel_rfl) (by kernel_rfl) (by kernel_rfl) (fun _ _ _ h => h) (Or.inl ⟨by rfl, ?_⟩) hHeld ?_
  rotate_left
  · (intro wz hSw; go_simp; try (with_reducible rfl))
  (try dsimp only [List.getElem_toArray, List.getElem_cons_zero, List.getElem_cons_succ]); (try simp only [Act.put, List.setIfInBounds_toArray, List.set_cons_zero, List.set_cons_succ])
  refine wpAnyH_take (i := 4) (oi := _) (v := ?_) rfl (by kernel_rfl) (by kernel_rfl) (by kernel_rfl) (fun _ _ _ h => h) (Or.inl ⟨by rfl, ?_⟩) hHeld ?_
  rotate_left
  · (intro wz hSw; go_simp; try (with_reducible rfl))
  (try dsimp only [List.getElem_toArray, List.getElem_cons_zero, List.getElem_cons_succ]); (try simp only [Act.put, List.setIfInBounds_toArray, List.set_cons_zero, List.set_cons_succ])
  refine wpAnyH_take (i := 5) (oi := _) (v := ?_) rfl (by kernel_rfl) (by kernel_rfl) (by kernel_rfl) (fun _ _ _ h => h) (Or.inl ⟨by rfl, ?_⟩) hHeld ?_
  rotate_left
  · (intro wz hSw; have k0 := hSw.1.cell 0; have k1 := hSw.1.cell 1; simp only [List.getElem?_toArray, List.getElem?_cons_zero, List.getElem?_cons_succ] at k0 k1; go_simp; try (with_reducible rfl))
  (try dsimp only [List.getElem_toArray, List.getElem_cons_zero, List.getElem_cons_succ]); (try simp only [Act.put, List.setIfInBounds_toArray, List.set_cons_zero, List.set_cons_succ])
  refine wpAnyH_take (i := 6) (oi := _) (v := ?_) rfl (by kernel_rfl) (by kernel_rfl) (by kernel_rfl) (fun _ _ _ h => h) (Or.inl ⟨by rfl, ?_⟩) hHeld ?_
  rotate_left
  · (intro wz hSw; go_simp; try (with_reducible rfl))
  (try dsimp only [List.getElem_toArray, List.getElem_cons_zero, List.getElem_cons_succ]); (try simp only [Act.put, List.setIfInBounds_toArray, List.set_cons_zero, List.set_cons_succ])
  refine wpAnyH_take (i := 7) (oi := _) (v := ?_) rfl (by kernel_rfl) (by kernel_rfl) (by kernel_rfl) (fun _ _ _ h => h) (Or.inl ⟨by rfl, ?_⟩) hHeld ?_
  rotate_left
  · (intro wz hSw; go_simp; try (with_reducible rfl))
  (try dsimp only [List.getElem_toArray, List.getElem_cons_zero, List.getElem_cons_succ]); (try simp only [Act.put, List.setIfInBounds_toArray, List.set_cons_zero, List.set_cons_succ])
  refine wpAnyH_take (i := 8) (oi := _) (v := ?_) rfl (by kernel_rfl) (by kernel_rfl) (by kernel_rfl) (fun _ _ _ h => h) (Or.inl ⟨by rfl, ?_⟩) hHeld ?_
  rotate_left
  · (intro wz hSw; go_simp; try (with_reducible rfl))
  (try dsimp only [List.getElem_toArray, List.getElem_cons_zero, List.getElem_cons_succ]); (try simp only [Act.put, List.setIfInBounds_toArray, List.set_cons_zero, List.set_cons_succ])
  refine wpAnyH_take (i := 9) (oi := _) (v := ?_) rfl (by kernel_rfl) (by kernel_rfl) (by kernel_rfl) (fun _ _ _ h => h) (Or.inl ⟨by rfl, ?_⟩) hHeld ?_
  rotate_left
  · (intro wz hSw; go_simp; try (with_reducible rfl))
  (try dsimp only [List.getElem_toArray, List.getElem_cons_zero, List.getElem_cons_succ]); (try simp only [Act.put, List.setIfInBounds_toArray, List.set_cons_zero, List.set_cons_succ])
  refine wpAnyH_take (i := 10) (oi := _) (v := ?_) rfl (by kernel_rfl) (by kernel_rfl) (by kernel_rfl) (fun _ _ _ h => h) (Or.inl ⟨by rfl, ?_⟩) hHeld ?_
  rotate_left
  · (intro wz hSw; go_simp; try (with_reducible rfl))
  (try dsimp only [List.getElem_toArray, List.getElem_cons_zero, List.getElem_cons_succ]); (try simp only [Act.put, List.setIfInBounds_toArray, List.set_cons_zero, List.set_cons_succ])
  refine wpAnyH_take (i := 11) (oi := _) (v := ?_) rfl (by kernel_rfl) (by kernel_rfl) (by kernel_rfl) (fun _ _ _ h => h) (Or.inl ⟨by rfl, ?_⟩) hHeld ?_
  rotate_left
  · (intro wz hSw; go_simp; try (with_reducible rfl))
  (try dsimp only [List.getElem_toArray, List.getElem_cons_zero, List.getElem_cons_succ]); (try simp only [Act.put, List.setIfInBounds_toArray, List.set_cons_zero, List.set_cons_succ])
  refine wpAnyH_take (i := 12) (oi := _) (v := ?_) rfl (by kernel_rfl) (by kernel_rfl) (by kernel_rfl) (fun _ _ _ h => h) (Or.inl ⟨by rfl, ?_⟩) hHeld ?_
  rotate_left
  · (intro wz hSw; go_simp; try (with_reducible rfl))
  (try dsimp only [List.getElem_toArray, List.getElem_cons_zero, List.getElem_cons_succ]); (try simp only [Act.put, List.setIfInBounds_toArray, List.set_cons_zero, List.set_cons_succ])
  refine wpAnyH_take (i := 13) (oi := _) (v := ?_) rfl (by kernel_rfl) (by kernel_rfl) (by kernel_rfl) (fun _ _ _ h => h) (Or.inl ⟨by rfl, ?_⟩) hHeld ?_
  rotate_left
  · (intro wz hSw; go_simp; try (with_reducible rfl))
  (try dsimp only [List.getElem_toArray, List.getElem_cons_zero, List.getElem_cons_succ]); (try simp only [Act.put, List.setIfInBounds_toArray, List.set_cons_zero, List.set_cons_succ])
  refine wpAnyH_take (i := 14) (oi := _) (v := ?_) rfl (by kernel_rfl) (by kernel_rfl) (by kernel_rfl) (fun _ _ _ h => h) (Or.inl ⟨by rfl, ?_⟩) hHeld ?_
  rotate_left
  · (intro wz hSw; go_simp; try (with_reducible rfl))
  (try dsimp only [List.getElem_toArray, List.getElem_cons_zero, List.getElem_cons_succ]); (try simp only [Act.put, List.setIfInBounds_toArray, List.set_cons_zero, List.set_cons_succ])
  refine wpAnyH_take (i := 15) (oi := _) (v := undef) rfl (by kernel_rfl) (by kernel_rfl) (by kernel_rfl) (fun _ _ _ h => h) (Or.inr ⟨by rfl, rfl⟩) hHeld ?_
  (try dsimp only [List.getElem_toArray, List.getElem_cons_zero, List.getElem_cons_succ]); (try simp only [Act.put, List.setIfInBounds_toArray, List.set_cons_zero, List.set_cons_succ])
  refine wpAnyH_take (i := 16) (oi := _) (v := undef) rfl (by kernel_rfl) (by kernel_rfl) (by kernel_rfl) (fun _ _ _ h => h) (Or.inr ⟨by rfl, rfl⟩) hHeld ?_
  (try dsimp only [List.getElem_toArray, List.getElem_cons_zero, List.getElem_cons_succ]); (try simp only [Act.put, List.setIfInBounds_toArray, List.set_cons_zero, List.set_cons_succ])
  refine wpAnyH_take (i := 17) (oi := _) (v := undef) rfl (by kernel_rfl) (by kernel_rfl) (by kernel_rfl) (fun _ _ _ h => h) (Or.inr ⟨by rfl, rfl⟩) hHeld ?_
  (try dsimp only [List.getElem_toArray, List.getElem_cons_zero, List.getElem_cons_succ]); (try simp only [Act.put, List.setIfInBounds_toArray, List.set_cons_zero, List.set_cons_succ])
  refine wpAnyH_take (i := 18) (oi := _) (v := undef) rfl (by kernel_rfl) (by kernel_rfl) (by kernel_rfl) (fun _ _ _ h => h) (Or.inr ⟨by rfl, rfl⟩) hHeld ?_
  (try dsimp only [List.getElem_toArray, List.getElem_cons_zero, List.getElem_cons_succ]); (try simp only [Act.put, List.setIfInBounds_toArray, List.set_cons_zero, List.set_cons_succ])
  refine wpAnyH_take (i := 19) (oi := _) (v := undef) rfl (by kernel_rfl) (by kernel_rfl) (by kernel_rfl) (fun _ _ _ h => h) (Or.inr ⟨by rfl, rfl⟩) hHeld ?_
  (try dsimp only [List.getElem_toArray, List.getElem_cons_zero, List.getElem_cons_succ]); (try simp only [Act.put, List.setIfInBounds_toArray, List.set_cons_zero, List.set_cons_succ])
  refine wpAnyH_take (i := 20) (oi := _) (v := undef) rfl (by kernel_rfl) (by kernel_rfl) (by kernel_rfl) (fun _ _ _ h => h) (Or.inr ⟨by rfl, rfl⟩) hHeld ?_
  (try dsimp only [List.getElem_toArray, List.getElem_cons_zero, List.getElem_cons_succ]); (try simp only [Act.put, List.setIfInBounds_toArray, List.set_cons_zero, List.set_cons_succ])
  refine wpAnyH_take (i := 21) (oi := _) (v := undef) rfl (by kernel_rfl) (by kernel_rfl) (by kernel_rfl) (fun _ _ _ h => h) (Or.inr ⟨by rfl, rfl⟩) hHeld ?_
  (try dsimp only [List.getElem_toArray, List.getElem_cons_zero, List.getElem_cons_succ]); (try simp only [Act.put, List.setIfInBounds_toArray, List.set_cons_zero, List.set_cons_succ])
  refine wpAnyH_take (i := 22) (oi := _) (v := ?_) rfl (by kernel_rfl) (by kernel_rfl) (by kernel_rfl) (fun _ _ _ h => h) (Or.inl ⟨by rfl, ?_⟩) hHeld ?_
  rotate_left
  · (intro wz hSw; go_simp; try (with_reducible rfl))
  (try dsimp only [List.getElem_toArray, List.getElem_cons_zero, List.getElem_cons_succ]); (try simp only [Act.put, List.setIfInBounds_toArray, List.set_cons_zero, List.set_cons_succ])
  refine wpAnyH_take (i := 23) (oi := _) (v := ?_) rfl (by kernel_rfl) (by kernel_rfl) (by kernel_rfl) (fun _ _ _ h => h) (Or.inl ⟨by rfl, ?_⟩) hHeld ?_
  rotate_left
  · (intro wz hSw; go_simp; try (with_reducible rfl))
  (try dsimp only [List.getElem_toArray, List.getElem_cons_zero, List.getElem_cons_succ]); (try simp only [Act.put, List.setIfInBounds_toArray, List.set_cons_zero, List.set_cons_succ])
  refine wpAnyH_take (i := 24) (oi := _) (v := ?_) rfl (by kernel_rfl) (by kernel_rfl) (by kernel_rfl) (fun _ _ _ h => h) (Or.inl ⟨by rfl, ?_⟩) hHeld ?_
  rotate_left
  · (intro wz hSw; go_simp; try (with_reducible rfl))
  (try dsimp only [List.getElem_toArray, List.getElem_cons_zero, List.getElem_cons_succ]); (try simp only [Act.put, List.setIfInBounds_toArray, List.set_cons_zero, List.set_cons_succ])
  refine wpAnyH_ready (rs := [25]) (by kernel_rfl) (by simp) ?_
  refine AllReadyH.cons (o := _) rfl (fun K hK => ?_) AllReadyH.nil
  go_simp
  go_at_call 6
  (with_reducible refine (awake19_any _).mono ?_)
  rintro e w11 ⟨rfl, hb1⟩
  replace HB := Lib.hid (HB.out.trans (hb1.mono HB.out.size))
  refine hK.out _ _ (⟨hHeld.1.below hb1 hHeld.1.lt, hHeld.2.1.below hb1 hHeld.2.1.lt, hHeld.2.2.below hb1 hHeld.2.2.lt⟩) (fun hH => ?_)
  clear hHeld hK K hb1
  have hHeld := hH
  clear hH
  (try dsimp only [List.getElem_toArray, List.getElem_cons_zero, List.getElem_cons_succ]); (try simp only [Act.put, List.setIfInBounds_toArray, List.set_cons_zero, List.set_cons_succ])
  refine wpAnyH_take (i := 26) (oi := _) (v := ?_) rfl (by kernel_rfl) (by kernel_rfl) (by kernel_rfl) (fun _ _ _ h => h) (Or.inl ⟨by rfl, ?_⟩) hHeld ?_
  rotate_left
  · (intro wz hSw; go_simp; try (with_reducible rfl))
  (try dsimp only [List.getElem_toArray, List.getElem_cons_zero, List.getElem_cons_succ]); (try simp only [Act.put, List.setIfInBounds_toArray, List.set_cons_zero, List.set_cons_succ])
  refine wpAnyH_take (i := 27) (oi := _) (v := ?_) rfl (by kernel_rfl) (by kernel_rfl) (by kernel_rfl) (fun _ _ _ h => h) (Or.inl ⟨by rfl, ?_⟩) hHeld ?_
  rotate_left
  · (intro wz hSw; go_simp; try (with_reducible rfl))
  (try dsimp only [List.getElem_toArray, List.getElem_cons_zero, List.getElem_cons_succ]); (try simp only [Act.put, List.setIfInBounds_toArray, List.set_cons_zero, List.set_cons_succ])
  refine wpAnyH_done (by kernel_rfl) ?_ _
  clear hHeld
  go_wp2
  go_ret
  exact ⟨rfl, HB.out⟩
set_option maxRecDepth 100000 in
set_option maxHeartbeats 8000000 in
theorem fileFalls_nearLtB (a s m : List UInt8) (n : Int) (w : World) (ha : a.length ≤ 5000) (hs : s.length ≤ 5000) (hm : m.length ≤ 1000) (hc : n < (s.length : Int)) (ht : ¬ (flleft (a, a ++ s) n m).length ≤ a.length + 64) :
    Calls Try.prog 4 #[.agg #[.string ⟨a.toArray⟩, .string ⟨s.toArray⟩], .int .i64 n, .string ⟨m.toArray⟩] w fun e w' => e = .returned (.bool true) ∧ Below w.heap.size w w' := by
  have g1 : ¬ (5000 : Int) < (a.length : Int) := by omega
  have g2 : ¬ (5000 : Int) < (s.length : Int) := by omega
  have g3 : ¬ (1000 : Int) < (m.length : Int) := by omega
  have P1 := fun W => p_flapp_any a a s W (by omega) (by omega)
  rw [show flappF (a, a) s = ((a, a ++ s), 0) from if_neg (by dsimp only; omega)] at P1
  have hB : (a ++ s).length ≤ 10000 := by rw [List.length_append]; omega
  have P2 := fun W => p_flfall_any a (a ++ s) m n W (by omega) (by omega) (by omega)
  have P3 := fun W => p_flfall_any a (a ++ s) [] n W (by omega) (by omega) (by decide)
  unfold flc at P1 P2 P3
  dsimp only at P1 P2 P3
  replace P1 := Lib.hid P1
  replace P2 := Lib.hid P2
  replace P3 := Lib.hid P3
  obtain ⟨l1, l2, l3⟩ := flfalls_len a s n m
  have f1 := flfalls_safe a s n m
  have f2 := flfalls_begin a s n
  have f3 := flfalls_whole a s n m
  have f4 := flfalls_all a s n
  have s1 := fun W => fl_head (flleft (a, a ++ s) n m) a.length (by omega) W
  rw [f1] at s1
  have s2 := fun W => fl_head (a ++ s) (flleft (a, a ++ s) n []).length (by omega) W
  rw [f2] at s2
  obtain ⟨K, hK⟩ : ∃ K : Nat, K + 64 = (flleft (a, a ++ s) n m).length := ⟨(flleft (a, a ++ s) n m).length - 64, by omega⟩
  have f3 := f3 K (by omega)
  have s3 := fun W => fl_head (flleft (a, a ++ s) n m) K (by omega) W
  have s4 := fun W => fl_head (a ++ s) K (by omega) W
  rw [f3] at s3
  have hw : IntKind.i64.wrap (((flleft (a, a ++ s) n m).length : Int) - 64) = (K : Int) := by rw [IntKind.wrap_i64]; omega
  have hmx : max (a.length : Int) (K : Int) = (K : Int) := by omega
  have hml : (a.length : Int) < (K : Int) := by omega
  have cd : decide (n < (s.length : Int)) = true := decide_eq_true hc
  clear f1 f2 f3 f4
  clear hK
  generalize (a ++ s).take K = X at *
  generalize a ++ s = B at *
  generalize flleft (a, B) n m = G at *
  generalize flleft (a, B) n [] = H at *
  have b1 : ((G.length : Int) != (H.length : Int)) = false := by simp [l1]
  have b1n : (G.length != H.length) = false := by simp [l1]
  have b1e : ((G.length : Int) == (H.length : Int)) = true := by simp [l1]
  have b2 : decide ((G.length : Int) < (a.length : Int)) = false := decide_eq_false (by omega)
  have b2n : decide (G.length < a.length) = false := decide_eq_false (by omega)
  have b3 : decide ((B.length : Int) < (G.length : Int)) = false := decide_eq_false (by omega)
  have b3n : decide (B.length < G.length) = false := decide_eq_false (by omega)
  clear hc l1 l2 l3 hB ha hs hm ht
  go_enter Try.func4, Try.ntmps4
  go_wp2
  go_quiet (fail)
  have HB := Lib.hid (below_drewN ((Below.refl w.heap.size w).alloc (Nat.le_refl _) (.cells #[.string ⟨a.toArray⟩, .string ⟨s.toArray⟩] 23)) nq)
  go_wp2_with (first
    | (go_at_call 7; (with_reducible refine (P1.out _).mono ?_); rintro e w1 ⟨rfl, hb⟩; replace HB := Lib.hid (HB.out.trans (hb.mono HB.out.size)); clear hb; replace HB := Lib.hid (HB.out.alloc HB.out.size (.cells #[.string ⟨a.toArray⟩, .string ⟨B.toArray⟩] 23)); have Hf := Lib.hid (Blk.new w1 23 #[.string ⟨a.toArray⟩, .string ⟨B.toArray⟩]); have xf0 := Hf.out.cell 0; have xf1 := Hf.out.cell 1; simp only [List.getElem?_toArray, List.getElem?_cons_zero, List.getElem?_cons_succ] at xf0 xf1)
    | (go_at_call 14; (with_reducible refine (P2.out _).mono ?_); rintro e w2 ⟨rfl, hb⟩; replace Hf := Lib.hid (Hf.out.below hb Hf.out.lt); replace HB := Lib.hid (HB.out.trans (hb.mono HB.out.size)); clear hb; replace Hf := Lib.hid (Hf.out.alloc (.cells #[.string ⟨G.toArray⟩, .string ⟨G.toArray⟩] 23)); replace HB := Lib.hid (HB.out.alloc HB.out.size (.cells #[.string ⟨G.toArray⟩, .string ⟨G.toArray⟩] 23)); have Hg := Lib.hid (Blk.new w2 23 #[.string ⟨G.toArray⟩, .string ⟨G.toArray⟩]); clear xf0 xf1; have xf0 := Hf.out.cell 0; have xf1 := Hf.out.cell 1; simp only [List.getElem?_toArray, List.getElem?_cons_zero, List.getElem?_cons_succ] at xf0 xf1)
    | (go_at_call 14; (with_reducible refine (P3.out _).mono ?_); rintro e w3 ⟨rfl, hb⟩; replace Hf := Lib.hid (Hf.out.below hb Hf.out.lt); replace Hg := Lib.hid (Hg.out.below hb Hg.out.lt); replace HB := Lib.hid (HB.out.trans (hb.mono HB.out.size)); clear hb; replace Hf := Lib.hid (Hf.out.alloc (.cells #[.string ⟨H.toArray⟩, .string ⟨H.toArray⟩] 23)); replace Hg := Lib.hid (Hg.out.alloc (.cells #[.string ⟨H.toArray⟩, .string ⟨H.toArray⟩] 23)); replace HB := Lib.hid (HB.out.alloc HB.out.size (.cells #[.string ⟨H.toArray⟩, .string ⟨H.toArray⟩] 23)); have Hh := Lib.hid (Blk.new w3 23 #[.string ⟨H.toArray⟩, .string ⟨H.toArray⟩]); clear xf0 xf1; have xf0 := Hf.out.cell 0; have xf1 := Hf.out.cell 1; have xg0 := Hg.out.cell 0; have xg1 := Hg.out.cell 1; have xh0 := Hh.out.cell 0; have xh1 := Hh.out.cell 1; simp only [List.getElem?_toArray, List.getElem?_cons_zero, List.getElem?_cons_succ] at xf0 xf1 xg0 xg1 xh0 xh1))
  go_quiet (fail)
  have HB2 := Lib.hid (below_drewN HB.out nq)
  clear HB
  go_wp2
  have HB := Lib.hid HB2.out.drew
  clear HB2 xf0 xf1 xg0 xg1 xh0 xh1
  refine wp_region_held_drew (S := (fun W => Blk W w1.heap.size 23 #[.string ⟨a.toArray⟩, .string ⟨B.toArray⟩] ∧ Blk W w2.heap.size 23 #[.string ⟨G.toArray⟩, .string ⟨G.toArray⟩] ∧ Blk W w3.heap.size 23 #[.string ⟨H.toArray⟩, .string ⟨H.toArray⟩])) (by kernel_rfl) (⟨Hf.out, Hg.out, Hh.out⟩) (fun hHeld => ?_)
  refine wpAnyH_take (i := 0) (oi := _) (v := ?_) rfl (by kernel_rfl) (by kernel_rfl) (by kernel_rfl) (fun _ _ _ h => h) (Or.inl ⟨by rfl, ?_⟩) hHeld ?_
  rotate_left
  · (intro wz hSw; go_simp; try (with_reducible rfl))
  (try dsimp only [List.getElem_toArray, List.getElem_cons_zero, List.getElem_cons_succ]); (try simp only [Act.put, List.setIfInBounds_toArray, List.set_cons_zero, List.set_cons_succ])
  refine wpAnyH_take (i := 1) (oi := _) (v := ?_) rfl (by kernel_rfl) (by kernel_rfl) (by kernel_rfl) (fun _ _ _ h => h) (Or.inl ⟨by rfl, ?_⟩) hHeld ?_
  rotate_left
  · (intro wz hSw; have k0 := hSw.2.1.cell 0; have k1 := hSw.2.1.cell 1; simp only [List.getElem?_toArray, List.getElem?_cons_zero, List.getElem?_cons_succ] at k0 k1; go_simp; try (with_reducible rfl))
  (try dsimp only [List.getElem_toArray, List.getElem_cons_zero, List.getElem_cons_succ]); (try simp only [Act.put, List.setIfInBounds_toArray, List.set_cons_zero, List.set_cons_succ])
  refine wpAnyH_take (i := 2) (oi := _) (v := ?_) rfl (by kernel_rfl) (by kernel_rfl) (by kernel_rfl) (fun _ _ _ h => h) (Or.inl ⟨by rfl, ?_⟩) hHeld ?_
  rotate_left
  · (intro wz hSw; go_simp; try (with_reducible rfl))
  (try dsimp only [List.getElem_toArray, List.getElem_cons_zero, List.getElem_cons_succ]); (try simp only [Act.put, List.setIfInBounds_toArray, List.set_cons_zero, List.set_cons_succ])
  refine wpAnyH_take (i := 3) (oi := _) (v := ?_) rfl (by kernel_rfl) (by kernel_rfl) (by kernel_rfl) (fun _ _ _ h => h) (Or.inl ⟨by rfl, ?_⟩) hHeld ?_
  rotate_left
  · (intro wz hSw; go_simp; try (with_reducible rfl))
  (try dsimp only [List.getElem_toArray, List.getElem_cons_zero, List.getElem_cons_succ]); (try simp only [Act.put, List.setIfInBounds_toArray, List.set_cons_zero, List.set_cons_succ])
  refine wpAnyH_take (i := 4) (oi := _) (v := ?_) rfl (by kernel_rfl) (by kernel_rfl) (by kernel_rfl) (fun _ _ _ h => h) (Or.inl ⟨by rfl, ?_⟩) hHeld ?_
  rotate_left
  · (intro wz hSw; go_simp; try (with_reducible rfl))
  (try dsimp only [List.getElem_toArray, List.getElem_cons_zero, List.getElem_cons_succ]); (try simp only [Act.put, List.setIfInBounds_toArray, List.set_cons_zero, List.set_cons_succ])
  refine wpAnyH_take (i := 5) (oi := _) (v := ?_) rfl (by kernel_rfl) (by kernel_rfl) (by kernel_rfl) (fun _ _ _ h => h) (Or.inl ⟨by rfl, ?_⟩) hHeld ?_
  rotate_left
  · (intro wz hSw; have k0 := hSw.1.cell 0; have k1 := hSw.1.cell 1; simp only [List.getElem?_toArray, List.getElem?_cons_zero, List.getElem?_cons_succ] at k0 k1; go_simp; try (with_reducible rfl))
  (try dsimp only [List.getElem_toArray, List.getElem_cons_zero, List.getElem_cons_succ]); (try simp only [Act.put, List.setIfInBounds_toArray, List.set_cons_zero, List.set_cons_succ])
  refine wpAnyH_take (i := 6) (oi := _) (v := ?_) rfl (by kernel_rfl) (by kernel_rfl) (by kernel_rfl) (fun _ _ _ h => h) (Or.inl ⟨by rfl, ?_⟩) hHeld ?_
  rotate_left
  · (intro wz hSw; go_simp; try (with_reducible rfl))
  (try dsimp only [List.getElem_toArray, List.getElem_cons_zero, List.getElem_cons_succ]); (try simp only [Act.put, List.setIfInBounds_toArray, List.set_cons_zero, List.set_cons_succ])
  refine wpAnyH_take (i := 7) (oi := _) (v := ?_) rfl (by kernel_rfl) (by kernel_rfl) (by kernel_rfl) (fun _ _ _ h => h) (Or.inl ⟨by rfl, ?_⟩) hHeld ?_
  rotate_left
  · (intro wz hSw; go_simp; try (with_reducible rfl))
  (try dsimp only [List.getElem_toArray, List.getElem_cons_zero, List.getElem_cons_succ]); (try simp only [Act.put, List.setIfInBounds_toArray, List.set_cons_zero, List.set_cons_succ])
  refine wpAnyH_take (i := 8) (oi := _) (v := ?_) rfl (by kernel_rfl) (by kernel_rfl) (by kernel_rfl) (fun _ _ _ h => h) (Or.inl ⟨by rfl, ?_⟩) hHeld ?_
  rotate_left
  · (intro wz hSw; go_simp; try (with_reducible rfl))
  (try dsimp only [List.getElem_toArray, List.getElem_cons_zero, List.getElem_cons_succ]); (try simp only [Act.put, List.setIfInBounds_toArray, List.set_cons_zero, List.set_cons_succ])
  refine wpAnyH_take (i := 9) (oi := _) (v := ?_) rfl (by kernel_rfl) (by kernel_rfl) (by kernel_rfl) (fun _ _ _ h => h) (Or.inl ⟨by rfl, ?_⟩) hHeld ?_
  rotate_left
  · (intro wz hSw; go_simp; try (with_reducible rfl))
  (try dsimp only [List.getElem_toArray, List.getElem_cons_zero, List.getElem_cons_succ]); (try simp only [Act.put, List.setIfInBounds_toArray, List.set_cons_zero, List.set_cons_succ])
  refine wpAnyH_take (i := 10) (oi := _) (v := ?_) rfl (by kernel_rfl) (by kernel_rfl) (by kernel_rfl) (fun _ _ _ h => h) (Or.inl ⟨by rfl, ?_⟩) hHeld ?_
  rotate_left
  · (intro wz hSw; go_simp; try (with_reducible rfl))
  (try dsimp only [List.getElem_toArray, List.getElem_cons_zero, List.getElem_cons_succ]); (try simp only [Act.put, List.setIfInBounds_toArray, List.set_cons_zero, List.set_cons_succ])
  refine wpAnyH_take (i := 11) (oi := _) (v := ?_) rfl (by kernel_rfl) (by kernel_rfl) (by kernel_rfl) (fun _ _ _ h => h) (Or.inl ⟨by rfl, ?_⟩) hHeld ?_
  rotate_left
  · (intro wz hSw; go_simp; try (with_reducible rfl))
  (try dsimp only [List.getElem_toArray, List.getElem_cons_zero, List.getElem_cons_succ]); (try simp only [Act.put, List.setIfInBounds_toArray, List.set_cons_zero, List.set_cons_succ])
  refine wpAnyH_take (i := 12) (oi := _) (v := ?_) rfl (by kernel_rfl) (by kernel_rfl) (by kernel_rfl) (fun _ _ _ h => h) (Or.inl ⟨by rfl, ?_⟩) hHeld ?_
  rotate_left
  · (intro wz hSw; go_simp; try (with_reducible rfl))
  (try dsimp only [List.getElem_toArray, List.getElem_cons_zero, List.getElem_cons_succ]); (try simp only [Act.put, List.setIfInBounds_toArray, List.set_cons_zero, List.set_cons_succ])
  refine wpAnyH_take (i := 13) (oi := _) (v := ?_) rfl (by kernel_rfl) (by kernel_rfl) (by kernel_rfl) (fun _ _ _ h => h) (Or.inl ⟨by rfl, ?_⟩) hHeld ?_
  rotate_left
  · (intro wz hSw; go_simp; try (with_reducible rfl))
  (try dsimp only [List.getElem_toArray, List.getElem_cons_zero, List.getElem_cons_succ]); (try simp only [Act.put, List.setIfInBounds_toArray, List.set_cons_zero, List.set_cons_succ])
  refine wpAnyH_take (i := 14) (oi := _) (v := ?_) rfl (by kernel_rfl) (by kernel_rfl) (by kernel_rfl) (fun _ _ _ h => h) (Or.inl ⟨by rfl, ?_⟩) hHeld ?_
  rotate_left
  · (intro wz hSw; go_simp; try (with_reducible rfl))
  (try dsimp only [List.getElem_toArray, List.getElem_cons_zero, List.getElem_cons_succ]); (try simp only [Act.put, List.setIfInBounds_toArray, List.set_cons_zero, List.set_cons_succ])
  refine wpAnyH_take (i := 15) (oi := _) (v := undef) rfl (by kernel_rfl) (by kernel_rfl) (by kernel_rfl) (fun _ _ _ h => h) (Or.inr ⟨by rfl, rfl⟩) hHeld ?_
  (try dsimp only [List.getElem_toArray, List.getElem_cons_zero, List.getElem_cons_succ]); (try simp only [Act.put, List.setIfInBounds_toArray, List.set_cons_zero, List.set_cons_succ])
  refine wpAnyH_take (i := 16) (oi := _) (v := undef) rfl (by kernel_rfl) (by kernel_rfl) (by kernel_rfl) (fun _ _ _ h => h) (Or.inr ⟨by rfl, rfl⟩) hHeld ?_
  (try dsimp only [List.getElem_toArray, List.getElem_cons_zero, List.getElem_cons_succ]); (try simp only [Act.put, List.setIfInBounds_toArray, List.set_cons_zero, List.set_cons_succ])
  refine wpAnyH_take (i := 17) (oi := _) (v := undef) rfl (by kernel_rfl) (by kernel_rfl) (by kernel_rfl) (fun _ _ _ h => h) (Or.inr ⟨by rfl, rfl⟩) hHeld ?_
  (try dsimp only [List.getElem_toArray, List.getElem_cons_zero, List.getElem_cons_succ]); (try simp only [Act.put, List.setIfInBounds_toArray, List.set_cons_zero, List.set_cons_succ])
  refine wpAnyH_take (i := 18) (oi := _) (v := undef) rfl (by kernel_rfl) (by kernel_rfl) (by kernel_rfl) (fun _ _ _ h => h) (Or.inr ⟨by rfl, rfl⟩) hHeld ?_
  (try dsimp only [List.getElem_toArray, List.getElem_cons_zero, List.getElem_cons_succ]); (try simp only [Act.put, List.setIfInBounds_toArray, List.set_cons_zero, List.set_cons_succ])
  refine wpAnyH_take (i := 19) (oi := _) (v := undef) rfl (by kernel_rfl) (by kernel_rfl) (by kernel_rfl) (fun _ _ _ h => h) (Or.inr ⟨by rfl, rfl⟩) hHeld ?_
  (try dsimp only [List.getElem_toArray, List.getElem_cons_zero, List.getElem_cons_succ]); (try simp only [Act.put, List.setIfInBounds_toArray, List.set_cons_zero, List.set_cons_succ])
  refine wpAnyH_take (i := 20) (oi := _) (v := undef) rfl (by kernel_rfl) (by kernel_rfl) (by kernel_rfl) (fun _ _ _ h => h) (Or.inr ⟨by rfl, rfl⟩) hHeld ?_
  (try dsimp only [List.getElem_toArray, List.getElem_cons_zero, List.getElem_cons_succ]); (try simp only [Act.put, List.setIfInBounds_toArray, List.set_cons_zero, List.set_cons_succ])
  refine wpAnyH_take (i := 21) (oi := _) (v := undef) rfl (by kernel_rfl) (by kernel_rfl) (by kernel_rfl) (fun _ _ _ h => h) (Or.inr ⟨by rfl, rfl⟩) hHeld ?_
  (try dsimp only [List.getElem_toArray, List.getElem_cons_zero, List.getElem_cons_succ]); (try simp only [Act.put, List.setIfInBounds_toArray, List.set_cons_zero, List.set_cons_succ])
  refine wpAnyH_take (i := 22) (oi := _) (v := ?_) rfl (by kernel_rfl) (by kernel_rfl) (by kernel_rfl) (fun _ _ _ h => h) (Or.inl ⟨by rfl, ?_⟩) hHeld ?_
  rotate_left
  · (intro wz hSw; go_simp; try (with_reducible rfl))
  (try dsimp only [List.getElem_toArray, List.getElem_cons_zero, List.getElem_cons_succ]); (try simp only [Act.put, List.setIfInBounds_toArray, List.set_cons_zero, List.set_cons_succ])
  refine wpAnyH_take (i := 23) (oi := _) (v := ?_) rfl (by kernel_rfl) (by kernel_rfl) (by kernel_rfl) (fun _ _ _ h => h) (Or.inl ⟨by rfl, ?_⟩) hHeld ?_
  rotate_left
  · (intro wz hSw; go_simp; try (with_reducible rfl))
  (try dsimp only [List.getElem_toArray, List.getElem_cons_zero, List.getElem_cons_succ]); (try simp only [Act.put, List.setIfInBounds_toArray, List.set_cons_zero, List.set_cons_succ])
  refine wpAnyH_take (i := 24) (oi := _) (v := ?_) rfl (by kernel_rfl) (by kernel_rfl) (by kernel_rfl) (fun _ _ _ h => h) (Or.inl ⟨by rfl, ?_⟩) hHeld ?_
  rotate_left
  · (intro wz hSw; go_simp; try (with_reducible rfl))
  (try dsimp only [List.getElem_toArray, List.getElem_cons_zero, List.getElem_cons_succ]); (try simp only [Act.put, List.setIfInBounds_toArray, List.set_cons_zero, List.set_cons_succ])
  refine wpAnyH_ready (rs := [25]) (by kernel_rfl) (by simp) ?_
  refine AllReadyH.cons (o := _) rfl (fun K hK => ?_) AllReadyH.nil
  go_simp
  go_at_call 6
  (with_reducible refine (awake19_any _).mono ?_)
  rintro e w11 ⟨rfl, hb1⟩
  replace HB := Lib.hid (HB.out.trans (hb1.mono HB.out.size))
  refine hK.out _ _ (⟨hHeld.1.below hb1 hHeld.1.lt, hHeld.2.1.below hb1 hHeld.2.1.lt, hHeld.2.2.below hb1 hHeld.2.2.lt⟩) (fun hH => ?_)
  clear hHeld hK K hb1
  have hHeld := hH
  clear hH
  (try dsimp only [List.getElem_toArray, List.getElem_cons_zero, List.getElem_cons_succ]); (try simp only [Act.put, List.setIfInBounds_toArray, List.set_cons_zero, List.set_cons_succ])
  refine wpAnyH_take (i := 26) (oi := _) (v := ?_) rfl (by kernel_rfl) (by kernel_rfl) (by kernel_rfl) (fun _ _ _ h => h) (Or.inl ⟨by rfl, ?_⟩) hHeld ?_
  rotate_left
  · (intro wz hSw; go_simp; try (with_reducible rfl))
  (try dsimp only [List.getElem_toArray, List.getElem_cons_zero, List.getElem_cons_succ]); (try simp only [Act.put, List.setIfInBounds_toArray, List.set_cons_zero, List.set_cons_succ])
  refine wpAnyH_take (i := 27) (oi := _) (v := ?_) rfl (by kernel_rfl) (by kernel_rfl) (by kernel_rfl) (fun _ _ _ h => h) (Or.inl ⟨by rfl, ?_⟩) hHeld ?_
  rotate_left
  · (intro wz hSw; go_simp; try (with_reducible rfl))
  (try dsimp only [List.getElem_toArray, List.getElem_cons_zero, List.getElem_cons_succ]); (try simp only [Act.put, List.setIfInBounds_toArray, List.set_cons_zero, List.set_cons_succ])
  refine wpAnyH_done (by kernel_rfl) ?_ _
  clear hHeld
  go_wp2
  go_ret
  exact ⟨rfl, HB.out⟩
set_option maxRecDepth 100000 in
set_option maxHeartbeats 8000000 in
theorem fileFalls_nearGeA (a s m : List UInt8) (n : Int) (w : World) (ha : a.length ≤ 5000) (hs : s.length ≤ 5000) (hm : m.length ≤ 1000) (hc : ¬ n < (s.length : Int)) (ht : (flleft (a, a ++ s) n m).length ≤ a.length + 64) :
    Calls Try.prog 4 #[.agg #[.string ⟨a.toArray⟩, .string ⟨s.toArray⟩], .int .i64 n, .string ⟨m.toArray⟩] w fun e w' => e = .returned (.bool true) ∧ Below w.heap.size w w' := by
  have g1 : ¬ (5000 : Int) < (a.length : Int) := by omega
  have g2 : ¬ (5000 : Int) < (s.length : Int) := by omega
  have g3 : ¬ (1000 : Int) < (m.length : Int) := by omega
  have P1 := fun W => p_flapp_any a a s W (by omega) (by omega)
  rw [show flappF (a, a) s = ((a, a ++ s), 0) from if_neg (by dsimp only; omega)] at P1
  have hB : (a ++ s).length ≤ 10000 := by rw [List.length_append]; omega
  have P2 := fun W => p_flfall_any a (a ++ s) m n W (by omega) (by omega) (by omega)
  have P3 := fun W => p_flfall_any a (a ++ s) [] n W (by omega) (by omega) (by decide)
  unfold flc at P1 P2 P3
  dsimp only at P1 P2 P3
  replace P1 := Lib.hid P1
  replace P2 := Lib.hid P2
  replace P3 := Lib.hid P3
  obtain ⟨l1, l2, l3⟩ := flfalls_len a s n m
  have f1 := flfalls_safe a s n m
  have f2 := flfalls_begin a s n
  have f3 := flfalls_whole a s n m
  have f4 := flfalls_all a s n
  have s1 := fun W => fl_head (flleft (a, a ++ s) n m) a.length (by omega) W
  rw [f1] at s1
  have s2 := fun W => fl_head (a ++ s) (flleft (a, a ++ s) n []).length (by omega) W
  rw [f2] at s2
  have s3 := fun W => fl_head (a ++ s) a.length (by rw [List.length_append]; omega) W
  rw [List.take_left] at s3
  obtain ⟨d, hd⟩ : ∃ d : Int, ((flleft (a, a ++ s) n m).length : Int) - 64 = d := ⟨_, rfl⟩
  have hw : IntKind.i64.wrap (((flleft (a, a ++ s) n m).length : Int) - 64) = d := by rw [IntKind.wrap_i64]; omega
  have hmx : max (a.length : Int) d = (a.length : Int) := by omega
  have hml : d ≤ (a.length : Int) := by omega
  have cd : decide (n < (s.length : Int)) = false := decide_eq_false hc
  have f5 := f4 (by omega)
  have e5 : (((flleft (a, a ++ s) n []).length : Int) == ((a ++ s).length : Int)) = true := by simp [f5]
  have e5n : ((flleft (a, a ++ s) n []).length == (a ++ s).length) = true := by simp [f5]
  clear f5
  clear f1 f2 f3 f4
  clear hd
  generalize a ++ s = B at *
  generalize flleft (a, B) n m = G at *
  generalize flleft (a, B) n [] = H at *
  have b1 : ((G.length : Int) != (H.length : Int)) = false := by simp [l1]
  have b1n : (G.length != H.length) = false := by simp [l1]
  have b1e : ((G.length : Int) == (H.length : Int)) = true := by simp [l1]
  have b2 : decide ((G.length : Int) < (a.length : Int)) = false := decide_eq_false (by omega)
  have b2n : decide (G.length < a.length) = false := decide_eq_false (by omega)
  have b3 : decide ((B.length : Int) < (G.length : Int)) = false := decide_eq_false (by omega)
  have b3n : decide (B.length < G.length) = false := decide_eq_false (by omega)
  clear hc l1 l2 l3 hB ha hs hm ht
  go_enter Try.func4, Try.ntmps4
  go_wp2
  go_quiet (fail)
  have HB := Lib.hid (below_drewN ((Below.refl w.heap.size w).alloc (Nat.le_refl _) (.cells #[.string ⟨a.toArray⟩, .string ⟨s.toArray⟩] 23)) nq)
  go_wp2_with (first
    | (go_at_call 7; (with_reducible refine (P1.out _).mono ?_); rintro e w1 ⟨rfl, hb⟩; replace HB := Lib.hid (HB.out.trans (hb.mono HB.out.size)); clear hb; replace HB := Lib.hid (HB.out.alloc HB.out.size (.cells #[.string ⟨a.toArray⟩, .string ⟨B.toArray⟩] 23)); have Hf := Lib.hid (Blk.new w1 23 #[.string ⟨a.toArray⟩, .string ⟨B.toArray⟩]); have xf0 := Hf.out.cell 0; have xf1 := Hf.out.cell 1; simp only [List.getElem?_toArray, List.getElem?_cons_zero, List.getElem?_cons_succ] at xf0 xf1)
    | (go_at_call 14; (with_reducible refine (P2.out _).mono ?_); rintro e w2 ⟨rfl, hb⟩; replace Hf := Lib.hid (Hf.out.below hb Hf.out.lt); replace HB := Lib.hid (HB.out.trans (hb.mono HB.out.size)); clear hb; replace Hf := Lib.hid (Hf.out.alloc (.cells #[.string ⟨G.toArray⟩, .string ⟨G.toArray⟩] 23)); replace HB := Lib.hid (HB.out.alloc HB.out.size (.cells #[.string ⟨G.toArray⟩, .string ⟨G.toArray⟩] 23)); have Hg := Lib.hid (Blk.new w2 23 #[.string ⟨G.toArray⟩, .string ⟨G.toArray⟩]); clear xf0 xf1; have xf0 := Hf.out.cell 0; have xf1 := Hf.out.cell 1; simp only [List.getElem?_toArray, List.getElem?_cons_zero, List.getElem?_cons_succ] at xf0 xf1)
    | (go_at_call 14; (with_reducible refine (P3.out _).mono ?_); rintro e w3 ⟨rfl, hb⟩; replace Hf := Lib.hid (Hf.out.below hb Hf.out.lt); replace Hg := Lib.hid (Hg.out.below hb Hg.out.lt); replace HB := Lib.hid (HB.out.trans (hb.mono HB.out.size)); clear hb; replace Hf := Lib.hid (Hf.out.alloc (.cells #[.string ⟨H.toArray⟩, .string ⟨H.toArray⟩] 23)); replace Hg := Lib.hid (Hg.out.alloc (.cells #[.string ⟨H.toArray⟩, .string ⟨H.toArray⟩] 23)); replace HB := Lib.hid (HB.out.alloc HB.out.size (.cells #[.string ⟨H.toArray⟩, .string ⟨H.toArray⟩] 23)); have Hh := Lib.hid (Blk.new w3 23 #[.string ⟨H.toArray⟩, .string ⟨H.toArray⟩]); clear xf0 xf1; have xf0 := Hf.out.cell 0; have xf1 := Hf.out.cell 1; have xg0 := Hg.out.cell 0; have xg1 := Hg.out.cell 1; have xh0 := Hh.out.cell 0; have xh1 := Hh.out.cell 1; simp only [List.getElem?_toArray, List.getElem?_cons_zero, List.getElem?_cons_succ] at xf0 xf1 xg0 xg1 xh0 xh1))
  go_quiet (fail)
  have HB2 := Lib.hid (below_drewN HB.out nq)
  clear HB
  go_wp2
  have HB := Lib.hid HB2.out.drew
  clear HB2 xf0 xf1 xg0 xg1 xh0 xh1
  refine wp_region_held_drew (S := (fun W => Blk W w1.heap.size 23 #[.string ⟨a.toArray⟩, .string ⟨B.toArray⟩] ∧ Blk W w2.heap.size 23 #[.string ⟨G.toArray⟩, .string ⟨G.toArray⟩] ∧ Blk W w3.heap.size 23 #[.string ⟨H.toArray⟩, .string ⟨H.toArray⟩])) (by kernel_rfl) (⟨Hf.out, Hg.out, Hh.out⟩) (fun hHeld => ?_)
  refine wpAnyH_take (i := 0) (oi := _) (v := ?_) rfl (by kernel_rfl) (by kernel_rfl) (by kernel_rfl) (fun _ _ _ h => h) (Or.inl ⟨by rfl, ?_⟩) hHeld ?_
  rotate_left
  · (intro wz hSw; go_simp; try (with_reducible rfl))
  (try dsimp only [List.getElem_toArray, List.getElem_cons_zero, List.getElem_cons_succ]); (try simp only [Act.put, List.setIfInBounds_toArray, List.set_cons_zero, List.set_cons_succ])
  refine wpAnyH_take (i := 1) (oi := _) (v := ?_) rfl (by kernel_rfl) (by kernel_rfl) (by kernel_rfl) (fun _ _ _ h => h) (Or.inl ⟨by rfl, ?_⟩) hHeld ?_
  rotate_left
  · (intro wz hSw; have k0 := hSw.2.1.cell 0; have k1 := hSw.2.1.cell 1; simp only [List.getElem?_toArray, List.getElem?_cons_zero, List.getElem?_cons_succ] at k0 k1; go_simp; try (with_reducible rfl))
  (try dsimp only [List.getElem_toArray, List.getElem_cons_zero, List.getElem_cons_succ]); (try simp only [Act.put, List.setIfInBounds_toArray, List.set_cons_zero, List.set_cons_succ])
  refine wpAnyH_take (i := 2) (oi := _) (v := ?_) rfl (by kernel_rfl) (by kernel_rfl) (by kernel_rfl) (fun _ _ _ h => h) (Or.inl ⟨by rfl, ?_⟩) hHeld ?_
  rotate_left
  · (intro wz hSw; go_simp; try (with_reducible rfl))
  (try dsimp only [List.getElem_toArray, List.getElem_cons_zero, List.getElem_cons_succ]); (try simp only [Act.put, List.setIfInBounds_toArray, List.set_cons_zero, List.set_cons_succ])
  refine wpAnyH_take (i := 3) (oi := _) (v := ?_) rfl (by kernel_rfl) (by kernel_rfl) (by kernel_rfl) (fun _ _ _ h => h) (Or.inl ⟨by rfl, ?_⟩) hHeld ?_
  rotate_left
  · (intro wz hSw; go_simp; try (with_reducible rfl))
  (try dsimp only [List.getElem_toArray, List.getElem_cons_zero, List.getElem_cons_succ]); (try simp only [Act.put, List.setIfInBounds_toArray, List.set_cons_zero, List.set_cons_succ])
  refine wpAnyH_take (i := 4) (oi := _) (v := ?_) rfl (by kernel_rfl) (by kernel_rfl) (by kernel_rfl) (fun _ _ _ h => h) (Or.inl ⟨by rfl, ?_⟩) hHeld ?_
  rotate_left
  · (intro wz hSw; go_simp; try (with_reducible rfl))
  (try dsimp only [List.getElem_toArray, List.getElem_cons_zero, List.getElem_cons_succ]); (try simp only [Act.put, List.setIfInBounds_toArray, List.set_cons_zero, List.set_cons_succ])
  refine wpAnyH_take (i := 5) (oi := _) (v := ?_) rfl (by kernel_rfl) (by kernel_rfl) (by kernel_rfl) (fun _ _ _ h => h) (Or.inl ⟨by rfl, ?_⟩) hHeld ?_
  rotate_left
  · (intro wz hSw; have k0 := hSw.1.cell 0; have k1 := hSw.1.cell 1; simp only [List.getElem?_toArray, List.getElem?_cons_zero, List.getElem?_cons_succ] at k0 k1; go_simp; try (with_reducible rfl))
  (try dsimp only [List.getElem_toArray, List.getElem_cons_zero, List.getElem_cons_succ]); (try simp only [Act.put, List.setIfInBounds_toArray, List.set_cons_zero, List.set_cons_succ])
  refine wpAnyH_take (i := 6) (oi := _) (v := ?_) rfl (by kernel_rfl) (by kernel_rfl) (by kernel_rfl) (fun _ _ _ h => h) (Or.inl ⟨by rfl, ?_⟩) hHeld ?_
  rotate_left
  · (intro wz hSw; go_simp; try (with_reducible rfl))
  (try dsimp only [List.getElem_toArray, List.getElem_cons_zero, List.getElem_cons_succ]); (try simp only [Act.put, List.setIfInBounds_toArray, List.set_cons_zero, List.set_cons_succ])
  refine wpAnyH_take (i := 7) (oi := _) (v := ?_) rfl (by kernel_rfl) (by kernel_rfl) (by kernel_rfl) (fun _ _ _ h => h) (Or.inl ⟨by rfl, ?_⟩) hHeld ?_
  rotate_left
  · (intro wz hSw; go_simp; try (with_reducible rfl))
  (try dsimp only [List.getElem_toArray, List.getElem_cons_zero, List.getElem_cons_succ]); (try simp only [Act.put, List.setIfInBounds_toArray, List.set_cons_zero, List.set_cons_succ])
  refine wpAnyH_take (i := 8) (oi := _) (v := ?_) rfl (by kernel_rfl) (by kernel_rfl) (by kernel_rfl) (fun _ _ _ h => h) (Or.inl ⟨by rfl, ?_⟩) hHeld ?_
  rotate_left
  · (intro wz hSw; go_simp; try (with_reducible rfl))
  (try dsimp only [List.getElem_toArray, List.getElem_cons_zero, List.getElem_cons_succ]); (try simp only [Act.put, List.setIfInBounds_toArray, List.set_cons_zero, List.set_cons_succ])
  refine wpAnyH_take (i := 9) (oi := _) (v := ?_) rfl (by kernel_rfl) (by kernel_rfl) (by kernel_rfl) (fun _ _ _ h => h) (Or.inl ⟨by rfl, ?_⟩) hHeld ?_
  rotate_left
  · (intro wz hSw; go_simp; try (with_reducible rfl))
  (try dsimp only [List.getElem_toArray, List.getElem_cons_zero, List.getElem_cons_succ]); (try simp only [Act.put, List.setIfInBounds_toArray, List.set_cons_zero, List.set_cons_succ])
  refine wpAnyH_take (i := 10) (oi := _) (v := ?_) rfl (by kernel_rfl) (by kernel_rfl) (by kernel_rfl) (fun _ _ _ h => h) (Or.inl ⟨by rfl, ?_⟩) hHeld ?_
  rotate_left
  · (intro wz hSw; go_simp; try (with_reducible rfl))
  (try dsimp only [List.getElem_toArray, List.getElem_cons_zero, List.getElem_cons_succ]); (try simp only [Act.put, List.setIfInBounds_toArray, List.set_cons_zero, List.set_cons_succ])
  refine wpAnyH_take (i := 11) (oi := _) (v := ?_) rfl (by kernel_rfl) (by kernel_rfl) (by kernel_rfl) (fun _ _ _ h => h) (Or.inl ⟨by rfl, ?_⟩) hHeld ?_
  rotate_left
  · (intro wz hSw; go_simp; try (with_reducible rfl))
  (try dsimp only [List.getElem_toArray, List.getElem_cons_zero, List.getElem_cons_succ]); (try simp only [Act.put, List.setIfInBounds_toArray, List.set_cons_zero, List.set_cons_succ])
  refine wpAnyH_take (i := 12) (oi := _) (v := ?_) rfl (by kernel_rfl) (by kernel_rfl) (by kernel_rfl) (fun _ _ _ h => h) (Or.inl ⟨by rfl, ?_⟩) hHeld ?_
  rotate_left
  · (intro wz hSw; go_simp; try (with_reducible rfl))
  (try dsimp only [List.getElem_toArray, List.getElem_cons_zero, List.getElem_cons_succ]); (try simp only [Act.put, List.setIfInBounds_toArray, List.set_cons_zero, List.set_cons_succ])
  refine wpAnyH_take (i := 13) (oi := _) (v := ?_) rfl (by kernel_rfl) (by kernel_rfl) (by kernel_rfl) (fun _ _ _ h => h) (Or.inl ⟨by rfl, ?_⟩) hHeld ?_
  rotate_left
  · (intro wz hSw; go_simp; try (with_reducible rfl))
  (try dsimp only [List.getElem_toArray, List.getElem_cons_zero, List.getElem_cons_succ]); (try simp only [Act.put, List.setIfInBounds_toArray, List.set_cons_zero, List.set_cons_succ])
  refine wpAnyH_take (i := 14) (oi := _) (v := ?_) rfl (by kernel_rfl) (by kernel_rfl) (by kernel_rfl) (fun _ _ _ h => h) (Or.inl ⟨by rfl, ?_⟩) hHeld ?_
  rotate_left
  · (intro wz hSw; go_simp; try (with_reducible rfl))
  (try dsimp only [List.getElem_toArray, List.getElem_cons_zero, List.getElem_cons_succ]); (try simp only [Act.put, List.setIfInBounds_toArray, List.set_cons_zero, List.set_cons_succ])
  refine wpAnyH_take (i := 15) (oi := _) (v := ?_) rfl (by kernel_rfl) (by kernel_rfl) (by kernel_rfl) (fun _ _ _ h => h) (Or.inl ⟨by rfl, ?_⟩) hHeld ?_
  rotate_left
  · (intro wz hSw; go_simp; try (with_reducible rfl))
  (try dsimp only [List.getElem_toArray, List.getElem_cons_zero, List.getElem_cons_succ]); (try simp only [Act.put, List.setIfInBounds_toArray, List.set_cons_zero, List.set_cons_succ])
  refine wpAnyH_take (i := 16) (oi := _) (v := ?_) rfl (by kernel_rfl) (by kernel_rfl) (by kernel_rfl) (fun _ _ _ h => h) (Or.inl ⟨by rfl, ?_⟩) hHeld ?_
  rotate_left
  · (intro wz hSw; have k0 := hSw.2.2.cell 0; have k1 := hSw.2.2.cell 1; simp only [List.getElem?_toArray, List.getElem?_cons_zero, List.getElem?_cons_succ] at k0 k1; go_simp; try (with_reducible rfl))
  (try dsimp only [List.getElem_toArray, List.getElem_cons_zero, List.getElem_cons_succ]); (try simp only [Act.put, List.setIfInBounds_toArray, List.set_cons_zero, List.set_cons_succ])
  refine wpAnyH_take (i := 17) (oi := _) (v := ?_) rfl (by kernel_rfl) (by kernel_rfl) (by kernel_rfl) (fun _ _ _ h => h) (Or.inl ⟨by rfl, ?_⟩) hHeld ?_
  rotate_left
  · (intro wz hSw; go_simp; try (with_reducible rfl))
  (try dsimp only [List.getElem_toArray, List.getElem_cons_zero, List.getElem_cons_succ]); (try simp only [Act.put, List.setIfInBounds_toArray, List.set_cons_zero, List.set_cons_succ])
  refine wpAnyH_take (i := 18) (oi := _) (v := ?_) rfl (by kernel_rfl) (by kernel_rfl) (by kernel_rfl) (fun _ _ _ h => h) (Or.inl ⟨by rfl, ?_⟩) hHeld ?_
  rotate_left
  · (intro wz hSw; go_simp; try (with_reducible rfl))
  (try dsimp only [List.getElem_toArray, List.getElem_cons_zero, List.getElem_cons_succ]); (try simp only [Act.put, List.setIfInBounds_toArray, List.set_cons_zero, List.set_cons_succ])
  refine wpAnyH_take (i := 19) (oi := _) (v := ?_) rfl (by kernel_rfl) (by kernel_rfl) (by kernel_rfl) (fun _ _ _ h => h) (Or.inl ⟨by rfl, ?_⟩) hHeld ?_
  rotate_left
  · (intro wz hSw; have k0 := hSw.1.cell 0; have k1 := hSw.1.cell 1; simp only [List.getElem?_toArray, List.getElem?_cons_zero, List.getElem?_cons_succ] at k0 k1; go_simp; try (with_reducible rfl))
  (try dsimp only [List.getElem_toArray, List.getElem_cons_zero, List.getElem_cons_succ]); (try simp only [Act.put, List.setIfInBounds_toArray, List.set_cons_zero, List.set_cons_succ])
  refine wpAnyH_take (i := 20) (oi := _) (v := ?_) rfl (by kernel_rfl) (by kernel_rfl) (by kernel_rfl) (fun _ _ _ h => h) (Or.inl ⟨by rfl, ?_⟩) hHeld ?_
  rotate_left
  · (intro wz hSw; go_simp; try (with_reducible rfl))
  (try dsimp only [List.getElem_toArray, List.getElem_cons_zero, List.getElem_cons_succ]); (try simp only [Act.put, List.setIfInBounds_toArray, List.set_cons_zero, List.set_cons_succ])
  refine wpAnyH_take (i := 21) (oi := _) (v := ?_) rfl (by kernel_rfl) (by kernel_rfl) (by kernel_rfl) (fun _ _ _ h => h) (Or.inl ⟨by rfl, ?_⟩) hHeld ?_
  rotate_left
  · (intro wz hSw; go_simp; try (with_reducible rfl))
  (try dsimp only [List.getElem_toArray, List.getElem_cons_zero, List.getElem_cons_succ]); (try simp only [Act.put, List.setIfInBounds_toArray, List.set_cons_zero, List.set_cons_succ])
  refine wpAnyH_take (i := 22) (oi := _) (v := ?_) rfl (by kernel_rfl) (by kernel_rfl) (by kernel_rfl) (fun _ _ _ h => h) (Or.inl ⟨by rfl, ?_⟩) hHeld ?_
  rotate_left
  · (intro wz hSw; go_simp; try (with_reducible rfl))
  (try dsimp only [List.getElem_toArray, List.getElem_cons_zero, List.getElem_cons_succ]); (try simp only [Act.put, List.setIfInBounds_toArray, List.set_cons_zero, List.set_cons_succ])
  refine wpAnyH_take (i := 23) (oi := _) (v := ?_) rfl (by kernel_rfl) (by kernel_rfl) (by kernel_rfl) (fun _ _ _ h => h) (Or.inl ⟨by rfl, ?_⟩) hHeld ?_
  rotate_left
  · (intro wz hSw; go_simp; try (with_reducible rfl))
  (try dsimp only [List.getElem_toArray, List.getElem_cons_zero, List.getElem_cons_succ]); (try simp only [Act.put, List.setIfInBounds_toArray, List.set_cons_zero, List.set_cons_succ])
  refine wpAnyH_take (i := 24) (oi := _) (v := ?_) rfl (by kernel_rfl) (by kernel_rfl) (by kernel_rfl) (fun _ _ _ h => h) (Or.inl ⟨by rfl, ?_⟩) hHeld ?_
  rotate_left
  · (intro wz hSw; go_simp; try (with_reducible rfl))
  (try dsimp only [List.getElem_toArray, List.getElem_cons_zero, List.getElem_cons_succ]); (try simp only [Act.put, List.setIfInBounds_toArray, List.set_cons_zero, List.set_cons_succ])
  refine wpAnyH_ready (rs := [25]) (by kernel_rfl) (by simp) ?_
  refine AllReadyH.cons (o := _) rfl (fun K hK => ?_) AllReadyH.nil
  go_simp
  go_at_call 6
  (with_reducible refine (awake19_any _).mono ?_)
  rintro e w11 ⟨rfl, hb1⟩
  replace HB := Lib.hid (HB.out.trans (hb1.mono HB.out.size))
  refine hK.out _ _ (⟨hHeld.1.below hb1 hHeld.1.lt, hHeld.2.1.below hb1 hHeld.2.1.lt, hHeld.2.2.below hb1 hHeld.2.2.lt⟩) (fun hH => ?_)
  clear hHeld hK K hb1
  have hHeld := hH
  clear hH
  (try dsimp only [List.getElem_toArray, List.getElem_cons_zero, List.getElem_cons_succ]); (try simp only [Act.put, List.setIfInBounds_toArray, List.set_cons_zero, List.set_cons_succ])
  refine wpAnyH_take (i := 26) (oi := _) (v := ?_) rfl (by kernel_rfl) (by kernel_rfl) (by kernel_rfl) (fun _ _ _ h => h) (Or.inl ⟨by rfl, ?_⟩) hHeld ?_
  rotate_left
  · (intro wz hSw; go_simp; try (with_reducible rfl))
  (try dsimp only [List.getElem_toArray, List.getElem_cons_zero, List.getElem_cons_succ]); (try simp only [Act.put, List.setIfInBounds_toArray, List.set_cons_zero, List.set_cons_succ])
  refine wpAnyH_take (i := 27) (oi := _) (v := ?_) rfl (by kernel_rfl) (by kernel_rfl) (by kernel_rfl) (fun _ _ _ h => h) (Or.inl ⟨by rfl, ?_⟩) hHeld ?_
  rotate_left
  · (intro wz hSw; go_simp; try (with_reducible rfl))
  (try dsimp only [List.getElem_toArray, List.getElem_cons_zero, List.getElem_cons_succ]); (try simp only [Act.put, List.setIfInBounds_toArray, List.set_cons_zero, List.set_cons_succ])
  refine wpAnyH_done (by kernel_rfl) ?_ _
  clear hHeld
  go_wp2
  go_ret
  exact ⟨rfl, HB.out⟩
set_option maxRecDepth 100000 in
set_option maxHeartbeats 8000000 in
theorem fileFalls_nearGeB (a s m : List UInt8) (n : Int) (w : World) (ha : a.length ≤ 5000) (hs : s.length ≤ 5000) (hm : m.length ≤ 1000) (hc : ¬ n < (s.length : Int)) (ht : ¬ (flleft (a, a ++ s) n m).length ≤ a.length + 64) :
    Calls Try.prog 4 #[.agg #[.string ⟨a.toArray⟩, .string ⟨s.toArray⟩], .int .i64 n, .string ⟨m.toArray⟩] w fun e w' => e = .returned (.bool true) ∧ Below w.heap.size w w' := by
  have g1 : ¬ (5000 : Int) < (a.length : Int) := by omega
  have g2 : ¬ (5000 : Int) < (s.length : Int) := by omega
  have g3 : ¬ (1000 : Int) < (m.length : Int) := by omega
  have P1 := fun W => p_flapp_any a a s W (by omega) (by omega)
  rw [show flappF (a, a) s = ((a, a ++ s), 0) from if_neg (by dsimp only; omega)] at P1
  have hB : (a ++ s).length ≤ 10000 := by rw [List.length_append]; omega
  have P2 := fun W => p_flfall_any a (a ++ s) m n W (by omega) (by omega) (by omega)
  have P3 := fun W => p_flfall_any a (a ++ s) [] n W (by omega) (by omega) (by decide)
  unfold flc at P1 P2 P3
  dsimp only at P1 P2 P3
  replace P1 := Lib.hid P1
  replace P2 := Lib.hid P2
  replace P3 := Lib.hid P3
  obtain ⟨l1, l2, l3⟩ := flfalls_len a s n m
  have f1 := flfalls_safe a s n m
  have f2 := flfalls_begin a s n
  have f3 := flfalls_whole a s n m
  have f4 := flfalls_all a s n
  have s1 := fun W => fl_head (flleft (a, a ++ s) n m) a.length (by omega) W
  rw [f1] at s1
  have s2 := fun W => fl_head (a ++ s) (flleft (a, a ++ s) n []).length (by omega) W
  rw [f2] at s2
  obtain ⟨K, hK⟩ : ∃ K : Nat, K + 64 = (flleft (a, a ++ s) n m).length := ⟨(flleft (a, a ++ s) n m).length - 64, by omega⟩
  have f3 := f3 K (by omega)
  have s3 := fun W => fl_head (flleft (a, a ++ s) n m) K (by omega) W
  have s4 := fun W => fl_head (a ++ s) K (by omega) W
  rw [f3] at s3
  have hw : IntKind.i64.wrap (((flleft (a, a ++ s) n m).length : Int) - 64) = (K : Int) := by rw [IntKind.wrap_i64]; omega
  have hmx : max (a.length : Int) (K : Int) = (K : Int) := by omega
  have hml : (a.length : Int) < (K : Int) := by omega
  have cd : decide (n < (s.length : Int)) = false := decide_eq_false hc
  have f5 := f4 (by omega)
  have e5 : (((flleft (a, a ++ s) n []).length : Int) == ((a ++ s).length : Int)) = true := by simp [f5]
  have e5n : ((flleft (a, a ++ s) n []).length == (a ++ s).length) = true := by simp [f5]
  clear f5
  clear f1 f2 f3 f4
  clear hK
  generalize (a ++ s).take K = X at *
  generalize a ++ s = B at *
  generalize flleft (a, B) n m = G at *
  generalize flleft (a, B) n [] = H at *
  have b1 : ((G.length : Int) != (H.length : Int)) = false := by simp [l1]
  have b1n : (G.length != H.length) = false := by simp [l1]
  have b1e : ((G.length : Int) == (H.length : Int)) = true := by simp [l1]
  have b2 : decide ((G.length : Int) < (a.length : Int)) = false := decide_eq_false (by omega)
  have b2n : decide (G.length < a.length) = false := decide_eq_false (by omega)
  have b3 : decide ((B.length : Int) < (G.length : Int)) = false := decide_eq_false (by omega)
  have b3n : decide (B.length < G.length) = false := decide_eq_false (by omega)
  clear hc l1 l2 l3 hB ha hs hm ht
  go_enter Try.func4, Try.ntmps4
  go_wp2
  go_quiet (fail)
  have HB := Lib.hid (below_drewN ((Below.refl w.heap.size w).alloc (Nat.le_refl _) (.cells #[.string ⟨a.toArray⟩, .string ⟨s.toArray⟩] 23)) nq)
  go_wp2_with (first
    | (go_at_call 7; (with_reducible refine (P1.out _).mono ?_); rintro e w1 ⟨rfl, hb⟩; replace HB := Lib.hid (HB.out.trans (hb.mono HB.out.size)); clear hb; replace HB := Lib.hid (HB.out.alloc HB.out.size (.cells #[.string ⟨a.toArray⟩, .string ⟨B.toArray⟩] 23)); have Hf := Lib.hid (Blk.new w1 23 #[.string ⟨a.toArray⟩, .string ⟨B.toArray⟩]); have xf0 := Hf.out.cell 0; have xf1 := Hf.out.cell 1; simp only [List.getElem?_toArray, List.getElem?_cons_zero, List.getElem?_cons_succ] at xf0 xf1)
    | (go_at_call 14; (with_reducible refine (P2.out _).mono ?_); rintro e w2 ⟨rfl, hb⟩; replace Hf := Lib.hid (Hf.out.below hb Hf.out.lt); replace HB := Lib.hid (HB.out.trans (hb.mono HB.out.size)); clear hb; replace Hf := Lib.hid (Hf.out.alloc (.cells #[.string ⟨G.toArray⟩, .string ⟨G.toArray⟩] 23)); replace HB := Lib.hid (HB.out.alloc HB.out.size (.cells #[.string ⟨G.toArray⟩, .string ⟨G.toArray⟩] 23)); have Hg := Lib.hid (Blk.new w2 23 #[.string ⟨G.toArray⟩, .string ⟨G.toArray⟩]); clear xf0 xf1; have xf0 := Hf.out.cell 0; have xf1 := Hf.out.cell 1; simp only [List.getElem?_toArray, List.getElem?_cons_zero, List.getElem?_cons_succ] at xf0 xf1)
    | (go_at_call 14; (with_reducible refine (P3.out _).mono ?_); rintro e w3 ⟨rfl, hb⟩; replace Hf := Lib.hid (Hf.out.below hb Hf.out.lt); replace Hg := Lib.hid (Hg.out.below hb Hg.out.lt); replace HB := Lib.hid (HB.out.trans (hb.mono HB.out.size)); clear hb; replace Hf := Lib.hid (Hf.out.alloc (.cells #[.string ⟨H.toArray⟩, .string ⟨H.toArray⟩] 23)); replace Hg := Lib.hid (Hg.out.alloc (.cells #[.string ⟨H.toArray⟩, .string ⟨H.toArray⟩] 23)); replace HB := Lib.hid (HB.out.alloc HB.out.size (.cells #[.string ⟨H.toArray⟩, .string ⟨H.toArray⟩] 23)); have Hh := Lib.hid (Blk.new w3 23 #[.string ⟨H.toArray⟩, .string ⟨H.toArray⟩]); clear xf0 xf1; have xf0 := Hf.out.cell 0; have xf1 := Hf.out.cell 1; have xg0 := Hg.out.cell 0; have xg1 := Hg.out.cell 1; have xh0 := Hh.out.cell 0; have xh1 := Hh.out.cell 1; simp only [List.getElem?_toArray, List.getElem?_cons_zero, List.getElem?_cons_succ] at xf0 xf1 xg0 xg1 xh0 xh1))
  go_quiet (fail)
  have HB2 := Lib.hid (below_drewN HB.out nq)
  clear HB
  go_wp2
  have HB := Lib.hid HB2.out.drew
  clear HB2 xf0 xf1 xg0 xg1 xh0 xh1
  refine wp_region_held_drew (S := (fun W => Blk W w1.heap.size 23 #[.string ⟨a.toArray⟩, .string ⟨B.toArray⟩] ∧ Blk W w2.heap.size 23 #[.string ⟨G.toArray⟩, .string ⟨G.toArray⟩] ∧ Blk W w3.heap.size 23 #[.string ⟨H.toArray⟩, .string ⟨H.toArray⟩])) (by kernel_rfl) (⟨Hf.out, Hg.out, Hh.out⟩) (fun hHeld => ?_)
  refine wpAnyH_take (i := 0) (oi := _) (v := ?_) rfl (by kernel_rfl) (by kernel_rfl) (by kernel_rfl) (fun _ _ _ h => h) (Or.inl ⟨by rfl, ?_⟩) hHeld ?_
  rotate_left
  · (intro wz hSw; go_simp; try (with_reducible rfl))
  (try dsimp only [List.getElem_toArray, List.getElem_cons_zero, List.getElem_cons_succ]); (try simp only [Act.put, List.setIfInBounds_toArray, List.set_cons_zero, List.set_cons_succ])
  refine wpAnyH_take (i := 1) (oi := _) (v := ?_) rfl (by kernel_rfl) (by kernel_rfl) (by kernel_rfl) (fun _ _ _ h => h) (Or.inl ⟨by rfl, ?_⟩) hHeld ?_
  rotate_left
  · (intro wz hSw; have k0 := hSw.2.1.cell 0; have k1 := hSw.2.1.cell 1; simp only [List.getElem?_toArray, List.getElem?_cons_zero, List.getElem?_cons_succ] at k0 k1; go_simp; try (with_reducible rfl))
  (try dsimp only [List.getElem_toArray, List.getElem_cons_zero, List.getElem_cons_succ]); (try simp only [Act.put, List.setIfInBounds_toArray, List.set_cons_zero, List.set_cons_succ])
  refine wpAnyH_take (i := 2) (oi := _) (v := ?_) rfl (by kernel_rfl) (by kernel_rfl) (by kernel_rfl) (fun _ _ _ h => h) (Or.inl ⟨by rfl, ?_⟩) hHeld ?_
  rotate_left
  · (intro wz hSw; go_simp; try (with_reducible rfl))
  (try dsimp only [List.getElem_toArray, List.getElem_cons_zero, List.getElem_cons_succ]); (try simp only [Act.put, List.setIfInBounds_toArray, List.set_cons_zero, List.set_cons_succ])
  refine wpAnyH_take (i := 3) (oi := _) (v := ?_) rfl (by kernel_rfl) (by kernel_rfl) (by kernel_rfl) (fun _ _ _ h => h) (Or.inl ⟨by rfl, ?_⟩) hHeld ?_
  rotate_left
  · (intro wz hSw; go_simp; try (with_reducible rfl))
  (try dsimp only [List.getElem_toArray, List.getElem_cons_zero, List.getElem_cons_succ]); (try simp only [Act.put, List.setIfInBounds_toArray, List.set_cons_zero, List.set_cons_succ])
  refine wpAnyH_take (i := 4) (oi := _) (v := ?_) rfl (by kernel_rfl) (by kernel_rfl) (by kernel_rfl) (fun _ _ _ h => h) (Or.inl ⟨by rfl, ?_⟩) hHeld ?_
  rotate_left
  · (intro wz hSw; go_simp; try (with_reducible rfl))
  (try dsimp only [List.getElem_toArray, List.getElem_cons_zero, List.getElem_cons_succ]); (try simp only [Act.put, List.setIfInBounds_toArray, List.set_cons_zero, List.set_cons_succ])
  refine wpAnyH_take (i := 5) (oi := _) (v := ?_) rfl (by kernel_rfl) (by kernel_rfl) (by kernel_rfl) (fun _ _ _ h => h) (Or.inl ⟨by rfl, ?_⟩) hHeld ?_
  rotate_left
  · (intro wz hSw; have k0 := hSw.1.cell 0; have k1 := hSw.1.cell 1; simp only [List.getElem?_toArray, List.getElem?_cons_zero, List.getElem?_cons_succ] at k0 k1; go_simp; try (with_reducible rfl))
  (try dsimp only [List.getElem_toArray, List.getElem_cons_zero, List.getElem_cons_succ]); (try simp only [Act.put, List.setIfInBounds_toArray, List.set_cons_zero, List.set_cons_succ])
  refine wpAnyH_take (i := 6) (oi := _) (v := ?_) rfl (by kernel_rfl) (by kernel_rfl) (by kernel_rfl) (fun _ _ _ h => h) (Or.inl ⟨by rfl, ?_⟩) hHeld ?_
  rotate_left
  · (intro wz hSw; go_simp; try (with_reducible rfl))
  (try dsimp only [List.getElem_toArray, List.getElem_cons_zero, List.getElem_cons_succ]); (try simp only [Act.put, List.setIfInBounds_toArray, List.set_cons_zero, List.set_cons_succ])
  refine wpAnyH_take (i := 7) (oi := _) (v := ?_) rfl (by kernel_rfl) (by kernel_rfl) (by kernel_rfl) (fun _ _ _ h => h) (Or.inl ⟨by rfl, ?_⟩) hHeld ?_
  rotate_left
  · (intro wz hSw; go_simp; try (with_reducible rfl))
  (try dsimp only [List.getElem_toArray, List.getElem_cons_zero, List.getElem_cons_succ]); (try simp only [Act.put, List.setIfInBounds_toArray, List.set_cons_zero, List.set_cons_succ])
  refine wpAnyH_take (i := 8) (oi := _) (v := ?_) rfl (by kernel_rfl) (by kernel_rfl) (by kernel_rfl) (fun _ _ _ h => h) (Or.inl ⟨by rfl, ?_⟩) hHeld ?_
  rotate_left
  · (intro wz hSw; go_simp; try (with_reducible rfl))
  (try dsimp only [List.getElem_toArray, List.getElem_cons_zero, List.getElem_cons_succ]); (try simp only [Act.put, List.setIfInBounds_toArray, List.set_cons_zero, List.set_cons_succ])
  refine wpAnyH_take (i := 9) (oi := _) (v := ?_) rfl (by kernel_rfl) (by kernel_rfl) (by kernel_rfl) (fun _ _ _ h => h) (Or.inl ⟨by rfl, ?_⟩) hHeld ?_
  rotate_left
  · (intro wz hSw; go_simp; try (with_reducible rfl))
  (try dsimp only [List.getElem_toArray, List.getElem_cons_zero, List.getElem_cons_succ]); (try simp only [Act.put, List.setIfInBounds_toArray, List.set_cons_zero, List.set_cons_succ])
  refine wpAnyH_take (i := 10) (oi := _) (v := ?_) rfl (by kernel_rfl) (by kernel_rfl) (by kernel_rfl) (fun _ _ _ h => h) (Or.inl ⟨by rfl, ?_⟩) hHeld ?_
  rotate_left
  · (intro wz hSw; go_simp; try (with_reducible rfl))
  (try dsimp only [List.getElem_toArray, List.getElem_cons_zero, List.getElem_cons_succ]); (try simp only [Act.put, List.setIfInBounds_toArray, List.set_cons_zero, List.set_cons_succ])
  refine wpAnyH_take (i := 11) (oi := _) (v := ?_) rfl (by kernel_rfl) (by kernel_rfl) (by kernel_rfl) (fun _ _ _ h => h) (Or.inl ⟨by rfl, ?_⟩) hHeld ?_
  rotate_left
  · (intro wz hSw; go_simp; try (with_reducible rfl))
  (try dsimp only [List.getElem_toArray, List.getElem_cons_zero, List.getElem_cons_succ]); (try simp only [Act.put, List.setIfInBounds_toArray, List.set_cons_zero, List.set_cons_succ])
  refine wpAnyH_take (i := 12) (oi := _) (v := ?_) rfl (by kernel_rfl) (by kernel_rfl) (by kernel_rfl) (fun _ _ _ h => h) (Or.inl ⟨by rfl, ?_⟩) hHeld ?_
  rotate_left
  · (intro wz hSw; go_simp; try (with_reducible rfl))
  (try dsimp only [List.getElem_toArray, List.getElem_cons_zero, List.getElem_cons_succ]); (try simp only [Act.put, List.setIfInBounds_toArray, List.set_cons_zero, List.set_cons_succ])
  refine wpAnyH_take (i := 13) (oi := _) (v := ?_) rfl (by kernel_rfl) (by kernel_rfl) (by kernel_rfl) (fun _ _ _ h => h) (Or.inl ⟨by rfl, ?_⟩) hHeld ?_
  rotate_left
  · (intro wz hSw; go_simp; try (with_reducible rfl))
  (try dsimp only [List.getElem_toArray, List.getElem_cons_zero, List.getElem_cons_succ]); (try simp only [Act.put, List.setIfInBounds_toArray, List.set_cons_zero, List.set_cons_succ])
  refine wpAnyH_take (i := 14) (oi := _) (v := ?_) rfl (by kernel_rfl) (by kernel_rfl) (by kernel_rfl) (fun _ _ _ h => h) (Or.inl ⟨by rfl, ?_⟩) hHeld ?_
  rotate_left
  · (intro wz hSw; go_simp; try (with_reducible rfl))
  (try dsimp only [List.getElem_toArray, List.getElem_cons_zero, List.getElem_cons_succ]); (try simp only [Act.put, List.setIfInBounds_toArray, List.set_cons_zero, List.set_cons_succ])
  refine wpAnyH_take (i := 15) (oi := _) (v := ?_) rfl (by kernel_rfl) (by kernel_rfl) (by kernel_rfl) (fun _ _ _ h => h) (Or.inl ⟨by rfl, ?_⟩) hHeld ?_
  rotate_left
  · (intro wz hSw; go_simp; try (with_reducible rfl))
  (try dsimp only [List.getElem_toArray, List.getElem_cons_zero, List.getElem_cons_succ]); (try simp only [Act.put, List.setIfInBounds_toArray, List.set_cons_zero, List.set_cons_succ])
  refine wpAnyH_take (i := 16) (oi := _) (v := ?_) rfl (by kernel_rfl) (by kernel_rfl) (by kernel_rfl) (fun _ _ _ h => h) (Or.inl ⟨by rfl, ?_⟩) hHeld ?_
  rotate_left
  · (intro wz hSw; have k0 := hSw.2.2.cell 0; have k1 := hSw.2.2.cell 1; simp only [List.getElem?_toArray, List.getElem?_cons_zero, List.getElem?_cons_succ] at k0 k1; go_simp; try (with_reducible rfl))
  (try dsimp only [List.getElem_toArray, List.getElem_cons_zero, List.getElem_cons_succ]); (try simp only [Act.put, List.setIfInBounds_toArray, List.set_cons_zero, List.set_cons_succ])
  refine wpAnyH_take (i := 17) (oi := _) (v := ?_) rfl (by kernel_rfl) (by kernel_rfl) (by kernel_rfl) (fun _ _ _ h => h) (Or.inl ⟨by rfl, ?_⟩) hHeld ?_
  rotate_left
  · (intro wz hSw; go_simp; try (with_reducible rfl))
  (try dsimp only [List.getElem_toArray, List.getElem_cons_zero, List.getElem_cons_succ]); (try simp only [Act.put, List.setIfInBounds_toArray, List.set_cons_zero, List.set_cons_succ])
  refine wpAnyH_take (i := 18) (oi := _) (v := ?_) rfl (by kernel_rfl) (by kernel_rfl) (by kernel_rfl) (fun _ _ _ h => h) (Or.inl ⟨by rfl, ?_⟩) hHeld ?_
  rotate_left
  · (intro wz hSw; go_simp; try (with_reducible rfl))
  (try dsimp only [List.getElem_toArray, List.getElem_cons_zero, List.getElem_cons_succ]); (try simp only [Act.put, List.setIfInBounds_toArray, List.set_cons_zero, List.set_cons_succ])
  refine wpAnyH_take (i := 19) (oi := _) (v := ?_) rfl (by kernel_rfl) (by kernel_rfl) (by kernel_rfl) (fun _ _ _ h => h) (Or.inl ⟨by rfl, ?_⟩) hHeld ?_
  rotate_left
  · (intro wz hSw; have k0 := hSw.1.cell 0; have k1 := hSw.1.cell 1; simp only [List.getElem?_toArray, List.getElem?_cons_zero, List.getElem?_cons_succ] at k0 k1; go_simp; try (with_reducible rfl))
  (try dsimp only [List.getElem_toArray, List.getElem_cons_zero, List.getElem_cons_succ]); (try simp only [Act.put, List.setIfInBounds_toArray, List.set_cons_zero, List.set_cons_succ])
  refine wpAnyH_take (i := 20) (oi := _) (v := ?_) rfl (by kernel_rfl) (by kernel_rfl) (by kernel_rfl) (fun _ _ _ h => h) (Or.inl ⟨by rfl, ?_⟩) hHeld ?_
  rotate_left
  · (intro wz hSw; go_simp; try (with_reducible rfl))
  (try dsimp only [List.getElem_toArray, List.getElem_cons_zero, List.getElem_cons_succ]); (try simp only [Act.put, List.setIfInBounds_toArray, List.set_cons_zero, List.set_cons_succ])
  refine wpAnyH_take (i := 21) (oi := _) (v := ?_) rfl (by kernel_rfl) (by kernel_rfl) (by kernel_rfl) (fun _ _ _ h => h) (Or.inl ⟨by rfl, ?_⟩) hHeld ?_
  rotate_left
  · (intro wz hSw; go_simp; try (with_reducible rfl))
  (try dsimp only [List.getElem_toArray, List.getElem_cons_zero, List.getElem_cons_succ]); (try simp only [Act.put, List.setIfInBounds_toArray, List.set_cons_zero, List.set_cons_succ])
  refine wpAnyH_take (i := 22) (oi := _) (v := ?_) rfl (by kernel_rfl) (by kernel_rfl) (by kernel_rfl) (fun _ _ _ h => h) (Or.inl ⟨by rfl, ?_⟩) hHeld ?_
  rotate_left
  · (intro wz hSw; go_simp; try (with_reducible rfl))
  (try dsimp only [List.getElem_toArray, List.getElem_cons_zero, List.getElem_cons_succ]); (try simp only [Act.put, List.setIfInBounds_toArray, List.set_cons_zero, List.set_cons_succ])
  refine wpAnyH_take (i := 23) (oi := _) (v := ?_) rfl (by kernel_rfl) (by kernel_rfl) (by kernel_rfl) (fun _ _ _ h => h) (Or.inl ⟨by rfl, ?_⟩) hHeld ?_
  rotate_left
  · (intro wz hSw; go_simp; try (with_reducible rfl))
  (try dsimp only [List.getElem_toArray, List.getElem_cons_zero, List.getElem_cons_succ]); (try simp only [Act.put, List.setIfInBounds_toArray, List.set_cons_zero, List.set_cons_succ])
  refine wpAnyH_take (i := 24) (oi := _) (v := ?_) rfl (by kernel_rfl) (by kernel_rfl) (by kernel_rfl) (fun _ _ _ h => h) (Or.inl ⟨by rfl, ?_⟩) hHeld ?_
  rotate_left
  · (intro wz hSw; go_simp; try (with_reducible rfl))
  (try dsimp only [List.getElem_toArray, List.getElem_cons_zero, List.getElem_cons_succ]); (try simp only [Act.put, List.setIfInBounds_toArray, List.set_cons_zero, List.set_cons_succ])
  refine wpAnyH_ready (rs := [25]) (by kernel_rfl) (by simp) ?_
  refine AllReadyH.cons (o := _) rfl (fun K hK => ?_) AllReadyH.nil
  go_simp
  go_at_call 6
  (with_reducible refine (awake19_any _).mono ?_)
  rintro e w11 ⟨rfl, hb1⟩
  replace HB := Lib.hid (HB.out.trans (hb1.mono HB.out.size))
  refine hK.out _ _ (⟨hHeld.1.below hb1 hHeld.1.lt, hHeld.2.1.below hb1 hHeld.2.1.lt, hHeld.2.2.below hb1 hHeld.2.2.lt⟩) (fun hH => ?_)
  clear hHeld hK K hb1
  have hHeld := hH
  clear hH
  (try dsimp only [List.getElem_toArray, List.getElem_cons_zero, List.getElem_cons_succ]); (try simp only [Act.put, List.setIfInBounds_toArray, List.set_cons_zero, List.set_cons_succ])
  refine wpAnyH_take (i := 26) (oi := _) (v := ?_) rfl (by kernel_rfl) (by kernel_rfl) (by kernel_rfl) (fun _ _ _ h => h) (Or.inl ⟨by rfl, ?_⟩) hHeld ?_
  rotate_left
  · (intro wz hSw; go_simp; try (with_reducible rfl))
  (try dsimp only [List.getElem_toArray, List.getElem_cons_zero, List.getElem_cons_succ]); (try simp only [Act.put, List.setIfInBounds_toArray, List.set_cons_zero, List.set_cons_succ])
  refine wpAnyH_take (i := 27) (oi := _) (v := ?_) rfl (by kernel_rfl) (by kernel_rfl) (by kernel_rfl) (fun _ _ _ h => h) (Or.inl ⟨by rfl, ?_⟩) hHeld ?_
  rotate_left
  · (intro wz hSw; go_simp; try (with_reducible rfl))
  (try dsimp only [List.getElem_toArray, List.getElem_cons_zero, List.getElem_cons_succ]); (try simp only [Act.put, List.setIfInBounds_toArray, List.set_cons_zero, List.set_cons_succ])
  refine wpAnyH_done (by kernel_rfl) ?_ _
  clear hHeld
  go_wp2
  go_ret
  exact ⟨rfl, HB.out⟩
theorem fileFalls_walk (a s m : List UInt8) (n : Int) (w : World) : Calls Try.prog 4 #[.agg #[.string ⟨a.toArray⟩, .string ⟨s.toArray⟩], .int .i64 n, .string ⟨m.toArray⟩] w fun e w' => e = .returned (.bool true) ∧ Below w.heap.size w w' := by
  by_cases h : 5000 < a.length
  · exact fileFalls_far0 a s m n w h
  by_cases h2 : 5000 < s.length
  · exact fileFalls_far1 a s m n w h h2
  by_cases h3 : 1000 < m.length
  · exact fileFalls_far2 a s m n w h h2 h3
  by_cases h4 : n < (s.length : Int) <;> by_cases h5 : (flleft (a, a ++ s) n m).length ≤ a.length + 64
  · exact fileFalls_nearLtA a s m n w (by omega) (by omega) (by omega) h4 h5
  · exact fileFalls_nearLtB a s m n w (by omega) (by omega) (by omega) h4 h5
  · exact fileFalls_nearGeA a s m n w (by omega) (by omega) (by omega) h4 h5
  · exact fileFalls_nearGeB a s m n w (by omega) (by omega) (by omega) h4 h5
namespace FileFalls
set_option maxRecDepth 100000 in
theorem lifted (os : Os) (started : os.Started) (H : Type) (enc : TypeId × Value → H) :
    ReturnsInHanded {} Try.checked os 4 .any (Rows.fileFallsSpec.pre6 enc Try.prog Try.f4 Rows.fileFallsRow.domain false) (Rows.fileFallsSpec.post enc Try.prog Try.f4 false true false false) := by
  refine law_sized (C := Try.checked) (tb := 4) ownP started (by kernel_rfl) Try.func4
    (ChangeSpec.witness6 (enc := enc) (C := Try.checked) false ⟨#[], #[.agg #[.string ⟨#[]⟩, .string ⟨#[]⟩], .int .i64 0, .string ⟨#[]⟩], []⟩ 8 (by kernel_rfl) (by kernel_rfl) (by kernel_rfl) (by kernel_rfl))
    laidP (by kernel_rfl) rfl (by kernel_rfl) Try.underlying4 (by intro ds h; match ds, h with | [_, _, _], _ => rfl) ?_
  intro W base args ds p hval0 hA0 hlt _
  have hval : ∀ (j : Nat) t v, Try.f4.params[j]? = some t → args[j]? = some v → Value.okWide Try.prog W .any base t v := hval0
  have hA : DataW.TrodAll enc Try.prog W 0 (fun _ => true) true Try.f4.params.toList args.toList ds p := hA0
  rw [Try.params4] at hA hval
  obtain ⟨v0, v1, v2, d0, d1, d2, p0, p1, p2, rfl, rfl, rfl, h0, h1, h2⟩ := trodAll_three hA
  obtain ⟨fa, fb, rfl⟩ := open_fl Try.underlying23 (by kernel_rfl) (by kernel_rfl) Try.underlying9 Try.underlying9 (hval 0 23 v0 rfl rfl) h0
  obtain ⟨n, rfl, rfl, rfl, wn⟩ := open_int Try.underlying3 (hval 1 3 v1 rfl rfl) h1
  obtain ⟨ls, rfl, rfl⟩ := open_bytes Try.underlying9 (hval 2 9 v2 rfl rfl) h2
  exact fileFalls_walk fa fb ls n W
theorem holds : Rows.FileFallsSaid :=
  OpenClaim.holds_of_wide 4 Try.f4 rfl rfl rfl rfl rfl rfl rfl ⟨rfl, rfl, rfl, rfl, rfl⟩ rfl rfl rfl rfl rfl (by kernel_rfl) Try.func4 (by kernel_rfl)
    (of_decide_eq_true (by kernel_rfl)) (by unfold Func.isWrapper; first | (rw [if_pos (by decide +kernel)]; kernel_rfl) | (rw [if_neg (by decide +kernel)]; exact ⟨rfl, rfl⟩))
    (fun os started H enc _ => lifted os started H enc)
end FileFalls
end Go.Proofs.Ytckeoochoekgjaa
