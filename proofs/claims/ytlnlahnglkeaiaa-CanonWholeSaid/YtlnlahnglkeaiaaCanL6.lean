/-
  With at least two symbols that are used any bits are code words, one behind the other, up to their end; the layer's probe holds (CanonWhole). No condition.
-/
import Derived.Test.YtlnlahnglkeaiaaCanAw
import Derived.Test.YtlnlahnglkeaiaaFrame
namespace Go.Proofs.Ytlnlahnglkeaiaa
set_option linter.unusedSimpArgs false
set_option linter.unusedVariables false
open Go.ChangeShapes Go.WideShapes Go.ChangeAt Go.RowKit Go.Joins Go.Deep
set_option maxHeartbeats 2000000 in
/-- Beyond the sizes that the statement looks at: the probe alone. -/
theorem canonWhole_far0 (A : Option Addr) (n c : Nat) (s : List UInt8) (w : World) (h : 300 < n) :
    Calls Try.prog 8 #[.slice A n c, .string ⟨s.toArray⟩] w fun e w' => e = .returned (.bool true) ∧ Below w.heap.size w w' := by
  have h1 : (300 : Int) < n := by omega
  go_enter Try.func8, Try.ntmps8
  go_wp2_with (go_at_call 9; refine (awake9_any _).mono ?_; rintro e w9 ⟨rfl, hb9⟩)
  go_ret
  exact ⟨rfl, hb9⟩
set_option maxHeartbeats 2000000 in
/-- Beyond the sizes that the statement looks at: the probe alone. -/
theorem canonWhole_far1 (A : Option Addr) (n c : Nat) (s : List UInt8) (w : World) (h : n ≤ 300) (k : 100 < s.length) :
    Calls Try.prog 8 #[.slice A n c, .string ⟨s.toArray⟩] w fun e w' => e = .returned (.bool true) ∧ Below w.heap.size w w' := by
  have h1 : ¬ (300 : Int) < n := by omega
  have h2 : (100 : Int) < s.length := by omega
  go_enter Try.func8, Try.ntmps8
  go_wp2_with (go_at_call 9; refine (awake9_any _).mono ?_; rintro e w9 ⟨rfl, hb9⟩)
  go_ret
  exact ⟨rfl, hb9⟩

set_option maxRecDepth 100000 in
set_option maxHeartbeats 2000000 in
theorem canonWhole_none (A : Option Addr) (n c : Nat) (s : List UInt8) (l : List Int) (w : World) (hr : Reads w w.heap.size 1 A n (ints l)) (h : n ≤ 300) (h' : s.length ≤ 100) (hc : checkF l ≠ 0) :
    Calls Try.prog 8 #[.slice A n c, .string ⟨s.toArray⟩] w fun e w' => e = .returned (.bool true) ∧ Below w.heap.size w w' := by
  have h1 : ¬ (300 : Int) < n := by omega
  have h2 : ¬ (100 : Int) < s.length := by omega
  have Hc := Lib.hid (lref_check_any l A n c w (by omega) hr)
  have hE : (checkF l == 0) = false := by simpa using hc
  have hE2 : (checkF l != 0) = true := by simpa using hc
  clear hr h h' hc
  generalize checkF l = E at *
  go_enter Try.func8, Try.ntmps8
  go_wp2_with (first
    | (go_at_call 22; refine Hc.out.mono ?_; rintro e w1 ⟨rfl, rfl⟩)
    | (go_at_call 9; refine (awake9_any _).mono ?_; rintro e w9 ⟨rfl, hb9⟩))
  go_ret
  exact ⟨rfl, hb9⟩
set_option maxRecDepth 100000 in
set_option maxHeartbeats 2000000 in
theorem canonWhole_few (A : Option Addr) (n c : Nat) (s : List UInt8) (l : List Int) (w : World) (hr : Reads w w.heap.size 1 A n (ints l)) (h : n ≤ 300) (h' : s.length ≤ 100) (hc : checkF l = 0) (hu : usedF l < 2) :
    Calls Try.prog 8 #[.slice A n c, .string ⟨s.toArray⟩] w fun e w' => e = .returned (.bool true) ∧ Below w.heap.size w w' := by
  have h1 : ¬ (300 : Int) < n := by omega
  have h2 : ¬ (100 : Int) < s.length := by omega
  have hck := lref_check_any l A n c w (by omega) hr
  rw [hc] at hck
  have Hc := Lib.hid hck
  have Hu := Lib.hid (lref_used_any l A n c w (by omega) hr)
  have hu2 : (usedF l : Int) < 2 := by omega
  clear hr h h' hc hck hu
  generalize (usedF l : Int) = U at *
  go_enter Try.func8, Try.ntmps8
  go_wp2_with (first
    | (go_at_call 22; refine Hc.out.mono ?_; rintro e w1 ⟨rfl, rfl⟩)
    | (go_at_call 23; refine Hu.out.mono ?_; rintro e w2 ⟨rfl, rfl⟩)
    | (go_at_call 9; refine (awake9_any _).mono ?_; rintro e w9 ⟨rfl, hb9⟩))
  go_ret
  exact ⟨rfl, hb9⟩
theorem cstr_head (l : List UInt8) (p : Nat) (hp : p ≤ l.length) (w : World) :
    (Instr.slice 9 (.string ⟨l.toArray⟩) none (some (.int .i64 (p : Int))) none).run Try.prog w = .ok (.string ⟨(l.take p).toArray⟩) w := by
  rw [run_slice_string_h w 9 ⟨l.toArray⟩ Try.underlying9 .i64 (p : Int) (by omega) (by rw [ByteArray.size_mk', List.size_toArray]; omega), ByteArray.extract_mk, List.drop_zero, Nat.sub_zero, Int.toNat_natCast]
set_option maxRecDepth 100000 in
set_option maxHeartbeats 8000000 in
theorem canonWhole_near (A : Option Addr) (n c : Nat) (s : List UInt8) (l : List Int) (w : World) (hr : Reads w w.heap.size 1 A n (ints l)) (h : n ≤ 300) (h' : s.length ≤ 100) (hc : checkF l = 0) (hu : 2 ≤ usedF l) :
    Calls Try.prog 8 #[.slice A n c, .string ⟨s.toArray⟩] w fun e w' => e = .returned (.bool true) ∧ Below w.heap.size w w' := by
  have h1 : ¬ (300 : Int) < n := by omega
  have h2 : ¬ (100 : Int) < s.length := by omega
  have hck := lref_check_any l A n c w (by omega) hr
  rw [hc] at hck
  have Hc := Lib.hid hck
  have Hu := Lib.hid (lref_used_any l A n c w (by omega) hr)
  have hu2 : ¬ (usedF l : Int) < 2 := by omega
  obtain ⟨sy, m, g1, g2, g3, g4, g5, g6⟩ := cwhole hc hu s h'
  have hun := fun W hr => p_cunpack_any l s (8 * s.length + 1 : Nat) A n c W (by omega) (by omega) hr
  have hsl := cunpack_len l s (8 * s.length + 1 : Nat)
  rw [g1] at hun hsl
  unfold CUnpPost at hun
  dsimp only at hun hsl
  rw [show ((8 * s.length + 1 : Nat) : Int) = 8 * (s.length : Int) + 1 from by omega] at hun
  have Hun := Lib.hid hun
  have hpk := fun W A2 c2 hr hr2 => p_cpack_any l sy A A2 n c sy.length c2 W (by omega) (by omega) hr hr2
  rw [g4] at hpk
  have Hpk := Lib.hid hpk
  have hm1 : ¬ 8 * (s.length : Int) < (m : Int) := by omega
  have hm2 : ¬ (m : Int) ≤ 8 * (s.length : Int) - 15 := by omega
  have hsi : (s.length : Int) ≤ 100 := by omega
  generalize (cpackF l sy).1 = X at *
  have hx : ¬ (s.length : Int) < (X.length : Int) := by omega
  have Hr := Lib.hid hr
  have hxm : m / 8 ≤ X.length := by
    have := congrArg List.length g6
    rw [List.length_take, List.length_take] at this
    omega
  have t1 := fun w => cstr_head X (m / 8) hxm w
  have t2 := fun w => cstr_head s (m / 8) (by omega) w
  rw [g6] at t1
  obtain ⟨p, hp⟩ : ∃ p, m / 8 = p := ⟨_, rfl⟩
  rw [hp] at t1 t2 g6 hxm
  have hmd : (m : Int) / 8 = (p : Int) := by omega
  have hmw : IntKind.i64.wrap ((m : Int) / 8) = (p : Int) := by rw [IntKind.wrap_i64]; omega
  have hmw2 : IntKind.i64.wrap (p : Int) = (p : Int) := by rw [IntKind.wrap_i64]; omega
  have hpb : (0 : Int) ≤ (p : Int) ∧ (p : Int) ≤ (s.length : Int) ∧ (p : Int) ≤ (X.length : Int) := by omega
  clear hxm hp hr h h' hc hck hu hun hpk g1 g2 g3 g4 g5 g6 hsl
  generalize (usedF l : Int) = U at *
  by_cases h8 : m < 8
  · have h8i : decide ((m : Int) < 8) = true := by simp; omega
    clear t1 t2 hmd hmw hmw2 hpb
    go_enter Try.func8, Try.ntmps8
    go_wp2_with (first
      | (go_at_call 22; refine Hc.out.mono ?_; rintro e w1 ⟨rfl, hw1⟩; obtain rfl := hw1.symm; clear hw1)
      | (go_at_call 23; refine Hu.out.mono ?_; rintro e w2 ⟨rfl, hw2⟩; obtain rfl := hw2.symm; clear hw2)
      | (go_at_call 15; refine (Hun.out _ Hr.out).mono ?_; rintro e w3 ⟨A3, c3, rfl, _, hr3, hb3⟩; have Hr3 := Lib.hid hr3; have Hb := Lib.hid hb3; clear hr3 hb3)
      | (go_at_call 12; refine (Hpk.out _ _ _ (Hr.out.on Hb.out) Hr3.out).mono ?_; rintro e w4 ⟨rfl, hb4⟩; replace Hb := Lib.hid (Hb.out.trans (hb4.mono Hb.out.size)); clear hb4; clear Hr3))
    clear hm1 hm2 hx hu2 h1 h2 hsi Hc Hu Hun Hpk
    refine wp_region_held_drew (S := (fun w9 => Below w.heap.size w w9)) (by kernel_rfl) (Hb.out.drew) (fun hHeld => ?_)
    refine wpAnyH_take (i := 0) (oi := ⟨some 72, Op.move (Operand.tmp 6), 3, _, #[], none⟩) (v := ?_) rfl (by kernel_rfl) (by kernel_rfl) (by kernel_rfl) (fun _ _ _ h => h) (Or.inl ⟨by rfl, ?_⟩) hHeld ?_
    rotate_left
    · (intro wz hSw; go_simp; try (with_reducible rfl))
    try simp only [Act.put, List.setIfInBounds_toArray, List.set_cons_zero, List.set_cons_succ]
    refine wpAnyH_take (i := 1) (oi := ⟨some 73, Op.binOp BinOp.lss 3 (Operand.tmp 72) (Operand.const (Value.int IntKind.i64 8)) 3, 4, _, #[{ on := 0, ground := Ground.data }], none⟩) (v := ?_) rfl (by kernel_rfl) (by kernel_rfl) (by kernel_rfl) (fun _ _ _ h => h) (Or.inl ⟨by rfl, ?_⟩) hHeld ?_
    rotate_left
    · (intro wz hSw; go_simp; try (with_reducible rfl))
    try simp only [Act.put, List.setIfInBounds_toArray, List.set_cons_zero, List.set_cons_succ]
    refine wpAnyH_take (i := 2) (oi := ⟨some 74, Op.move (Operand.tmp 73), 4, _, #[{ on := 1, ground := Ground.data }], none⟩) (v := ?_) rfl (by kernel_rfl) (by kernel_rfl) (by kernel_rfl) (fun _ _ _ h => h) (Or.inl ⟨by rfl, ?_⟩) hHeld ?_
    rotate_left
    · (intro wz hSw; go_simp; try (with_reducible rfl))
    try simp only [Act.put, List.setIfInBounds_toArray, List.set_cons_zero, List.set_cons_succ]
    refine wpAnyH_take (i := 3) (oi := ⟨some 75, Op.move (Operand.tmp 8), 9, _, #[{ on := 2, ground := Ground.guard }], some (2, false)⟩) (v := undef) rfl (by kernel_rfl) (by kernel_rfl) (by kernel_rfl) (fun _ _ _ h => h) (Or.inr ⟨by rfl, rfl⟩) hHeld ?_
    try simp only [Act.put, List.setIfInBounds_toArray, List.set_cons_zero, List.set_cons_succ]
    refine wpAnyH_take (i := 4) (oi := ⟨some 76, Op.move (Operand.tmp 6), 3, _, #[{ on := 2, ground := Ground.guard }], some (2, false)⟩) (v := undef) rfl (by kernel_rfl) (by kernel_rfl) (by kernel_rfl) (fun _ _ _ h => h) (Or.inr ⟨by rfl, rfl⟩) hHeld ?_
    try simp only [Act.put, List.setIfInBounds_toArray, List.set_cons_zero, List.set_cons_succ]
    refine wpAnyH_take (i := 5) (oi := ⟨some 77, Op.binOp BinOp.quo 3 (Operand.tmp 76) (Operand.const (Value.int IntKind.i64 8)) 3, 3, _, #[{ on := 4, ground := Ground.data }, { on := 2, ground := Ground.guard }], some (2, false)⟩) (v := undef) rfl (by kernel_rfl) (by kernel_rfl) (by kernel_rfl) (fun _ _ _ h => h) (Or.inr ⟨by rfl, rfl⟩) hHeld ?_
    try simp only [Act.put, List.setIfInBounds_toArray, List.set_cons_zero, List.set_cons_succ]
    refine wpAnyH_take (i := 6) (oi := ⟨some 78, Op.slice 9 (Operand.tmp 75) none (some (Operand.tmp 77)) none, 9, _, #[{ on := 3, ground := Ground.data }, { on := 5, ground := Ground.data }, { on := 2, ground := Ground.guard }], some (2, false)⟩) (v := undef) rfl (by kernel_rfl) (by kernel_rfl) (by kernel_rfl) (fun _ _ _ h => h) (Or.inr ⟨by rfl, rfl⟩) hHeld ?_
    try simp only [Act.put, List.setIfInBounds_toArray, List.set_cons_zero, List.set_cons_succ]
    refine wpAnyH_take (i := 7) (oi := ⟨some 79, Op.move (Operand.tmp 1), 9, _, #[{ on := 2, ground := Ground.guard }], some (2, false)⟩) (v := undef) rfl (by kernel_rfl) (by kernel_rfl) (by kernel_rfl) (fun _ _ _ h => h) (Or.inr ⟨by rfl, rfl⟩) hHeld ?_
    try simp only [Act.put, List.setIfInBounds_toArray, List.set_cons_zero, List.set_cons_succ]
    refine wpAnyH_take (i := 8) (oi := ⟨some 80, Op.move (Operand.tmp 6), 3, _, #[{ on := 2, ground := Ground.guard }], some (2, false)⟩) (v := undef) rfl (by kernel_rfl) (by kernel_rfl) (by kernel_rfl) (fun _ _ _ h => h) (Or.inr ⟨by rfl, rfl⟩) hHeld ?_
    try simp only [Act.put, List.setIfInBounds_toArray, List.set_cons_zero, List.set_cons_succ]
    refine wpAnyH_take (i := 9) (oi := ⟨some 81, Op.binOp BinOp.quo 3 (Operand.tmp 80) (Operand.const (Value.int IntKind.i64 8)) 3, 3, _, #[{ on := 8, ground := Ground.data }, { on := 2, ground := Ground.guard }], some (2, false)⟩) (v := undef) rfl (by kernel_rfl) (by kernel_rfl) (by kernel_rfl) (fun _ _ _ h => h) (Or.inr ⟨by rfl, rfl⟩) hHeld ?_
    try simp only [Act.put, List.setIfInBounds_toArray, List.set_cons_zero, List.set_cons_succ]
    refine wpAnyH_take (i := 10) (oi := ⟨some 82, Op.slice 9 (Operand.tmp 79) none (some (Operand.tmp 81)) none, 9, _, #[{ on := 7, ground := Ground.data }, { on := 9, ground := Ground.data }, { on := 2, ground := Ground.guard }], some (2, false)⟩) (v := undef) rfl (by kernel_rfl) (by kernel_rfl) (by kernel_rfl) (fun _ _ _ h => h) (Or.inr ⟨by rfl, rfl⟩) hHeld ?_
    try simp only [Act.put, List.setIfInBounds_toArray, List.set_cons_zero, List.set_cons_succ]
    refine wpAnyH_take (i := 11) (oi := ⟨some 83, Op.binOp BinOp.eql 9 (Operand.tmp 78) (Operand.tmp 82) 9, 4, _, #[{ on := 6, ground := Ground.data }, { on := 10, ground := Ground.data }, { on := 2, ground := Ground.guard }], some (2, false)⟩) (v := undef) rfl (by kernel_rfl) (by kernel_rfl) (by kernel_rfl) (fun _ _ _ h => h) (Or.inr ⟨by rfl, rfl⟩) hHeld ?_
    try simp only [Act.put, List.setIfInBounds_toArray, List.set_cons_zero, List.set_cons_succ]
    refine wpAnyH_take (i := 12) (oi := ⟨some 84, Op.pick (Operand.tmp 74) (Operand.const (Value.bool true)) (Operand.tmp 83), 4, _, #[{ on := 2, ground := Ground.data }, { on := 11, ground := Ground.data }], none⟩) (v := ?_) rfl (by kernel_rfl) (by kernel_rfl) (by kernel_rfl) (fun _ _ _ h => h) (Or.inl ⟨by rfl, ?_⟩) hHeld ?_
    rotate_left
    · (intro wz hSw; go_simp; try (with_reducible rfl))
    try simp only [Act.put, List.setIfInBounds_toArray, List.set_cons_zero, List.set_cons_succ]
    refine wpAnyH_take (i := 13) (oi := ⟨some 85, Op.move (Operand.tmp 84), 4, _, #[{ on := 12, ground := Ground.data }, { on := 2, ground := Ground.chain }], none⟩) (v := ?_) rfl (by kernel_rfl) (by kernel_rfl) (by kernel_rfl) (fun _ _ _ h => h) (Or.inl ⟨by rfl, ?_⟩) hHeld ?_
    rotate_left
    · (intro wz hSw; go_simp; try (with_reducible rfl))
    try simp only [Act.put, List.setIfInBounds_toArray, List.set_cons_zero, List.set_cons_succ]
    refine wpAnyH_ready (rs := [14]) (by kernel_rfl) (by simp) ?_
    refine AllReadyH.cons (o := ⟨some 86, Op.call { callee := Callee.value (Operand.func 9), args := #[], argTypes := #[] }, 4, _, #[{ on := 13, ground := Ground.chain }, { on := 13, ground := Ground.guard }], some (13, true)⟩) rfl (fun K hK => ?_) AllReadyH.nil
    go_simp
    go_at_call 9
    with_reducible refine (awake9_any _).mono ?_
    rintro e w9 ⟨rfl, hb1⟩
    refine hK.out _ _ (hHeld.trans (hb1.mono hHeld.size)) (fun hH => ?_)
    clear hHeld hK K hb1
    have hHeld := hH
    clear hH
    try simp only [Act.put, List.setIfInBounds_toArray, List.set_cons_zero, List.set_cons_succ]
    refine wpAnyH_take (i := 15) (oi := ⟨some 87, Op.pick (Operand.tmp 85) (Operand.tmp 86) (Operand.const (Value.bool false)), 4, _, #[{ on := 13, ground := Ground.data }, { on := 14, ground := Ground.data }], none⟩) (v := ?_) rfl (by kernel_rfl) (by kernel_rfl) (by kernel_rfl) (fun _ _ _ h => h) (Or.inl ⟨by rfl, ?_⟩) hHeld ?_
    rotate_left
    · (intro wz hSw; go_simp; try (with_reducible rfl))
    try simp only [Act.put, List.setIfInBounds_toArray, List.set_cons_zero, List.set_cons_succ]
    refine wpAnyH_take (i := 16) (oi := ⟨some 4, Op.assign (Operand.tmp 87), 4, _, #[{ on := 15, ground := Ground.data }, { on := 14, ground := Ground.chain }, { on := 0, ground := Ground.phase }, { on := 1, ground := Ground.phase }, { on := 2, ground := Ground.phase }, { on := 3, ground := Ground.phase }, { on := 4, ground := Ground.phase }, { on := 5, ground := Ground.phase }, { on := 6, ground := Ground.phase }, { on := 7, ground := Ground.phase }, { on := 8, ground := Ground.phase }, { on := 9, ground := Ground.phase }, { on := 10, ground := Ground.phase }, { on := 11, ground := Ground.phase }, { on := 12, ground := Ground.phase }, { on := 13, ground := Ground.phase }, { on := 14, ground := Ground.phase }, { on := 15, ground := Ground.phase }], none⟩) (v := ?_) rfl (by kernel_rfl) (by kernel_rfl) (by kernel_rfl) (fun _ _ _ h => h) (Or.inl ⟨by rfl, ?_⟩) hHeld ?_
    rotate_left
    · (intro wz hSw; go_simp; try (with_reducible rfl))
    try simp only [Act.put, List.setIfInBounds_toArray, List.set_cons_zero, List.set_cons_succ]
    refine wpAnyH_done (by kernel_rfl) ?_ _
    skip
    go_wp2
    go_ret
    exact ⟨rfl, hHeld⟩
  · have h8i : decide ((m : Int) < 8) = false := by simp; omega
    go_enter Try.func8, Try.ntmps8
    go_wp2_with (first
      | (go_at_call 22; refine Hc.out.mono ?_; rintro e w1 ⟨rfl, hw1⟩; obtain rfl := hw1.symm; clear hw1)
      | (go_at_call 23; refine Hu.out.mono ?_; rintro e w2 ⟨rfl, hw2⟩; obtain rfl := hw2.symm; clear hw2)
      | (go_at_call 15; refine (Hun.out _ Hr.out).mono ?_; rintro e w3 ⟨A3, c3, rfl, _, hr3, hb3⟩; have Hr3 := Lib.hid hr3; have Hb := Lib.hid hb3; clear hr3 hb3)
      | (go_at_call 12; refine (Hpk.out _ _ _ (Hr.out.on Hb.out) Hr3.out).mono ?_; rintro e w4 ⟨rfl, hb4⟩; replace Hb := Lib.hid (Hb.out.trans (hb4.mono Hb.out.size)); clear hb4; clear Hr3))
    clear hm1 hm2 hx hu2 h1 h2 hsi Hc Hu Hun Hpk
    refine wp_region_held_drew (S := (fun w9 => Below w.heap.size w w9)) (by kernel_rfl) (Hb.out.drew) (fun hHeld => ?_)
    refine wpAnyH_take (i := 0) (oi := ⟨some 72, Op.move (Operand.tmp 6), 3, _, #[], none⟩) (v := ?_) rfl (by kernel_rfl) (by kernel_rfl) (by kernel_rfl) (fun _ _ _ h => h) (Or.inl ⟨by rfl, ?_⟩) hHeld ?_
    rotate_left
    · (intro wz hSw; go_simp; try (with_reducible rfl))
    try simp only [Act.put, List.setIfInBounds_toArray, List.set_cons_zero, List.set_cons_succ]
    refine wpAnyH_take (i := 1) (oi := ⟨some 73, Op.binOp BinOp.lss 3 (Operand.tmp 72) (Operand.const (Value.int IntKind.i64 8)) 3, 4, _, #[{ on := 0, ground := Ground.data }], none⟩) (v := ?_) rfl (by kernel_rfl) (by kernel_rfl) (by kernel_rfl) (fun _ _ _ h => h) (Or.inl ⟨by rfl, ?_⟩) hHeld ?_
    rotate_left
    · (intro wz hSw; go_simp; try (with_reducible rfl))
    try simp only [Act.put, List.setIfInBounds_toArray, List.set_cons_zero, List.set_cons_succ]
    refine wpAnyH_take (i := 2) (oi := ⟨some 74, Op.move (Operand.tmp 73), 4, _, #[{ on := 1, ground := Ground.data }], none⟩) (v := ?_) rfl (by kernel_rfl) (by kernel_rfl) (by kernel_rfl) (fun _ _ _ h => h) (Or.inl ⟨by rfl, ?_⟩) hHeld ?_
    rotate_left
    · (intro wz hSw; go_simp; try (with_reducible rfl))
    try simp only [Act.put, List.setIfInBounds_toArray, List.set_cons_zero, List.set_cons_succ]
    refine wpAnyH_take (i := 3) (oi := ⟨some 75, Op.move (Operand.tmp 8), 9, _, #[{ on := 2, ground := Ground.guard }], some (2, false)⟩) (v := ?_) rfl (by kernel_rfl) (by kernel_rfl) (by kernel_rfl) (fun _ _ _ h => h) (Or.inl ⟨by rfl, ?_⟩) hHeld ?_
    rotate_left
    · (intro wz hSw; go_simp; try (with_reducible rfl))
    try simp only [Act.put, List.setIfInBounds_toArray, List.set_cons_zero, List.set_cons_succ]
    refine wpAnyH_take (i := 4) (oi := ⟨some 76, Op.move (Operand.tmp 6), 3, _, #[{ on := 2, ground := Ground.guard }], some (2, false)⟩) (v := ?_) rfl (by kernel_rfl) (by kernel_rfl) (by kernel_rfl) (fun _ _ _ h => h) (Or.inl ⟨by rfl, ?_⟩) hHeld ?_
    rotate_left
    · (intro wz hSw; go_simp; try (with_reducible rfl))
    try simp only [Act.put, List.setIfInBounds_toArray, List.set_cons_zero, List.set_cons_succ]
    refine wpAnyH_take (i := 5) (oi := ⟨some 77, Op.binOp BinOp.quo 3 (Operand.tmp 76) (Operand.const (Value.int IntKind.i64 8)) 3, 3, _, #[{ on := 4, ground := Ground.data }, { on := 2, ground := Ground.guard }], some (2, false)⟩) (v := ?_) rfl (by kernel_rfl) (by kernel_rfl) (by kernel_rfl) (fun _ _ _ h => h) (Or.inl ⟨by rfl, ?_⟩) hHeld ?_
    rotate_left
    · (intro wz hSw; go_simp; try (with_reducible rfl))
    try simp only [Act.put, List.setIfInBounds_toArray, List.set_cons_zero, List.set_cons_succ]
    refine wpAnyH_take (i := 6) (oi := ⟨some 78, Op.slice 9 (Operand.tmp 75) none (some (Operand.tmp 77)) none, 9, _, #[{ on := 3, ground := Ground.data }, { on := 5, ground := Ground.data }, { on := 2, ground := Ground.guard }], some (2, false)⟩) (v := ?_) rfl (by kernel_rfl) (by kernel_rfl) (by kernel_rfl) (fun _ _ _ h => h) (Or.inl ⟨by rfl, ?_⟩) hHeld ?_
    rotate_left
    · (intro wz hSw; go_simp; try (with_reducible rfl))
    try simp only [Act.put, List.setIfInBounds_toArray, List.set_cons_zero, List.set_cons_succ]
    refine wpAnyH_take (i := 7) (oi := ⟨some 79, Op.move (Operand.tmp 1), 9, _, #[{ on := 2, ground := Ground.guard }], some (2, false)⟩) (v := ?_) rfl (by kernel_rfl) (by kernel_rfl) (by kernel_rfl) (fun _ _ _ h => h) (Or.inl ⟨by rfl, ?_⟩) hHeld ?_
    rotate_left
    · (intro wz hSw; go_simp; try (with_reducible rfl))
    try simp only [Act.put, List.setIfInBounds_toArray, List.set_cons_zero, List.set_cons_succ]
    refine wpAnyH_take (i := 8) (oi := ⟨some 80, Op.move (Operand.tmp 6), 3, _, #[{ on := 2, ground := Ground.guard }], some (2, false)⟩) (v := ?_) rfl (by kernel_rfl) (by kernel_rfl) (by kernel_rfl) (fun _ _ _ h => h) (Or.inl ⟨by rfl, ?_⟩) hHeld ?_
    rotate_left
    · (intro wz hSw; go_simp; try (with_reducible rfl))
    try simp only [Act.put, List.setIfInBounds_toArray, List.set_cons_zero, List.set_cons_succ]
    refine wpAnyH_take (i := 9) (oi := ⟨some 81, Op.binOp BinOp.quo 3 (Operand.tmp 80) (Operand.const (Value.int IntKind.i64 8)) 3, 3, _, #[{ on := 8, ground := Ground.data }, { on := 2, ground := Ground.guard }], some (2, false)⟩) (v := ?_) rfl (by kernel_rfl) (by kernel_rfl) (by kernel_rfl) (fun _ _ _ h => h) (Or.inl ⟨by rfl, ?_⟩) hHeld ?_
    rotate_left
    · (intro wz hSw; go_simp; try (with_reducible rfl))
    try simp only [Act.put, List.setIfInBounds_toArray, List.set_cons_zero, List.set_cons_succ]
    refine wpAnyH_take (i := 10) (oi := ⟨some 82, Op.slice 9 (Operand.tmp 79) none (some (Operand.tmp 81)) none, 9, _, #[{ on := 7, ground := Ground.data }, { on := 9, ground := Ground.data }, { on := 2, ground := Ground.guard }], some (2, false)⟩) (v := ?_) rfl (by kernel_rfl) (by kernel_rfl) (by kernel_rfl) (fun _ _ _ h => h) (Or.inl ⟨by rfl, ?_⟩) hHeld ?_
    rotate_left
    · (intro wz hSw; go_simp; try (with_reducible rfl))
    try simp only [Act.put, List.setIfInBounds_toArray, List.set_cons_zero, List.set_cons_succ]
    refine wpAnyH_take (i := 11) (oi := ⟨some 83, Op.binOp BinOp.eql 9 (Operand.tmp 78) (Operand.tmp 82) 9, 4, _, #[{ on := 6, ground := Ground.data }, { on := 10, ground := Ground.data }, { on := 2, ground := Ground.guard }], some (2, false)⟩) (v := ?_) rfl (by kernel_rfl) (by kernel_rfl) (by kernel_rfl) (fun _ _ _ h => h) (Or.inl ⟨by rfl, ?_⟩) hHeld ?_
    rotate_left
    · (intro wz hSw; go_simp; try (with_reducible rfl))
    try simp only [Act.put, List.setIfInBounds_toArray, List.set_cons_zero, List.set_cons_succ]
    refine wpAnyH_take (i := 12) (oi := ⟨some 84, Op.pick (Operand.tmp 74) (Operand.const (Value.bool true)) (Operand.tmp 83), 4, _, #[{ on := 2, ground := Ground.data }, { on := 11, ground := Ground.data }], none⟩) (v := ?_) rfl (by kernel_rfl) (by kernel_rfl) (by kernel_rfl) (fun _ _ _ h => h) (Or.inl ⟨by rfl, ?_⟩) hHeld ?_
    rotate_left
    · (intro wz hSw; go_simp; try (with_reducible rfl))
    try simp only [Act.put, List.setIfInBounds_toArray, List.set_cons_zero, List.set_cons_succ]
    refine wpAnyH_take (i := 13) (oi := ⟨some 85, Op.move (Operand.tmp 84), 4, _, #[{ on := 12, ground := Ground.data }, { on := 2, ground := Ground.chain }], none⟩) (v := ?_) rfl (by kernel_rfl) (by kernel_rfl) (by kernel_rfl) (fun _ _ _ h => h) (Or.inl ⟨by rfl, ?_⟩) hHeld ?_
    rotate_left
    · (intro wz hSw; go_simp; try (with_reducible rfl))
    try simp only [Act.put, List.setIfInBounds_toArray, List.set_cons_zero, List.set_cons_succ]
    refine wpAnyH_ready (rs := [14]) (by kernel_rfl) (by simp) ?_
    refine AllReadyH.cons (o := ⟨some 86, Op.call { callee := Callee.value (Operand.func 9), args := #[], argTypes := #[] }, 4, _, #[{ on := 13, ground := Ground.chain }, { on := 13, ground := Ground.guard }], some (13, true)⟩) rfl (fun K hK => ?_) AllReadyH.nil
    go_simp
    go_at_call 9
    with_reducible refine (awake9_any _).mono ?_
    rintro e w9 ⟨rfl, hb1⟩
    refine hK.out _ _ (hHeld.trans (hb1.mono hHeld.size)) (fun hH => ?_)
    clear hHeld hK K hb1
    have hHeld := hH
    clear hH
    try simp only [Act.put, List.setIfInBounds_toArray, List.set_cons_zero, List.set_cons_succ]
    refine wpAnyH_take (i := 15) (oi := ⟨some 87, Op.pick (Operand.tmp 85) (Operand.tmp 86) (Operand.const (Value.bool false)), 4, _, #[{ on := 13, ground := Ground.data }, { on := 14, ground := Ground.data }], none⟩) (v := ?_) rfl (by kernel_rfl) (by kernel_rfl) (by kernel_rfl) (fun _ _ _ h => h) (Or.inl ⟨by rfl, ?_⟩) hHeld ?_
    rotate_left
    · (intro wz hSw; go_simp; try (with_reducible rfl))
    try simp only [Act.put, List.setIfInBounds_toArray, List.set_cons_zero, List.set_cons_succ]
    refine wpAnyH_take (i := 16) (oi := ⟨some 4, Op.assign (Operand.tmp 87), 4, _, #[{ on := 15, ground := Ground.data }, { on := 14, ground := Ground.chain }, { on := 0, ground := Ground.phase }, { on := 1, ground := Ground.phase }, { on := 2, ground := Ground.phase }, { on := 3, ground := Ground.phase }, { on := 4, ground := Ground.phase }, { on := 5, ground := Ground.phase }, { on := 6, ground := Ground.phase }, { on := 7, ground := Ground.phase }, { on := 8, ground := Ground.phase }, { on := 9, ground := Ground.phase }, { on := 10, ground := Ground.phase }, { on := 11, ground := Ground.phase }, { on := 12, ground := Ground.phase }, { on := 13, ground := Ground.phase }, { on := 14, ground := Ground.phase }, { on := 15, ground := Ground.phase }], none⟩) (v := ?_) rfl (by kernel_rfl) (by kernel_rfl) (by kernel_rfl) (fun _ _ _ h => h) (Or.inl ⟨by rfl, ?_⟩) hHeld ?_
    rotate_left
    · (intro wz hSw; go_simp; try (with_reducible rfl))
    try simp only [Act.put, List.setIfInBounds_toArray, List.set_cons_zero, List.set_cons_succ]
    refine wpAnyH_done (by kernel_rfl) ?_ _
    skip
    go_wp2
    go_ret
    exact ⟨rfl, hHeld⟩
theorem canonWhole_walk (A : Option Addr) (n c : Nat) (s : List UInt8) (l : List Int) (w : World) (hr : Reads w w.heap.size 1 A n (ints l)) :
    Calls Try.prog 8 #[.slice A n c, .string ⟨s.toArray⟩] w fun e w' => e = .returned (.bool true) ∧ Below w.heap.size w w' := by
  by_cases h : n ≤ 300
  · by_cases h2 : s.length ≤ 100
    · by_cases hc : checkF l = 0
      · by_cases hu : 2 ≤ usedF l
        · exact canonWhole_near A n c s l w hr h h2 hc hu
        · exact canonWhole_few A n c s l w hr h h2 hc (by omega)
      · exact canonWhole_none A n c s l w hr h h2 hc
    · exact canonWhole_far1 A n c s w h (by omega)
  · exact canonWhole_far0 A n c s w (by omega)

namespace CanonWhole
set_option maxRecDepth 100000 in
theorem lifted (os : Os) (started : os.Started) (H : Type) (enc : TypeId × Value → H) :
    ReturnsInHanded {} Try.checked os 8 .any (Rows.canonWholeSpec.pre6 enc Try.prog Try.f8 Rows.canonWholeRow.domain false) (Rows.canonWholeSpec.post enc Try.prog Try.f8 false true false false) := by
  refine law_sized (C := Try.checked) (tb := 4) ownP started (by kernel_rfl) Try.func8
    (ChangeSpec.witness6 (enc := enc) (C := Try.checked) false ⟨#[], #[.slice none 0 0, .string ⟨#[]⟩], []⟩ 8 (by kernel_rfl) (by kernel_rfl) (by kernel_rfl) (by kernel_rfl))
    laidP (by kernel_rfl) rfl (by kernel_rfl) Try.underlying4 (by intro ds h; match ds, h with | [_, _], _ => rfl) ?_
  intro W base args ds p hval0 hA0 hlt _
  have hval : ∀ (j : Nat) t v, Try.f8.params[j]? = some t → args[j]? = some v → Value.okWide Try.prog W .any base t v := hval0
  have hA : DataW.TrodAll enc Try.prog W 0 (fun _ => true) true Try.f8.params.toList args.toList ds p := hA0
  rw [Try.params8] at hA hval
  obtain ⟨v0, v1, d0, d1, p0, p1, rfl, rfl, rfl, h0, h1⟩ := trodAll_two hA
  obtain ⟨Aks, nks, cks, ks, rfl, eks, hnks, hmks, hrks, hbks⟩ := open_nums rfl Try.underlying22 Try.underlying3 (by kernel_rfl) (hval 0 22 v0 rfl rfl) h0
  obtain ⟨s, rfl, rfl⟩ := open_bytes Try.underlying9 (hval 1 9 v1 rfl rfl) h1
  exact canonWhole_walk Aks nks cks s ks W hrks

theorem holds : Rows.CanonWholeSaid :=
  OpenClaim.holds_of_wide 8 Try.f8 rfl rfl rfl rfl rfl rfl rfl ⟨rfl, rfl, rfl, rfl, rfl⟩ rfl rfl rfl rfl rfl (by kernel_rfl) Try.func8 (by kernel_rfl)
    (of_decide_eq_true (by kernel_rfl)) (by unfold Func.isWrapper; first | (rw [if_pos (by decide +kernel)]; kernel_rfl) | (rw [if_neg (by decide +kernel)]; exact ⟨rfl, rfl⟩))
    (fun os started H enc _ => lifted os started H enc)
end CanonWhole
end Go.Proofs.Ytlnlahnglkeaiaa
