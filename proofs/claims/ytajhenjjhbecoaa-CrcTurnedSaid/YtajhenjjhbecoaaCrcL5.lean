/-
  For any text, any change and any place: the sum of the text that was changed by the exclusive or at that place is Turned of its sum, and the layer's probe holds (CrcTurned). No condition.
-/
import Derived.Test.YtajhenjjhbecoaaCrcL4
namespace Go.Proofs.Ytajhenjjhbecoaa
set_option linter.unusedSimpArgs false
set_option linter.unusedVariables false
open Go.ChangeShapes Go.WideShapes Go.ChangeAt Go.RowKit Go.Joins Go.Deep
set_option maxHeartbeats 2000000 in
/-- Beyond the sizes that the statement looks at: the probe alone. -/
theorem crcTurned_far0 (l d : List UInt8) (a : Int) (w : World) (h : 5000 < l.length) :
    Calls Try.prog 7 #[.string ⟨l.toArray⟩, .string ⟨d.toArray⟩, .int .i64 a] w fun e w' => e = .returned (.bool true) ∧ Below w.heap.size w w' := by
  have h1 : (5000 : Int) < l.length := by omega
  go_enter Try.func7, Try.ntmps7
  go_wp2_with (go_at_call 8; refine (awake_any _).mono ?_; rintro e w9 ⟨rfl, hb9⟩)
  go_ret
  exact ⟨rfl, hb9⟩
set_option maxHeartbeats 2000000 in
/-- Beyond the sizes that the statement looks at: the probe alone. -/
theorem crcTurned_far1 (l d : List UInt8) (a : Int) (w : World) (h : l.length ≤ 5000) (k : a < 0) :
    Calls Try.prog 7 #[.string ⟨l.toArray⟩, .string ⟨d.toArray⟩, .int .i64 a] w fun e w' => e = .returned (.bool true) ∧ Below w.heap.size w w' := by
  have h1 : ¬ (5000 : Int) < l.length := by omega
  go_enter Try.func7, Try.ntmps7
  go_wp2_with (go_at_call 8; refine (awake_any _).mono ?_; rintro e w9 ⟨rfl, hb9⟩)
  go_ret
  exact ⟨rfl, hb9⟩
set_option maxHeartbeats 2000000 in
/-- Beyond the sizes that the statement looks at: the probe alone. -/
theorem crcTurned_far2 (l d : List UInt8) (a : Int) (w : World) (h : l.length ≤ 5000) (k : 0 ≤ a) (m : (l.length : Int) < a) :
    Calls Try.prog 7 #[.string ⟨l.toArray⟩, .string ⟨d.toArray⟩, .int .i64 a] w fun e w' => e = .returned (.bool true) ∧ Below w.heap.size w w' := by
  have h1 : ¬ (5000 : Int) < l.length := by omega
  have h2 : ¬ a < 0 := by omega
  go_enter Try.func7, Try.ntmps7
  go_wp2_with (go_at_call 8; refine (awake_any _).mono ?_; rintro e w9 ⟨rfl, hb9⟩)
  go_ret
  exact ⟨rfl, hb9⟩
set_option maxHeartbeats 2000000 in
/-- Beyond the sizes that the statement looks at: the probe alone. -/
theorem crcTurned_far3 (l d : List UInt8) (a : Int) (w : World) (h : l.length ≤ 5000) (k : 0 ≤ a) (m : a ≤ l.length) (o : (l.length : Int) - a < d.length) :
    Calls Try.prog 7 #[.string ⟨l.toArray⟩, .string ⟨d.toArray⟩, .int .i64 a] w fun e w' => e = .returned (.bool true) ∧ Below w.heap.size w w' := by
  have h1 : ¬ (5000 : Int) < l.length := by omega
  have h2 : ¬ a < 0 := by omega
  have h3 : ¬ (l.length : Int) < a := by omega
  go_enter Try.func7, Try.ntmps7
  go_wp2_with (go_at_call 8; refine (awake_any _).mono ?_; rintro e w9 ⟨rfl, hb9⟩)
  go_ret
  exact ⟨rfl, hb9⟩

theorem xorL_length : ∀ (m d : List UInt8), d.length ≤ m.length → (xorL m d).length = m.length
  | [], [], _ => rfl
  | [], _ :: _, h => by simp at h
  | _ :: _, [], _ => rfl
  | a :: m, b :: d, h => by
    show (xorL m d).length + 1 = m.length + 1
    rw [xorL_length m d (by simpa using h)]
theorem xorL_nil (m : List UInt8) : xorL m [] = m := by cases m <;> rfl
theorem xorL_get : ∀ (m d : List UInt8) (k : Nat) (hk : k < d.length) (h : m.length = d.length), (xorL m (d.take k))[k]? = m[k]?
  | [], _, k, hk, h => by
    simp only [List.length_nil] at h
    omega
  | a :: m, [], k, hk, h => by simp at h
  | a :: m, b :: d, 0, hk, h => by simp [xorL]
  | a :: m, b :: d, k + 1, hk, h => by
    show ((a ^^^ b) :: xorL m (d.take k))[k + 1]? = _
    rw [List.getElem?_cons_succ, List.getElem?_cons_succ]
    exact xorL_get m d k (by simpa using hk) (by simpa using h)
theorem xorL_set : ∀ (m d : List UInt8) (k : Nat) (hk : k < d.length) (h : m.length = d.length), (xorL m (d.take k)).set k ((m[k]'(by omega)) ^^^ d[k]) = xorL m (d.take (k + 1))
  | [], _, k, hk, h => by
    simp only [List.length_nil] at h
    omega
  | a :: m, [], k, hk, h => by simp at h
  | a :: m, b :: d, 0, hk, h => by
    show (xorL (a :: m) []).set 0 (a ^^^ b) = (a ^^^ b) :: xorL m []
    rw [xorL_nil, xorL_nil]
    rfl
  | a :: m, b :: d, k + 1, hk, h => by
    show ((a ^^^ b) :: xorL m (d.take k)).set (k + 1) _ = (a ^^^ b) :: xorL m (d.take (k + 1))
    rw [List.set_cons_succ]
    congr 1
    exact xorL_set m d k (by simpa using hk) (by simpa using h)
/-- A text, the first k bytes of a change laid in. -/
def part (pre mid q d : List UInt8) (k : Nat) : List UInt8 := pre ++ (xorL mid (d.take k) ++ q)
theorem part_length (pre mid q d : List UInt8) (k : Nat) (h : mid.length = d.length) : (part pre mid q d k).length = pre.length + (mid.length + q.length) := by
  unfold part
  rw [List.length_append, List.length_append, xorL_length _ _ (by rw [List.length_take]; omega)]
theorem part_get (pre mid q d : List UInt8) (k : Nat) (hk : k < d.length) (h : mid.length = d.length) : (part pre mid q d k)[pre.length + k]? = some (mid[k]'(by omega)) := by
  unfold part
  rw [List.getElem?_append_right (by omega), Nat.add_sub_cancel_left, List.getElem?_append_left (by rw [xorL_length _ _ (by rw [List.length_take]; omega)]; omega), xorL_get mid d k hk h]
  exact List.getElem?_eq_getElem _
theorem part_set (pre mid q d : List UInt8) (k : Nat) (hk : k < d.length) (h : mid.length = d.length) : (part pre mid q d k).set (pre.length + k) ((mid[k]'(by omega)) ^^^ d[k]) = part pre mid q d (k + 1) := by
  unfold part
  rw [List.set_append_right _ _ (by omega), Nat.add_sub_cancel_left, List.set_append_left _ _ (by rw [xorL_length _ _ (by rw [List.length_take]; omega)]; omega), xorL_set mid d k hk h]
theorem not_xor (a b : BitVec 32) : ~~~a ^^^ b = ~~~(a ^^^ b) := by
  rw [← BitVec.xor_allOnes, ← BitVec.xor_allOnes, BitVec.xor_assoc, BitVec.xor_assoc, BitVec.xor_comm (BitVec.allOnes 32)]
theorem ofT_turned (pre mid q d : List UInt8) (h : mid.length = d.length) (hq : q.length ≤ 100000) : turnedT T0 (ofT T0 (pre ++ (mid ++ q))) d (q.length : Int) = ofT T0 (pre ++ (xorL mid d ++ q)) := by
  unfold turnedT
  rw [ofT_T0, ofT_T0, rest_turned pre mid q d _ h, rest_T0, rest_T0, not_xor, show cnt (q.length : Int) = q.length from by unfold cnt; omega]
  rfl

set_option maxRecDepth 100000 in
set_option maxHeartbeats 16000000 in
theorem crcTurned_near (pre mid q d : List UInt8) (w : World) (l : List UInt8) (hl : l = pre ++ (mid ++ q)) (h : l.length ≤ 5000) (hm : mid.length = d.length) :
    Calls Try.prog 7 #[.string ⟨l.toArray⟩, .string ⟨d.toArray⟩, .int .i64 (pre.length : Int)] w fun e w' => e = .returned (.bool true) ∧ Below w.heap.size w w' := by
  have hlen0 : l.length = pre.length + (mid.length + q.length) := by rw [hl]; simp
  have h1 : ¬ (5000 : Int) < l.length := by omega
  have h2 : ¬ (pre.length : Int) < 0 := by omega
  have h3 : ¬ (l.length : Int) < pre.length := by omega
  have h4 : ¬ (l.length : Int) - pre.length < d.length := by omega
  have H1 := Lib.hid fun w => of_any T0 T0_len l (by omega) w
  have ht := fun w => turned_any T0 T0_len (ofT T0 l) d (q.length : Int) (by omega) w
  have e := ofT_turned pre mid q d hm (by omega)
  rw [← hl] at e
  rw [e] at ht
  have Ht := Lib.hid ht
  have hlx : (pre ++ (xorL mid d ++ q)).length = l.length := by
    rw [List.length_append, List.length_append, xorL_length _ _ (by omega), hlen0]
  have H2 := Lib.hid fun w => of_any T0 T0_len (pre ++ (xorL mid d ++ q)) (by rw [hlx]; omega) w
  obtain ⟨cap, W1, hcv, hR, hB, hcap⟩ := run_bytes_row (P := Try.prog) w 9 34 5 l Try.underlying9 Try.underlying34 Try.underlying5
  have hp0 : part pre mid q d 0 = l := by unfold part; rw [List.take_zero, xorL_nil, hl]
  have hpe : part pre mid q d d.length = pre ++ (xorL mid d ++ q) := by unfold part; rw [List.take_length]
  rw [← hp0] at hR
  have HR := Lib.hid hR
  have HB := Lib.hid hB
  have Hpe := Lib.hid hpe
  have Hll := Lib.hid hlx
  have Hlen0 := Lib.hid hlen0
  have Hm := Lib.hid hm
  have Hh := Lib.hid h
  have hw1 : IntKind.i64.wrap ((l.length : Int) - pre.length) = (l.length : Int) - pre.length := by rw [IntKind.wrap_i64]; omega
  have hw2 : IntKind.i64.wrap ((l.length : Int) - pre.length - d.length) = (q.length : Int) := by rw [IntKind.wrap_i64]; omega
  have Hw1 := Lib.hid hw1
  have Hw2 := Lib.hid hw2
  have hdl : (d.length : Int) ≤ 5000 := by omega
  have Htab := Lib.hid fun w => table_any w
  have hlen := tab_256 T0_len
  obtain ⟨Z, hZl, hz⟩ := zero_tab'
  have Hsz := Lib.hid (size_eq hZl hlen)
  have Hia := Lib.hid (info_arr hlen)
  have Hone := Lib.hid (tab_one T0)
  have Hi := Lib.hid (hi_tab hlen)
  clear hlen hZl h ht hl hlen0 e hlx hR hB hcap hp0 hpe hm hw1 hw2
  generalize ofT T0 l = s1 at *
  generalize ofT T0 (pre ++ (xorL mid d ++ q)) = s2 at *
  generalize pre ++ (xorL mid d ++ q) = lt at *
  generalize tab T0 = C at *
  go_enter Try.func7, Try.ntmps7
  go_wp2
  go_loopw [8] (fun i wr => ∃ k : Nat, Hid (k ≤ d.length) ∧ i = .int .i64 k ∧ Hid (BRow wr w.heap.size (part pre mid q d k)) ∧ Hid (Below w.heap.size w wr)) (fun i _ => d.length - (intOf i).toNat)
  case atStart => exact ⟨0, Lib.hid (by omega), rfl, HR, HB⟩
  case round =>
    obtain ⟨k, Hk, rfl, HRk, HBk⟩ := hrel
    have hkd := Hk.out
    by_cases hlt : k < d.length
    · have hki : (0 : Int) ≤ (k : Int) ∧ (k : Int) < d.length := by omega
      have hmk : k < mid.length := by rw [Hm.out]; exact hlt
      have hwr : IntKind.i64.wrap ((pre.length : Int) + k) = ((pre.length + k : Nat) : Int) := by rw [IntKind.wrap_i64]; have := Hlen0.out; have := Hh.out; omega
      have hqi : (0 : Int) ≤ ((pre.length + k : Nat) : Int) ∧ ((pre.length + k : Nat) : Int) < l.length := by have := Hlen0.out; omega
      have hget := part_get pre mid q d k hlt Hm.out
      have hcell := HRk.out.cell (pre.length + k) _ hget
      have hfree := HRk.out.free (pre.length + k) (by rw [part_length _ _ _ _ _ Hm.out]; omega)
      have Hset := Lib.hid (HRk.out.set (pre.length + k) ((mid[k]'hmk) ^^^ d[k]) (by rw [part_length _ _ _ _ _ Hm.out]; omega))
      have Hn := Lib.hid (part_set pre mid q d k hlt Hm.out)
      have hks : k < (ByteArray.mk d.toArray).size := by rw [ByteArray.size_mk']; simpa using hlt
      have hx : bits .xor .u8 ((mid[k]'hmk).toNat : Int) (((ByteArray.mk d.toArray)[k]'hks).toNat : Int) = (((mid[k]'hmk) ^^^ d[k]).toNat : Int) := by
        rw [xor_u8 _ _ (u8_lt _) (u8_lt _), UInt8.toNat_xor]
        rfl
      clear hget
      generalize pre.length + k = x at *
      generalize hbn : (mid[k]'hmk) ^^^ d[k] = bn at *
      generalize mid[k]'hmk = bo at *
      have Hx := Lib.hid hx
      have Hki := Lib.hid hki
      clear hx hbn hlt
      go_wp2
      refine wp_region_still_tail 11 (by kernel_rfl) (by kernel_rfl) ?_
      simp only [List.take_succ_cons, List.take_zero, List.drop_succ_cons, List.drop_zero]
      change wpStill _ _ (World.drew _) (fun a' => wpList _ _ _ _ a' (World.drew _)) _ _
      repeat still_step
      refine wpStill_nil ?_
      go_wp2
      go_roundw
      case rel => exact ⟨k + 1, Lib.hid (by have := Hki.out; omega), iv (by omega), Lib.hid (by rw [Hx.out, ← Hn.out]; exact Hset.out.drew), Lib.hid ((HBk.out.setCell (Nat.le_refl _) _).drew)⟩
      case measure => simp only [intOf]; have := Hki.out; omega
    · obtain rfl : k = d.length := by omega
      have HRe := Lib.hid HRk.out
      rw [Hpe.out] at HRe
      go_wp2_with (first
        | (go_at_call 9; refine (Htab.out _).mono ?_; rintro e w1 ⟨rfl, hb1⟩; have H0 : Hid (THolds w (w1.alloc (.cells C.toArray 24)) w1.heap.size C ∧ BRow (w1.alloc (.cells C.toArray 24)) w.heap.size lt) := Lib.hid ⟨tholds_next (bt HBk.out hb1) C 24, HRe.out.below (hb1.trans ((Below.refl _ _).alloc hb1.size _)) HRe.out.lt⟩; clear hb1)
        | (refine wpList_store_new rfl 24 _ _ rfl _ Z.toArray C.toArray rfl rfl Hia.out Hsz.out Hone.out ?_))
      have hi := Hi.out
      have hu := Try.underlying24
      have hw1 := Hw1.out
      have hw2 := Hw2.out
      generalize w1.heap.size = g at *
      refine wp_region_held_drew (S := (fun w9 => THolds w w9 g C ∧ BRow w9 w.heap.size lt)) (by kernel_rfl) (⟨H0.out.1.drew, H0.out.2.drew⟩) (fun hHeld => ?_)
      refine wpAnyH_take (i := 0) (oi := ⟨some 53, Op.load 24 (Operand.tmp 9), 24, _, #[], none⟩) (v := .agg C.toArray) rfl (by kernel_rfl) (by kernel_rfl) (by kernel_rfl) (fun _ _ _ h => h) (yieldsIf_load_mid (by rfl) _ _ rfl _ _ rfl _ _ (fun _ h => h.1.cells) hu rfl hi) hHeld ?_
      try simp only [Act.put, List.setIfInBounds_toArray, List.set_cons_zero, List.set_cons_succ]
      refine wpAnyH_take (i := 1) (oi := ⟨some 54, Op.load 24 (Operand.tmp 9), 24, _, #[], none⟩) (v := .agg C.toArray) rfl (by kernel_rfl) (by kernel_rfl) (by kernel_rfl) (fun _ _ _ h => h) (yieldsIf_load_mid (by rfl) _ _ rfl _ _ rfl _ _ (fun _ h => h.1.cells) hu rfl hi) hHeld ?_
      try simp only [Act.put, List.setIfInBounds_toArray, List.set_cons_zero, List.set_cons_succ]
      refine wpAnyH_take (i := 13) (oi := ⟨some 66, Op.load 24 (Operand.tmp 9), 24, _, #[], none⟩) (v := .agg C.toArray) rfl (by kernel_rfl) (by kernel_rfl) (by kernel_rfl) (fun _ _ _ h => h) (yieldsIf_load_mid (by rfl) _ _ rfl _ _ rfl _ _ (fun _ h => h.1.cells) hu rfl hi) hHeld ?_
      try simp only [Act.put, List.setIfInBounds_toArray, List.set_cons_zero, List.set_cons_succ]
      refine wpAnyH_take (i := 2) (oi := ⟨some 55, Op.move (Operand.tmp 0), 9, _, #[], none⟩) (v := ?_) rfl (by kernel_rfl) (by kernel_rfl) (by kernel_rfl) (fun _ _ _ h => h) (Or.inl ⟨by rfl, ?_⟩) hHeld ?_
      rotate_left
      · (intro wz hSw; go_simp; try (with_reducible rfl))
      try simp only [Act.put, List.setIfInBounds_toArray, List.set_cons_zero, List.set_cons_succ]
      refine wpAnyH_take (i := 4) (oi := ⟨some 57, Op.move (Operand.tmp 1), 9, _, #[], none⟩) (v := ?_) rfl (by kernel_rfl) (by kernel_rfl) (by kernel_rfl) (fun _ _ _ h => h) (Or.inl ⟨by rfl, ?_⟩) hHeld ?_
      rotate_left
      · (intro wz hSw; go_simp; try (with_reducible rfl))
      try simp only [Act.put, List.setIfInBounds_toArray, List.set_cons_zero, List.set_cons_succ]
      refine wpAnyH_take (i := 5) (oi := ⟨some 58, Op.move (Operand.tmp 0), 9, _, #[], none⟩) (v := ?_) rfl (by kernel_rfl) (by kernel_rfl) (by kernel_rfl) (fun _ _ _ h => h) (Or.inl ⟨by rfl, ?_⟩) hHeld ?_
      rotate_left
      · (intro wz hSw; go_simp; try (with_reducible rfl))
      try simp only [Act.put, List.setIfInBounds_toArray, List.set_cons_zero, List.set_cons_succ]
      refine wpAnyH_take (i := 6) (oi := ⟨some 59, Op.call { callee := Callee.builtin Builtin.len, args := #[Operand.tmp 58], argTypes := #[9] }, 3, _, #[{ on := 5, ground := Ground.data }], none⟩) (v := ?_) rfl (by kernel_rfl) (by kernel_rfl) (by kernel_rfl) (fun _ _ _ h => h) (Or.inl ⟨by rfl, ?_⟩) hHeld ?_
      rotate_left
      · (intro wz hSw; go_simp; try (with_reducible rfl))
      try simp only [Act.put, List.setIfInBounds_toArray, List.set_cons_zero, List.set_cons_succ]
      refine wpAnyH_take (i := 7) (oi := ⟨some 60, Op.move (Operand.tmp 2), 3, _, #[], none⟩) (v := ?_) rfl (by kernel_rfl) (by kernel_rfl) (by kernel_rfl) (fun _ _ _ h => h) (Or.inl ⟨by rfl, ?_⟩) hHeld ?_
      rotate_left
      · (intro wz hSw; go_simp; try (with_reducible rfl))
      try simp only [Act.put, List.setIfInBounds_toArray, List.set_cons_zero, List.set_cons_succ]
      refine wpAnyH_take (i := 8) (oi := ⟨some 61, Op.binOp BinOp.sub 3 (Operand.tmp 59) (Operand.tmp 60) 3, 3, _, #[{ on := 6, ground := Ground.data }, { on := 7, ground := Ground.data }], none⟩) (v := ?_) rfl (by kernel_rfl) (by kernel_rfl) (by kernel_rfl) (fun _ _ _ h => h) (Or.inl ⟨by rfl, ?_⟩) hHeld ?_
      rotate_left
      · (intro wz hSw; go_simp; try (with_reducible rfl))
      try simp only [Act.put, List.setIfInBounds_toArray, List.set_cons_zero, List.set_cons_succ]
      refine wpAnyH_take (i := 9) (oi := ⟨some 62, Op.move (Operand.tmp 1), 9, _, #[], none⟩) (v := ?_) rfl (by kernel_rfl) (by kernel_rfl) (by kernel_rfl) (fun _ _ _ h => h) (Or.inl ⟨by rfl, ?_⟩) hHeld ?_
      rotate_left
      · (intro wz hSw; go_simp; try (with_reducible rfl))
      try simp only [Act.put, List.setIfInBounds_toArray, List.set_cons_zero, List.set_cons_succ]
      refine wpAnyH_take (i := 10) (oi := ⟨some 63, Op.call { callee := Callee.builtin Builtin.len, args := #[Operand.tmp 62], argTypes := #[9] }, 3, _, #[{ on := 9, ground := Ground.data }], none⟩) (v := ?_) rfl (by kernel_rfl) (by kernel_rfl) (by kernel_rfl) (fun _ _ _ h => h) (Or.inl ⟨by rfl, ?_⟩) hHeld ?_
      rotate_left
      · (intro wz hSw; go_simp; try (with_reducible rfl))
      try simp only [Act.put, List.setIfInBounds_toArray, List.set_cons_zero, List.set_cons_succ]
      refine wpAnyH_take (i := 11) (oi := ⟨some 64, Op.binOp BinOp.sub 3 (Operand.tmp 61) (Operand.tmp 63) 3, 3, _, #[{ on := 8, ground := Ground.data }, { on := 10, ground := Ground.data }], none⟩) (v := ?_) rfl (by kernel_rfl) (by kernel_rfl) (by kernel_rfl) (fun _ _ _ h => h) (Or.inl ⟨by rfl, ?_⟩) hHeld ?_
      rotate_left
      · (intro wz hSw; go_simp; try (with_reducible rfl))
      try simp only [Act.put, List.setIfInBounds_toArray, List.set_cons_zero, List.set_cons_succ]
      refine wpAnyH_take (i := 14) (oi := ⟨some 67, Op.move (Operand.tmp 7), 34, _, #[], none⟩) (v := ?_) rfl (by kernel_rfl) (by kernel_rfl) (by kernel_rfl) (fun _ _ _ h => h) (Or.inl ⟨by rfl, ?_⟩) hHeld ?_
      rotate_left
      · (intro wz hSw; go_simp; try (with_reducible rfl))
      try simp only [Act.put, List.setIfInBounds_toArray, List.set_cons_zero, List.set_cons_succ]
      refine wpAnyH_take (i := 15) (oi := ⟨some 68, Op.convert 34 9 (Operand.tmp 67), 9, _, #[{ on := 14, ground := Ground.data }], none⟩) (v := .string ⟨lt.toArray⟩) rfl (by kernel_rfl) (by kernel_rfl) (by kernel_rfl) (fun _ _ _ h => h) (yieldsIf_str (by rfl) _ _ _ rfl _ _ _ lt rfl (fun w9 h => h.2.str Try.underlying34 Try.underlying5 Try.underlying9 _ _ Hll.out)) hHeld ?_
      try simp only [Act.put, List.setIfInBounds_toArray, List.set_cons_zero, List.set_cons_succ]
      refine wpAnyH_ready (rs := [3]) (by kernel_rfl) (by simp) ?_
      refine AllReadyH.cons (o := ⟨some 56, Op.call { callee := Callee.value (Operand.func 11), args := #[Operand.tmp 54, Operand.tmp 55], argTypes := #[24, 9] }, 22, _, #[{ on := 1, ground := Ground.data }, { on := 2, ground := Ground.data }], none⟩) rfl (fun K hK => ?_) AllReadyH.nil
      go_simp
      go_at_call 11
      with_reducible refine (H1.out _).mono ?_
      rintro e w9 ⟨rfl, hb1⟩
      refine hK.out _ _ (⟨THolds.next hHeld.1 hb1, hHeld.2.below hb1 hHeld.2.lt⟩) (fun hH => ?_)
      clear hHeld hK K hb1
      have hHeld := hH
      clear hH
      try simp only [Act.put, List.setIfInBounds_toArray, List.set_cons_zero, List.set_cons_succ]
      refine wpAnyH_ready (rs := [12]) (by kernel_rfl) (by simp) ?_
      refine AllReadyH.cons (o := ⟨some 65, Op.call { callee := Callee.value (Operand.func 17), args := #[Operand.tmp 53, Operand.tmp 56, Operand.tmp 57, Operand.tmp 64], argTypes := #[24, 22, 9, 3] }, 22, _, #[{ on := 0, ground := Ground.data }, { on := 3, ground := Ground.data }, { on := 4, ground := Ground.data }, { on := 11, ground := Ground.data }, { on := 3, ground := Ground.chain }], none⟩) rfl (fun K hK => ?_) AllReadyH.nil
      go_simp
      go_at_call 17
      with_reducible refine (Ht.out _).mono ?_
      rintro e w9 ⟨rfl, hb1⟩
      refine hK.out _ _ (⟨THolds.next hHeld.1 hb1, hHeld.2.below hb1 hHeld.2.lt⟩) (fun hH => ?_)
      clear hHeld hK K hb1
      have hHeld := hH
      clear hH
      try simp only [Act.put, List.setIfInBounds_toArray, List.set_cons_zero, List.set_cons_succ]
      refine wpAnyH_ready (rs := [16]) (by kernel_rfl) (by simp) ?_
      refine AllReadyH.cons (o := ⟨some 69, Op.call { callee := Callee.value (Operand.func 11), args := #[Operand.tmp 66, Operand.tmp 68], argTypes := #[24, 9] }, 22, _, #[{ on := 13, ground := Ground.data }, { on := 15, ground := Ground.data }, { on := 12, ground := Ground.chain }], none⟩) rfl (fun K hK => ?_) AllReadyH.nil
      go_simp
      go_at_call 11
      with_reducible refine (H2.out _).mono ?_
      rintro e w9 ⟨rfl, hb1⟩
      refine hK.out _ _ (⟨THolds.next hHeld.1 hb1, hHeld.2.below hb1 hHeld.2.lt⟩) (fun hH => ?_)
      clear hHeld hK K hb1
      have hHeld := hH
      clear hH
      try simp only [Act.put, List.setIfInBounds_toArray, List.set_cons_zero, List.set_cons_succ]
      refine wpAnyH_take (i := 17) (oi := ⟨some 70, Op.binOp BinOp.eql 22 (Operand.tmp 65) (Operand.tmp 69) 22, 4, _, #[{ on := 12, ground := Ground.data }, { on := 16, ground := Ground.data }], none⟩) (v := ?_) rfl (by kernel_rfl) (by kernel_rfl) (by kernel_rfl) (fun _ _ _ h => h) (Or.inl ⟨by rfl, ?_⟩) hHeld ?_
      rotate_left
      · (intro wz hSw; go_simp; try (with_reducible rfl))
      try simp only [Act.put, List.setIfInBounds_toArray, List.set_cons_zero, List.set_cons_succ]
      refine wpAnyH_take (i := 18) (oi := ⟨some 71, Op.move (Operand.tmp 70), 4, _, #[{ on := 17, ground := Ground.data }, { on := 16, ground := Ground.chain }], none⟩) (v := ?_) rfl (by kernel_rfl) (by kernel_rfl) (by kernel_rfl) (fun _ _ _ h => h) (Or.inl ⟨by rfl, ?_⟩) hHeld ?_
      rotate_left
      · (intro wz hSw; go_simp; try (with_reducible rfl))
      try simp only [Act.put, List.setIfInBounds_toArray, List.set_cons_zero, List.set_cons_succ]
      refine wpAnyH_ready (rs := [19]) (by kernel_rfl) (by simp) ?_
      refine AllReadyH.cons (o := ⟨some 72, Op.call { callee := Callee.value (Operand.func 8), args := #[], argTypes := #[] }, 4, _, #[{ on := 18, ground := Ground.chain }, { on := 18, ground := Ground.guard }], some (18, true)⟩) rfl (fun K hK => ?_) AllReadyH.nil
      go_simp
      go_at_call 8
      with_reducible refine (awake_any _).mono ?_
      rintro e w9 ⟨rfl, hb1⟩
      refine hK.out _ _ (⟨THolds.next hHeld.1 hb1, hHeld.2.below hb1 hHeld.2.lt⟩) (fun hH => ?_)
      clear hHeld hK K hb1
      have hHeld := hH
      clear hH
      try simp only [Act.put, List.setIfInBounds_toArray, List.set_cons_zero, List.set_cons_succ]
      refine wpAnyH_take (i := 20) (oi := ⟨some 73, Op.pick (Operand.tmp 71) (Operand.tmp 72) (Operand.const (Value.bool false)), 4, _, #[{ on := 18, ground := Ground.data }, { on := 19, ground := Ground.data }], none⟩) (v := ?_) rfl (by kernel_rfl) (by kernel_rfl) (by kernel_rfl) (fun _ _ _ h => h) (Or.inl ⟨by rfl, ?_⟩) hHeld ?_
      rotate_left
      · (intro wz hSw; go_simp; try (with_reducible rfl))
      try simp only [Act.put, List.setIfInBounds_toArray, List.set_cons_zero, List.set_cons_succ]
      refine wpAnyH_take (i := 21) (oi := ⟨some 6, Op.assign (Operand.tmp 73), 4, _, #[{ on := 20, ground := Ground.data }, { on := 19, ground := Ground.chain }, { on := 0, ground := Ground.phase }, { on := 1, ground := Ground.phase }, { on := 2, ground := Ground.phase }, { on := 3, ground := Ground.phase }, { on := 4, ground := Ground.phase }, { on := 5, ground := Ground.phase }, { on := 6, ground := Ground.phase }, { on := 7, ground := Ground.phase }, { on := 8, ground := Ground.phase }, { on := 9, ground := Ground.phase }, { on := 10, ground := Ground.phase }, { on := 11, ground := Ground.phase }, { on := 12, ground := Ground.phase }, { on := 13, ground := Ground.phase }, { on := 14, ground := Ground.phase }, { on := 15, ground := Ground.phase }, { on := 16, ground := Ground.phase }, { on := 17, ground := Ground.phase }, { on := 18, ground := Ground.phase }, { on := 19, ground := Ground.phase }, { on := 20, ground := Ground.phase }], none⟩) (v := ?_) rfl (by kernel_rfl) (by kernel_rfl) (by kernel_rfl) (fun _ _ _ h => h) (Or.inl ⟨by rfl, ?_⟩) hHeld ?_
      rotate_left
      · (intro wz hSw; go_simp; try (with_reducible rfl))
      try simp only [Act.put, List.setIfInBounds_toArray, List.set_cons_zero, List.set_cons_succ]
      refine wpAnyH_done (by kernel_rfl) ?_ _
      skip
      go_wp2
      go_ret
      exact ⟨rfl, hHeld.1.below⟩
theorem crcTurned_walk (l d : List UInt8) (a : Int) (w : World) :
    Calls Try.prog 7 #[.string ⟨l.toArray⟩, .string ⟨d.toArray⟩, .int .i64 a] w fun e w' => e = .returned (.bool true) ∧ Below w.heap.size w w' := by
  by_cases h : l.length ≤ 5000
  · by_cases k : 0 ≤ a
    · by_cases m : a ≤ l.length
      · by_cases o : (d.length : Int) ≤ l.length - a
        · obtain ⟨p, rfl⟩ := Int.eq_ofNat_of_zero_le k
          have e1 : (l.take p).length = p := by rw [List.length_take]; omega
          have e2 : ((l.drop p).take d.length).length = d.length := by rw [List.length_take, List.length_drop]; omega
          have := crcTurned_near (l.take p) ((l.drop p).take d.length) ((l.drop p).drop d.length) d w l (by rw [List.take_append_drop, List.take_append_drop]) h e2
          rw [e1] at this
          exact this
        · exact crcTurned_far3 l d a w h k m (by omega)
      · exact crcTurned_far2 l d a w h k (by omega)
    · exact crcTurned_far1 l d a w h (by omega)
  · exact crcTurned_far0 l d a w (by omega)

namespace CrcTurned
set_option maxRecDepth 100000 in
theorem lifted (os : Os) (started : os.Started) (H : Type) (enc : TypeId × Value → H) :
    ReturnsInHanded {} Try.checked os 7 .any (Rows.crcTurnedSpec.pre6 enc Try.prog Try.f7 Rows.crcTurnedRow.domain false) (Rows.crcTurnedSpec.post enc Try.prog Try.f7 false true false false) := by
  refine law_sized (C := Try.checked) (tb := 4) ownP started (by kernel_rfl) Try.func7
    (ChangeSpec.witness6 (enc := enc) (C := Try.checked) false ⟨#[], #[.string ⟨#[]⟩, .string ⟨#[]⟩, .int .i64 0], []⟩ 8 (by kernel_rfl) (by kernel_rfl) (by kernel_rfl) (by kernel_rfl))
    laidP (by kernel_rfl) rfl (by kernel_rfl) Try.underlying4 (by intro ds h; match ds, h with | [_, _, _], _ => rfl) ?_
  intro W base args ds p hval0 hA0 hlt _
  have hval : ∀ (j : Nat) t v, Try.f7.params[j]? = some t → args[j]? = some v → Value.okWide Try.prog W .any base t v := hval0
  have hA : DataW.TrodAll enc Try.prog W 0 (fun _ => true) true Try.f7.params.toList args.toList ds p := hA0
  rw [Try.params7] at hA hval
  obtain ⟨v0, v1, v2, d0, d1, d2, p0, p1, p2, rfl, rfl, rfl, h0, h1, h2⟩ := trodAll_three hA
  obtain ⟨l, rfl, rfl⟩ := open_bytes Try.underlying9 (hval 0 9 v0 rfl rfl) h0
  obtain ⟨d, rfl, rfl⟩ := open_bytes Try.underlying9 (hval 1 9 v1 rfl rfl) h1
  obtain ⟨a, rfl, rfl, rfl, wa⟩ := open_int Try.underlying3 (hval 2 3 v2 rfl rfl) h2
  exact crcTurned_walk l d a W

theorem holds : Rows.CrcTurnedSaid :=
  OpenClaim.holds_of_wide 7 Try.f7 rfl rfl rfl rfl rfl rfl rfl ⟨rfl, rfl, rfl, rfl, rfl⟩ rfl rfl rfl rfl rfl (by kernel_rfl) Try.func7 (by kernel_rfl)
    (of_decide_eq_true (by kernel_rfl)) (by unfold Func.isWrapper; first | (rw [if_pos (by decide +kernel)]; kernel_rfl) | (rw [if_neg (by decide +kernel)]; exact ⟨rfl, rfl⟩))
    (fun os started H enc _ => lifted os started H enc)
end CrcTurned
end Go.Proofs.Ytajhenjjhbecoaa
