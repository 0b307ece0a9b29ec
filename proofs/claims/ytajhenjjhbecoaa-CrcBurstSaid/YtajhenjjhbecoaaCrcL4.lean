/-
  For any text, any place and any number that is not 0: the text with the number's bits turned in from that place on has another sum, and the layer's probe holds (CrcBurst). No condition.
-/
import Derived.Test.YtajhenjjhbecoaaCrcL3
import Derived.Test.YtajhenjjhbecoaaCrcF
namespace Go.Proofs.Ytajhenjjhbecoaa
set_option linter.unusedSimpArgs false
set_option linter.unusedVariables false
open Go.ChangeShapes Go.WideShapes Go.ChangeAt Go.RowKit Go.Joins Go.Deep
set_option maxHeartbeats 2000000 in
/-- Beyond the sizes that the statement looks at: the probe alone. -/
theorem crcBurst_far0 (l : List UInt8) (a : Int) (v : BitVec 32) (w : World) (h : 5000 < l.length) :
    Calls Try.prog 6 #[.string ⟨l.toArray⟩, .int .i64 a, .int .u32 (v.toNat : Int)] w fun e w' => e = .returned (.bool true) ∧ Below w.heap.size w w' := by
  have h1 : (5000 : Int) < l.length := by omega
  generalize (v.toNat : Int) = z at *
  go_enter Try.func6, Try.ntmps6
  go_wp2_with (go_at_call 8; refine (awake_any _).mono ?_; rintro e w9 ⟨rfl, hb9⟩)
  go_ret
  exact ⟨rfl, hb9⟩
set_option maxHeartbeats 2000000 in
/-- Beyond the sizes that the statement looks at: the probe alone. -/
theorem crcBurst_far1 (l : List UInt8) (a : Int) (v : BitVec 32) (w : World) (h : l.length ≤ 5000) (k : l.length < 4) :
    Calls Try.prog 6 #[.string ⟨l.toArray⟩, .int .i64 a, .int .u32 (v.toNat : Int)] w fun e w' => e = .returned (.bool true) ∧ Below w.heap.size w w' := by
  have h1 : ¬ (5000 : Int) < l.length := by omega
  have h2 : (l.length : Int) < 4 := by omega
  generalize (v.toNat : Int) = z at *
  go_enter Try.func6, Try.ntmps6
  go_wp2_with (go_at_call 8; refine (awake_any _).mono ?_; rintro e w9 ⟨rfl, hb9⟩)
  go_ret
  exact ⟨rfl, hb9⟩
set_option maxHeartbeats 2000000 in
/-- Beyond the sizes that the statement looks at: the probe alone. -/
theorem crcBurst_far2 (l : List UInt8) (a : Int) (v : BitVec 32) (w : World) (h : l.length ≤ 5000) (k : 4 ≤ l.length) (m : a < 0) :
    Calls Try.prog 6 #[.string ⟨l.toArray⟩, .int .i64 a, .int .u32 (v.toNat : Int)] w fun e w' => e = .returned (.bool true) ∧ Below w.heap.size w w' := by
  have h1 : ¬ (5000 : Int) < l.length := by omega
  have h2 : ¬ (l.length : Int) < 4 := by omega
  generalize (v.toNat : Int) = z at *
  go_enter Try.func6, Try.ntmps6
  go_wp2_with (go_at_call 8; refine (awake_any _).mono ?_; rintro e w9 ⟨rfl, hb9⟩)
  go_ret
  exact ⟨rfl, hb9⟩
set_option maxHeartbeats 2000000 in
/-- Beyond the sizes that the statement looks at: the probe alone. -/
theorem crcBurst_far3 (l : List UInt8) (a : Int) (v : BitVec 32) (w : World) (h : l.length ≤ 5000) (k : 4 ≤ l.length) (m : 0 ≤ a) (o : 8 * (l.length : Int) - 32 < a) :
    Calls Try.prog 6 #[.string ⟨l.toArray⟩, .int .i64 a, .int .u32 (v.toNat : Int)] w fun e w' => e = .returned (.bool true) ∧ Below w.heap.size w w' := by
  have h1 : ¬ (5000 : Int) < l.length := by omega
  have h2 : ¬ (l.length : Int) < 4 := by omega
  have h3 : ¬ a < 0 := by omega
  generalize (v.toNat : Int) = z at *
  go_enter Try.func6, Try.ntmps6
  go_wp2_with (go_at_call 8; refine (awake_any _).mono ?_; rintro e w9 ⟨rfl, hb9⟩)
  go_ret
  exact ⟨rfl, hb9⟩
set_option maxHeartbeats 2000000 in
/-- Beyond the sizes that the statement looks at: the probe alone. -/
theorem crcBurst_far4 (l : List UInt8) (a : Int) (v : BitVec 32) (w : World) (h : l.length ≤ 5000) (k : 4 ≤ l.length) (m : 0 ≤ a) (o : a ≤ 8 * (l.length : Int) - 32) (q : (v.toNat : Int) = 0) :
    Calls Try.prog 6 #[.string ⟨l.toArray⟩, .int .i64 a, .int .u32 (v.toNat : Int)] w fun e w' => e = .returned (.bool true) ∧ Below w.heap.size w w' := by
  have h1 : ¬ (5000 : Int) < l.length := by omega
  have h2 : ¬ (l.length : Int) < 4 := by omega
  have h3 : ¬ a < 0 := by omega
  have h4 : ¬ 8 * (l.length : Int) - 32 < a := by omega
  rw [q]
  clear q
  go_enter Try.func6, Try.ntmps6
  go_wp2_with (go_at_call 8; refine (awake_any _).mono ?_; rintro e w9 ⟨rfl, hb9⟩)
  go_ret
  exact ⟨rfl, hb9⟩

theorem not_inj {a b : BitVec 32} (h : ~~~a = ~~~b) : a = b := by
  rw [← not_not a, h, not_not]
theorem ofT_burst (l : List UInt8) (p : Nat) (v : BitVec 32) (hp : p + 32 ≤ 8 * l.length) (hv : v ≠ 0#32) : ofT T0 l ≠ ofT T0 (flips l p v 32) := by
  intro e
  rw [ofT_T0, ofT_T0] at e
  exact burst l p v _ hp hv (not_inj e).symm

set_option maxRecDepth 100000 in
set_option maxHeartbeats 8000000 in
theorem crcBurst_near (l : List UInt8) (p : Nat) (v : BitVec 32) (w : World) (h : l.length ≤ 5000) (k : 4 ≤ l.length) (hp : p + 32 ≤ 8 * l.length) (hv : v ≠ 0#32) :
    Calls Try.prog 6 #[.string ⟨l.toArray⟩, .int .i64 (p : Int), .int .u32 (v.toNat : Int)] w fun e w' => e = .returned (.bool true) ∧ Below w.heap.size w w' := by
  have h1 : ¬ (5000 : Int) < l.length := by omega
  have h2 : ¬ (l.length : Int) < 4 := by omega
  have h3 : ¬ (p : Int) < 0 := by omega
  have h4 : ¬ 8 * (l.length : Int) - 32 < p := by omega
  have h5 : ((v.toNat : Int) == 0) = false := by
    rw [beq_eq_false_iff_ne]
    intro e
    apply hv
    apply BitVec.eq_of_toNat_eq
    rw [show (0#32).toNat = 0 from rfl]
    omega
  have hne := ofT_burst l p v hp hv
  have hn1 : (((ofT T0 l).toNat : Int) == ((ofT T0 (flips l p v 32)).toNat : Int)) = false := by
    rw [beq_eq_false_iff_ne]
    intro e
    exact hne (BitVec.eq_of_toNat_eq (by omega))
  have hn2 : (((ofT T0 l).toNat : Int) != ((ofT T0 (flips l p v 32)).toNat : Int)) = true := by rw [bne, hn1]; rfl
  have hn3 : ((ofT T0 l).toNat : Int) ≠ ((ofT T0 (flips l p v 32)).toNat : Int) := by
    intro e
    exact hne (BitVec.eq_of_toNat_eq (by omega))
  have H1 := Lib.hid fun w => of_any T0 T0_len l (by omega) w
  have H2 := Lib.hid fun w => of_any T0 T0_len (flips l p v 32) (by rw [flips_length]; omega) w
  have Hf := Lib.hid fun w => flipped_any l p v h hp w
  have Htab := Lib.hid fun w => table_any w
  have hlen := tab_256 T0_len
  obtain ⟨Z, hZl, hz⟩ := zero_tab'
  have Hsz := Lib.hid (size_eq hZl hlen)
  have Hia := Lib.hid (info_arr hlen)
  have Hone := Lib.hid (tab_one T0)
  have Hi := Lib.hid (hi_tab hlen)
  clear hlen hZl h k hp hv hne
  generalize ((ofT T0 l).toNat : Int) = s1 at *
  generalize ((ofT T0 (flips l p v 32)).toNat : Int) = s2 at *
  generalize flips l p v 32 = lf at *
  generalize (v.toNat : Int) = z at *
  generalize tab T0 = C at *
  have Hn1 := Lib.hid hn1
  have Hn2 := Lib.hid hn2
  have Hn3 := Lib.hid hn3
  clear hn1 hn2 hn3
  go_enter Try.func6, Try.ntmps6
  go_wp2_with (first
    | (go_at_call 9; refine (Htab.out _).mono ?_; rintro e w1 ⟨rfl, hb1⟩; have H0 := Lib.hid (tholds_next hb1 C 24); clear hb1)
    | (refine wpList_store_new rfl 24 _ _ rfl _ Z.toArray C.toArray rfl rfl Hia.out Hsz.out Hone.out ?_))
  have hi := Hi.out
  have hu := Try.underlying24
  have hn1 := Hn1.out
  have hn2 := Hn2.out
  have hn3 := Hn3.out
  generalize w1.heap.size = g at *
  refine wp_region_held_drew (S := (fun w9 => THolds w w9 g C)) (by kernel_rfl) (H0.out.drew) (fun hHeld => ?_)
  refine wpAnyH_take (i := 0) (oi := ⟨some 34, Op.load 24 (Operand.tmp 7), 24, _, #[], none⟩) (v := .agg C.toArray) rfl (by kernel_rfl) (by kernel_rfl) (by kernel_rfl) (fun _ _ _ h => h) (yieldsIf_load_mid (by rfl) _ _ rfl _ _ rfl _ _ (fun _ h => h.cells) hu rfl hi) hHeld ?_
  try simp only [Act.put, List.setIfInBounds_toArray, List.set_cons_zero, List.set_cons_succ]
  refine wpAnyH_take (i := 3) (oi := ⟨some 37, Op.load 24 (Operand.tmp 7), 24, _, #[], none⟩) (v := .agg C.toArray) rfl (by kernel_rfl) (by kernel_rfl) (by kernel_rfl) (fun _ _ _ h => h) (yieldsIf_load_mid (by rfl) _ _ rfl _ _ rfl _ _ (fun _ h => h.cells) hu rfl hi) hHeld ?_
  try simp only [Act.put, List.setIfInBounds_toArray, List.set_cons_zero, List.set_cons_succ]
  refine wpAnyH_take (i := 1) (oi := ⟨some 35, Op.move (Operand.tmp 0), 9, _, #[], none⟩) (v := ?_) rfl (by kernel_rfl) (by kernel_rfl) (by kernel_rfl) (fun _ _ _ h => h) (Or.inl ⟨by rfl, ?_⟩) hHeld ?_
  rotate_left
  · (intro wz hSw; go_simp; try (with_reducible rfl))
  try simp only [Act.put, List.setIfInBounds_toArray, List.set_cons_zero, List.set_cons_succ]
  refine wpAnyH_take (i := 4) (oi := ⟨some 38, Op.move (Operand.tmp 0), 9, _, #[], none⟩) (v := ?_) rfl (by kernel_rfl) (by kernel_rfl) (by kernel_rfl) (fun _ _ _ h => h) (Or.inl ⟨by rfl, ?_⟩) hHeld ?_
  rotate_left
  · (intro wz hSw; go_simp; try (with_reducible rfl))
  try simp only [Act.put, List.setIfInBounds_toArray, List.set_cons_zero, List.set_cons_succ]
  refine wpAnyH_take (i := 5) (oi := ⟨some 39, Op.move (Operand.tmp 1), 3, _, #[], none⟩) (v := ?_) rfl (by kernel_rfl) (by kernel_rfl) (by kernel_rfl) (fun _ _ _ h => h) (Or.inl ⟨by rfl, ?_⟩) hHeld ?_
  rotate_left
  · (intro wz hSw; go_simp; try (with_reducible rfl))
  try simp only [Act.put, List.setIfInBounds_toArray, List.set_cons_zero, List.set_cons_succ]
  refine wpAnyH_take (i := 6) (oi := ⟨some 40, Op.move (Operand.tmp 2), 22, _, #[], none⟩) (v := ?_) rfl (by kernel_rfl) (by kernel_rfl) (by kernel_rfl) (fun _ _ _ h => h) (Or.inl ⟨by rfl, ?_⟩) hHeld ?_
  rotate_left
  · (intro wz hSw; go_simp; try (with_reducible rfl))
  try simp only [Act.put, List.setIfInBounds_toArray, List.set_cons_zero, List.set_cons_succ]
  refine wpAnyH_ready (rs := [2]) (by kernel_rfl) (by simp) ?_
  refine AllReadyH.cons (o := ⟨some 36, Op.call { callee := Callee.value (Operand.func 11), args := #[Operand.tmp 34, Operand.tmp 35], argTypes := #[24, 9] }, 22, _, #[{ on := 0, ground := Ground.data }, { on := 1, ground := Ground.data }], none⟩) rfl (fun K hK => ?_) AllReadyH.nil
  go_simp
  go_at_call 11
  with_reducible refine (H1.out _).mono ?_
  rintro e w9 ⟨rfl, hb1⟩
  refine hK.out _ _ (THolds.next hHeld hb1) (fun hH => ?_)
  clear hHeld hK K hb1
  have hHeld := hH
  clear hH
  try simp only [Act.put, List.setIfInBounds_toArray, List.set_cons_zero, List.set_cons_succ]
  refine wpAnyH_ready (rs := [7]) (by kernel_rfl) (by simp) ?_
  refine AllReadyH.cons (o := ⟨some 41, Op.call { callee := Callee.value (Operand.func 19), args := #[Operand.tmp 38, Operand.tmp 39, Operand.tmp 40], argTypes := #[9, 3, 22] }, 9, _, #[{ on := 4, ground := Ground.data }, { on := 5, ground := Ground.data }, { on := 6, ground := Ground.data }, { on := 2, ground := Ground.chain }], none⟩) rfl (fun K hK => ?_) AllReadyH.nil
  go_simp
  go_at_call 19
  with_reducible refine (Hf.out _).mono ?_
  rintro e w9 ⟨rfl, hb1⟩
  refine hK.out _ _ (THolds.next hHeld hb1) (fun hH => ?_)
  clear hHeld hK K hb1
  have hHeld := hH
  clear hH
  try simp only [Act.put, List.setIfInBounds_toArray, List.set_cons_zero, List.set_cons_succ]
  refine wpAnyH_ready (rs := [8]) (by kernel_rfl) (by simp) ?_
  refine AllReadyH.cons (o := ⟨some 42, Op.call { callee := Callee.value (Operand.func 11), args := #[Operand.tmp 37, Operand.tmp 41], argTypes := #[24, 9] }, 22, _, #[{ on := 3, ground := Ground.data }, { on := 7, ground := Ground.data }, { on := 7, ground := Ground.chain }], none⟩) rfl (fun K hK => ?_) AllReadyH.nil
  go_simp
  go_at_call 11
  with_reducible refine (H2.out _).mono ?_
  rintro e w9 ⟨rfl, hb1⟩
  refine hK.out _ _ (THolds.next hHeld hb1) (fun hH => ?_)
  clear hHeld hK K hb1
  have hHeld := hH
  clear hH
  try simp only [Act.put, List.setIfInBounds_toArray, List.set_cons_zero, List.set_cons_succ]
  refine wpAnyH_take (i := 9) (oi := ⟨some 43, Op.binOp BinOp.neq 22 (Operand.tmp 36) (Operand.tmp 42) 22, 4, _, #[{ on := 2, ground := Ground.data }, { on := 8, ground := Ground.data }], none⟩) (v := ?_) rfl (by kernel_rfl) (by kernel_rfl) (by kernel_rfl) (fun _ _ _ h => h) (Or.inl ⟨by rfl, ?_⟩) hHeld ?_
  rotate_left
  · (intro wz hSw; go_simp; try (with_reducible rfl))
  try simp only [Act.put, List.setIfInBounds_toArray, List.set_cons_zero, List.set_cons_succ]
  refine wpAnyH_take (i := 10) (oi := ⟨some 44, Op.move (Operand.tmp 43), 4, _, #[{ on := 9, ground := Ground.data }, { on := 8, ground := Ground.chain }], none⟩) (v := ?_) rfl (by kernel_rfl) (by kernel_rfl) (by kernel_rfl) (fun _ _ _ h => h) (Or.inl ⟨by rfl, ?_⟩) hHeld ?_
  rotate_left
  · (intro wz hSw; go_simp; try (with_reducible rfl))
  try simp only [Act.put, List.setIfInBounds_toArray, List.set_cons_zero, List.set_cons_succ]
  refine wpAnyH_ready (rs := [11]) (by kernel_rfl) (by simp) ?_
  refine AllReadyH.cons (o := ⟨some 45, Op.call { callee := Callee.value (Operand.func 8), args := #[], argTypes := #[] }, 4, _, #[{ on := 10, ground := Ground.chain }, { on := 10, ground := Ground.guard }], some (10, true)⟩) rfl (fun K hK => ?_) AllReadyH.nil
  go_simp
  go_at_call 8
  with_reducible refine (awake_any _).mono ?_
  rintro e w9 ⟨rfl, hb1⟩
  refine hK.out _ _ (THolds.next hHeld hb1) (fun hH => ?_)
  clear hHeld hK K hb1
  have hHeld := hH
  clear hH
  try simp only [Act.put, List.setIfInBounds_toArray, List.set_cons_zero, List.set_cons_succ]
  refine wpAnyH_take (i := 12) (oi := ⟨some 46, Op.pick (Operand.tmp 44) (Operand.tmp 45) (Operand.const (Value.bool false)), 4, _, #[{ on := 10, ground := Ground.data }, { on := 11, ground := Ground.data }], none⟩) (v := ?_) rfl (by kernel_rfl) (by kernel_rfl) (by kernel_rfl) (fun _ _ _ h => h) (Or.inl ⟨by rfl, ?_⟩) hHeld ?_
  rotate_left
  · (intro wz hSw; go_simp; try (with_reducible rfl))
  try simp only [Act.put, List.setIfInBounds_toArray, List.set_cons_zero, List.set_cons_succ]
  refine wpAnyH_take (i := 13) (oi := ⟨some 6, Op.assign (Operand.tmp 46), 4, _, #[{ on := 12, ground := Ground.data }, { on := 11, ground := Ground.chain }, { on := 0, ground := Ground.phase }, { on := 1, ground := Ground.phase }, { on := 2, ground := Ground.phase }, { on := 3, ground := Ground.phase }, { on := 4, ground := Ground.phase }, { on := 5, ground := Ground.phase }, { on := 6, ground := Ground.phase }, { on := 7, ground := Ground.phase }, { on := 8, ground := Ground.phase }, { on := 9, ground := Ground.phase }, { on := 10, ground := Ground.phase }, { on := 11, ground := Ground.phase }, { on := 12, ground := Ground.phase }], none⟩) (v := ?_) rfl (by kernel_rfl) (by kernel_rfl) (by kernel_rfl) (fun _ _ _ h => h) (Or.inl ⟨by rfl, ?_⟩) hHeld ?_
  rotate_left
  · (intro wz hSw; go_simp; try (with_reducible rfl))
  try simp only [Act.put, List.setIfInBounds_toArray, List.set_cons_zero, List.set_cons_succ]
  refine wpAnyH_done (by kernel_rfl) ?_ _
  skip
  go_wp2
  go_ret
  exact ⟨rfl, hHeld.below⟩
theorem crcBurst_walk (l : List UInt8) (a : Int) (v : BitVec 32) (w : World) :
    Calls Try.prog 6 #[.string ⟨l.toArray⟩, .int .i64 a, .int .u32 (v.toNat : Int)] w fun e w' => e = .returned (.bool true) ∧ Below w.heap.size w w' := by
  by_cases h : l.length ≤ 5000
  · by_cases k : 4 ≤ l.length
    · by_cases m : 0 ≤ a
      · by_cases o : a ≤ 8 * (l.length : Int) - 32
        · by_cases q : (v.toNat : Int) = 0
          · exact crcBurst_far4 l a v w h k m o q
          · obtain ⟨p, rfl⟩ := Int.eq_ofNat_of_zero_le m
            exact crcBurst_near l p v w h k (by omega) (fun e => q (by rw [e]; rfl))
        · exact crcBurst_far3 l a v w h k m (by omega)
      · exact crcBurst_far2 l a v w h k (by omega)
    · exact crcBurst_far1 l a v w h (by omega)
  · exact crcBurst_far0 l a v w (by omega)

namespace CrcBurst
set_option maxRecDepth 100000 in
theorem lifted (os : Os) (started : os.Started) (H : Type) (enc : TypeId × Value → H) :
    ReturnsInHanded {} Try.checked os 6 .any (Rows.crcBurstSpec.pre6 enc Try.prog Try.f6 Rows.crcBurstRow.domain false) (Rows.crcBurstSpec.post enc Try.prog Try.f6 false true false false) := by
  refine law_sized (C := Try.checked) (tb := 4) ownP started (by kernel_rfl) Try.func6
    (ChangeSpec.witness6 (enc := enc) (C := Try.checked) false ⟨#[], #[.string ⟨#[]⟩, .int .i64 0, .int .u32 0], []⟩ 8 (by kernel_rfl) (by kernel_rfl) (by kernel_rfl) (by kernel_rfl))
    laidP (by kernel_rfl) rfl (by kernel_rfl) Try.underlying4 (by intro ds h; match ds, h with | [_, _, _], _ => rfl) ?_
  intro W base args ds p hval0 hA0 hlt _
  have hval : ∀ (j : Nat) t v, Try.f6.params[j]? = some t → args[j]? = some v → Value.okWide Try.prog W .any base t v := hval0
  have hA : DataW.TrodAll enc Try.prog W 0 (fun _ => true) true Try.f6.params.toList args.toList ds p := hA0
  rw [Try.params6] at hA hval
  obtain ⟨v0, v1, v2, d0, d1, d2, p0, p1, p2, rfl, rfl, rfl, h0, h1, h2⟩ := trodAll_three hA
  obtain ⟨l, rfl, rfl⟩ := open_bytes Try.underlying9 (hval 0 9 v0 rfl rfl) h0
  obtain ⟨a, rfl, rfl, rfl, wa⟩ := open_int Try.underlying3 (hval 1 3 v1 rfl rfl) h1
  obtain ⟨v0, rfl, rfl, rfl, wv0⟩ := open_int Try.underlying22 (hval 2 22 v2 rfl rfl) h2
  obtain ⟨v, rfl⟩ := u32_bv wv0
  exact crcBurst_walk l a v W

theorem holds : Rows.CrcBurstSaid :=
  OpenClaim.holds_of_wide 6 Try.f6 rfl rfl rfl rfl rfl rfl rfl ⟨rfl, rfl, rfl, rfl, rfl⟩ rfl rfl rfl rfl rfl (by kernel_rfl) Try.func6 (by kernel_rfl)
    (of_decide_eq_true (by kernel_rfl)) (by unfold Func.isWrapper; first | (rw [if_pos (by decide +kernel)]; kernel_rfl) | (rw [if_neg (by decide +kernel)]; exact ⟨rfl, rfl⟩))
    (fun os started H enc _ => lifted os started H enc)
end CrcBurst
end Go.Proofs.Ytajhenjjhbecoaa
