/-
  At any place of any bytes the document's frame stands, or none; from there on its frames, up to its place; the layer's probe holds (FrameGets). No condition.
-/
import Derived.Test.YtodllghfcdbbpaaFrmAw
import Derived.Test.YtodllghfcdbbpaaFrame
namespace Go.Proofs.Ytodllghfcdbbpaa
set_option linter.unusedSimpArgs false
set_option linter.unusedVariables false
open Go.ChangeShapes Go.WideShapes Go.ChangeAt Go.RowKit Go.Joins Go.Deep
set_option maxHeartbeats 2000000 in
theorem frameGets_far0 (s : List UInt8) (p : Int) (w : World) (h : 20000 < s.length) :
    Calls Try.prog 4 #[.string ⟨s.toArray⟩, .int .i64 p] w fun e w' => e = .returned (.bool true) ∧ Below w.heap.size w w' := by
  have h1 : (20000 : Int) < s.length := by omega
  go_enter Try.func4, Try.ntmps4
  go_wp2_with (go_at_call 8; refine (awake16_any _).mono ?_; rintro e w9 ⟨rfl, hb9⟩)
  go_ret
  exact ⟨rfl, hb9⟩
theorem fscan_count (s : List UInt8) (p : Int) : (fscanF s p).1.length ≤ s.length := by
  unfold fscanF
  by_cases h : 0 ≤ p ∧ p ≤ s.length
  · rw [if_pos h]
    have := (fsc_is s (s.length + 1) p.toNat (by omega)).bounds
    have h2 := this.2.1 (by omega)
    dsimp only
    omega
  · rw [if_neg h]
    exact Nat.zero_le _
set_option maxRecDepth 100000 in
set_option maxHeartbeats 8000000 in
theorem frameGets_near (s : List UInt8) (p : Int) (w : World) (h : s.length ≤ 20000) :
    Calls Try.prog 4 #[.string ⟨s.toArray⟩, .int .i64 p] w fun e w' => e = .returned (.bool true) ∧ Below w.heap.size w w' := by
  have h1 : ¬ (20000 : Int) < s.length := by omega
  have P1 := fun W => p_fget_any s p W (by omega)
  have P2 := fun W => fref_get_any s p W (by omega)
  have S1 := fun W => p_fscan_any s p W (by omega)
  have S2 := fun W => fref_scan_any s p W (by omega)
  have hcn := fscan_count s p
  unfold FGPost at P1 P2
  unfold FSPost at S1 S2
  have hs := fun A1 A2 c1 c2 W h1 h2 => fref_same_any (fscanF s p).1 (fscanF s p).1 A1 A2 (fscanF s p).1.length (fscanF s p).1.length c1 c2 W rfl rfl (by omega) (by omega) h1 h2
  have e9 : decide ((fscanF s p).1 = (fscanF s p).1) = true := decide_eq_true rfl
  simp only [e9] at hs
  replace P1 := Lib.hid P1
  replace P2 := Lib.hid P2
  replace S1 := Lib.hid S1
  replace S2 := Lib.hid S2
  replace hs := Lib.hid hs
  clear e9 hcn h
  generalize (fscanF s p).1.length = m at *
  generalize fcs (fscanF s p).1 = Q at *
  generalize (fscanF s p).2 = t at *
  generalize fgetF s p = Y at *
  obtain ⟨⟨k, b, a, o⟩, E⟩ := Y
  dsimp only at P1 P2
  have heq := fun W => frec_same k a o b W
  have hgu := frec_guard
  go_enter Try.func4, Try.ntmps4
  go_wp2_with (first
    | (go_at_call 12; (with_reducible refine (P1.out _).mono ?_); rintro e w1 ⟨rfl, hb1⟩; have Hb := Lib.hid (hb1.alloc hb1.size (.cells #[.int .i64 k, .string ⟨b.toArray⟩, .int .i64 a, .int .i64 o] 31)); have HA1 := Lib.hid (Blk.new w1 31 #[.int .i64 k, .string ⟨b.toArray⟩, .int .i64 a, .int .i64 o]); clear hb1 P1)
    | (go_at_call 13; (with_reducible refine (P2.out _).mono ?_); rintro e w2 ⟨rfl, hb2⟩; have HA2 := Lib.hid ((HA1.out.below hb2 HA1.out.lt).alloc (.cells #[.int .i64 k, .string ⟨b.toArray⟩, .int .i64 a, .int .i64 o] 31)); have HB2 := Lib.hid (Blk.new w2 31 #[.int .i64 k, .string ⟨b.toArray⟩, .int .i64 a, .int .i64 o]); replace Hb := Lib.hid (Hb.out.trans (hb2.mono Hb.out.size)); clear hb2; replace Hb := Lib.hid (Hb.out.alloc Hb.out.size (.cells #[.int .i64 k, .string ⟨b.toArray⟩, .int .i64 a, .int .i64 o] 31)); clear P2)
    | (go_at_call 14; (with_reducible refine (S1.out _).mono ?_); rintro e w3 ⟨A3, c3, rfl, _, hr3, hb3⟩; have HA3 := Lib.hid (HA2.out.below hb3 HA2.out.lt); have HB3 := Lib.hid (HB2.out.below hb3 HB2.out.lt); replace Hb := Lib.hid (Hb.out.trans (hb3.mono Hb.out.size)); clear hb3; have Hr3 := Lib.hid hr3; clear hr3 S1)
    | (go_at_call 15; (with_reducible refine (S2.out _).mono ?_); rintro e w4 ⟨A4, c4, rfl, _, hr4, hb4⟩; have HA4 := Lib.hid (HA3.out.below hb4 HA3.out.lt); have HB4 := Lib.hid (HB3.out.below hb4 HB3.out.lt); replace Hr3 := Lib.hid (Hr3.out.on16 hb4); replace Hb := Lib.hid (Hb.out.trans (hb4.mono Hb.out.size)); clear hb4; have Hr4 := Lib.hid hr4; have x0 : w4.cell? ⟨w1.heap.size, 0, none⟩ = some (.int .i64 k) := HA4.out.cell 0; have x1 : w4.cell? ⟨w1.heap.size, 1, none⟩ = some (.string ⟨b.toArray⟩) := HA4.out.cell 1; have x2 : w4.cell? ⟨w1.heap.size, 2, none⟩ = some (.int .i64 a) := HA4.out.cell 2; have x3 : w4.cell? ⟨w1.heap.size, 3, none⟩ = some (.int .i64 o) := HA4.out.cell 3; have y0 : w4.cell? ⟨w2.heap.size, 0, none⟩ = some (.int .i64 k) := HB4.out.cell 0; have y1 : w4.cell? ⟨w2.heap.size, 1, none⟩ = some (.string ⟨b.toArray⟩) := HB4.out.cell 1; have y2 : w4.cell? ⟨w2.heap.size, 2, none⟩ = some (.int .i64 a) := HB4.out.cell 2; have y3 : w4.cell? ⟨w2.heap.size, 3, none⟩ = some (.int .i64 o) := HB4.out.cell 3; clear hr4 S2)
    | (go_at_call 16; (with_reducible refine (hs.out _ _ _ _ _ Hr3.out Hr4.out).mono ?_); rintro e w5 ⟨rfl, hb5⟩; replace Hb := Lib.hid (Hb.out.trans (hb5.mono Hb.out.size)); clear hb5; clear hs)
    | (go_at_call 8; refine (awake16_any _).mono ?_; rintro e w9 ⟨rfl, hb9⟩; replace Hb := Lib.hid (Hb.out.trans (hb9.mono Hb.out.size)); clear hb9))
  go_ret
  exact ⟨rfl, Hb.out⟩
theorem frameGets_walk (s : List UInt8) (p : Int) (w : World) :
    Calls Try.prog 4 #[.string ⟨s.toArray⟩, .int .i64 p] w fun e w' => e = .returned (.bool true) ∧ Below w.heap.size w w' := by
  by_cases h : s.length ≤ 20000
  · exact frameGets_near s p w h
  · exact frameGets_far0 s p w (by omega)
namespace FrameGets
set_option maxRecDepth 100000 in
theorem lifted (os : Os) (started : os.Started) (H : Type) (enc : TypeId × Value → H) :
    ReturnsInHanded {} Try.checked os 4 .any (Rows.frameGetsSpec.pre6 enc Try.prog Try.f4 Rows.frameGetsRow.domain false) (Rows.frameGetsSpec.post enc Try.prog Try.f4 false true false false) := by
  refine law_sized (C := Try.checked) (tb := 4) ownP started (by kernel_rfl) Try.func4
    (ChangeSpec.witness6 (enc := enc) (C := Try.checked) false ⟨#[], #[.string ⟨#[]⟩, .int .i64 0], []⟩ 8 (by kernel_rfl) (by kernel_rfl) (by kernel_rfl) (by kernel_rfl))
    laidP (by kernel_rfl) rfl (by kernel_rfl) Try.underlying4 (by intro ds h; match ds, h with | [_, _], _ => rfl) ?_
  intro W base args ds p hval0 hA0 hlt _
  have hval : ∀ (j : Nat) t v, Try.f4.params[j]? = some t → args[j]? = some v → Value.okWide Try.prog W .any base t v := hval0
  have hA : DataW.TrodAll enc Try.prog W 0 (fun _ => true) true Try.f4.params.toList args.toList ds p := hA0
  rw [Try.params4] at hA hval
  obtain ⟨v0, v1, d0, d1, p0, p1, rfl, rfl, rfl, h0, h1⟩ := trodAll_two hA
  obtain ⟨s, rfl, rfl⟩ := open_bytes Try.underlying9 (hval 0 9 v0 rfl rfl) h0
  obtain ⟨p, rfl, rfl, rfl, wp⟩ := open_int Try.underlying3 (hval 1 3 v1 rfl rfl) h1
  exact frameGets_walk s p W
theorem holds : Rows.FrameGetsSaid :=
  OpenClaim.holds_of_wide 4 Try.f4 rfl rfl rfl rfl rfl rfl rfl ⟨rfl, rfl, rfl, rfl, rfl⟩ rfl rfl rfl rfl rfl (by kernel_rfl) Try.func4 (by kernel_rfl)
    (of_decide_eq_true (by kernel_rfl)) (by unfold Func.isWrapper; first | (rw [if_pos (by decide +kernel)]; kernel_rfl) | (rw [if_neg (by decide +kernel)]; exact ⟨rfl, rfl⟩))
    (fun os started H enc _ => lifted os started H enc)
end FrameGets
end Go.Proofs.Ytodllghfcdbbpaa
