/-
  What is taken is what is put: as many bits, and the same; a reader that tells an error stays; the layer's probe holds (TabForms). No condition.
-/
import Derived.Test.YtckekhghcelcpaaTabAw
import Derived.Test.YtckekhghcelcpaaFrame
import Derived.Deep.RegionHeld3
namespace Go.Proofs.Ytckekhghcelcpaa
set_option linter.unusedSimpArgs false
set_option linter.unusedVariables false
open Go.ChangeShapes Go.WideShapes Go.ChangeAt Go.RowKit Go.Joins Go.Deep
set_option maxHeartbeats 2000000 in
/-- Beyond the sizes that the statement looks at: the probe alone. -/
theorem tabForms_far (s : List UInt8) (N : Int) (w : World) (h : 1000 < s.length) :
    Calls Try.prog 5 #[.string ⟨s.toArray⟩, .int .i64 N] w fun e w' => e = .returned (.bool true) ∧ Below w.heap.size w w' := by
  have h1 : (1000 : Int) < s.length := by omega
  go_enter Try.func5, Try.ntmps5
  go_wp2_with (go_at_call 6; refine (awake10_any _).mono ?_; rintro e w9 ⟨rfl, hb9⟩)
  go_ret
  exact ⟨rfl, hb9⟩

theorem tkeep {w w' w9 : World} (h : Below w.heap.size w w') (hb : Below w'.heap.size w' w9) : Below w.heap.size w w9 := h.trans (hb.mono h.size)
theorem tstr_head (l : List UInt8) (p : Nat) (hp : p ≤ l.length) (w : World) :
    (Instr.slice 9 (.string ⟨l.toArray⟩) none (some (.int .i64 (p : Int))) none).run Try.prog w = .ok (.string ⟨(l.take p).toArray⟩) w := by
  rw [run_slice_string_h w 9 ⟨l.toArray⟩ Try.underlying9 .i64 (p : Int) (by omega) (by rw [ByteArray.size_mk', List.size_toArray]; omega), ByteArray.extract_mk, List.drop_zero, Nat.sub_zero, Int.toNat_natCast]
theorem tget_bad (L : List Nat) (p : Nat) (N : Int) (h : (tgetF L p N).2.2 ≠ 0) : (tgetF L p N).1 = [] ∧ (tgetF L p N).2.1 = p := by
  unfold tgetF at h ⊢
  by_cases h1 : N < 0 ∨ 257 < N
  · rw [if_pos h1]; exact ⟨rfl, rfl⟩
  rw [if_neg h1] at h ⊢
  by_cases h2 : (tget1 L N.toNat (N.toNat + 1) p (-1) []).2.2 ≠ 0
  · rw [if_pos h2]; exact ⟨rfl, rfl⟩
  rw [if_neg h2] at h ⊢
  by_cases h3 : checkF (tget1 L N.toNat (N.toNat + 1) p (-1) []).1 ≠ 0
  · rw [if_pos h3]; exact ⟨rfl, rfl⟩
  rw [if_neg h3] at h
  exact absurd rfl h
/-- The reader's Get, from its beginning. -/
theorem tget_new (s : List UInt8) (N : Int) (F : List Int × Nat × Int) (hF : tgetF (rowOf s) 0 N = F) (w : World) (hs : s.length ≤ 1000) :
    Calls Try.prog 17 #[.pointer (some ⟨w.heap.size, 0, none⟩), .int .i64 N] (w.alloc (.cells #[.string ⟨s.toArray⟩, .int .i64 0] 59)) fun e w' => ∃ A' c', e = .returned (.tuple #[.slice A' F.1.length c', .int .i64 F.2.2]) ∧ F.1.length ≤ c' ∧ Reads w' w'.heap.size 1 A' F.1.length (ints F.1) ∧ RHold w' w.heap.size s F.2.1 ∧ Below w.heap.size w w' := by
  subst hF
  have hb : Below w.heap.size w (w.alloc (.cells #[.string ⟨s.toArray⟩, .int .i64 0] 59)) := (Below.refl _ _).alloc (Nat.le_refl _) _
  refine (p_tget_any s 0 w.heap.size N _ (by omega) (by omega) (Blk.new w _ _)).mono ?_
  rintro e w' ⟨A', c', rfl, hnc, hr, hR, ht⟩
  exact ⟨A', c', rfl, hnc, hr, hR, hb.trans (ht.below (fun k _ e => by omega) hb.size)⟩
set_option maxRecDepth 100000 in
set_option maxHeartbeats 4000000 in
theorem tabForms_none (s : List UInt8) (N : Int) (w : World) (h : s.length ≤ 1000) (he : (tgetF (rowOf s) 0 N).2.2 ≠ 0) :
    Calls Try.prog 5 #[.string ⟨s.toArray⟩, .int .i64 N] w fun e w' => e = .returned (.bool true) ∧ Below w.heap.size w w' := by
  have h1 : ¬ (1000 : Int) < s.length := by omega
  obtain ⟨g1, g2⟩ := tget_bad _ _ _ he
  obtain ⟨E, hE⟩ : ∃ E, (tgetF (rowOf s) 0 N).2.2 = E := ⟨_, rfl⟩
  have hF : tgetF (rowOf s) 0 N = ([], 0, E) := Prod.ext g1 (Prod.ext g2 hE)
  have hg := tget_new s N _ hF w h
  dsimp only at hg
  have Hg : Hid (Calls Try.prog 17 #[.pointer (some ⟨w.heap.size, 0, none⟩), .int .i64 N] (w.alloc (.cells #[.string ⟨s.toArray⟩, .int .i64 0] 59)) fun e w' => ∃ A' c', e = .returned (.tuple #[.slice A' 0 c', .int .i64 E]) ∧ RHold w' w.heap.size s 0 ∧ Below w.heap.size w w') := Lib.hid (hg.mono fun e w' ⟨A', c', h1, _, _, h3, h4⟩ => ⟨A', c', h1, h3, h4⟩)
  have hl := fun W hR => bleft_any s 0 w.heap.size W (by omega) (by omega) hR
  rw [show ((8 * s.length - 0 : Nat) : Int) = 8 * (s.length : Int) from by omega] at hl
  have Hl := Lib.hid hl
  have hE0 : E ≠ 0 := by rw [← hE]; exact he
  have hb1 : (E == 0) = false := by simpa using hE0
  have hb2 : (E != 0) = true := by simpa using hE0
  have hb3 : (8 * (s.length : Int) == 8 * (s.length : Int)) = true := by simp
  have hsl : (s.length : Int) ≤ 1000 := by omega
  clear g1 g2 hE hF hg hl he h
  go_enter Try.func5, Try.ntmps5
  go_wp2_with (first
    | (go_at_call 16; refine (newreader_any _ _).mono ?_; rintro e w1 ⟨rfl, rfl⟩)
    | (go_at_call 17; refine Hg.out.mono ?_; rintro e w2 ⟨A2, c2, rfl, hR2, hb2⟩; have HR2 := Lib.hid hR2; have Hb := Lib.hid hb2; clear hR2 hb2)
    | (go_at_call 18; refine (Hl.out _ HR2.out).mono ?_; rintro e w3 ⟨rfl, kd, rfl⟩; replace Hb := Lib.hid (below_drewN Hb.out kd))
    | (go_at_call 6; refine (awake10_any _).mono ?_; rintro e w9 ⟨rfl, hb9⟩; replace Hb := Lib.hid (Hb.out.trans (hb9.mono Hb.out.size)); clear hb9))
  go_ret
  exact ⟨rfl, Hb.out⟩
set_option maxRecDepth 100000 in
set_option maxHeartbeats 4000000 in
theorem tabForms_near (s : List UInt8) (N : Int) (w : World) (h : s.length ≤ 1000) (he : (tgetF (rowOf s) 0 N).2.2 = 0) :
    Calls Try.prog 5 #[.string ⟨s.toArray⟩, .int .i64 N] w fun e w' => e = .returned (.bool true) ∧ Below w.heap.size w w' := by
  have h1 : ¬ (1000 : Int) < s.length := by omega
  obtain ⟨l, m, g1, g2, g3, g4, g5, g6, g7, g8⟩ := tforms he
  have hll := (tcheck_ok g4).1
  have hg := tget_new s N _ g1 w h
  dsimp only at hg
  have Hg := Lib.hid hg
  have hl := fun W hR => bleft_any s m w.heap.size W (by omega) g2 hR
  rw [show ((8 * s.length - m : Nat) : Int) = 8 * (s.length : Int) - (m : Int) from by omega] at hl
  have Hl := Lib.hid hl
  have hp := fun W A c (hnc : l.length ≤ c) hr => p_tpack_any l A l.length c W (by omega) hr
  rw [show tpackF l = (text (tbits l), 0) from if_pos g4] at hp
  dsimp only at hp
  have Hp := Lib.hid hp
  have hz := fun W A c (hnc : l.length ≤ c) hr => p_tsize_any l A l.length c W (by omega) hr
  rw [show tsizeF l = m from (if_pos g4).trans g5] at hz
  have Hz := Lib.hid hz
  generalize text (tbits l) = X at *
  subst g3
  have hb1 : ((l.length : Int) == (l.length : Int)) = true := by simp
  have hb2 : ((m : Int) == (m : Int)) = true := by simp
  have hb3 : ((X.length : Int) == (X.length : Int)) = true := by simp
  have hsub : 8 * (s.length : Int) - (8 * (s.length : Int) - (m : Int)) = (m : Int) := by omega
  have hm7 : ((m : Int) + 7) / 8 = (X.length : Int) := by omega
  have hmi : (0 : Int) ≤ (m : Int) ∧ (m : Int) ≤ 8 * (s.length : Int) ∧ (s.length : Int) ≤ 1000 := by omega
  have hx : ¬ (s.length : Int) < (X.length : Int) := by omega
  have t1 := fun w => tstr_head X (m / 8) (by omega) w
  have t2 := fun w => tstr_head s (m / 8) (by omega) w
  rw [g8] at t1
  obtain ⟨p, hpe⟩ : ∃ p, m / 8 = p := ⟨_, rfl⟩
  rw [hpe] at t1 t2
  have hmd : (m : Int) / 8 = (p : Int) := by omega
  have hmw : IntKind.i64.wrap ((m : Int) / 8) = (p : Int) := by rw [IntKind.wrap_i64]; omega
  have hmw2 : IntKind.i64.wrap (p : Int) = (p : Int) := by rw [IntKind.wrap_i64]; omega
  have hpb : (0 : Int) ≤ (p : Int) ∧ (p : Int) ≤ (s.length : Int) ∧ (p : Int) ≤ (X.length : Int) := by omega
  clear g1 g2 g4 g5 g6 g7 g8 hg hl hp hz he h hpe
  go_enter Try.func5, Try.ntmps5
  go_wp2_with (first
    | (go_at_call 16; refine (newreader_any _ _).mono ?_; rintro e w1 ⟨rfl, rfl⟩)
    | (go_at_call 17; refine Hg.out.mono ?_; rintro e w2 ⟨A2, c2, rfl, hnc2, hr2, hR2, hb2⟩; have Hnc := Lib.hid hnc2; have HR2 := Lib.hid hR2; have Hr2 := Lib.hid hr2; have Hb := Lib.hid hb2; clear hR2 hb2 hr2 hnc2)
    | (go_at_call 18; refine (Hl.out _ HR2.out).mono ?_; rintro e w3 ⟨rfl, kd, rfl⟩; replace Hb := Lib.hid (below_drewN Hb.out kd); replace Hr2 := Lib.hid (Hr2.out.drewN kd))
    | (go_at_call 7; refine (Hp.out _ _ _ Hnc.out Hr2.out).mono ?_; rintro e w4 ⟨rfl, hb4⟩; replace Hr2 := Lib.hid (Hr2.out.on hb4); replace Hb := Lib.hid (Hb.out.trans (hb4.mono Hb.out.size)); clear hb4)
    | (go_at_call 9; refine (Hz.out _ _ _ Hnc.out Hr2.out).mono ?_; rintro e w5 ⟨rfl, hb5⟩; replace Hb := Lib.hid (Hb.out.trans (hb5.mono Hb.out.size)); clear hb5))
  go_region_held3 (fun w' => Below w.heap.size w w')
    (first | exact Hb.out.drew | exact tkeep (by assumption) hb9)
    (first | (go_at_call 6; (with_reducible refine (awake10_any _).mono ?_); rintro e w9 ⟨rfl, hb9⟩))
  rename_i hS
  go_wp2
  go_ret
  exact ⟨rfl, hS⟩
theorem tabForms_walk (s : List UInt8) (N : Int) (w : World) :
    Calls Try.prog 5 #[.string ⟨s.toArray⟩, .int .i64 N] w fun e w' => e = .returned (.bool true) ∧ Below w.heap.size w w' := by
  by_cases h : s.length ≤ 1000
  · by_cases he : (tgetF (rowOf s) 0 N).2.2 = 0
    · exact tabForms_near s N w h he
    · exact tabForms_none s N w h he
  · exact tabForms_far s N w (by omega)

namespace TabForms
set_option maxRecDepth 100000 in
theorem lifted (os : Os) (started : os.Started) (H : Type) (enc : TypeId × Value → H) :
    ReturnsInHanded {} Try.checked os 5 .any (Rows.tabFormsSpec.pre6 enc Try.prog Try.f5 Rows.tabFormsRow.domain false) (Rows.tabFormsSpec.post enc Try.prog Try.f5 false true false false) := by
  refine law_sized (C := Try.checked) (tb := 4) ownP started (by kernel_rfl) Try.func5
    (ChangeSpec.witness6 (enc := enc) (C := Try.checked) false ⟨#[], #[.string ⟨#[]⟩, .int .i64 0], []⟩ 8 (by kernel_rfl) (by kernel_rfl) (by kernel_rfl) (by kernel_rfl))
    laidP (by kernel_rfl) rfl (by kernel_rfl) Try.underlying4 (by intro ds h; match ds, h with | [_, _], _ => rfl) ?_
  intro W base args ds p hval0 hA0 hlt _
  have hval : ∀ (j : Nat) t v, Try.f5.params[j]? = some t → args[j]? = some v → Value.okWide Try.prog W .any base t v := hval0
  have hA : DataW.TrodAll enc Try.prog W 0 (fun _ => true) true Try.f5.params.toList args.toList ds p := hA0
  rw [Try.params5] at hA hval
  obtain ⟨v0, v1, d0, d1, p0, p1, rfl, rfl, rfl, h0, h1⟩ := trodAll_two hA
  obtain ⟨s, rfl, rfl⟩ := open_bytes Try.underlying9 (hval 0 9 v0 rfl rfl) h0
  obtain ⟨m, rfl, rfl, rfl, wm⟩ := open_int Try.underlying3 (hval 1 3 v1 rfl rfl) h1
  exact tabForms_walk s m W

theorem holds : Rows.TabFormsSaid :=
  OpenClaim.holds_of_wide 5 Try.f5 rfl rfl rfl rfl rfl rfl rfl ⟨rfl, rfl, rfl, rfl, rfl⟩ rfl rfl rfl rfl rfl (by kernel_rfl) Try.func5 (by kernel_rfl)
    (of_decide_eq_true (by kernel_rfl)) (by unfold Func.isWrapper; first | (rw [if_pos (by decide +kernel)]; kernel_rfl) | (rw [if_neg (by decide +kernel)]; exact ⟨rfl, rfl⟩))
    (fun os started H enc _ => lifted os started H enc)
end TabForms
end Go.Proofs.Ytckekhghcelcpaa
