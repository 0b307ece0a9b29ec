/-
  A code that no call made has no words; the layer's probe holds (CanonNobody). No condition.
-/
import Derived.Test.YtlnlahnglkeaiaaCanAw
import Derived.Test.YtlnlahnglkeaiaaFrame
import Derived.Deep.RegionHeld3
namespace Go.Proofs.Ytlnlahnglkeaiaa
set_option linter.unusedSimpArgs false
set_option linter.unusedVariables false
open Go.ChangeShapes Go.WideShapes Go.ChangeAt Go.RowKit Go.Joins Go.Deep

/-- The two codes that no call made, in their row. -/
theorem cnob_row (w : World) : Below w.heap.size w ((w.alloc (.cells #[.bool false, .slice none 0 0, .int .i64 0, .int .i64 0, .int .i64 0, .int .i64 0, .int .i64 0, .int .i64 0, .int .i64 0, .int .i64 0, .int .i64 0, .int .i64 0, .int .i64 0, .int .i64 0, .int .i64 0, .int .i64 0, .int .i64 0, .int .i64 0, .slice none 0 0, .slice none 0 0, .slice none 0 0, .slice none 0 0, .slice none 0 0, .slice none 0 0, .slice none 0 0, .slice none 0 0, .slice none 0 0, .slice none 0 0, .slice none 0 0, .slice none 0 0, .slice none 0 0, .slice none 0 0, .slice none 0 0, .slice none 0 0, .int .i64 0] 45)).alloc (.cells #[.pointer none, .pointer (some ⟨w.heap.size, 0, none⟩)] 41)) ∧ ∀ wr, Below ((w.alloc (.cells #[.bool false, .slice none 0 0, .int .i64 0, .int .i64 0, .int .i64 0, .int .i64 0, .int .i64 0, .int .i64 0, .int .i64 0, .int .i64 0, .int .i64 0, .int .i64 0, .int .i64 0, .int .i64 0, .int .i64 0, .int .i64 0, .int .i64 0, .int .i64 0, .slice none 0 0, .slice none 0 0, .slice none 0 0, .slice none 0 0, .slice none 0 0, .slice none 0 0, .slice none 0 0, .slice none 0 0, .slice none 0 0, .slice none 0 0, .slice none 0 0, .slice none 0 0, .slice none 0 0, .slice none 0 0, .slice none 0 0, .slice none 0 0, .int .i64 0] 45)).alloc (.cells #[.pointer none, .pointer (some ⟨w.heap.size, 0, none⟩)] 41)).heap.size ((w.alloc (.cells #[.bool false, .slice none 0 0, .int .i64 0, .int .i64 0, .int .i64 0, .int .i64 0, .int .i64 0, .int .i64 0, .int .i64 0, .int .i64 0, .int .i64 0, .int .i64 0, .int .i64 0, .int .i64 0, .int .i64 0, .int .i64 0, .int .i64 0, .int .i64 0, .slice none 0 0, .slice none 0 0, .slice none 0 0, .slice none 0 0, .slice none 0 0, .slice none 0 0, .slice none 0 0, .slice none 0 0, .slice none 0 0, .slice none 0 0, .slice none 0 0, .slice none 0 0, .slice none 0 0, .slice none 0 0, .slice none 0 0, .slice none 0 0, .int .i64 0] 45)).alloc (.cells #[.pointer none, .pointer (some ⟨w.heap.size, 0, none⟩)] 41)) wr → ∀ k, k < 2 → ∃ v, wr.cell? ⟨w.heap.size + 1, k, none⟩ = some v ∧ w.heap.size + 1 < wr.heap.size ∧ CNone wr v := by
  have h1 := (Blk.new w 45 #[.bool false, .slice none 0 0, .int .i64 0, .int .i64 0, .int .i64 0, .int .i64 0, .int .i64 0, .int .i64 0, .int .i64 0, .int .i64 0, .int .i64 0, .int .i64 0, .int .i64 0, .int .i64 0, .int .i64 0, .int .i64 0, .int .i64 0, .int .i64 0, .slice none 0 0, .slice none 0 0, .slice none 0 0, .slice none 0 0, .slice none 0 0, .slice none 0 0, .slice none 0 0, .slice none 0 0, .slice none 0 0, .slice none 0 0, .slice none 0 0, .slice none 0 0, .slice none 0 0, .slice none 0 0, .slice none 0 0, .slice none 0 0, .int .i64 0]).alloc (.cells #[.pointer none, .pointer (some ⟨w.heap.size, 0, none⟩)] 41)
  have h2 := Blk.new (w.alloc (.cells #[.bool false, .slice none 0 0, .int .i64 0, .int .i64 0, .int .i64 0, .int .i64 0, .int .i64 0, .int .i64 0, .int .i64 0, .int .i64 0, .int .i64 0, .int .i64 0, .int .i64 0, .int .i64 0, .int .i64 0, .int .i64 0, .int .i64 0, .int .i64 0, .slice none 0 0, .slice none 0 0, .slice none 0 0, .slice none 0 0, .slice none 0 0, .slice none 0 0, .slice none 0 0, .slice none 0 0, .slice none 0 0, .slice none 0 0, .slice none 0 0, .slice none 0 0, .slice none 0 0, .slice none 0 0, .slice none 0 0, .slice none 0 0, .int .i64 0] 45)) 41 #[.pointer none, .pointer (some ⟨w.heap.size, 0, none⟩)]
  rw [World.size_alloc] at h2
  refine ⟨by go_grown, fun wr hw k hk => ?_⟩
  have h3 := h1.below hw h1.lt
  have h4 := h2.below hw h2.lt
  rcases (show k = 0 ∨ k = 1 by omega) with rfl | rfl
  · exact ⟨_, h4.cell 0, h4.lt, c_none_nil wr⟩
  · exact ⟨_, h4.cell 1, h4.lt, c_none_plain wr w.heap.size (h3.cell 0)⟩
/-- What the region holds. -/
def NHeld (wr w' : World) (g k : Nat) (v : Value) : Prop := w'.cell? ⟨g, k, none⟩ = some v ∧ Below wr.heap.size wr w'
section
variable {wr w' w2 : World} {g k : Nat} {v : Value}
theorem NHeld.on (h : NHeld wr w' g k v) (hb : Below w'.heap.size w' w2) : w2.cell? ⟨g, k, none⟩ = some v ∧ NHeld wr w2 g k v := by
  have h1 := (hb.cell (p := ⟨g, k, none⟩) (cell_lt h.1)).trans h.1
  exact ⟨h1, h1, h.2.trans (hb.mono h.2.size)⟩
theorem NHeld.start (h : wr.cell? ⟨g, k, none⟩ = some v) : NHeld wr wr g k v := ⟨h, Below.refl _ _⟩
theorem NHeld.alloc (h : w'.cell? ⟨g, k, none⟩ = some v ∧ NHeld wr w' g k v) (o : Obj) : (w'.alloc o).cell? ⟨g, k, none⟩ = some v ∧ NHeld wr (w'.alloc o) g k v := h.2.on ((Below.refl _ _).alloc (Nat.le_refl _) o)
theorem NHeld.held (h : w'.cell? ⟨g, k, none⟩ = some v ∧ NHeld wr w' g k v) : NHeld wr w' g k v := h.2
theorem NHeld.drew (h : NHeld wr w' g k v) : w'.drew.cell? ⟨g, k, none⟩ = some v ∧ NHeld wr w'.drew g k v := h.on (Below.refl _ _).drew
end
set_option maxRecDepth 100000 in
set_option maxHeartbeats 4000000 in
theorem canonNobody_walk (sy : Int) (s : List UInt8) (w : World) :
    Calls Try.prog 5 #[.int .i64 sy, .string ⟨s.toArray⟩] w fun e w' => e = .returned (.bool true) ∧ Below w.heap.size w w' := by
  obtain ⟨h1, h2⟩ := cnob_row w
  have HB0 := Lib.hid h1
  have HR := Lib.hid h2
  clear h1 h2
  go_enter Try.func5, Try.ntmps5
  go_wp2
  generalize ((w.alloc (.cells #[.bool false, .slice none 0 0, .int .i64 0, .int .i64 0, .int .i64 0, .int .i64 0, .int .i64 0, .int .i64 0, .int .i64 0, .int .i64 0, .int .i64 0, .int .i64 0, .int .i64 0, .int .i64 0, .int .i64 0, .int .i64 0, .int .i64 0, .int .i64 0, .slice none 0 0, .slice none 0 0, .slice none 0 0, .slice none 0 0, .slice none 0 0, .slice none 0 0, .slice none 0 0, .slice none 0 0, .slice none 0 0, .slice none 0 0, .slice none 0 0, .slice none 0 0, .slice none 0 0, .slice none 0 0, .slice none 0 0, .slice none 0 0, .int .i64 0] 45)).alloc (.cells #[.pointer none, .pointer (some ⟨w.heap.size, 0, none⟩)] 41)) = wz at *
  go_loopw [7, 8, 9, 10, 11] (fun ix bx ex yx fx wr => ∃ k : Nat, k ≤ 2 ∧ ix = .int .i64 k ∧ Hid (Below wz.heap.size wz wr)) (fun ix _ _ _ _ _ => 2 - (intOf ix).toNat)
  case atStart => exact ⟨0, by omega, rfl, Below.refl _ _⟩
  case round =>
    obtain ⟨k, hk, rfl, Hb⟩ := hrel
    by_cases hlt : k < 2
    · have hki : (0 : Int) ≤ (k : Int) ∧ (k : Int) < 2 := by omega
      obtain ⟨v, x1, x2, hn⟩ := HR.out wr Hb.out k hlt
      have HN : Hid (CNone wr v) := hn
      have Hw := Lib.hid (c_word_nil v sy wr hn)
      unfold wordV at Hw
      have Hget : Hid (∀ p W, NHeld wr W (w.heap.size + 1) k v → Calls Try.prog 19 #[v, .pointer p] W fun e w' => e = .returned (.tuple #[.int .i64 0, .int .i64 1]) ∧ W = w') := Lib.hid fun p W h => c_get_nil v p W (HN.out.below h.2)
      have Hput : Hid (∀ p W, NHeld wr W (w.heap.size + 1) k v → Calls Try.prog 21 #[v, .pointer p, .int .i64 sy] W fun e w' => e = .returned (.int .i64 1) ∧ Below W.heap.size W w') := Lib.hid fun p W h => c_put_nil v p sy W (HN.out.below h.2)
      have HX : Hid (NHeld wr wr (w.heap.size + 1) k v) := Lib.hid (NHeld.start x1)
      clear hn
      go_wp2_with (go_at_call 18; refine Hw.out.mono ?_; rintro e w1 ⟨rfl, hb1⟩; obtain ⟨y1, hh1⟩ := HX.out.on hb1; have HX1 := Lib.hid hh1; clear hh1 hb1)
      have HX2 : Hid (NHeld wr (w1.alloc (.cells #[.int .i64 0, .int .i64 0] 48)) (w.heap.size + 1) k v) := Lib.hid (NHeld.alloc ⟨y1, HX1.out⟩ _).2
      go_region_held3 (fun w' => w'.cell? ⟨w.heap.size + 1, k, none⟩ = some v ∧ NHeld wr w' (w.heap.size + 1) k v)
        (first | exact NHeld.drew HX2.out | exact NHeld.alloc (by assumption) _ | assumption)
        (first
          | (go_at_call 20; refine (newreader_any _ _).mono ?_; rintro e w3 ⟨rfl, rfl⟩)
          | (go_at_call 19; refine (Hget.out _ _ (NHeld.held (by assumption))).mono ?_; rintro e w4 ⟨rfl, rfl⟩))
      rename_i hS
      obtain ⟨z1, z2⟩ := hS
      have z3 := cell_lt z1
      have HX3 := Lib.hid z2
      clear z2 y1 HX1 HX2 Hw Hget HX
      generalize ((w1.alloc (.cells #[.int .i64 0, .int .i64 0] 48)).alloc (.cells #[.string ⟨s.toArray⟩, .int .i64 0] 79)).drew = X at *
      go_wp2_with (go_at_call 21; refine (Hput.out _ _ (NHeld.alloc ⟨z1, HX3.out⟩ _).2).mono ?_; rintro e w6 ⟨rfl, hb6⟩; have Hb6 := Lib.hid (qback hb6); clear hb6)
      go_roundw
      case rel => exact ⟨k + 1, by omega, iv (by omega), Lib.hid (Hb.out.trans ((HX3.out.2.trans (Hb6.out.mono HX3.out.2.size)).mono Hb.out.size))⟩
      case measure => simp only [intOf]; omega
    · obtain rfl : k = 2 := by omega
      have hki : ¬ ((2 : Nat) : Int) < 2 := by omega
      have Hbb : Hid (Below w.heap.size w wr) := Lib.hid (HB0.out.trans (Hb.out.mono HB0.out.size))
      go_wp2_with (go_at_call 9; refine (awake9_any _).mono ?_; rintro e w9 ⟨rfl, hb9⟩)
      go_ret
      exact ⟨rfl, Hbb.out.trans (hb9.mono Hbb.out.size)⟩

namespace CanonNobody
set_option maxRecDepth 100000 in
theorem lifted (os : Os) (started : os.Started) (H : Type) (enc : TypeId × Value → H) :
    ReturnsInHanded {} Try.checked os 5 .any (Rows.canonNobodySpec.pre6 enc Try.prog Try.f5 Rows.canonNobodyRow.domain false) (Rows.canonNobodySpec.post enc Try.prog Try.f5 false true false false) := by
  refine law_sized (C := Try.checked) (tb := 4) ownP started (by kernel_rfl) Try.func5
    (ChangeSpec.witness6 (enc := enc) (C := Try.checked) false ⟨#[], #[.int .i64 0, .string ⟨#[]⟩], []⟩ 8 (by kernel_rfl) (by kernel_rfl) (by kernel_rfl) (by kernel_rfl))
    laidP (by kernel_rfl) rfl (by kernel_rfl) Try.underlying4 (by intro ds h; match ds, h with | [_, _], _ => rfl) ?_
  intro W base args ds p hval0 hA0 hlt _
  have hval : ∀ (j : Nat) t v, Try.f5.params[j]? = some t → args[j]? = some v → Value.okWide Try.prog W .any base t v := hval0
  have hA : DataW.TrodAll enc Try.prog W 0 (fun _ => true) true Try.f5.params.toList args.toList ds p := hA0
  rw [Try.params5] at hA hval
  obtain ⟨v0, v1, d0, d1, p0, p1, rfl, rfl, rfl, h0, h1⟩ := trodAll_two hA
  obtain ⟨m, rfl, rfl, rfl, wm⟩ := open_int Try.underlying3 (hval 0 3 v0 rfl rfl) h0
  obtain ⟨s, rfl, rfl⟩ := open_bytes Try.underlying9 (hval 1 9 v1 rfl rfl) h1
  exact canonNobody_walk m s W

theorem holds : Rows.CanonNobodySaid :=
  OpenClaim.holds_of_wide 5 Try.f5 rfl rfl rfl rfl rfl rfl rfl ⟨rfl, rfl, rfl, rfl, rfl⟩ rfl rfl rfl rfl rfl (by kernel_rfl) Try.func5 (by kernel_rfl)
    (of_decide_eq_true (by kernel_rfl)) (by unfold Func.isWrapper; first | (rw [if_pos (by decide +kernel)]; kernel_rfl) | (rw [if_neg (by decide +kernel)]; exact ⟨rfl, rfl⟩))
    (fun os started H enc _ => lifted os started H enc)
end CanonNobody
end Go.Proofs.Ytlnlahnglkeaiaa
