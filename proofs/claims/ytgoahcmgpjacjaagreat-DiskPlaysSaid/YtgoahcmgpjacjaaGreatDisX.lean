/-
  Layer 20: the contracts of what landed: a disk that New made; no disk.
-/
import Derived.Test.YtgoahcmgpjacjaaGreatDpK
import Derived.Test.YtgoahcmgpjacjaaGreatDisDm
import Derived.Test.YtgoahcmgpjacjaaGreatDisV
namespace Go.Proofs.YtgoahcmgpjacjaaGreat
set_option linter.unusedSimpArgs false
set_option linter.unusedVariables false
open Go.ChangeShapes Go.WideShapes Go.ChangeAt Go.RowKit Go.Joins Go.Deep
theorem AcOk.far {W : World} {B : Nat} {y : Ac} {S : Nat → Prop} (h : AcOk W B y) (hB : ∀ k, S k → B ≤ k) : AcFar S y := by
  refine ⟨fun hn => ?_, fun hn => ?_⟩
  · obtain ⟨b, off, e, hb, _⟩ := h.cuts.2 hn
    exact ⟨b, off, e, fun hs => by have := hB b hs; omega⟩
  · obtain ⟨b, off, e, hb, _⟩ := h.marks.2 hn
    exact ⟨b, off, e, fun hs => by have := hB b hs; omega⟩
theorem AcOk.more {W : World} {B B' : Nat} {y : Ac} (h : AcOk W B y) (hB : B ≤ B') : AcOk W B' y := ⟨h.cuts.more hB, h.marks.more hB, h.k1, h.k2, h.m1, h.m2, h.num, h.dir⟩
theorem DR.named {W : World} {S : Nat → Prop} {g : Nat} {D : Dk} (h : DR W S g D) {t : Nat} (hD : DSm t D) : ∀ e ∈ D.dir, e.1.length ≤ 64 := by
  obtain ⟨⟨fb, bn, bs, Mn, Ms, A, c, lf, hm, -⟩, -⟩ := h
  exact fun e he => ((hm.gd.dir_ hD.hist).2 e he).2
theorem DR.listed {W : World} {S : Nat → Prop} {g : Nat} {D : Dk} (h : DR W S g D) {t : Nat} (hD : DSm t D) : ∀ s ∈ dlistF D, s.length ≤ 100000 := fun s hs => by
  unfold dlistF at hs
  split at hs
  · cases hs
  · obtain ⟨e, he, rfl⟩ := List.mem_map.1 hs
    have := h.named hD e he
    omega
section
variable {D : Dk} {S : Nat → Prop} {g : Nat} (w : World) (h : DR w S g D) (hD : DSm 1000 D)
include h hD
theorem p_dcreate_any (s : List UInt8) (hl : s.length ≤ 100000) : Calls Tryz.prog 11 #[.pointer (some ⟨g, 0, none⟩), .string ⟨s.toArray⟩] w fun e w' => e = .returned (.int .i64 (dcreateF D s).2) ∧ DOp w w' S g (dcreateF D s).1 := by
  obtain ⟨⟨fb, bn, bs, Mn, Ms, A, c, lf, hm, hS⟩, hlt⟩ := h
  refine Calls.mono (R := fun e w' => e = .returned (.int .i64 (dcreateF D s).2) ∧ DTo w w' S g (dcreateF D s).1) ?_ fun e w' hx => ⟨hx.1, hx.2.op hlt⟩
  by_cases h1 : D.dead = true
  · unfold dcreateF
    rw [if_pos h1]
    exact q_dcre_a w hm hS hD s hl h1
  by_cases h2 : nchkF s ≠ 0
  · unfold dcreateF
    rw [if_neg h1, if_pos h2]
    exact q_dcre_b w hm hS hD s hl h1 h2
  by_cases h3 : 0 ≤ D.find s
  · unfold dcreateF
    rw [if_neg h1, if_neg h2, if_pos h3]
    exact q_dcre_c w hm hS hD s hl h1 (Classical.not_not.1 h2) h3
  by_cases h4 : 200 ≤ D.dir.length
  · unfold dcreateF
    rw [if_neg h1, if_neg h2, if_neg h3, if_pos h4]
    exact q_dcre_d w hm hS hD s hl h1 (Classical.not_not.1 h2) h3 h4
  unfold dcreateF
  rw [if_neg h1, if_neg h2, if_neg h3, if_neg h4]
  exact q_dcre_e w hm hS hD s hl h1 (Classical.not_not.1 h2) h3 h4
theorem p_dapp_any (s u : List UInt8) (hu : u.length ≤ 100000) (hl : s.length ≤ 100000) : Calls Tryz.prog 12 #[.pointer (some ⟨g, 0, none⟩), .string ⟨s.toArray⟩, .string ⟨u.toArray⟩] w fun e w' => e = .returned (.int .i64 (dappF D s u).2) ∧ DOp w w' S g (dappF D s u).1 := by
  obtain ⟨⟨fb, bn, bs, Mn, Ms, A, c, lf, hm, hS⟩, hlt⟩ := h
  refine Calls.mono (R := fun e w' => e = .returned (.int .i64 (dappF D s u).2) ∧ DTo w w' S g (dappF D s u).1) ?_ fun e w' hx => ⟨hx.1, hx.2.op hlt⟩
  by_cases h1 : D.shut s ≠ 0
  · unfold dappF
    rw [if_pos h1]
    exact q_dapp_a w hm hS hD s u hl h1
  have h1 := Classical.not_not.1 h1
  by_cases h2 : (flappF (D.file (D.find s)) u).2 ≠ 0
  · unfold dappF
    rw [if_neg (fun h => h h1), if_pos h2]
    exact q_dapp_b w hm hS hD s u hl hu h1 h2
  by_cases h3 : D.cap < (D.used : Int) + u.length
  · unfold dappF
    rw [if_neg (fun h => h h1), if_neg h2, if_pos h3]
    exact q_dapp_c w hm hS hD s u hl hu h1 (Classical.not_not.1 h2) h3
  unfold dappF
  rw [if_neg (fun h => h h1), if_neg h2, if_neg h3]
  exact q_dapp_d w hm hS hD s u hl hu h1 (Classical.not_not.1 h2) h3
theorem p_dsync_any (s : List UInt8) (hl : s.length ≤ 100000) : Calls Tryz.prog 13 #[.pointer (some ⟨g, 0, none⟩), .string ⟨s.toArray⟩] w fun e w' => e = .returned (.int .i64 (dsyncF D s).2) ∧ DOp w w' S g (dsyncF D s).1 := by
  obtain ⟨⟨fb, bn, bs, Mn, Ms, A, c, lf, hm, hS⟩, hlt⟩ := h
  refine Calls.mono (R := fun e w' => e = .returned (.int .i64 (dsyncF D s).2) ∧ DTo w w' S g (dsyncF D s).1) ?_ fun e w' hx => ⟨hx.1, hx.2.op hlt⟩
  by_cases h1 : D.shut s ≠ 0
  · unfold dsyncF
    rw [if_pos h1]
    exact q_dsync_a w hm hS hD s hl h1
  have h1 := Classical.not_not.1 h1
  by_cases h2 : D.last = true
  · unfold dsyncF
    rw [if_neg (fun h => h h1), if_pos h2]
    exact q_dsync_b w hm hS hD s hl h1 h2
  unfold dsyncF
  rw [if_neg (fun h => h h1), if_neg h2]
  exact q_dsync_c w hm hS hD s hl h1 h2
theorem p_dcut_any (s : List UInt8) (k : Int) (hl : s.length ≤ 100000) : Calls Tryz.prog 31 #[.pointer (some ⟨g, 0, none⟩), .string ⟨s.toArray⟩, .int .i64 k] w fun e w' => e = .returned (.int .i64 (dcutF D s k).2) ∧ DOp w w' S g (dcutF D s k).1 := by
  obtain ⟨⟨fb, bn, bs, Mn, Ms, A, c, lf, hm, hS⟩, hlt⟩ := h
  refine Calls.mono (R := fun e w' => e = .returned (.int .i64 (dcutF D s k).2) ∧ DTo w w' S g (dcutF D s k).1) ?_ fun e w' hx => ⟨hx.1, hx.2.op hlt⟩
  by_cases h1 : D.shut s ≠ 0
  · unfold dcutF
    rw [if_pos h1]
    exact q_dcut_a w hm hS hD s k hl h1
  have h1 := Classical.not_not.1 h1
  by_cases h2 : (flcutF (D.file (D.find s)) k).2 ≠ 0
  · unfold dcutF
    rw [if_neg (fun h => h h1), if_pos h2]
    exact q_dcut_b w hm hS hD s k hl h1 h2
  unfold dcutF
  rw [if_neg (fun h => h h1), if_neg h2]
  exact q_dcut_c w hm hS hD s k hl h1 (Classical.not_not.1 h2)
theorem p_dren_any (s u : List UInt8) (hu : u.length ≤ 100000) (hl : s.length ≤ 100000) : Calls Tryz.prog 32 #[.pointer (some ⟨g, 0, none⟩), .string ⟨s.toArray⟩, .string ⟨u.toArray⟩] w fun e w' => e = .returned (.int .i64 (drenF D s u).2) ∧ DOp w w' S g (drenF D s u).1 := by
  obtain ⟨⟨fb, bn, bs, Mn, Ms, A, c, lf, hm, hS⟩, hlt⟩ := h
  refine Calls.mono (R := fun e w' => e = .returned (.int .i64 (drenF D s u).2) ∧ DTo w w' S g (drenF D s u).1) ?_ fun e w' hx => ⟨hx.1, hx.2.op hlt⟩
  by_cases h1 : D.shut s ≠ 0
  · unfold drenF
    rw [if_pos h1]
    exact q_dren_a w hm hS hD s u hl h1
  have h1 := Classical.not_not.1 h1
  by_cases h2 : nchkF u ≠ 0
  · unfold drenF
    rw [if_neg (fun h => h h1), if_pos h2]
    exact q_dren_b w hm hS hD s u hl hu h1 h2
  by_cases h3 : s = u
  · unfold drenF
    rw [if_neg (fun h => h h1), if_neg h2, if_pos h3]
    exact q_dren_c w hm hS hD s u hl hu h1 (Classical.not_not.1 h2) h3
  unfold drenF
  rw [if_neg (fun h => h h1), if_neg h2, if_neg h3]
  exact q_dren_d w hm hS hD s u hl hu h1 (Classical.not_not.1 h2) h3
theorem p_drem_any (s : List UInt8) (hl : s.length ≤ 100000) : Calls Tryz.prog 33 #[.pointer (some ⟨g, 0, none⟩), .string ⟨s.toArray⟩] w fun e w' => e = .returned (.int .i64 (dremF D s).2) ∧ DOp w w' S g (dremF D s).1 := by
  obtain ⟨⟨fb, bn, bs, Mn, Ms, A, c, lf, hm, hS⟩, hlt⟩ := h
  refine Calls.mono (R := fun e w' => e = .returned (.int .i64 (dremF D s).2) ∧ DTo w w' S g (dremF D s).1) ?_ fun e w' hx => ⟨hx.1, hx.2.op hlt⟩
  by_cases h1 : D.shut s ≠ 0
  · unfold dremF
    rw [if_pos h1]
    exact q_drem_a w hm hS hD s hl h1
  unfold dremF
  rw [if_neg h1]
  exact q_drem_b w hm hS hD s hl (Classical.not_not.1 h1)
theorem p_ddirs_any  : Calls Tryz.prog 14 #[.pointer (some ⟨g, 0, none⟩)] w fun e w' => e = .returned (.int .i64 (ddirF D).2) ∧ DOp w w' S g (ddirF D).1 := by
  obtain ⟨⟨fb, bn, bs, Mn, Ms, A, c, lf, hm, hS⟩, hlt⟩ := h
  refine Calls.mono (R := fun e w' => e = .returned (.int .i64 (ddirF D).2) ∧ DTo w w' S g (ddirF D).1) ?_ fun e w' hx => ⟨hx.1, hx.2.op hlt⟩
  by_cases h1 : D.dead = true
  · unfold ddirF
    rw [if_pos h1]
    exact q_ddirs_a w hm hS hD h1
  have h0 : D.dead = false := by cases hx : D.dead with | true => exact absurd hx h1 | false => rfl
  by_cases h2 : D.last = true
  · unfold ddirF
    rw [if_neg h1, if_pos h2]
    exact q_ddirs_b w hm hS hD h0 h2
  unfold ddirF
  rw [if_neg h1, if_neg h2]
  exact q_ddirs_c w hm hS hD h0 h2
theorem p_darm_any (k : Int) (hk : -9223372036854775808 ≤ k ∧ k < 9223372036854775808) : Calls Tryz.prog 34 #[.pointer (some ⟨g, 0, none⟩), .int .i64 k] w fun e w' => e = .returned (.int .i64 (darmF D k).2) ∧ DOp w w' S g (darmF D k).1 := by
  obtain ⟨⟨fb, bn, bs, Mn, Ms, A, c, lf, hm, hS⟩, hlt⟩ := h
  refine Calls.mono (R := fun e w' => e = .returned (.int .i64 (darmF D k).2) ∧ DTo w w' S g (darmF D k).1) ?_ fun e w' hx => ⟨hx.1, hx.2.op hlt⟩
  by_cases h1 : D.dead = true
  · unfold darmF
    rw [if_pos h1]
    exact q_darm_a w hm hS hD k hk h1
  by_cases h2 : k < 1
  · unfold darmF
    rw [if_neg h1, if_pos h2]
    exact q_darm_b w hm hS hD k hk h1 h2
  unfold darmF
  rw [if_neg h1, if_neg h2]
  exact q_darm_c w hm hS hD k hk h1 h2
theorem p_doff_any  : Calls Tryz.prog 35 #[.pointer (some ⟨g, 0, none⟩)] w fun e w' => e = .returned (.int .i64 0) ∧ DOp w w' S g (doffF D) := by
  obtain ⟨⟨fb, bn, bs, Mn, Ms, A, c, lf, hm, hS⟩, hlt⟩ := h
  refine Calls.mono (R := fun e w' => e = .returned (.int .i64 0) ∧ DTo w w' S g (doffF D)) ?_ fun e w' hx => ⟨hx.1, hx.2.op hlt⟩
  exact q_doff w hm hS hD
theorem p_dboot_any (y : Ac) (hy : AcOk w w.heap.size y) (hfar : AcFar S y) (hm2 : ∀ m ∈ y.marks, m.length ≤ 100000) : Calls Tryz.prog 17 #[.pointer (some ⟨g, 0, none⟩), .agg (chf y).toArray] w fun e w' => e = .returned (.int .i64 0) ∧ DOp w w' S g (dbootF D y.dir y.cuts y.marks) := by
  obtain ⟨⟨fb, bn, bs, Mn, Ms, A, c, lf, hm, hS⟩, hlt⟩ := h
  refine Calls.mono (R := fun e w' => e = .returned (.int .i64 0) ∧ DTo w w' S g (dbootF D y.dir y.cuts y.marks)) ?_ fun e w' hx => ⟨hx.1, hx.2.op hlt⟩
  exact q_dboot w hm hS hD y hy hfar hm2
theorem p_dread_any (s : List UInt8) (hl : s.length ≤ 100000) : Calls Tryz.prog 18 #[.pointer (some ⟨g, 0, none⟩), .string ⟨s.toArray⟩] w fun e w' => e = .returned (.tuple #[.string ⟨(dreadF D s).1.toArray⟩, .int .i64 (dreadF D s).2]) ∧ Below w.heap.size w w' := by
  obtain ⟨⟨fb, bn, bs, Mn, Ms, A, c, lf, hm, -⟩, -⟩ := h
  by_cases h1 : D.shut s ≠ 0
  · unfold dreadF
    rw [if_pos h1]
    exact q_dread_a w hm hD s hl h1
  unfold dreadF
  rw [if_neg h1]
  exact q_dread_b w hm hD s hl (Classical.not_not.1 h1)
theorem p_dlist_any  : Calls Tryz.prog 19 #[.pointer (some ⟨g, 0, none⟩)] w fun e w' => DNewRow sfc 1 w w' e (dlistF D) := by
  obtain ⟨⟨fb, bn, bs, Mn, Ms, A, c, lf, hm, -⟩, -⟩ := h
  exact q_dlist w hm hD
theorem p_dused_any  : Calls Tryz.prog 16 #[.pointer (some ⟨g, 0, none⟩)] w fun e w' => e = .returned (.int .i64 (if D.dead = true then 0 else (D.used : Int))) ∧ Below w.heap.size w w' := by
  obtain ⟨⟨fb, bn, bs, Mn, Ms, A, c, lf, hm, -⟩, -⟩ := h
  exact q_dused w hm hD
theorem p_dcap_any  : Calls Tryz.prog 37 #[.pointer (some ⟨g, 0, none⟩)] w fun e w' => e = .returned (.int .i64 D.cap) ∧ Below w.heap.size w w' := by
  obtain ⟨⟨fb, bn, bs, Mn, Ms, A, c, lf, hm, -⟩, -⟩ := h
  exact q_dcap w hm hD
theorem p_dpend_any  : Calls Tryz.prog 39 #[.pointer (some ⟨g, 0, none⟩)] w fun e w' => e = .returned (.int .i64 (if D.dead = true then 0 else (D.chg.length : Int))) ∧ Below w.heap.size w w' := by
  obtain ⟨⟨fb, bn, bs, Mn, Ms, A, c, lf, hm, -⟩, -⟩ := h
  exact q_dpend w hm hD
theorem p_dops_any  : Calls Tryz.prog 15 #[.pointer (some ⟨g, 0, none⟩)] w fun e w' => e = .returned (.int .i64 D.ops) ∧ Below w.heap.size w w' := by
  obtain ⟨⟨fb, bn, bs, Mn, Ms, A, c, lf, hm, -⟩, -⟩ := h
  exact q_dops w hm hD
theorem p_don_any  : Calls Tryz.prog 20 #[.pointer (some ⟨g, 0, none⟩)] w fun e w' => e = .returned (.bool (!D.dead)) ∧ Below w.heap.size w w' := by
  obtain ⟨⟨fb, bn, bs, Mn, Ms, A, c, lf, hm, -⟩, -⟩ := h
  exact q_don w hm hD
end
end Go.Proofs.YtgoahcmgpjacjaaGreat
