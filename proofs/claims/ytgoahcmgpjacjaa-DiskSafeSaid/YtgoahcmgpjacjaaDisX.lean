/-
  Layer 20: the contracts of what landed: a disk that New made; no disk.
-/
import Derived.Test.YtgoahcmgpjacjaaDpK
import Derived.Test.YtgoahcmgpjacjaaDisDm
import Derived.Test.YtgoahcmgpjacjaaDisU
namespace Go.Proofs.Ytgoahcmgpjacjaa
set_option linter.unusedSimpArgs false
set_option linter.unusedVariables false
open Go.ChangeShapes Go.WideShapes Go.ChangeAt Go.RowKit Go.Joins Go.Deep
theorem AcOk.far {W : World} {B : Nat} {y : Ac} {S : Nat → Prop} (h : AcOk W B y) (hB : ∀ k, S k → B ≤ k) : AcFar S y := by
  refine ⟨fun hn => ?_, fun hn => ?_⟩
  · obtain ⟨b, off, e, hb, _⟩ := h.cuts.2 hn
    exact ⟨b, off, e, fun hs => by have := hB b hs; omega⟩
  · obtain ⟨b, off, e, hb, _⟩ := h.marks.2 hn
    exact ⟨b, off, e, fun hs => by have := hB b hs; omega⟩
theorem AcOk.more {W : World} {B B' : Nat} {y : Ac} (h : AcOk W B y) (hB : B ≤ B') : AcOk W B' y := ⟨h.cuts.more hB, h.marks.more hB, h.k1, h.k2, h.m1, h.m2, h.num, h.dir⟩
def dzero : Array Value := #[.int .i64 0, .bool false, .map none, .map none, .slice none 0 0, .int .i64 0, .int .i64 0]
def DNone (W : World) (v : Value) : Prop := v = .pointer none ∨ ∃ g, v = .pointer (some ⟨g, 0, none⟩) ∧ Blk W g 53 dzero
theorem DR.named {W : World} {S : Nat → Prop} {g : Nat} {D : Dk} (h : DR W S g D) {t : Nat} (hD : DSm t D) : ∀ e ∈ D.dir, e.1.length ≤ 64 := by
  obtain ⟨⟨fb, bn, bs, Mn, Ms, A, c, lf, hm, -⟩, -⟩ := h
  exact fun e he => ((hm.gd.dir_ hD.hist).2 e he).2
theorem DR.listed {W : World} {S : Nat → Prop} {g : Nat} {D : Dk} (h : DR W S g D) {t : Nat} (hD : DSm t D) : ∀ s ∈ dlistF D, s.length ≤ 100000 := fun s hs => by
  unfold dlistF at hs
  split at hs
  · cases hs
  · obtain ⟨e, he, rfl⟩ := List.mem_map.1 hs
    have := h.named hD e he
    omega
theorem DR.read_len {W : World} {S : Nat → Prop} {g : Nat} {D : Dk} (h : DR W S g D) {t : Nat} (hD : DSm t D) {s x : List UInt8} (hx : dreadF D s = (x, 0)) : s.length ≤ 100000 := by
  have h1 : D.shut s = 0 := by
    unfold dreadF at hx
    by_cases h0 : D.shut s ≠ 0
    · rw [if_pos h0] at hx
      injection hx with _ hx
    · exact Classical.not_not.1 h0
  have h2 := dshut_ok hD.hist.wf h1
  have := h.named hD _ (dfindL_mem h2.2.1)
  dsimp only at this
  omega
section
variable {D : Dk} {S : Nat → Prop} {g : Nat} (w : World) (h : DR w S g D) (hD : DSm 1000 D)
include h hD
theorem p_dcreate_any (s : List UInt8) (hl : s.length ≤ 100000) : Calls Try.prog 24 #[.pointer (some ⟨g, 0, none⟩), .string ⟨s.toArray⟩] w fun e w' => e = .returned (.int .i64 (dcreateF D s).2) ∧ DOp w w' S g (dcreateF D s).1 := by
  obtain ⟨⟨fb, bn, bs, Mn, Ms, A, c, lf, hm, hS⟩, hlt⟩ := h
  refine Calls.mono (R := fun e w' => e = .returned (.int .i64 (dcreateF D s).2) ∧ DTo w w' S g (dcreateF D s).1) ?_ fun e w' hx => ⟨hx.1, hx.2.op hlt⟩
  by_cases h1 : D.dead = true
  · unfold dcreateF
    rw [if_pos h1]
    exact q_dcre_a w hm hS hD s hl h1
  by_cases h2 : nchkF s ≠ 0
  · unfold dcreateF
    rw [if_neg h1, if_pos h2]
    exact q_dcre_b w hm hS hD s hl h1 h2
  by_cases h3 : 0 ≤ D.find s
  · unfold dcreateF
    rw [if_neg h1, if_neg h2, if_pos h3]
    exact q_dcre_c w hm hS hD s hl h1 (Classical.not_not.1 h2) h3
  by_cases h4 : 200 ≤ D.dir.length
  · unfold dcreateF
    rw [if_neg h1, if_neg h2, if_neg h3, if_pos h4]
    exact q_dcre_d w hm hS hD s hl h1 (Classical.not_not.1 h2) h3 h4
  unfold dcreateF
  rw [if_neg h1, if_neg h2, if_neg h3, if_neg h4]
  exact q_dcre_e w hm hS hD s hl h1 (Classical.not_not.1 h2) h3 h4
theorem p_dapp_any (s u : List UInt8) (hu : u.length ≤ 100000) (hl : s.length ≤ 100000) : Calls Try.prog 25 #[.pointer (some ⟨g, 0, none⟩), .string ⟨s.toArray⟩, .string ⟨u.toArray⟩] w fun e w' => e = .returned (.int .i64 (dappF D s u).2) ∧ DOp w w' S g (dappF D s u).1 := by
  obtain ⟨⟨fb, bn, bs, Mn, Ms, A, c, lf, hm, hS⟩, hlt⟩ := h
  refine Calls.mono (R := fun e w' => e = .returned (.int .i64 (dappF D s u).2) ∧ DTo w w' S g (dappF D s u).1) ?_ fun e w' hx => ⟨hx.1, hx.2.op hlt⟩
  by_cases h1 : D.shut s ≠ 0
  · unfold dappF
    rw [if_pos h1]
    exact q_dapp_a w hm hS hD s u hl h1
  have h1 := Classical.not_not.1 h1
  by_cases h2 : (flappF (D.file (D.find s)) u).2 ≠ 0
  · unfold dappF
    rw [if_neg (fun h => h h1), if_pos h2]
    exact q_dapp_b w hm hS hD s u hl hu h1 h2
  by_cases h3 : D.cap < (D.used : Int) + u.length
  · unfold dappF
    rw [if_neg (fun h => h h1), if_neg h2, if_pos h3]
    exact q_dapp_c w hm hS hD s u hl hu h1 (Classical.not_not.1 h2) h3
  unfold dappF
  rw [if_neg (fun h => h h1), if_neg h2, if_neg h3]
  exact q_dapp_d w hm hS hD s u hl hu h1 (Classical.not_not.1 h2) h3
theorem p_dsync_any (s : List UInt8) (hl : s.length ≤ 100000) : Calls Try.prog 11 #[.pointer (some ⟨g, 0, none⟩), .string ⟨s.toArray⟩] w fun e w' => e = .returned (.int .i64 (dsyncF D s).2) ∧ DOp w w' S g (dsyncF D s).1 := by
  obtain ⟨⟨fb, bn, bs, Mn, Ms, A, c, lf, hm, hS⟩, hlt⟩ := h
  refine Calls.mono (R := fun e w' => e = .returned (.int .i64 (dsyncF D s).2) ∧ DTo w w' S g (dsyncF D s).1) ?_ fun e w' hx => ⟨hx.1, hx.2.op hlt⟩
  by_cases h1 : D.shut s ≠ 0
  · unfold dsyncF
    rw [if_pos h1]
    exact q_dsync_a w hm hS hD s hl h1
  have h1 := Classical.not_not.1 h1
  by_cases h2 : D.last = true
  · unfold dsyncF
    rw [if_neg (fun h => h h1), if_pos h2]
    exact q_dsync_b w hm hS hD s hl h1 h2
  unfold dsyncF
  rw [if_neg (fun h => h h1), if_neg h2]
  exact q_dsync_c w hm hS hD s hl h1 h2
theorem p_dcut_any (s : List UInt8) (k : Int) (hl : s.length ≤ 100000) : Calls Try.prog 26 #[.pointer (some ⟨g, 0, none⟩), .string ⟨s.toArray⟩, .int .i64 k] w fun e w' => e = .returned (.int .i64 (dcutF D s k).2) ∧ DOp w w' S g (dcutF D s k).1 := by
  obtain ⟨⟨fb, bn, bs, Mn, Ms, A, c, lf, hm, hS⟩, hlt⟩ := h
  refine Calls.mono (R := fun e w' => e = .returned (.int .i64 (dcutF D s k).2) ∧ DTo w w' S g (dcutF D s k).1) ?_ fun e w' hx => ⟨hx.1, hx.2.op hlt⟩
  by_cases h1 : D.shut s ≠ 0
  · unfold dcutF
    rw [if_pos h1]
    exact q_dcut_a w hm hS hD s k hl h1
  have h1 := Classical.not_not.1 h1
  by_cases h2 : (flcutF (D.file (D.find s)) k).2 ≠ 0
  · unfold dcutF
    rw [if_neg (fun h => h h1), if_pos h2]
    exact q_dcut_b w hm hS hD s k hl h1 h2
  unfold dcutF
  rw [if_neg (fun h => h h1), if_neg h2]
  exact q_dcut_c w hm hS hD s k hl h1 (Classical.not_not.1 h2)
theorem p_dren_any (s u : List UInt8) (hu : u.length ≤ 100000) (hl : s.length ≤ 100000) : Calls Try.prog 27 #[.pointer (some ⟨g, 0, none⟩), .string ⟨s.toArray⟩, .string ⟨u.toArray⟩] w fun e w' => e = .returned (.int .i64 (drenF D s u).2) ∧ DOp w w' S g (drenF D s u).1 := by
  obtain ⟨⟨fb, bn, bs, Mn, Ms, A, c, lf, hm, hS⟩, hlt⟩ := h
  refine Calls.mono (R := fun e w' => e = .returned (.int .i64 (drenF D s u).2) ∧ DTo w w' S g (drenF D s u).1) ?_ fun e w' hx => ⟨hx.1, hx.2.op hlt⟩
  by_cases h1 : D.shut s ≠ 0
  · unfold drenF
    rw [if_pos h1]
    exact q_dren_a w hm hS hD s u hl h1
  have h1 := Classical.not_not.1 h1
  by_cases h2 : nchkF u ≠ 0
  · unfold drenF
    rw [if_neg (fun h => h h1), if_pos h2]
    exact q_dren_b w hm hS hD s u hl hu h1 h2
  by_cases h3 : s = u
  · unfold drenF
    rw [if_neg (fun h => h h1), if_neg h2, if_pos h3]
    exact q_dren_c w hm hS hD s u hl hu h1 (Classical.not_not.1 h2) h3
  unfold drenF
  rw [if_neg (fun h => h h1), if_neg h2, if_neg h3]
  exact q_dren_d w hm hS hD s u hl hu h1 (Classical.not_not.1 h2) h3
theorem p_drem_any (s : List UInt8) (hl : s.length ≤ 100000) : Calls Try.prog 28 #[.pointer (some ⟨g, 0, none⟩), .string ⟨s.toArray⟩] w fun e w' => e = .returned (.int .i64 (dremF D s).2) ∧ DOp w w' S g (dremF D s).1 := by
  obtain ⟨⟨fb, bn, bs, Mn, Ms, A, c, lf, hm, hS⟩, hlt⟩ := h
  refine Calls.mono (R := fun e w' => e = .returned (.int .i64 (dremF D s).2) ∧ DTo w w' S g (dremF D s).1) ?_ fun e w' hx => ⟨hx.1, hx.2.op hlt⟩
  by_cases h1 : D.shut s ≠ 0
  · unfold dremF
    rw [if_pos h1]
    exact q_drem_a w hm hS hD s hl h1
  unfold dremF
  rw [if_neg h1]
  exact q_drem_b w hm hS hD s hl (Classical.not_not.1 h1)
theorem p_ddirs_any  : Calls Try.prog 12 #[.pointer (some ⟨g, 0, none⟩)] w fun e w' => e = .returned (.int .i64 (ddirF D).2) ∧ DOp w w' S g (ddirF D).1 := by
  obtain ⟨⟨fb, bn, bs, Mn, Ms, A, c, lf, hm, hS⟩, hlt⟩ := h
  refine Calls.mono (R := fun e w' => e = .returned (.int .i64 (ddirF D).2) ∧ DTo w w' S g (ddirF D).1) ?_ fun e w' hx => ⟨hx.1, hx.2.op hlt⟩
  by_cases h1 : D.dead = true
  · unfold ddirF
    rw [if_pos h1]
    exact q_ddirs_a w hm hS hD h1
  have h0 : D.dead = false := by cases hx : D.dead with | true => exact absurd hx h1 | false => rfl
  by_cases h2 : D.last = true
  · unfold ddirF
    rw [if_neg h1, if_pos h2]
    exact q_ddirs_b w hm hS hD h0 h2
  unfold ddirF
  rw [if_neg h1, if_neg h2]
  exact q_ddirs_c w hm hS hD h0 h2
theorem p_darm_any (k : Int) (hk : -9223372036854775808 ≤ k ∧ k < 9223372036854775808) : Calls Try.prog 29 #[.pointer (some ⟨g, 0, none⟩), .int .i64 k] w fun e w' => e = .returned (.int .i64 (darmF D k).2) ∧ DOp w w' S g (darmF D k).1 := by
  obtain ⟨⟨fb, bn, bs, Mn, Ms, A, c, lf, hm, hS⟩, hlt⟩ := h
  refine Calls.mono (R := fun e w' => e = .returned (.int .i64 (darmF D k).2) ∧ DTo w w' S g (darmF D k).1) ?_ fun e w' hx => ⟨hx.1, hx.2.op hlt⟩
  by_cases h1 : D.dead = true
  · unfold darmF
    rw [if_pos h1]
    exact q_darm_a w hm hS hD k hk h1
  by_cases h2 : k < 1
  · unfold darmF
    rw [if_neg h1, if_pos h2]
    exact q_darm_b w hm hS hD k hk h1 h2
  unfold darmF
  rw [if_neg h1, if_neg h2]
  exact q_darm_c w hm hS hD k hk h1 h2
theorem p_doff_any  : Calls Try.prog 19 #[.pointer (some ⟨g, 0, none⟩)] w fun e w' => e = .returned (.int .i64 0) ∧ DOp w w' S g (doffF D) := by
  obtain ⟨⟨fb, bn, bs, Mn, Ms, A, c, lf, hm, hS⟩, hlt⟩ := h
  refine Calls.mono (R := fun e w' => e = .returned (.int .i64 0) ∧ DTo w w' S g (doffF D)) ?_ fun e w' hx => ⟨hx.1, hx.2.op hlt⟩
  exact q_doff w hm hS hD
theorem p_dboot_any (y : Ac) (hy : AcOk w w.heap.size y) (hfar : AcFar S y) (hm2 : ∀ m ∈ y.marks, m.length ≤ 100000) : Calls Try.prog 14 #[.pointer (some ⟨g, 0, none⟩), .agg (chf y).toArray] w fun e w' => e = .returned (.int .i64 0) ∧ DOp w w' S g (dbootF D y.dir y.cuts y.marks) := by
  obtain ⟨⟨fb, bn, bs, Mn, Ms, A, c, lf, hm, hS⟩, hlt⟩ := h
  refine Calls.mono (R := fun e w' => e = .returned (.int .i64 0) ∧ DTo w w' S g (dbootF D y.dir y.cuts y.marks)) ?_ fun e w' hx => ⟨hx.1, hx.2.op hlt⟩
  exact q_dboot w hm hS hD y hy hfar hm2
theorem p_dread_any (s : List UInt8) (hl : s.length ≤ 100000) : Calls Try.prog 16 #[.pointer (some ⟨g, 0, none⟩), .string ⟨s.toArray⟩] w fun e w' => e = .returned (.tuple #[.string ⟨(dreadF D s).1.toArray⟩, .int .i64 (dreadF D s).2]) ∧ Below w.heap.size w w' := by
  obtain ⟨⟨fb, bn, bs, Mn, Ms, A, c, lf, hm, -⟩, -⟩ := h
  by_cases h1 : D.shut s ≠ 0
  · unfold dreadF
    rw [if_pos h1]
    exact q_dread_a w hm hD s hl h1
  unfold dreadF
  rw [if_neg h1]
  exact q_dread_b w hm hD s hl (Classical.not_not.1 h1)
theorem p_dlist_any  : Calls Try.prog 10 #[.pointer (some ⟨g, 0, none⟩)] w fun e w' => DNewRow sfc 1 w w' e (dlistF D) := by
  obtain ⟨⟨fb, bn, bs, Mn, Ms, A, c, lf, hm, -⟩, -⟩ := h
  exact q_dlist w hm hD
theorem p_dused_any  : Calls Try.prog 17 #[.pointer (some ⟨g, 0, none⟩)] w fun e w' => e = .returned (.int .i64 (if D.dead = true then 0 else (D.used : Int))) ∧ Below w.heap.size w w' := by
  obtain ⟨⟨fb, bn, bs, Mn, Ms, A, c, lf, hm, -⟩, -⟩ := h
  exact q_dused w hm hD
theorem p_dcap_any  : Calls Try.prog 22 #[.pointer (some ⟨g, 0, none⟩)] w fun e w' => e = .returned (.int .i64 D.cap) ∧ Below w.heap.size w w' := by
  obtain ⟨⟨fb, bn, bs, Mn, Ms, A, c, lf, hm, -⟩, -⟩ := h
  exact q_dcap w hm hD
theorem p_dpend_any  : Calls Try.prog 21 #[.pointer (some ⟨g, 0, none⟩)] w fun e w' => e = .returned (.int .i64 (if D.dead = true then 0 else (D.chg.length : Int))) ∧ Below w.heap.size w w' := by
  obtain ⟨⟨fb, bn, bs, Mn, Ms, A, c, lf, hm, -⟩, -⟩ := h
  exact q_dpend w hm hD
theorem p_dops_any  : Calls Try.prog 23 #[.pointer (some ⟨g, 0, none⟩)] w fun e w' => e = .returned (.int .i64 D.ops) ∧ Below w.heap.size w w' := by
  obtain ⟨⟨fb, bn, bs, Mn, Ms, A, c, lf, hm, -⟩, -⟩ := h
  exact q_dops w hm hD
theorem p_don_any  : Calls Try.prog 18 #[.pointer (some ⟨g, 0, none⟩)] w fun e w' => e = .returned (.bool (!D.dead)) ∧ Below w.heap.size w w' := by
  obtain ⟨⟨fb, bn, bs, Mn, Ms, A, c, lf, hm, -⟩, -⟩ := h
  exact q_don w hm hD
end
section
variable {v : Value} (w : World) (h : DNone w v)
include h
set_option maxRecDepth 100000 in
set_option maxHeartbeats 2000000 in
theorem n_made : Calls Try.prog 36 #[v] w fun e w' => e = .returned (.bool false) ∧ w' = w := by
  rcases h with rfl | ⟨g, rfl, hb⟩
  · go_enter Try.func36, Try.ntmps36
    go_wp2
    go_ret
    exact ⟨rfl, rfl⟩
  · have x2 := hb.cell 2
    unfold dzero at x2
    simp only [List.getElem?_toArray, List.getElem?_cons_zero, List.getElem?_cons_succ] at x2
    have hq := fun W => run_neq_map_nil W none
    go_enter Try.func36, Try.ntmps36
    go_wp2
    go_ret
    exact ⟨rfl, rfl⟩
set_option maxRecDepth 100000 in
set_option maxHeartbeats 2000000 in
theorem n_ready  : Calls Try.prog 30 #[v] w fun e w' => e = .returned (.int .i64 1) ∧ w' = w := by
  have HR := Lib.hid (n_made w h)
  clear h
  go_enter Try.func30, Try.ntmps30
  go_wp2_with (first | (go_at_call 36; (with_reducible refine HR.out.mono ?_); rintro e w1 ⟨rfl, hw1⟩; obtain rfl := hw1.symm) | fail)
  go_ret
  exact ⟨rfl, rfl⟩
set_option maxRecDepth 100000 in
set_option maxHeartbeats 2000000 in
theorem n_find (s : List UInt8) : Calls Try.prog 32 #[v, .string ⟨s.toArray⟩] w fun e w' => e = .returned (.tuple #[.pointer none, .int .i64 1]) ∧ w' = w := by
  have HR := Lib.hid (n_ready w h)
  clear h
  go_enter Try.func32, Try.ntmps32
  go_wp2_with (first | (go_at_call 30; (with_reducible refine HR.out.mono ?_); rintro e w1 ⟨rfl, hw1⟩; obtain rfl := hw1.symm) | fail)
  refine bodyPost_ret (v := .tuple #[.pointer none, .int .i64 1]) (by simp [results, Try.results32, go_sem]) rfl ⟨rfl, rfl⟩
set_option maxRecDepth 100000 in
set_option maxHeartbeats 2000000 in
theorem p_dcreate_none (s : List UInt8) : Calls Try.prog 24 #[v, .string ⟨s.toArray⟩] w fun e w' => e = .returned (.int .i64 1) ∧ Below w.heap.size w w' := by
  have HR := Lib.hid (n_ready w h)
  clear h
  go_enter Try.func24, Try.ntmps24
  go_wp2_with (first | (go_at_call 30; (with_reducible refine HR.out.mono ?_); rintro e w1 ⟨rfl, hw1⟩; obtain rfl := hw1.symm) | fail)
  go_ret
  exact ⟨rfl, Below.refl _ _⟩
set_option maxRecDepth 100000 in
set_option maxHeartbeats 2000000 in
theorem p_dapp_none (s u : List UInt8) : Calls Try.prog 25 #[v, .string ⟨s.toArray⟩, .string ⟨u.toArray⟩] w fun e w' => e = .returned (.int .i64 1) ∧ Below w.heap.size w w' := by
  have HR := Lib.hid (n_find w h s)
  clear h
  go_enter Try.func25, Try.ntmps25
  go_wp2_with (first | (go_at_call 32; (with_reducible refine HR.out.mono ?_); rintro e w1 ⟨rfl, hw1⟩; obtain rfl := hw1.symm) | fail)
  go_ret
  exact ⟨rfl, Below.refl _ _⟩
set_option maxRecDepth 100000 in
set_option maxHeartbeats 2000000 in
theorem p_dsync_none (s : List UInt8) : Calls Try.prog 11 #[v, .string ⟨s.toArray⟩] w fun e w' => e = .returned (.int .i64 1) ∧ Below w.heap.size w w' := by
  have HR := Lib.hid (n_find w h s)
  clear h
  go_enter Try.func11, Try.ntmps11
  go_wp2_with (first | (go_at_call 32; (with_reducible refine HR.out.mono ?_); rintro e w1 ⟨rfl, hw1⟩; obtain rfl := hw1.symm) | fail)
  go_ret
  exact ⟨rfl, Below.refl _ _⟩
set_option maxRecDepth 100000 in
set_option maxHeartbeats 2000000 in
theorem p_dcut_none (s : List UInt8) (k : Int) : Calls Try.prog 26 #[v, .string ⟨s.toArray⟩, .int .i64 k] w fun e w' => e = .returned (.int .i64 1) ∧ Below w.heap.size w w' := by
  have HR := Lib.hid (n_find w h s)
  clear h
  go_enter Try.func26, Try.ntmps26
  go_wp2_with (first | (go_at_call 32; (with_reducible refine HR.out.mono ?_); rintro e w1 ⟨rfl, hw1⟩; obtain rfl := hw1.symm) | fail)
  go_ret
  exact ⟨rfl, Below.refl _ _⟩
set_option maxRecDepth 100000 in
set_option maxHeartbeats 2000000 in
theorem p_dren_none (s u : List UInt8) : Calls Try.prog 27 #[v, .string ⟨s.toArray⟩, .string ⟨u.toArray⟩] w fun e w' => e = .returned (.int .i64 1) ∧ Below w.heap.size w w' := by
  have HR := Lib.hid (n_find w h s)
  clear h
  go_enter Try.func27, Try.ntmps27
  go_wp2_with (first | (go_at_call 32; (with_reducible refine HR.out.mono ?_); rintro e w1 ⟨rfl, hw1⟩; obtain rfl := hw1.symm) | fail)
  go_ret
  exact ⟨rfl, Below.refl _ _⟩
set_option maxRecDepth 100000 in
set_option maxHeartbeats 2000000 in
theorem p_drem_none (s : List UInt8) : Calls Try.prog 28 #[v, .string ⟨s.toArray⟩] w fun e w' => e = .returned (.int .i64 1) ∧ Below w.heap.size w w' := by
  have HR := Lib.hid (n_find w h s)
  clear h
  go_enter Try.func28, Try.ntmps28
  go_wp2_with (first | (go_at_call 32; (with_reducible refine HR.out.mono ?_); rintro e w1 ⟨rfl, hw1⟩; obtain rfl := hw1.symm) | fail)
  go_ret
  exact ⟨rfl, Below.refl _ _⟩
set_option maxRecDepth 100000 in
set_option maxHeartbeats 2000000 in
theorem p_ddirs_none  : Calls Try.prog 12 #[v] w fun e w' => e = .returned (.int .i64 1) ∧ Below w.heap.size w w' := by
  have HR := Lib.hid (n_ready w h)
  clear h
  go_enter Try.func12, Try.ntmps12
  go_wp2_with (first | (go_at_call 30; (with_reducible refine HR.out.mono ?_); rintro e w1 ⟨rfl, hw1⟩; obtain rfl := hw1.symm) | fail)
  go_ret
  exact ⟨rfl, Below.refl _ _⟩
set_option maxRecDepth 100000 in
set_option maxHeartbeats 2000000 in
theorem p_darm_none (k : Int) : Calls Try.prog 29 #[v, .int .i64 k] w fun e w' => e = .returned (.int .i64 1) ∧ Below w.heap.size w w' := by
  have HR := Lib.hid (n_ready w h)
  clear h
  go_enter Try.func29, Try.ntmps29
  go_wp2_with (first | (go_at_call 30; (with_reducible refine HR.out.mono ?_); rintro e w1 ⟨rfl, hw1⟩; obtain rfl := hw1.symm) | fail)
  go_ret
  exact ⟨rfl, Below.refl _ _⟩
set_option maxRecDepth 100000 in
set_option maxHeartbeats 2000000 in
theorem p_doff_none  : Calls Try.prog 19 #[v] w fun e w' => e = .returned (.int .i64 1) ∧ Below w.heap.size w w' := by
  have HR := Lib.hid (n_made w h)
  clear h
  go_enter Try.func19, Try.ntmps19
  go_wp2_with (first | (go_at_call 36; (with_reducible refine HR.out.mono ?_); rintro e w1 ⟨rfl, hw1⟩; obtain rfl := hw1.symm) | fail)
  go_ret
  exact ⟨rfl, Below.refl _ _⟩
set_option maxRecDepth 100000 in
set_option maxHeartbeats 2000000 in
theorem p_dboot_none (y : Ac) : Calls Try.prog 14 #[v, .agg (chf y).toArray] w fun e w' => e = .returned (.int .i64 1) ∧ Below w.heap.size w w' := by
  have HR := Lib.hid (fun W (hW : DNone W v) => n_made W hW)
  have HN : Hid (DNone (w.alloc (.cells (chf y).toArray 26)) v) := Lib.hid (h.imp id fun ⟨g, e, hb⟩ => ⟨g, e, hb.alloc _⟩)
  clear h
  dsimp only [chf] at HN ⊢
  generalize y.cuts.length = c1 at *
  generalize y.marks.length = c2 at *
  go_enter Try.func14, Try.ntmps14
  go_wp2_with (first | (go_at_call 36; (with_reducible refine (HR.out _ HN.out).mono ?_); rintro e w1 ⟨rfl, hw1⟩; obtain rfl := hw1.symm) | fail)
  go_ret
  exact ⟨rfl, ((Below.refl w.heap.size w).alloc (Nat.le_refl _) _)⟩
set_option maxRecDepth 100000 in
set_option maxHeartbeats 2000000 in
theorem p_dread_none (s : List UInt8) : Calls Try.prog 16 #[v, .string ⟨s.toArray⟩] w fun e w' => e = .returned (.tuple #[.string ⟨#[]⟩, .int .i64 1]) ∧ Below w.heap.size w w' := by
  have HR := Lib.hid (n_find w h s)
  clear h
  go_enter Try.func16, Try.ntmps16
  go_wp2_with (first | (go_at_call 32; (with_reducible refine HR.out.mono ?_); rintro e w1 ⟨rfl, hw1⟩; obtain rfl := hw1.symm) | fail)
  refine bodyPost_ret (v := .tuple #[.string ⟨#[]⟩, .int .i64 1]) (by simp [results, Try.results16, go_sem]) rfl ⟨rfl, Below.refl _ _⟩
set_option maxRecDepth 100000 in
set_option maxHeartbeats 2000000 in
theorem p_dlist_none  : Calls Try.prog 10 #[v] w fun e w' => e = .returned (.slice none 0 0) ∧ Below w.heap.size w w' := by
  have HR := Lib.hid (n_ready w h)
  clear h
  go_enter Try.func10, Try.ntmps10
  go_wp2_with (first | (go_at_call 30; (with_reducible refine HR.out.mono ?_); rintro e w1 ⟨rfl, hw1⟩; obtain rfl := hw1.symm) | fail)
  go_ret
  exact ⟨rfl, Below.refl _ _⟩
set_option maxRecDepth 100000 in
set_option maxHeartbeats 2000000 in
theorem p_dused_none  : Calls Try.prog 17 #[v] w fun e w' => e = .returned (.int .i64 0) ∧ Below w.heap.size w w' := by
  have HR := Lib.hid (n_ready w h)
  clear h
  go_enter Try.func17, Try.ntmps17
  go_wp2_with (first | (go_at_call 30; (with_reducible refine HR.out.mono ?_); rintro e w1 ⟨rfl, hw1⟩; obtain rfl := hw1.symm) | fail)
  go_ret
  exact ⟨rfl, Below.refl _ _⟩
set_option maxRecDepth 100000 in
set_option maxHeartbeats 2000000 in
theorem p_dcap_none  : Calls Try.prog 22 #[v] w fun e w' => e = .returned (.int .i64 0) ∧ Below w.heap.size w w' := by
  have HR := Lib.hid (n_made w h)
  clear h
  go_enter Try.func22, Try.ntmps22
  go_wp2_with (first | (go_at_call 36; (with_reducible refine HR.out.mono ?_); rintro e w1 ⟨rfl, hw1⟩; obtain rfl := hw1.symm) | fail)
  go_ret
  exact ⟨rfl, Below.refl _ _⟩
set_option maxRecDepth 100000 in
set_option maxHeartbeats 2000000 in
theorem p_dpend_none  : Calls Try.prog 21 #[v] w fun e w' => e = .returned (.int .i64 0) ∧ Below w.heap.size w w' := by
  have HR := Lib.hid (n_ready w h)
  clear h
  go_enter Try.func21, Try.ntmps21
  go_wp2_with (first | (go_at_call 30; (with_reducible refine HR.out.mono ?_); rintro e w1 ⟨rfl, hw1⟩; obtain rfl := hw1.symm) | fail)
  go_ret
  exact ⟨rfl, Below.refl _ _⟩
set_option maxRecDepth 100000 in
set_option maxHeartbeats 2000000 in
theorem p_dops_none  : Calls Try.prog 23 #[v] w fun e w' => e = .returned (.int .i64 0) ∧ Below w.heap.size w w' := by
  have HR := Lib.hid (n_made w h)
  clear h
  go_enter Try.func23, Try.ntmps23
  go_wp2_with (first | (go_at_call 36; (with_reducible refine HR.out.mono ?_); rintro e w1 ⟨rfl, hw1⟩; obtain rfl := hw1.symm) | fail)
  go_ret
  exact ⟨rfl, Below.refl _ _⟩
set_option maxRecDepth 100000 in
set_option maxHeartbeats 2000000 in
theorem p_don_none  : Calls Try.prog 18 #[v] w fun e w' => e = .returned (.bool false) ∧ Below w.heap.size w w' := by
  have HR := Lib.hid (n_ready w h)
  clear h
  go_enter Try.func18, Try.ntmps18
  go_wp2_with (first | (go_at_call 30; (with_reducible refine HR.out.mono ?_); rintro e w1 ⟨rfl, hw1⟩; obtain rfl := hw1.symm) | fail)
  go_ret
  exact ⟨rfl, Below.refl _ _⟩
end
end Go.Proofs.Ytgoahcmgpjacjaa
