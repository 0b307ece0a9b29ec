/-
  A segment's name tells its number and its generation; what is taken as one is just that; the layer's probe holds (NameBack). No condition.
-/
import Derived.Test.YtmejcckbbcgmnaaDoorNamAw
import Derived.Test.YtmejcckbbcgmnaaDoorLaid
namespace Go.Proofs.YtmejcckbbcgmnaaDoor
set_option linter.unusedSimpArgs false
set_option linter.unusedVariables false
open Go.ChangeShapes Go.WideShapes Go.ChangeAt Go.RowKit Go.Joins Go.Deep
theorem nseg_ok {i g : Int} (h : (nsegF i g).2 = 0) : ∃ a b : Nat, i = (a : Int) ∧ g = (b : Int) ∧ (1 ≤ a ∧ a ≤ 999999) ∧ (1 ≤ b ∧ b ≤ 999999) ∧ nsegF i g = (nmB a b, 0) := by
  unfold nsegF at h ⊢
  by_cases hc : 1 ≤ i ∧ i ≤ 999999 ∧ 1 ≤ g ∧ g ≤ 999999
  · rw [if_pos hc]
    exact ⟨i.toNat, g.toNat, by omega, by omega, by omega, by omega, rfl⟩
  · rw [if_neg hc] at h
    cases h
theorem nseg_of (a b : Nat) (ha : 1 ≤ a ∧ a ≤ 999999) (hb : 1 ≤ b ∧ b ≤ 999999) : nsegF (a : Int) (b : Int) = (nmB a b, 0) := by
  unfold nsegF
  rw [if_pos (by omega)]
  rfl
theorem npar_no {s : List UInt8} (h : (nparF s).2.2 = false) : nparF s = (0, 0, false) ∧ nkindF s ≠ 1 := by
  refine ⟨?_, ?_⟩
  · unfold nparF at h ⊢
    split at h
    · cases h
    · rename_i hc
      rw [if_neg hc]
  · unfold nkindF
    rw [h, if_neg (by decide)]
    split
    · decide
    · split <;> decide
set_option maxHeartbeats 2000000 in
theorem nameBack_far (i g : Int) (s : List UInt8) (w : World) (ht : NTab w) (h : 1000 < s.length) :
    Calls Tryd.prog 4 #[.int .i64 i, .int .i64 g, .string ⟨s.toArray⟩] w fun e w' => e = .returned (.bool true) ∧ Below w.heap.size w w' := by
  have Hb := Lib.hid (Below.refl w.heap.size w)
  have HT := Lib.hid ht
  clear ht
  have hi : (1000 : Int) < (s.length : Int) := by omega
  go_enter Tryd.func4, Tryd.ntmps4
  go_wp2_with (first | (go_at_call 6; refine (awake18_any _ (HT.out.of Hb.out)).mono ?_; rintro e w9 ⟨rfl, hb9⟩; replace Hb := Lib.hid (Hb.out.trans (hb9.mono Hb.out.size)); clear hb9) | fail)
  go_ret
  exact ⟨rfl, Hb.out⟩
set_option maxRecDepth 100000 in
set_option maxHeartbeats 4000000 in
theorem nameBack_11 (i g : Int) (s : List UInt8) (w : World) (ht : NTab w) (h : s.length ≤ 1000) (h1 : (nsegF i g).2 = 0) (h2 : (nparF s).2.2 = true) :
    Calls Tryd.prog 4 #[.int .i64 i, .int .i64 g, .string ⟨s.toArray⟩] w fun e w' => e = .returned (.bool true) ∧ Below w.heap.size w w' := by
  have Hb := Lib.hid (Below.refl w.heap.size w)
  have HT := Lib.hid ht
  clear ht
  have hi : ¬ (1000 : Int) < (s.length : Int) := by omega
  have P1 := fun W (hW : NTab W) => p_nseg_any i g W hW
  have P3 := fun W (hW : NTab W) => p_npar_any s W (by omega) hW
  unfold NPost at P3
  obtain ⟨x, y, rfl, rfl, hx, hy, e1⟩ := nseg_ok h1
  rw [e1] at P1
  have P2 := fun W (hW : NTab W) => p_npar_any (nmB x y) W (by rw [nmB_len]; omega) hW
  unfold NPost at P2
  rw [nback x y hx hy] at P2
  dsimp only at P1 P2
  replace P2 := Lib.hid P2
  clear e1 h1
  generalize nmB x y = T at *
  obtain ⟨a, b, ha, hb, e2, e3⟩ := nforth h2
  have P4 := fun W (hW : NTab W) => p_nseg_any (a : Int) (b : Int) W hW
  rw [nseg_of a b ha hb] at P4
  have P5 := fun W => p_nchk_any s W (by omega)
  have P6 := fun W (hW : NTab W) => p_nkind_any s W (by omega) hW
  rw [e3, nchk_B] at P5
  rw [e3, nkind_B a b ha hb] at P6
  rw [e2, e3] at P3
  rw [← e3] at P3 P4 P5 P6
  dsimp only at P3 P4
  have q3 : (s == s) = true := beq_self_eq_true _
  replace P4 := Lib.hid P4
  replace P5 := Lib.hid P5
  replace P6 := Lib.hid P6
  clear e2 e3 h2 ha hb
  replace P1 := Lib.hid P1
  replace P3 := Lib.hid P3
  go_enter Tryd.func4, Tryd.ntmps4
  go_wp2_with (first
    | (go_at_call 9; (with_reducible refine (P1.out _ (HT.out.of Hb.out)).mono ?_); rintro e w1 ⟨rfl, hb1⟩; replace Hb := Lib.hid (Hb.out.trans (hb1.mono Hb.out.size)); clear hb1; clear P1)
    | (go_at_call 7; (with_reducible refine (P2.out _ (HT.out.of Hb.out)).mono ?_); rintro e w2 ⟨rfl, hb2⟩; replace Hb := Lib.hid (Hb.out.trans (hb2.mono Hb.out.size)); clear hb2; clear P2)
    | (go_at_call 7; (with_reducible refine (P3.out _ (HT.out.of Hb.out)).mono ?_); rintro e w3 ⟨rfl, hb3⟩; replace Hb := Lib.hid (Hb.out.trans (hb3.mono Hb.out.size)); clear hb3; clear P3)
    | (go_at_call 9; (with_reducible refine (P4.out _ (HT.out.of Hb.out)).mono ?_); rintro e w4 ⟨rfl, hb4⟩; replace Hb := Lib.hid (Hb.out.trans (hb4.mono Hb.out.size)); clear hb4; clear P4)
    | (go_at_call 11; (with_reducible refine (P5.out _).mono ?_); rintro e w5 ⟨rfl, hb5⟩; replace Hb := Lib.hid (Hb.out.trans (hb5.mono Hb.out.size)); clear hb5; clear P5)
    | (go_at_call 13; (with_reducible refine (P6.out _ (HT.out.of Hb.out)).mono ?_); rintro e w6 ⟨rfl, hb6⟩; replace Hb := Lib.hid (Hb.out.trans (hb6.mono Hb.out.size)); clear hb6; clear P6)
    | (go_at_call 6; refine (awake18_any _ (HT.out.of Hb.out)).mono ?_; rintro e w9 ⟨rfl, hb9⟩; replace Hb := Lib.hid (Hb.out.trans (hb9.mono Hb.out.size)); clear hb9))
  go_ret
  exact ⟨rfl, Hb.out⟩
set_option maxRecDepth 100000 in
set_option maxHeartbeats 4000000 in
theorem nameBack_10 (i g : Int) (s : List UInt8) (w : World) (ht : NTab w) (h : s.length ≤ 1000) (h1 : (nsegF i g).2 = 0) (h2 : (nparF s).2.2 = false) :
    Calls Tryd.prog 4 #[.int .i64 i, .int .i64 g, .string ⟨s.toArray⟩] w fun e w' => e = .returned (.bool true) ∧ Below w.heap.size w w' := by
  have Hb := Lib.hid (Below.refl w.heap.size w)
  have HT := Lib.hid ht
  clear ht
  have hi : ¬ (1000 : Int) < (s.length : Int) := by omega
  have P1 := fun W (hW : NTab W) => p_nseg_any i g W hW
  have P3 := fun W (hW : NTab W) => p_npar_any s W (by omega) hW
  unfold NPost at P3
  obtain ⟨x, y, rfl, rfl, hx, hy, e1⟩ := nseg_ok h1
  rw [e1] at P1
  have P2 := fun W (hW : NTab W) => p_npar_any (nmB x y) W (by rw [nmB_len]; omega) hW
  unfold NPost at P2
  rw [nback x y hx hy] at P2
  dsimp only at P1 P2
  replace P2 := Lib.hid P2
  clear e1 h1
  generalize nmB x y = T at *
  obtain ⟨e2, e3⟩ := npar_no h2
  rw [e2] at P3
  have P6 := fun W (hW : NTab W) => p_nkind_any s W (by omega) hW
  dsimp only at P3
  replace P6 := Lib.hid P6
  clear e2 h2
  generalize nkindF s = K at *
  have q4 : (K != 1) = true := by rw [bne_iff_ne]; exact e3
  have q5 : ¬ K = 1 := e3
  replace P1 := Lib.hid P1
  replace P3 := Lib.hid P3
  go_enter Tryd.func4, Tryd.ntmps4
  go_wp2_with (first
    | (go_at_call 9; (with_reducible refine (P1.out _ (HT.out.of Hb.out)).mono ?_); rintro e w1 ⟨rfl, hb1⟩; replace Hb := Lib.hid (Hb.out.trans (hb1.mono Hb.out.size)); clear hb1; clear P1)
    | (go_at_call 7; (with_reducible refine (P2.out _ (HT.out.of Hb.out)).mono ?_); rintro e w2 ⟨rfl, hb2⟩; replace Hb := Lib.hid (Hb.out.trans (hb2.mono Hb.out.size)); clear hb2; clear P2)
    | (go_at_call 7; (with_reducible refine (P3.out _ (HT.out.of Hb.out)).mono ?_); rintro e w3 ⟨rfl, hb3⟩; replace Hb := Lib.hid (Hb.out.trans (hb3.mono Hb.out.size)); clear hb3; clear P3)
    | (go_at_call 13; (with_reducible refine (P6.out _ (HT.out.of Hb.out)).mono ?_); rintro e w6 ⟨rfl, hb6⟩; replace Hb := Lib.hid (Hb.out.trans (hb6.mono Hb.out.size)); clear hb6; clear P6)
    | (go_at_call 6; refine (awake18_any _ (HT.out.of Hb.out)).mono ?_; rintro e w9 ⟨rfl, hb9⟩; replace Hb := Lib.hid (Hb.out.trans (hb9.mono Hb.out.size)); clear hb9))
  go_ret
  exact ⟨rfl, Hb.out⟩
set_option maxRecDepth 100000 in
set_option maxHeartbeats 4000000 in
theorem nameBack_01 (i g : Int) (s : List UInt8) (w : World) (ht : NTab w) (h : s.length ≤ 1000) (h1 : (nsegF i g).2 ≠ 0) (h2 : (nparF s).2.2 = true) :
    Calls Tryd.prog 4 #[.int .i64 i, .int .i64 g, .string ⟨s.toArray⟩] w fun e w' => e = .returned (.bool true) ∧ Below w.heap.size w w' := by
  have Hb := Lib.hid (Below.refl w.heap.size w)
  have HT := Lib.hid ht
  clear ht
  have hi : ¬ (1000 : Int) < (s.length : Int) := by omega
  have P1 := fun W (hW : NTab W) => p_nseg_any i g W hW
  have P3 := fun W (hW : NTab W) => p_npar_any s W (by omega) hW
  unfold NPost at P3
  have q1 : ((nsegF i g).2 == 0) = false := by rw [beq_eq_false_iff_ne]; exact h1
  have q1' : ¬ (nsegF i g).2 = 0 := h1
  clear h1
  generalize (nsegF i g).1 = T at *
  generalize (nsegF i g).2 = E at *
  obtain ⟨a, b, ha, hb, e2, e3⟩ := nforth h2
  have P4 := fun W (hW : NTab W) => p_nseg_any (a : Int) (b : Int) W hW
  rw [nseg_of a b ha hb] at P4
  have P5 := fun W => p_nchk_any s W (by omega)
  have P6 := fun W (hW : NTab W) => p_nkind_any s W (by omega) hW
  rw [e3, nchk_B] at P5
  rw [e3, nkind_B a b ha hb] at P6
  rw [e2, e3] at P3
  rw [← e3] at P3 P4 P5 P6
  dsimp only at P3 P4
  have q3 : (s == s) = true := beq_self_eq_true _
  replace P4 := Lib.hid P4
  replace P5 := Lib.hid P5
  replace P6 := Lib.hid P6
  clear e2 e3 h2 ha hb
  replace P1 := Lib.hid P1
  replace P3 := Lib.hid P3
  go_enter Tryd.func4, Tryd.ntmps4
  go_wp2_with (first
    | (go_at_call 9; (with_reducible refine (P1.out _ (HT.out.of Hb.out)).mono ?_); rintro e w1 ⟨rfl, hb1⟩; replace Hb := Lib.hid (Hb.out.trans (hb1.mono Hb.out.size)); clear hb1; clear P1)
    | (go_at_call 7; (with_reducible refine (P3.out _ (HT.out.of Hb.out)).mono ?_); rintro e w3 ⟨rfl, hb3⟩; replace Hb := Lib.hid (Hb.out.trans (hb3.mono Hb.out.size)); clear hb3; clear P3)
    | (go_at_call 9; (with_reducible refine (P4.out _ (HT.out.of Hb.out)).mono ?_); rintro e w4 ⟨rfl, hb4⟩; replace Hb := Lib.hid (Hb.out.trans (hb4.mono Hb.out.size)); clear hb4; clear P4)
    | (go_at_call 11; (with_reducible refine (P5.out _).mono ?_); rintro e w5 ⟨rfl, hb5⟩; replace Hb := Lib.hid (Hb.out.trans (hb5.mono Hb.out.size)); clear hb5; clear P5)
    | (go_at_call 13; (with_reducible refine (P6.out _ (HT.out.of Hb.out)).mono ?_); rintro e w6 ⟨rfl, hb6⟩; replace Hb := Lib.hid (Hb.out.trans (hb6.mono Hb.out.size)); clear hb6; clear P6)
    | (go_at_call 6; refine (awake18_any _ (HT.out.of Hb.out)).mono ?_; rintro e w9 ⟨rfl, hb9⟩; replace Hb := Lib.hid (Hb.out.trans (hb9.mono Hb.out.size)); clear hb9))
  go_ret
  exact ⟨rfl, Hb.out⟩
set_option maxRecDepth 100000 in
set_option maxHeartbeats 4000000 in
theorem nameBack_00 (i g : Int) (s : List UInt8) (w : World) (ht : NTab w) (h : s.length ≤ 1000) (h1 : (nsegF i g).2 ≠ 0) (h2 : (nparF s).2.2 = false) :
    Calls Tryd.prog 4 #[.int .i64 i, .int .i64 g, .string ⟨s.toArray⟩] w fun e w' => e = .returned (.bool true) ∧ Below w.heap.size w w' := by
  have Hb := Lib.hid (Below.refl w.heap.size w)
  have HT := Lib.hid ht
  clear ht
  have hi : ¬ (1000 : Int) < (s.length : Int) := by omega
  have P1 := fun W (hW : NTab W) => p_nseg_any i g W hW
  have P3 := fun W (hW : NTab W) => p_npar_any s W (by omega) hW
  unfold NPost at P3
  have q1 : ((nsegF i g).2 == 0) = false := by rw [beq_eq_false_iff_ne]; exact h1
  have q1' : ¬ (nsegF i g).2 = 0 := h1
  clear h1
  generalize (nsegF i g).1 = T at *
  generalize (nsegF i g).2 = E at *
  obtain ⟨e2, e3⟩ := npar_no h2
  rw [e2] at P3
  have P6 := fun W (hW : NTab W) => p_nkind_any s W (by omega) hW
  dsimp only at P3
  replace P6 := Lib.hid P6
  clear e2 h2
  generalize nkindF s = K at *
  have q4 : (K != 1) = true := by rw [bne_iff_ne]; exact e3
  have q5 : ¬ K = 1 := e3
  replace P1 := Lib.hid P1
  replace P3 := Lib.hid P3
  go_enter Tryd.func4, Tryd.ntmps4
  go_wp2_with (first
    | (go_at_call 9; (with_reducible refine (P1.out _ (HT.out.of Hb.out)).mono ?_); rintro e w1 ⟨rfl, hb1⟩; replace Hb := Lib.hid (Hb.out.trans (hb1.mono Hb.out.size)); clear hb1; clear P1)
    | (go_at_call 7; (with_reducible refine (P3.out _ (HT.out.of Hb.out)).mono ?_); rintro e w3 ⟨rfl, hb3⟩; replace Hb := Lib.hid (Hb.out.trans (hb3.mono Hb.out.size)); clear hb3; clear P3)
    | (go_at_call 13; (with_reducible refine (P6.out _ (HT.out.of Hb.out)).mono ?_); rintro e w6 ⟨rfl, hb6⟩; replace Hb := Lib.hid (Hb.out.trans (hb6.mono Hb.out.size)); clear hb6; clear P6)
    | (go_at_call 6; refine (awake18_any _ (HT.out.of Hb.out)).mono ?_; rintro e w9 ⟨rfl, hb9⟩; replace Hb := Lib.hid (Hb.out.trans (hb9.mono Hb.out.size)); clear hb9))
  go_ret
  exact ⟨rfl, Hb.out⟩
theorem nameBack_walk (i g : Int) (s : List UInt8) (w : World) (ht : NTab w) : Calls Tryd.prog 4 #[.int .i64 i, .int .i64 g, .string ⟨s.toArray⟩] w fun e w' => e = .returned (.bool true) ∧ Below w.heap.size w w' := by
  by_cases h : 1000 < s.length
  · exact nameBack_far i g s w ht h
  · cases h2 : (nparF s).2.2 with
    | true =>
      by_cases h1 : (nsegF i g).2 = 0
      · exact nameBack_11 i g s w ht (by omega) h1 h2
      · exact nameBack_01 i g s w ht (by omega) h1 h2
    | false =>
      by_cases h1 : (nsegF i g).2 = 0
      · exact nameBack_10 i g s w ht (by omega) h1 h2
      · exact nameBack_00 i g s w ht (by omega) h1 h2
namespace NameBack
noncomputable def start (os : Os) : World := World.doorLaid Tryd.prog 400 os
theorem start_met (os : Os) : laidMetH Tryd.prog Rows.nameBackRow.laid ((start os).forCall (fun _ _ => 0) ⟨#[], #[.int .i64 0, .int .i64 0, .string ⟨#[]⟩], []⟩).memory :=
  laidMetH_of_parts3 (fuel := 8) (laidMet_of_run' 8 (by kernel_rfl) (by kernel_rfl)) (by kernel_rfl) (by kernel_rfl)
set_option maxRecDepth 100000 in
theorem lifted (os : Os) (started : os.Started) (H : Type) (enc : TypeId × Value → H) (F : Stop.Interp) :
    ReturnsInHanded {} Tryd.checked os 4 .any ((OpenSpec.ofChange Rows.nameBackSpec).preRow enc Tryd.prog Tryd.f4 Rows.nameBackRow.domain false Rows.nameBackRow.laid) (((OpenSpec.ofChange Rows.nameBackSpec).at F).post enc Tryd.prog Tryd.f4 false true false false) := by
  refine law_laid (C := Tryd.checked) (tb := 4) ownP started (by kernel_rfl) Tryd.func4
    (witness_row_shaped (enc := enc) (C := Tryd.checked) (start os) #[.int .i64 0, .int .i64 0, .string ⟨#[]⟩] rfl (World.shaped_of_RefB (by kernel_rfl) (by kernel_rfl)) (by kernel_rfl)
      (preRow_plain 8 (by kernel_rfl) rfl (by kernel_rfl) (start_met os)))
    laidP (by kernel_rfl) rfl (by kernel_rfl) Tryd.underlying4 (by intro ds h; match ds, h with | [_, _, _], _ => rfl) ?_
  intro W base args ds p hval0 hA0 hlt _ hL
  have hT : NTab W := ntab_laid hL
  have hval : ∀ (j : Nat) t v, Tryd.f4.params[j]? = some t → args[j]? = some v → Value.okWide Tryd.prog W .any base t v := hval0
  have hA : DataW.TrodAll enc Tryd.prog W 0 (fun _ => true) true Tryd.f4.params.toList args.toList ds p := hA0
  rw [Tryd.params4] at hA hval
  obtain ⟨v0, v1, v2, d0, d1, d2, p0, p1, p2, rfl, rfl, rfl, h0, h1, h2⟩ := trodAll_three hA
  obtain ⟨i, rfl, rfl, rfl, wi⟩ := open_int Tryd.underlying3 (hval 0 3 v0 rfl rfl) h0
  obtain ⟨g, rfl, rfl, rfl, wg⟩ := open_int Tryd.underlying3 (hval 1 3 v1 rfl rfl) h1
  obtain ⟨s, rfl, rfl⟩ := open_bytes Tryd.underlying9 (hval 2 9 v2 rfl rfl) h2
  exact nameBack_walk i g s W hT
theorem said : Rows.NameBackSaid :=
  OpenClaim.holds_of_cond 4 Tryd.f4 rfl rfl rfl rfl rfl rfl rfl ⟨rfl, rfl, rfl, rfl, rfl⟩ rfl rfl rfl rfl rfl (by kernel_rfl) Tryd.func4 (by kernel_rfl)
    (of_decide_eq_true (by kernel_rfl)) (by unfold Func.isWrapper; first | (rw [if_pos (by decide +kernel)]; kernel_rfl) | (rw [if_neg (by decide +kernel)]; exact ⟨rfl, rfl⟩))
    (fun os started H enc _ F => by rw [OpenClaim.pre_eq_preRow]; exact lifted os started H enc F)
theorem plain (f : FuncId) (fn : Func) (hf : Tryd.pinned.checked.prog.funcNamed "varve/varvelaw18.NameBack" = some f) (hfn : Tryd.pinned.checked.prog.funcs[f]? = some fn) :
    false = Tryd.pinned.checked.prog.looks [] ∧ ∀ (j : Nat) t, fn.params[j]? = some t → Tryd.pinned.checked.prog.wantsStandIn t = false := by
  obtain rfl : f = 4 := Option.some.inj ((show Tryd.prog.funcNamed "varve/varvelaw18.NameBack" = some 4 by kernel_rfl).symm.trans hf) |>.symm
  obtain rfl : fn = Tryd.f4 := (Option.some.inj (Tryd.func4.symm.trans hfn)).symm
  refine ⟨by kernel_rfl, fun j t ht => ?_⟩
  have hall : (Tryd.f4.params.toList.all fun u => !Tryd.prog.wantsStandIn u) = true := by kernel_rfl
  have := List.all_eq_true.1 hall t (Array.mem_toList_iff.2 (Array.mem_of_getElem? ht))
  exact (show Tryd.prog.wantsStandIn t = false by simpa using this)
theorem holds : Rows.NameBackCardSaid :=
  Claim7.holds_tied_plain_at .later [] _ _ _ _ said (fun _ h => by cases h) (by kernel_rfl) (fun _ h => by cases h) nameBack_row_tie rfl ⟨rfl, rfl⟩ (by kernel_rfl) rfl plain (by kernel_rfl)
end NameBack
end Go.Proofs.YtmejcckbbcgmnaaDoor
