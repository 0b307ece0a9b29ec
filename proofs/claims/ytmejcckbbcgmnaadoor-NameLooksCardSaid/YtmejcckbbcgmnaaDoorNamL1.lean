/-
  Any text may be a name, or not, of the document's kind, and of its segment; any numbers have its name, or none; the layer's probe holds (NameLooks). No condition.
-/
import Derived.Test.YtmejcckbbcgmnaaDoorNamAw
import Derived.Test.YtmejcckbbcgmnaaDoorLaid
namespace Go.Proofs.YtmejcckbbcgmnaaDoor
set_option linter.unusedSimpArgs false
set_option linter.unusedVariables false
open Go.ChangeShapes Go.WideShapes Go.ChangeAt Go.RowKit Go.Joins Go.Deep
set_option maxHeartbeats 2000000 in
theorem nameLooks_far (s : List UInt8) (i g : Int) (w : World) (ht : NTab w) (h : 1000 < s.length) :
    Calls Tryd.prog 3 #[.string ⟨s.toArray⟩, .int .i64 i, .int .i64 g] w fun e w' => e = .returned (.bool true) ∧ Below w.heap.size w w' := by
  have Hb := Lib.hid (Below.refl w.heap.size w)
  have HT := Lib.hid ht
  clear ht
  have hi : (1000 : Int) < (s.length : Int) := by omega
  go_enter Tryd.func3, Tryd.ntmps3
  go_wp2_with (first | (go_at_call 6; refine (awake18_any _ (HT.out.of Hb.out)).mono ?_; rintro e w9 ⟨rfl, hb9⟩; replace Hb := Lib.hid (Hb.out.trans (hb9.mono Hb.out.size)); clear hb9) | fail)
  go_ret
  exact ⟨rfl, Hb.out⟩
set_option maxRecDepth 100000 in
set_option maxHeartbeats 4000000 in
theorem nameLooks_near (s : List UInt8) (i g : Int) (w : World) (ht : NTab w) (h : s.length ≤ 1000) :
    Calls Tryd.prog 3 #[.string ⟨s.toArray⟩, .int .i64 i, .int .i64 g] w fun e w' => e = .returned (.bool true) ∧ Below w.heap.size w w' := by
  have Hb := Lib.hid (Below.refl w.heap.size w)
  have HT := Lib.hid ht
  clear ht
  have hi : ¬ (1000 : Int) < (s.length : Int) := by omega
  have P1 := fun W (hW : NTab W) => p_npar_any s W (by omega) hW
  have P2 := fun W => nref_parse_any s W (by omega)
  have P3 := Lib.hid fun W (hW : NTab W) => p_nseg_any i g W hW
  have P4 := Lib.hid fun W => nref_seg_any i g W
  have P5 := Lib.hid fun W => p_nchk_any s W (by omega)
  have P6 := Lib.hid fun W => nref_check_any s W (by omega)
  have P7 := Lib.hid fun W (hW : NTab W) => p_nkind_any s W (by omega) hW
  have P8 := Lib.hid fun W => nref_kind_any s W (by omega)
  unfold NPost at P1 P2
  replace P1 := Lib.hid P1
  replace P2 := Lib.hid P2
  generalize (nparF s).1 = a at *
  generalize (nparF s).2.1 = b at *
  generalize (nparF s).2.2 = ok at *
  generalize (nsegF i g).1 = X at *
  generalize (nsegF i g).2 = E at *
  generalize nchkF s = C at *
  generalize nkindF s = K at *
  have q1 : (X == X) = true := beq_self_eq_true _
  have q2 : (ok == ok) = true := beq_self_eq_true _
  have q3 : (E == E) = true := beq_self_eq_true _
  have q4 : (C == C) = true := beq_self_eq_true _
  have q5 : (K == K) = true := beq_self_eq_true _
  have q6 : (a == a) = true := beq_self_eq_true _
  have q7 : (b == b) = true := beq_self_eq_true _
  go_enter Tryd.func3, Tryd.ntmps3
  go_wp2_with (first
    | (go_at_call 7; (with_reducible refine (P1.out _ (HT.out.of Hb.out)).mono ?_); rintro e w1 ⟨rfl, hb1⟩; replace Hb := Lib.hid (Hb.out.trans (hb1.mono Hb.out.size)); clear hb1; clear P1)
    | (go_at_call 8; (with_reducible refine (P2.out _).mono ?_); rintro e w2 ⟨rfl, hb2⟩; replace Hb := Lib.hid (Hb.out.trans (hb2.mono Hb.out.size)); clear hb2; clear P2)
    | (go_at_call 9; (with_reducible refine (P3.out _ (HT.out.of Hb.out)).mono ?_); rintro e w3 ⟨rfl, hb3⟩; replace Hb := Lib.hid (Hb.out.trans (hb3.mono Hb.out.size)); clear hb3; clear P3)
    | (go_at_call 10; (with_reducible refine (P4.out _).mono ?_); rintro e w4 ⟨rfl, hb4⟩; replace Hb := Lib.hid (Hb.out.trans (hb4.mono Hb.out.size)); clear hb4; clear P4)
    | (go_at_call 11; (with_reducible refine (P5.out _).mono ?_); rintro e w5 ⟨rfl, hb5⟩; replace Hb := Lib.hid (Hb.out.trans (hb5.mono Hb.out.size)); clear hb5; clear P5)
    | (go_at_call 12; (with_reducible refine (P6.out _).mono ?_); rintro e w6 ⟨rfl, hw6⟩; subst hw6; clear P6)
    | (go_at_call 13; (with_reducible refine (P7.out _ (HT.out.of Hb.out)).mono ?_); rintro e w7 ⟨rfl, hb7⟩; replace Hb := Lib.hid (Hb.out.trans (hb7.mono Hb.out.size)); clear hb7; clear P7)
    | (go_at_call 14; (with_reducible refine (P8.out _).mono ?_); rintro e w8 ⟨rfl, hb8⟩; replace Hb := Lib.hid (Hb.out.trans (hb8.mono Hb.out.size)); clear hb8; clear P8)
    | (go_at_call 6; refine (awake18_any _ (HT.out.of Hb.out)).mono ?_; rintro e w9 ⟨rfl, hb9⟩; replace Hb := Lib.hid (Hb.out.trans (hb9.mono Hb.out.size)); clear hb9))
  go_ret
  exact ⟨rfl, Hb.out⟩
theorem nameLooks_walk (s : List UInt8) (i g : Int) (w : World) (ht : NTab w) : Calls Tryd.prog 3 #[.string ⟨s.toArray⟩, .int .i64 i, .int .i64 g] w fun e w' => e = .returned (.bool true) ∧ Below w.heap.size w w' := by
  by_cases h : 1000 < s.length
  · exact nameLooks_far s i g w ht h
  · exact nameLooks_near s i g w ht (by omega)
namespace NameLooks
noncomputable def start (os : Os) : World := World.doorLaid Tryd.prog 400 os
theorem start_met (os : Os) : laidMetH Tryd.prog Rows.nameLooksRow.laid ((start os).forCall (fun _ _ => 0) ⟨#[], #[.string ⟨#[]⟩, .int .i64 0, .int .i64 0], []⟩).memory :=
  laidMetH_of_parts3 (fuel := 8) (laidMet_of_run' 8 (by kernel_rfl) (by kernel_rfl)) (by kernel_rfl) (by kernel_rfl)
set_option maxRecDepth 100000 in
theorem lifted (os : Os) (started : os.Started) (H : Type) (enc : TypeId × Value → H) (F : Stop.Interp) :
    ReturnsInHanded {} Tryd.checked os 3 .any ((OpenSpec.ofChange Rows.nameLooksSpec).preRow enc Tryd.prog Tryd.f3 Rows.nameLooksRow.domain false Rows.nameLooksRow.laid) (((OpenSpec.ofChange Rows.nameLooksSpec).at F).post enc Tryd.prog Tryd.f3 false true false false) := by
  refine law_laid (C := Tryd.checked) (tb := 4) ownP started (by kernel_rfl) Tryd.func3
    (witness_row_shaped (enc := enc) (C := Tryd.checked) (start os) #[.string ⟨#[]⟩, .int .i64 0, .int .i64 0] rfl (World.shaped_of_RefB (by kernel_rfl) (by kernel_rfl)) (by kernel_rfl)
      (preRow_plain 8 (by kernel_rfl) rfl (by kernel_rfl) (start_met os)))
    laidP (by kernel_rfl) rfl (by kernel_rfl) Tryd.underlying4 (by intro ds h; match ds, h with | [_, _, _], _ => rfl) ?_
  intro W base args ds p hval0 hA0 hlt _ hL
  have hT : NTab W := ntab_laid hL
  have hval : ∀ (j : Nat) t v, Tryd.f3.params[j]? = some t → args[j]? = some v → Value.okWide Tryd.prog W .any base t v := hval0
  have hA : DataW.TrodAll enc Tryd.prog W 0 (fun _ => true) true Tryd.f3.params.toList args.toList ds p := hA0
  rw [Tryd.params3] at hA hval
  obtain ⟨v0, v1, v2, d0, d1, d2, p0, p1, p2, rfl, rfl, rfl, h0, h1, h2⟩ := trodAll_three hA
  obtain ⟨s, rfl, rfl⟩ := open_bytes Tryd.underlying9 (hval 0 9 v0 rfl rfl) h0
  obtain ⟨i, rfl, rfl, rfl, wi⟩ := open_int Tryd.underlying3 (hval 1 3 v1 rfl rfl) h1
  obtain ⟨g, rfl, rfl, rfl, wg⟩ := open_int Tryd.underlying3 (hval 2 3 v2 rfl rfl) h2
  exact nameLooks_walk s i g W hT
theorem said : Rows.NameLooksSaid :=
  OpenClaim.holds_of_cond 3 Tryd.f3 rfl rfl rfl rfl rfl rfl rfl ⟨rfl, rfl, rfl, rfl, rfl⟩ rfl rfl rfl rfl rfl (by kernel_rfl) Tryd.func3 (by kernel_rfl)
    (of_decide_eq_true (by kernel_rfl)) (by unfold Func.isWrapper; first | (rw [if_pos (by decide +kernel)]; kernel_rfl) | (rw [if_neg (by decide +kernel)]; exact ⟨rfl, rfl⟩))
    (fun os started H enc _ F => by rw [OpenClaim.pre_eq_preRow]; exact lifted os started H enc F)
theorem plain (f : FuncId) (fn : Func) (hf : Tryd.pinned.checked.prog.funcNamed "varve/varvelaw18.NameLooks" = some f) (hfn : Tryd.pinned.checked.prog.funcs[f]? = some fn) :
    false = Tryd.pinned.checked.prog.looks [] ∧ ∀ (j : Nat) t, fn.params[j]? = some t → Tryd.pinned.checked.prog.wantsStandIn t = false := by
  obtain rfl : f = 3 := Option.some.inj ((show Tryd.prog.funcNamed "varve/varvelaw18.NameLooks" = some 3 by kernel_rfl).symm.trans hf) |>.symm
  obtain rfl : fn = Tryd.f3 := (Option.some.inj (Tryd.func3.symm.trans hfn)).symm
  refine ⟨by kernel_rfl, fun j t ht => ?_⟩
  have hall : (Tryd.f3.params.toList.all fun u => !Tryd.prog.wantsStandIn u) = true := by kernel_rfl
  have := List.all_eq_true.1 hall t (Array.mem_toList_iff.2 (Array.mem_of_getElem? ht))
  exact (show Tryd.prog.wantsStandIn t = false by simpa using this)
theorem holds : Rows.NameLooksCardSaid :=
  Claim7.holds_tied_plain_at .later [] _ _ _ _ said (fun _ h => by cases h) (by kernel_rfl) (fun _ h => by cases h) nameLooks_row_tie rfl ⟨rfl, rfl⟩ (by kernel_rfl) rfl plain (by kernel_rfl)
end NameLooks
end Go.Proofs.YtmejcckbbcgmnaaDoor
