/-
  Symbols come back of their bytes; cut by a byte, or longer by one, these are no symbols'; the layer's probe holds (HuffBack). No condition.
-/
import Derived.Test.YtpocpckhcciecaaRows
import Derived.Test.YtpocpckhcciecaaMg01
import Derived.Test.YtpocpckhcciecaaMg02
import Derived.Test.YtpocpckhcciecaaMg03
import Derived.Test.YtpocpckhcciecaaMg04
import Derived.Test.YtpocpckhcciecaaMg05
import Derived.Test.YtpocpckhcciecaaMg06
import Derived.Test.YtpocpckhcciecaaMg07
import Derived.Test.YtpocpckhcciecaaMg08
import Derived.Test.YtpocpckhcciecaaMg09
import Derived.Test.YtpocpckhcciecaaMg10
import Derived.Test.YtpocpckhcciecaaMg11
import Derived.Test.YtpocpckhcciecaaMg12
import Derived.Test.YtpocpckhcciecaaMg13
import Derived.Test.YtpocpckhcciecaaMg14
import Derived.Test.YtpocpckhcciecaaMg15
import Derived.Test.YtpocpckhcciecaaMg16
import Derived.Test.YtpocpckhcciecaaMg17
import Derived.Test.YtpocpckhcciecaaMg18
import Derived.Test.YtpocpckhcciecaaMg19
import Derived.Test.YtpocpckhcciecaaMg20
import Derived.Test.YtpocpckhcciecaaMg21
import Derived.Test.YtpocpckhcciecaaMg22
import Derived.Test.YtpocpckhcciecaaMg23
import Derived.Test.YtpocpckhcciecaaMg24
import Derived.Test.YtpocpckhcciecaaMg25
import Derived.Test.YtpocpckhcciecaaMg26
import Derived.Test.YtpocpckhcciecaaMg27
import Derived.Test.YtpocpckhcciecaaMg28
import Derived.Test.YtpocpckhcciecaaMg29
import Derived.Test.YtpocpckhcciecaaMg30
import Derived.Test.YtpocpckhcciecaaMg31
import Derived.Test.YtpocpckhcciecaaMg32
import Derived.Test.YtpocpckhcciecaaMg33
import Derived.Test.YtpocpckhcciecaaMg34
import Derived.Test.YtpocpckhcciecaaMg35
import Derived.Test.YtpocpckhcciecaaMg36
import Derived.Test.YtpocpckhcciecaaMg37
import Derived.Test.YtpocpckhcciecaaMg38
import Derived.Test.YtpocpckhcciecaaMg39
import Derived.Test.YtpocpckhcciecaaMg40
import Derived.Test.YtpocpckhcciecaaMg41
import Derived.Test.YtpocpckhcciecaaMg42
import Derived.WalkKit
import Derived.WalkSpells
import Derived.WalkLawsBesides
import Derived.ProofKit
import Derived.OpenShut
import Derived.Handy
import Derived.SizedLaws
import Derived.JoinedOf
import Derived.KernelRfl
import Derived.Lib.Hide
import Derived.Lib.SmallJoins
import Derived.Deep.Slices
import Derived.Deep.Fields
import Derived.Deep.SlicePairs
import Derived.Deep.Draws
import Derived.Deep.AppendLies
import Derived.Deep.QuietTactic
import Derived.BigQuiet
import Derived.Deep.RegionHeld3
import Derived.StillTailTactics
import Derived.Laws.OwnMore
import Derived.Laws.Rows
import Derived.Below
import Derived.Carry
import Derived.Lib.BitFns
import Derived.Deep.OwnRows
import Derived.WalkMore
import Derived.Laws.BytesString
import Derived.Laws.BitsLemmas
import Derived.Laws.Concat
import Derived.Laws.EntriesVeiled
import Derived.OwnWalk
import Derived.Shelf.Spec.SlicesGrow
import Derived.ChangeMaps5
import Derived.Lib.OwnBridge
import Derived.Shelf.SlSorted.Search
import Derived.Deep.RegionWith
import Derived.Deep.Upon
import Derived.Sort.WalkB2
import Derived.Sort.WalkB12
import Derived.Deep.LoopGhost
import Derived.Shelf.SlSortCmp.KitK
import Derived.Deep.RegionLaw
import Derived.Laws.CopyOwn
import Derived.Laws.Bits64b
namespace Go.Proofs.Ytpocpckhcciecaa
set_option linter.unusedSimpArgs false
set_option linter.unusedVariables false
open Go.ChangeShapes Go.WideShapes Go.ChangeAt Go.RowKit Go.Joins Go.Deep
set_option maxHeartbeats 2000000 in
/-- Beyond the sizes that the statement looks at: the probe alone. -/
theorem huffBack_far (A : Option Addr) (n c : Nat) (w : World) (h : 2000 < n) :
    Calls Try.prog 4 #[.slice A n c] w fun e w' => e = .returned (.bool true) ∧ Below w.heap.size w w' := by
  have h1 : (2000 : Int) < n := by omega
  go_enter Try.func4, Try.ntmps4
  go_wp2_with (go_at_call 6; refine (awake11_any _).mono ?_; rintro e w9 ⟨rfl, hb9⟩)
  go_ret
  exact ⟨rfl, hb9⟩
theorem hstr_head (l : List UInt8) (p : Nat) (hp : p ≤ l.length) (w : World) :
    (Instr.slice 9 (.string ⟨l.toArray⟩) none (some (.int .i64 (p : Int))) none).run Try.prog w = .ok (.string ⟨(l.take p).toArray⟩) w := by
  rw [run_slice_string_h w 9 ⟨l.toArray⟩ Try.underlying9 .i64 (p : Int) (by omega) (by rw [ByteArray.size_mk', List.size_toArray]; omega), ByteArray.extract_mk, List.drop_zero, Nat.sub_zero, Int.toNat_natCast]
theorem hstr_add (a b : List UInt8) (h : a.length + b.length ≤ 9223372036854775807) (w : World) : (Op.stringOp .add ⟨a.toArray⟩ ⟨b.toArray⟩).run Try.prog w = .ok (.string ⟨(a ++ b).toArray⟩) w := by
  rw [run_string_add_sum w _ _ (by rw [ByteArray.size_mk', ByteArray.size_mk', List.size_toArray, List.size_toArray]; exact h), ByteArray.mk_append_mk]
set_option maxRecDepth 100000 in
set_option maxHeartbeats 4000000 in
theorem huffBack_none (A : Option Addr) (n c : Nat) (l : List Int) (w : World) (hr : Reads w w.heap.size 1 A n (ints l)) (h : n ≤ 2000) (hE : (hcF l).2 ≠ 0) :
    Calls Try.prog 4 #[.slice A n c] w fun e w' => e = .returned (.bool true) ∧ Below w.heap.size w w' := by
  have h1 : ¬ (2000 : Int) < n := by omega
  have hp := p_hencode_any l A n c w (by omega) hr
  rw [show hencF l = ([], (hcF l).2) from if_neg hE] at hp
  have Hp : Hid (Calls Try.prog 7 #[.slice A n c] w fun e w' => e = .returned (.tuple #[.string ⟨#[]⟩, .int .i64 (hcF l).2]) ∧ Below w.heap.size w w') := Lib.hid hp
  have Hs : Hid (∀ W, Below w.heap.size w W → Calls Try.prog 12 #[.slice A n c] W fun e w' => e = .returned (.int .i64 0) ∧ Below W.heap.size W w') := Lib.hid fun W hW => by
    have := p_hsize_any l A n c W (by omega) (hr.onto hW)
    rwa [show hsizeF l = 0 from if_neg hE] at this
  have hb1 : ((hcF l).2 == 0) = false := by simpa using hE
  have hb2 : ((hcF l).2 != 0) = true := by simpa using hE
  clear hr h hE hp
  generalize (hcF l).2 = E at *
  go_enter Try.func4, Try.ntmps4
  go_wp2_with (first
    | (go_at_call 7; refine Hp.out.mono ?_; rintro e w1 ⟨rfl, hb1⟩; have Hb := Lib.hid hb1; clear hb1)
    | (go_at_call 12; refine (Hs.out _ Hb.out).mono ?_; rintro e w2 ⟨rfl, hb2⟩; replace Hb := Lib.hid (Hb.out.trans (hb2.mono Hb.out.size)); clear hb2)
    | (go_at_call 6; refine (awake11_any _).mono ?_; rintro e w9 ⟨rfl, hb9⟩; replace Hb := Lib.hid (Hb.out.trans (hb9.mono Hb.out.size)); clear hb9))
  go_ret
  exact ⟨rfl, Hb.out⟩
set_option maxRecDepth 100000 in
set_option maxHeartbeats 8000000 in
theorem huffBack_near (A : Option Addr) (n c : Nat) (l : List Int) (w : World) (hr : Reads w w.heap.size 1 A n (ints l)) (h : n ≤ 2000) (hE : (hcF l).2 = 0) :
    Calls Try.prog 4 #[.slice A n c] w fun e w' => e = .returned (.bool true) ∧ Below w.heap.size w w' := by
  have h1 : ¬ (2000 : Int) < n := by omega
  have el : l.length = n := by have := hr.1; rw [ints_length] at this; omega
  obtain ⟨hl, hin0, _⟩ := hc_ok hE
  have hp := p_hencode_any l A n c w (by omega) hr
  rw [show hencF l = (text (hB l), 0) from if_pos hE] at hp
  dsimp only at hp
  have Hp := Lib.hid hp
  have Hs : Hid (∀ W, Below w.heap.size w W → Calls Try.prog 12 #[.slice A n c] W fun e w' => e = .returned (.int .i64 ((hB l).length : Int)) ∧ Below W.heap.size W w') := Lib.hid fun W hW => by
    have := p_hsize_any l A n c W (by omega) (hr.onto hW)
    rwa [show hsizeF l = (hB l).length from if_pos hE] at this
  have hxl := htext_len hl
  have htl := text_length (hB l)
  have hpos := hB_pos l
  have hbl := hB_len hl
  have hd1 := fun W => p_hdecode_any (text (hB l)) (l.length : Int) W (by omega)
  rw [hback hl hin0, el] at hd1
  unfold HCPost at hd1
  dsimp only at hd1
  rw [el] at hd1
  have Hd1 := Lib.hid hd1
  obtain ⟨p, hpx⟩ : ∃ p, p + 1 = (text (hB l)).length := ⟨(text (hB l)).length - 1, by omega⟩
  have hcu := hcut hl hin0 p hpx
  have hpa := hpad hl hin0 0
  have hd2 := fun W => p_hdecode_any ((text (hB l)).take p) (l.length : Int) W (by rw [List.length_take]; omega)
  have hd3 := fun W => p_hdecode_any (text (hB l) ++ [0]) (l.length : Int) W (by rw [List.length_append]; show _ + 1 ≤ _; omega)
  rw [el] at hd2 hd3 hcu hpa
  obtain ⟨F2, hF2⟩ : ∃ F2, hdecF ((text (hB l)).take p) (n : Int) = F2 := ⟨_, rfl⟩
  obtain ⟨F3, hF3⟩ : ∃ F3, hdecF (text (hB l) ++ [0]) (n : Int) = F3 := ⟨_, rfl⟩
  rw [hF2] at hd2 hcu
  rw [hF3] at hd3 hpa
  obtain ⟨L2, E2⟩ := F2
  obtain ⟨L3, E3⟩ := F3
  unfold HCPost at hd2 hd3
  dsimp only at hd2 hd3 hcu hpa
  subst hpa
  have Hd2 := Lib.hid hd2
  have Hd3 := Lib.hid hd3
  have hadd := fun w => hstr_add (text (hB l)) [0] (by show _ + 1 ≤ _; omega) w
  have thd := fun w => hstr_head (text (hB l)) p (by omega) w
  have Hsame : Hid (∀ (xs : List Int) (N : Nat) (A1 A2 : Option Addr) (c1 c2 : Nat) (W : World), N ≤ 1000000 → Reads W W.heap.size 1 A1 N (ints xs) → Reads W W.heap.size 1 A2 N (ints xs) → Calls Try.prog 11 #[.slice A1 N c1, .slice A2 N c2] W fun e w' => e = .returned (.bool true) ∧ Below W.heap.size W w') := Lib.hid fun xs N A1 A2 c1 c2 W hn h1 h2 => by
    have := same_any A1 A2 N N c1 c2 xs xs W h1 h2 (by omega) (by omega)
    rwa [show decide (xs = xs) = true from by simp] at this
  have Hr := Lib.hid hr
  generalize text (hB l) = X at *
  obtain ⟨m, hm⟩ : ∃ m, (hB l).length = m := ⟨_, rfl⟩
  rw [hm] at Hs htl hpos hbl
  have hmi : (m : Int) ≤ 1000000 ∧ (4 : Int) ≤ (m : Int) := by omega
  have hm7 : ((m : Int) + 7) / 8 = (X.length : Int) := by omega
  have hE1 : ((X.length : Int) == (X.length : Int)) = true := by simp
  have hx1 : (1 : Int) ≤ (X.length : Int) ∧ ¬ (X.length : Int) < 1 := by omega
  have hsub : (X.length : Int) - 1 = (p : Int) := by omega
  have hw1 : IntKind.i64.wrap ((X.length : Int) - 1) = (p : Int) := by rw [IntKind.wrap_i64]; omega
  have hw2 : IntKind.i64.wrap (p : Int) = (p : Int) := by rw [IntKind.wrap_i64]; omega
  have hpi : (0 : Int) ≤ (p : Int) ∧ (p : Int) ≤ (X.length : Int) := by omega
  have hb1 : (E2 == 0) = false := by simpa using hcu
  have hb2 : (E2 != 0) = true := by simpa using hcu
  have hni : (n : Int) ≤ 2000 := by omega
  clear hr h hE hp el hl hin0 hxl htl hpos hbl hd1 hpx hcu hd2 hd3 hF2 hF3 hm
  go_enter Try.func4, Try.ntmps4
  go_wp2_with (first
    | (go_at_call 7; refine Hp.out.mono ?_; rintro e w1 ⟨rfl, hb1⟩; have Hb := Lib.hid hb1; clear hb1)
    | (go_at_call 14; (with_reducible refine (Hd1.out _).mono ?_); rintro e w2 ⟨A2, c2, rfl, _, hr2, hb2⟩; have Hr2 := Lib.hid hr2; replace Hb := Lib.hid (Hb.out.trans (hb2.mono Hb.out.size)); clear hb2; clear hr2)
    | (go_at_call 11; (with_reducible refine (Hsame.out l _ _ _ _ _ _ (by omega) Hr2.out (Hr.out.onto Hb.out)).mono ?_); rintro e w3 ⟨rfl, hb3⟩; replace Hb := Lib.hid (Hb.out.trans (hb3.mono Hb.out.size)); clear hb3; clear Hr2)
    | (go_at_call 12; refine (Hs.out _ Hb.out).mono ?_; rintro e w4 ⟨rfl, hb4⟩; replace Hb := Lib.hid (Hb.out.trans (hb4.mono Hb.out.size)); clear hb4)
    | (go_at_call 14; (with_reducible refine (Hd2.out _).mono ?_); rintro e w5 ⟨A5, c5, rfl, _, _, hb5⟩; replace Hb := Lib.hid (Hb.out.trans (hb5.mono Hb.out.size)); clear hb5)
    | (go_at_call 14; (with_reducible refine (Hd3.out _).mono ?_); rintro e w6 ⟨A6, c6, rfl, _, _, hb6⟩; replace Hb := Lib.hid (Hb.out.trans (hb6.mono Hb.out.size)); clear hb6)
    | (go_at_call 6; refine (awake11_any _).mono ?_; rintro e w9 ⟨rfl, hb9⟩; replace Hb := Lib.hid (Hb.out.trans (hb9.mono Hb.out.size)); clear hb9))
  go_ret
  exact ⟨rfl, Hb.out⟩
theorem huffBack_walk (A : Option Addr) (n c : Nat) (l : List Int) (w : World) (hr : Reads w w.heap.size 1 A n (ints l)) :
    Calls Try.prog 4 #[.slice A n c] w fun e w' => e = .returned (.bool true) ∧ Below w.heap.size w w' := by
  by_cases h : n ≤ 2000
  · by_cases hE : (hcF l).2 = 0
    · exact huffBack_near A n c l w hr h hE
    · exact huffBack_none A n c l w hr h hE
  · exact huffBack_far A n c w (by omega)
namespace HuffBack
set_option maxRecDepth 100000 in
theorem lifted (os : Os) (started : os.Started) (H : Type) (enc : TypeId × Value → H) :
    ReturnsInHanded {} Try.checked os 4 .any (Rows.huffBackSpec.pre6 enc Try.prog Try.f4 Rows.huffBackRow.domain false) (Rows.huffBackSpec.post enc Try.prog Try.f4 false true false false) := by
  refine law_sized (C := Try.checked) (tb := 4) ownP started (by kernel_rfl) Try.func4
    (ChangeSpec.witness6 (enc := enc) (C := Try.checked) false ⟨#[], #[.slice none 0 0], []⟩ 8 (by kernel_rfl) (by kernel_rfl) (by kernel_rfl) (by kernel_rfl))
    laidP (by kernel_rfl) rfl (by kernel_rfl) Try.underlying4 (by intro ds h; match ds, h with | [_], _ => rfl) ?_
  intro W base args ds p hval0 hA0 hlt _
  have hval : ∀ (j : Nat) t v, Try.f4.params[j]? = some t → args[j]? = some v → Value.okWide Try.prog W .any base t v := hval0
  have hA : DataW.TrodAll enc Try.prog W 0 (fun _ => true) true Try.f4.params.toList args.toList ds p := hA0
  rw [Try.params4] at hA hval
  obtain ⟨v0, d0, rfl, rfl, h0⟩ := trodAll_one hA
  obtain ⟨Aks, nks, cks, ks, rfl, eks, hnks, hmks, hrks, hbks⟩ := open_nums rfl Try.underlying22 Try.underlying3 (by kernel_rfl) (hval 0 22 v0 rfl rfl) h0
  exact huffBack_walk Aks nks cks ks W hrks
theorem holds : Rows.HuffBackSaid :=
  OpenClaim.holds_of_wide 4 Try.f4 rfl rfl rfl rfl rfl rfl rfl ⟨rfl, rfl, rfl, rfl, rfl⟩ rfl rfl rfl rfl rfl (by kernel_rfl) Try.func4 (by kernel_rfl)
    (of_decide_eq_true (by kernel_rfl)) (by unfold Func.isWrapper; first | (rw [if_pos (by decide +kernel)]; kernel_rfl) | (rw [if_neg (by decide +kernel)]; exact ⟨rfl, rfl⟩))
    (fun os started H enc _ => lifted os started H enc)
end HuffBack
end Go.Proofs.Ytpocpckhcciecaa
