/-
  Any symbols have the document's bytes, or none, and come as often as it says; the layer's probe holds (HuffEncodes). No condition.
-/
import Derived.Test.YtpocpckhcciecaaRows
import Derived.Test.YtpocpckhcciecaaMg01
import Derived.Test.YtpocpckhcciecaaMg02
import Derived.Test.YtpocpckhcciecaaMg03
import Derived.Test.YtpocpckhcciecaaMg04
import Derived.Test.YtpocpckhcciecaaMg05
import Derived.Test.YtpocpckhcciecaaMg06
import Derived.Test.YtpocpckhcciecaaMg07
import Derived.Test.YtpocpckhcciecaaMg08
import Derived.Test.YtpocpckhcciecaaMg09
import Derived.Test.YtpocpckhcciecaaMg10
import Derived.Test.YtpocpckhcciecaaMg11
import Derived.Test.YtpocpckhcciecaaMg12
import Derived.Test.YtpocpckhcciecaaMg13
import Derived.Test.YtpocpckhcciecaaMg14
import Derived.Test.YtpocpckhcciecaaMg15
import Derived.Test.YtpocpckhcciecaaMg16
import Derived.Test.YtpocpckhcciecaaMg17
import Derived.Test.YtpocpckhcciecaaMg18
import Derived.Test.YtpocpckhcciecaaMg19
import Derived.Test.YtpocpckhcciecaaMg20
import Derived.Test.YtpocpckhcciecaaMg21
import Derived.Test.YtpocpckhcciecaaMg22
import Derived.Test.YtpocpckhcciecaaMg23
import Derived.Test.YtpocpckhcciecaaMg24
import Derived.Test.YtpocpckhcciecaaMg25
import Derived.Test.YtpocpckhcciecaaMg26
import Derived.Test.YtpocpckhcciecaaMg27
import Derived.Test.YtpocpckhcciecaaMg28
import Derived.Test.YtpocpckhcciecaaMg29
import Derived.Test.YtpocpckhcciecaaMg30
import Derived.Test.YtpocpckhcciecaaMg31
import Derived.Test.YtpocpckhcciecaaMg32
import Derived.Test.YtpocpckhcciecaaMg33
import Derived.Test.YtpocpckhcciecaaMg34
import Derived.Test.YtpocpckhcciecaaMg35
import Derived.Test.YtpocpckhcciecaaMg36
import Derived.Test.YtpocpckhcciecaaMg37
import Derived.Test.YtpocpckhcciecaaMg38
import Derived.Test.YtpocpckhcciecaaMg39
import Derived.Test.YtpocpckhcciecaaMg40
import Derived.Test.YtpocpckhcciecaaMg41
import Derived.Test.YtpocpckhcciecaaMg42
import Derived.WalkKit
import Derived.WalkSpells
import Derived.WalkLawsBesides
import Derived.ProofKit
import Derived.OpenShut
import Derived.Handy
import Derived.SizedLaws
import Derived.JoinedOf
import Derived.KernelRfl
import Derived.Lib.Hide
import Derived.Lib.SmallJoins
import Derived.Deep.Slices
import Derived.Deep.Fields
import Derived.Deep.SlicePairs
import Derived.Deep.Draws
import Derived.Deep.AppendLies
import Derived.Deep.QuietTactic
import Derived.BigQuiet
import Derived.Deep.RegionHeld3
import Derived.StillTailTactics
import Derived.Laws.OwnMore
import Derived.Laws.Rows
import Derived.Below
import Derived.Carry
import Derived.Lib.BitFns
import Derived.Deep.OwnRows
import Derived.WalkMore
import Derived.Laws.BytesString
import Derived.Laws.BitsLemmas
import Derived.Laws.Concat
import Derived.Laws.EntriesVeiled
import Derived.OwnWalk
import Derived.Shelf.Spec.SlicesGrow
import Derived.ChangeMaps5
import Derived.Lib.OwnBridge
import Derived.Shelf.SlSorted.Search
import Derived.Deep.RegionWith
import Derived.Deep.Upon
import Derived.Sort.WalkB2
import Derived.Sort.WalkB12
import Derived.Deep.LoopGhost
import Derived.Shelf.SlSortCmp.KitK
import Derived.Deep.RegionLaw
import Derived.Laws.CopyOwn
import Derived.Laws.Bits64b
namespace Go.Proofs.Ytpocpckhcciecaa
set_option linter.unusedSimpArgs false
set_option linter.unusedVariables false
open Go.ChangeShapes Go.WideShapes Go.ChangeAt Go.RowKit Go.Joins Go.Deep
set_option maxHeartbeats 2000000 in
/-- Beyond the sizes that the statement looks at: the probe alone. -/
theorem huffEncodes_far (A : Option Addr) (n c : Nat) (w : World) (h : 2000 < n) :
    Calls Try.prog 3 #[.slice A n c] w fun e w' => e = .returned (.bool true) ∧ Below w.heap.size w w' := by
  have h1 : (2000 : Int) < n := by omega
  go_enter Try.func3, Try.ntmps3
  go_wp2_with (go_at_call 6; refine (awake11_any _).mono ?_; rintro e w9 ⟨rfl, hb9⟩)
  go_ret
  exact ⟨rfl, hb9⟩
set_option maxRecDepth 100000 in
set_option maxHeartbeats 8000000 in
theorem huffEncodes_near (A : Option Addr) (n c : Nat) (l : List Int) (w : World) (hr : Reads w w.heap.size 1 A n (ints l)) (h : n ≤ 2000) :
    Calls Try.prog 3 #[.slice A n c] w fun e w' => e = .returned (.bool true) ∧ Below w.heap.size w w' := by
  have h1 : ¬ (2000 : Int) < n := by omega
  have Hp := Lib.hid (p_hencode_any l A n c w (by omega) hr)
  have Hq := Lib.hid fun W (hW : Below w.heap.size w W) => href_encode_any l A n c W (by omega) (hr.onto hW)
  have hc := fun W (hW : Below w.heap.size w W) => p_hcounts_any l A n c W (by omega) (hr.onto hW)
  have hd := fun W (hW : Below w.heap.size w W) => href_counts_any l A n c W (by omega) (hr.onto hW)
  have Hs := Lib.hid fun W (hW : Below w.heap.size w W) => p_hsize_any l A n c W (by omega) (hr.onto hW)
  have Hz := Lib.hid fun W (hW : Below w.heap.size w W) => href_size_any l A n c W (by omega) (hr.onto hW)
  have hlen : (hcF l).1.length ≤ 1000000 := by
    by_cases hE : (hcF l).2 = 0
    · rw [(hc_ok hE).2.2]
      show (hcount l).length ≤ 1000000
      rw [hcount_len]
      decide
    · rw [hc_bad hE]
      exact Nat.zero_le _
  have Hsame : Hid (∀ (xs : List Int) (N : Nat) (A1 A2 : Option Addr) (c1 c2 : Nat) (W : World), N ≤ 1000000 → Reads W W.heap.size 1 A1 N (ints xs) → Reads W W.heap.size 1 A2 N (ints xs) → Calls Try.prog 11 #[.slice A1 N c1, .slice A2 N c2] W fun e w' => e = .returned (.bool true) ∧ Below W.heap.size W w') := Lib.hid fun xs N A1 A2 c1 c2 W hn h1 h2 => by
    have := same_any A1 A2 N N c1 c2 xs xs W h1 h2 (by omega) (by omega)
    rwa [show decide (xs = xs) = true from by simp] at this
  unfold HCPost at hc hd
  generalize (hencF l).1 = X at *
  generalize (hencF l).2 = E at *
  generalize hsizeF l = z at *
  generalize hcF l = F at *
  obtain ⟨L, E2⟩ := F
  dsimp only at hc hd hlen
  have Hs2 := Lib.hid fun A1 A2 c1 c2 W h1 h2 => Hsame.out L L.length A1 A2 c1 c2 W hlen h1 h2
  have Hc := Lib.hid hc
  have Hd := Lib.hid hd
  have hE : (E == E) = true := by simp
  have hE2 : (E2 == E2) = true := by simp
  have hz : ((z : Int) == (z : Int)) = true := by simp
  clear hc hd hr h Hsame hlen
  go_enter Try.func3, Try.ntmps3
  go_wp2_with (first
    | (go_at_call 7; refine Hp.out.mono ?_; rintro e w1 ⟨rfl, hb1⟩; have Hb := Lib.hid hb1; clear hb1)
    | (go_at_call 8; refine (Hq.out _ Hb.out).mono ?_; rintro e w2 ⟨rfl, hb2⟩; replace Hb := Lib.hid (Hb.out.trans (hb2.mono Hb.out.size)); clear hb2)
    | (go_at_call 9; refine (Hc.out _ Hb.out).mono ?_; rintro e w3 ⟨A3, c3, rfl, _, h3, hb3⟩; have H3 := Lib.hid h3; replace Hb := Lib.hid (Hb.out.trans (hb3.mono Hb.out.size)); clear hb3; clear h3)
    | (go_at_call 10; refine (Hd.out _ Hb.out).mono ?_; rintro e w4 ⟨A4, c4, rfl, _, h4, hb4⟩; have H4 := Lib.hid h4; replace H3 := Lib.hid (H3.out.onto hb4); replace Hb := Lib.hid (Hb.out.trans (hb4.mono Hb.out.size)); clear hb4; clear h4)
    | (go_at_call 11; (with_reducible refine (Hs2.out _ _ _ _ _ H3.out H4.out).mono ?_); rintro e w5 ⟨rfl, hb5⟩; replace Hb := Lib.hid (Hb.out.trans (hb5.mono Hb.out.size)); clear hb5; clear H3 H4)
    | (go_at_call 12; refine (Hs.out _ Hb.out).mono ?_; rintro e w6 ⟨rfl, hb6⟩; replace Hb := Lib.hid (Hb.out.trans (hb6.mono Hb.out.size)); clear hb6)
    | (go_at_call 13; refine (Hz.out _ Hb.out).mono ?_; rintro e w7 ⟨rfl, hb7⟩; replace Hb := Lib.hid (Hb.out.trans (hb7.mono Hb.out.size)); clear hb7)
    | (go_at_call 6; refine (awake11_any _).mono ?_; rintro e w9 ⟨rfl, hb9⟩; replace Hb := Lib.hid (Hb.out.trans (hb9.mono Hb.out.size)); clear hb9))
  go_ret
  exact ⟨rfl, Hb.out⟩
theorem huffEncodes_walk (A : Option Addr) (n c : Nat) (l : List Int) (w : World) (hr : Reads w w.heap.size 1 A n (ints l)) :
    Calls Try.prog 3 #[.slice A n c] w fun e w' => e = .returned (.bool true) ∧ Below w.heap.size w w' := by
  by_cases h : n ≤ 2000
  · exact huffEncodes_near A n c l w hr h
  · exact huffEncodes_far A n c w (by omega)
namespace HuffEncodes
set_option maxRecDepth 100000 in
theorem lifted (os : Os) (started : os.Started) (H : Type) (enc : TypeId × Value → H) :
    ReturnsInHanded {} Try.checked os 3 .any (Rows.huffEncodesSpec.pre6 enc Try.prog Try.f3 Rows.huffEncodesRow.domain false) (Rows.huffEncodesSpec.post enc Try.prog Try.f3 false true false false) := by
  refine law_sized (C := Try.checked) (tb := 4) ownP started (by kernel_rfl) Try.func3
    (ChangeSpec.witness6 (enc := enc) (C := Try.checked) false ⟨#[], #[.slice none 0 0], []⟩ 8 (by kernel_rfl) (by kernel_rfl) (by kernel_rfl) (by kernel_rfl))
    laidP (by kernel_rfl) rfl (by kernel_rfl) Try.underlying4 (by intro ds h; match ds, h with | [_], _ => rfl) ?_
  intro W base args ds p hval0 hA0 hlt _
  have hval : ∀ (j : Nat) t v, Try.f3.params[j]? = some t → args[j]? = some v → Value.okWide Try.prog W .any base t v := hval0
  have hA : DataW.TrodAll enc Try.prog W 0 (fun _ => true) true Try.f3.params.toList args.toList ds p := hA0
  rw [Try.params3] at hA hval
  obtain ⟨v0, d0, rfl, rfl, h0⟩ := trodAll_one hA
  obtain ⟨Aks, nks, cks, ks, rfl, eks, hnks, hmks, hrks, hbks⟩ := open_nums rfl Try.underlying22 Try.underlying3 (by kernel_rfl) (hval 0 22 v0 rfl rfl) h0
  exact huffEncodes_walk Aks nks cks ks W hrks
theorem holds : Rows.HuffEncodesSaid :=
  OpenClaim.holds_of_wide 3 Try.f3 rfl rfl rfl rfl rfl rfl rfl ⟨rfl, rfl, rfl, rfl, rfl⟩ rfl rfl rfl rfl rfl (by kernel_rfl) Try.func3 (by kernel_rfl)
    (of_decide_eq_true (by kernel_rfl)) (by unfold Func.isWrapper; first | (rw [if_pos (by decide +kernel)]; kernel_rfl) | (rw [if_neg (by decide +kernel)]; exact ⟨rfl, rfl⟩))
    (fun os started H enc _ => lifted os started H enc)
end HuffEncodes
end Go.Proofs.Ytpocpckhcciecaa
