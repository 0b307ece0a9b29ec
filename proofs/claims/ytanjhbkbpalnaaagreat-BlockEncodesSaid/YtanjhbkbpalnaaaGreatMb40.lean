/-
 Any records have the document's block, or none, and the layer's probe holds (BlockEncodes). No condition.
-/
import Derived.Test.YtanjhbkbpalnaaaGreatMb39
set_option maxRecDepth 100000
set_option maxHeartbeats 8000000
open Go.Proofs.Tryz
namespace Go.Proofs.YtanjhbkbpalnaaaGreat
set_option linter.unusedSimpArgs false
set_option linter.unusedVariables false
open Go.ChangeShapes Go.WideShapes Go.ChangeAt Go.RowKit Go.Joins Go.Deep
theorem light_any (l : List Rc) (A : Option Addr) (n c : Nat) (w : World) (hl : l.length = n) (h : fewF l = true) (hr : Reads w w.heap.size 3 A n (rcs l)) :
  Calls prog 20 #[.slice A n c] w fun e w' => (∃ f, e = .returned (.bool f)) ∧ w' = w := by
 have Hc := qaa (yaX hr hl)
 have Hl := qaa hl
 have Hd := qaa (few_data h)
 have hn := few_len h
 rw [hl] at hn
 clear hr hl h
 go_enter func20, ntmps20
 go_wp2
 go_loopw [3, 4] (fun m i wr => ∃ k z : Nat, k ≤ n ∧ z ≤ 700 ∧ i = .int .i64 (k : Int) ∧ m = .int .i64 (z : Int) ∧ wr = w) (fun _ i _ => n - (intOf i).toNat)
 case atStart => exact ⟨0, 0, by omega, by omega, rfl, rfl, rfl⟩
 case round =>
  obtain ⟨k, z, hk, hz, rfl, rfl, rfl⟩ := hrel
  by_cases hlt : k < n
  ·have hkl : k < l.length := by have := Hl.out; omega
   obtain ⟨b, off, rfl, hb, hcell⟩ := Hc.out k hlt
   have c2 := (hcell k hkl).2.2
   have hki : (0 : Int) ≤ (k : Int) ∧ (k : Int) < (n : Int) := by omega
   have hd := Hd.out _ (qam hkl)
   clear hcell Hc
   generalize l[k].2.2 = d at *
   have hdi : (d.length : Int) ≤ 3000 ∧ (z : Int) ≤ 700 := by omega
   by_cases hq : 700 < z + (d.length + 12)
   ·have hqi : (700 : Int) < (z : Int) + ((d.length : Int) + 12) := by omega
    go_wp2
    go_ret
    exact ⟨⟨_, rfl⟩, rfl⟩
   ·have hqi : ¬ (700 : Int) < (z : Int) + ((d.length : Int) + 12) := by omega
    go_wp2
    go_roundw
    case rel => exact ⟨k + 1, z + (d.length + 12), by omega, by omega, iv (by omega), iv (by omega), by first | rfl | trivial⟩
    case measure => simp only [intOf]; omega
  ·obtain rfl : k = n := by omega
   go_wp2
   go_ret
   exact ⟨⟨_, rfl⟩, rfl⟩
theorem yfg (l : List Rc) (A : Option Addr) (n c : Nat) (hl : l.length = n) (w : World) (h : fewF l = false) (hr : Reads w w.heap.size 3 A n (rcs l)) :
  Calls prog 7 #[.slice A n c] w fun e w' => e = .returned (.bool true) ∧ Below w.heap.size w w' := by
 have Hb := qaa (qaj w.heap.size w)
 have hf := few_any l A n c w hl hr
 rw [h] at hf
 replace hf := qaa hf
 go_enter func7, ntmps7
 go_wp2_with (first
  | (go_at_call 19; (with_reducible refine hf.out.mono ?_); rintro e w0 ⟨rfl, hw0⟩; obtain rfl := hw0.symm; clear hf hw0)
  | (go_at_call 21; refine (yg1 _).mono ?_; rintro e w9 ⟨rfl, hb9⟩; replace Hb := qaa (Hb.out.trans (hb9.mono Hb.out.size)); clear hb9))
 go_ret
 exact ⟨rfl, Hb.out⟩
theorem ye4 (l : List Rc) (A : Option Addr) (n c : Nat) (hl : l.length = n) (w : World) (h : fewF l = true) (hr : Reads w w.heap.size 3 A n (rcs l)) :
  Calls prog 7 #[.slice A n c] w fun e w' => e = .returned (.bool true) ∧ Below w.heap.size w w' := by
 have Hb := qaa (qaj w.heap.size w)
 have hf := few_any l A n c w hl hr
 rw [h] at hf
 replace hf := qaa hf
 have hg := qaa (light_any l A n c w hl h hr)
 have hn : n ≤ 1000000 := by have := few_len h; omega
 have P1 := fun W (hb : Below w.heap.size w W) => ydj l A n c W hl hn ((hr.below hb).more hb.size)
 have P2 := fun W (hb : Below w.heap.size w W) => rref_benc_any l A n c W hl hn ((hr.below hb).more hb.size)
 unfold yb6 at P1 P2
 replace P1 := qaa P1
 replace P2 := qaa P2
 clear hr hl hn h
 generalize (yaS l).1 = X at *
 generalize (yaS l).2 = E at *
 have q1 : (X == X) = true := beq_self_eq_true _
 have q2 : (E == E) = true := beq_self_eq_true _
 go_enter func7, ntmps7
 go_wp2_with (first
  | (go_at_call 19; (with_reducible refine hf.out.mono ?_); rintro e w0 ⟨rfl, hw0⟩; obtain rfl := hw0.symm; clear hf hw0)
  | (go_at_call 20; (with_reducible refine hg.out.mono ?_); rintro e w1 ⟨⟨f, rfl⟩, hw1⟩; obtain rfl := hw1.symm; clear hg hw1; rcases f with _ | _)
  | (go_at_call 22; (with_reducible refine (P1.out _ Hb.out).mono ?_); rintro e w2 ⟨rfl, hb2⟩; replace Hb := qaa (Hb.out.trans (hb2.mono Hb.out.size)); clear hb2; clear P1)
  | (go_at_call 23; (with_reducible refine (P2.out _ Hb.out).mono ?_); rintro e w3 ⟨rfl, hb3⟩; replace Hb := qaa (Hb.out.trans (hb3.mono Hb.out.size)); clear hb3; clear P2)
  | (go_at_call 21; refine (yg1 _).mono ?_; rintro e w9 ⟨rfl, hb9⟩; replace Hb := qaa (Hb.out.trans (hb9.mono Hb.out.size)); clear hb9))
 all_goals
  go_ret
  exact ⟨rfl, Hb.out⟩
theorem yeH (l : List Rc) (A : Option Addr) (n c : Nat) (hl : l.length = n) (w : World) (hr : Reads w w.heap.size 3 A n (rcs l)) :
  Calls prog 7 #[.slice A n c] w fun e w' => e = .returned (.bool true) ∧ Below w.heap.size w w' := by
 cases h : fewF l with
 | false => exact yfg l A n c hl w h hr
 | true => exact ye4 l A n c hl w h hr
namespace BlockEncodes
theorem lifted (os : Os) (started : os.Started) (H : Type) (enc : TypeId × Value → H) :
  ReturnsInHanded {} Tryz.checked os 7 .any (Rows.blockEncodesSpec.pre6 enc prog Tryz.f7 Rows.blockEncodesRow.domain false) (Rows.blockEncodesSpec.post enc prog Tryz.f7 false true false false) := by
 refine law_sized (C := Tryz.checked) (tb := 4) ownP started (by kernel_rfl) func7
  (ChangeSpec.witness6 (enc := enc) (C := Tryz.checked) false ⟨#[], #[.slice none 0 0], []⟩ 8 (by kernel_rfl) (by kernel_rfl) (by kernel_rfl) (by kernel_rfl))
  laidP (by kernel_rfl) rfl (by kernel_rfl) underlying4 (by intro ds h; match ds, h with | [_], _ => rfl) ?_
 intro W base args ds p hval0 hA0 hlt _
 have hval : ∀ (j : Nat) t v, Tryz.f7.params[j]? = some t → args[j]? = some v → Value.okWide prog W .any base t v := hval0
 have hA : DataW.TrodAll enc prog W 0 (fun _ => true) true Tryz.f7.params.toList args.toList ds p := hA0
 rw [Tryz.params7] at hA hval
 obtain ⟨v0, d0, rfl, rfl, h0⟩ := trodAll_one hA
 obtain ⟨Al, nl, cl, l, rfl, el, hnl, hml, hrl, hbl⟩ := open_recs underlying38 underlying54 (by kernel_rfl) (by kernel_rfl) underlying3 underlying3 underlying9 (hval 0 38 v0 rfl rfl) h0
 exact yeH l Al nl cl el W hrl
theorem holds : Rows.BlockEncodesSaid :=
 OpenClaim.holds_of_wide 7 Tryz.f7 rfl rfl rfl rfl rfl rfl rfl ⟨rfl, rfl, rfl, rfl, rfl⟩ rfl rfl rfl rfl rfl (by kernel_rfl) func7 (by kernel_rfl)
  (qb7 (by kernel_rfl)) (by unfold Func.isWrapper; first | (rw [qah (by decide +kernel)]; kernel_rfl) | (rw [qag (by decide +kernel)]; exact ⟨rfl, rfl⟩))
  (fun os started H enc _ => lifted os started H enc)
end BlockEncodes
end Go.Proofs.YtanjhbkbpalnaaaGreat
