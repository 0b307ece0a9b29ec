/-
 A block has at most as many bytes as its records, and 26, and no more than a frame's body may have; the layer's probe holds (BlockSmall). No condition.
-/
import Derived.Test.YtanjhbkbpalnaaaGreatMc51
set_option maxRecDepth 100000
set_option maxHeartbeats 8000000
open Go.Proofs.Tryz
namespace Go.Proofs.YtanjhbkbpalnaaaGreat
set_option linter.unusedSimpArgs false
set_option linter.unusedVariables false
open Go.ChangeShapes Go.WideShapes Go.ChangeAt Go.RowKit Go.Joins Go.Deep
theorem blockSmall_far (l : List Rc) (A : Option Addr) (n c : Nat) (hl : l.length = n) (w : World) (h : fewF l = false) (hr : Reads w w.heap.size 3 A n (rcs l)) :
  Calls prog 9 #[.slice A n c] w fun e w' => e = .returned (.bool true) ∧ Below w.heap.size w w' := by
 have Hb := qaa (qam w.heap.size w)
 have hf := ybn l A n c w hl hr
 rw [h] at hf
 replace hf := qaa hf
 go_enter func9, ntmps9
 go_wp2_with (first
  | (go_at_call 19; (with_reducible refine hf.out.mono ?_); rintro e w0 ⟨rfl, hw0⟩; obtain rfl := hw0.symm; clear hf hw0)
  | (go_at_call 21; refine (yam _).mono ?_; rintro e w9 ⟨rfl, hb9⟩; replace Hb := qaa (Hb.out.trans (hb9.mono Hb.out.size)); clear hb9))
 go_ret
 exact ⟨rfl, Hb.out⟩
theorem blockSmall_no (l : List Rc) (A : Option Addr) (n c : Nat) (hl : l.length = n) (w : World) (h : fewF l = true) (hE : (yaj l).2 ≠ 0) (hr : Reads w w.heap.size 3 A n (rcs l)) :
  Calls prog 9 #[.slice A n c] w fun e w' => e = .returned (.bool true) ∧ Below w.heap.size w w' := by
 have Hb := qaa (qam w.heap.size w)
 have hf := ybn l A n c w hl hr
 rw [h] at hf
 replace hf := qaa hf
 have hn : n ≤ 1000000 := by have := yce h; omega
 have P1 := fun W (hb : Below w.heap.size w W) => yal l A n c W hl hn ((hr.below hb).more hb.size)
 unfold yaI at P1
 replace P1 := qaa P1
 clear hr hl hn h
 generalize (yaj l).1 = X at *
 generalize (yaj l).2 = E at *
 have q2 : (E != 0) = true := by simpa using hE
 go_enter func9, ntmps9
 go_wp2_with (first
  | (go_at_call 19; (with_reducible refine hf.out.mono ?_); rintro e w0 ⟨rfl, hw0⟩; obtain rfl := hw0.symm; clear hf hw0)
  | (go_at_call 22; (with_reducible refine (P1.out _ Hb.out).mono ?_); rintro e w2 ⟨rfl, hb2⟩; replace Hb := qaa (Hb.out.trans (hb2.mono Hb.out.size)); clear hb2; clear P1)
  | (go_at_call 21; refine (yam _).mono ?_; rintro e w9 ⟨rfl, hb9⟩; replace Hb := qaa (Hb.out.trans (hb9.mono Hb.out.size)); clear hb9))
 go_ret
 exact ⟨rfl, Hb.out⟩
theorem blockSmall_yes (l : List Rc) (A : Option Addr) (n c : Nat) (hl : l.length = n) (w : World) (h : fewF l = true) (hE : (yaj l).2 = 0) (hr : Reads w w.heap.size 3 A n (rcs l)) :
  Calls prog 9 #[.slice A n c] w fun e w' => e = .returned (.bool true) ∧ Below w.heap.size w w' := by
 have Hb := qaa (qam w.heap.size w)
 have hf := ybn l A n c w hl hr
 rw [h] at hf
 replace hf := qaa hf
 have hn : n ≤ 1000000 := by have := yce h; omega
 have P1 := fun W (hb : Below w.heap.size w W) => yal l A n c W hl hn ((hr.below hb).more hb.size)
 unfold yaI at P1
 obtain ⟨s1, s2⟩ := ygp hE
 obtain ⟨h0, h1, h2⟩ := yeO hE
 obtain ⟨j1, j2, j3, _⟩ := yfw h0 h1
 rw [h2] at P1 s1 s2
 dsimp only at P1 s1 s2
 have Hmay := qaa (ydt j3)
 have Hle := qaa (rjB_le l)
 have Hend : Hid ((rjB (l.take n)).length = (rjB l).length) := qaa (by rw [← hl, qbQ])
 have Hc := qaa (yby hr hl)
 have Hl := qaa hl
 have H0 : Hid ((rjB (l.take 0)).length = 0) := qaa rfl
 replace P1 := qaa P1
 clear hr hl h h0 h1 h2 hE j1
 generalize oB l = X at *
 generalize (rjB l).length = M at *
 go_enter func9, ntmps9
 go_wp2_with (first
  | (go_at_call 19; (with_reducible refine hf.out.mono ?_); rintro e w0 ⟨rfl, hw0⟩; obtain rfl := hw0.symm; clear hf hw0)
  | (go_at_call 22; (with_reducible refine (P1.out _ Hb.out).mono ?_); rintro e w2 ⟨rfl, hb2⟩; replace Hb := qaa (Hb.out.trans (hb2.mono Hb.out.size)); clear hb2; clear P1)
  | fail)
 go_loopw [5, 6] (fun sv i wr => ∃ (k m : Nat), k ≤ n ∧ i = .int .i64 (k : Int) ∧ sv = .int .i64 (m : Int) ∧ Hid ((rjB (l.take k)).length = m) ∧ Hid (Below w.heap.size w wr)) (fun _ i _ => n - (intOf i).toNat)
 case atStart => exact ⟨0, 0, by omega, rfl, rfl, H0, Hb⟩
 case round =>
  obtain ⟨k, m, hk, rfl, rfl, HU, HB⟩ := hrel
  by_cases hlt : k < n
  ·have hkl : k < l.length := by have := Hl.out; omega
   obtain ⟨b, off, rfl, hb, hcell⟩ := Hc.out k hlt
   obtain ⟨d0, d1, d2⟩ := hcell k hkl
   have c0 := (HB.out.cell (p := ⟨b, off + k * 3, none⟩) hb).trans d0
   have c1 := (HB.out.cell (p := ⟨b, off + k * 3 + 1, none⟩) hb).trans d1
   have c2 := (HB.out.cell (p := ⟨b, off + k * 3 + 2, none⟩) hb).trans d2
   have hki : (0 : Int) ≤ (k : Int) ∧ (k : Int) < (n : Int) := by omega
   have hm := Hmay.out _ (qaq hkl)
   have hsz := qaa fun W => yg2 l[k].1 l[k].2.1 l[k].2.2 W
   have e1 : ydb (l[k].1, l[k].2.1, l[k].2.2) = (rB l[k]).length := by unfold ydb; rw [(yeq hm).2]
   rw [e1] at hsz
   have Hnx : Hid ((rjB (l.take (k + 1))).length = m + (rB l[k]).length) := qaa (by rw [yf2 l k hkl, qae, HU.out])
   have h1 := Hle.out (k + 1)
   rw [Hnx.out] at h1
   clear d0 d1 d2 e1 hm hcell H0 Hc
   generalize l[k].1 = x at *
   generalize l[k].2.1 = y at *
   generalize l[k].2.2 = d at *
   generalize (rB l[k]).length = z at *
   have hzi : (m : Int) + (z : Int) ≤ 20000 ∧ (0 : Int) ≤ (m : Int) ∧ (0 : Int) ≤ (z : Int) := by omega
   go_wp2_with (go_at_call 32; (with_reducible refine (hsz.out _).mono ?_); rintro e w4 ⟨rfl, hb4⟩; have HB4 := qaa (HB.out.trans (hb4.mono HB.out.size)); clear hb4 hsz)
   go_roundw
   case rel => exact ⟨k + 1, m + z, by omega, iv (by omega), iv (by omega), Hnx, HB4⟩
   case measure => simp only [intOf]; omega
  ·obtain rfl : k = n := by omega
   obtain rfl : m = M := by rw [← HU.out, Hend.out]
   have hsi : (X.length : Int) ≤ (m : Int) + 26 ∧ (X.length : Int) ≤ 60000 ∧ (m : Int) ≤ 20000 := by omega
   replace Hb := HB
   go_wp2_with (first | (go_at_call 21; refine (yam _).mono ?_; rintro e w9 ⟨rfl, hb9⟩; replace Hb := qaa (Hb.out.trans (hb9.mono Hb.out.size)); clear hb9) | fail)
   go_ret
   exact ⟨rfl, Hb.out⟩
theorem ygF (l : List Rc) (A : Option Addr) (n c : Nat) (hl : l.length = n) (w : World) (hr : Reads w w.heap.size 3 A n (rcs l)) :
  Calls prog 9 #[.slice A n c] w fun e w' => e = .returned (.bool true) ∧ Below w.heap.size w w' := by
 cases h : fewF l with
 | false => exact blockSmall_far l A n c hl w h hr
 | true =>
  by_cases hE : (yaj l).2 = 0
  ·exact blockSmall_yes l A n c hl w h hE hr
  ·exact blockSmall_no l A n c hl w h hE hr
namespace BlockSmall
theorem lifted (os : Os) (started : os.Started) (H : Type) (enc : TypeId × Value → H) :
  ReturnsInHanded {} Tryz.checked os 9 .any (Rows.blockSmallSpec.pre6 enc prog Tryz.f9 Rows.blockSmallRow.domain false) (Rows.blockSmallSpec.post enc prog Tryz.f9 false true false false) := by
 refine yec (C := Tryz.checked) (tb := 4) ownP started (by kernel_rfl) func9
  (ChangeSpec.witness6 (enc := enc) (C := Tryz.checked) false ⟨#[], #[.slice none 0 0], []⟩ 8 (by kernel_rfl) (by kernel_rfl) (by kernel_rfl) (by kernel_rfl))
  laidP (by kernel_rfl) rfl (by kernel_rfl) underlying4 (by intro ds h; match ds, h with | [_], _ => rfl) ?_
 intro W base args ds p hval0 hA0 hlt _
 have hval : ∀ (j : Nat) t v, Tryz.f9.params[j]? = some t → args[j]? = some v → Value.okWide prog W .any base t v := hval0
 have hA : DataW.TrodAll enc prog W 0 (fun _ => true) true Tryz.f9.params.toList args.toList ds p := hA0
 rw [Tryz.params9] at hA hval
 obtain ⟨v0, d0, rfl, rfl, h0⟩ := trodAll_one hA
 obtain ⟨Al, nl, cl, l, rfl, el, hnl, hml, hrl, hbl⟩ := yg9 underlying38 underlying54 (by kernel_rfl) (by kernel_rfl) underlying3 underlying3 underlying9 (hval 0 38 v0 rfl rfl) h0
 exact ygF l Al nl cl el W hrl
theorem holds : Rows.BlockSmallSaid :=
 OpenClaim.holds_of_wide 9 Tryz.f9 rfl rfl rfl rfl rfl rfl rfl ⟨rfl, rfl, rfl, rfl, rfl⟩ rfl rfl rfl rfl rfl (by kernel_rfl) func9 (by kernel_rfl)
  (qbo (by kernel_rfl)) (by unfold Func.isWrapper; first | (rw [qah (by decide +kernel)]; kernel_rfl) | (rw [qag (by decide +kernel)]; exact ⟨rfl, rfl⟩))
  (fun os started H enc _ => lifted os started H enc)
end BlockSmall
end Go.Proofs.YtanjhbkbpalnaaaGreat
