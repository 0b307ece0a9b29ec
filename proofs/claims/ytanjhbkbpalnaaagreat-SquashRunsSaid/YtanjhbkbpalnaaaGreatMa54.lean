/-
 One byte that comes again and again takes a few bytes alone, however often it comes; the layer's probe holds (SquashRuns). No condition.
-/
import Derived.Test.YtanjhbkbpalnaaaGreatMa48
import Derived.Test.YtanjhbkbpalnaaaGreatMa50
set_option maxRecDepth 100000
set_option maxHeartbeats 8000000
open Go.Proofs.Tryz
namespace Go.Proofs.YtanjhbkbpalnaaaGreat
set_option linter.unusedSimpArgs false
set_option linter.unusedVariables false
open Go.ChangeShapes Go.WideShapes Go.ChangeAt Go.RowKit Go.Joins Go.Deep
theorem ygZ (n x : Int) (w : World) (h : n < 1) :
  Calls prog 6 #[.int .i64 n, .int .u8 x] w fun e w' => e = .returned (.bool true) ∧ Below w.heap.size w w' := by
 go_enter func6, ntmps6
 go_wp2_with (go_at_call 12; refine (ya9 _).mono ?_; rintro e w9 ⟨rfl, hb9⟩)
 go_ret
 exact ⟨rfl, hb9⟩
theorem yh5 (n x : Int) (w : World) (h : ¬ n < 1) (h2 : 5000 < n) :
  Calls prog 6 #[.int .i64 n, .int .u8 x] w fun e w' => e = .returned (.bool true) ∧ Below w.heap.size w w' := by
 go_enter func6, ntmps6
 go_wp2_with (go_at_call 12; refine (ya9 _).mono ?_; rintro e w9 ⟨rfl, hb9⟩)
 go_ret
 exact ⟨rfl, hb9⟩
theorem qr_step (m k : Nat) (b : UInt8) (hk : k < m) : (bc (List.replicate k b ++ List.replicate (m - k) 0)).setIfInBounds k (.int .u8 (b.toNat : Int)) = bc (List.replicate (k + 1) b ++ List.replicate (m - (k + 1)) 0) := by
 obtain ⟨d, hd⟩ : ∃ d, m - k = d + 1 := ⟨m - k - 1, by omega⟩
 have := bc_set (List.replicate k b) (List.replicate d 0) 0 b
 rw [qav] at this
 rw [hd, qaP, this, show m - (k + 1) = d from by omega, qcf, qam]
 rfl
theorem qr_free (m k : Nat) (b : UInt8) (hk : k < m) {w : World} {g : Nat} {t : TypeId} (h : Blk w g t (bc (List.replicate k b ++ List.replicate (m - k) 0))) : w.cell? ⟨g, k, none⟩ = some (.int .u8 0) := by
 have := yc7 h (i := k) (b := 0) (by rw [qbj (by rw [qav]; exact qad _), qav, qbS, List.getElem?_replicate, qag (by omega)])
 exact this
theorem yhh (m : Nat) (b : UInt8) (w : World) (h0 : 1 ≤ m) (h : m ≤ 5000) :
  Calls prog 6 #[.int .i64 (m : Int), .int .u8 (b.toNat : Int)] w fun e w' => e = .returned (.bool true) ∧ Below w.heap.size w w' := by
 have h1 : ¬ (m : Int) < 1 := by omega
 have h2 : ¬ (5000 : Int) < (m : Int) := by omega
 obtain ⟨j, rfl⟩ : ∃ j, m = j + 1 := ⟨m - 1, by omega⟩
 have hmk := fun W => mk_bytes ((j + 1 : Nat) : Int) (j + 1) rfl (by omega) W
 have hsame := qsame j b (by omega)
 have hpr := qsame_pr (j + 1) b
 have hq := ybi (List.replicate (j + 1) b)
 have hsy := fun W => ybE (List.replicate (j + 1) b) W (by rw [qav]; omega)
 have e1 : qsF (List.replicate (j + 1) b) = (qsy (List.replicate (j + 1) b), ((j + 1 : Nat) : Int), 0) := by
  unfold qsF
  rw [qae (by rw [qav]; omega), hpr]
 rw [e1] at hsy
 have hp := fun W => yd5 (List.replicate (j + 1) b) W (by rw [qav]; omega)
 unfold QPost at hsy
 dsimp only at hsy
 have Hstep := qaa fun k hk => qr_step (j + 1) k b hk
 have Hfree := qaa fun k hk (W : World) (g : Nat) (t : TypeId) h => qr_free (j + 1) k b hk (w := W) (g := g) (t := t) h
 have hstr := qaa fun W g (h : Blk W g 5 (bc (List.replicate (j + 1) b))) => str_blk W g (j + 1) (j + 1) 5 (List.replicate (j + 1) b) qav h
 have Hsy := qaa hsy
 have Hp := qaa hp
 have Hend : Hid (bc (List.replicate (j + 1) b ++ List.replicate (j + 1 - (j + 1)) 0) = bc (List.replicate (j + 1) b)) := qaa (by rw [qbS, qcG, qa8])
 have Hzero : Hid (bc (List.replicate (j + 1) 0) = bc (List.replicate 0 b ++ List.replicate (j + 1 - 0) 0)) := qaa rfl
 have hq14 : ((qsy (List.replicate (j + 1) b)).length : Int) ≤ 14 := by omega
 have hx24 : ((qB (List.replicate (j + 1) b)).length : Int) ≤ 24 := by omega
 clear hsy hp e1 hpr hq hsame
 generalize (qsy (List.replicate (j + 1) b)).length = q at *
 generalize ints (qsy (List.replicate (j + 1) b)) = Q at *
 generalize qB (List.replicate (j + 1) b) = X at *
 generalize hF : (fun k => bc (List.replicate k b ++ List.replicate (j + 1 - k) 0)) = F at *
 have hF' : ∀ k, bc (List.replicate k b ++ List.replicate (j + 1 - k) 0) = F k := fun k => by rw [← hF]
 simp only [hF'] at Hstep Hfree Hend Hzero
 rw [Hzero.out] at hmk
 clear hF hF' Hzero
 generalize List.replicate (j + 1) b = S at *
 have hjj : ((j + 1 : Nat) : Int) = (j : Int) + 1 := by omega
 generalize hM : j + 1 = M at *
 clear hjj hM
 go_enter func6, ntmps6
 go_wp2
 go_loopw [6] (fun i wr => ∃ k : Nat, k ≤ M ∧ i = .int .i64 (k : Int) ∧ Hid (Blk wr w.heap.size 5 (F k)) ∧ Hid (Below w.heap.size w wr)) (fun i _ => M - (intOf i).toNat)
 case atStart => exact ⟨0, by omega, rfl, qaa (Blk.new w _ _), qaa ((qak _ _).alloc (qad _) _)⟩
 case round =>
  obtain ⟨k, hk, rfl, HB, HW⟩ := hrel
  by_cases hlt : k < M
  ·have hki : (0 : Int) ≤ (k : Int) ∧ (k : Int) < (M : Int) := by omega
   have c1 := Hfree.out k hlt wr _ _ HB.out
   have z1 := HB.out.frozen k
   have HB2 := qaa (by have := HB.out.set_ k (.int .u8 (b.toNat : Int)); rwa [Hstep.out k hlt] at this : Blk (wr.setCell ⟨w.heap.size, k, none⟩ (.int .u8 (b.toNat : Int))) w.heap.size 5 (F (k + 1)))
   have HW2 := qaa (HW.out.setCell (qad _) (p := ⟨w.heap.size, k, none⟩) (.int .u8 (b.toNat : Int)))
   go_wp2
   go_roundw
   case rel => exact ⟨k + 1, by omega, iv (by omega), HB2, HW2⟩
   case measure => simp only [intOf]; omega
  ·obtain rfl : k = M := by omega
   have hB := HB.out
   rw [Hend.out] at hB
   have hs1 := hstr.out _ _ hB
   have HB3 := qaa hB
   clear hB HB
   go_wp2_with (first
    | (go_at_call 15; (with_reducible refine (Hsy.out _).mono ?_); rintro e w1 ⟨A1, c1, rfl, _, _, hb1⟩; have hs2 := hstr.out _ _ (HB3.out.below hb1 HB3.out.lt); have Hb := qaa (HW.out.trans (hb1.mono HW.out.size)); clear hb1)
    | (go_at_call 13; (with_reducible refine (Hp.out _).mono ?_); rintro e w2 ⟨rfl, hb2⟩; replace Hb := qaa (Hb.out.trans (hb2.mono Hb.out.size)); clear hb2)
    | (go_at_call 12; refine (ya9 _).mono ?_; rintro e w9 ⟨rfl, hb9⟩; replace Hb := qaa (Hb.out.trans (hb9.mono Hb.out.size)); clear hb9))
   go_ret
   exact ⟨rfl, Hb.out⟩
theorem q_u8 {x : Int} (h : (Lit.int .u8 x).wf = true) : 0 ≤ x ∧ x < 256 := by
 unfold Lit.wf at h
 rw [qca, qba, qba, show IntKind.min .u8 = 0 from by decide, show IntKind.max .u8 = 255 from by decide] at h
 omega
theorem yht (n x : Int) (w : World) (hx : 0 ≤ x ∧ x < 256) :
  Calls prog 6 #[.int .i64 n, .int .u8 x] w fun e w' => e = .returned (.bool true) ∧ Below w.heap.size w w' := by
 by_cases h : n < 1
 ·exact ygZ n x w h
 ·by_cases h2 : 5000 < n
  ·exact yh5 n x w h h2
  ·have := yhh n.toNat (UInt8.ofNat x.toNat) w (by omega) (by omega)
   rwa [yaz _ (by omega), show ((x.toNat : Nat) : Int) = x from by omega, show ((n.toNat : Nat) : Int) = n from by omega] at this
namespace SquashRuns
theorem lifted (os : Os) (started : os.Started) (H : Type) (enc : TypeId × Value → H) :
  ReturnsInHanded {} Tryz.checked os 6 .any (Rows.squashRunsSpec.pre6 enc prog Tryz.f6 Rows.squashRunsRow.domain false) (Rows.squashRunsSpec.post enc prog Tryz.f6 false true false false) := by
 refine ye9 (C := Tryz.checked) (tb := 4) ownP started (by kernel_rfl) func6
  (ChangeSpec.witness6 (enc := enc) (C := Tryz.checked) false ⟨#[], #[.int .i64 0, .int .u8 0], []⟩ 8 (by kernel_rfl) (by kernel_rfl) (by kernel_rfl) (by kernel_rfl))
  laidP (by kernel_rfl) rfl (by kernel_rfl) underlying4 (by intro ds h; match ds, h with | [_, _], _ => rfl) ?_
 intro W base args ds p hval0 hA0 hlt _
 have hval : ∀ (j : Nat) t v, Tryz.f6.params[j]? = some t → args[j]? = some v → Value.okWide prog W .any base t v := hval0
 have hA : DataW.TrodAll enc prog W 0 (fun _ => true) true Tryz.f6.params.toList args.toList ds p := hA0
 rw [Tryz.params6] at hA hval
 obtain ⟨v0, v1, d0, d1, p0, p1, rfl, rfl, rfl, h0, h1⟩ := trodAll_two hA
 obtain ⟨n, rfl, rfl, rfl, wn⟩ := open_int underlying3 (hval 0 3 v0 rfl rfl) h0
 obtain ⟨x, rfl, rfl, rfl, wx⟩ := open_int underlying5 (hval 1 5 v1 rfl rfl) h1
 exact yht n x W (q_u8 wx)
theorem holds : Rows.SquashRunsSaid :=
 OpenClaim.holds_of_wide 6 Tryz.f6 rfl rfl rfl rfl rfl rfl rfl ⟨rfl, rfl, rfl, rfl, rfl⟩ rfl rfl rfl rfl rfl (by kernel_rfl) func6 (by kernel_rfl)
  (qbM (by kernel_rfl)) (by unfold Func.isWrapper; first | (rw [qag (by decide +kernel)]; kernel_rfl) | (rw [qae (by decide +kernel)]; exact ⟨rfl, rfl⟩))
  (fun os started H enc _ => lifted os started H enc)
end SquashRuns
end Go.Proofs.YtanjhbkbpalnaaaGreat
