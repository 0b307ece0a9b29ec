/-
  Layer 13: Steps.
-/
import Derived.Test.YtjdpogaaookoeaaBwtA
import Derived.Test.YtjdpogaaookoeaaBwtC
namespace Go.Proofs.Ytjdpogaaookoeaa
set_option linter.unusedSimpArgs false
set_option linter.unusedVariables false
open Go.ChangeShapes Go.WideShapes Go.ChangeAt Go.RowKit Go.Joins Go.Deep

theorem bck_zero {l : List UInt8} {r : Int} (h : bck l r = 0) : ¬ 20000 < l.length ∧ ¬ bbad l r := by
  unfold bck at h
  split at h
  · omega
  · split at h
    · omega
    · exact ⟨‹_›, ‹_›⟩
theorem bck_no {l : List UInt8} {r : Int} (h : bck l r ≠ 0) : bsF l r = ([], bck l r) ∧ biF l r = ([], bck l r) ∧ (bck l r = 3 ∨ bck l r = 130) := by
  unfold bck at h ⊢
  by_cases h1 : 20000 < l.length
  · rw [if_pos h1]
    exact ⟨bsF_big h1, if_pos h1, Or.inl rfl⟩
  · rw [if_neg h1] at h ⊢
    by_cases h2 : bbad l r
    · rw [if_pos h2]
      exact ⟨bsF_bad h1 h2, by unfold biF; rw [if_neg h1, if_pos h2], Or.inr rfl⟩
    · rw [if_neg h2] at h
      exact absurd rfl h

set_option maxRecDepth 100000 in
set_option maxHeartbeats 1000000 in
theorem p_bsteps_no (l : List UInt8) (r : Int) (w : World) (hs : l.length ≤ 1000000) (h : bck l r ≠ 0) :
    Calls Try.prog 13 #[.string ⟨l.toArray⟩, .int .i64 r] w fun e w' => LPost w w' e (bsF l r) := by
  rw [(bck_no h).1]
  have Hc := Lib.hid fun W => p_bcheck_any l r W hs
  obtain ⟨E, hE⟩ : ∃ E, bck l r = E := ⟨_, rfl⟩
  rw [hE] at h Hc ⊢
  have d1 : (E != 0) = true := by simpa using h
  clear hE
  go_enter Try.func13, Try.ntmps13
  go_wp2_with (go_at_call 21; refine (Hc.out _).mono ?_; rintro e w1 ⟨rfl, rfl⟩)
  go_ret2
  exact lpost_none (Below.refl _ _)

set_option maxRecDepth 100000 in
set_option maxHeartbeats 2000000 in
theorem p_bsteps_yes (l : List UInt8) (r : Nat) (w : World) (hs : l.length ≤ 20000) (hg : ¬ bbad l (r : Int)) :
    Calls Try.prog 13 #[.string ⟨l.toArray⟩, .int .i64 (r : Int)] w fun e w' => LPost w w' e (bsF l (r : Int)) := by
  rw [bsF_yes (by omega) hg]
  obtain ⟨r2, hr2, hrl, hrp⟩ := bgood hg
  obtain rfl : r = r2 := by omega
  have hck : bck l (r : Int) = 0 := by unfold bck; rw [if_neg (by omega), if_neg hg]
  have Hc := Lib.hid fun W => p_bcheck_any l (r : Int) W (by omega)
  rw [hck] at Hc
  have Hst := Lib.hid fun W => p_stepper_any l W (by omega)
  have Hla := Lib.hid fun i j hj hi W => p_lastof_any l r i j l[j] W (by omega) hj hrl hi rfl
  have Hcl := Lib.hid fun i hi g W hB => p_step_any l i hi l[i] rfl g W (by omega) hB
  have hcl := bcol_len l r hrl
  have Hbrk := Lib.hid fun k i hk hi hki => brk_is l r k i hrl hk hi hki
  have Hpr := Lib.hid (brk_primary l r hrl)
  have Hskip := Lib.hid fun h => bst_skip (bcol l r) (l.length + 1) r h
  have Hset := Lib.hid (bst_set (bcol l r) (l.length + 1))
  have Hlen := Lib.hid (bst_len (bcol l r) (l.length + 1))
  have Hall := Lib.hid (bst_all (bcol l r) (l.length + 1))
  have Hll : Hid (((List.range (l.length + 1)).map (brk (bcol l r))).length = l.length + 1) := Lib.hid (by simp)
  have hmk := fun w => gmk_ints ((l.length : Int) + 1) (l.length + 1) (by omega) (by omega) w
  rw [← bst_zero (bcol l r) (l.length + 1)] at hmk
  generalize bcol l r = C at *
  generalize (List.range (l.length + 1)).map (brk C) = S at *
  have hli : (l.length : Int) ≤ 20000 ∧ (0 : Int) ≤ (r : Int) ∧ (r : Int) ≤ (l.length : Int) := by omega
  clear hck hr2 hcl hrp hg
  go_enter Try.func13, Try.ntmps13
  go_wp2_with (first
    | (go_at_call 21; refine (Hc.out _).mono ?_; rintro e w ⟨rfl, rfl⟩)
    | (go_at_call 22; refine (Hst.out _).mono ?_; rintro e w2 ⟨gc, rfl, hgc, hbc, hb2⟩; have HC0 := Lib.hid (hbc.alloc (.cells (ints (bst C (l.length + 1) 0)).toArray 3)); have HN := Lib.hid (Blk.new w2 3 (ints (bst C (l.length + 1) 0)).toArray); have HO0 := Lib.hid (hb2.alloc hb2.size (.cells (ints (bst C (l.length + 1) 0)).toArray 3)); have hgl := hbc.lt; clear hbc; have Hgc := Lib.hid (And.intro hgc (And.intro hgl hb2.size)); clear hgc hgl hb2; generalize hg2 : w2.heap.size = g at *))
  clear hmk
  go_loopw [24] (fun i wr => ∃ k j : Nat, k ≤ l.length + 1 ∧ i = .int .i64 k ∧ Hid ((k ≤ r ∧ k = j) ∨ (r < k ∧ k = j + 1)) ∧ Hid (Blk wr g 3 (ints (bst C (l.length + 1) k)).toArray) ∧ Hid (Blk wr gc 40 (ints (bsp l j)).toArray) ∧ Hid (Below w.heap.size w wr)) (fun i _ => l.length + 1 - (intOf i).toNat)
  case atStart => exact ⟨0, 0, by omega, rfl, Lib.hid (Or.inl ⟨by omega, rfl⟩), HN, HC0, HO0⟩
  case round =>
    obtain ⟨k, j, hk, rfl, Hkj, HB, HC, HO⟩ := hrel
    clear HC0 HN HO0
    by_cases hlt : k < l.length + 1
    · have hki : (0 : Int) ≤ (k : Int) ∧ (k : Int) < (l.length : Int) + 1 := by omega
      by_cases hkr : k = r
      · have d1 : ((k : Int) != (r : Int)) = false := by simp [hkr]
        have d2 : (k != r) = false := by simp [hkr]
        have hj : k = j := by have := Hkj.out; omega
        have HB2 : Hid (Blk wr g 3 (ints (bst C (l.length + 1) (k + 1))).toArray) := Lib.hid (by have := Hskip.out Hpr.out; rw [hkr, ← this, ← hkr]; exact HB.out)
        have Hkr := Lib.hid hkr
        clear hkr
        go_wp2
        go_roundw
        case rel => exact ⟨k + 1, j, by omega, iv (by omega), Lib.hid (Or.inr ⟨by have := Hkr.out; omega, by omega⟩), HB2, HC, HO⟩
        case measure => simp only [intOf]; omega
      · have d1 : ((k : Int) != (r : Int)) = true := by simp; omega
        have d2 : (k != r) = true := by simp; omega
        have hj : j < l.length := by have := Hkj.out; omega
        have hkj : (k < r ∧ k = j) ∨ (r < k ∧ k = j + 1) := by have := Hkj.out; omega
        have HL := Lib.hid fun W => Hla.out k j hj hkj W
        have HS := Lib.hid (Hcl.out j hj gc wr HC.out)
        have hbr := Hbrk.out k j hlt hj (by omega)
        have Hs := Lib.hid (Hset.out k)
        rw [hbr] at Hs
        have Hne : Hid (g ≠ gc ∧ gc ≠ g) := Lib.hid (by have := Hgc.out; omega)
        have Hkj2 : Hid ((k + 1 ≤ r ∧ k + 1 = j + 1) ∨ (r < k + 1 ∧ k + 1 = j + 1 + 1)) := Lib.hid (by omega)
        have hcc : bbelow l l[j].toNat + bsame l l[j].toNat j + 1 ≤ 50000 := by
          have h1 := bbelow_le l l[j].toNat
          have h2 := bsame_le l l[j].toNat j
          omega
        obtain ⟨c, hc⟩ : ∃ c, bbelow l l[j].toNat + bsame l l[j].toNat j + 1 = c := ⟨_, rfl⟩
        rw [hc] at Hs HS hcc
        clear hbr hc hkj hkr Hkj
        generalize l[j] = b at *
        go_wp2_with (first
          | (go_at_call 19; refine (HL.out _).mono ?_; rintro e wr ⟨rfl, rfl⟩)
          | (go_at_call 27; refine HS.out.mono ?_; rintro e w1 ⟨rfl, hc1, v, rfl⟩; have HC2 := Lib.hid (hc1.far (p := ⟨g, k, none⟩) Hne.out.2 (.int .i64 (c : Int))); clear hc1; have HB2 := Lib.hid (HB.out.far (p := ⟨gc, b.toNat, none⟩) Hne.out.1 v); have x1 := gblk_cell HB2.out k (by rw [Hlen.out]; exact hlt); have x2 := HB2.out.frozen k; have x3 := HB2.out.lt; generalize (bst C (l.length + 1) k)[k]'(by rw [Hlen.out]; exact hlt) = v0 at x1))
        go_roundw
        case rel => exact ⟨k + 1, j + 1, by omega, iv (by omega), Hkj2, Lib.hid (by rw [← Hs.out, ← gints_set]; exact HB2.out.set_ k _), HC2, Lib.hid ((HO.out.setCell (p := ⟨gc, b.toNat, none⟩) Hgc.out.1 _).setCell (p := ⟨g, k, none⟩) (by have := Hgc.out; simp only; omega) _)⟩
        case measure => simp only [intOf]; omega
    · obtain rfl : k = l.length + 1 := by omega
      have hii : ¬ (((l.length + 1 : Nat) : Int) < (l.length : Int) + 1) := by omega
      have HF : Hid (Blk wr g 3 (ints (splc S)).toArray) := Lib.hid (by rw [← Hall.out]; exact HB.out)
      have HFl : Hid ((splc S).length = l.length + 1) := Lib.hid (by rw [splc_len]; exact Hll.out)
      clear HB
      go_wp2
      go_ret2
      exact lpost_blk HFl.out HF.out HO.out
theorem p_bsteps_any (l : List UInt8) (r : Int) (w : World) (hs : l.length ≤ 1000000) :
    Calls Try.prog 13 #[.string ⟨l.toArray⟩, .int .i64 r] w fun e w' => LPost w w' e (bsF l r) := by
  by_cases h : bck l r = 0
  · obtain ⟨h1, h2⟩ := bck_zero h
    obtain ⟨k, rfl, _⟩ := bgood h2
    exact p_bsteps_yes l k w (by omega) h2
  · exact p_bsteps_no l r w hs h
end Go.Proofs.Ytjdpogaaookoeaa
