/-
 What the law of the last of these texts stands on, part 30.
-/
import Derived.Test.YtanjhbkbpalnaaaGreatMa25
set_option maxRecDepth 100000
set_option maxHeartbeats 8000000
open Go.Proofs.Tryz
namespace Go.Proofs.YtanjhbkbpalnaaaGreat
set_option linter.unusedSimpArgs false
set_option linter.unusedVariables false
open Go.ChangeShapes Go.WideShapes Go.ChangeAt Go.RowKit Go.Joins Go.Deep
theorem bck_zero {l : List UInt8} {r : Int} (h : bck l r = 0) : ¬ 20000 < l.length ∧ ¬ bbad l r := by
 unfold bck at h
 split at h
 ·omega
 ·split at h
  ·omega
  ·exact ⟨‹_›, ‹_›⟩
theorem bck_no {l : List UInt8} {r : Int} (h : bck l r ≠ 0) : bsF l r = ([], bck l r) ∧ biF l r = ([], bck l r) ∧ (bck l r = 3 ∨ bck l r = 130) := by
 unfold bck at h ⊢
 by_cases h1 : 20000 < l.length
 ·rw [qag h1]
  exact ⟨bsF_big h1, qag h1, qay rfl⟩
 ·rw [qae h1] at h ⊢
  by_cases h2 : bbad l r
  ·rw [qag h2]
   exact ⟨bsF_bad h1 h2, by unfold biF; rw [qae h1, qag h2], qaI rfl⟩
  ·rw [qae h2] at h
   exact absurd rfl h
theorem p_bsteps_no (l : List UInt8) (r : Int) (w : World) (hs : l.length ≤ 1000000) (h : bck l r ≠ 0) :
  Calls prog 136 #[.string ⟨l.toArray⟩, .int .i64 r] w fun e w' => yfR w w' e (bsF l r) := by
 rw [(bck_no h).1]
 have Hc := qaa fun W => yf1 l r W hs
 obtain ⟨E, hE⟩ : ∃ E, bck l r = E := ⟨_, rfl⟩
 rw [hE] at h Hc ⊢
 have d1 : (E != 0) = true := by simpa using h
 clear hE
 go_enter func136, ntmps136
 go_wp2_with (go_at_call 176; refine (Hc.out _).mono ?_; rintro e w1 ⟨rfl, rfl⟩)
 go_ret2
 exact yfx (qak _ _)
theorem p_bsteps_yes (l : List UInt8) (r : Nat) (w : World) (hs : l.length ≤ 20000) (hg : ¬ bbad l (r : Int)) :
  Calls prog 136 #[.string ⟨l.toArray⟩, .int .i64 (r : Int)] w fun e w' => yfR w w' e (bsF l (r : Int)) := by
 rw [bsF_yes (by omega) hg]
 obtain ⟨r2, hr2, hrl, hrp⟩ := bgood hg
 obtain rfl : r = r2 := by omega
 have hck : bck l (r : Int) = 0 := by unfold bck; rw [qae (by omega), qae hg]
 have Hc := qaa fun W => yf1 l (r : Int) W (by omega)
 rw [hck] at Hc
 have Hst := qaa fun W => p_stepper_any l W (by omega)
 have Hla := qaa fun i j hj hi W => yf7 l r i j l[j] W (by omega) hj hrl hi rfl
 have Hcl := qaa fun i hi g W hB => p_step_any l i hi l[i] rfl g W (by omega) hB
 have hcl := ya3 l r hrl
 have Hbrk := qaa fun k i hk hi hki => brk_is l r k i hrl hk hi hki
 have Hpr := qaa (ygA l r hrl)
 have Hskip := qaa fun h => bst_skip (bcol l r) (l.length + 1) r h
 have Hset := qaa (bst_set (bcol l r) (l.length + 1))
 have Hlen := qaa (bst_len (bcol l r) (l.length + 1))
 have Hall := qaa (bst_all (bcol l r) (l.length + 1))
 have Hll : Hid (((List.range (l.length + 1)).map (brk (bcol l r))).length = l.length + 1) := qaa (by simp)
 have hmk := fun w => ycM ((l.length : Int) + 1) (l.length + 1) (by omega) (by omega) w
 rw [← bst_zero (bcol l r) (l.length + 1)] at hmk
 generalize bcol l r = C at *
 generalize (List.range (l.length + 1)).map (brk C) = S at *
 have hli : (l.length : Int) ≤ 20000 ∧ (0 : Int) ≤ (r : Int) ∧ (r : Int) ≤ (l.length : Int) := by omega
 clear hck hr2 hcl hrp hg
 go_enter func136, ntmps136
 go_wp2_with (first
  | (go_at_call 176; refine (Hc.out _).mono ?_; rintro e w ⟨rfl, rfl⟩)
  | (go_at_call 177; refine (Hst.out _).mono ?_; rintro e w2 ⟨gc, rfl, hgc, hbc, hb2⟩; have HC0 := qaa (hbc.alloc (.cells (ints (bst C (l.length + 1) 0)).toArray 3)); have HN := qaa (Blk.new w2 3 (ints (bst C (l.length + 1) 0)).toArray); have HO0 := qaa (hb2.alloc hb2.size (.cells (ints (bst C (l.length + 1) 0)).toArray 3)); have hgl := hbc.lt; clear hbc; have Hgc := qaa (And.intro hgc (And.intro hgl hb2.size)); clear hgc hgl hb2; generalize hg2 : w2.heap.size = g at *))
 clear hmk
 go_loopw [24] (fun i wr => ∃ k j : Nat, k ≤ l.length + 1 ∧ i = .int .i64 k ∧ Hid ((k ≤ r ∧ k = j) ∨ (r < k ∧ k = j + 1)) ∧ Hid (Blk wr g 3 (ints (bst C (l.length + 1) k)).toArray) ∧ Hid (Blk wr gc 235 (ints (bsp l j)).toArray) ∧ Hid (Below w.heap.size w wr)) (fun i _ => l.length + 1 - (intOf i).toNat)
 case atStart => exact ⟨0, 0, by omega, rfl, qaa (qay ⟨by omega, rfl⟩), HN, HC0, HO0⟩
 case round =>
  obtain ⟨k, j, hk, rfl, Hkj, HB, HC, HO⟩ := hrel
  clear HC0 HN HO0
  by_cases hlt : k < l.length + 1
  ·have hki : (0 : Int) ≤ (k : Int) ∧ (k : Int) < (l.length : Int) + 1 := by omega
   by_cases hkr : k = r
   ·have d1 : ((k : Int) != (r : Int)) = false := by simp [hkr]
    have d2 : (k != r) = false := by simp [hkr]
    have hj : k = j := by have := Hkj.out; omega
    have HB2 : Hid (Blk wr g 3 (ints (bst C (l.length + 1) (k + 1))).toArray) := qaa (by have := Hskip.out Hpr.out; rw [hkr, ← this, ← hkr]; exact HB.out)
    have Hkr := qaa hkr
    clear hkr
    go_wp2
    go_roundw
    case rel => exact ⟨k + 1, j, by omega, iv (by omega), qaa (qaI ⟨by have := Hkr.out; omega, by omega⟩), HB2, HC, HO⟩
    case measure => simp only [intOf]; omega
   ·have d1 : ((k : Int) != (r : Int)) = true := by simp; omega
    have d2 : (k != r) = true := by simp; omega
    have hj : j < l.length := by have := Hkj.out; omega
    have hkj : (k < r ∧ k = j) ∨ (r < k ∧ k = j + 1) := by have := Hkj.out; omega
    have HL := qaa fun W => Hla.out k j hj hkj W
    have HS := qaa (Hcl.out j hj gc wr HC.out)
    have hbr := Hbrk.out k j hlt hj (by omega)
    have Hs := qaa (Hset.out k)
    rw [hbr] at Hs
    have Hne : Hid (g ≠ gc ∧ gc ≠ g) := qaa (by have := Hgc.out; omega)
    have Hkj2 : Hid ((k + 1 ≤ r ∧ k + 1 = j + 1) ∨ (r < k + 1 ∧ k + 1 = j + 1 + 1)) := qaa (by omega)
    have hcc : yaS l l[j].toNat + ycb l l[j].toNat j + 1 ≤ 50000 := by
     have h1 := ygt l l[j].toNat
     have h2 := bsame_le l l[j].toNat j
     omega
    obtain ⟨c, hc⟩ : ∃ c, yaS l l[j].toNat + ycb l l[j].toNat j + 1 = c := ⟨_, rfl⟩
    rw [hc] at Hs HS hcc
    clear hbr hc hkj hkr Hkj
    generalize l[j] = b at *
    go_wp2_with (first
     | (go_at_call 137; refine (HL.out _).mono ?_; rintro e wr ⟨rfl, rfl⟩)
     | (go_at_call 198; refine HS.out.mono ?_; rintro e w1 ⟨rfl, hc1, v, rfl⟩; have HC2 := qaa (hc1.far (p := ⟨g, k, none⟩) Hne.out.2 (.int .i64 (c : Int))); clear hc1; have HB2 := qaa (HB.out.far (p := ⟨gc, b.toNat, none⟩) Hne.out.1 v); have x1 := yaL HB2.out k (by rw [Hlen.out]; exact hlt); have x2 := HB2.out.frozen k; have x3 := HB2.out.lt; generalize (bst C (l.length + 1) k)[k]'(by rw [Hlen.out]; exact hlt) = v0 at x1))
    go_roundw
    case rel => exact ⟨k + 1, j + 1, by omega, iv (by omega), Hkj2, qaa (by rw [← Hs.out, ← yaH]; exact HB2.out.set_ k _), HC2, qaa ((HO.out.setCell (p := ⟨gc, b.toNat, none⟩) Hgc.out.1 _).setCell (p := ⟨g, k, none⟩) (by have := Hgc.out; simp only; omega) _)⟩
    case measure => simp only [intOf]; omega
  ·obtain rfl : k = l.length + 1 := by omega
   have hii : ¬ (((l.length + 1 : Nat) : Int) < (l.length : Int) + 1) := by omega
   have HF : Hid (Blk wr g 3 (ints (splc S)).toArray) := qaa (by rw [← Hall.out]; exact HB.out)
   have HFl : Hid ((splc S).length = l.length + 1) := qaa (by rw [yao]; exact Hll.out)
   clear HB
   go_wp2
   go_ret2
   exact lpost_blk HFl.out HF.out HO.out
theorem yf3 (l : List UInt8) (r : Int) (w : World) (hs : l.length ≤ 1000000) :
  Calls prog 136 #[.string ⟨l.toArray⟩, .int .i64 r] w fun e w' => yfR w w' e (bsF l r) := by
 by_cases h : bck l r = 0
 ·obtain ⟨h1, h2⟩ := bck_zero h
  obtain ⟨k, rfl, _⟩ := bgood h2
  exact p_bsteps_yes l k w (by omega) h2
 ·exact p_bsteps_no l r w hs h
theorem ydr : (prog.info? 5).map (fun i => (i.zero, i.size, i.bytes)) = some (some (.int .u8 0), 1, 1) := by kernel_rfl
theorem mk_bytes (n : Int) (N : Nat) (hN : (N : Int) = n) (h : N ≤ 281474976710656) (w : World) :
  (Instr.makeSlice 36 (.int .i64 n) (.int .i64 n)).run prog w = .ok (.slice (some ⟨w.heap.size, 0, none⟩) N N) (w.alloc (.cells (bc (List.replicate N 0)) 5)) := by
 subst hN
 rw [← bc_zero]
 exact run_make_row' (P := prog) 36 5 (.int .u8 0) 1 underlying36 ydr rfl .i64 .i64 N (by omega) (by omega) w
theorem str_blk (w : World) (g n c : Nat) (t : TypeId) (l : List UInt8) (hn : l.length = n) (h : Blk w g t (bc l)) :
  (convert 36 9 (.slice (some ⟨g, 0, none⟩) n c)).run prog w = .ok (.string ⟨l.toArray⟩) w :=
 ycB underlying36 underlying5 underlying9 w g 0 c l n hn fun j b hj => by rw [qaz]; exact yc7 h hj
end Go.Proofs.YtanjhbkbpalnaaaGreat
