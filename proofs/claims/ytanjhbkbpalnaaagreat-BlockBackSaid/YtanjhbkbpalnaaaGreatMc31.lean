/-
 What the law of the last of these texts stands on, part 31.
-/
import Derived.Test.YtanjhbkbpalnaaaGreatMc30
import Derived.Lib.AppendStr
set_option maxRecDepth 100000
set_option maxHeartbeats 8000000
open Go.Proofs.Tryz
namespace Go.Proofs.YtanjhbkbpalnaaaGreat
set_option linter.unusedSimpArgs false
set_option linter.unusedVariables false
open Go.ChangeShapes Go.WideShapes Go.ChangeAt Go.RowKit Go.Joins Go.Deep
def ochF (m a b c d e : Int) : Int := if m < 2 ∧ a ≤ 20000 ∧ 1 ≤ b ∧ b ≤ a ∧ 1 ≤ c ∧ b + c ≤ 1000000001 ∧ d + e ≤ 1000000000 then 0 else 170
theorem p_ocheck_any (m a b c d e : Int) (T : List UInt8) (w : World) (hm : 0 ≤ m) (hb : 0 ≤ b ∧ b < 9223372036854775808) (hd : 0 ≤ d ∧ d < 9223372036854775808) :
  Calls prog 99 #[.agg (opc m a b c d e T)] w fun r w' => r = .returned (.int .i64 (ochF m a b c d e)) ∧ Below w.heap.size w w' := by
 have HB : Hid (∀ o, Below w.heap.size w (w.alloc o)) := qaa fun o => (qam w.heap.size w).alloc (qaf _) o
 have hw1 : IntKind.i64.wrap (1000000001 - b) = 1000000001 - b := by rw [qai]; omega
 have hw2 : IntKind.i64.wrap (1000000000 - d) = 1000000000 - d := by rw [qai]; omega
 clear hb hd
 go_enter func99, ntmps99
 go_wp2
 all_goals
  go_ret
  refine ⟨?_, HB.out _⟩
  unfold ochF
  simp only [bne_iff_ne, ne_eq, bne_eq_false_iff_eq] at *
  first
   | (rw [qah (by omega)]; rfl)
   | (rw [qag (by omega)]; rfl)
def ppB (l : List Int) : List UInt8 := l.flatMap putB
theorem ppB_take (l : List Int) (k : Nat) (h : k < l.length) : ppB (l.take (k + 1)) = ppB (l.take k) ++ putB l[k] := by
 unfold ppB
 rw [qap h, List.flatMap_append]
 simp
theorem ycz (n : Int) : (putB n).length ≤ 9 := by
 unfold putB
 split
 ·exact qbE _
 ·exact dg_le 9 _
theorem ppB_len (l : List Int) : ∀ k, k ≤ l.length → (ppB (l.take k)).length ≤ 9 * k
 | 0, _ => qaf _
 | k + 1, h => by
  have := ppB_len l k (by omega)
  have := ycz l[k]
  rw [ppB_take l k (by omega), qae]
  omega
structure PLay (w wr : World) (v : Value) (L : List UInt8) : Prop where
 own : wr.ownsRow w.heap.size 5 1 v L.length (bc L).toList
 below : Below w.heap.size w wr
theorem PLay.on {w w1 w2 : World} {v : Value} {L : List UInt8} (h : PLay w w1 v L) (hb : Below w1.heap.size w1 w2) : PLay w w2 v L :=
 ⟨yah h.own hb (qaf _), h.below.trans (hb.mono h.below.size)⟩
theorem PLay.add {w w1 w2 : World} {v v' : Value} {L X : List UInt8} (h : PLay w w1 v L) {n : Nat} (hn : n = (L ++ X).length) (ho : w2.ownsRow w.heap.size 5 1 v' n ((bc L).toList ++ Lib.strCells ⟨X.toArray⟩)) (hg : w1.grownBy w2 v.ownBlock) : PLay w w2 v' (L ++ X) := by
 refine ⟨?_, h.below.grown hg h.below.size fun b hb => (h.own.lt b hb).1⟩
 rw [show Lib.strCells ⟨X.toArray⟩ = (bc X).toList by simp [Lib.strCells, bc], show (bc L).toList ++ (bc X).toList = (bc (L ++ X)).toList by simp [bc], hn] at ho
 exact ho
theorem p_pput_any (l : List Int) (A : Option Addr) (n c : Nat) (w : World) (hl : l.length = n) (hn : n ≤ 1000) (hr : Reads w w.heap.size 1 A n (ints l)) (hbd : ∀ x ∈ l, x < 9223372036854775808) :
  Calls prog 49 #[.slice A n c] w fun e w' => e = .returned (.string ⟨(ppB l).toArray⟩) ∧ Below w.heap.size w w' := by
 obtain ⟨i0, hi, hz0, hz1, hz9⟩ := qb4 ycV
 have hcell : 0 < n → ∃ b off, A = some ⟨b, off, none⟩ ∧ b < w.heap.size ∧ ∀ k, (hk : k < l.length) → w.cell? ⟨b, off + k, none⟩ = some (.int .i64 l[k]) := by
  intro h
  obtain ⟨b, off, e, hb, hc⟩ := hr.2 h
  exact ⟨b, off, e, hb, fun k hk => hc k _ (yao l k hk)⟩
 have HL := qaa hl
 have HC := qaa hcell
 have HBd := qaa hbd
 have H0 : Hid (PLay w w (.slice none 0 0) []) := qaa ⟨qbS _ _ _ _, qam _ _⟩
 have H00 : Hid (ppB (l.take 0) = []) := qaa rfl
 have Hln : Hid (∀ k, k ≤ n → (ppB (l.take k)).length ≤ 9 * k) := qaa fun k hk => ppB_len l k (by omega)
 clear hr hcell hbd hl
 go_enter func49, ntmps49
 go_wp2
 go_loopw [3, 10] (fun o i wr => ∃ k : Nat, k ≤ n ∧ i = .int .i64 (k : Int) ∧ Hid (PLay w wr o (ppB (l.take k)))) (fun _ i _ => n - (intOf i).toNat)
 case atStart => exact ⟨0, by omega, rfl, qaa (by rw [H00.out]; exact H0.out)⟩
 case round =>
  obtain ⟨k, hk, rfl, HI⟩ := hrel
  by_cases hlt : k < n
  ·have hkl : k < l.length := by have := HL.out; omega
   obtain ⟨b, off, rfl, hb, hcell⟩ := HC.out (by omega)
   have c0 := (HI.out.below.cell (p := ⟨b, off + k, none⟩) hb).trans (hcell k hkl)
   have hki : (0 : Int) ≤ (k : Int) ∧ (k : Int) < (n : Int) := by omega
   have hp := qaa fun W => put_any l[k] W (HBd.out _ (qaq hkl))
   unfold strInt at hp
   have hnx : Hid (ppB (l.take (k + 1)) = ppB (l.take k) ++ putB l[k]) := qaa (ppB_take l k hkl)
   have l1 := ycz l[k]
   have l2 := Hln.out k hk
   have l3 : (ppB (l.take k)).length ≤ 9000 := by omega
   clear l2 hcell HBd
   generalize l[k] = z at *
   generalize putB z = Z at *
   generalize putE z = E at *
   go_wp2_with (first
    | (go_at_call 94; (with_reducible refine (hp.out _).mono ?_); rintro e w3 ⟨rfl, hb3⟩; have HI3 := qaa (HI.out.on hb3); clear hb3 hp)
    | (refine Lib.wpList_append_own_string _ rfl _ _ 36 9 rfl w.heap.size 5 i0 underlying36 underlying9 hi hz0 hz1 hz9 _ _ _ rfl HI3.out.own _ rfl ?c1 ?c2 HI3.out.below.size ?_))
   case c1 => rw [qbc, qaA]; unfold maxLen; omega
   case c2 => rw [qbc, qaA]; omega
   ·intro v' w4 ho4 hg4 _
    have HI4 := qaa (HI3.out.add (X := Z) (by simp only [qae]) ho4 hg4)
    clear ho4 hg4
    go_wp2
    go_roundw
    case rel => exact ⟨k + 1, by omega, iv (by omega), qaa (by rw [hnx.out]; exact HI4.out)⟩
    case measure => simp only [intOf]; omega
  ·obtain rfl : k = n := by omega
   have e : ppB l = ppB (l.take k) := by rw [qa5 (by have := HL.out; omega)]
   obtain ⟨A2, cc2, hv2, hc2, hr2⟩ := yag HI.out.own
   have hst := ybO underlying36 underlying5 underlying9 _ A2 cc2 _ hr2
   have HE := qaa e
   subst hv2
   clear hr2 hc2 e
   go_wp2
   go_ret
   refine ⟨?_, HI.out.below⟩
   rw [HE.out]
   rfl
theorem yfk (l : List UInt8) (r i j : Nat) (b : UInt8) (w : World) (hs : l.length ≤ 1000000) (hj : j < l.length) (hr : r ≤ l.length) (hi : (i < r ∧ i = j) ∨ (r < i ∧ i = j + 1)) (hb : l[j] = b) :
  Calls prog 137 #[.string ⟨l.toArray⟩, .int .i64 (r : Int), .int .i64 (i : Int)] w fun e w' => e = .returned (.int .u8 (b.toNat : Int)) ∧ w' = w := by
 have hli : (l.length : Int) ≤ 1000000 := by omega
 have hji : (0 : Int) ≤ (j : Int) ∧ (j : Int) < (l.length : Int) := by omega
 have hb1 : ∀ h, ((⟨l.toArray⟩ : ByteArray)[j]'h) = b := fun _ => hb
 rcases hi with ⟨h1, rfl⟩ | ⟨h1, rfl⟩
 ·have d1 : ¬ (r : Int) < (i : Int) := by omega
  clear hb hj hr
  go_enter func137, ntmps137
  go_wp2
  go_ret
  exact ⟨rfl, rfl⟩
 ·have d1 : (r : Int) < (j : Int) + 1 := by omega
  clear hb hj hr
  go_enter func137, ntmps137
  go_wp2
  go_ret
  exact ⟨rfl, rfl⟩
def bck (l : List UInt8) (r : Int) : Int := if 20000 < l.length then 3 else if bbad l r then 130 else 0
theorem yfm (l : List UInt8) (r : Int) (w : World) (hs : l.length ≤ 1000000) :
  Calls prog 176 #[.string ⟨l.toArray⟩, .int .i64 r] w fun e w' => e = .returned (.int .i64 (bck l r)) ∧ w' = w := by
 have hli : (l.length : Int) ≤ 1000000 := by omega
 by_cases h : 20000 < l.length
 ·have fin : bck l r = 3 := qah h
  rw [fin]
  clear fin
  have d1 : (20000 : Int) < (l.length : Int) := by omega
  go_enter func176, ntmps176
  go_wp2
  go_ret
  exact ⟨rfl, rfl⟩
 ·have fin0 : bck l r = if bbad l r then 130 else 0 := qag h
  have d0 : ¬ (20000 : Int) < (l.length : Int) := by omega
  have hmin : (min 1 (l.length : Int)) = if 0 < l.length then 1 else 0 := by split <;> omega
  by_cases h1 : r < min 1 (l.length : Int)
  ·have fin : bck l r = 130 := fin0.trans (qah (by unfold bbad; split at hmin <;> omega))
   rw [fin]
   clear fin fin0 hmin
   go_enter func176, ntmps176
   go_wp2 <;> (go_ret; exact ⟨rfl, rfl⟩)
  ·by_cases h2 : (l.length : Int) < r
   ·have fin : bck l r = 130 := fin0.trans (qah (by unfold bbad; split at hmin <;> omega))
    rw [fin]
    clear fin fin0 hmin
    go_enter func176, ntmps176
    go_wp2 <;> (go_ret; exact ⟨rfl, rfl⟩)
   ·have fin : bck l r = 0 := fin0.trans (qag (by unfold bbad; split at hmin <;> omega))
    rw [fin]
    clear fin fin0 hmin
    go_enter func176, ntmps176
    go_wp2 <;> (go_ret; exact ⟨rfl, rfl⟩)
theorem bck_zero {l : List UInt8} {r : Int} (h : bck l r = 0) : ¬ 20000 < l.length ∧ ¬ bbad l r := by
 unfold bck at h
 split at h
 ·omega
 ·split at h
  ·omega
  ·exact ⟨‹_›, ‹_›⟩
theorem bck_no {l : List UInt8} {r : Int} (h : bck l r ≠ 0) : bsF l r = ([], bck l r) ∧ biF l r = ([], bck l r) ∧ (bck l r = 3 ∨ bck l r = 130) := by
 unfold bck at h ⊢
 by_cases h1 : 20000 < l.length
 ·rw [qah h1]
  exact ⟨bsF_big h1, qah h1, qas rfl⟩
 ·rw [qag h1] at h ⊢
  by_cases h2 : bbad l r
  ·rw [qah h2]
   exact ⟨bsF_bad h1 h2, by unfold biF; rw [qag h1, qah h2], qaK rfl⟩
  ·rw [qag h2] at h
   exact absurd rfl h
theorem p_bsteps_no (l : List UInt8) (r : Int) (w : World) (hs : l.length ≤ 1000000) (h : bck l r ≠ 0) :
  Calls prog 136 #[.string ⟨l.toArray⟩, .int .i64 r] w fun e w' => LPost w w' e (bsF l r) := by
 rw [(bck_no h).1]
 have Hc := qaa fun W => yfm l r W hs
 obtain ⟨E, hE⟩ : ∃ E, bck l r = E := ⟨_, rfl⟩
 rw [hE] at h Hc ⊢
 have d1 : (E != 0) = true := by simpa using h
 clear hE
 go_enter func136, ntmps136
 go_wp2_with (go_at_call 176; refine (Hc.out _).mono ?_; rintro e w1 ⟨rfl, rfl⟩)
 go_ret2
 exact lpost_none (qam _ _)
theorem p_bsteps_yes (l : List UInt8) (r : Nat) (w : World) (hs : l.length ≤ 20000) (hg : ¬ bbad l (r : Int)) :
  Calls prog 136 #[.string ⟨l.toArray⟩, .int .i64 (r : Int)] w fun e w' => LPost w w' e (bsF l (r : Int)) := by
 rw [bsF_yes (by omega) hg]
 obtain ⟨r2, hr2, hrl, hrp⟩ := bgood hg
 obtain rfl : r = r2 := by omega
 have hck : bck l (r : Int) = 0 := by unfold bck; rw [qag (by omega), qag hg]
 have Hc := qaa fun W => yfm l (r : Int) W (by omega)
 rw [hck] at Hc
 have Hst := qaa fun W => p_stepper_any l W (by omega)
 have Hla := qaa fun i j hj hi W => yfk l r i j l[j] W (by omega) hj hrl hi rfl
 have Hcl := qaa fun i hi g W hB => p_step_any l i hi l[i] rfl g W (by omega) hB
 have hcl := ybx l r hrl
 have Hbrk := qaa fun k i hk hi hki => brk_is l r k i hrl hk hi hki
 have Hpr := qaa (yga l r hrl)
 have Hskip := qaa fun h => bst_skip (bcol l r) (l.length + 1) r h
 have Hset := qaa (bst_set (bcol l r) (l.length + 1))
 have Hlen := qaa (bst_len (bcol l r) (l.length + 1))
 have Hall := qaa (bst_all (bcol l r) (l.length + 1))
 have Hll : Hid (((List.range (l.length + 1)).map (brk (bcol l r))).length = l.length + 1) := qaa (by simp)
 have hmk := fun w => yc0 ((l.length : Int) + 1) (l.length + 1) (by omega) (by omega) w
 rw [← bst_zero (bcol l r) (l.length + 1)] at hmk
 generalize bcol l r = C at *
 generalize (List.range (l.length + 1)).map (brk C) = S at *
 have hli : (l.length : Int) ≤ 20000 ∧ (0 : Int) ≤ (r : Int) ∧ (r : Int) ≤ (l.length : Int) := by omega
 clear hck hr2 hcl hrp hg
 go_enter func136, ntmps136
 go_wp2_with (first
  | (go_at_call 176; refine (Hc.out _).mono ?_; rintro e w ⟨rfl, rfl⟩)
  | (go_at_call 177; refine (Hst.out _).mono ?_; rintro e w2 ⟨gc, rfl, hgc, hbc, hb2⟩; have HC0 := qaa (hbc.alloc (.cells (ints (bst C (l.length + 1) 0)).toArray 3)); have HN := qaa (Blk.new w2 3 (ints (bst C (l.length + 1) 0)).toArray); have HO0 := qaa (hb2.alloc hb2.size (.cells (ints (bst C (l.length + 1) 0)).toArray 3)); have hgl := hbc.lt; clear hbc; have Hgc := qaa (And.intro hgc (And.intro hgl hb2.size)); clear hgc hgl hb2; generalize hg2 : w2.heap.size = g at *))
 clear hmk
 go_loopw [24] (fun i wr => ∃ k j : Nat, k ≤ l.length + 1 ∧ i = .int .i64 k ∧ Hid ((k ≤ r ∧ k = j) ∨ (r < k ∧ k = j + 1)) ∧ Hid (Blk wr g 3 (ints (bst C (l.length + 1) k)).toArray) ∧ Hid (Blk wr gc 235 (ints (bsp l j)).toArray) ∧ Hid (Below w.heap.size w wr)) (fun i _ => l.length + 1 - (intOf i).toNat)
 case atStart => exact ⟨0, 0, by omega, rfl, qaa (qas ⟨by omega, rfl⟩), HN, HC0, HO0⟩
 case round =>
  obtain ⟨k, j, hk, rfl, Hkj, HB, HC, HO⟩ := hrel
  clear HC0 HN HO0
  by_cases hlt : k < l.length + 1
  ·have hki : (0 : Int) ≤ (k : Int) ∧ (k : Int) < (l.length : Int) + 1 := by omega
   by_cases hkr : k = r
   ·have d1 : ((k : Int) != (r : Int)) = false := by simp [hkr]
    have d2 : (k != r) = false := by simp [hkr]
    have hj : k = j := by have := Hkj.out; omega
    have HB2 : Hid (Blk wr g 3 (ints (bst C (l.length + 1) (k + 1))).toArray) := qaa (by have := Hskip.out Hpr.out; rw [hkr, ← this, ← hkr]; exact HB.out)
    have Hkr := qaa hkr
    clear hkr
    go_wp2
    go_roundw
    case rel => exact ⟨k + 1, j, by omega, iv (by omega), qaa (qaK ⟨by have := Hkr.out; omega, by omega⟩), HB2, HC, HO⟩
    case measure => simp only [intOf]; omega
   ·have d1 : ((k : Int) != (r : Int)) = true := by simp; omega
    have d2 : (k != r) = true := by simp; omega
    have hj : j < l.length := by have := Hkj.out; omega
    have hkj : (k < r ∧ k = j) ∨ (r < k ∧ k = j + 1) := by have := Hkj.out; omega
    have HL := qaa fun W => Hla.out k j hj hkj W
    have HS := qaa (Hcl.out j hj gc wr HC.out)
    have hbr := Hbrk.out k j hlt hj (by omega)
    have Hs := qaa (Hset.out k)
    rw [hbr] at Hs
    have Hne : Hid (g ≠ gc ∧ gc ≠ g) := qaa (by have := Hgc.out; omega)
    have Hkj2 : Hid ((k + 1 ≤ r ∧ k + 1 = j + 1) ∨ (r < k + 1 ∧ k + 1 = j + 1 + 1)) := qaa (by omega)
    have hcc : yaO l l[j].toNat + ybT l l[j].toNat j + 1 ≤ 50000 := by
     have h1 := yho l l[j].toNat
     have h2 := bsame_le l l[j].toNat j
     omega
    obtain ⟨c, hc⟩ : ∃ c, yaO l l[j].toNat + ybT l l[j].toNat j + 1 = c := ⟨_, rfl⟩
    rw [hc] at Hs HS hcc
    clear hbr hc hkj hkr Hkj
    generalize l[j] = b at *
    go_wp2_with (first
     | (go_at_call 137; refine (HL.out _).mono ?_; rintro e wr ⟨rfl, rfl⟩)
     | (go_at_call 198; refine HS.out.mono ?_; rintro e w1 ⟨rfl, hc1, v, rfl⟩; have HC2 := qaa (hc1.far (p := ⟨g, k, none⟩) Hne.out.2 (.int .i64 (c : Int))); clear hc1; have HB2 := qaa (HB.out.far (p := ⟨gc, b.toNat, none⟩) Hne.out.1 v); have x1 := yaJ HB2.out k (by rw [Hlen.out]; exact hlt); have x2 := HB2.out.frozen k; have x3 := HB2.out.lt; generalize (bst C (l.length + 1) k)[k]'(by rw [Hlen.out]; exact hlt) = v0 at x1))
    go_roundw
    case rel => exact ⟨k + 1, j + 1, by omega, iv (by omega), Hkj2, qaa (by rw [← Hs.out, ← yaC]; exact HB2.out.set_ k _), HC2, qaa ((HO.out.setCell (p := ⟨gc, b.toNat, none⟩) Hgc.out.1 _).setCell (p := ⟨g, k, none⟩) (by have := Hgc.out; simp only; omega) _)⟩
    case measure => simp only [intOf]; omega
  ·obtain rfl : k = l.length + 1 := by omega
   have hii : ¬ (((l.length + 1 : Nat) : Int) < (l.length : Int) + 1) := by omega
   have HF : Hid (Blk wr g 3 (ints (splc S)).toArray) := qaa (by rw [← Hall.out]; exact HB.out)
   have HFl : Hid ((splc S).length = l.length + 1) := qaa (by rw [yaq]; exact Hll.out)
   clear HB
   go_wp2
   go_ret2
   exact lpost_blk HFl.out HF.out HO.out
theorem yfp (l : List UInt8) (r : Int) (w : World) (hs : l.length ≤ 1000000) :
  Calls prog 136 #[.string ⟨l.toArray⟩, .int .i64 r] w fun e w' => LPost w w' e (bsF l r) := by
 by_cases h : bck l r = 0
 ·obtain ⟨h1, h2⟩ := bck_zero h
  obtain ⟨k, rfl, _⟩ := bgood h2
  exact p_bsteps_yes l k w (by omega) h2
 ·exact p_bsteps_no l r w hs h
def HCPost (w w' : World) (e : Ending) (F : List Int × Int) : Prop := ∃ A' c', e = .returned (.tuple #[.slice A' F.1.length c', .int .i64 F.2]) ∧ F.1.length ≤ c' ∧ Reads w' w'.heap.size 1 A' F.1.length (ints F.1) ∧ Below w.heap.size w w'
theorem yaQ {w w' : World} {E : Int} (hb : Below w.heap.size w w') : HCPost w w' (.returned (.tuple #[.slice none 0 0, .int .i64 E])) ([], E) := ⟨none, 0, rfl, qaf _, Reads.none_, hb⟩
theorem hcpost_row {w w' : World} {L : List Int} {g : Nat} (hl : L.length = 257) (hB : Blk w' g 3 (ints L).toArray) (hb : Below w.heap.size w w') : HCPost w w' (.returned (.tuple #[.slice (some ⟨g, 0, none⟩) 257 257, .int .i64 0])) (L, 0) := by
 refine ⟨some ⟨g, 0, none⟩, 257, by rw [hl], by rw [hl]; exact qaf _, ?_, hb⟩
 refine ⟨by rw [yac]; show L.length = L.length * 1; omega, fun _ => ⟨g, 0, rfl, hB.lt, fun j u hu => ?_⟩⟩
 rw [qaL, hB.cell]
 simpa using hu
theorem hints_set (l : List Int) (k : Nat) (v : Int) : (ints l).toArray.setIfInBounds k (.int .i64 v) = (ints (l.set k v)).toArray := by
 rw [qab]
 simp [ints, qcs]
structure HCells (l : List Int) (C : Nat → List Value) : Prop where
 zero : C 0 = ints (List.replicate 257 0)
 get : ∀ k (s : Nat), s < 257 → ∃ v : Nat, v ≤ k ∧ (C k).toArray[s]? = some (.int .i64 (v : Int)) ∧ ∀ hk : k < l.length, l[k] = (s : Int) → (C k).toArray.setIfInBounds s (.int .i64 ((v : Int) + 1)) = (C (k + 1)).toArray
 last : C l.length = ints (yaF l)
theorem hcells (l : List Int) : HCells l (fun k => ints (yaF (l.take k))) := by
 refine ⟨by rw [qbb, hcount_nil], fun k s hs => ?_, by rw [qbQ]⟩
 have hsl : s < (yaF (l.take k)).length := by rw [ya6]; exact hs
 refine ⟨(l.take k).count (s : Int), ?_, ?_, fun hk hx => ?_⟩
 ·have := List.count_le_length (a := (s : Int)) (l := l.take k)
  rw [qao] at this
  omega
 ·rw [qan, yao _ s hsl, ybi]
 ·rw [hints_set, qap hk, hx, hcount_snoc (l.take k) (s : Int) (by omega) (by omega)]
  simp only [qav]
  rw [ybi]
theorem hc_big {l : List Int} (h : 100000 < l.length) : hcF l = ([], 3) := qah h
theorem hc_all {l : List Int} (h : ¬ 100000 < l.length) (hi : hin l = true) : hcF l = (yaF l, 0) := by unfold hcF; rw [qag h, qah hi]
theorem hc_none {l : List Int} (h : ¬ 100000 < l.length) (k : Nat) (hk : k < l.length) (hx : ¬ (0 ≤ l[k] ∧ l[k] ≤ 256)) : hcF l = ([], 70) := by
 unfold hcF
 rw [qag h, qag fun hi => hx (hin_get hi _ (qaq hk))]
theorem hin_take {l : List Int} (k : Nat) (hk : k < l.length) (h : hin (l.take k) = true) (hx : 0 ≤ l[k] ∧ l[k] ≤ 256) : hin (l.take (k + 1)) = true := by
 refine hin_of fun x hm => ?_
 rw [qap hk] at hm
 rcases qbm.1 hm with h2 | h2
 ·exact hin_get h x h2
 ·rw [qbZ.1 h2]; exact hx
def cputV (g : Nat) : Value := .func (.func 107) #[.pointer (some ⟨g, 0, none⟩)] #[]
theorem c_hand_yes (ls : List Nat) (B Bw g gw : Nat) (v : Value) (R : List Nat) (s : Int) (w : World) (h : CCode w B g ls) (hl : ls.length ≤ 1000000) (hE : (ycG (wat ls 16 0) s).2 = 0) (hf : ∀ f ∈ wat ls 16 0, fits f.1 f.2) (hH : WHold w Bw gw v R) (hB : Bw ≤ w.heap.size) (hR : R.length ≤ 1099511627776) :
  Calls prog 109 #[.pointer (some ⟨g, 0, none⟩), cputV gw, .int .i64 s] w fun e w' => e = .returned (.int .i64 0) ∧ ∃ v', WHold w' Bw gw v' (R ++ (yaZ (wat ls 16 0) s).1) ∧ Touch w w' (WS gw v) ∧ Sep w v v' := by
 have Hw := qaa (c_word_any ls B g s w h hl)
 obtain ⟨h1, h2⟩ := pword_ref (wat ls 16 0) s
 obtain ⟨h3, h4⟩ := h2 hE
 unfold wordV at Hw
 rw [hE] at Hw
 rw [h3]
 have hfit := hf _ h4
 have Hput := qaa fun w hH hB => bput_is Bw gw _ _ v R w hfit hH hB hR
 clear h hE h1 h2 h3 h4 hf hfit
 generalize (ycG (wat ls 16 0) s).1.1 = x at *
 generalize (ycG (wat ls 16 0) s).1.2 = y at *
 have HW := qaa fun (w1 : World) (hb : Below w.heap.size w w1) (o : Obj) => (hH.below hb (qaf _)).below (C := w1.heap.size) ((qam w1.heap.size w1).alloc (qaf _) o) (qaf _)
 have HB2 := qaa fun (w1 : World) (hb : Below w.heap.size w w1) (o : Obj) => show Bw ≤ (w1.alloc o).heap.size from qaG hB (qaG hb.size (by simp))
 clear hH hB hR
 unfold cputV
 go_enter func109, ntmps109
 go_wp2_with (first
  | (go_at_call 151; refine Hw.out.mono ?_; rintro e w1 ⟨rfl, hb1⟩; have Hb1 := qaa hb1; clear hb1)
  | (go_at_call 107; refine (Hput.out _ (HW.out w1 Hb1.out _) (HB2.out w1 Hb1.out _)).mono ?_; rintro e w2 ⟨rfl, v2, hH2, ht2, hs2⟩; have HH2 := qaa hH2; have Ht2 := qaa ht2; have Hs2 := qaa hs2; clear hH2 ht2 hs2))
 go_ret
 refine ⟨rfl, v2, HH2.out, ?_, fun k hk => ?_⟩
 ·exact ((yai (S := WS gw v) Hb1.out (qaf _)).alloc _).trans Ht2.out
 ·rcases Hs2.out k hk with e | e
  ·exact qas e
  ·have := Hb1.out.size
   rw [qay] at e
   exact qaK (by omega)
theorem c_put_yes (ls : List Nat) (B Bw g gw : Nat) (v : Value) (R : List Nat) (s : Int) (w : World) (h : CCode w B g ls) (hl : ls.length ≤ 1000000) (hE : (yaZ (wat ls 16 0) s).2 = 0) (hf : ∀ f ∈ wat ls 16 0, fits f.1 f.2) (hH : WHold w Bw gw v R) (hB : Bw ≤ w.heap.size) (hR : R.length ≤ 1099511627776) :
  Calls prog 64 #[.pointer (some ⟨g, 0, none⟩), .pointer (some ⟨gw, 0, none⟩), .int .i64 s] w fun e w' => e = .returned (.int .i64 0) ∧ ∃ v', WHold w' Bw gw v' (R ++ (yaZ (wat ls 16 0) s).1) ∧ Touch w w' (WS gw v) ∧ Sep w v v' := by
 have hmf : ∀ (fn : Fn) (first cap : Array Value) (w : World), (Instr.makeFunc fn first cap).run prog w = .ok (.func fn first cap) w := fun _ _ _ _ => rfl
 have hy := c_hand_yes ls B Bw g gw v R s w h hl ((pword_ref (wat ls 16 0) s).1.trans hE) hf hH hB hR
 unfold cputV at hy
 have Hy := qaa hy
 clear h hE hf hH hB hR hy
 generalize R ++ (yaZ (wat ls 16 0) s).1 = R2 at *
 go_enter func64, ntmps64
 go_wp2_with (go_at_call 109; refine Hy.out.mono ?_; rintro e w1 ⟨rfl, hp⟩; have Hp := qaa hp; clear hp)
 go_ret
 exact ⟨rfl, Hp.out⟩
theorem done_any (l : List UInt8) (p g : Nat) (w : World) (hl : l.length ≤ 1099511627776) (hp : p ≤ 8 * l.length) (hB : RHold w g l p) :
  Calls prog 90 #[.pointer (some ⟨g, 0, none⟩)] w fun e w' => e = .returned (.bool (ygX (yaf l) p)) ∧ ∃ k, w.drewN k = w' := by
 by_cases h8 : 8 * l.length - p < 8
 ·by_cases hz : lz ((yaf l).drop p) = 8 * l.length - p
  ·have e : ygX (yaf l) p = true := by unfold ygX; rw [yar]; simp [h8, hz]
   rw [e]
   exact done_yes l p g w hl hp hB h8 hz
  ·have e : ygX (yaf l) p = false := by unfold ygX; rw [yar]; simp [hz]
   rw [e]
   have hnou := fun v hB => ycD l p g v hl hp hB
   have hleft := fun v hB => ybQ l p g v (by omega) hp hB
   have h8i : ((8 * l.length - p : Nat) : Int) < 8 := by omega
   have HB := qaa hB
   clear hB hp hl h8 e
   generalize 8 * l.length - p = M at *
   generalize lz ((yaf l).drop p) = z at *
   have hb1 : ((z : Int) == (M : Int)) = false := by simp; omega
   have hb2 : ¬ (z : Int) = (M : Int) := by omega
   go_enter func90, ntmps90
   go_wp2_with (first
    | (go_at_call 129; refine (ycb g _).mono ?_; rintro e w1 ⟨rfl, rfl⟩)
    | (go_at_call 131; refine (hnou _ (HB.out.drewN _)).mono ?_; rintro e w1 ⟨rfl, k0, rfl⟩)
    | (go_at_call 130; (first | (refine (hleft _ HB.out).mono ?_) | (refine (hleft _ (HB.out.drewN _)).mono ?_)); rintro e w1 ⟨rfl, k1, rfl⟩))
   go_ret
   exact ⟨by simp [hb2], _, rfl⟩
 ·have e : ygX (yaf l) p = false := by unfold ygX; rw [yar]; simp; omega
  rw [e]
  have hleft := fun v hB => ybQ l p g v (by omega) hp hB
  have h8i : ¬ ((8 * l.length - p : Nat) : Int) < 8 := by omega
  have HB := qaa hB
  clear hB hp hl h8 e
  generalize 8 * l.length - p = M at *
  go_enter func90, ntmps90
  go_wp2_with (first
   | (go_at_call 129; refine (ycb g _).mono ?_; rintro e w1 ⟨rfl, rfl⟩)
   | (go_at_call 130; (first | (refine (hleft _ HB.out).mono ?_) | (refine (hleft _ (HB.out.drewN _)).mono ?_)); rintro e w1 ⟨rfl, k1, rfl⟩))
  go_ret
  exact ⟨rfl, _, rfl⟩
theorem tget_out (L : List Nat) (p : Nat) (N : Int) (h : N < 0 ∨ 257 < N) : yb8 L p N = ([], p, 2) := by
 unfold yb8
 rw [qah h]
theorem tget_in (L : List Nat) (p M : Nat) (hM : M ≤ 257) (Z : List Int × Nat × Int) (hZ : ycc L M (M + 1) p (-1) [] = Z) : yb8 L p (M : Int) = if trdE Z ≠ 0 then ([], p, trdE Z) else (trdL Z, Z.2.1, 0) := by
 unfold yb8 trdE trdL
 rw [qag (by omega), qav, hZ]
 by_cases h : Z.2.2 ≠ 0
 ·rw [qah h, qah h, qah h]
 ·rw [qag h, qag h, qag h]
theorem trd_zero {Z : List Int × Nat × Int} (h : trdE Z = 0) : Z.2.2 = 0 := by
 unfold trdE at h
 by_cases h2 : Z.2.2 ≠ 0
 ·rw [qah h2] at h
  exact h
 ·omega
theorem treads_set {w : World} {size n : Nat} {A : Option Addr} {xs : List Value} (h : Reads w w.heap.size size A n xs) {p : Addr} (hp : ∀ a : Addr, A = some a → a.block ≠ p.block) (u : Value) : Reads (w.setCell p u) (w.setCell p u).heap.size size A n xs := by
 refine ⟨h.1, fun hn => ?_⟩
 obtain ⟨b, off, e, hb, hc⟩ := h.2 hn
 refine ⟨b, off, e, by simpa [World.setCell] using hb, fun j u2 hu => ?_⟩
 rw [qcu w p _ u (fun e2 => hp _ e (by rw [e2]))]
 exact hc j u2 hu
def TGot (w w' : World) (s : List UInt8) (g : Nat) (e : Ending) (F : List Int × Nat × Int) : Prop :=
 ∃ A' c', e = .returned (.tuple #[.slice A' F.1.length c', .int .i64 F.2.2]) ∧ F.1.length ≤ c' ∧ Reads w' w'.heap.size 1 A' F.1.length (ints F.1) ∧ RHold w' g s F.2.1 ∧ Touch w w' (fun k => k = g)
theorem tgot_bad {w w' : World} {s : List UInt8} {g p : Nat} {E : Int} (hR : RHold w' g s p) (ht : Touch w w' (fun k => k = g)) : TGot w w' s g (.returned (.tuple #[.slice none 0 0, .int .i64 E])) ([], p, E) :=
 ⟨none, 0, rfl, qaf _, Reads.none_, hR, ht⟩
theorem tgot_any (s : List UInt8) (p g : Nat) (N : Int) (w : World) (hs : s.length ≤ 100000000000) (hp : p ≤ 8 * s.length) (hR : RHold w g s p) :
  Calls prog 87 #[.pointer (some ⟨g, 0, none⟩), .int .i64 N] w fun e w' => TGot w w' s g e (yb8 (yaf s) p N) := by
 by_cases h1 : N < 0
 ·rw [tget_out _ _ _ (qas h1)]
  go_enter func87, ntmps87
  go_wp2
  go_ret2
  exact tgot_bad hR (Touch.refl _ _)
 by_cases h2 : 257 < N
 ·rw [tget_out _ _ _ (qaK h2)]
  go_enter func87, ntmps87
  go_wp2
  go_ret2
  exact tgot_bad hR (Touch.refl _ _)
 obtain ⟨M, rfl⟩ := qaQ (by omega : 0 ≤ N)
 obtain ⟨Z, hZ⟩ : ∃ Z, ycc (yaf s) M (M + 1) p (-1) [] = Z := ⟨_, rfl⟩
 rw [tget_in _ _ _ (by omega) Z hZ]
 obtain ⟨c1, c2, z1, z2⟩ := Blk.two hR
 have hgl := Blk.lt hR
 have hMi : (0 : Int) ≤ (M : Int) ∧ (M : Int) ≤ 257 := by omega
 have Hread := qaa (p_tread_any s p w.heap.size M (w.alloc (.cells #[.string ⟨s.toArray⟩, .int .i64 (p : Int)] 174)) (by omega) hs hp (Blk.new w _ _) Z hZ)
 have HR := qaa hR
 have Hback : Hid (∀ w2, Touch (w.alloc (.cells #[.string ⟨s.toArray⟩, .int .i64 (p : Int)] 174)) w2 (fun k => k = w.heap.size) → RHold w2 g s p ∧ Touch w w2 (fun k => k = g)) := qaa fun w2 h =>
  ⟨(Blk.alloc hR _).touch h (by omega), ((Touch.refl w _).alloc _).next h (fun k hk e => by omega)⟩
 clear hZ hR hs hp
 by_cases hE : trdE Z = 0
 ·rw [qag (by simpa using hE)]
  have hz := trd_zero hE
  have HE := qaa hE
  have Hz := qaa hz
  clear hE hz
  go_enter func87, ntmps87
  go_wp2_with (go_at_call 126; refine Hread.out.mono ?_; unfold ydK; rintro e w2 ⟨A2, cv2, q, rfl, h3, h4, h5, h6, h7, h8⟩; rw [HE.out]; have hq := h7 Hz.out; subst hq; obtain ⟨g1, g2⟩ := Hback.out _ h6; have H3 := qaa h3; have H4 := qaa h4; have G1 := qaa g1; have G2 := qaa g2; have H8 := qaa h8; obtain ⟨d1, d2, _, _⟩ := Blk.two h5; obtain ⟨e1, e2, e3, e4⟩ := Blk.two g1; clear h3 h4 h5 h6 h7 h8 g1 g2)
  go_ret2
  refine ⟨A2, cv2, rfl, H3.out, ?_, ?_, ?_⟩
  ·exact treads_set (treads_set H4.out (fun a h => by have := H8.out a h; rw [qay] at this; show a.block ≠ g; omega) _) (fun a h => by have := H8.out a h; rw [qay] at this; show a.block ≠ g; omega) _
  ·exact ((Blk.set_ G1.out 0 _).set_ 1 _)
  ·exact (G2.out.set (p := ⟨g, 0, none⟩) (qas rfl) _).set (p := ⟨g, 1, none⟩) (qas rfl) _
 ·rw [qah (by simpa using hE)]
  have hb1 : (trdE Z == 0) = false := by simpa using hE
  have hb2 : (trdE Z != 0) = true := by simpa using hE
  go_enter func87, ntmps87
  go_wp2_with (go_at_call 126; refine Hread.out.mono ?_; unfold ydK; rintro e w2 ⟨A2, cv2, q, rfl, h3, h4, h5, h6, h7, h8⟩; obtain ⟨g1, g2⟩ := Hback.out _ h6; have G1 := qaa g1; have G2 := qaa g2; clear h3 h4 h5 h6 h7 h8 g1 g2)
  go_ret2
  exact tgot_bad G1.out G2.out
theorem CFar.lt {W : World} {g : Nat} {ls : List Nat} {ok : Nat → Prop} (h : CFar W g ls ok) : CFar W g ls (fun k => k < W.heap.size ∧ ok k) := by
 obtain ⟨B, k, st, rows, h, hB, o1, o2, o3⟩ := h
 refine ⟨B, k, st, rows, h, hB, ⟨qaZ h.gB hB, o1⟩, ⟨qaZ h.hB hB, o2⟩, fun j hj A n c e hn a ha => ⟨?_, o3 j hj A n c e hn a ha⟩⟩
 obtain ⟨A2, c2, e2, hr⟩ := h.row j hj
 rw [e] at e2
 injection e2 with e3 e4 _
 subst e3 e4
 obtain ⟨b, off, e5, hb, _⟩ := hr.2 hn
 rw [ha] at e5
 injection e5 with e5
 rw [e5]
 exact qaZ hb hB
theorem hget_fail (ws : List (Int × Int)) (L : List Nat) (p : Nat) (hf : ∀ f ∈ ws, fits f.1 f.2) (h : (ybk ws L p).2.2 ≠ 0) : (ybk ws L p).1 = 0 ∧ (ybk ws L p).2.1 = 0 := by
 unfold ybk at h ⊢
 rcases yfK (L.drop p) ws 0 (if p = L.length then 4 else 40) (by split <;> omega) hf with ⟨h1, _⟩ | ⟨_, h2, h3⟩
 ·exact absurd h1 h
 ·exact ⟨h2, h3⟩
structure HDec (w3 wr : World) (s : List UInt8) (gr g : Nat) (ls : List Nat) (q k : Nat) (acc : List Int) (Av : Option Addr) (cv : Nat) : Prop where
 rd : RHold wr gr s q
 far : CFar wr g ls (fun k => k < w3.heap.size ∧ k ≠ gr)
 row : wr.ownsRow w3.heap.size 3 1 (.slice Av k cv) k (ints acc)
 tch : Touch w3 wr (fun k => k = gr)
 glt : gr < w3.heap.size
section
variable {w3 wr w5 w6 : World} {s : List UInt8} {gr g q k : Nat} {ls : List Nat} {acc : List Int} {Av : Option Addr} {cv : Nat}
theorem HDec.get (T : HDec w3 wr s gr g ls q k acc Av cv) {q2 : Nat} (h : RHold w5 gr s q2) (ht : Touch wr w5 (fun k => k = gr)) : HDec w3 w5 s gr g ls q2 k acc Av cv :=
 ⟨h, T.far.touch ht (fun k hk e => hk.2 e), yaG T.row ht (fun b hb e => by have := (T.row.lt b hb).1; have := T.glt; omega), T.tch.trans ht, T.glt⟩
theorem HDec.app (T : HDec w3 wr s gr g ls q k acc Av cv) {o : Obj} {A2 : Option Addr} {c2 : Nat} {x : Int} (ho : w6.ownsRow w3.heap.size 3 1 (.slice A2 (k + 1) c2) (k + 1) (ints acc ++ [.int .i64 x])) (hg : (wr.alloc o).grownBy w6 (Value.slice Av k cv).ownBlock) : HDec w3 w6 s gr g ls q (k + 1) (acc ++ [x]) A2 c2 := by
 have hown : ∀ b, (Value.slice Av k cv).ownBlock = some b → w3.heap.size ≤ b := fun b hb => (T.row.lt b hb).1
 have ht : Touch wr w6 (fun b => (Value.slice Av k cv).ownBlock = some b) := ((Touch.refl wr _).alloc o).trans ((yaT hg).mono fun b _ e => e.symm)
 refine ⟨T.rd.touch ht (fun e => by have := hown _ e; have := T.glt; omega), T.far.touch ht (fun b hb e => by have := hown _ e; omega), ?_, T.tch.next ht (fun b hb e => by have := hown _ e; omega), T.glt⟩
 have e : ints (acc ++ [x]) = ints acc ++ [.int .i64 x] := by simp [ints]
 rw [e]
 exact ho
end
theorem hcpost_acc {w w' : World} {acc : List Int} {k c : Nat} {A : Option Addr} (hl : acc.length = k) (hc : k ≤ c) (hr : Reads w' w'.heap.size 1 A k (ints acc)) (hb : Below w.heap.size w w') : HCPost w w' (.returned (.tuple #[.slice A k c, .int .i64 0])) (acc, 0) := by
 subst hl
 exact ⟨A, c, rfl, hc, hr, hb⟩
theorem ygm (w3 : World) (s : List UInt8) (gr g q : Nat) (ls : List Nat) (h1 : RHold w3 gr s q) (h2 : CFar w3 g ls (fun k => k ≠ gr)) : HDec w3 w3 s gr g ls q 0 [] none 0 :=
 ⟨h1, h2.lt, qbS _ _ _ _, Touch.refl _ _, Blk.lt h1⟩
def HRow (w w' : World) (e : Ending) (s : List UInt8) (gr : Nat) (U : List Int × Nat × Int) : Prop :=
 Touch w w' (fun k => k = gr) ∧ ((U.2.2 ≠ 0 ∧ e = .returned (.tuple #[.slice none 0 0, .int .i64 U.2.2])) ∨ (U.2.2 = 0 ∧ ∃ A c, e = .returned (.tuple #[.slice A U.1.length c, .int .i64 0]) ∧ U.1.length ≤ c ∧ Reads w' w'.heap.size 1 A U.1.length (ints U.1) ∧ RHold w' gr s U.2.1 ∧ U.2.1 ≤ 8 * s.length))
theorem hrow_bad {w w' : World} {s : List UInt8} {gr : Nat} {U : List Int × Nat × Int} {E : Int} (hE : E ≠ 0) (h : U.2.2 = E) (ht : Touch w w' (fun k => k = gr)) : HRow w w' (.returned (.tuple #[.slice none 0 0, .int .i64 E])) s gr U := by
 subst h
 exact ⟨ht, qas ⟨hE, rfl⟩⟩
theorem hrow_good {w w' : World} {s : List UInt8} {gr g q k : Nat} {ls : List Nat} {acc : List Int} {Av : Option Addr} {cv : Nat} {U : List Int × Nat × Int} (h : (acc, q, (0 : Int)) = U) (ha : acc.length = k) (hq : q ≤ 8 * s.length) (T : HDec w w' s gr g ls q k acc Av cv) : HRow w w' (.returned (.tuple #[.slice Av k cv, .int .i64 0])) s gr U := by
 subst h ha
 obtain ⟨A2, c2, e2, h8, h9⟩ := yag T.row
 injection e2 with e3 _ e4
 subst e3 e4
 exact ⟨T.tch, qaK ⟨rfl, _, _, rfl, h8, h9, T.rd, hq⟩⟩
section
variable {s : List UInt8} {ls : List Nat} {M : Nat}
theorem p_hrow_any (w3 : World) (g gr q0 : Nat) (hs : s.length ≤ 100000000000) (hM : M ≤ 100000) (hat : q0 ≤ 8 * s.length) (h15 : ∀ x ∈ ls, x ≤ 15) (hca : call ls ≤ 32768) (hD : ya7 ls ls.length = 1 ∨ call ls = 32768) (hll : ls.length ≤ 257) (hfit : ∀ f ∈ wat ls 16 0, fits f.1 f.2) (hwl : (wat ls 16 0).length ≤ 257) (h0 : HDec w3 w3 s gr g ls q0 0 [] none 0) :
  Calls prog 88 #[.int .i64 (M : Int), .pointer (some ⟨gr, 0, none⟩), .func (.func 89) #[.pointer (some ⟨g, 0, none⟩)] #[]] w3 fun e w' => HRow w3 w' e s gr (cunp (wat ls 16 0) (yaf s) M q0 []) := by
 obtain ⟨i0, hi, hz0, hz1, hz9⟩ := qb4 yfV
 obtain ⟨U, hU⟩ : ∃ U, cunp (wat ls 16 0) (yaf s) M q0 [] = U := ⟨_, rfl⟩
 have HG := qaa fun (W : World) ok (q : Nat) (hfar : CFar W g ls ok) (hgr : ¬ ok gr) (hR : RHold W gr s q) (hq : q ≤ 8 * s.length) => c_get_far ls ok g gr s q W hfar h15 hca hD hll hgr hR (by omega) hq
 have Hok := qaa fun q (hq : q ≤ 8 * s.length) => cgetF_ok (wat ls 16 0) (yaf s) q (8 * s.length) (yar s) hq hwl hfit
 have Hfl := qaa fun q => hget_fail (wat ls 16 0) (yaf s) q hfit
 have HU := qaa hU
 have H0 := qaa h0
 have hMi : (0 : Int) ≤ (M : Int) ∧ (M : Int) ≤ 100000 := by omega
 rw [hU]
 clear h0 hU h15 hca hD hll hfit hwl hs
 go_enter func88, ntmps88
 go_wp2
 go_loopw [8, 9, 10, 12] (fun v xv ev i wr => ∃ (k q : Nat) (acc : List Int) (Av : Option Addr) (cv : Nat), k ≤ M ∧ q ≤ 8 * s.length ∧ v = .slice Av k cv ∧ i = .int .i64 k ∧ Hid (acc.length = k) ∧ Hid (cunp (wat ls 16 0) (yaf s) (M - k) q acc = U) ∧ Hid (HDec w3 wr s gr g ls q k acc Av cv)) (fun _ _ _ i _ => M - (intOf i).toNat)
 case atStart => exact ⟨0, q0, [], none, 0, by omega, hat, rfl, rfl, qaa rfl, qaa HU.out, H0⟩
 case round =>
  obtain ⟨k, q, acc, Av, cv, hk, hq, rfl, rfl, Hacc, HR, HT⟩ := hrel
  clear H0 HU hat
  by_cases hlt : k < M
  ·have hki : (k : Int) < (M : Int) := by omega
   have hget := HG.out wr (fun k => k < w3.heap.size ∧ k ≠ gr) q HT.out.far (fun h => h.2 rfl) HT.out.rd hq
   have hok := Hok.out q hq
   have hfl := Hfl.out q
   have hst := HR.out
   rw [show M - k = M - (k + 1) + 1 from by omega, ycQ] at hst
   generalize ybk (wat ls 16 0) (yaf s) q = G at *
   obtain ⟨g1, g2, g3⟩ := G
   unfold CGet2 at hget
   dsimp only at hst hok hget hfl
   have Hget := qaa hget
   clear hget
   rcases hok with ⟨rfl, x, kk, rfl, hx, rfl, hkk⟩ | hne
   ·rw [qah rfl, qav] at hst
    have Hst := qaa hst
    rw [qav] at Hget
    clear hst hfl
    go_wp2_with (first
     | (go_at_call 89; refine Hget.out.mono ?_; rintro e w5 ⟨rfl, hr5, ht5⟩; have HT5 := qaa (HT.out.get hr5 ht5); clear hr5 ht5)
     | (at_builtin; refine yan _ rfl _ _ 28 rfl w3.heap.size 3 i0 (.int .i64 0) 1 8 underlying28 hi hz0 hz1 hz9 rfl (by decide) _ _ _ rfl (yah HT5.out.row ((qam w5.heap.size w5).alloc (qaf _) _) (qaf _)) _ 1 1 _ _ rfl (yaB w5 3 #[.int .i64 (x : Int)] 1 1 rfl) ?c1 ?c2 ?c3 ?c4 ?_))
    case c1 => first | rfl | (intro u hu; rw [qbZ.1 hu]; rfl)
    case c2 => unfold maxLen; omega
    case c3 => omega
    case c4 =>
     have := HT5.out.tch.size
     simp
     omega
    intro v7 w7 ho7 hg7 _
    obtain ⟨A8, c8, rfl, _, _⟩ := yag ho7
    have HT7 : Hid (HDec w3 w7 s gr g ls (q + kk) (k + 1) (acc ++ [(x : Int)]) A8 c8) := qaa (HT5.out.app ho7 hg7)
    clear ho7 hg7
    go_wp2
    go_roundw
    case rel => exact ⟨k + 1, q + kk, acc ++ [(x : Int)], A8, c8, by omega, hkk, rfl, iv (by omega), qaa (by rw [qae, Hacc.out]; rfl), qaa Hst.out, HT7⟩
    case measure => simp only [intOf]; omega
   ·have hg3 : g3 ≠ 0 := by omega
    obtain ⟨rfl, rfl⟩ := hfl hg3
    rw [qag hg3] at hst
    have Hu := qaa (show U.2.2 = g3 by rw [← hst])
    have Hg3 := qaa hg3
    have hb1 : (g3 == 0) = false := by simpa using hg3
    have hb2 : (g3 != 0) = true := by simpa using hg3
    clear hst hfl hne hg3
    go_wp2_with (go_at_call 89; refine Hget.out.mono ?_; rintro e w5 ⟨rfl, hr5, ht5⟩; have HT5 := qaa (HT.out.get hr5 ht5); clear hr5 ht5)
    go_ret2
    exact hrow_bad Hg3.out Hu.out HT5.out.tch
  ·obtain rfl : k = M := by omega
   have hii : ¬ (k : Int) < (k : Int) := by omega
   have hst := HR.out
   rw [qcc] at hst
   have Hst := qaa (show (acc, q, (0 : Int)) = U from hst)
   clear hst
   go_wp2
   go_ret2
   exact hrow_good Hst.out Hacc.out hq HT.out
end
theorem p_hdecode_any (s : List UInt8) (N : Int) (w : World) (hs : s.length ≤ 100000000000) :
  Calls prog 46 #[.string ⟨s.toArray⟩, .int .i64 N] w fun e w' => HCPost w w' e (yci s N) := by
 obtain ⟨i0, hi, hz0, hz1, hz9⟩ := qb4 yfV
 have hmf : ∀ (fn : Fn) (first cap : Array Value) (w : World), (Instr.makeFunc fn first cap).run prog w = .ok (.func fn first cap) w := fun _ _ _ _ => rfl
 obtain ⟨F, hF⟩ : ∃ F, yci s N = F := ⟨_, rfl⟩
 rw [hF]
 unfold yci at hF
 by_cases h1 : N < 0
 ·rw [qah (qas h1)] at hF
  subst hF
  clear hs
  go_enter func46, ntmps46
  go_wp2
  go_ret2
  exact yaQ (qam _ _)
 by_cases h2 : 100000 < N
 ·rw [qah (qaK h2)] at hF
  subst hF
  clear hs
  go_enter func46, ntmps46
  go_wp2
  go_ret2
  exact yaQ (qam _ _)
 rw [qag (by omega)] at hF
 obtain ⟨M, rfl⟩ := qaQ (by omega : 0 ≤ N)
 rw [qav] at hF
 have hMi : (0 : Int) ≤ (M : Int) ∧ (M : Int) ≤ 100000 := by omega
 have hb := (qam w.heap.size w).alloc (qaf _) (.cells #[.string ⟨s.toArray⟩, .int .i64 0] 174)
 have hget := tgot_any s 0 w.heap.size 257 (w.alloc (.cells #[.string ⟨s.toArray⟩, .int .i64 0] 174)) hs (by omega) (Blk.new w _ _)
 obtain ⟨G, hG⟩ : ∃ G, yb8 (yaf s) 0 257 = G := ⟨_, rfl⟩
 rw [hG] at hF hget
 unfold hdec1 at hF
 by_cases hE : G.2.2 = 0
 ·rw [qag (by simpa using hE)] at hF
  have hgm := tgetF_more (yaf s) [] 0 257 (qbE _) (by rw [hG]; exact hE)
  rw [hG, yar] at hgm
  obtain ⟨_, hat, hck⟩ := hgm
  obtain ⟨hl, hg, hca⟩ := ydi hck
  obtain ⟨ln, q0, e0⟩ := G
  dsimp only at hE hF hat hck hl hg hca hget
  subst hE
  have hnew := fun (W : World) A c (hr : Reads W W.heap.size 1 A ln.length (ints ln)) => c_new_any ln A ln.length c W (by omega) hr
  have hnew2 : ∀ (W : World) A c, Reads W W.heap.size 1 A ln.length (ints ln) → Calls prog 62 #[.slice A ln.length c] W fun e w' => ∃ g, e = .returned (.tuple #[.pointer (some ⟨g, 0, none⟩), .int .i64 0]) ∧ CFar w' g (ln.map Int.toNat) (fun k => W.heap.size ≤ k) ∧ Below W.heap.size W w' := fun W A c hr => by
   refine (hnew W A c hr).mono ?_
   rintro e w' ⟨h1, ⟨_, g, _, rfl, h2⟩ | ⟨h2, _⟩⟩
   ·exact ⟨g, rfl, h2.2, h1⟩
   ·exact absurd hck h2
  have Hnew := qaa hnew2
  have h15 := cnat15 hg
  have hD := cdeep_full hck
  have hll : (ln.map Int.toNat).length ≤ 257 := by rw [qaM]; exact hl
  have hfit := cwords_fit ln
  rw [cwords_ok hck] at hfit
  dsimp only at hfit
  have hwl : (wat (ln.map Int.toNat) 16 0).length ≤ 257 := by rw [yaS]; exact hll
  clear hnew hnew2 hck hg hl
  generalize ln.map Int.toNat = ls at *
  have Hrow := qaa fun (W : World) (g gr : Nat) (h : HDec W W s gr g ls q0 0 [] none 0) => p_hrow_any (M := M) W g gr q0 hs (by omega) hat h15 hca hD hll hfit hwl h
  obtain ⟨U, hU⟩ : ∃ U, cunp (wat ls 16 0) (yaf s) M q0 [] = U := ⟨_, rfl⟩
  rw [hU] at hF Hrow
  have Hdone := qaa fun W (q gr : Nat) (hq : q ≤ 8 * s.length) (hR : RHold W gr s q) => done_any s q gr W (by omega) hq hR
  have Hget := qaa hget
  have Hb := qaa hb
  unfold hdec2 at hF
  clear hget hb hU hG h15 hca hD hll hfit hwl hs
  obtain ⟨ul, uq, ue⟩ := U
  dsimp only at hF
  have Hne : Hid (∀ (w2 : World), RHold w2 w.heap.size s q0 → w.heap.size < w2.heap.size) := qaa fun w2 h => Blk.lt h
  by_cases hu : ue = 0
  ·subst hu
   rw [qag (by decide)] at hF
   have Hrow2 : Hid (∀ (W : World) (g gr : Nat), HDec W W s gr g ls q0 0 [] none 0 → Calls prog 88 #[.int .i64 (M : Int), .pointer (some ⟨gr, 0, none⟩), .func (.func 89) #[.pointer (some ⟨g, 0, none⟩)] #[]] W fun e w' => ∃ A c, e = .returned (.tuple #[.slice A ul.length c, .int .i64 0]) ∧ ul.length ≤ c ∧ Reads w' w'.heap.size 1 A ul.length (ints ul) ∧ RHold w' gr s uq ∧ uq ≤ 8 * s.length ∧ Touch W w' (fun k => k = gr)) := qaa fun W g gr h => by
    refine (Hrow.out W g gr h).mono ?_
    rintro e w' ⟨ht, ⟨h2, _⟩ | ⟨_, A, c, rfl, h3, h4, h5, h6⟩⟩
    ·exact absurd rfl h2
    ·exact ⟨A, c, rfl, h3, h4, h5, h6, ht⟩
   clear Hrow
   obtain ⟨dn, hdn⟩ : ∃ dn, ygX (yaf s) uq = dn := ⟨_, rfl⟩
   rw [hdn] at hF
   have Hdn : Hid (∀ (W : World) gr, uq ≤ 8 * s.length → RHold W gr s uq → Calls prog 90 #[.pointer (some ⟨gr, 0, none⟩)] W fun e w' => e = .returned (.bool dn) ∧ ∃ k, W.drewN k = w') := qaa fun W gr hq hR => by
    have := Hdone.out W uq gr hq hR
    rwa [hdn] at this
   clear Hdone hdn
   cases dn
   ·rw [qag (by decide)] at hF
    go_enter func46, ntmps46
    go_wp2_with (first
     | (go_at_call 86; refine (yb9 _ _).mono ?_; rintro e w1 ⟨rfl, rfl⟩)
     | (go_at_call 87; refine Hget.out.mono ?_; unfold TGot; rintro e w2 ⟨A2, c2, rfl, _, h4, h5, h6⟩; have H4 := qaa h4; have H5 := qaa h5; have H6 := qaa h6; clear h4 h5 h6)
     | (go_at_call 62; refine (Hnew.out _ _ _ H4.out).mono ?_; rintro e w3 ⟨g, rfl, h7, hb3⟩; have H7 := qaa h7; have Hb3 := qaa hb3; clear h7 hb3)
     | (go_at_call 88; refine (Hrow2.out w3 g w.heap.size (ygm w3 s w.heap.size g q0 ls (Blk.below H5.out Hb3.out (Hne.out w2 H5.out)) (H7.out.mono fun k hk e => absurd (e ▸ hk) (Nat.not_le_of_lt (Hne.out w2 H5.out))))).mono ?_; rintro e w4 ⟨A4, c4, rfl, h8, h9, h10, h11, h12⟩; have H8 := qaa h8; have H9 := qaa h9; have H10 := qaa h10; have H11 := qaa h11; have H12 := qaa h12; clear h8 h9 h10 h11 h12)
     | (go_at_call 90; refine (Hdn.out w4 w.heap.size H11.out H10.out).mono ?_; rintro e w6 ⟨rfl, kd, rfl⟩))
    go_ret2
    have hne := Hne.out w2 H5.out
    have hb2 : Below w.heap.size w w2 := Hb.out.trans (H6.out.below (fun k _ e => by omega) Hb.out.size)
    have hb4 : Below w.heap.size w w4 := (hb2.trans (Hb3.out.mono hb2.size)).trans (H12.out.below (fun k _ e => by omega) (hb2.trans (Hb3.out.mono hb2.size)).size)
    rw [← hF]
    exact yaQ (yay hb4 kd)
   ·rw [qah rfl] at hF
    go_enter func46, ntmps46
    go_wp2_with (first
     | (go_at_call 86; refine (yb9 _ _).mono ?_; rintro e w1 ⟨rfl, rfl⟩)
     | (go_at_call 87; refine Hget.out.mono ?_; unfold TGot; rintro e w2 ⟨A2, c2, rfl, _, h4, h5, h6⟩; have H4 := qaa h4; have H5 := qaa h5; have H6 := qaa h6; clear h4 h5 h6)
     | (go_at_call 62; refine (Hnew.out _ _ _ H4.out).mono ?_; rintro e w3 ⟨g, rfl, h7, hb3⟩; have H7 := qaa h7; have Hb3 := qaa hb3; clear h7 hb3)
     | (go_at_call 88; refine (Hrow2.out w3 g w.heap.size (ygm w3 s w.heap.size g q0 ls (Blk.below H5.out Hb3.out (Hne.out w2 H5.out)) (H7.out.mono fun k hk e => absurd (e ▸ hk) (Nat.not_le_of_lt (Hne.out w2 H5.out))))).mono ?_; rintro e w4 ⟨A4, c4, rfl, h8, h9, h10, h11, h12⟩; have H8 := qaa h8; have H9 := qaa h9; have H10 := qaa h10; have H11 := qaa h11; have H12 := qaa h12; clear h8 h9 h10 h11 h12)
     | (go_at_call 90; refine (Hdn.out w4 w.heap.size H11.out H10.out).mono ?_; rintro e w6 ⟨rfl, kd, rfl⟩))
    go_ret2
    have hne := Hne.out w2 H5.out
    have hb2 : Below w.heap.size w w2 := Hb.out.trans (H6.out.below (fun k _ e => by omega) Hb.out.size)
    have hb4 : Below w.heap.size w w4 := (hb2.trans (Hb3.out.mono hb2.size)).trans (H12.out.below (fun k _ e => by omega) (hb2.trans (Hb3.out.mono hb2.size)).size)
    rw [← hF]
    exact hcpost_acc rfl H8.out (H9.out.drewN kd) (yay hb4 kd)
  ·rw [qah hu] at hF
   have hb1 : (ue == 0) = false := by simpa using hu
   have hb2 : (ue != 0) = true := by simpa using hu
   have Hrow2 : Hid (∀ (W : World) (g gr : Nat), HDec W W s gr g ls q0 0 [] none 0 → Calls prog 88 #[.int .i64 (M : Int), .pointer (some ⟨gr, 0, none⟩), .func (.func 89) #[.pointer (some ⟨g, 0, none⟩)] #[]] W fun e w' => e = .returned (.tuple #[.slice none 0 0, .int .i64 ue]) ∧ Touch W w' (fun k => k = gr)) := qaa fun W g gr h => by
    refine (Hrow.out W g gr h).mono ?_
    rintro e w' ⟨ht, ⟨_, h2⟩ | ⟨h2, _⟩⟩
    ·exact ⟨h2, ht⟩
    ·exact absurd h2 hu
   clear Hrow Hdone hu
   go_enter func46, ntmps46
   go_wp2_with (first
    | (go_at_call 86; refine (yb9 _ _).mono ?_; rintro e w1 ⟨rfl, rfl⟩)
    | (go_at_call 87; refine Hget.out.mono ?_; unfold TGot; rintro e w2 ⟨A2, c2, rfl, _, h4, h5, h6⟩; have H4 := qaa h4; have H5 := qaa h5; have H6 := qaa h6; clear h4 h5 h6)
    | (go_at_call 62; refine (Hnew.out _ _ _ H4.out).mono ?_; rintro e w3 ⟨g, rfl, h7, hb3⟩; have H7 := qaa h7; have Hb3 := qaa hb3; clear h7 hb3)
    | (go_at_call 88; refine (Hrow2.out w3 g w.heap.size (ygm w3 s w.heap.size g q0 ls (Blk.below H5.out Hb3.out (Hne.out w2 H5.out)) (H7.out.mono fun k hk e => absurd (e ▸ hk) (Nat.not_le_of_lt (Hne.out w2 H5.out))))).mono ?_; rintro e w4 ⟨rfl, h12⟩; have H12 := qaa h12; clear h12))
   go_ret2
   have hne := Hne.out w2 H5.out
   have hb3 : Below w.heap.size w w2 := Hb.out.trans (H6.out.below (fun k _ e => by omega) Hb.out.size)
   rw [← hF]
   exact yaQ ((hb3.trans (Hb3.out.mono hb3.size)).trans (H12.out.below (fun k _ e => by omega) (hb3.trans (Hb3.out.mono hb3.size)).size))
 ·rw [qah (by simpa using hE)] at hF
  have hb1 : (G.2.2 == 0) = false := by simpa using hE
  have hb2 : (G.2.2 != 0) = true := by simpa using hE
  have Hget := qaa hget
  have Hb := qaa hb
  subst hF
  clear hget hb hG hE hs
  obtain ⟨ln, q0, e0⟩ := G
  dsimp only at *
  go_enter func46, ntmps46
  go_wp2_with (first
   | (go_at_call 86; refine (yb9 _ _).mono ?_; rintro e w1 ⟨rfl, rfl⟩)
   | (go_at_call 87; refine Hget.out.mono ?_; unfold TGot; rintro e w2 ⟨A2, c2, rfl, _, h4, h5, h6⟩; have H6 := qaa h6; clear h4 h5 h6))
  go_ret2
  exact yaQ (Hb.out.trans (H6.out.below (fun k _ e => by omega) Hb.out.size))
end Go.Proofs.YtanjhbkbpalnaaaGreat
