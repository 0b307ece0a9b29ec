/-
 What the law of the last of these texts stands on, part 39.
-/
import Derived.Test.YtanjhbkbpalnaaaGreatMb26
import Derived.Test.YtanjhbkbpalnaaaGreatMb30
import Derived.Test.YtanjhbkbpalnaaaGreatMb35
import Derived.Test.YtanjhbkbpalnaaaGreatMb36
import Derived.Test.YtanjhbkbpalnaaaGreatMb37
import Derived.Test.YtanjhbkbpalnaaaGreatMb38
set_option maxRecDepth 100000
set_option maxHeartbeats 8000000
open Go.Proofs.Tryz
namespace Go.Proofs.YtanjhbkbpalnaaaGreat
set_option linter.unusedSimpArgs false
set_option linter.unusedVariables false
open Go.ChangeShapes Go.WideShapes Go.ChangeAt Go.RowKit Go.Joins Go.Deep
def QPost (w w' : World) (e : Ending) (F : List Int × Int × Int) : Prop := ∃ A c, e = .returned (.tuple #[.slice A F.1.length c, .int .i64 F.2.1, .int .i64 F.2.2]) ∧ F.1.length ≤ c ∧ Reads w' w'.heap.size 1 A F.1.length (ints F.1) ∧ Below w.heap.size w w'
theorem yaL {w w1 w2 : World} (h1 : Below w.heap.size w w1) (h2 : Below w1.heap.size w1 w2) : Below w.heap.size w w2 := h1.trans (h2.mono h1.size)
theorem q_symbols_any (s : List UInt8) (w : World) (hs : s.length ≤ 1000000) :
  Calls prog 15 #[.string ⟨s.toArray⟩] w fun e w' => QPost w w' e (qsF s) := by
 have hf := p_bforward_any s w hs
 unfold BPost at hf
 by_cases hbig : 20000 < s.length
 ·rw [btF_big hbig] at hf
  have fin : qsF s = ([], 0, 3) := qah hbig
  rw [fin]
  dsimp only at hf
  have Hf := qaa hf
  clear hf hbig fin
  go_enter func15, ntmps15
  go_wp2_with (go_at_call 39; (with_reducible refine Hf.out.mono ?_); rintro e w1 ⟨rfl, hb1⟩; have Hb1 := qaa hb1; clear hb1 Hf)
  go_ret3
  exact ⟨none, 0, rfl, qaf _, Reads.none_, Hb1.out⟩
 ·rw [btF_yes hbig] at hf
  have fin : qsF s = (qsy s, (bpr s : Int), 0) := qag hbig
  have hr := qaa fun W => fr_ranks_any (yaW s) (by rw [yaZ]; omega) W
  have hz := qaa fun A n c W hm hc hr => zr_pack_any (rks row0 (yaW s)) A n c W hm hc hr
  rw [qsy_pack s] at hz
  have hq := yc1 s
  rw [fin]
  dsimp only at hf hz
  have hl : (yaW s).length = s.length := yaZ s
  rw [hl] at hr
  have Hf := qaa hf
  unfold QPost
  dsimp only
  clear hf fin
  generalize yaW s = T at *
  generalize rks row0 T = K at *
  generalize qsy s = Q at *
  generalize bpr s = P at *
  go_enter func15, ntmps15
  go_wp2_with (first
   | (go_at_call 39; (with_reducible refine Hf.out.mono ?_); rintro e w1 ⟨rfl, hb1⟩; have Hb1 := qaa hb1; clear hb1 Hf)
   | (go_at_call 41; (with_reducible refine (hr.out _).mono ?_); rintro e w2 ⟨A2, c2, rfl, hc2, hr2, hb2⟩; have Hb2 := qaa (yaL Hb1.out hb2); have Hr2 := qaa hr2; clear hb2 hr hr2)
   | (go_at_call 40; (with_reducible refine (hz.out _ _ _ _ (by omega) hc2 Hr2.out).mono ?_); rintro e w3 ⟨A3, c3, rfl, hc3, hr3, hb3⟩; have Hb3 := qaa (yaL Hb2.out hb3); have Hr3 := qaa hr3; clear hb3 hz hr3))
  go_ret3
  exact ⟨_, _, rfl, hc3, Hr3.out, Hb3.out⟩
theorem q_enc (s : List UInt8) (h : s.length ≤ 20000) : hencF (qsy s) = (text (hB (qsy s)), 0) := by
 have h1 := yc1 s
 have : (hcF (qsy s)).2 = 0 := by
  unfold hcF
  rw [qag (by omega), qah (qsy_in s)]
 unfold hencF
 rw [qah this]
theorem qhd_len (a b c : Int) : (qhd a b c).length ≤ 27 := by
 have h1 := ycZ a
 have h2 := ycZ b
 have h3 := ycZ c
 unfold qhd
 rw [qae, qae]
 omega
theorem q_text_len (s : List UInt8) (h : s.length ≤ 20000) : (text (hB (qsy s))).length ≤ 1000000 := by
 have h1 := yc1 s
 have h2 := hB_len (l := qsy s) (by omega)
 rw [ybF]
 omega
theorem q_pack_any (s : List UInt8) (w : World) (hs : s.length ≤ 1000000) :
  Calls prog 13 #[.string ⟨s.toArray⟩] w fun e w' => yb6 w w' e (qpF s) := by
 have hf := q_symbols_any s w hs
 unfold QPost at hf
 by_cases hbig : 20000 < s.length
 ·have fin0 : qsF s = ([], 0, 3) := qah hbig
  have fin : qpF s = ([], 3) := qah hbig
  rw [fin0] at hf
  rw [fin]
  dsimp only at hf
  have Hf := qaa hf
  clear hf hbig fin fin0
  go_enter func13, ntmps13
  go_wp2_with (go_at_call 15; (with_reducible refine Hf.out.mono ?_); rintro e w1 ⟨A1, c1, rfl, _, _, hb1⟩; have Hb1 := qaa hb1; clear hb1 Hf)
  go_ret2
  exact ⟨rfl, Hb1.out⟩
 ·have fin0 : qsF s = (qsy s, (bpr s : Int), 0) := qag hbig
  have fin : qpF s = (qB s, 0) := qag hbig
  rw [fin0] at hf
  rw [fin]
  have hq := yc1 s
  have hp := bpr_le s
  have he := qaa fun A n c W hm hr => p_hencode_any (qsy s) A n c W hm hr
  rw [q_enc s (by omega)] at he
  have ht := qaa fun W => q_text_any s.length (bpr s) (qsy s).length W (by omega) (by omega) (by omega)
  have hadd := fun W => yfe (qhd s.length (bpr s) (qsy s).length) (text (hB (qsy s))) (by have := qhd_len s.length (bpr s) (qsy s).length; have := q_text_len s (by omega); omega) W
  have hB' : qB s = qhd s.length (bpr s) (qsy s).length ++ text (hB (qsy s)) := rfl
  rw [← hB'] at hadd
  dsimp only at hf he
  have Hf := qaa hf
  unfold yb6
  dsimp only
  clear hf fin fin0 hB'
  generalize qB s = U at *
  generalize text (hB (qsy s)) = X at *
  generalize hQ : (qsy s).length = q at *
  generalize ints (qsy s) = Q at *
  generalize bpr s = P at *
  generalize qhd (s.length : Int) (P : Int) (q : Int) = Y at *
  clear hQ
  go_enter func13, ntmps13
  go_wp2_with (first
   | (go_at_call 15; (with_reducible refine Hf.out.mono ?_); rintro e w1 ⟨A1, c1, rfl, hc1, hr1, hb1⟩; have Hb1 := qaa hb1; have Hr1 := qaa hr1; clear hb1 Hf hr1)
   | (go_at_call 35; (with_reducible refine (he.out _ _ _ _ (by omega) Hr1.out).mono ?_); rintro e w2 ⟨rfl, hb2⟩; have Hb2 := qaa (yaL Hb1.out hb2); clear hb2 he)
   | (go_at_call 36; (with_reducible refine (ht.out _).mono ?_); rintro e w3 ⟨rfl, hb3⟩; have Hb3 := qaa (yaL Hb2.out hb3); clear hb3 ht))
  go_ret2
  exact ⟨rfl, Hb3.out⟩
theorem oReads_on {w w' : World} {size n : Nat} {A : Option Addr} {xs : List Value} (h : Reads w w.heap.size size A n xs) (hb : Below w.heap.size w w') : Reads w' w'.heap.size size A n xs := (h.below hb).more hb.size
theorem o_mode (x : UInt8) (W : World) : (convert 36 9 (.slice (some ⟨W.heap.size, 0, none⟩) 1 1)).run prog (W.alloc (.cells #[.int .u8 (x.toNat : Int)] 5)) = .ok (.string ⟨[x].toArray⟩) (W.alloc (.cells #[.int .u8 (x.toNat : Int)] 5)) :=
 ybd underlying36 underlying5 underlying9 _ _ 1 [x] ((yar W 5 #[.int .u8 (x.toNat : Int)] 1 1 rfl).more (by rw [qas]; omega))
theorem ohd_pp (a b c d e : Int) : ppB [a, b, c, d, e] = ohd a b c d e := by simp [ppB, ohd]
theorem o_put5 (a b c d e : Int) (W : World) (ha : a < 9223372036854775808) (hb : b < 9223372036854775808) (hc : c < 9223372036854775808) (hd : d < 9223372036854775808) (he : e < 9223372036854775808) (o : Obj) :
  Calls prog 49 #[.slice (some ⟨W.heap.size + 1, 0, none⟩) 5 5] ((W.alloc o).alloc (.cells #[.int .i64 a, .int .i64 b, .int .i64 c, .int .i64 d, .int .i64 e] 3)) fun r w' => r = .returned (.string ⟨(ohd a b c d e).toArray⟩) ∧ Below W.heap.size W w' := by
 have hr := yar (W.alloc o) 3 #[.int .i64 a, .int .i64 b, .int .i64 c, .int .i64 d, .int .i64 e] 1 5 rfl
 rw [qas] at hr
 refine (p_pput_any [a, b, c, d, e] (some ⟨W.heap.size + 1, 0, none⟩) 5 5 _ rfl (by decide) (hr.more (by simp only [qas]; omega)) (by
  intro x hx
  simp only [qa9, List.not_mem_nil, or_false] at hx
  omega)).mono fun r w' h => ⟨by rw [h.1, ohd_pp], (((qaj _ _).alloc (qaf _) o).alloc (by rw [qas]; omega) _).trans (h.2.mono (by simp only [qas]; omega))⟩
theorem ohd_len45 (a b c d e : Int) : (ohd a b c d e).length ≤ 45 := by
 have h1 := yck a
 have h2 := yck b
 have h3 := yck c
 have h4 := yck d
 have h5 := yck e
 rw [ohd_len]
 omega
section
variable (l : List Rc) (A : Option Addr) (n c : Nat) (w : World) (hl : l.length = n) (hn : n ≤ 1000000) (hr : Reads w w.heap.size 3 A n (rcs l))
include hl hn hr
theorem oenc_few (h0 : l.length = 0) : Calls prog 22 #[.slice A n c] w fun e w' => yb6 w w' e (yaS l) := by
 have fin : yaS l = ([], 2) := qah h0
 unfold yb6
 rw [fin]
 dsimp only
 obtain rfl : n = 0 := by omega
 clear fin hr hn hl h0
 go_enter func22, ntmps22
 go_wp2
 go_ret2
 exact ⟨rfl, qaj _ _⟩
theorem oenc_bad (h0 : l.length ≠ 0) (hE : (yal l).2 ≠ 0) : Calls prog 22 #[.slice A n c] w fun e w' => yb6 w w' e (yaS l) := by
 have fin : yaS l = ([], (yal l).2) := by unfold yaS; rw [qag h0, qah hE]
 have Hj := qaa (ydI l A n c w hl hn hr)
 have hn0 : ¬ (n : Int) = 0 := by omega
 have hn1 : ¬ n = 0 := by omega
 unfold yb6
 rw [fin]
 dsimp only
 clear fin hr hl h0
 generalize (yal l).1 = X at *
 generalize (yal l).2 = E at *
 go_enter func22, ntmps22
 go_wp2_with (go_at_call 26; (with_reducible refine Hj.out.mono ?_); rintro e w1 ⟨rfl, hb1⟩; have HW := qaa hb1; clear hb1)
 go_ret2
 exact ⟨rfl, HW.out⟩
theorem oenc_pack (h0 : l.length ≠ 0) (hE : (yal l).2 = 0) (hp : opk (rjB l) = true) : Calls prog 22 #[.slice A n c] w fun e w' => yb6 w w' e (yaS l) := by
 obtain ⟨j1, j2, j3, j4, j5, j6, j7, j8, j9⟩ := ojoin h0 hE
 have fin : yaS l = (oB l, 0) := by unfold yaS; rw [qag h0, qag (by rw [hE]; decide)]
 have hj := ydI l A n c w hl hn hr
 rw [j1] at hj
 have hq := fun W => q_pack_any (rjB l) W (by omega)
 unfold yb6 at hq
 rw [show qpF (rjB l) = (qB (rjB l), 0) from qag (by omega)] at hq
 have hlt : (qB (rjB l)).length < (rjB l).length := qb7 hp
 have hme := fun W (hb : Below w.heap.size w W) => ycj l A n c ((rjB l).length : Int) W hl hn (by omega) (oReads_on hr hb)
 have hp5 := fun W o => o_put5 ((rjB l).length : Int) (n : Int) (yac l).1 (yac l).2.1 ((ya8 l).2.1 - (yac l).2.1) W (by omega) (by omega) (by omega) (by omega) (by omega) o
 have hsub : IntKind.i64.wrap ((ya8 l).2.1 - (yac l).2.1) = (ya8 l).2.1 - (yac l).2.1 := by rw [qai]; omega
 have hlen := ohd_len45 ((rjB l).length : Int) (n : Int) (yac l).1 (yac l).2.1 ((ya8 l).2.1 - (yac l).2.1)
 have hB : oB l = [1] ++ ohd ((rjB l).length : Int) (n : Int) (yac l).1 (yac l).2.1 ((ya8 l).2.1 - (yac l).2.1) ++ qB (rjB l) := by
  unfold oB ohL ygo yfd
  rw [qah hp, qah hp, hl]
  rfl
 have hmode := o_mode 1
 have hadd1 := fun W => yfe [1] (ohd ((rjB l).length : Int) (n : Int) (yac l).1 (yac l).2.1 ((ya8 l).2.1 - (yac l).2.1)) (by simp only [qbv]; omega) W
 have hadd2 := fun W => yfe ([1] ++ ohd ((rjB l).length : Int) (n : Int) (yac l).1 (yac l).2.1 ((ya8 l).2.1 - (yac l).2.1)) (qB (rjB l)) (by simp only [qae, qbv]; have := hlt; omega) W
 rw [← hB] at hadd2
 have hn0 : ¬ (n : Int) = 0 := by omega
 have hn1 : ¬ n = 0 := by omega
 unfold yb6
 rw [fin]
 dsimp only at hj hq ⊢
 have Hj := qaa hj
 have Hq := qaa hq
 have Hme := qaa hme
 have Hp5 := qaa hp5
 have Hln : Hid ((rjB l).length ≤ 20000) := qaa j2
 have hlti : ((qB (rjB l)).length : Int) < ((rjB l).length : Int) := by omega
 clear fin hr hl h0 hE hp j1 j2 j3 j4 j5 j6 j7 j8 j9 hj hq hme hp5 hlen hB
 have m0 : ((1 : UInt8).toNat : Int) = 1 := rfl
 simp only [m0] at hmode
 generalize oB l = F at *
 generalize [1] ++ ohd ((rjB l).length : Int) (n : Int) (yac l).1 (yac l).2.1 ((ya8 l).2.1 - (yac l).2.1) = G at *
 generalize ohd ((rjB l).length : Int) (n : Int) (yac l).1 (yac l).2.1 ((ya8 l).2.1 - (yac l).2.1) = H at *
 generalize (yac l).1 = f1 at *
 generalize (yac l).2.1 = f2 at *
 generalize (ya8 l).2.1 = f3 at *
 generalize rjB l = R at *
 generalize qB R = Q at *
 go_enter func22, ntmps22
 go_wp2_with (first
  | (go_at_call 26; (with_reducible refine Hj.out.mono ?_); rintro e w1 ⟨rfl, hb1⟩; have HW := qaa hb1; clear hb1)
  | (go_at_call 13; (with_reducible refine (Hq.out _).mono ?_); rintro e w2 ⟨rfl, hb2⟩; replace HW := qaa (HW.out.trans (hb2.mono HW.out.size)); clear hb2)
  | (go_at_call 48; (with_reducible refine (Hme.out _ HW.out).mono ?_); rintro e w3 ⟨rfl, hb3⟩; replace HW := qaa (HW.out.trans (hb3.mono HW.out.size)); clear hb3)
  | (go_at_call 49; (with_reducible refine (Hp5.out _ _).mono ?_); rintro e w4 ⟨rfl, hb4⟩; replace HW := qaa (HW.out.trans (hb4.mono HW.out.size)); clear hb4))
 go_ret2
 exact ⟨rfl, HW.out.alloc HW.out.size _⟩
theorem oenc_plain (h0 : l.length ≠ 0) (hE : (yal l).2 = 0) (hp : opk (rjB l) = false) : Calls prog 22 #[.slice A n c] w fun e w' => yb6 w w' e (yaS l) := by
 obtain ⟨j1, j2, j3, j4, j5, j6, j7, j8, j9⟩ := ojoin h0 hE
 have fin : yaS l = (oB l, 0) := by unfold yaS; rw [qag h0, qag (by rw [hE]; decide)]
 have hj := ydI l A n c w hl hn hr
 rw [j1] at hj
 have hq := fun W => q_pack_any (rjB l) W (by omega)
 unfold yb6 at hq
 rw [show qpF (rjB l) = (qB (rjB l), 0) from qag (by omega)] at hq
 have hlt : ¬ (qB (rjB l)).length < (rjB l).length := of_decide_eq_false hp
 have hme := fun W (hb : Below w.heap.size w W) => ycj l A n c ((rjB l).length : Int) W hl hn (by omega) (oReads_on hr hb)
 have hp5 := fun W o => o_put5 ((rjB l).length : Int) (n : Int) (yac l).1 (yac l).2.1 ((ya8 l).2.1 - (yac l).2.1) W (by omega) (by omega) (by omega) (by omega) (by omega) o
 have hsub : IntKind.i64.wrap ((ya8 l).2.1 - (yac l).2.1) = (ya8 l).2.1 - (yac l).2.1 := by rw [qai]; omega
 have hlen := ohd_len45 ((rjB l).length : Int) (n : Int) (yac l).1 (yac l).2.1 ((ya8 l).2.1 - (yac l).2.1)
 have hB : oB l = [0] ++ ohd ((rjB l).length : Int) (n : Int) (yac l).1 (yac l).2.1 ((ya8 l).2.1 - (yac l).2.1) ++ rjB l := by
  unfold oB ohL ygo yfd
  rw [qag (by rw [hp]; decide), qag (by rw [hp]; decide), hl]
  rfl
 have hmode := o_mode 0
 have hadd1 := fun W => yfe [0] (ohd ((rjB l).length : Int) (n : Int) (yac l).1 (yac l).2.1 ((ya8 l).2.1 - (yac l).2.1)) (by simp only [qbv]; omega) W
 have hadd2 := fun W => yfe ([0] ++ ohd ((rjB l).length : Int) (n : Int) (yac l).1 (yac l).2.1 ((ya8 l).2.1 - (yac l).2.1)) (rjB l) (by simp only [qae, qbv]; omega) W
 rw [← hB] at hadd2
 have hn0 : ¬ (n : Int) = 0 := by omega
 have hn1 : ¬ n = 0 := by omega
 unfold yb6
 rw [fin]
 dsimp only at hj hq ⊢
 have Hj := qaa hj
 have Hq := qaa hq
 have Hme := qaa hme
 have Hp5 := qaa hp5
 have Hln : Hid ((rjB l).length ≤ 20000) := qaa j2
 have hlti : ¬ ((qB (rjB l)).length : Int) < ((rjB l).length : Int) := by omega
 clear fin hr hl h0 hE hp j1 j2 j3 j4 j5 j6 j7 j8 j9 hj hq hme hp5 hlen hB
 have m0 : ((0 : UInt8).toNat : Int) = 0 := rfl
 simp only [m0] at hmode
 generalize oB l = F at *
 generalize [0] ++ ohd ((rjB l).length : Int) (n : Int) (yac l).1 (yac l).2.1 ((ya8 l).2.1 - (yac l).2.1) = G at *
 generalize ohd ((rjB l).length : Int) (n : Int) (yac l).1 (yac l).2.1 ((ya8 l).2.1 - (yac l).2.1) = H at *
 generalize (yac l).1 = f1 at *
 generalize (yac l).2.1 = f2 at *
 generalize (ya8 l).2.1 = f3 at *
 generalize rjB l = R at *
 generalize qB R = Q at *
 go_enter func22, ntmps22
 go_wp2_with (first
  | (go_at_call 26; (with_reducible refine Hj.out.mono ?_); rintro e w1 ⟨rfl, hb1⟩; have HW := qaa hb1; clear hb1)
  | (go_at_call 13; (with_reducible refine (Hq.out _).mono ?_); rintro e w2 ⟨rfl, hb2⟩; replace HW := qaa (HW.out.trans (hb2.mono HW.out.size)); clear hb2)
  | (go_at_call 48; (with_reducible refine (Hme.out _ HW.out).mono ?_); rintro e w3 ⟨rfl, hb3⟩; replace HW := qaa (HW.out.trans (hb3.mono HW.out.size)); clear hb3)
  | (go_at_call 49; (with_reducible refine (Hp5.out _ _).mono ?_); rintro e w4 ⟨rfl, hb4⟩; replace HW := qaa (HW.out.trans (hb4.mono HW.out.size)); clear hb4))
 go_ret2
 exact ⟨rfl, HW.out.alloc HW.out.size _⟩
theorem ydj : Calls prog 22 #[.slice A n c] w fun e w' => yb6 w w' e (yaS l) := by
 by_cases h0 : l.length = 0
 ·exact oenc_few l A n c w hl hn hr h0
 by_cases hE : (yal l).2 = 0
 ·cases hp : opk (rjB l) with
  | true => exact oenc_pack l A n c w hl hn hr h0 hE hp
  | false => exact oenc_plain l A n c w hl hn hr h0 hE hp
 ·exact oenc_bad l A n c w hl hn hr h0 hE
end
section
variable {P : Program}
theorem orun_index (w : World) (t e : TypeId) (n : Nat) (ht : P.underlying t = some (.array n e)) (he : P.underlying e = some .string) (hsz : ∀ w, (sizeOf e).run P w = .ok 1 w) (C : List Value) (k : Nat) (hk : k < n) (x : ByteArray) (hx : C[k]? = some (.string x)) :
  (Instr.index t (.agg C.toArray) (.int .i64 (k : Int))).run P w = .ok (.string x) w := by
 have hn : 0 ≤ (k : Int) ∧ (k : Int) < (n : Int) := by omega
 simp [Instr.index, qba ht, asIntOf, hn, hsz, part, isAgg, qba he, hx, go_sem]
 intro h
 omega
end
def onth (a b : List UInt8) : Nat → List UInt8
 | 0 => a
 | _ => b
def oacc (a b : List UInt8) : Nat → List Rc
 | 0 => []
 | k + 1 => oacc a b k ++ (yay (onth a b k)).1
theorem onth_index (a b : List UInt8) (k : Nat) (hk : k < 2) (w : World) : (Instr.index 95 (.agg #[.string ⟨a.toArray⟩, .string ⟨b.toArray⟩]) (.int .i64 (k : Int))).run prog w = .ok (.string ⟨(onth a b k).toArray⟩) w := by
 refine orun_index (P := prog) w 95 9 2 (by kernel_rfl) (by kernel_rfl) (fun w => by simp [go_sem]) [.string ⟨a.toArray⟩, .string ⟨b.toArray⟩] k hk _ ?_
 match k, hk with
 | 0, _ => rfl
 | 1, _ => rfl
theorem yf6 {s : List UInt8} (h : (yay s).2 = 0) : (yay s).1.length ≤ 20000 := by
 obtain ⟨h1, h2⟩ := oagain h
 have h3 := ojoin h1 (oenc_ok h2).2.1
 omega
theorem ormany : ∀ (l : List Rc), ∀ u ∈ rcs l, u.oneCell' = true
 | [], u, hu => by cases hu
 | r :: l, u, hu => by
  rw [rcs_cons] at hu
  simp only [qa9] at hu
  rcases hu with rfl | rfl | rfl | hu
  ·rfl
  ·rfl
  ·rfl
  ·exact ormany l u hu
structure OMI (w wr : World) (v : Value) (L : List Rc) : Prop where
 own : wr.ownsRow w.heap.size 54 3 v L.length (rcs L)
 below : Below w.heap.size w wr
theorem OMI.on {w w1 w2 : World} {v : Value} {L : List Rc} (h : OMI w w1 v L) (hb : Below w1.heap.size w1 w2) : OMI w w2 v L :=
 ⟨yah h.own hb (qaf _), h.below.trans (hb.mono h.below.size)⟩
theorem OMI.add {w w1 w2 : World} {v v' : Value} {L M : List Rc} (h : OMI w w1 v L) (ho : w2.ownsRow w.heap.size 54 3 v' (L.length + M.length) (rcs L ++ rcs M)) (hg : w1.grownBy w2 v.ownBlock) : OMI w w2 v' (L ++ M) :=
 ⟨by rw [qae, rcs_app]; exact ho, h.below.grown hg h.below.size fun b hb => (h.own.lt b hb).1⟩
theorem p_bmerge_of (a b : List UInt8) (w : World) (ha : ∀ W, Calls prog 24 #[.string ⟨a.toArray⟩] W fun e w' => ybn W w' e (yay a)) (hb : ∀ W, Calls prog 24 #[.string ⟨b.toArray⟩] W fun e w' => ybn W w' e (yay b)) :
  Calls prog 34 #[.string ⟨a.toArray⟩, .string ⟨b.toArray⟩] w fun e w' => yb6 w w' e (ycF a b) := by
 obtain ⟨i0, hi, hz0, hz1, hz9⟩ := qbn rec_info
 have Hd : Hid (∀ k, k < 2 → ∀ W, Calls prog 24 #[.string ⟨(onth a b k).toArray⟩] W fun e w' => ybn W w' e (yay (onth a b k))) := qaa fun k hk => by
  match k, hk with
  | 0, _ => exact ha
  | 1, _ => exact hb
 have Hix := qaa fun k h W => onth_index a b k h W
 have Hlen : Hid (∀ k, k ≤ 2 → (∀ j, j < k → (yay (onth a b j)).2 = 0) → (oacc a b k).length ≤ 20000 * k) := qaa fun k hk h => by
  match k, hk with
  | 0, _ => exact qaf _
  | 1, _ =>
   have := yf6 (h 0 (by omega))
   show ([] ++ (yay (onth a b 0)).1).length ≤ _
   rw [qbc]
   omega
  | 2, _ =>
   have h1 := yf6 (h 0 (by omega))
   have h2 := yf6 (h 1 (by omega))
   show (([] ++ (yay (onth a b 0)).1) ++ (yay (onth a b 1)).1).length ≤ _
   rw [qbc, qae]
   omega
 have Hbad : Hid (∀ k, k < 2 → (∀ j, j < k → (yay (onth a b j)).2 = 0) → (yay (onth a b k)).2 ≠ 0 → ycF a b = ([], (yay (onth a b k)).2)) := qaa fun k hk h hE => by
  match k, hk with
  | 0, _ => exact qah hE
  | 1, _ =>
   have h0 : (yay a).2 = 0 := h 0 (by omega)
   unfold ycF
   rw [qag (by rw [h0]; decide)]
   exact qah hE
 have Hok : Hid ((∀ j, j < 2 → (yay (onth a b j)).2 = 0) → ycF a b = yaS (oacc a b 2)) := qaa fun h => by
  have h0 : (yay a).2 = 0 := h 0 (by omega)
  have h1 : (yay b).2 = 0 := h 1 (by omega)
  unfold ycF
  rw [qag (by rw [h0]; decide), qag (by rw [h1]; decide)]
  rfl
 have H0 : Hid (OMI w w (.slice none 0 0) []) := qaa ⟨qbg _ _ _ _, qaj _ _⟩
 unfold yb6
 clear ha hb
 generalize ycF a b = F at *
 go_enter func34, ntmps34
 go_wp2
 go_loopw [6, 14] (fun o i wr => ∃ k : Nat, k ≤ 2 ∧ i = .int .i64 (k : Int) ∧ Hid (OMI w wr o (oacc a b k)) ∧ Hid (∀ j, j < k → (yay (onth a b j)).2 = 0)) (fun _ i _ => 2 - (intOf i).toNat)
 case atStart => exact ⟨0, by omega, rfl, H0, qaa fun j hj => absurd hj (Nat.not_lt_zero j)⟩
 case round =>
  obtain ⟨k, hk, rfl, HI, HE⟩ := hrel
  by_cases hlt : k < 2
  ·have hix := Hix.out k hlt
   have hki : (k : Int) < 2 := by omega
   have hd := Hd.out k hlt
   unfold ybn at hd
   by_cases hE : (yay (onth a b k)).2 = 0
   ·rw [hE] at hd
    have HE2 : Hid (∀ j, j < k + 1 → (yay (onth a b j)).2 = 0) := qaa fun j hj => by
     by_cases e : j = k
     ·rw [e]; exact hE
     ·exact HE.out j (by omega)
    have Hnx : Hid (oacc a b (k + 1) = oacc a b k ++ (yay (onth a b k)).1) := qaa rfl
    have l1 := yf6 hE
    have l2 := Hlen.out k hk HE.out
    have Hl : Hid ((oacc a b k).length + (yay (onth a b k)).1.length ≤ 60000) := qaa (by omega)
    have hd := qaa hd
    clear hE l1 l2 Hbad Hok Hix Hd Hlen
    generalize (yay (onth a b k)).1 = M at *
    generalize onth a b k = s at *
    go_wp2_with (first
     | (go_at_call 24; (with_reducible refine (hd.out _).mono ?_); rintro e w3 ⟨A3, c3, rfl, hc3, hr3, hb3⟩; have HI3 := qaa (HI.out.on hb3); have HR3 := qaa hr3; clear hb3 hr3)
     | (refine ye0 _ rfl _ _ 38 rfl w.heap.size 54 i0 (.agg #[.int .i64 0, .int .i64 0, .string ⟨#[]⟩]) 3 32 underlying38 hi hz0 hz1 hz9 rfl (by decide) _ _ _ rfl HI3.out.own A3 _ c3 _ _ rfl HR3.out (ormany M) ?c1 ?c2 HI3.out.below.size ?_))
    case c1 => have := Hl.out; unfold maxLen; omega
    case c2 => have := Hl.out; omega
    ·intro v' w4 ho4 hg4
     have HI4 := qaa (HI3.out.add ho4 hg4)
     clear ho4 hg4
     go_wp2
     go_roundw
     case rel => exact ⟨k + 1, by omega, iv (by omega), qaa (by rw [Hnx.out]; exact HI4.out), HE2⟩
     case measure => simp only [intOf]; omega
   ·have HF := qaa (Hbad.out k hlt HE.out hE)
    have hd := qaa hd
    clear Hbad Hok Hix Hd Hlen HE
    generalize (yay (onth a b k)).1 = M at *
    generalize (yay (onth a b k)).2 = E at *
    generalize onth a b k = s at *
    go_wp2_with (go_at_call 24; (with_reducible refine (hd.out _).mono ?_); rintro e w3 ⟨A3, c3, rfl, hc3, hr3, hb3⟩; have HI3 := qaa (HI.out.on hb3); clear hb3 hr3)
    go_ret2
    exact ⟨by rw [HF.out]; rfl, HI3.out.below⟩
  ·obtain rfl : k = 2 := by omega
   have HF := qaa (Hok.out HE.out)
   have l2 := Hlen.out 2 (qaf _) HE.out
   obtain ⟨A2, cc2, hv2, hc2, hr2⟩ := yad HI.out.own
   have henc := ydj (oacc a b 2) A2 (oacc a b 2).length cc2 wr rfl (by omega) hr2
   unfold yb6 at henc
   have He := qaa henc
   subst hv2
   clear hr2 hc2 henc l2 Hbad Hok Hix Hd Hlen HE
   generalize (oacc a b 2).length = q at *
   generalize (yaS (oacc a b 2)) = G at *
   go_wp2_with (go_at_call 22; (with_reducible refine He.out.mono ?_); rintro e w3 ⟨rfl, hb3⟩; have HW := qaa (HI.out.below.trans (hb3.mono HI.out.below.size)); clear hb3)
   go_ret2
   exact ⟨by rw [HF.out]; rfl, HW.out⟩
theorem oaw_last : yaW [1, 172, 2, 2, 104, 105] = [105, 172, 2, 2, 104, 1] := by decide +kernel
theorem oaw_rks : rks row0 [105, 172, 2, 2, 104, 1] = [105, 172, 4, 0, 106, 5] := by decide +kernel
theorem oaw_sy : qsy [1, 172, 2, 2, 104, 105] = [106, 173, 5, 0, 107, 6] := by
 unfold qsy
 rw [oaw_last, oaw_rks, ycQ _ _ (by decide), ycQ _ _ (by decide), ycQ _ _ (by decide), show ([0, 106, 5] : List Int) = [0] ++ [106, 5] from rfl, zpk_run 0 [0] _ (by simp), zpk_end _ _ (by simp), ycQ _ _ (by decide), ycQ _ _ (by decide)]
 show _ :: _ :: _ :: (zd 1 ++ _ :: _ :: zd 0) = _
 have h : zd 1 = [0] := by rw [ygt 1 (by decide), show (1 - 1) / 2 = 0 from rfl, yaU]; rfl
 rw [h, yaU]
 rfl
theorem oaw_bits : 17 ≤ (hB [106, 173, 5, 0, 107, 6]).length := by decide +kernel
theorem oaw_big : ¬ (qB [1, 172, 2, 2, 104, 105]).length < 6 := by
 have h1 := qput_pos ([1, 172, 2, 2, 104, 105] : List UInt8).length
 have h2 := qput_pos (bpr [1, 172, 2, 2, 104, 105])
 have h3 := qput_pos (qsy [1, 172, 2, 2, 104, 105]).length
 have h4 := oaw_bits
 rw [← oaw_sy] at h4
 unfold qB qhd
 rw [qae, qae, qae, ybF]
 omega
theorem oaw_pk : opk [1, 172, 2, 2, 104, 105] = false := by
 unfold opk
 exact qaU oaw_big
theorem oaw_jB : rjB [(1, 300, [104, 105])] = [1, 172, 2, 2, 104, 105] := by decide +kernel
theorem yga : yaS [(1, 300, [104, 105])] = ([0, 6, 1, 1, 172, 2, 0, 1, 172, 2, 2, 104, 105], 0) := by
 have h1 : yal [(1, 300, [104, 105])] = ([1, 172, 2, 2, 104, 105], 0) := by decide +kernel
 unfold yaS
 rw [qag (by decide), h1, qag (by decide)]
 unfold oB ohL yfd ygo
 rw [oaw_jB, oaw_pk]
 decide +kernel
theorem oaw_peek : ya7 [0, 6, 1, 1, 172, 2, 0, 1, 172, 2, 2, 104, 105] = ((6, 1, 1, 300, 300), 0) := by
 have := (oback (l := [(1, 300, [104, 105])]) (by rw [yga])).1
 rw [yga, oaw_jB] at this
 exact this
theorem oaw_dec : yay [0, 6, 1, 1, 172, 2, 0, 1, 172, 2, 2, 104, 105] = ([(1, 300, [104, 105])], 0) := by
 have := (oback (l := [(1, 300, [104, 105])]) (by rw [yga])).2
 rwa [yga] at this
theorem oaw_merge : ycF [0, 6, 1, 1, 172, 2, 0, 1, 172, 2, 2, 104, 105] [0, 6, 1, 1, 172, 2, 0, 1, 172, 2, 2, 104, 105] = ([], 151) := by
 have h1 : yal ([(1, 300, [104, 105])] ++ [(1, 300, [104, 105])]) = ([], 151) := by decide +kernel
 unfold ycF
 rw [oaw_dec]
 dsimp only
 rw [qag (by decide), qag (by decide)]
 unfold yaS
 rw [qag (by decide), h1, qah (by decide)]
theorem ometa_same (a b c d e f g : Int) (w : World) : (Op.equalIn 10000 45 (.agg #[.int .i64 a, .int .i64 b, .int .i64 c, .int .i64 d, .int .i64 e, .int .i64 f, .int .i64 g]) (.agg #[.int .i64 a, .int .i64 b, .int .i64 c, .int .i64 d, .int .i64 e, .int .i64 f, .int .i64 g])).run prog w = .ok true w := by
 simp [go_sem]
theorem ometa_guard : prog.eqGuardType prog.depth 45 = false := by kernel_rfl
theorem ygq (a b : Int) (w : World) : (Op.equalIn 10000 51 (.agg #[.int .i64 a, .int .i64 b]) (.agg #[.int .i64 a, .int .i64 b])).run prog w = .ok true w := by
 simp [go_sem]
theorem orange_guard : prog.eqGuardType prog.depth 51 = false := by kernel_rfl
theorem yg1 (w : World) : Calls prog 21 #[] w fun e w' => e = .returned (.bool true) ∧ Below w.heap.size w w' := by
 have P1 : Hid (∀ w, Calls prog 22 #[.slice (some ⟨w.heap.size, 0, none⟩) 1 1] (w.alloc (.cells #[.int .i64 1, .int .i64 300, .string ⟨#[104, 105]⟩] 54)) fun r w' => r = .returned (.tuple #[.string ⟨#[0, 6, 1, 1, 172, 2, 0, 1, 172, 2, 2, 104, 105]⟩, .int .i64 0]) ∧ Below w.heap.size w w' ∧ Reads w' w'.heap.size 3 (some ⟨w.heap.size, 0, none⟩) 1 (rcs [(1, 300, [104, 105])])) := qaa fun w => by
  refine (ydj [(1, 300, [104, 105])] _ 1 1 _ rfl (by decide) (rfresh (1, 300, [104, 105]) w)).mono ?_
  unfold yb6
  rw [yga]
  rintro r w' ⟨rfl, hb⟩
  exact ⟨rfl, ((qaj _ _).alloc (qaf _) _).trans (hb.mono (by simp)), Reads.on15 (rfresh (1, 300, [104, 105]) w) hb⟩
 have P2 : Hid (∀ w, Calls prog 25 #[.string ⟨#[0, 6, 1, 1, 172, 2, 0, 1, 172, 2, 2, 104, 105]⟩] w fun r w' => r = .returned (.tuple #[.agg #[.int .i64 0, .int .i64 0, .int .i64 6, .int .i64 1, .int .i64 1, .int .i64 300, .int .i64 300], .int .i64 0]) ∧ Below w.heap.size w w') := qaa fun w => by
  have := p_bpeek_any [0, 6, 1, 1, 172, 2, 0, 1, 172, 2, 2, 104, 105] w (by decide)
  unfold OPost at this
  rwa [oaw_peek] at this
 have D0 : ∀ W, Calls prog 24 #[.string ⟨#[0, 6, 1, 1, 172, 2, 0, 1, 172, 2, 2, 104, 105]⟩] W fun e w' => ybn W w' e (yay [0, 6, 1, 1, 172, 2, 0, 1, 172, 2, 2, 104, 105]) := fun W => p_bdec0_any [0, 6, 1, 1, 172, 2, 0, 1, 172, 2, 2, 104, 105] W (by decide) (by decide)
 have P3 : Hid (∀ w, Calls prog 24 #[.string ⟨#[0, 6, 1, 1, 172, 2, 0, 1, 172, 2, 2, 104, 105]⟩] w fun r w' => ∃ A c, r = .returned (.tuple #[.slice A 1 c, .int .i64 0]) ∧ Reads w' w'.heap.size 3 A 1 (rcs [(1, 300, [104, 105])]) ∧ Below w.heap.size w w') := qaa fun w => by
  refine (D0 w).mono ?_
  unfold ybn
  rw [oaw_dec]
  rintro r w' ⟨A, c, rfl, _, hr, hb⟩
  exact ⟨A, c, rfl, hr, hb⟩
 have P4 : Hid (∀ w, Calls prog 22 #[.slice none 0 0] w fun r w' => r = .returned (.tuple #[.string ⟨#[]⟩, .int .i64 2]) ∧ Below w.heap.size w w') := qaa fun w => ydj [] none 0 0 w rfl (by decide) Reads.none_
 have P5 : Hid (∀ w, Calls prog 34 #[.string ⟨#[0, 6, 1, 1, 172, 2, 0, 1, 172, 2, 2, 104, 105]⟩, .string ⟨#[0, 6, 1, 1, 172, 2, 0, 1, 172, 2, 2, 104, 105]⟩] w fun r w' => r = .returned (.tuple #[.string ⟨#[]⟩, .int .i64 151]) ∧ Below w.heap.size w w') := qaa fun w => by
  have := p_bmerge_of [0, 6, 1, 1, 172, 2, 0, 1, 172, 2, 2, 104, 105] [0, 6, 1, 1, 172, 2, 0, 1, 172, 2, 2, 104, 105] w D0 D0
  unfold yb6 at this
  rwa [oaw_merge] at this
 have P6 := qaa fun A1 c1 A2 c2 W h1 h2 => rref_same_any [(1, 300, [104, 105])] [(1, 300, [104, 105])] A1 A2 1 1 c1 c2 W rfl rfl (by decide) (by decide) h1 h2
 have e9 : decide (([(1, 300, [104, 105])] : List Rc) = [(1, 300, [104, 105])]) = true := qaP rfl
 rw [e9] at P6
 have P7 : Hid (∀ w, Calls prog 29 #[.agg #[.int .i64 0, .int .i64 0, .int .i64 6, .int .i64 1, .int .i64 1, .int .i64 300, .int .i64 300]] w fun r w' => r = .returned (.agg #[.int .i64 1, .int .i64 1]) ∧ Below w.heap.size w w') := qaa fun w => p_bseqs_any (6, 1, 1, 300, 300) w (by decide) (by decide) (by decide) (by decide)
 have P8 : Hid (∀ w, Calls prog 30 #[.agg #[.int .i64 0, .int .i64 0, .int .i64 6, .int .i64 1, .int .i64 1, .int .i64 300, .int .i64 300]] w fun r w' => r = .returned (.agg #[.int .i64 300, .int .i64 300]) ∧ Below w.heap.size w w') := qaa fun w => p_bticks_any (6, 1, 1, 300, 300) w (by decide)
 have heq := fun W => ometa_same 0 0 6 1 1 300 300 W
 have hgu := ometa_guard
 have heq1 := fun W => ygq 1 1 W
 have heq2 := fun W => ygq 300 300 W
 have hgu2 := orange_guard
 clear D0 e9
 go_enter func21, ntmps21
 go_wp2_with (first
  | (go_at_call 22; (with_reducible refine (P1.out _).mono ?_); rintro e w1 ⟨rfl, hb1, hr1⟩; have Hb := qaa hb1; have HR := qaa hr1; clear hb1 hr1 P1)
  | (go_at_call 25; (with_reducible refine (P2.out _).mono ?_); rintro e w2 ⟨rfl, hb2⟩; replace HR := qaa ((Reads.on15 HR.out hb2).alloc (qaf _) (.cells #[.int .i64 0, .int .i64 0, .int .i64 6, .int .i64 1, .int .i64 1, .int .i64 300, .int .i64 300] 45)); replace Hb := qaa (Hb.out.trans (hb2.mono Hb.out.size)); replace Hb := qaa (Hb.out.alloc Hb.out.size (.cells #[.int .i64 0, .int .i64 0, .int .i64 6, .int .i64 1, .int .i64 1, .int .i64 300, .int .i64 300] 45)); have HM := qaa (Blk.new w2 45 #[.int .i64 0, .int .i64 0, .int .i64 6, .int .i64 1, .int .i64 1, .int .i64 300, .int .i64 300]); clear hb2 P2)
  | (go_at_call 24; (with_reducible refine (P3.out _).mono ?_); rintro e w3 ⟨A3, c3, rfl, hr3, hb3⟩; replace HR := qaa (Reads.on15 (HR.out.more (by rw [qas]; omega)) hb3); replace Hb := qaa (Hb.out.trans (hb3.mono Hb.out.size)); replace HM := qaa (HM.out.below hb3 HM.out.lt); have HD := qaa hr3; clear hr3 hb3 P3)
  | (go_at_call 22; (with_reducible refine (P4.out _).mono ?_); rintro e w4 ⟨rfl, hb4⟩; replace HR := qaa (Reads.on15 HR.out hb4); replace Hb := qaa (Hb.out.trans (hb4.mono Hb.out.size)); replace HM := qaa (HM.out.below hb4 HM.out.lt); replace HD := qaa (Reads.on15 HD.out hb4); clear hb4 P4)
  | (go_at_call 34; (with_reducible refine (P5.out _).mono ?_); rintro e w5 ⟨rfl, hb5⟩; replace HR := qaa (Reads.on15 HR.out hb5); replace Hb := qaa (Hb.out.trans (hb5.mono Hb.out.size)); replace HM := qaa (HM.out.below hb5 HM.out.lt); replace HD := qaa (Reads.on15 HD.out hb5); have m50 : w5.cell? ⟨w2.heap.size, 0, none⟩ = some (.int .i64 0) := HM.out.cell 0; have m51 : w5.cell? ⟨w2.heap.size, 1, none⟩ = some (.int .i64 0) := HM.out.cell 1; have m52 : w5.cell? ⟨w2.heap.size, 2, none⟩ = some (.int .i64 6) := HM.out.cell 2; have m53 : w5.cell? ⟨w2.heap.size, 3, none⟩ = some (.int .i64 1) := HM.out.cell 3; have m54 : w5.cell? ⟨w2.heap.size, 4, none⟩ = some (.int .i64 1) := HM.out.cell 4; have m55 : w5.cell? ⟨w2.heap.size, 5, none⟩ = some (.int .i64 300) := HM.out.cell 5; have m56 : w5.cell? ⟨w2.heap.size, 6, none⟩ = some (.int .i64 300) := HM.out.cell 6; clear hb5 P5)
  | (go_at_call 27; (with_reducible refine (P6.out _ _ _ _ _ HD.out HR.out).mono ?_); rintro e w6 ⟨rfl, hb6⟩; replace HR := qaa (Reads.on15 HR.out hb6); replace Hb := qaa (Hb.out.trans (hb6.mono Hb.out.size)); replace HM := qaa (HM.out.below hb6 HM.out.lt); have m60 : w6.cell? ⟨w2.heap.size, 0, none⟩ = some (.int .i64 0) := HM.out.cell 0; have m61 : w6.cell? ⟨w2.heap.size, 1, none⟩ = some (.int .i64 0) := HM.out.cell 1; have m62 : w6.cell? ⟨w2.heap.size, 2, none⟩ = some (.int .i64 6) := HM.out.cell 2; have m63 : w6.cell? ⟨w2.heap.size, 3, none⟩ = some (.int .i64 1) := HM.out.cell 3; have m64 : w6.cell? ⟨w2.heap.size, 4, none⟩ = some (.int .i64 1) := HM.out.cell 4; have m65 : w6.cell? ⟨w2.heap.size, 5, none⟩ = some (.int .i64 300) := HM.out.cell 5; have m66 : w6.cell? ⟨w2.heap.size, 6, none⟩ = some (.int .i64 300) := HM.out.cell 6; clear hb6 P6)
  | (go_at_call 29; (with_reducible refine (P7.out _).mono ?_); rintro e w7 ⟨rfl, hb7⟩; replace HR := qaa (Reads.on15 HR.out hb7); replace Hb := qaa (Hb.out.trans (hb7.mono Hb.out.size)); replace HM := qaa (HM.out.below hb7 HM.out.lt); have m70 : w7.cell? ⟨w2.heap.size, 0, none⟩ = some (.int .i64 0) := HM.out.cell 0; have m71 : w7.cell? ⟨w2.heap.size, 1, none⟩ = some (.int .i64 0) := HM.out.cell 1; have m72 : w7.cell? ⟨w2.heap.size, 2, none⟩ = some (.int .i64 6) := HM.out.cell 2; have m73 : w7.cell? ⟨w2.heap.size, 3, none⟩ = some (.int .i64 1) := HM.out.cell 3; have m74 : w7.cell? ⟨w2.heap.size, 4, none⟩ = some (.int .i64 1) := HM.out.cell 4; have m75 : w7.cell? ⟨w2.heap.size, 5, none⟩ = some (.int .i64 300) := HM.out.cell 5; have m76 : w7.cell? ⟨w2.heap.size, 6, none⟩ = some (.int .i64 300) := HM.out.cell 6; clear hb7 P7)
  | (go_at_call 30; (with_reducible refine (P8.out _).mono ?_); rintro e w8 ⟨rfl, hb8⟩; replace Hb := qaa (Hb.out.trans (hb8.mono Hb.out.size)); clear hb8 P8))
 go_ret
 exact ⟨rfl, Hb.out⟩
theorem yfh (s : List UInt8) (w : World) (hs : s.length ≤ 20000) :
  Calls prog 16 #[.string ⟨s.toArray⟩] w fun e w' => QPost w w' e (qsy s, (bpr s : Int), 0) := by
 have hbig : ¬ 20000 < s.length := by omega
 have hf := yfb s w (by omega)
 unfold BPost at hf
 rw [btF_yes hbig] at hf
 have hr := qaa fun W => ref_ranks_any (yaW s) (by rw [yaZ]; omega) W
 have hz := qaa fun A n c W hm hr => zref_pack_any (rks row0 (yaW s)) A n c W hm hr
 rw [qsy_pack s] at hz
 have hq := yc1 s
 dsimp only at hf hz
 have hl : (yaW s).length = s.length := yaZ s
 rw [hl] at hr
 have Hf := qaa hf
 unfold QPost
 dsimp only
 clear hf
 generalize yaW s = T at *
 generalize rks row0 T = K at *
 generalize qsy s = Q at *
 generalize bpr s = P at *
 go_enter func16, ntmps16
 go_wp2_with (first
  | (go_at_call 42; (with_reducible refine Hf.out.mono ?_); rintro e w1 ⟨rfl, hb1⟩; have Hb1 := qaa hb1; clear hb1 Hf)
  | (go_at_call 44; (with_reducible refine (hr.out _).mono ?_); rintro e w2 ⟨A2, c2, rfl, hc2, hr2, hb2⟩; have Hb2 := qaa (yaL Hb1.out hb2); have Hr2 := qaa hr2; clear hb2 hr hr2)
  | (go_at_call 43; (with_reducible refine (hz.out _ _ _ _ (by omega) Hr2.out).mono ?_); rintro e w3 ⟨A3, c3, rfl, hc3, hr3, hb3⟩; have Hb3 := qaa (yaL Hb2.out hb3); have Hr3 := qaa hr3; clear hb3 hz hr3))
 go_ret3
 exact ⟨_, _, rfl, hc3, Hr3.out, Hb3.out⟩
theorem qref_pack_yes (s : List UInt8) (w : World) (hs : s.length ≤ 20000) :
  Calls prog 14 #[.string ⟨s.toArray⟩] w fun e w' => e = .returned (.tuple #[.string ⟨(qB s).toArray⟩, .int .i64 0]) ∧ Below w.heap.size w w' := by
 have hf := yfh s w hs
 unfold QPost at hf
 have hq := yc1 s
 have hp := bpr_le s
 have he := qaa fun A n c W hm hr => yfW (qsy s) A n c W hm hr
 rw [q_enc s (by omega)] at he
 have p1 := qaa fun W => ybk (s.length : Int) W (by omega)
 have p2 := qaa fun W => ybk (bpr s : Int) W (by omega)
 have p3 := qaa fun W => ybk ((qsy s).length : Int) W (by omega)
 unfold ycJ at p1 p2 p3
 have l1 := ycZ s.length
 have l2 := ycZ (bpr s)
 have l3 := ycZ (qsy s).length
 have l4 := q_text_len s hs
 have hB' : qB s = ((putB s.length ++ putB (bpr s)) ++ putB (qsy s).length) ++ text (hB (qsy s)) := by
  unfold qB qhd
  simp only [qak]
 rw [hB']
 dsimp only at hf he
 have Hf := qaa hf
 clear hf hB'
 generalize putE (s.length : Int) = E1 at *
 generalize putE (bpr s : Int) = E2 at *
 generalize putE ((qsy s).length : Int) = E3 at *
 generalize putB (s.length : Int) = X1 at *
 generalize putB (bpr s : Int) = X2 at *
 generalize putB ((qsy s).length : Int) = X3 at *
 generalize text (hB (qsy s)) = X4 at *
 have a1 := fun W => yfe X1 X2 (by omega) W
 have a2 := fun W => yfe (X1 ++ X2) X3 (by rw [qae]; omega) W
 have a3 := fun W => yfe (X1 ++ X2 ++ X3) X4 (by rw [qae, qae]; omega) W
 generalize X1 ++ X2 ++ X3 ++ X4 = Y3 at *
 generalize X1 ++ X2 ++ X3 = Y2 at *
 generalize X1 ++ X2 = Y1 at *
 generalize (qsy s).length = q at *
 generalize ints (qsy s) = Q at *
 generalize bpr s = P at *
 go_enter func14, ntmps14
 go_wp2_with (first
  | (go_at_call 16; (with_reducible refine Hf.out.mono ?_); rintro e w1 ⟨A1, c1, rfl, hc1, hr1, hb1⟩; have Hb1 := qaa hb1; have Hr1 := qaa hr1; clear hb1 Hf hr1)
  | (go_at_call 37; (with_reducible refine (p1.out _).mono ?_); rintro e w2 ⟨rfl, hb2⟩; have Hb2 := qaa (yaL Hb1.out hb2); replace Hr1 := qaa (Hr1.out.onto hb2); clear hb2 p1)
  | (go_at_call 37; (with_reducible refine (p2.out _).mono ?_); rintro e w3 ⟨rfl, hb3⟩; have Hb3 := qaa (yaL Hb2.out hb3); replace Hr1 := qaa (Hr1.out.onto hb3); clear hb3 p2)
  | (go_at_call 37; (with_reducible refine (p3.out _).mono ?_); rintro e w4 ⟨rfl, hb4⟩; have Hb4 := qaa (yaL Hb3.out hb4); replace Hr1 := qaa (Hr1.out.onto hb4); clear hb4 p3)
  | (go_at_call 38; (with_reducible refine (he.out _ _ _ _ (by omega) Hr1.out).mono ?_); rintro e w5 ⟨rfl, hb5⟩; have Hb5 := qaa (yaL Hb4.out hb5); clear hb5 he))
 go_ret2
 exact ⟨rfl, Hb5.out⟩
def ocat (m : UInt8) (N : List Int) (k : Nat) : List UInt8 := m :: (N.take k).flatMap putB
theorem yg7 (m : UInt8) (N : List Int) (k : Nat) (h : k < N.length) : ocat m N (k + 1) = ocat m N k ++ putB N[k] := by
 unfold ocat
 rw [qao h, List.flatMap_append]
 simp
theorem ydL (m : UInt8) (N : List Int) : ∀ k, (ocat m N k).length ≤ 1 + 9 * k
 | 0 => by simp [ocat]
 | k + 1 => by
  have ih := ydL m N k
  by_cases h : k < N.length
  ·have := ybb N[k]
   rw [yg7 m N k h, qae]
   omega
  ·unfold ocat at ih ⊢
   rw [qax (by omega)] at ih ⊢
   omega
theorem ocat_all (m : UInt8) (a b c d e : Int) (T : List UInt8) : ocat m [a, b, c, d, e] 5 ++ T = m :: (ohd a b c d e ++ T) := by
 simp [ocat, ohd]
theorem rref_benc_any (l : List Rc) (A : Option Addr) (n c : Nat) (w : World) (hl : l.length = n) (hn : n ≤ 1000000) (hr : Reads w w.heap.size 3 A n (rcs l)) :
  Calls prog 23 #[.slice A n c] w fun e w' => yb6 w w' e (yaS l) := by
 unfold yb6
 by_cases h0 : n = 0
 ·subst h0
  rw [show yaS l = ([], 2) from qah hl]
  go_enter func23, ntmps23
  go_wp2
  go_ret2
  exact ⟨rfl, by go_grown⟩
 have hj := rref_join_any l A n c w hl hn hr
 by_cases hE : (yal l).2 ≠ 0
 ·rw [show yaS l = ([], (yal l).2) from by unfold yaS; rw [qag (by omega), qah hE]]
  have Hj := qaa hj
  have hni : ¬ (n : Int) = 0 := by omega
  clear hj hr hl
  generalize (yal l).2 = E at *
  generalize (yal l).1 = X at *
  go_enter func23, ntmps23
  go_wp2_with (go_at_call 50; (with_reducible refine Hj.out.mono ?_); rintro e w1 ⟨rfl, hb1⟩; have HB1 := qaa hb1; clear hb1 Hj)
  go_ret2
  exact ⟨rfl, HB1.out⟩
 obtain ⟨j1, j2, j3, j4, j5, j6, j7, j8, j9⟩ := ojoin (by omega) (qbT.1 hE)
 rw [show yaS l = (oB l, 0) from by unfold yaS; rw [qag (by omega), qag hE]]
 dsimp only
 rw [j1] at hj
 dsimp only at hj ⊢
 have hq := qaa fun W => qref_pack_yes (rjB l) W j2
 obtain ⟨b, off, rfl, hb, hcell⟩ := yaX hr hl 0 (by omega)
 have hp : 0 < l.length := by omega
 obtain ⟨p, rfl⟩ : ∃ p, n = p + 1 := ⟨n - 1, by omega⟩
 obtain ⟨d0, d1, dz0⟩ := hcell 0 hp
 obtain ⟨dz1, d2, dz2⟩ := hcell (l.length - 1) (by omega)
 clear dz0 dz1 dz2
 rw [← yfN hp] at d0 d1
 rw [← olast_at hp] at d2
 rw [show l.length - 1 = p from by omega] at d2
 rw [qcy, qbr] at d0 d1
 have hni : ¬ ((p + 1 : Nat) : Int) = 0 := by omega
 have hsub : IntKind.i64.wrap (((p + 1 : Nat) : Int) - 1) = (p : Int) := by rw [qai]; omega
 have hpi : (0 : Int) ≤ (p : Int) ∧ (p : Int) < (p : Int) + 1 := by omega
 have hwp : IntKind.i64.wrap (p : Int) = (p : Int) := by rw [qai]; omega
 have h0i : (0 : Int) < ((p + 1 : Nat) : Int) := by omega
 have hwd : IntKind.i64.wrap ((ya8 l).2.1 - (yac l).2.1) = (ya8 l).2.1 - (yac l).2.1 := by rw [qai]; omega
 have Hj := qaa hj
 have eB : oB l = ygo (rjB l) :: (ohd (rjB l).length l.length (yac l).1 (yac l).2.1 ((ya8 l).2.1 - (yac l).2.1) ++ yfd (rjB l)) := rfl
 rw [← ocat_all, hl, show ((p + 1 : Nat) : Int) = (p : Int) + 1 from rfl] at eB
 have HF := qaa eB.symm
 have HNb : Hid (∀ z ∈ [((rjB l).length : Int), (p : Int) + 1, (yac l).1, (yac l).2.1, (ya8 l).2.1 - (yac l).2.1], z < 9223372036854775808) := qaa (by
  intro z hz
  simp only [qa9, List.not_mem_nil, or_false] at hz
  rcases hz with rfl | rfl | rfl | rfl | rfl <;> omega)
 obtain ⟨N, hN⟩ : ∃ N, [((rjB l).length : Int), (p : Int) + 1, (yac l).1, (yac l).2.1, (ya8 l).2.1 - (yac l).2.1] = N := ⟨_, rfl⟩
 rw [hN] at HF HNb
 have HN := qaa hN.symm
 have hbl := obody_len (rjB l)
 have hjb : (rjB l).length ≤ 20000 := j2
 clear hN eB hj hr hcell hE j1 j2 j3 j4 h0
 unfold ygo yfd opk at HF hbl
 generalize oB l = Y at *
 generalize (yac l).1 = x0 at *
 generalize (yac l).2.1 = t0 at *
 generalize (ya8 l).2.1 = t1 at *
 generalize hS : qB (rjB l) = S at *
 generalize rjB l = X at *
 clear hS hl hp
 generalize hR : X.length = R at *
 by_cases hk : S.length < R
 ·have hki : (S.length : Int) < (R : Int) := by omega
  rw [qaP hk, qah rfl] at hbl
  rw [qaP hk, qah rfl, qah rfl] at HF
  go_enter func23, ntmps23
  go_wp2_with (first
   | (go_at_call 50; (with_reducible refine Hj.out.mono ?_); rintro e w1 ⟨rfl, hb1⟩; have HB1 := qaa hb1; clear hb1 Hj)
   | (go_at_call 14; (with_reducible refine (hq.out _).mono ?_); rintro e w2 ⟨rfl, hb2⟩; have HB2 := qaa (HB1.out.trans (hb2.mono HB1.out.size)); clear hb2 hq)
   | fail)
  refine qb4 (S := (fun W9 => Below w.heap.size w W9)) (by kernel_rfl) (HB2.out.drew) (fun hHeld => ?_)
  refine qal (i := 0) (oi := _) (v := ?_) rfl (by kernel_rfl) (by kernel_rfl) (by kernel_rfl) (fun _ _ _ h => h) (qat ⟨by rfl, ?_⟩) hHeld ?_
  rotate_left
  ·(intro wz hSw; go_simp; try (with_reducible rfl))
  (try dsimp only [List.getElem_toArray, List.getElem_cons_zero, List.getElem_cons_succ]); (try simp only [Act.put, qab, qad, qac])
  refine qal (i := 1) (oi := _) (v := ?_) rfl (by kernel_rfl) (by kernel_rfl) (by kernel_rfl) (fun _ _ _ h => h) (qat ⟨by rfl, ?_⟩) hHeld ?_
  rotate_left
  ·(intro wz hSw; go_simp; try (with_reducible rfl))
  (try dsimp only [List.getElem_toArray, List.getElem_cons_zero, List.getElem_cons_succ]); (try simp only [Act.put, qab, qad, qac])
  refine qal (i := 2) (oi := _) (v := ?_) rfl (by kernel_rfl) (by kernel_rfl) (by kernel_rfl) (fun _ _ _ h => h) (qat ⟨by rfl, ?_⟩) hHeld ?_
  rotate_left
  ·(intro wz hSw; go_simp; try (with_reducible rfl))
  (try dsimp only [List.getElem_toArray, List.getElem_cons_zero, List.getElem_cons_succ]); (try simp only [Act.put, qab, qad, qac])
  refine qal (i := 3) (oi := _) (v := ?_) rfl (by kernel_rfl) (by kernel_rfl) (by kernel_rfl) (fun _ _ _ h => h) (qat ⟨by rfl, ?_⟩) hHeld ?_
  rotate_left
  ·(intro wz hSw; go_simp; try (with_reducible rfl))
  (try dsimp only [List.getElem_toArray, List.getElem_cons_zero, List.getElem_cons_succ]); (try simp only [Act.put, qab, qad, qac])
  refine qal (i := 4) (oi := _) (v := ?_) rfl (by kernel_rfl) (by kernel_rfl) (by kernel_rfl) (fun _ _ _ h => h) (qat ⟨by rfl, ?_⟩) hHeld ?_
  rotate_left
  ·(intro wz hSw; go_simp; try (with_reducible rfl))
  (try dsimp only [List.getElem_toArray, List.getElem_cons_zero, List.getElem_cons_succ]); (try simp only [Act.put, qab, qad, qac])
  refine qal (i := 5) (oi := _) (v := ?_) rfl (by kernel_rfl) (by kernel_rfl) (by kernel_rfl) (fun _ _ _ h => h) (qat ⟨by rfl, ?_⟩) hHeld ?_
  rotate_left
  ·(intro wz hSw; go_simp; try (with_reducible rfl))
  (try dsimp only [List.getElem_toArray, List.getElem_cons_zero, List.getElem_cons_succ]); (try simp only [Act.put, qab, qad, qac])
  refine qal (i := 6) (oi := _) (v := ?_) rfl (by kernel_rfl) (by kernel_rfl) (by kernel_rfl) (fun _ _ _ h => h) (qat ⟨by rfl, ?_⟩) hHeld ?_
  rotate_left
  ·(intro wz hSw; go_simp; try (with_reducible rfl))
  (try dsimp only [List.getElem_toArray, List.getElem_cons_zero, List.getElem_cons_succ]); (try simp only [Act.put, qab, qad, qac])
  refine qal (i := 7) (oi := _) (v := ?_) rfl (by kernel_rfl) (by kernel_rfl) (by kernel_rfl) (fun _ _ _ h => h) (qat ⟨by rfl, ?_⟩) hHeld ?_
  rotate_left
  ·(intro wz hSw; have y0 := (hSw.cell (p := ⟨b, off, none⟩) hb).trans d0; have y1 := (hSw.cell (p := ⟨b, off + 1, none⟩) hb).trans d1; have y2 := (hSw.cell (p := ⟨b, off + p * 3 + 1, none⟩) hb).trans d2; go_simp; try (with_reducible rfl))
  (try dsimp only [List.getElem_toArray, List.getElem_cons_zero, List.getElem_cons_succ]); (try simp only [Act.put, qab, qad, qac])
  refine qal (i := 8) (oi := _) (v := ?_) rfl (by kernel_rfl) (by kernel_rfl) (by kernel_rfl) (fun _ _ _ h => h) (qat ⟨by rfl, ?_⟩) hHeld ?_
  rotate_left
  ·(intro wz hSw; go_simp; try (with_reducible rfl))
  (try dsimp only [List.getElem_toArray, List.getElem_cons_zero, List.getElem_cons_succ]); (try simp only [Act.put, qab, qad, qac])
  refine qal (i := 9) (oi := _) (v := ?_) rfl (by kernel_rfl) (by kernel_rfl) (by kernel_rfl) (fun _ _ _ h => h) (qat ⟨by rfl, ?_⟩) hHeld ?_
  rotate_left
  ·(intro wz hSw; go_simp; try (with_reducible rfl))
  (try dsimp only [List.getElem_toArray, List.getElem_cons_zero, List.getElem_cons_succ]); (try simp only [Act.put, qab, qad, qac])
  refine qal (i := 10) (oi := _) (v := ?_) rfl (by kernel_rfl) (by kernel_rfl) (by kernel_rfl) (fun _ _ _ h => h) (qat ⟨by rfl, ?_⟩) hHeld ?_
  rotate_left
  ·(intro wz hSw; go_simp; try (with_reducible rfl))
  (try dsimp only [List.getElem_toArray, List.getElem_cons_zero, List.getElem_cons_succ]); (try simp only [Act.put, qab, qad, qac])
  refine qal (i := 11) (oi := _) (v := ?_) rfl (by kernel_rfl) (by kernel_rfl) (by kernel_rfl) (fun _ _ _ h => h) (qat ⟨by rfl, ?_⟩) hHeld ?_
  rotate_left
  ·(intro wz hSw; have y0 := (hSw.cell (p := ⟨b, off, none⟩) hb).trans d0; have y1 := (hSw.cell (p := ⟨b, off + 1, none⟩) hb).trans d1; have y2 := (hSw.cell (p := ⟨b, off + p * 3 + 1, none⟩) hb).trans d2; go_simp; try (with_reducible rfl))
  (try dsimp only [List.getElem_toArray, List.getElem_cons_zero, List.getElem_cons_succ]); (try simp only [Act.put, qab, qad, qac])
  refine qal (i := 12) (oi := _) (v := ?_) rfl (by kernel_rfl) (by kernel_rfl) (by kernel_rfl) (fun _ _ _ h => h) (qat ⟨by rfl, ?_⟩) hHeld ?_
  rotate_left
  ·(intro wz hSw; go_simp; try (with_reducible rfl))
  (try dsimp only [List.getElem_toArray, List.getElem_cons_zero, List.getElem_cons_succ]); (try simp only [Act.put, qab, qad, qac])
  refine qal (i := 13) (oi := _) (v := ?_) rfl (by kernel_rfl) (by kernel_rfl) (by kernel_rfl) (fun _ _ _ h => h) (qat ⟨by rfl, ?_⟩) hHeld ?_
  rotate_left
  ·(intro wz hSw; go_simp; try (with_reducible rfl))
  (try dsimp only [List.getElem_toArray, List.getElem_cons_zero, List.getElem_cons_succ]); (try simp only [Act.put, qab, qad, qac])
  refine qal (i := 14) (oi := _) (v := ?_) rfl (by kernel_rfl) (by kernel_rfl) (by kernel_rfl) (fun _ _ _ h => h) (qat ⟨by rfl, ?_⟩) hHeld ?_
  rotate_left
  ·(intro wz hSw; go_simp; try (with_reducible rfl))
  (try dsimp only [List.getElem_toArray, List.getElem_cons_zero, List.getElem_cons_succ]); (try simp only [Act.put, qab, qad, qac])
  refine qal (i := 15) (oi := _) (v := ?_) rfl (by kernel_rfl) (by kernel_rfl) (by kernel_rfl) (fun _ _ _ h => h) (qat ⟨by rfl, ?_⟩) hHeld ?_
  rotate_left
  ·(intro wz hSw; go_simp; try (with_reducible rfl))
  (try dsimp only [List.getElem_toArray, List.getElem_cons_zero, List.getElem_cons_succ]); (try simp only [Act.put, qab, qad, qac])
  refine qal (i := 16) (oi := _) (v := ?_) rfl (by kernel_rfl) (by kernel_rfl) (by kernel_rfl) (fun _ _ _ h => h) (qat ⟨by rfl, ?_⟩) hHeld ?_
  rotate_left
  ·(intro wz hSw; go_simp; try (with_reducible rfl))
  (try dsimp only [List.getElem_toArray, List.getElem_cons_zero, List.getElem_cons_succ]); (try simp only [Act.put, qab, qad, qac])
  refine qal (i := 17) (oi := _) (v := ?_) rfl (by kernel_rfl) (by kernel_rfl) (by kernel_rfl) (fun _ _ _ h => h) (qat ⟨by rfl, ?_⟩) hHeld ?_
  rotate_left
  ·(intro wz hSw; go_simp; try (with_reducible rfl))
  (try dsimp only [List.getElem_toArray, List.getElem_cons_zero, List.getElem_cons_succ]); (try simp only [Act.put, qab, qad, qac])
  refine qal (i := 18) (oi := _) (v := ?_) rfl (by kernel_rfl) (by kernel_rfl) (by kernel_rfl) (fun _ _ _ h => h) (qat ⟨by rfl, ?_⟩) hHeld ?_
  rotate_left
  ·(intro wz hSw; have y0 := (hSw.cell (p := ⟨b, off, none⟩) hb).trans d0; have y1 := (hSw.cell (p := ⟨b, off + 1, none⟩) hb).trans d1; have y2 := (hSw.cell (p := ⟨b, off + p * 3 + 1, none⟩) hb).trans d2; go_simp; try (with_reducible rfl))
  (try dsimp only [List.getElem_toArray, List.getElem_cons_zero, List.getElem_cons_succ]); (try simp only [Act.put, qab, qad, qac])
  refine qal (i := 19) (oi := _) (v := ?_) rfl (by kernel_rfl) (by kernel_rfl) (by kernel_rfl) (fun _ _ _ h => h) (qat ⟨by rfl, ?_⟩) hHeld ?_
  rotate_left
  ·(intro wz hSw; go_simp; try (with_reducible rfl))
  (try dsimp only [List.getElem_toArray, List.getElem_cons_zero, List.getElem_cons_succ]); (try simp only [Act.put, qab, qad, qac])
  refine qal (i := 20) (oi := _) (v := ?_) rfl (by kernel_rfl) (by kernel_rfl) (by kernel_rfl) (fun _ _ _ h => h) (qat ⟨by rfl, ?_⟩) hHeld ?_
  rotate_left
  ·(intro wz hSw; go_simp; try (with_reducible rfl))
  (try dsimp only [List.getElem_toArray, List.getElem_cons_zero, List.getElem_cons_succ]); (try simp only [Act.put, qab, qad, qac])
  refine qal (i := 21) (oi := _) (v := ?_) rfl (by kernel_rfl) (by kernel_rfl) (by kernel_rfl) (fun _ _ _ h => h) (qat ⟨by rfl, ?_⟩) hHeld ?_
  rotate_left
  ·(intro wz hSw; go_simp; try (with_reducible rfl))
  (try dsimp only [List.getElem_toArray, List.getElem_cons_zero, List.getElem_cons_succ]); (try simp only [Act.put, qab, qad, qac])
  refine qal (i := 22) (oi := _) (v := ?_) rfl (by kernel_rfl) (by kernel_rfl) (by kernel_rfl) (fun _ _ _ h => h) (qat ⟨by rfl, ?_⟩) hHeld ?_
  rotate_left
  ·(intro wz hSw; have y0 := (hSw.cell (p := ⟨b, off, none⟩) hb).trans d0; have y1 := (hSw.cell (p := ⟨b, off + 1, none⟩) hb).trans d1; have y2 := (hSw.cell (p := ⟨b, off + p * 3 + 1, none⟩) hb).trans d2; go_simp; try (with_reducible rfl))
  (try dsimp only [List.getElem_toArray, List.getElem_cons_zero, List.getElem_cons_succ]); (try simp only [Act.put, qab, qad, qac])
  refine qal (i := 23) (oi := _) (v := ?_) rfl (by kernel_rfl) (by kernel_rfl) (by kernel_rfl) (fun _ _ _ h => h) (qat ⟨by rfl, ?_⟩) hHeld ?_
  rotate_left
  ·(intro wz hSw; go_simp; try (with_reducible rfl))
  (try dsimp only [List.getElem_toArray, List.getElem_cons_zero, List.getElem_cons_succ]); (try simp only [Act.put, qab, qad, qac])
  refine qaB (rs := [24]) (by kernel_rfl) (by simp) ?_
  refine qav (o := _) rfl (fun K hK => ?_) qa4
  go_simp
  refine hK.out _ _ ((hHeld.alloc hHeld.size _)) (fun hH => ?_)
  clear hK K hHeld
  have hHeld := hH
  clear hH
  (try dsimp only [List.getElem_toArray, List.getElem_cons_zero, List.getElem_cons_succ]); (try simp only [Act.put, qab, qad, qac])
  refine qal (i := 25) (oi := _) (v := ?_) rfl (by kernel_rfl) (by kernel_rfl) (by kernel_rfl) (fun _ _ _ h => h) (qat ⟨by rfl, ?_⟩) hHeld ?_
  rotate_left
  ·(intro wz hSw; go_simp; try (with_reducible rfl))
  (try dsimp only [List.getElem_toArray, List.getElem_cons_zero, List.getElem_cons_succ]); (try simp only [Act.put, qab, qad, qac])
  refine qb3 (by kernel_rfl) ?_ _
  skip
  have HR0 : Hid (Blk (w2.alloc (.cells #[.int .i64 (R : Int), .int .i64 ((p : Int) + 1), .int .i64 x0, .int .i64 t0, .int .i64 (t1 - t0)] 3)).drew w2.heap.size 3 (ints N).toArray) := qaa (by rw [HN.out]; exact Blk.new w2 3 _)
  have HB4 := qaa hHeld
  clear hHeld HB2
  generalize w2.heap.size = g at *
  go_wp2
  go_loopw [8, 11] (fun o i wr => ∃ k : Nat, k ≤ 5 ∧ i = .int .i64 (k : Int) ∧ o = .string ⟨(ocat 1 N k).toArray⟩ ∧ Hid (Blk wr g 3 (ints N).toArray ∧ Below w.heap.size w wr)) (fun _ i _ => 5 - (intOf i).toNat)
  case atStart => exact ⟨0, by omega, rfl, rfl, qaa ⟨HR0.out, HB4.out⟩⟩
  case round =>
   obtain ⟨k, hk, rfl, rfl, HI⟩ := hrel
   by_cases hlt : k < 5
   ·have hkl : k < N.length := by rw [HN.out]; exact hlt
    have c0 : wr.cell? ⟨g, k, none⟩ = some (.int .i64 N[k]) := by rw [HI.out.1.cell k]; simpa using yak N k hkl
    have hki : (0 : Int) ≤ (k : Int) ∧ (k : Int) < 5 := by omega
    have hput := qaa fun W => ybk N[k] W (HNb.out _ (qam hkl))
    unfold ycJ at hput
    have hadd := fun W => yfe (ocat 1 N k) (putB N[k]) (by have := ydL 1 N k; have := ybb N[k]; omega) W
    rw [← yg7 1 N k hkl] at hadd
    generalize N[k] = z at *
    generalize putB z = Z at *
    generalize putE z = ze at *
    obtain ⟨V, hV0⟩ : ∃ V, ocat 1 N (k + 1) = V := ⟨_, rfl⟩
    rw [hV0] at hadd
    have hV := qaa hV0.symm
    clear hV0
    go_wp2_with (go_at_call 37; (with_reducible refine (hput.out _).mono ?_); rintro e w5 ⟨rfl, hb5⟩; have HI5 := qaa (And.intro (HI.out.1.below hb5 HI.out.1.lt) (HI.out.2.trans (hb5.mono HI.out.2.size))); clear hb5 hput)
    go_roundw
    case rel => exact ⟨k + 1, by omega, iv (by omega), by rw [hV.out], HI5⟩
    case measure => simp only [intOf]; omega
   ·obtain rfl : k = 5 := by omega
    have HB5 := qaa HI.out.2
    have hadd := fun W => yfe (ocat 1 N 5) S (by have := ydL 1 N 5; omega) W
    rw [HF.out] at hadd
    generalize ocat 1 N 5 = V at *
    go_wp2
    go_ret2
    exact ⟨rfl, HB5.out⟩
 ·have hki : ¬ (S.length : Int) < (R : Int) := by omega
  rw [qaU hk, qag (by decide)] at hbl
  rw [qaU hk, qag (by decide), qag (by decide)] at HF
  go_enter func23, ntmps23
  go_wp2_with (first
   | (go_at_call 50; (with_reducible refine Hj.out.mono ?_); rintro e w1 ⟨rfl, hb1⟩; have HB1 := qaa hb1; clear hb1 Hj)
   | (go_at_call 14; (with_reducible refine (hq.out _).mono ?_); rintro e w2 ⟨rfl, hb2⟩; have HB2 := qaa (HB1.out.trans (hb2.mono HB1.out.size)); clear hb2 hq)
   | fail)
  refine qb4 (S := (fun W9 => Below w.heap.size w W9)) (by kernel_rfl) (HB2.out.drew) (fun hHeld => ?_)
  refine qal (i := 0) (oi := _) (v := ?_) rfl (by kernel_rfl) (by kernel_rfl) (by kernel_rfl) (fun _ _ _ h => h) (qat ⟨by rfl, ?_⟩) hHeld ?_
  rotate_left
  ·(intro wz hSw; go_simp; try (with_reducible rfl))
  (try dsimp only [List.getElem_toArray, List.getElem_cons_zero, List.getElem_cons_succ]); (try simp only [Act.put, qab, qad, qac])
  refine qal (i := 1) (oi := _) (v := ?_) rfl (by kernel_rfl) (by kernel_rfl) (by kernel_rfl) (fun _ _ _ h => h) (qat ⟨by rfl, ?_⟩) hHeld ?_
  rotate_left
  ·(intro wz hSw; go_simp; try (with_reducible rfl))
  (try dsimp only [List.getElem_toArray, List.getElem_cons_zero, List.getElem_cons_succ]); (try simp only [Act.put, qab, qad, qac])
  refine qal (i := 2) (oi := _) (v := ?_) rfl (by kernel_rfl) (by kernel_rfl) (by kernel_rfl) (fun _ _ _ h => h) (qat ⟨by rfl, ?_⟩) hHeld ?_
  rotate_left
  ·(intro wz hSw; go_simp; try (with_reducible rfl))
  (try dsimp only [List.getElem_toArray, List.getElem_cons_zero, List.getElem_cons_succ]); (try simp only [Act.put, qab, qad, qac])
  refine qal (i := 3) (oi := _) (v := ?_) rfl (by kernel_rfl) (by kernel_rfl) (by kernel_rfl) (fun _ _ _ h => h) (qat ⟨by rfl, ?_⟩) hHeld ?_
  rotate_left
  ·(intro wz hSw; go_simp; try (with_reducible rfl))
  (try dsimp only [List.getElem_toArray, List.getElem_cons_zero, List.getElem_cons_succ]); (try simp only [Act.put, qab, qad, qac])
  refine qal (i := 4) (oi := _) (v := ?_) rfl (by kernel_rfl) (by kernel_rfl) (by kernel_rfl) (fun _ _ _ h => h) (qat ⟨by rfl, ?_⟩) hHeld ?_
  rotate_left
  ·(intro wz hSw; go_simp; try (with_reducible rfl))
  (try dsimp only [List.getElem_toArray, List.getElem_cons_zero, List.getElem_cons_succ]); (try simp only [Act.put, qab, qad, qac])
  refine qal (i := 5) (oi := _) (v := ?_) rfl (by kernel_rfl) (by kernel_rfl) (by kernel_rfl) (fun _ _ _ h => h) (qat ⟨by rfl, ?_⟩) hHeld ?_
  rotate_left
  ·(intro wz hSw; go_simp; try (with_reducible rfl))
  (try dsimp only [List.getElem_toArray, List.getElem_cons_zero, List.getElem_cons_succ]); (try simp only [Act.put, qab, qad, qac])
  refine qal (i := 6) (oi := _) (v := ?_) rfl (by kernel_rfl) (by kernel_rfl) (by kernel_rfl) (fun _ _ _ h => h) (qat ⟨by rfl, ?_⟩) hHeld ?_
  rotate_left
  ·(intro wz hSw; go_simp; try (with_reducible rfl))
  (try dsimp only [List.getElem_toArray, List.getElem_cons_zero, List.getElem_cons_succ]); (try simp only [Act.put, qab, qad, qac])
  refine qal (i := 7) (oi := _) (v := ?_) rfl (by kernel_rfl) (by kernel_rfl) (by kernel_rfl) (fun _ _ _ h => h) (qat ⟨by rfl, ?_⟩) hHeld ?_
  rotate_left
  ·(intro wz hSw; have y0 := (hSw.cell (p := ⟨b, off, none⟩) hb).trans d0; have y1 := (hSw.cell (p := ⟨b, off + 1, none⟩) hb).trans d1; have y2 := (hSw.cell (p := ⟨b, off + p * 3 + 1, none⟩) hb).trans d2; go_simp; try (with_reducible rfl))
  (try dsimp only [List.getElem_toArray, List.getElem_cons_zero, List.getElem_cons_succ]); (try simp only [Act.put, qab, qad, qac])
  refine qal (i := 8) (oi := _) (v := ?_) rfl (by kernel_rfl) (by kernel_rfl) (by kernel_rfl) (fun _ _ _ h => h) (qat ⟨by rfl, ?_⟩) hHeld ?_
  rotate_left
  ·(intro wz hSw; go_simp; try (with_reducible rfl))
  (try dsimp only [List.getElem_toArray, List.getElem_cons_zero, List.getElem_cons_succ]); (try simp only [Act.put, qab, qad, qac])
  refine qal (i := 9) (oi := _) (v := ?_) rfl (by kernel_rfl) (by kernel_rfl) (by kernel_rfl) (fun _ _ _ h => h) (qat ⟨by rfl, ?_⟩) hHeld ?_
  rotate_left
  ·(intro wz hSw; go_simp; try (with_reducible rfl))
  (try dsimp only [List.getElem_toArray, List.getElem_cons_zero, List.getElem_cons_succ]); (try simp only [Act.put, qab, qad, qac])
  refine qal (i := 10) (oi := _) (v := ?_) rfl (by kernel_rfl) (by kernel_rfl) (by kernel_rfl) (fun _ _ _ h => h) (qat ⟨by rfl, ?_⟩) hHeld ?_
  rotate_left
  ·(intro wz hSw; go_simp; try (with_reducible rfl))
  (try dsimp only [List.getElem_toArray, List.getElem_cons_zero, List.getElem_cons_succ]); (try simp only [Act.put, qab, qad, qac])
  refine qal (i := 11) (oi := _) (v := ?_) rfl (by kernel_rfl) (by kernel_rfl) (by kernel_rfl) (fun _ _ _ h => h) (qat ⟨by rfl, ?_⟩) hHeld ?_
  rotate_left
  ·(intro wz hSw; have y0 := (hSw.cell (p := ⟨b, off, none⟩) hb).trans d0; have y1 := (hSw.cell (p := ⟨b, off + 1, none⟩) hb).trans d1; have y2 := (hSw.cell (p := ⟨b, off + p * 3 + 1, none⟩) hb).trans d2; go_simp; try (with_reducible rfl))
  (try dsimp only [List.getElem_toArray, List.getElem_cons_zero, List.getElem_cons_succ]); (try simp only [Act.put, qab, qad, qac])
  refine qal (i := 12) (oi := _) (v := ?_) rfl (by kernel_rfl) (by kernel_rfl) (by kernel_rfl) (fun _ _ _ h => h) (qat ⟨by rfl, ?_⟩) hHeld ?_
  rotate_left
  ·(intro wz hSw; go_simp; try (with_reducible rfl))
  (try dsimp only [List.getElem_toArray, List.getElem_cons_zero, List.getElem_cons_succ]); (try simp only [Act.put, qab, qad, qac])
  refine qal (i := 13) (oi := _) (v := ?_) rfl (by kernel_rfl) (by kernel_rfl) (by kernel_rfl) (fun _ _ _ h => h) (qat ⟨by rfl, ?_⟩) hHeld ?_
  rotate_left
  ·(intro wz hSw; go_simp; try (with_reducible rfl))
  (try dsimp only [List.getElem_toArray, List.getElem_cons_zero, List.getElem_cons_succ]); (try simp only [Act.put, qab, qad, qac])
  refine qal (i := 14) (oi := _) (v := ?_) rfl (by kernel_rfl) (by kernel_rfl) (by kernel_rfl) (fun _ _ _ h => h) (qat ⟨by rfl, ?_⟩) hHeld ?_
  rotate_left
  ·(intro wz hSw; go_simp; try (with_reducible rfl))
  (try dsimp only [List.getElem_toArray, List.getElem_cons_zero, List.getElem_cons_succ]); (try simp only [Act.put, qab, qad, qac])
  refine qal (i := 15) (oi := _) (v := ?_) rfl (by kernel_rfl) (by kernel_rfl) (by kernel_rfl) (fun _ _ _ h => h) (qat ⟨by rfl, ?_⟩) hHeld ?_
  rotate_left
  ·(intro wz hSw; go_simp; try (with_reducible rfl))
  (try dsimp only [List.getElem_toArray, List.getElem_cons_zero, List.getElem_cons_succ]); (try simp only [Act.put, qab, qad, qac])
  refine qal (i := 16) (oi := _) (v := ?_) rfl (by kernel_rfl) (by kernel_rfl) (by kernel_rfl) (fun _ _ _ h => h) (qat ⟨by rfl, ?_⟩) hHeld ?_
  rotate_left
  ·(intro wz hSw; go_simp; try (with_reducible rfl))
  (try dsimp only [List.getElem_toArray, List.getElem_cons_zero, List.getElem_cons_succ]); (try simp only [Act.put, qab, qad, qac])
  refine qal (i := 17) (oi := _) (v := ?_) rfl (by kernel_rfl) (by kernel_rfl) (by kernel_rfl) (fun _ _ _ h => h) (qat ⟨by rfl, ?_⟩) hHeld ?_
  rotate_left
  ·(intro wz hSw; go_simp; try (with_reducible rfl))
  (try dsimp only [List.getElem_toArray, List.getElem_cons_zero, List.getElem_cons_succ]); (try simp only [Act.put, qab, qad, qac])
  refine qal (i := 18) (oi := _) (v := ?_) rfl (by kernel_rfl) (by kernel_rfl) (by kernel_rfl) (fun _ _ _ h => h) (qat ⟨by rfl, ?_⟩) hHeld ?_
  rotate_left
  ·(intro wz hSw; have y0 := (hSw.cell (p := ⟨b, off, none⟩) hb).trans d0; have y1 := (hSw.cell (p := ⟨b, off + 1, none⟩) hb).trans d1; have y2 := (hSw.cell (p := ⟨b, off + p * 3 + 1, none⟩) hb).trans d2; go_simp; try (with_reducible rfl))
  (try dsimp only [List.getElem_toArray, List.getElem_cons_zero, List.getElem_cons_succ]); (try simp only [Act.put, qab, qad, qac])
  refine qal (i := 19) (oi := _) (v := ?_) rfl (by kernel_rfl) (by kernel_rfl) (by kernel_rfl) (fun _ _ _ h => h) (qat ⟨by rfl, ?_⟩) hHeld ?_
  rotate_left
  ·(intro wz hSw; go_simp; try (with_reducible rfl))
  (try dsimp only [List.getElem_toArray, List.getElem_cons_zero, List.getElem_cons_succ]); (try simp only [Act.put, qab, qad, qac])
  refine qal (i := 20) (oi := _) (v := ?_) rfl (by kernel_rfl) (by kernel_rfl) (by kernel_rfl) (fun _ _ _ h => h) (qat ⟨by rfl, ?_⟩) hHeld ?_
  rotate_left
  ·(intro wz hSw; go_simp; try (with_reducible rfl))
  (try dsimp only [List.getElem_toArray, List.getElem_cons_zero, List.getElem_cons_succ]); (try simp only [Act.put, qab, qad, qac])
  refine qal (i := 21) (oi := _) (v := ?_) rfl (by kernel_rfl) (by kernel_rfl) (by kernel_rfl) (fun _ _ _ h => h) (qat ⟨by rfl, ?_⟩) hHeld ?_
  rotate_left
  ·(intro wz hSw; go_simp; try (with_reducible rfl))
  (try dsimp only [List.getElem_toArray, List.getElem_cons_zero, List.getElem_cons_succ]); (try simp only [Act.put, qab, qad, qac])
  refine qal (i := 22) (oi := _) (v := ?_) rfl (by kernel_rfl) (by kernel_rfl) (by kernel_rfl) (fun _ _ _ h => h) (qat ⟨by rfl, ?_⟩) hHeld ?_
  rotate_left
  ·(intro wz hSw; have y0 := (hSw.cell (p := ⟨b, off, none⟩) hb).trans d0; have y1 := (hSw.cell (p := ⟨b, off + 1, none⟩) hb).trans d1; have y2 := (hSw.cell (p := ⟨b, off + p * 3 + 1, none⟩) hb).trans d2; go_simp; try (with_reducible rfl))
  (try dsimp only [List.getElem_toArray, List.getElem_cons_zero, List.getElem_cons_succ]); (try simp only [Act.put, qab, qad, qac])
  refine qal (i := 23) (oi := _) (v := ?_) rfl (by kernel_rfl) (by kernel_rfl) (by kernel_rfl) (fun _ _ _ h => h) (qat ⟨by rfl, ?_⟩) hHeld ?_
  rotate_left
  ·(intro wz hSw; go_simp; try (with_reducible rfl))
  (try dsimp only [List.getElem_toArray, List.getElem_cons_zero, List.getElem_cons_succ]); (try simp only [Act.put, qab, qad, qac])
  refine qaB (rs := [24]) (by kernel_rfl) (by simp) ?_
  refine qav (o := _) rfl (fun K hK => ?_) qa4
  go_simp
  refine hK.out _ _ ((hHeld.alloc hHeld.size _)) (fun hH => ?_)
  clear hK K hHeld
  have hHeld := hH
  clear hH
  (try dsimp only [List.getElem_toArray, List.getElem_cons_zero, List.getElem_cons_succ]); (try simp only [Act.put, qab, qad, qac])
  refine qal (i := 25) (oi := _) (v := ?_) rfl (by kernel_rfl) (by kernel_rfl) (by kernel_rfl) (fun _ _ _ h => h) (qat ⟨by rfl, ?_⟩) hHeld ?_
  rotate_left
  ·(intro wz hSw; go_simp; try (with_reducible rfl))
  (try dsimp only [List.getElem_toArray, List.getElem_cons_zero, List.getElem_cons_succ]); (try simp only [Act.put, qab, qad, qac])
  refine qb3 (by kernel_rfl) ?_ _
  skip
  have HR0 : Hid (Blk (w2.alloc (.cells #[.int .i64 (R : Int), .int .i64 ((p : Int) + 1), .int .i64 x0, .int .i64 t0, .int .i64 (t1 - t0)] 3)).drew w2.heap.size 3 (ints N).toArray) := qaa (by rw [HN.out]; exact Blk.new w2 3 _)
  have HB4 := qaa hHeld
  clear hHeld HB2
  generalize w2.heap.size = g at *
  go_wp2
  go_loopw [8, 11] (fun o i wr => ∃ k : Nat, k ≤ 5 ∧ i = .int .i64 (k : Int) ∧ o = .string ⟨(ocat 0 N k).toArray⟩ ∧ Hid (Blk wr g 3 (ints N).toArray ∧ Below w.heap.size w wr)) (fun _ i _ => 5 - (intOf i).toNat)
  case atStart => exact ⟨0, by omega, rfl, rfl, qaa ⟨HR0.out, HB4.out⟩⟩
  case round =>
   obtain ⟨k, hk, rfl, rfl, HI⟩ := hrel
   by_cases hlt : k < 5
   ·have hkl : k < N.length := by rw [HN.out]; exact hlt
    have c0 : wr.cell? ⟨g, k, none⟩ = some (.int .i64 N[k]) := by rw [HI.out.1.cell k]; simpa using yak N k hkl
    have hki : (0 : Int) ≤ (k : Int) ∧ (k : Int) < 5 := by omega
    have hput := qaa fun W => ybk N[k] W (HNb.out _ (qam hkl))
    unfold ycJ at hput
    have hadd := fun W => yfe (ocat 0 N k) (putB N[k]) (by have := ydL 0 N k; have := ybb N[k]; omega) W
    rw [← yg7 0 N k hkl] at hadd
    generalize N[k] = z at *
    generalize putB z = Z at *
    generalize putE z = ze at *
    obtain ⟨V, hV0⟩ : ∃ V, ocat 0 N (k + 1) = V := ⟨_, rfl⟩
    rw [hV0] at hadd
    have hV := qaa hV0.symm
    clear hV0
    go_wp2_with (go_at_call 37; (with_reducible refine (hput.out _).mono ?_); rintro e w5 ⟨rfl, hb5⟩; have HI5 := qaa (And.intro (HI.out.1.below hb5 HI.out.1.lt) (HI.out.2.trans (hb5.mono HI.out.2.size))); clear hb5 hput)
    go_roundw
    case rel => exact ⟨k + 1, by omega, iv (by omega), by rw [hV.out], HI5⟩
    case measure => simp only [intOf]; omega
   ·obtain rfl : k = 5 := by omega
    have HB5 := qaa HI.out.2
    have hadd := fun W => yfe (ocat 0 N 5) X (by have := ydL 0 N 5; omega) W
    rw [HF.out] at hadd
    generalize ocat 0 N 5 = V at *
    go_wp2
    go_ret2
    exact ⟨rfl, HB5.out⟩
end Go.Proofs.YtanjhbkbpalnaaaGreat
