/-
 What the law of the last of these texts stands on, part 51.
-/
import Derived.Test.YtanjhbkbpalnaaaGreatMc43
import Derived.Test.YtanjhbkbpalnaaaGreatMc45
import Derived.Test.YtanjhbkbpalnaaaGreatMc46
import Derived.Test.YtanjhbkbpalnaaaGreatMc47
import Derived.Test.YtanjhbkbpalnaaaGreatMc48
import Derived.Test.YtanjhbkbpalnaaaGreatMc50
set_option maxRecDepth 100000
set_option maxHeartbeats 8000000
open Go.Proofs.Tryz
namespace Go.Proofs.YtanjhbkbpalnaaaGreat
set_option linter.unusedSimpArgs false
set_option linter.unusedVariables false
open Go.ChangeShapes Go.WideShapes Go.ChangeAt Go.RowKit Go.Joins Go.Deep
def QPost (w w' : World) (e : Ending) (F : List Int × Int × Int) : Prop := ∃ A c, e = .returned (.tuple #[.slice A F.1.length c, .int .i64 F.2.1, .int .i64 F.2.2]) ∧ F.1.length ≤ c ∧ Reads w' w'.heap.size 1 A F.1.length (ints F.1) ∧ Below w.heap.size w w'
theorem yaU {w w1 w2 : World} (h1 : Below w.heap.size w w1) (h2 : Below w1.heap.size w1 w2) : Below w.heap.size w w2 := h1.trans (h2.mono h1.size)
theorem q_symbols_any (s : List UInt8) (w : World) (hs : s.length ≤ 1000000) :
  Calls prog 15 #[.string ⟨s.toArray⟩] w fun e w' => QPost w w' e (qsF s) := by
 have hf := p_bforward_any s w hs
 unfold BPost at hf
 by_cases hbig : 20000 < s.length
 ·rw [btF_big hbig] at hf
  have fin : qsF s = ([], 0, 3) := qah hbig
  rw [fin]
  dsimp only at hf
  have Hf := qaa hf
  clear hf hbig fin
  go_enter func15, ntmps15
  go_wp2_with (go_at_call 39; (with_reducible refine Hf.out.mono ?_); rintro e w1 ⟨rfl, hb1⟩; have Hb1 := qaa hb1; clear hb1 Hf)
  go_ret3
  exact ⟨none, 0, rfl, qaf _, Reads.none_, Hb1.out⟩
 ·rw [btF_yes hbig] at hf
  have fin : qsF s = (qsy s, (bpr s : Int), 0) := qag hbig
  have hr := qaa fun W => fr_ranks_any (ybq s) (by rw [yb0]; omega) W
  have hz := qaa fun A n c W hm hc hr => zr_pack_any (rks row0 (ybq s)) A n c W hm hc hr
  rw [qsy_pack s] at hz
  have hq := yfa s
  rw [fin]
  dsimp only at hf hz
  have hl : (ybq s).length = s.length := yb0 s
  rw [hl] at hr
  have Hf := qaa hf
  unfold QPost
  dsimp only
  clear hf fin
  generalize ybq s = T at *
  generalize rks row0 T = K at *
  generalize qsy s = Q at *
  generalize bpr s = P at *
  go_enter func15, ntmps15
  go_wp2_with (first
   | (go_at_call 39; (with_reducible refine Hf.out.mono ?_); rintro e w1 ⟨rfl, hb1⟩; have Hb1 := qaa hb1; clear hb1 Hf)
   | (go_at_call 41; (with_reducible refine (hr.out _).mono ?_); rintro e w2 ⟨A2, c2, rfl, hc2, hr2, hb2⟩; have Hb2 := qaa (yaU Hb1.out hb2); have Hr2 := qaa hr2; clear hb2 hr hr2)
   | (go_at_call 40; (with_reducible refine (hz.out _ _ _ _ (by omega) hc2 Hr2.out).mono ?_); rintro e w3 ⟨A3, c3, rfl, hc3, hr3, hb3⟩; have Hb3 := qaa (yaU Hb2.out hb3); have Hr3 := qaa hr3; clear hb3 hz hr3))
  go_ret3
  exact ⟨_, _, rfl, hc3, Hr3.out, Hb3.out⟩
theorem q_enc (s : List UInt8) (h : s.length ≤ 20000) : hencF (qsy s) = (text (hB (qsy s)), 0) := by
 have h1 := yfa s
 have : (hcF (qsy s)).2 = 0 := by
  unfold hcF
  rw [qag (by omega), qah (qsy_in s)]
 unfold hencF
 rw [qah this]
theorem qhd_len (a b c : Int) : (qhd a b c).length ≤ 27 := by
 have h1 := qput_len a
 have h2 := qput_len b
 have h3 := qput_len c
 unfold qhd
 rw [qae, qae]
 omega
theorem q_text_len (s : List UInt8) (h : s.length ≤ 20000) : (text (hB (qsy s))).length ≤ 1000000 := by
 have h1 := yfa s
 have h2 := hB_len (l := qsy s) (by omega)
 rw [yc3]
 omega
theorem q_pack_any (s : List UInt8) (w : World) (hs : s.length ≤ 1000000) :
  Calls prog 13 #[.string ⟨s.toArray⟩] w fun e w' => yaI w w' e (qpF s) := by
 have hf := q_symbols_any s w hs
 unfold QPost at hf
 by_cases hbig : 20000 < s.length
 ·have fin0 : qsF s = ([], 0, 3) := qah hbig
  have fin : qpF s = ([], 3) := qah hbig
  rw [fin0] at hf
  rw [fin]
  dsimp only at hf
  have Hf := qaa hf
  clear hf hbig fin fin0
  go_enter func13, ntmps13
  go_wp2_with (go_at_call 15; (with_reducible refine Hf.out.mono ?_); rintro e w1 ⟨A1, c1, rfl, _, _, hb1⟩; have Hb1 := qaa hb1; clear hb1 Hf)
  go_ret2
  exact ⟨rfl, Hb1.out⟩
 ·have fin0 : qsF s = (qsy s, (bpr s : Int), 0) := qag hbig
  have fin : qpF s = (qB s, 0) := qag hbig
  rw [fin0] at hf
  rw [fin]
  have hq := yfa s
  have hp := bpr_le s
  have he := qaa fun A n c W hm hr => p_hencode_any (qsy s) A n c W hm hr
  rw [q_enc s (by omega)] at he
  have ht := qaa fun W => q_text_any s.length (bpr s) (qsy s).length W (by omega) (by omega) (by omega)
  have hadd := fun W => q_add (qhd s.length (bpr s) (qsy s).length) (text (hB (qsy s))) (by have := qhd_len s.length (bpr s) (qsy s).length; have := q_text_len s (by omega); omega) W
  have hB' : qB s = qhd s.length (bpr s) (qsy s).length ++ text (hB (qsy s)) := rfl
  rw [← hB'] at hadd
  dsimp only at hf he
  have Hf := qaa hf
  unfold yaI
  dsimp only
  clear hf fin fin0 hB'
  generalize qB s = U at *
  generalize text (hB (qsy s)) = X at *
  generalize hQ : (qsy s).length = q at *
  generalize ints (qsy s) = Q at *
  generalize bpr s = P at *
  generalize qhd (s.length : Int) (P : Int) (q : Int) = Y at *
  clear hQ
  go_enter func13, ntmps13
  go_wp2_with (first
   | (go_at_call 15; (with_reducible refine Hf.out.mono ?_); rintro e w1 ⟨A1, c1, rfl, hc1, hr1, hb1⟩; have Hb1 := qaa hb1; have Hr1 := qaa hr1; clear hb1 Hf hr1)
   | (go_at_call 35; (with_reducible refine (he.out _ _ _ _ (by omega) Hr1.out).mono ?_); rintro e w2 ⟨rfl, hb2⟩; have Hb2 := qaa (yaU Hb1.out hb2); clear hb2 he)
   | (go_at_call 36; (with_reducible refine (ht.out _).mono ?_); rintro e w3 ⟨rfl, hb3⟩; have Hb3 := qaa (yaU Hb2.out hb3); clear hb3 ht))
  go_ret2
  exact ⟨rfl, Hb3.out⟩
theorem oReads_on {w w' : World} {size n : Nat} {A : Option Addr} {xs : List Value} (h : Reads w w.heap.size size A n xs) (hb : Below w.heap.size w w') : Reads w' w'.heap.size size A n xs := (h.below hb).more hb.size
theorem o_mode (x : UInt8) (W : World) : (convert 36 9 (.slice (some ⟨W.heap.size, 0, none⟩) 1 1)).run prog (W.alloc (.cells #[.int .u8 (x.toNat : Int)] 5)) = .ok (.string ⟨[x].toArray⟩) (W.alloc (.cells #[.int .u8 (x.toNat : Int)] 5)) :=
 ybO underlying36 underlying5 underlying9 _ _ 1 [x] ((yaB W 5 #[.int .u8 (x.toNat : Int)] 1 1 rfl).more (by rw [qay]; omega))
theorem ohd_pp (a b c d e : Int) : ppB [a, b, c, d, e] = ohd a b c d e := by simp [ppB, ohd]
theorem o_put5 (a b c d e : Int) (W : World) (ha : a < 9223372036854775808) (hb : b < 9223372036854775808) (hc : c < 9223372036854775808) (hd : d < 9223372036854775808) (he : e < 9223372036854775808) (o : Obj) :
  Calls prog 49 #[.slice (some ⟨W.heap.size + 1, 0, none⟩) 5 5] ((W.alloc o).alloc (.cells #[.int .i64 a, .int .i64 b, .int .i64 c, .int .i64 d, .int .i64 e] 3)) fun r w' => r = .returned (.string ⟨(ohd a b c d e).toArray⟩) ∧ Below W.heap.size W w' := by
 have hr := yaB (W.alloc o) 3 #[.int .i64 a, .int .i64 b, .int .i64 c, .int .i64 d, .int .i64 e] 1 5 rfl
 rw [qay] at hr
 refine (p_pput_any [a, b, c, d, e] (some ⟨W.heap.size + 1, 0, none⟩) 5 5 _ rfl (by decide) (hr.more (by simp only [qay]; omega)) (by
  intro x hx
  simp only [qaB, List.not_mem_nil, or_false] at hx
  omega)).mono fun r w' h => ⟨by rw [h.1, ohd_pp], (((qam _ _).alloc (qaf _) o).alloc (by rw [qay]; omega) _).trans (h.2.mono (by simp only [qay]; omega))⟩
theorem ohd_len45 (a b c d e : Int) : (ohd a b c d e).length ≤ 45 := by
 have h1 := ycz a
 have h2 := ycz b
 have h3 := ycz c
 have h4 := ycz d
 have h5 := ycz e
 rw [ohd_len]
 omega
section
variable (l : List Rc) (A : Option Addr) (n c : Nat) (w : World) (hl : l.length = n) (hn : n ≤ 1000000) (hr : Reads w w.heap.size 3 A n (rcs l))
include hl hn hr
theorem oenc_few (h0 : l.length = 0) : Calls prog 22 #[.slice A n c] w fun e w' => yaI w w' e (yaj l) := by
 have fin : yaj l = ([], 2) := qah h0
 unfold yaI
 rw [fin]
 dsimp only
 obtain rfl : n = 0 := by omega
 clear fin hr hn hl h0
 go_enter func22, ntmps22
 go_wp2
 go_ret2
 exact ⟨rfl, qam _ _⟩
theorem oenc_bad (h0 : l.length ≠ 0) (hE : (yas l).2 ≠ 0) : Calls prog 22 #[.slice A n c] w fun e w' => yaI w w' e (yaj l) := by
 have fin : yaj l = ([], (yas l).2) := by unfold yaj; rw [qag h0, qah hE]
 have Hj := qaa (ycx l A n c w hl hn hr)
 have hn0 : ¬ (n : Int) = 0 := by omega
 have hn1 : ¬ n = 0 := by omega
 unfold yaI
 rw [fin]
 dsimp only
 clear fin hr hl h0
 generalize (yas l).1 = X at *
 generalize (yas l).2 = E at *
 go_enter func22, ntmps22
 go_wp2_with (go_at_call 26; (with_reducible refine Hj.out.mono ?_); rintro e w1 ⟨rfl, hb1⟩; have HW := qaa hb1; clear hb1)
 go_ret2
 exact ⟨rfl, HW.out⟩
theorem oenc_pack (h0 : l.length ≠ 0) (hE : (yas l).2 = 0) (hp : opk (rjB l) = true) : Calls prog 22 #[.slice A n c] w fun e w' => yaI w w' e (yaj l) := by
 obtain ⟨j1, j2, j3, j4, j5, j6, j7, j8, j9⟩ := yfw h0 hE
 have fin : yaj l = (oB l, 0) := by unfold yaj; rw [qag h0, qag (by rw [hE]; decide)]
 have hj := ycx l A n c w hl hn hr
 rw [j1] at hj
 have hq := fun W => q_pack_any (rjB l) W (by omega)
 unfold yaI at hq
 rw [show qpF (rjB l) = (qB (rjB l), 0) from qag (by omega)] at hq
 have hlt : (qB (rjB l)).length < (rjB l).length := qbo hp
 have hme := fun W (hb : Below w.heap.size w W) => yc6 l A n c ((rjB l).length : Int) W hl hn (by omega) (oReads_on hr hb)
 have hp5 := fun W o => o_put5 ((rjB l).length : Int) (n : Int) (yad l).1 (yad l).2.1 ((ya9 l).2.1 - (yad l).2.1) W (by omega) (by omega) (by omega) (by omega) (by omega) o
 have hsub : IntKind.i64.wrap ((ya9 l).2.1 - (yad l).2.1) = (ya9 l).2.1 - (yad l).2.1 := by rw [qai]; omega
 have hlen := ohd_len45 ((rjB l).length : Int) (n : Int) (yad l).1 (yad l).2.1 ((ya9 l).2.1 - (yad l).2.1)
 have hB : oB l = [1] ++ ohd ((rjB l).length : Int) (n : Int) (yad l).1 (yad l).2.1 ((ya9 l).2.1 - (yad l).2.1) ++ qB (rjB l) := by
  unfold oB ohL omode ygw
  rw [qah hp, qah hp, hl]
  rfl
 have hmode := o_mode 1
 have hadd1 := fun W => q_add [1] (ohd ((rjB l).length : Int) (n : Int) (yad l).1 (yad l).2.1 ((ya9 l).2.1 - (yad l).2.1)) (by simp only [qbA]; omega) W
 have hadd2 := fun W => q_add ([1] ++ ohd ((rjB l).length : Int) (n : Int) (yad l).1 (yad l).2.1 ((ya9 l).2.1 - (yad l).2.1)) (qB (rjB l)) (by simp only [qae, qbA]; have := hlt; omega) W
 rw [← hB] at hadd2
 have hn0 : ¬ (n : Int) = 0 := by omega
 have hn1 : ¬ n = 0 := by omega
 unfold yaI
 rw [fin]
 dsimp only at hj hq ⊢
 have Hj := qaa hj
 have Hq := qaa hq
 have Hme := qaa hme
 have Hp5 := qaa hp5
 have Hln : Hid ((rjB l).length ≤ 20000) := qaa j2
 have hlti : ((qB (rjB l)).length : Int) < ((rjB l).length : Int) := by omega
 clear fin hr hl h0 hE hp j1 j2 j3 j4 j5 j6 j7 j8 j9 hj hq hme hp5 hlen hB
 have m0 : ((1 : UInt8).toNat : Int) = 1 := rfl
 simp only [m0] at hmode
 generalize oB l = F at *
 generalize [1] ++ ohd ((rjB l).length : Int) (n : Int) (yad l).1 (yad l).2.1 ((ya9 l).2.1 - (yad l).2.1) = G at *
 generalize ohd ((rjB l).length : Int) (n : Int) (yad l).1 (yad l).2.1 ((ya9 l).2.1 - (yad l).2.1) = H at *
 generalize (yad l).1 = f1 at *
 generalize (yad l).2.1 = f2 at *
 generalize (ya9 l).2.1 = f3 at *
 generalize rjB l = R at *
 generalize qB R = Q at *
 go_enter func22, ntmps22
 go_wp2_with (first
  | (go_at_call 26; (with_reducible refine Hj.out.mono ?_); rintro e w1 ⟨rfl, hb1⟩; have HW := qaa hb1; clear hb1)
  | (go_at_call 13; (with_reducible refine (Hq.out _).mono ?_); rintro e w2 ⟨rfl, hb2⟩; replace HW := qaa (HW.out.trans (hb2.mono HW.out.size)); clear hb2)
  | (go_at_call 48; (with_reducible refine (Hme.out _ HW.out).mono ?_); rintro e w3 ⟨rfl, hb3⟩; replace HW := qaa (HW.out.trans (hb3.mono HW.out.size)); clear hb3)
  | (go_at_call 49; (with_reducible refine (Hp5.out _ _).mono ?_); rintro e w4 ⟨rfl, hb4⟩; replace HW := qaa (HW.out.trans (hb4.mono HW.out.size)); clear hb4))
 go_ret2
 exact ⟨rfl, HW.out.alloc HW.out.size _⟩
theorem oenc_plain (h0 : l.length ≠ 0) (hE : (yas l).2 = 0) (hp : opk (rjB l) = false) : Calls prog 22 #[.slice A n c] w fun e w' => yaI w w' e (yaj l) := by
 obtain ⟨j1, j2, j3, j4, j5, j6, j7, j8, j9⟩ := yfw h0 hE
 have fin : yaj l = (oB l, 0) := by unfold yaj; rw [qag h0, qag (by rw [hE]; decide)]
 have hj := ycx l A n c w hl hn hr
 rw [j1] at hj
 have hq := fun W => q_pack_any (rjB l) W (by omega)
 unfold yaI at hq
 rw [show qpF (rjB l) = (qB (rjB l), 0) from qag (by omega)] at hq
 have hlt : ¬ (qB (rjB l)).length < (rjB l).length := of_decide_eq_false hp
 have hme := fun W (hb : Below w.heap.size w W) => yc6 l A n c ((rjB l).length : Int) W hl hn (by omega) (oReads_on hr hb)
 have hp5 := fun W o => o_put5 ((rjB l).length : Int) (n : Int) (yad l).1 (yad l).2.1 ((ya9 l).2.1 - (yad l).2.1) W (by omega) (by omega) (by omega) (by omega) (by omega) o
 have hsub : IntKind.i64.wrap ((ya9 l).2.1 - (yad l).2.1) = (ya9 l).2.1 - (yad l).2.1 := by rw [qai]; omega
 have hlen := ohd_len45 ((rjB l).length : Int) (n : Int) (yad l).1 (yad l).2.1 ((ya9 l).2.1 - (yad l).2.1)
 have hB : oB l = [0] ++ ohd ((rjB l).length : Int) (n : Int) (yad l).1 (yad l).2.1 ((ya9 l).2.1 - (yad l).2.1) ++ rjB l := by
  unfold oB ohL omode ygw
  rw [qag (by rw [hp]; decide), qag (by rw [hp]; decide), hl]
  rfl
 have hmode := o_mode 0
 have hadd1 := fun W => q_add [0] (ohd ((rjB l).length : Int) (n : Int) (yad l).1 (yad l).2.1 ((ya9 l).2.1 - (yad l).2.1)) (by simp only [qbA]; omega) W
 have hadd2 := fun W => q_add ([0] ++ ohd ((rjB l).length : Int) (n : Int) (yad l).1 (yad l).2.1 ((ya9 l).2.1 - (yad l).2.1)) (rjB l) (by simp only [qae, qbA]; omega) W
 rw [← hB] at hadd2
 have hn0 : ¬ (n : Int) = 0 := by omega
 have hn1 : ¬ n = 0 := by omega
 unfold yaI
 rw [fin]
 dsimp only at hj hq ⊢
 have Hj := qaa hj
 have Hq := qaa hq
 have Hme := qaa hme
 have Hp5 := qaa hp5
 have Hln : Hid ((rjB l).length ≤ 20000) := qaa j2
 have hlti : ¬ ((qB (rjB l)).length : Int) < ((rjB l).length : Int) := by omega
 clear fin hr hl h0 hE hp j1 j2 j3 j4 j5 j6 j7 j8 j9 hj hq hme hp5 hlen hB
 have m0 : ((0 : UInt8).toNat : Int) = 0 := rfl
 simp only [m0] at hmode
 generalize oB l = F at *
 generalize [0] ++ ohd ((rjB l).length : Int) (n : Int) (yad l).1 (yad l).2.1 ((ya9 l).2.1 - (yad l).2.1) = G at *
 generalize ohd ((rjB l).length : Int) (n : Int) (yad l).1 (yad l).2.1 ((ya9 l).2.1 - (yad l).2.1) = H at *
 generalize (yad l).1 = f1 at *
 generalize (yad l).2.1 = f2 at *
 generalize (ya9 l).2.1 = f3 at *
 generalize rjB l = R at *
 generalize qB R = Q at *
 go_enter func22, ntmps22
 go_wp2_with (first
  | (go_at_call 26; (with_reducible refine Hj.out.mono ?_); rintro e w1 ⟨rfl, hb1⟩; have HW := qaa hb1; clear hb1)
  | (go_at_call 13; (with_reducible refine (Hq.out _).mono ?_); rintro e w2 ⟨rfl, hb2⟩; replace HW := qaa (HW.out.trans (hb2.mono HW.out.size)); clear hb2)
  | (go_at_call 48; (with_reducible refine (Hme.out _ HW.out).mono ?_); rintro e w3 ⟨rfl, hb3⟩; replace HW := qaa (HW.out.trans (hb3.mono HW.out.size)); clear hb3)
  | (go_at_call 49; (with_reducible refine (Hp5.out _ _).mono ?_); rintro e w4 ⟨rfl, hb4⟩; replace HW := qaa (HW.out.trans (hb4.mono HW.out.size)); clear hb4))
 go_ret2
 exact ⟨rfl, HW.out.alloc HW.out.size _⟩
theorem yal : Calls prog 22 #[.slice A n c] w fun e w' => yaI w w' e (yaj l) := by
 by_cases h0 : l.length = 0
 ·exact oenc_few l A n c w hl hn hr h0
 by_cases hE : (yas l).2 = 0
 ·cases hp : opk (rjB l) with
  | true => exact oenc_pack l A n c w hl hn hr h0 hE hp
  | false => exact oenc_plain l A n c w hl hn hr h0 hE hp
 ·exact oenc_bad l A n c w hl hn hr h0 hE
end
theorem q_good (l : List Int) (k : Int) (h : (zunF l k).2 = 0) : ydc (zunF l k).1 = (bys row0 (zunF l k).1, 0) := by
 have hg : ya5 255 (zunF l k).1 = true := by
  unfold zunF at h ⊢
  by_cases hg : ya5 256 l = true
  ·rw [qah hg] at h ⊢
   by_cases hc : (yaW l : Int) > k ∨ (yaW l : Int) > 100000
   ·rw [qah hc] at h
    cases h
   ·rw [qag hc]
    exact zun_good l [] hg
  ·rw [qag hg] at h
   cases h
 unfold ydc
 exact qah hg
theorem q_totext_any (l : List Int) (A : Option Addr) (n c : Nat) (r k : Int) (w : World) (hm : n ≤ 1000000) (hc : n ≤ c) (hr : Reads w w.heap.size 1 A n (ints l)) :
  Calls prog 47 #[.slice A n c, .int .i64 r, .int .i64 k] w fun e w' => yaI w w' e (qtF l r k) := by
 unfold yaI
 by_cases h1 : k < 0
 ·have fin : qtF l r k = ([], 2) := qah (qas h1)
  rw [fin]
  clear fin hr hm hc
  go_enter func47, ntmps47
  go_wp2
  go_ret2
  exact ⟨rfl, qam _ _⟩
 by_cases h2 : 20000 < k
 ·have fin : qtF l r k = ([], 2) := qah (qaK h2)
  rw [fin]
  clear fin hr hm hc
  go_enter func47, ntmps47
  go_wp2
  go_ret2
  exact ⟨rfl, qam _ _⟩
 have hu := zr_unpack_any l k A n c w hm hc hr
 by_cases h3 : (zunF l k).2 ≠ 0
 ·have fin : qtF l r k = ([], (zunF l k).2) := by unfold qtF; rw [qag (by omega), qah h3]
  rw [fin]
  have Hu := qaa hu
  clear fin hr hu hm hc
  generalize (zunF l k).2 = E at *
  generalize (zunF l k).1 = Z at *
  go_enter func47, ntmps47
  go_wp2_with (go_at_call 91; (with_reducible refine Hu.out.mono ?_); rintro e w1 ⟨A1, c1, rfl, _, _, hb1⟩; have Hb1 := qaa hb1; clear hb1 Hu)
  go_ret2
  exact ⟨rfl, Hb1.out⟩
 have e3 : (zunF l k).2 = 0 := by omega
 rw [e3] at hu
 by_cases h4 : ((zunF l k).1.length : Int) ≠ k
 ·have fin : qtF l r k = ([], 5) := by unfold qtF; rw [qag (by omega), qag h3, qah h4]
  rw [fin]
  have Hu := qaa hu
  clear fin hr hu hm hc h3 e3
  generalize hZ : (zunF l k).1.length = z at *
  generalize ints (zunF l k).1 = Z at *
  have hb : (((z : Int)) == k) = false := by rw [qbx]; exact h4
  clear hZ
  go_enter func47, ntmps47
  go_wp2_with (go_at_call 91; (with_reducible refine Hu.out.mono ?_); rintro e w1 ⟨A1, c1, rfl, _, _, hb1⟩; have Hb1 := qaa hb1; clear hb1 Hu)
  go_ret2
  exact ⟨rfl, Hb1.out⟩
 have e4 : ((zunF l k).1.length : Int) = k := by omega
 have fin : qtF l r k = biF (bys row0 (zunF l k).1) r := by unfold qtF; rw [qag (by omega), qag h3, qag h4]
 rw [fin]
 have hz : (zunF l k).1.length ≤ 20000 := by omega
 have ht := qaa fun A n c W hn hr => fr_text_any A n c (zunF l k).1 W hn hr
 rw [q_good l k e3] at ht
 have hi := qaa fun W => p_binverse_any (bys row0 (zunF l k).1) r W (by rw [bys_len]; omega)
 unfold yaI at hi
 have Hu := qaa hu
 dsimp only at ht
 clear fin hr hu hm hc h3 h4 e3
 generalize biF (bys row0 (zunF l k).1) r = B at *
 generalize bys row0 (zunF l k).1 = T at *
 generalize hZ : (zunF l k).1.length = z at *
 generalize ints (zunF l k).1 = Z at *
 have hb : (((z : Int)) == k) = true := by rw [beq_iff_eq]; exact e4
 clear hZ
 go_enter func47, ntmps47
 go_wp2_with (first
  | (go_at_call 91; (with_reducible refine Hu.out.mono ?_); rintro e w1 ⟨A1, c1, rfl, _, hr1, hb1⟩; have Hb1 := qaa hb1; have Hr1 := qaa hr1; clear hb1 hr1 Hu)
  | (go_at_call 92; (with_reducible refine (ht.out _ _ _ _ (by omega) Hr1.out).mono ?_); rintro e w2 ⟨rfl, hb2⟩; have Hb2 := qaa (yaU Hb1.out hb2); clear hb2 ht)
  | (go_at_call 93; (with_reducible refine (hi.out _).mono ?_); rintro e w3 ⟨rfl, hb3⟩; have Hb3 := qaa (yaU Hb2.out hb3); clear hb3 hi))
 go_ret2
 exact ⟨rfl, Hb3.out⟩
theorem q_cunp_len (ws : List (Int × Int)) (L : List Nat) : ∀ (n p : Nat) (acc : List Int), (cunp ws L n p acc).1.length ≤ acc.length + n
 | 0, p, acc => qaf _
 | n + 1, p, acc => by
  rw [ycQ]
  split
  ·have := q_cunp_len ws L n (p + (ybk ws L p).2.1.toNat) (acc ++ [(ybk ws L p).1])
   rw [qae, qbA] at this
   omega
  ·exact Nat.le_add_right _ _
theorem q_dec_len (s : List UInt8) (k : Int) : (yci s k).1.length ≤ 100000 := by
 unfold yci
 by_cases h : k < 0 ∨ 100000 < k
 ·rw [qah h]; exact qbE _
 rw [qag h]
 unfold hdec1
 by_cases h2 : (yb8 (yaf s) 0 257).2.2 ≠ 0
 ·rw [qah h2]; exact qbE _
 rw [qag h2]
 unfold hdec2
 have := q_cunp_len (wat ((yb8 (yaf s) 0 257).1.map Int.toNat) 16 0) (yaf s) k.toNat (yb8 (yaf s) 0 257).2.1 []
 rw [List.length_nil] at this
 by_cases h3 : (cunp (wat ((yb8 (yaf s) 0 257).1.map Int.toNat) 16 0) (yaf s) k.toNat (yb8 (yaf s) 0 257).2.1 []).2.2 ≠ 0
 ·rw [qah h3]; exact qbE _
 rw [qag h3]
 by_cases h4 : ygX (yaf s) (cunp (wat ((yb8 (yaf s) 0 257).1.map Int.toNat) 16 0) (yaf s) k.toNat (yb8 (yaf s) 0 257).2.1 []).2.1 = true
 ·rw [qah h4]
  dsimp only
  omega
 ·rw [qag h4]; exact qbE _
theorem q_unpack_any (b : List UInt8) (w : World) (hs : b.length ≤ 1000000) :
  Calls prog 18 #[.string ⟨b.toArray⟩] w fun e w' => yaI w w' e (quF b) := by
 unfold yaI
 by_cases h1 : (ybl b).2.2 ≠ 0
 ·have fin : quF b = ([], (ybl b).2.2) := qah h1
  have Hc := qaa fun W => q_cut_no b W (by omega) (ybl b).2.2 h1 rfl
  rw [fin]
  clear fin
  generalize (ybl b).2.2 = E at *
  go_enter func18, ntmps18
  go_wp2_with (go_at_call 45; (with_reducible refine (Hc.out _).mono ?_); rintro e w1 ⟨rfl, hb1⟩; have Hb1 := qaa hb1; clear hb1 Hc)
  go_ret2
  exact ⟨rfl, Hb1.out.alloc Hb1.out.size _⟩
 obtain ⟨n, p, k, q, hq⟩ : ∃ n p k q, ybl b = ((n, p, k), q, 0) := ⟨(ybl b).1.1, (ybl b).1.2.1, (ybl b).1.2.2, (ybl b).2.1, by
  have e : (ybl b).2.2 = 0 := by omega
  rw [← e]⟩
 have fin : quF b = qu2 n p k (b.drop q.toNat) := by
  unfold quF
  rw [qag h1, hq]
 rw [fin]
 have Hc := qaa fun W => q_cut_yes b W (by omega) n p k q hq
 have hR : (b.drop q.toNat).length ≤ 1000000 := by rw [qat]; omega
 clear fin h1 hq
 generalize b.drop q.toNat = R at *
 unfold qu2
 by_cases h2 : 20000 < n
 ·rw [qah (qas h2)]
  go_enter func18, ntmps18
  go_wp2_with (go_at_call 45; (with_reducible refine (Hc.out _).mono ?_); rintro e w1 ⟨rfl, hb1⟩; have Hb1 := qaa hb1; clear hb1 Hc; have c0 := (Blk.new w1 62 #[.int .i64 n, .int .i64 p, .int .i64 k]).cell 0; have c1 := (Blk.new w1 62 #[.int .i64 n, .int .i64 p, .int .i64 k]).cell 1; have c2 := (Blk.new w1 62 #[.int .i64 n, .int .i64 p, .int .i64 k]).cell 2)
  go_ret2
  exact ⟨rfl, Hb1.out.alloc Hb1.out.size _⟩
 by_cases h3 : n < k
 ·rw [qah (qaK h3)]
  go_enter func18, ntmps18
  go_wp2_with (go_at_call 45; (with_reducible refine (Hc.out _).mono ?_); rintro e w1 ⟨rfl, hb1⟩; have Hb1 := qaa hb1; clear hb1 Hc)
  go_ret2
  exact ⟨rfl, Hb1.out.alloc Hb1.out.size _⟩
 rw [qag (by omega)]
 have hd := qaa fun W => p_hdecode_any R k W (by omega)
 unfold HCPost at hd
 have hdl := q_dec_len R k
 have Ht := qaa fun A m c W hm hc hr => q_totext_any (yci R k).1 A m c p n W hm hc hr
 unfold yaI at Ht
 by_cases h4 : (yci R k).2 ≠ 0
 ·rw [qah h4]
  clear hdl Ht
  generalize (yci R k).2 = E at *
  generalize (yci R k).1 = Z at *
  go_enter func18, ntmps18
  go_wp2_with (first
   | (go_at_call 45; (with_reducible refine (Hc.out _).mono ?_); rintro e w1 ⟨rfl, hb1⟩; have Hb1 := qaa (hb1.alloc hb1.size (.cells #[.int .i64 n, .int .i64 p, .int .i64 k] 62)); clear hb1 Hc)
   | (go_at_call 46; (with_reducible refine (hd.out _).mono ?_); rintro e w2 ⟨A2, c2, rfl, _, _, hb2⟩; have Hb2 := qaa (yaU Hb1.out hb2); clear hb2 hd))
  go_ret2
  exact ⟨rfl, Hb2.out⟩
 rw [qag h4]
 have e4 : (yci R k).2 = 0 := by omega
 rw [e4] at hd
 clear h4 e4
 generalize qtF (yci R k).1 p n = T at *
 generalize hZ : (yci R k).1.length = z at *
 generalize ints (yci R k).1 = Z at *
 clear hZ
 go_enter func18, ntmps18
 go_wp2_with (first
  | (go_at_call 45; (with_reducible refine (Hc.out _).mono ?_); rintro e w1 ⟨rfl, hb1⟩; have Hb1 := qaa (hb1.alloc hb1.size (.cells #[.int .i64 n, .int .i64 p, .int .i64 k] 62)); have hB1 := Blk.new w1 62 #[.int .i64 n, .int .i64 p, .int .i64 k]; clear hb1 Hc)
  | (go_at_call 46; (with_reducible refine (hd.out _).mono ?_); rintro e w2 ⟨A2, c2, rfl, hc2, hr2, hb2⟩; have Hb2 := qaa (yaU Hb1.out hb2); have Hr2 := qaa hr2; have hB2 := hB1.below hb2 hB1.lt; have y0 : w2.cell? ⟨w1.heap.size, 0, none⟩ = some (.int .i64 n) := hB2.cell 0; have y1 : w2.cell? ⟨w1.heap.size, 1, none⟩ = some (.int .i64 p) := hB2.cell 1; clear hb2 hd hr2 hB1 hB2)
  | (go_at_call 47; (with_reducible refine (Ht.out _ _ _ _ (by omega) hc2 Hr2.out).mono ?_); rintro e w3 ⟨rfl, hb3⟩; have Hb3 := qaa (yaU Hb2.out hb3); clear hb3 Ht))
 go_ret2
 exact ⟨rfl, Hb3.out⟩
theorem ybf (s : List UInt8) (w : World) (hs : s.length ≤ 1000000) :
  Calls prog 24 #[.string ⟨s.toArray⟩] w fun e w' => yaP w w' e (yak s) :=
 p_bdec_of s w hs fun _ W => q_unpack_any _ W (by rw [qat]; omega)
section
variable {P : Program}
theorem orun_index (w : World) (t e : TypeId) (n : Nat) (ht : P.underlying t = some (.array n e)) (he : P.underlying e = some .string) (hsz : ∀ w, (sizeOf e).run P w = .ok 1 w) (C : List Value) (k : Nat) (hk : k < n) (x : ByteArray) (hx : C[k]? = some (.string x)) :
  (Instr.index t (.agg C.toArray) (.int .i64 (k : Int))).run P w = .ok (.string x) w := by
 have hn : 0 ≤ (k : Int) ∧ (k : Int) < (n : Int) := by omega
 simp [Instr.index, qbe ht, asIntOf, hn, hsz, part, isAgg, qbe he, hx, go_sem]
 intro h
 omega
end
def onth (a b : List UInt8) : Nat → List UInt8
 | 0 => a
 | _ => b
def oacc (a b : List UInt8) : Nat → List Rc
 | 0 => []
 | k + 1 => oacc a b k ++ (yak (onth a b k)).1
theorem onth_index (a b : List UInt8) (k : Nat) (hk : k < 2) (w : World) : (Instr.index 95 (.agg #[.string ⟨a.toArray⟩, .string ⟨b.toArray⟩]) (.int .i64 (k : Int))).run prog w = .ok (.string ⟨(onth a b k).toArray⟩) w := by
 refine orun_index (P := prog) w 95 9 2 (by kernel_rfl) (by kernel_rfl) (fun w => by simp [go_sem]) [.string ⟨a.toArray⟩, .string ⟨b.toArray⟩] k hk _ ?_
 match k, hk with
 | 0, _ => rfl
 | 1, _ => rfl
theorem yf1 {s : List UInt8} (h : (yak s).2 = 0) : (yak s).1.length ≤ 20000 := by
 obtain ⟨h1, h2⟩ := oagain h
 have h3 := yfw h1 (yeO h2).2.1
 omega
theorem ormany : ∀ (l : List Rc), ∀ u ∈ rcs l, u.oneCell' = true
 | [], u, hu => by cases hu
 | r :: l, u, hu => by
  rw [yfA] at hu
  simp only [qaB] at hu
  rcases hu with rfl | rfl | rfl | hu
  ·rfl
  ·rfl
  ·rfl
  ·exact ormany l u hu
structure OMI (w wr : World) (v : Value) (L : List Rc) : Prop where
 own : wr.ownsRow w.heap.size 54 3 v L.length (rcs L)
 below : Below w.heap.size w wr
theorem OMI.on {w w1 w2 : World} {v : Value} {L : List Rc} (h : OMI w w1 v L) (hb : Below w1.heap.size w1 w2) : OMI w w2 v L :=
 ⟨yah h.own hb (qaf _), h.below.trans (hb.mono h.below.size)⟩
theorem OMI.add {w w1 w2 : World} {v v' : Value} {L M : List Rc} (h : OMI w w1 v L) (ho : w2.ownsRow w.heap.size 54 3 v' (L.length + M.length) (rcs L ++ rcs M)) (hg : w1.grownBy w2 v.ownBlock) : OMI w w2 v' (L ++ M) :=
 ⟨by rw [qae, rcs_app]; exact ho, h.below.grown hg h.below.size fun b hb => (h.own.lt b hb).1⟩
theorem ydF (a b : List UInt8) (w : World) (ha : ∀ W, Calls prog 24 #[.string ⟨a.toArray⟩] W fun e w' => yaP W w' e (yak a)) (hb : ∀ W, Calls prog 24 #[.string ⟨b.toArray⟩] W fun e w' => yaP W w' e (yak b)) :
  Calls prog 34 #[.string ⟨a.toArray⟩, .string ⟨b.toArray⟩] w fun e w' => yaI w w' e (yca a b) := by
 obtain ⟨i0, hi, hz0, hz1, hz9⟩ := qb4 ydm
 have Hd : Hid (∀ k, k < 2 → ∀ W, Calls prog 24 #[.string ⟨(onth a b k).toArray⟩] W fun e w' => yaP W w' e (yak (onth a b k))) := qaa fun k hk => by
  match k, hk with
  | 0, _ => exact ha
  | 1, _ => exact hb
 have Hix := qaa fun k h W => onth_index a b k h W
 have Hlen : Hid (∀ k, k ≤ 2 → (∀ j, j < k → (yak (onth a b j)).2 = 0) → (oacc a b k).length ≤ 20000 * k) := qaa fun k hk h => by
  match k, hk with
  | 0, _ => exact qaf _
  | 1, _ =>
   have := yf1 (h 0 (by omega))
   show ([] ++ (yak (onth a b 0)).1).length ≤ _
   rw [qaS]
   omega
  | 2, _ =>
   have h1 := yf1 (h 0 (by omega))
   have h2 := yf1 (h 1 (by omega))
   show (([] ++ (yak (onth a b 0)).1) ++ (yak (onth a b 1)).1).length ≤ _
   rw [qaS, qae]
   omega
 have Hbad : Hid (∀ k, k < 2 → (∀ j, j < k → (yak (onth a b j)).2 = 0) → (yak (onth a b k)).2 ≠ 0 → yca a b = ([], (yak (onth a b k)).2)) := qaa fun k hk h hE => by
  match k, hk with
  | 0, _ => exact qah hE
  | 1, _ =>
   have h0 : (yak a).2 = 0 := h 0 (by omega)
   unfold yca
   rw [qag (by rw [h0]; decide)]
   exact qah hE
 have Hok : Hid ((∀ j, j < 2 → (yak (onth a b j)).2 = 0) → yca a b = yaj (oacc a b 2)) := qaa fun h => by
  have h0 : (yak a).2 = 0 := h 0 (by omega)
  have h1 : (yak b).2 = 0 := h 1 (by omega)
  unfold yca
  rw [qag (by rw [h0]; decide), qag (by rw [h1]; decide)]
  rfl
 have H0 : Hid (OMI w w (.slice none 0 0) []) := qaa ⟨qbS _ _ _ _, qam _ _⟩
 unfold yaI
 clear ha hb
 generalize yca a b = F at *
 go_enter func34, ntmps34
 go_wp2
 go_loopw [6, 14] (fun o i wr => ∃ k : Nat, k ≤ 2 ∧ i = .int .i64 (k : Int) ∧ Hid (OMI w wr o (oacc a b k)) ∧ Hid (∀ j, j < k → (yak (onth a b j)).2 = 0)) (fun _ i _ => 2 - (intOf i).toNat)
 case atStart => exact ⟨0, by omega, rfl, H0, qaa fun j hj => absurd hj (Nat.not_lt_zero j)⟩
 case round =>
  obtain ⟨k, hk, rfl, HI, HE⟩ := hrel
  by_cases hlt : k < 2
  ·have hix := Hix.out k hlt
   have hki : (k : Int) < 2 := by omega
   have hd := Hd.out k hlt
   unfold yaP at hd
   by_cases hE : (yak (onth a b k)).2 = 0
   ·rw [hE] at hd
    have HE2 : Hid (∀ j, j < k + 1 → (yak (onth a b j)).2 = 0) := qaa fun j hj => by
     by_cases e : j = k
     ·rw [e]; exact hE
     ·exact HE.out j (by omega)
    have Hnx : Hid (oacc a b (k + 1) = oacc a b k ++ (yak (onth a b k)).1) := qaa rfl
    have l1 := yf1 hE
    have l2 := Hlen.out k hk HE.out
    have Hl : Hid ((oacc a b k).length + (yak (onth a b k)).1.length ≤ 60000) := qaa (by omega)
    have hd := qaa hd
    clear hE l1 l2 Hbad Hok Hix Hd Hlen
    generalize (yak (onth a b k)).1 = M at *
    generalize onth a b k = s at *
    go_wp2_with (first
     | (go_at_call 24; (with_reducible refine (hd.out _).mono ?_); rintro e w3 ⟨A3, c3, rfl, hc3, hr3, hb3⟩; have HI3 := qaa (HI.out.on hb3); have HR3 := qaa hr3; clear hb3 hr3)
     | (refine yeD _ rfl _ _ 38 rfl w.heap.size 54 i0 (.agg #[.int .i64 0, .int .i64 0, .string ⟨#[]⟩]) 3 32 underlying38 hi hz0 hz1 hz9 rfl (by decide) _ _ _ rfl HI3.out.own A3 _ c3 _ _ rfl HR3.out (ormany M) ?c1 ?c2 HI3.out.below.size ?_))
    case c1 => have := Hl.out; unfold maxLen; omega
    case c2 => have := Hl.out; omega
    ·intro v' w4 ho4 hg4
     have HI4 := qaa (HI3.out.add ho4 hg4)
     clear ho4 hg4
     go_wp2
     go_roundw
     case rel => exact ⟨k + 1, by omega, iv (by omega), qaa (by rw [Hnx.out]; exact HI4.out), HE2⟩
     case measure => simp only [intOf]; omega
   ·have HF := qaa (Hbad.out k hlt HE.out hE)
    have hd := qaa hd
    clear Hbad Hok Hix Hd Hlen HE
    generalize (yak (onth a b k)).1 = M at *
    generalize (yak (onth a b k)).2 = E at *
    generalize onth a b k = s at *
    go_wp2_with (go_at_call 24; (with_reducible refine (hd.out _).mono ?_); rintro e w3 ⟨A3, c3, rfl, hc3, hr3, hb3⟩; have HI3 := qaa (HI.out.on hb3); clear hb3 hr3)
    go_ret2
    exact ⟨by rw [HF.out]; rfl, HI3.out.below⟩
  ·obtain rfl : k = 2 := by omega
   have HF := qaa (Hok.out HE.out)
   have l2 := Hlen.out 2 (qaf _) HE.out
   obtain ⟨A2, cc2, hv2, hc2, hr2⟩ := yag HI.out.own
   have henc := yal (oacc a b 2) A2 (oacc a b 2).length cc2 wr rfl (by omega) hr2
   unfold yaI at henc
   have He := qaa henc
   subst hv2
   clear hr2 hc2 henc l2 Hbad Hok Hix Hd Hlen HE
   generalize (oacc a b 2).length = q at *
   generalize (yaj (oacc a b 2)) = G at *
   go_wp2_with (go_at_call 22; (with_reducible refine He.out.mono ?_); rintro e w3 ⟨rfl, hb3⟩; have HW := qaa (HI.out.below.trans (hb3.mono HI.out.below.size)); clear hb3)
   go_ret2
   exact ⟨by rw [HF.out]; rfl, HW.out⟩
theorem oaw_last : ybq [1, 172, 2, 2, 104, 105] = [105, 172, 2, 2, 104, 1] := by decide +kernel
theorem oaw_rks : rks row0 [105, 172, 2, 2, 104, 1] = [105, 172, 4, 0, 106, 5] := by decide +kernel
theorem oaw_sy : qsy [1, 172, 2, 2, 104, 105] = [106, 173, 5, 0, 107, 6] := by
 unfold qsy
 rw [oaw_last, oaw_rks, ydj _ _ (by decide), ydj _ _ (by decide), ydj _ _ (by decide), show ([0, 106, 5] : List Int) = [0] ++ [106, 5] from rfl, zpk_run 0 [0] _ (by simp), zpk_end _ _ (by simp), ydj _ _ (by decide), ydj _ _ (by decide)]
 show _ :: _ :: _ :: (zd 1 ++ _ :: _ :: zd 0) = _
 have h : zd 1 = [0] := by rw [zd_pos 1 (by decide), show (1 - 1) / 2 = 0 from rfl, yb5]; rfl
 rw [h, yb5]
 rfl
theorem oaw_bits : 17 ≤ (hB [106, 173, 5, 0, 107, 6]).length := by decide +kernel
theorem oaw_big : ¬ (qB [1, 172, 2, 2, 104, 105]).length < 6 := by
 have h1 := qput_pos ([1, 172, 2, 2, 104, 105] : List UInt8).length
 have h2 := qput_pos (bpr [1, 172, 2, 2, 104, 105])
 have h3 := qput_pos (qsy [1, 172, 2, 2, 104, 105]).length
 have h4 := oaw_bits
 rw [← oaw_sy] at h4
 unfold qB qhd
 rw [qae, qae, qae, yc3]
 omega
theorem oaw_pk : opk [1, 172, 2, 2, 104, 105] = false := by
 unfold opk
 exact qbv oaw_big
theorem oaw_jB : rjB [(1, 300, [104, 105])] = [1, 172, 2, 2, 104, 105] := by decide +kernel
theorem ygc : yaj [(1, 300, [104, 105])] = ([0, 6, 1, 1, 172, 2, 0, 1, 172, 2, 2, 104, 105], 0) := by
 have h1 : yas [(1, 300, [104, 105])] = ([1, 172, 2, 2, 104, 105], 0) := by decide +kernel
 unfold yaj
 rw [qag (by decide), h1, qag (by decide)]
 unfold oB ohL ygw omode
 rw [oaw_jB, oaw_pk]
 decide +kernel
theorem oaw_peek : yaw [0, 6, 1, 1, 172, 2, 0, 1, 172, 2, 2, 104, 105] = ((6, 1, 1, 300, 300), 0) := by
 have := (oback (l := [(1, 300, [104, 105])]) (by rw [ygc])).1
 rw [ygc, oaw_jB] at this
 exact this
theorem oaw_dec : yak [0, 6, 1, 1, 172, 2, 0, 1, 172, 2, 2, 104, 105] = ([(1, 300, [104, 105])], 0) := by
 have := (oback (l := [(1, 300, [104, 105])]) (by rw [ygc])).2
 rwa [ygc] at this
theorem oaw_merge : yca [0, 6, 1, 1, 172, 2, 0, 1, 172, 2, 2, 104, 105] [0, 6, 1, 1, 172, 2, 0, 1, 172, 2, 2, 104, 105] = ([], 151) := by
 have h1 : yas ([(1, 300, [104, 105])] ++ [(1, 300, [104, 105])]) = ([], 151) := by decide +kernel
 unfold yca
 rw [oaw_dec]
 dsimp only
 rw [qag (by decide), qag (by decide)]
 unfold yaj
 rw [qag (by decide), h1, qah (by decide)]
theorem ometa_same (a b c d e f g : Int) (w : World) : (Op.equalIn 10000 45 (.agg #[.int .i64 a, .int .i64 b, .int .i64 c, .int .i64 d, .int .i64 e, .int .i64 f, .int .i64 g]) (.agg #[.int .i64 a, .int .i64 b, .int .i64 c, .int .i64 d, .int .i64 e, .int .i64 f, .int .i64 g])).run prog w = .ok true w := by
 simp [go_sem]
theorem ometa_guard : prog.eqGuardType prog.depth 45 = false := by kernel_rfl
theorem ygC (a b : Int) (w : World) : (Op.equalIn 10000 51 (.agg #[.int .i64 a, .int .i64 b]) (.agg #[.int .i64 a, .int .i64 b])).run prog w = .ok true w := by
 simp [go_sem]
theorem orange_guard : prog.eqGuardType prog.depth 51 = false := by kernel_rfl
theorem yam (w : World) : Calls prog 21 #[] w fun e w' => e = .returned (.bool true) ∧ Below w.heap.size w w' := by
 have P1 : Hid (∀ w, Calls prog 22 #[.slice (some ⟨w.heap.size, 0, none⟩) 1 1] (w.alloc (.cells #[.int .i64 1, .int .i64 300, .string ⟨#[104, 105]⟩] 54)) fun r w' => r = .returned (.tuple #[.string ⟨#[0, 6, 1, 1, 172, 2, 0, 1, 172, 2, 2, 104, 105]⟩, .int .i64 0]) ∧ Below w.heap.size w w' ∧ Reads w' w'.heap.size 3 (some ⟨w.heap.size, 0, none⟩) 1 (rcs [(1, 300, [104, 105])])) := qaa fun w => by
  refine (yal [(1, 300, [104, 105])] _ 1 1 _ rfl (by decide) (rfresh (1, 300, [104, 105]) w)).mono ?_
  unfold yaI
  rw [ygc]
  rintro r w' ⟨rfl, hb⟩
  exact ⟨rfl, ((qam _ _).alloc (qaf _) _).trans (hb.mono (by simp)), Reads.on15 (rfresh (1, 300, [104, 105]) w) hb⟩
 have P2 : Hid (∀ w, Calls prog 25 #[.string ⟨#[0, 6, 1, 1, 172, 2, 0, 1, 172, 2, 2, 104, 105]⟩] w fun r w' => r = .returned (.tuple #[.agg #[.int .i64 0, .int .i64 0, .int .i64 6, .int .i64 1, .int .i64 1, .int .i64 300, .int .i64 300], .int .i64 0]) ∧ Below w.heap.size w w') := qaa fun w => by
  have := ygW [0, 6, 1, 1, 172, 2, 0, 1, 172, 2, 2, 104, 105] w (by decide)
  unfold OPost at this
  rwa [oaw_peek] at this
 have D0 : ∀ W, Calls prog 24 #[.string ⟨#[0, 6, 1, 1, 172, 2, 0, 1, 172, 2, 2, 104, 105]⟩] W fun e w' => yaP W w' e (yak [0, 6, 1, 1, 172, 2, 0, 1, 172, 2, 2, 104, 105]) := fun W => p_bdec0_any [0, 6, 1, 1, 172, 2, 0, 1, 172, 2, 2, 104, 105] W (by decide) (by decide)
 have P3 : Hid (∀ w, Calls prog 24 #[.string ⟨#[0, 6, 1, 1, 172, 2, 0, 1, 172, 2, 2, 104, 105]⟩] w fun r w' => ∃ A c, r = .returned (.tuple #[.slice A 1 c, .int .i64 0]) ∧ Reads w' w'.heap.size 3 A 1 (rcs [(1, 300, [104, 105])]) ∧ Below w.heap.size w w') := qaa fun w => by
  refine (D0 w).mono ?_
  unfold yaP
  rw [oaw_dec]
  rintro r w' ⟨A, c, rfl, _, hr, hb⟩
  exact ⟨A, c, rfl, hr, hb⟩
 have P4 : Hid (∀ w, Calls prog 22 #[.slice none 0 0] w fun r w' => r = .returned (.tuple #[.string ⟨#[]⟩, .int .i64 2]) ∧ Below w.heap.size w w') := qaa fun w => yal [] none 0 0 w rfl (by decide) Reads.none_
 have P5 : Hid (∀ w, Calls prog 34 #[.string ⟨#[0, 6, 1, 1, 172, 2, 0, 1, 172, 2, 2, 104, 105]⟩, .string ⟨#[0, 6, 1, 1, 172, 2, 0, 1, 172, 2, 2, 104, 105]⟩] w fun r w' => r = .returned (.tuple #[.string ⟨#[]⟩, .int .i64 151]) ∧ Below w.heap.size w w') := qaa fun w => by
  have := ydF [0, 6, 1, 1, 172, 2, 0, 1, 172, 2, 2, 104, 105] [0, 6, 1, 1, 172, 2, 0, 1, 172, 2, 2, 104, 105] w D0 D0
  unfold yaI at this
  rwa [oaw_merge] at this
 have P6 := qaa fun A1 c1 A2 c2 W h1 h2 => yc8 [(1, 300, [104, 105])] [(1, 300, [104, 105])] A1 A2 1 1 c1 c2 W rfl rfl (by decide) (by decide) h1 h2
 have e9 : decide (([(1, 300, [104, 105])] : List Rc) = [(1, 300, [104, 105])]) = true := qaP rfl
 rw [e9] at P6
 have P7 : Hid (∀ w, Calls prog 29 #[.agg #[.int .i64 0, .int .i64 0, .int .i64 6, .int .i64 1, .int .i64 1, .int .i64 300, .int .i64 300]] w fun r w' => r = .returned (.agg #[.int .i64 1, .int .i64 1]) ∧ Below w.heap.size w w') := qaa fun w => yhf (6, 1, 1, 300, 300) w (by decide) (by decide) (by decide) (by decide)
 have P8 : Hid (∀ w, Calls prog 30 #[.agg #[.int .i64 0, .int .i64 0, .int .i64 6, .int .i64 1, .int .i64 1, .int .i64 300, .int .i64 300]] w fun r w' => r = .returned (.agg #[.int .i64 300, .int .i64 300]) ∧ Below w.heap.size w w') := qaa fun w => yft (6, 1, 1, 300, 300) w (by decide)
 have heq := fun W => ometa_same 0 0 6 1 1 300 300 W
 have hgu := ometa_guard
 have heq1 := fun W => ygC 1 1 W
 have heq2 := fun W => ygC 300 300 W
 have hgu2 := orange_guard
 clear D0 e9
 go_enter func21, ntmps21
 go_wp2_with (first
  | (go_at_call 22; (with_reducible refine (P1.out _).mono ?_); rintro e w1 ⟨rfl, hb1, hr1⟩; have Hb := qaa hb1; have HR := qaa hr1; clear hb1 hr1 P1)
  | (go_at_call 25; (with_reducible refine (P2.out _).mono ?_); rintro e w2 ⟨rfl, hb2⟩; replace HR := qaa ((Reads.on15 HR.out hb2).alloc (qaf _) (.cells #[.int .i64 0, .int .i64 0, .int .i64 6, .int .i64 1, .int .i64 1, .int .i64 300, .int .i64 300] 45)); replace Hb := qaa (Hb.out.trans (hb2.mono Hb.out.size)); replace Hb := qaa (Hb.out.alloc Hb.out.size (.cells #[.int .i64 0, .int .i64 0, .int .i64 6, .int .i64 1, .int .i64 1, .int .i64 300, .int .i64 300] 45)); have HM := qaa (Blk.new w2 45 #[.int .i64 0, .int .i64 0, .int .i64 6, .int .i64 1, .int .i64 1, .int .i64 300, .int .i64 300]); clear hb2 P2)
  | (go_at_call 24; (with_reducible refine (P3.out _).mono ?_); rintro e w3 ⟨A3, c3, rfl, hr3, hb3⟩; replace HR := qaa (Reads.on15 (HR.out.more (by rw [qay]; omega)) hb3); replace Hb := qaa (Hb.out.trans (hb3.mono Hb.out.size)); replace HM := qaa (HM.out.below hb3 HM.out.lt); have HD := qaa hr3; clear hr3 hb3 P3)
  | (go_at_call 22; (with_reducible refine (P4.out _).mono ?_); rintro e w4 ⟨rfl, hb4⟩; replace HR := qaa (Reads.on15 HR.out hb4); replace Hb := qaa (Hb.out.trans (hb4.mono Hb.out.size)); replace HM := qaa (HM.out.below hb4 HM.out.lt); replace HD := qaa (Reads.on15 HD.out hb4); clear hb4 P4)
  | (go_at_call 34; (with_reducible refine (P5.out _).mono ?_); rintro e w5 ⟨rfl, hb5⟩; replace HR := qaa (Reads.on15 HR.out hb5); replace Hb := qaa (Hb.out.trans (hb5.mono Hb.out.size)); replace HM := qaa (HM.out.below hb5 HM.out.lt); replace HD := qaa (Reads.on15 HD.out hb5); have m50 : w5.cell? ⟨w2.heap.size, 0, none⟩ = some (.int .i64 0) := HM.out.cell 0; have m51 : w5.cell? ⟨w2.heap.size, 1, none⟩ = some (.int .i64 0) := HM.out.cell 1; have m52 : w5.cell? ⟨w2.heap.size, 2, none⟩ = some (.int .i64 6) := HM.out.cell 2; have m53 : w5.cell? ⟨w2.heap.size, 3, none⟩ = some (.int .i64 1) := HM.out.cell 3; have m54 : w5.cell? ⟨w2.heap.size, 4, none⟩ = some (.int .i64 1) := HM.out.cell 4; have m55 : w5.cell? ⟨w2.heap.size, 5, none⟩ = some (.int .i64 300) := HM.out.cell 5; have m56 : w5.cell? ⟨w2.heap.size, 6, none⟩ = some (.int .i64 300) := HM.out.cell 6; clear hb5 P5)
  | (go_at_call 27; (with_reducible refine (P6.out _ _ _ _ _ HD.out HR.out).mono ?_); rintro e w6 ⟨rfl, hb6⟩; replace HR := qaa (Reads.on15 HR.out hb6); replace Hb := qaa (Hb.out.trans (hb6.mono Hb.out.size)); replace HM := qaa (HM.out.below hb6 HM.out.lt); have m60 : w6.cell? ⟨w2.heap.size, 0, none⟩ = some (.int .i64 0) := HM.out.cell 0; have m61 : w6.cell? ⟨w2.heap.size, 1, none⟩ = some (.int .i64 0) := HM.out.cell 1; have m62 : w6.cell? ⟨w2.heap.size, 2, none⟩ = some (.int .i64 6) := HM.out.cell 2; have m63 : w6.cell? ⟨w2.heap.size, 3, none⟩ = some (.int .i64 1) := HM.out.cell 3; have m64 : w6.cell? ⟨w2.heap.size, 4, none⟩ = some (.int .i64 1) := HM.out.cell 4; have m65 : w6.cell? ⟨w2.heap.size, 5, none⟩ = some (.int .i64 300) := HM.out.cell 5; have m66 : w6.cell? ⟨w2.heap.size, 6, none⟩ = some (.int .i64 300) := HM.out.cell 6; clear hb6 P6)
  | (go_at_call 29; (with_reducible refine (P7.out _).mono ?_); rintro e w7 ⟨rfl, hb7⟩; replace HR := qaa (Reads.on15 HR.out hb7); replace Hb := qaa (Hb.out.trans (hb7.mono Hb.out.size)); replace HM := qaa (HM.out.below hb7 HM.out.lt); have m70 : w7.cell? ⟨w2.heap.size, 0, none⟩ = some (.int .i64 0) := HM.out.cell 0; have m71 : w7.cell? ⟨w2.heap.size, 1, none⟩ = some (.int .i64 0) := HM.out.cell 1; have m72 : w7.cell? ⟨w2.heap.size, 2, none⟩ = some (.int .i64 6) := HM.out.cell 2; have m73 : w7.cell? ⟨w2.heap.size, 3, none⟩ = some (.int .i64 1) := HM.out.cell 3; have m74 : w7.cell? ⟨w2.heap.size, 4, none⟩ = some (.int .i64 1) := HM.out.cell 4; have m75 : w7.cell? ⟨w2.heap.size, 5, none⟩ = some (.int .i64 300) := HM.out.cell 5; have m76 : w7.cell? ⟨w2.heap.size, 6, none⟩ = some (.int .i64 300) := HM.out.cell 6; clear hb7 P7)
  | (go_at_call 30; (with_reducible refine (P8.out _).mono ?_); rintro e w8 ⟨rfl, hb8⟩; replace Hb := qaa (Hb.out.trans (hb8.mono Hb.out.size)); clear hb8 P8))
 go_ret
 exact ⟨rfl, Hb.out⟩
end Go.Proofs.YtanjhbkbpalnaaaGreat
