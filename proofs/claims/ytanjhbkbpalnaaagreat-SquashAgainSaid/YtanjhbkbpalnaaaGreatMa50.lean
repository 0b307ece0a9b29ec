/-
 What the law of the last of these texts stands on, part 50.
-/
import Derived.Test.YtanjhbkbpalnaaaGreatMa43
import Derived.Test.YtanjhbkbpalnaaaGreatMa44
import Derived.Test.YtanjhbkbpalnaaaGreatMa45
import Derived.Test.YtanjhbkbpalnaaaGreatMa49
set_option maxRecDepth 100000
set_option maxHeartbeats 8000000
open Go.Proofs.Tryz
namespace Go.Proofs.YtanjhbkbpalnaaaGreat
set_option linter.unusedSimpArgs false
set_option linter.unusedVariables false
open Go.ChangeShapes Go.WideShapes Go.ChangeAt Go.RowKit Go.Joins Go.Deep
def QPost (w w' : World) (e : Ending) (F : List Int × Int × Int) : Prop := ∃ A c, e = .returned (.tuple #[.slice A F.1.length c, .int .i64 F.2.1, .int .i64 F.2.2]) ∧ F.1.length ≤ c ∧ Reads w' w'.heap.size 1 A F.1.length (ints F.1) ∧ Below w.heap.size w w'
theorem ya1 {w w1 w2 : World} (h1 : Below w.heap.size w w1) (h2 : Below w1.heap.size w1 w2) : Below w.heap.size w w2 := h1.trans (h2.mono h1.size)
theorem ybE (s : List UInt8) (w : World) (hs : s.length ≤ 1000000) :
  Calls prog 15 #[.string ⟨s.toArray⟩] w fun e w' => QPost w w' e (qsF s) := by
 have hf := p_bforward_any s w hs
 unfold BPost at hf
 by_cases hbig : 20000 < s.length
 ·rw [btF_big hbig] at hf
  have fin : qsF s = ([], 0, 3) := qag hbig
  rw [fin]
  dsimp only at hf
  have Hf := qaa hf
  clear hf hbig fin
  go_enter func15, ntmps15
  go_wp2_with (go_at_call 39; (with_reducible refine Hf.out.mono ?_); rintro e w1 ⟨rfl, hb1⟩; have Hb1 := qaa hb1; clear hb1 Hf)
  go_ret3
  exact ⟨none, 0, rfl, qad _, Reads.none_, Hb1.out⟩
 ·rw [btF_yes hbig] at hf
  have fin : qsF s = (qsy s, (bpr s : Int), 0) := qae hbig
  have hr := qaa fun W => fr_ranks_any (yaV s) (by rw [yaT]; omega) W
  have hz := qaa fun A n c W hm hc hr => zr_pack_any (rks row0 (yaV s)) A n c W hm hc hr
  rw [qsy_pack s] at hz
  have hq := ybi s
  rw [fin]
  dsimp only at hf hz
  have hl : (yaV s).length = s.length := yaT s
  rw [hl] at hr
  have Hf := qaa hf
  unfold QPost
  dsimp only
  clear hf fin
  generalize yaV s = T at *
  generalize rks row0 T = K at *
  generalize qsy s = Q at *
  generalize bpr s = P at *
  go_enter func15, ntmps15
  go_wp2_with (first
   | (go_at_call 39; (with_reducible refine Hf.out.mono ?_); rintro e w1 ⟨rfl, hb1⟩; have Hb1 := qaa hb1; clear hb1 Hf)
   | (go_at_call 41; (with_reducible refine (hr.out _).mono ?_); rintro e w2 ⟨A2, c2, rfl, hc2, hr2, hb2⟩; have Hb2 := qaa (ya1 Hb1.out hb2); have Hr2 := qaa hr2; clear hb2 hr hr2)
   | (go_at_call 40; (with_reducible refine (hz.out _ _ _ _ (by omega) hc2 Hr2.out).mono ?_); rintro e w3 ⟨A3, c3, rfl, hc3, hr3, hb3⟩; have Hb3 := qaa (ya1 Hb2.out hb3); have Hr3 := qaa hr3; clear hb3 hz hr3))
  go_ret3
  exact ⟨_, _, rfl, hc3, Hr3.out, Hb3.out⟩
theorem q_enc (s : List UInt8) (h : s.length ≤ 20000) : hencF (qsy s) = (text (hB (qsy s)), 0) := by
 have h1 := ybi s
 have : (hcF (qsy s)).2 = 0 := by
  unfold hcF
  rw [qae (by omega), qag (qsy_in s)]
 unfold hencF
 rw [qag this]
theorem qhd_len (a b c : Int) : (qhd a b c).length ≤ 27 := by
 have h1 := ydo a
 have h2 := ydo b
 have h3 := ydo c
 unfold qhd
 rw [qab, qab]
 omega
theorem yeU (s : List UInt8) (h : s.length ≤ 20000) : (text (hB (qsy s))).length ≤ 1000000 := by
 have h1 := ybi s
 have h2 := hB_len (l := qsy s) (by omega)
 rw [yaW]
 omega
theorem yfu (s : List UInt8) (w : World) (hs : s.length ≤ 1000000) :
  Calls prog 13 #[.string ⟨s.toArray⟩] w fun e w' => yeb w w' e (qpF s) := by
 have hf := ybE s w hs
 unfold QPost at hf
 by_cases hbig : 20000 < s.length
 ·have fin0 : qsF s = ([], 0, 3) := qag hbig
  have fin : qpF s = ([], 3) := qag hbig
  rw [fin0] at hf
  rw [fin]
  dsimp only at hf
  have Hf := qaa hf
  clear hf hbig fin fin0
  go_enter func13, ntmps13
  go_wp2_with (go_at_call 15; (with_reducible refine Hf.out.mono ?_); rintro e w1 ⟨A1, c1, rfl, _, _, hb1⟩; have Hb1 := qaa hb1; clear hb1 Hf)
  go_ret2
  exact ⟨rfl, Hb1.out⟩
 ·have fin0 : qsF s = (qsy s, (bpr s : Int), 0) := qae hbig
  have fin : qpF s = (qB s, 0) := qae hbig
  rw [fin0] at hf
  rw [fin]
  have hq := ybi s
  have hp := yf4 s
  have he := qaa fun A n c W hm hr => p_hencode_any (qsy s) A n c W hm hr
  rw [q_enc s (by omega)] at he
  have ht := qaa fun W => q_text_any s.length (bpr s) (qsy s).length W (by omega) (by omega) (by omega)
  have hadd := fun W => q_add (qhd s.length (bpr s) (qsy s).length) (text (hB (qsy s))) (by have := qhd_len s.length (bpr s) (qsy s).length; have := yeU s (by omega); omega) W
  have hB' : qB s = qhd s.length (bpr s) (qsy s).length ++ text (hB (qsy s)) := rfl
  rw [← hB'] at hadd
  dsimp only at hf he
  have Hf := qaa hf
  unfold yeb
  dsimp only
  clear hf fin fin0 hB'
  generalize qB s = U at *
  generalize text (hB (qsy s)) = X at *
  generalize hQ : (qsy s).length = q at *
  generalize ints (qsy s) = Q at *
  generalize bpr s = P at *
  generalize qhd (s.length : Int) (P : Int) (q : Int) = Y at *
  clear hQ
  go_enter func13, ntmps13
  go_wp2_with (first
   | (go_at_call 15; (with_reducible refine Hf.out.mono ?_); rintro e w1 ⟨A1, c1, rfl, hc1, hr1, hb1⟩; have Hb1 := qaa hb1; have Hr1 := qaa hr1; clear hb1 Hf hr1)
   | (go_at_call 35; (with_reducible refine (he.out _ _ _ _ (by omega) Hr1.out).mono ?_); rintro e w2 ⟨rfl, hb2⟩; have Hb2 := qaa (ya1 Hb1.out hb2); clear hb2 he)
   | (go_at_call 36; (with_reducible refine (ht.out _).mono ?_); rintro e w3 ⟨rfl, hb3⟩; have Hb3 := qaa (ya1 Hb2.out hb3); clear hb3 ht))
  go_ret2
  exact ⟨rfl, Hb3.out⟩
theorem q_good (l : List Int) (k : Int) (h : (zunF l k).2 = 0) : yda (zunF l k).1 = (bys row0 (zunF l k).1, 0) := by
 have hg : ya2 255 (zunF l k).1 = true := by
  unfold zunF at h ⊢
  by_cases hg : ya2 256 l = true
  ·rw [qag hg] at h ⊢
   by_cases hc : (yaZ l : Int) > k ∨ (yaZ l : Int) > 100000
   ·rw [qag hc] at h
    cases h
   ·rw [qae hc]
    exact zun_good l [] hg
  ·rw [qae hg] at h
   cases h
 unfold yda
 exact qag hg
theorem q_totext_any (l : List Int) (A : Option Addr) (n c : Nat) (r k : Int) (w : World) (hm : n ≤ 1000000) (hc : n ≤ c) (hr : Reads w w.heap.size 1 A n (ints l)) :
  Calls prog 47 #[.slice A n c, .int .i64 r, .int .i64 k] w fun e w' => yeb w w' e (qtF l r k) := by
 unfold yeb
 by_cases h1 : k < 0
 ·have fin : qtF l r k = ([], 2) := qag (qay h1)
  rw [fin]
  clear fin hr hm hc
  go_enter func47, ntmps47
  go_wp2
  go_ret2
  exact ⟨rfl, qak _ _⟩
 by_cases h2 : 20000 < k
 ·have fin : qtF l r k = ([], 2) := qag (qaI h2)
  rw [fin]
  clear fin hr hm hc
  go_enter func47, ntmps47
  go_wp2
  go_ret2
  exact ⟨rfl, qak _ _⟩
 have hu := zr_unpack_any l k A n c w hm hc hr
 by_cases h3 : (zunF l k).2 ≠ 0
 ·have fin : qtF l r k = ([], (zunF l k).2) := by unfold qtF; rw [qae (by omega), qag h3]
  rw [fin]
  have Hu := qaa hu
  clear fin hr hu hm hc
  generalize (zunF l k).2 = E at *
  generalize (zunF l k).1 = Z at *
  go_enter func47, ntmps47
  go_wp2_with (go_at_call 91; (with_reducible refine Hu.out.mono ?_); rintro e w1 ⟨A1, c1, rfl, _, _, hb1⟩; have Hb1 := qaa hb1; clear hb1 Hu)
  go_ret2
  exact ⟨rfl, Hb1.out⟩
 have e3 : (zunF l k).2 = 0 := by omega
 rw [e3] at hu
 by_cases h4 : ((zunF l k).1.length : Int) ≠ k
 ·have fin : qtF l r k = ([], 5) := by unfold qtF; rw [qae (by omega), qae h3, qag h4]
  rw [fin]
  have Hu := qaa hu
  clear fin hr hu hm hc h3 e3
  generalize hZ : (zunF l k).1.length = z at *
  generalize ints (zunF l k).1 = Z at *
  have hb : (((z : Int)) == k) = false := by rw [qb0]; exact h4
  clear hZ
  go_enter func47, ntmps47
  go_wp2_with (go_at_call 91; (with_reducible refine Hu.out.mono ?_); rintro e w1 ⟨A1, c1, rfl, _, _, hb1⟩; have Hb1 := qaa hb1; clear hb1 Hu)
  go_ret2
  exact ⟨rfl, Hb1.out⟩
 have e4 : ((zunF l k).1.length : Int) = k := by omega
 have fin : qtF l r k = biF (bys row0 (zunF l k).1) r := by unfold qtF; rw [qae (by omega), qae h3, qae h4]
 rw [fin]
 have hz : (zunF l k).1.length ≤ 20000 := by omega
 have ht := qaa fun A n c W hn hr => fr_text_any A n c (zunF l k).1 W hn hr
 rw [q_good l k e3] at ht
 have hi := qaa fun W => p_binverse_any (bys row0 (zunF l k).1) r W (by rw [ygu]; omega)
 unfold yeb at hi
 have Hu := qaa hu
 dsimp only at ht
 clear fin hr hu hm hc h3 h4 e3
 generalize biF (bys row0 (zunF l k).1) r = B at *
 generalize bys row0 (zunF l k).1 = T at *
 generalize hZ : (zunF l k).1.length = z at *
 generalize ints (zunF l k).1 = Z at *
 have hb : (((z : Int)) == k) = true := by rw [qcL]; exact e4
 clear hZ
 go_enter func47, ntmps47
 go_wp2_with (first
  | (go_at_call 91; (with_reducible refine Hu.out.mono ?_); rintro e w1 ⟨A1, c1, rfl, _, hr1, hb1⟩; have Hb1 := qaa hb1; have Hr1 := qaa hr1; clear hb1 hr1 Hu)
  | (go_at_call 92; (with_reducible refine (ht.out _ _ _ _ (by omega) Hr1.out).mono ?_); rintro e w2 ⟨rfl, hb2⟩; have Hb2 := qaa (ya1 Hb1.out hb2); clear hb2 ht)
  | (go_at_call 93; (with_reducible refine (hi.out _).mono ?_); rintro e w3 ⟨rfl, hb3⟩; have Hb3 := qaa (ya1 Hb2.out hb3); clear hb3 hi))
 go_ret2
 exact ⟨rfl, Hb3.out⟩
theorem q_cunp_len (ws : List (Int × Int)) (L : List Nat) : ∀ (n p : Nat) (acc : List Int), (cunp ws L n p acc).1.length ≤ acc.length + n
 | 0, p, acc => qad _
 | n + 1, p, acc => by
  rw [ydi]
  split
  ·have := q_cunp_len ws L n (p + (ybl ws L p).2.1.toNat) (acc ++ [(ybl ws L p).1])
   rw [qab, qcp] at this
   omega
  ·exact Nat.le_add_right _ _
theorem q_dec_len (s : List UInt8) (k : Int) : (ybQ s k).1.length ≤ 100000 := by
 unfold ybQ
 by_cases h : k < 0 ∨ 100000 < k
 ·rw [qag h]; exact qcb _
 rw [qae h]
 unfold hdec1
 by_cases h2 : (ybB (yag s) 0 257).2.2 ≠ 0
 ·rw [qag h2]; exact qcb _
 rw [qae h2]
 unfold hdec2
 have := q_cunp_len (wat ((ybB (yag s) 0 257).1.map Int.toNat) 16 0) (yag s) k.toNat (ybB (yag s) 0 257).2.1 []
 rw [qbx] at this
 by_cases h3 : (cunp (wat ((ybB (yag s) 0 257).1.map Int.toNat) 16 0) (yag s) k.toNat (ybB (yag s) 0 257).2.1 []).2.2 ≠ 0
 ·rw [qag h3]; exact qcb _
 rw [qae h3]
 by_cases h4 : yfH (yag s) (cunp (wat ((ybB (yag s) 0 257).1.map Int.toNat) 16 0) (yag s) k.toNat (ybB (yag s) 0 257).2.1 []).2.1 = true
 ·rw [qag h4]
  dsimp only
  omega
 ·rw [qae h4]; exact qcb _
theorem yaI (b : List UInt8) (w : World) (hs : b.length ≤ 1000000) :
  Calls prog 18 #[.string ⟨b.toArray⟩] w fun e w' => yeb w w' e (quF b) := by
 unfold yeb
 by_cases h1 : (ybb b).2.2 ≠ 0
 ·have fin : quF b = ([], (ybb b).2.2) := qag h1
  have Hc := qaa fun W => q_cut_no b W (by omega) (ybb b).2.2 h1 rfl
  rw [fin]
  clear fin
  generalize (ybb b).2.2 = E at *
  go_enter func18, ntmps18
  go_wp2_with (go_at_call 45; (with_reducible refine (Hc.out _).mono ?_); rintro e w1 ⟨rfl, hb1⟩; have Hb1 := qaa hb1; clear hb1 Hc)
  go_ret2
  exact ⟨rfl, Hb1.out.alloc Hb1.out.size _⟩
 obtain ⟨n, p, k, q, hq⟩ : ∃ n p k q, ybb b = ((n, p, k), q, 0) := ⟨(ybb b).1.1, (ybb b).1.2.1, (ybb b).1.2.2, (ybb b).2.1, by
  have e : (ybb b).2.2 = 0 := by omega
  rw [← e]⟩
 have fin : quF b = qu2 n p k (b.drop q.toNat) := by
  unfold quF
  rw [qae h1, hq]
 rw [fin]
 have Hc := qaa fun W => q_cut_yes b W (by omega) n p k q hq
 have hR : (b.drop q.toNat).length ≤ 1000000 := by rw [qas]; omega
 clear fin h1 hq
 generalize b.drop q.toNat = R at *
 unfold qu2
 by_cases h2 : 20000 < n
 ·rw [qag (qay h2)]
  go_enter func18, ntmps18
  go_wp2_with (go_at_call 45; (with_reducible refine (Hc.out _).mono ?_); rintro e w1 ⟨rfl, hb1⟩; have Hb1 := qaa hb1; clear hb1 Hc; have c0 := (Blk.new w1 62 #[.int .i64 n, .int .i64 p, .int .i64 k]).cell 0; have c1 := (Blk.new w1 62 #[.int .i64 n, .int .i64 p, .int .i64 k]).cell 1; have c2 := (Blk.new w1 62 #[.int .i64 n, .int .i64 p, .int .i64 k]).cell 2)
  go_ret2
  exact ⟨rfl, Hb1.out.alloc Hb1.out.size _⟩
 by_cases h3 : n < k
 ·rw [qag (qaI h3)]
  go_enter func18, ntmps18
  go_wp2_with (go_at_call 45; (with_reducible refine (Hc.out _).mono ?_); rintro e w1 ⟨rfl, hb1⟩; have Hb1 := qaa hb1; clear hb1 Hc)
  go_ret2
  exact ⟨rfl, Hb1.out.alloc Hb1.out.size _⟩
 rw [qae (by omega)]
 have hd := qaa fun W => p_hdecode_any R k W (by omega)
 unfold yf9 at hd
 have hdl := q_dec_len R k
 have Ht := qaa fun A m c W hm hc hr => q_totext_any (ybQ R k).1 A m c p n W hm hc hr
 unfold yeb at Ht
 by_cases h4 : (ybQ R k).2 ≠ 0
 ·rw [qag h4]
  clear hdl Ht
  generalize (ybQ R k).2 = E at *
  generalize (ybQ R k).1 = Z at *
  go_enter func18, ntmps18
  go_wp2_with (first
   | (go_at_call 45; (with_reducible refine (Hc.out _).mono ?_); rintro e w1 ⟨rfl, hb1⟩; have Hb1 := qaa (hb1.alloc hb1.size (.cells #[.int .i64 n, .int .i64 p, .int .i64 k] 62)); clear hb1 Hc)
   | (go_at_call 46; (with_reducible refine (hd.out _).mono ?_); rintro e w2 ⟨A2, c2, rfl, _, _, hb2⟩; have Hb2 := qaa (ya1 Hb1.out hb2); clear hb2 hd))
  go_ret2
  exact ⟨rfl, Hb2.out⟩
 rw [qae h4]
 have e4 : (ybQ R k).2 = 0 := by omega
 rw [e4] at hd
 clear h4 e4
 generalize qtF (ybQ R k).1 p n = T at *
 generalize hZ : (ybQ R k).1.length = z at *
 generalize ints (ybQ R k).1 = Z at *
 clear hZ
 go_enter func18, ntmps18
 go_wp2_with (first
  | (go_at_call 45; (with_reducible refine (Hc.out _).mono ?_); rintro e w1 ⟨rfl, hb1⟩; have Hb1 := qaa (hb1.alloc hb1.size (.cells #[.int .i64 n, .int .i64 p, .int .i64 k] 62)); have hB1 := Blk.new w1 62 #[.int .i64 n, .int .i64 p, .int .i64 k]; clear hb1 Hc)
  | (go_at_call 46; (with_reducible refine (hd.out _).mono ?_); rintro e w2 ⟨A2, c2, rfl, hc2, hr2, hb2⟩; have Hb2 := qaa (ya1 Hb1.out hb2); have Hr2 := qaa hr2; have hB2 := hB1.below hb2 hB1.lt; have y0 : w2.cell? ⟨w1.heap.size, 0, none⟩ = some (.int .i64 n) := hB2.cell 0; have y1 : w2.cell? ⟨w1.heap.size, 1, none⟩ = some (.int .i64 p) := hB2.cell 1; clear hb2 hd hr2 hB1 hB2)
  | (go_at_call 47; (with_reducible refine (Ht.out _ _ _ _ (by omega) hc2 Hr2.out).mono ?_); rintro e w3 ⟨rfl, hb3⟩; have Hb3 := qaa (ya1 Hb2.out hb3); clear hb3 Ht))
 go_ret2
 exact ⟨rfl, Hb3.out⟩
theorem qaw_nil : qsy [] = [] ∧ bpr [] = 0 := by
 have h1 := ybi []
 have h2 := yf4 []
 exact ⟨qa1.1 (by simpa using h1), by simpa using h2⟩
theorem qaw_0 : qB [] = [0, 0, 0, 0, 8, 8] := by
 unfold qB
 rw [qaw_nil.1, qaw_nil.2, htext_nil]
 decide +kernel
theorem qaw_1 : quF [0, 0, 0, 0, 8, 8] = ([], 0) := by
 rw [← qaw_0]
 exact qback [] (by decide)
theorem qaw_last : yaV [98, 97, 110, 97, 110, 97] = [97, 110, 110, 98, 97, 97] ∧ bpr [98, 97, 110, 97, 110, 97] = 4 := by decide +kernel
theorem qaw_rks : rks row0 [97, 110, 110, 98, 97, 97] = [97, 110, 0, 99, 2, 0] := by decide +kernel
theorem qaw_sy : qsy [98, 97, 110, 97, 110, 97] = [98, 111, 0, 100, 3, 0] := by
 unfold qsy
 rw [qaw_last.1, qaw_rks, yd6 _ _ (by decide), yd6 _ _ (by decide), show ([0, 99, 2, 0] : List Int) = [0] ++ [99, 2, 0] from rfl, zpk_run 0 [0] _ (by simp), zpk_end _ _ (by simp), yd6 _ _ (by decide), yd6 _ _ (by decide), show ([0] : List Int) = List.replicate 1 0 from rfl, ydT]
 show _ :: _ :: (zd 1 ++ _ :: _ :: zd 1) = _
 have h : zd 1 = [0] := by rw [yhu 1 (by decide), show (1 - 1) / 2 = 0 from rfl, ybf]; rfl
 rw [h]
 rfl
theorem qaw_sF : qsF [98, 97, 110, 97, 110, 97] = ([98, 111, 0, 100, 3, 0], 4, 0) := by
 unfold qsF
 rw [qae (by decide), qaw_sy, qaw_last.2]
 rfl
theorem qaw_2 : quF [0] = ([], 4) := by
 have h : (ybb [0]).2.2 = 4 := by decide +kernel
 unfold quF
 rw [qag (by rw [h]; decide), h]
theorem qaw_len : (qB [98, 97, 110, 97, 110, 97]).length ≤ 1000000 := by
 have h1 := qhd_len (([98, 97, 110, 97, 110, 97] : List UInt8).length) (bpr [98, 97, 110, 97, 110, 97]) (qsy [98, 97, 110, 97, 110, 97]).length
 have h2 := yeU [98, 97, 110, 97, 110, 97] (by decide)
 unfold qB
 rw [qab]
 have h3 : (text (hB (qsy [98, 97, 110, 97, 110, 97]))).length ≤ 900000 := by
  have h4 := ybi [98, 97, 110, 97, 110, 97]
  have h5 := hB_len (l := qsy [98, 97, 110, 97, 110, 97]) (by simp only [qap, qbx] at h4; omega)
  simp only [qap, qbx] at h4
  rw [yaW]
  omega
 omega
theorem q_fresh {cs : Array Value} {n : Nat} {xs : List Int} (hcs : cs = (ints xs).toArray) (hn : xs.length = n) (w : World) : Reads (w.alloc (.cells cs 3)) (w.alloc (.cells cs 3)).heap.size 1 (some ⟨w.heap.size, 0, none⟩) n (ints xs) := by
 subst hcs
 have := ya0 w 3 (ints xs).toArray 1 n (by simp [yab, hn])
 exact this.more (by simp)
theorem q_same {cs : Array Value} {n : Nat} {xs : List Int} (A : Option Addr) (c : Nat) (hcs : cs = (ints xs).toArray) (hn : xs.length = n) (hm : n ≤ 1000) (W : World) (hr : Reads W W.heap.size 1 A n (ints xs)) :
  Calls prog 17 #[.slice A n c, .slice (some ⟨W.heap.size, 0, none⟩) n n] (W.alloc (.cells cs 3)) fun r w' => r = .returned (.bool true) ∧ Below W.heap.size W w' := by
 have hb : Below W.heap.size W (W.alloc (.cells cs 3)) := (qak _ _).alloc (qad _) _
 refine (same_any A (some ⟨W.heap.size, 0, none⟩) n n c n xs xs _ ((hr.below hb).more hb.size) (q_fresh hcs hn W) (by omega) (by omega)).mono ?_
 rintro r w' ⟨rfl, hb2⟩
 exact ⟨by simp, hb.trans (hb2.mono (by simp))⟩
theorem ya9 (w : World) : Calls prog 12 #[] w fun e w' => e = .returned (.bool true) ∧ Below w.heap.size w w' := by
 have P1 : Hid (∀ w, Calls prog 13 #[.string ⟨#[]⟩] w fun r w' => r = .returned (.tuple #[.string ⟨#[0, 0, 0, 0, 8, 8]⟩, .int .i64 0]) ∧ Below w.heap.size w w') := qaa fun w => by
  have := yfu [] w (by decide)
  rwa [show qpF [] = ([0, 0, 0, 0, 8, 8], 0) from by rw [← qaw_0]; exact qae (by decide)] at this
 have P2 : Hid (∀ w, Calls prog 18 #[.string ⟨#[0, 0, 0, 0, 8, 8]⟩] w fun r w' => r = .returned (.tuple #[.string ⟨#[]⟩, .int .i64 0]) ∧ Below w.heap.size w w') := qaa fun w => by
  have := yaI [0, 0, 0, 0, 8, 8] w (by decide)
  rwa [qaw_1] at this
 have P3 : Hid (∀ w, Calls prog 13 #[.string ⟨#[98, 97, 110, 97, 110, 97]⟩] w fun r w' => r = .returned (.tuple #[.string ⟨(qB [98, 97, 110, 97, 110, 97]).toArray⟩, .int .i64 0]) ∧ Below w.heap.size w w') := qaa fun w => by
  have := yfu [98, 97, 110, 97, 110, 97] w (by decide)
  rwa [show qpF [98, 97, 110, 97, 110, 97] = (qB [98, 97, 110, 97, 110, 97], 0) from qae (by decide)] at this
 have P4 : Hid (∀ w, Calls prog 18 #[.string ⟨(qB [98, 97, 110, 97, 110, 97]).toArray⟩] w fun r w' => r = .returned (.tuple #[.string ⟨#[98, 97, 110, 97, 110, 97]⟩, .int .i64 0]) ∧ Below w.heap.size w w') := qaa fun w => by
  have := yaI (qB [98, 97, 110, 97, 110, 97]) w qaw_len
  rwa [qback [98, 97, 110, 97, 110, 97] (by decide)] at this
 have P5 : Hid (∀ w, Calls prog 15 #[.string ⟨#[98, 97, 110, 97, 110, 97]⟩] w fun r w' => ∃ A c, r = .returned (.tuple #[.slice A 6 c, .int .i64 4, .int .i64 0]) ∧ Reads w' w'.heap.size 1 A 6 (ints [98, 111, 0, 100, 3, 0]) ∧ Below w.heap.size w w') := qaa fun w => by
  refine (ybE [98, 97, 110, 97, 110, 97] w (by decide)).mono ?_
  rw [qaw_sF]
  rintro r w' ⟨A, c, rfl, _, hr, hb⟩
  exact ⟨A, c, rfl, hr, hb⟩
 have P6 : Hid (∀ w, Calls prog 18 #[.string ⟨#[0]⟩] w fun r w' => r = .returned (.tuple #[.string ⟨#[]⟩, .int .i64 4]) ∧ Below w.heap.size w w') := qaa fun w => by
  have := yaI [0] w (by decide)
  rwa [qaw_2] at this
 have S1 := qaa fun A c W h => q_same (cs := #[.int .i64 98, .int .i64 111, .int .i64 0, .int .i64 100, .int .i64 3, .int .i64 0]) (n := 6) (xs := [98, 111, 0, 100, 3, 0]) A c rfl rfl (by decide) W h
 generalize qB [98, 97, 110, 97, 110, 97] = T at *
 go_enter func12, ntmps12
 go_wp2_with (first
  | (go_at_call 13; (with_reducible refine (P1.out _).mono ?_); rintro e w1 ⟨rfl, hb1⟩; have Hb := qaa hb1; clear hb1 P1)
  | (go_at_call 18; (with_reducible refine (P2.out _).mono ?_); rintro e w2 ⟨rfl, hb2⟩; replace Hb := qaa (Hb.out.trans (hb2.mono Hb.out.size)); clear hb2; clear P2)
  | (go_at_call 13; (with_reducible refine (P3.out _).mono ?_); rintro e w3 ⟨rfl, hb3⟩; replace Hb := qaa (Hb.out.trans (hb3.mono Hb.out.size)); clear hb3; clear P3)
  | (go_at_call 18; (with_reducible refine (P4.out _).mono ?_); rintro e w4 ⟨rfl, hb4⟩; replace Hb := qaa (Hb.out.trans (hb4.mono Hb.out.size)); clear hb4; clear P4)
  | (go_at_call 15; (with_reducible refine (P5.out _).mono ?_); rintro e w5 ⟨A5, c5, rfl, hr5, hb5⟩; have H5 := qaa hr5; replace Hb := qaa (Hb.out.trans (hb5.mono Hb.out.size)); clear hb5; clear hr5 P5)
  | (go_at_call 18; (with_reducible refine (P6.out _).mono ?_); rintro e w6 ⟨rfl, hb6⟩; replace H5 := qaa (H5.out.onto hb6); replace Hb := qaa (Hb.out.trans (hb6.mono Hb.out.size)); clear hb6; clear P6)
  | (go_at_call 17; (with_reducible refine (S1.out _ _ _ H5.out).mono ?_); rintro e w7 ⟨rfl, hb7⟩; replace Hb := qaa (Hb.out.trans (hb7.mono Hb.out.size)); clear hb7; clear S1 H5))
 go_ret
 exact ⟨rfl, Hb.out⟩
theorem qB_len (s : List UInt8) (h : s.length ≤ 20000) : (qB s).length ≤ 200000 := by
 have h1 := qhd_len s.length (bpr s) (qsy s).length
 have h4 := ybi s
 have h5 := hB_len (l := qsy s) (by omega)
 have h6 := yaW (hB (qsy s))
 unfold qB
 rw [qab]
 omega
theorem yd5 (s : List UInt8) (w : World) (hs : s.length ≤ 20000) : Calls prog 13 #[.string ⟨s.toArray⟩] w fun e w' => e = .returned (.tuple #[.string ⟨(qB s).toArray⟩, .int .i64 0]) ∧ Below w.heap.size w w' := by
 have := yfu s w (by omega)
 rwa [show qpF s = (qB s, 0) from qae (by omega)] at this
end Go.Proofs.YtanjhbkbpalnaaaGreat
