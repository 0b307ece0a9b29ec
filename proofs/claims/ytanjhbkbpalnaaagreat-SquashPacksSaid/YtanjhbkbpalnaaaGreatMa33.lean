/-
 What the law of the last of these texts stands on, part 33.
-/
import Derived.Test.YtanjhbkbpalnaaaGreatMa25
import Derived.Test.YtanjhbkbpalnaaaGreatMa27
set_option maxRecDepth 100000
set_option maxHeartbeats 8000000
open Go.Proofs.Tryz
namespace Go.Proofs.YtanjhbkbpalnaaaGreat
set_option linter.unusedSimpArgs false
set_option linter.unusedVariables false
open Go.ChangeShapes Go.WideShapes Go.ChangeAt Go.RowKit Go.Joins Go.Deep
def hbitF (l : List Int) : List Nat × Int := if (hcF l).2 = 0 then (hB l, 0) else ([], (hcF l).2)
def HBPost (w w' : World) (e : Ending) (F : List Nat × Int) : Prop := ∃ A' c', e = .returned (.tuple #[.slice A' F.1.length c', .int .i64 F.2]) ∧ Reads w' w'.heap.size 1 A' F.1.length (bcs F.1) ∧ Below w.heap.size w w'
theorem cbits_snoc (ws : List (Int × Int)) (l : List Int) (k : Nat) (hk : k < l.length) : ybo ws (l.take (k + 1)) = ybo ws (l.take k) ++ (yaC ws l[k]).1 := by
 rw [qat hk]
 unfold ybo
 rw [List.flatMap_append, List.flatMap_singleton]
theorem Reads.onto {w w' : World} {size n : Nat} {A : Option Addr} {xs : List Value} (h : Reads w w.heap.size size A n xs) (hb : Below w.heap.size w w') : Reads w' w'.heap.size size A n xs := (h.below hb).more hb.size
section
variable {l : List Int} (hl : l.length ≤ 100000)
theorem hb_best (W : World) (A : Option Addr) (c : Nat) (hr : Reads W W.heap.size 1 A 257 (ints (yam l))) (hl : l.length ≤ 100000) :
  Calls prog 111 #[.slice A 257 c, .int .i64 15] W fun e w' => ∃ A' c', e = .returned (.tuple #[.slice A' 257 c', .int .i64 0]) ∧ Reads w' w'.heap.size 1 A' 257 (ints (hL l)) ∧ Below W.heap.size W w' := by
 have := lref_best_any (yam l) 15 A 257 c W (by omega) hr
 rw [hbest hl] at this
 refine this.mono ?_
 rintro e w' ⟨A', c', rfl, _, h2, h3⟩
 rw [yce] at h2 ⊢
 exact ⟨A', c', rfl, h2, h3⟩
theorem hb_words (W : World) (A : Option Addr) (c : Nat) (hr : Reads W W.heap.size 1 A 257 (ints (hL l))) (hl : l.length ≤ 100000) :
  Calls prog 112 #[.slice A 257 c] W fun e w' => ∃ A' c', e = .returned (.tuple #[.slice A' 257 c', .int .i64 0]) ∧ Reads w' w'.heap.size 2 A' 257 (ybg .i64 (hws l)) ∧ Below W.heap.size W w' := by
 have := cref_words_any (hL l) A 257 c W (by omega) hr
 rw [yh3 (yck hl)] at this
 refine this.mono ?_
 rintro e w' ⟨A', c', rfl, _, h2, h3⟩
 have e2 : (wat ((hL l).map Int.toNat) 16 0).length = 257 := by rw [yaD, qaD, yce]
 rw [e2] at h2 ⊢
 exact ⟨A', c', rfl, h2, h3⟩
theorem hws_len : (hws l).length = 257 := by unfold hws; rw [yaD, qaD, yce]
end
theorem href_bits_any (l : List Int) (A : Option Addr) (n c : Nat) (w : World) (hm : n ≤ 1000000) (hr : Reads w w.heap.size 1 A n (ints l)) :
  Calls prog 66 #[.slice A n c] w fun e w' => HBPost w w' e (hbitF l) := by
 obtain ⟨i0, hi, hz0, hz1, hz9⟩ := qb1 yet
 have en : l.length = n := by have := hr.1; rw [yab] at this; omega
 have hcnt := yg0 l A n c w hm hr
 by_cases hE : (hcF l).2 = 0
 ·obtain ⟨hl, hin0, hf⟩ := hc_ok hE
  have hbf : hbitF l = (hB l, 0) := qag hE
  rw [hf] at hcnt
  rw [hbf]
  have hc2 : Calls prog 110 #[.slice A n c] w fun e w' => ∃ A' c', e = .returned (.tuple #[.slice A' 257 c', .int .i64 0]) ∧ Reads w' w'.heap.size 1 A' 257 (ints (yam l)) ∧ Below w.heap.size w w' := by
   refine hcnt.mono ?_
   rintro e w' ⟨A', c', rfl, _, h2, h3⟩
   rw [yak] at h2 ⊢
   exact ⟨A', c', rfl, h2, h3⟩
  have Hcnt := qaa hc2
  have Hbest := qaa fun W A c hr => hb_best (l := l) W A c hr hl
  have Hwords := qaa fun W A c hr => hb_words (l := l) W A c hr hl
  have Hbits := qaa fun W A c hr => tref_bits_own (hL l) A 257 c W (by omega) (ydl (yck hl)).2 hr
  have Hword := qaa fun W A c s hr => cref_word_any (hws l) A 257 c s W hws_len (by omega) hr (hfit l hl)
  have Hcell : Hid (∀ W, Below w.heap.size w W → ∀ k (hk : k < l.length), ∃ b off, A = some ⟨b, off, none⟩ ∧ W.cell? ⟨b, off + k, none⟩ = some (.int .i64 l[k])) := qaa fun W hW k hk => by
   obtain ⟨b, off, e, hb, hc⟩ := hr.2 (by omega)
   exact ⟨b, off, e, (hW.cell (p := ⟨b, off + k, none⟩) hb).trans (hc k _ (yai l k hk))⟩
  have Hsnoc := qaa (cbits_snoc (hws l) l)
  have Hsm := qaa fun s => (ydS (hfit l hl) s).1
  have Hlen := qaa fun k => yd0 (hfit l hl) (l.take k)
  have Htl := qaa (yfa l)
  have Hlast : Hid (ybo (hws l) (l.take n) = ybo (hws l) l) := qaa (by rw [qar (by omega)])
  have HBe : Hid (yaw (hL l) ++ ybo (hws l) l = hB l) := qaa rfl
  have En := qaa en
  have hni : (n : Int) ≤ 100000 := by omega
  have hnn : n ≤ 100000 := by omega
  clear hr hcnt hc2 hE hl hin0 hf hbf en hm
  generalize hws l = ws at *
  generalize yaw (hL l) = T at *
  generalize hB l = BB at *
  go_enter func66, ntmps66
  go_wp2_with (first
   | (go_at_call 110; refine Hcnt.out.mono ?_; rintro e w2 ⟨A2, c2, rfl, h2, hb2⟩; have H2 := qaa h2; have Hb2 := qaa hb2; clear h2 hb2)
   | (go_at_call 111; refine (Hbest.out _ _ _ H2.out).mono ?_; rintro e w3 ⟨A3, c3, rfl, h3, hb3⟩; have H3 := qaa h3; have Hb3 := qaa (Hb2.out.trans (hb3.mono Hb2.out.size)); clear h3 hb3)
   | (go_at_call 112; refine (Hwords.out _ _ _ H3.out).mono ?_; rintro e w4 ⟨A4, c4, rfl, h4, hb4⟩; have H4 := qaa h4; have H3b := qaa (H3.out.onto hb4); have Hb4 := qaa (Hb3.out.trans (hb4.mono Hb3.out.size)); clear h4 hb4)
   | (go_at_call 113; refine (Hbits.out _ _ _ H3b.out).mono ?_; rintro e w5 ⟨A5, c5, rfl, h5, hb5⟩; have H5 := qaa h5; have Hb5 := qaa hb5; clear h5 hb5))
  have H50 : Hid (w5.ownsRow w4.heap.size 3 1 (.slice A5 T.length c5) T.length (bcs (T ++ ybo ws (l.take 0)))) := qaa (by rw [qbb]; show w5.ownsRow _ _ _ _ _ (bcs (T ++ [])); rw [qa8]; exact H5.out)
  have HL0 : Hid (T.length = T.length + (ybo ws (l.take 0)).length) := qaa rfl
  go_loopw [10, 11, 12, 13] (fun v i dv ev wr => ∃ (k m : Nat) (Av : Option Addr) (cv : Nat), k ≤ n ∧ v = .slice Av m cv ∧ i = .int .i64 k ∧ Hid (m = T.length + (ybo ws (l.take k)).length) ∧ Hid (wr.ownsRow w4.heap.size 3 1 (.slice Av m cv) m (bcs (T ++ ybo ws (l.take k)))) ∧ Hid (Below w4.heap.size w4 wr)) (fun _ i _ _ _ => n - (intOf i).toNat)
  case atStart => exact ⟨0, T.length, A5, c5, by omega, rfl, rfl, HL0, H50, Hb5⟩
  case round =>
   obtain ⟨k, m, Av, cv, hk, rfl, rfl, HL, HO, HB⟩ := hrel
   clear HL0 H50
   by_cases hlt : k < n
   ·have hki : (k : Int) < (n : Int) := by omega
    have hkl : k < l.length := by rw [En.out]; exact hlt
    have hwb : Below w.heap.size w wr := Hb4.out.trans (HB.out.mono Hb4.out.size)
    obtain ⟨b, off, rfl, x1⟩ := Hcell.out wr hwb k hkl
    have hwd := Hword.out wr A4 c4 l[k] (H4.out.onto HB.out)
    have hsn := Hsnoc.out k hkl
    have hsm := Hsm.out l[k]
    have hln := Hlen.out k
    have hkt : (l.take k).length = k := by rw [qao]; omega
    rw [hkt] at hln
    have htl := Htl.out
    have hmm := HL.out
    have hm1 : m ≤ 3300000 := by omega
    obtain ⟨F, hF⟩ : ∃ F, yaC ws l[k] = F := ⟨_, rfl⟩
    rw [hF] at hwd hsn hsm
    have Hwd := qaa hwd
    have Hsn := qaa hsn
    obtain ⟨d, hd⟩ : ∃ d, F.1.length = d := ⟨_, rfl⟩
    rw [hd] at hsm
    have Hd := qaa hd
    have HL2 : Hid (m + d = T.length + (ybo ws (l.take (k + 1))).length) := qaa (by rw [hsn, qab, hd]; omega)
    generalize l[k] = x at *
    have hsz4 := HB.out.size
    clear hwd hsn hkl hd hF hln hkt htl hmm hwb
    go_wp2_with (first
     | (go_at_call 114; refine Hwd.out.mono ?_; unfold CWordPost; rintro e w6 ⟨D, md, cd, rfl, h6, h7, hb6⟩; rw [Hd.out] at h6; subst h6; have H7 := qaa h7; have Hb6 := qaa hb6; have hz6 := hb6.size; clear h7 hb6)
     | (at_builtin; refine yaf _ rfl _ _ 28 rfl w4.heap.size 3 i0 (.int .i64 0) 1 8 underlying28 hi hz0 hz1 hz9 rfl (by decide) _ _ _ rfl (yah HO.out Hb6.out (qad _)) _ d _ _ _ rfl H7.out ?c1 ?c2 ?c3 ?c4 ?_))
    case c1 => exact yfl _
    case c2 => unfold maxLen; omega
    case c3 => omega
    case c4 => omega
    intro v7 w7 ho7 hg7 _
    obtain ⟨A8, c8, rfl, _, _⟩ := yae ho7
    have Ho7 : Hid (w7.ownsRow w4.heap.size 3 1 (.slice A8 (m + d) c8) (m + d) (bcs (T ++ ybo ws (l.take (k + 1))))) := qaa (by
     rw [Hsn.out, ← qam, ybG]
     exact ho7)
    have Hb7 : Hid (Below w4.heap.size w4 w7) := qaa ((HB.out.trans (Hb6.out.mono hsz4)).grown hg7 (by omega) (fun b hb => (HO.out.lt b hb).1))
    clear ho7 hg7
    go_wp2
    go_roundw
    case rel => exact ⟨k + 1, m + d, A8, c8, by omega, rfl, iv (by omega), HL2, Ho7, Hb7⟩
    case measure => simp only [intOf]; omega
   ·obtain rfl : k = n := by omega
    have hii : ¬ (k : Int) < (k : Int) := by omega
    have hO := HO.out
    have hL2 := HL.out
    rw [Hlast.out] at hO hL2
    rw [HBe.out] at hO
    have hml : m = BB.length := by rw [← HBe.out, qab]; exact hL2
    subst hml
    obtain ⟨A9, c9, e9, _, h9⟩ := yae hO
    injection e9 with e1 _ e2
    subst e1 e2
    have H9 := qaa h9
    have Hfin : Hid (Below w.heap.size w wr) := qaa (Hb4.out.trans (HB.out.mono Hb4.out.size))
    clear hO hL2 h9
    go_wp2
    go_ret2
    exact ⟨Av, cv, rfl, H9.out, Hfin.out⟩
 ·have hbf : hbitF l = ([], (hcF l).2) := qae hE
  have hb1 := hc_bad hE
  have hF : hcF l = ([], (hcF l).2) := Prod.ext hb1 rfl
  rw [hF] at hcnt
  rw [hbf]
  have hb2 : ((hcF l).2 == 0) = false := by simpa using hE
  have hb3 : ((hcF l).2 != 0) = true := by simpa using hE
  have Hcnt := qaa hcnt
  clear hr hcnt hbf hb1 hF en hm
  generalize (hcF l).2 = E at *
  go_enter func66, ntmps66
  go_wp2_with (go_at_call 110; refine Hcnt.out.mono ?_; unfold yf9; rintro e w2 ⟨A2, c2, rfl, _, h2, hb2⟩; have Hb2 := qaa hb2; clear hb2 h2)
  go_ret2
  exact ⟨none, 0, rfl, Reads.none_, Hb2.out⟩
theorem yhc (l : List Int) (A : Option Addr) (n c : Nat) (w : World) (hm : n ≤ 1000000) (hr : Reads w w.heap.size 1 A n (ints l)) :
  Calls prog 38 #[.slice A n c] w fun e w' => e = .returned (.tuple #[.string ⟨(hencF l).1.toArray⟩, .int .i64 (hencF l).2]) ∧ Below w.heap.size w w' := by
 have hb := href_bits_any l A n c w hm hr
 by_cases hE : (hcF l).2 = 0
 ·obtain ⟨hl, hin0, hf⟩ := hc_ok hE
  have he : hencF l = (text (hB l), 0) := qag hE
  have hbf : hbitF l = (hB l, 0) := qag hE
  rw [hbf] at hb
  rw [he]
  dsimp only
  have hln := hB_len hl
  have Hb := qaa hb
  have Ht := qaa fun (A : Option Addr) (c : Nat) (W : World) hr => refText_any (hB l) A (hB l).length c W rfl (by omega) hr (hB_bin hl)
  clear hr hb hbf he hE hf hl hin0 hln
  generalize hB l = BB at *
  go_enter func38, ntmps38
  go_wp2_with (first
   | (go_at_call 66; refine Hb.out.mono ?_; unfold HBPost; rintro e w2 ⟨A2, c2, rfl, h2, hb2⟩; have H2 := qaa h2; have Hb2 := qaa hb2; clear h2 hb2)
   | (go_at_call 67; refine (Ht.out _ _ _ H2.out).mono ?_; rintro e w3 ⟨rfl, hb3⟩; have Hb3 := qaa (Hb2.out.trans (hb3.mono Hb2.out.size)); clear hb3))
  go_ret2
  exact ⟨rfl, Hb3.out⟩
 ·have he : hencF l = ([], (hcF l).2) := qae hE
  have hbf : hbitF l = ([], (hcF l).2) := qae hE
  rw [hbf] at hb
  rw [he]
  dsimp only
  have hb2 : ((hcF l).2 == 0) = false := by simpa using hE
  have hb3 : ((hcF l).2 != 0) = true := by simpa using hE
  have Hb := qaa hb
  clear hr hb hbf he hE
  generalize (hcF l).2 = E at *
  go_enter func38, ntmps38
  go_wp2_with (go_at_call 66; refine Hb.out.mono ?_; unfold HBPost; rintro e w2 ⟨A2, c2, rfl, _, hb2⟩; have Hb2 := qaa hb2; clear hb2)
  go_ret2
  exact ⟨rfl, Hb2.out⟩
end Go.Proofs.YtanjhbkbpalnaaaGreat
