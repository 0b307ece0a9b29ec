/-
 What the law of the last of these texts stands on, part 42.
-/
import Derived.Test.YtanjhbkbpalnaaaGreatMa31
import Derived.Test.YtanjhbkbpalnaaaGreatMa33
import Derived.Test.YtanjhbkbpalnaaaGreatMa35
import Derived.Test.YtanjhbkbpalnaaaGreatMa39
set_option maxRecDepth 100000
set_option maxHeartbeats 8000000
open Go.Proofs.Tryz
namespace Go.Proofs.YtanjhbkbpalnaaaGreat
set_option linter.unusedSimpArgs false
set_option linter.unusedVariables false
open Go.ChangeShapes Go.WideShapes Go.ChangeAt Go.RowKit Go.Joins Go.Deep
section
variable {l : List Int}
theorem hc_best (hl : l.length ≤ 100000) (W : World) (A : Option Addr) (c : Nat) (hr : Reads W W.heap.size 1 A 257 (ints (yam l))) :
  Calls prog 103 #[.slice A 257 c, .int .i64 15] W fun e w' => ∃ A' c', e = .returned (.tuple #[.slice A' 257 c', .int .i64 0]) ∧ 257 ≤ c' ∧ Reads w' w'.heap.size 1 A' 257 (ints (hL l)) ∧ Below W.heap.size W w' := by
 have := p_best_any (yam l) 15 A 257 c W (by omega) hr
 rw [hbest hl] at this
 refine this.mono ?_
 rintro e w' ⟨A', c', rfl, h1, h2, h3⟩
 rw [yce] at h1 h2 ⊢
 exact ⟨A', c', rfl, h1, h2, h3⟩
theorem hc_new (hl : l.length ≤ 100000) (W : World) (A : Option Addr) (c : Nat) (hr : Reads W W.heap.size 1 A 257 (ints (hL l))) :
  Calls prog 62 #[.slice A 257 c] W fun e w' => ∃ g, e = .returned (.tuple #[.pointer (some ⟨g, 0, none⟩), .int .i64 0]) ∧ CCode w' w'.heap.size g ((hL l).map Int.toNat) ∧ Below W.heap.size W w' := by
 refine (c_new_any (hL l) A 257 c W (by omega) hr).mono ?_
 rintro e w' ⟨h1, ⟨_, g, _, rfl, h2⟩ | ⟨h2, _⟩⟩
 ·exact ⟨g, rfl, h2.1, h1⟩
 ·exact absurd (yck hl) h2
theorem hc_counts (hE : (hcF l).2 = 0) (A : Option Addr) (n c : Nat) (w : World) (hm : n ≤ 1000000) (hr : Reads w w.heap.size 1 A n (ints l)) :
  Calls prog 102 #[.slice A n c] w fun e w' => ∃ A' c', e = .returned (.tuple #[.slice A' 257 c', .int .i64 0]) ∧ Reads w' w'.heap.size 1 A' 257 (ints (yam l)) ∧ Below w.heap.size w w' := by
 have hcnt := ye5 l A n c w hm hr
 obtain ⟨hl, hin0, hf⟩ := hc_ok hE
 rw [hf] at hcnt
 refine hcnt.mono ?_
 rintro e w' ⟨A', c', rfl, _, h2, h3⟩
 rw [yak] at h2 ⊢
 exact ⟨A', c', rfl, h2, h3⟩
theorem hc_counts_no (hE : (hcF l).2 ≠ 0) (A : Option Addr) (n c : Nat) (w : World) (hm : n ≤ 1000000) (hr : Reads w w.heap.size 1 A n (ints l)) :
  Calls prog 102 #[.slice A n c] w fun e w' => ∃ A' c', e = .returned (.tuple #[.slice A' 0 c', .int .i64 (hcF l).2]) ∧ Below w.heap.size w w' := by
 have hcnt := ye5 l A n c w hm hr
 have hF : hcF l = ([], (hcF l).2) := Prod.ext (hc_bad hE) rfl
 rw [hF] at hcnt
 refine hcnt.mono ?_
 rintro e w' ⟨A', c', rfl, _, h2, h3⟩
 exact ⟨A', c', rfl, h3⟩
end
theorem p_hbest_yes (l : List Int) (A : Option Addr) (n c : Nat) (w : World) (hm : n ≤ 1000000) (hr : Reads w w.heap.size 1 A n (ints l)) (hE : (hcF l).2 = 0) :
  Calls prog 61 #[.slice A n c] w fun e w' => ∃ A2 c2 A3 c3, e = .returned (.tuple #[.slice A2 257 c2, .slice A3 257 c3, .int .i64 0]) ∧ 257 ≤ c3 ∧ Reads w' w'.heap.size 1 A2 257 (ints (yam l)) ∧ Reads w' w'.heap.size 1 A3 257 (ints (hL l)) ∧ Below w.heap.size w w' := by
 obtain ⟨hl, hin0, hf⟩ := hc_ok hE
 have Hcnt := qaa (hc_counts hE A n c w hm hr)
 have Hbest := qaa fun W A c hr => hc_best (l := l) hl W A c hr
 clear hr hE hl hin0 hf hm
 go_enter func61, ntmps61
 go_wp2_with (first
  | (go_at_call 102; refine Hcnt.out.mono ?_; rintro e w2 ⟨A2, c2, rfl, h2, hb2⟩; have H2 := qaa h2; have Hb2 := qaa hb2; clear h2 hb2)
  | (go_at_call 103; refine (Hbest.out _ _ _ H2.out).mono ?_; rintro e w3 ⟨A3, c3, rfl, hc3, h3, hb3⟩; have H3 := qaa h3; have Hc3 := qaa hc3; have H2b := qaa (H2.out.onto hb3); have Hb3 := qaa (Hb2.out.trans (hb3.mono Hb2.out.size)); clear h3 hb3 hc3))
 go_ret3
 exact ⟨A2, c2, A3, c3, rfl, Hc3.out, H2b.out, H3.out, Hb3.out⟩
theorem p_hbest_no (l : List Int) (A : Option Addr) (n c : Nat) (w : World) (hm : n ≤ 1000000) (hr : Reads w w.heap.size 1 A n (ints l)) (hE : (hcF l).2 ≠ 0) :
  Calls prog 61 #[.slice A n c] w fun e w' => e = .returned (.tuple #[.slice none 0 0, .slice none 0 0, .int .i64 (hcF l).2]) ∧ Below w.heap.size w w' := by
 have hb2 : ((hcF l).2 == 0) = false := by simpa using hE
 have hb3 : ((hcF l).2 != 0) = true := by simpa using hE
 have Hcnt := qaa (hc_counts_no hE A n c w hm hr)
 clear hr hE hm
 generalize (hcF l).2 = E at *
 go_enter func61, ntmps61
 go_wp2_with (go_at_call 102; refine Hcnt.out.mono ?_; rintro e w2 ⟨A2, c2, rfl, hb2⟩; have Hb2 := qaa hb2; clear hb2)
 go_ret3
 exact ⟨rfl, Hb2.out⟩
theorem hws_below {B0 B g : Nat} {w1 w' : World} {v : Value} {R : List Nat} (hW : WHold w1 B g v R) (hg : B0 ≤ g) (hB : B0 ≤ B) (hs : B0 ≤ w1.heap.size) (ht : Touch w1 w' (WS g v)) : Below B0 w1 w' :=
 ht.below (fun k _ e => by
  rcases e with e | e
  ·omega
  ·exact qaA hB (hW.2.1.lt k e).1) hs
def HEnc (w4 : World) (T : List Nat) (ws : List (Int × Int)) (l : List Int) (k : Nat) (wr : World) : Prop :=
 ∃ v, WHold wr w4.heap.size w4.heap.size v (T ++ ybo ws (l.take k)) ∧ Below w4.heap.size w4 wr ∧ w4.heap.size ≤ wr.heap.size
theorem HEnc.step {w4 wr : World} {l : List Int} {g k : Nat} (hl : l.length ≤ 100000) (hi : hin l = true) (hc : CCode w4 w4.heap.size g ((hL l).map Int.toNat)) (hk : k < l.length) (h : HEnc w4 (yaw (hL l)) (hws l) l k wr) :
  Calls prog 64 #[.pointer (some ⟨g, 0, none⟩), .pointer (some ⟨w4.heap.size, 0, none⟩), .int .i64 l[k]] wr fun e w' => e = .returned (.int .i64 0) ∧ HEnc w4 (yaw (hL l)) (hws l) l (k + 1) w' := by
 obtain ⟨v, h1, h2, h3⟩ := h
 have hln : (yaw (hL l) ++ ybo (hws l) (l.take k)).length ≤ 1099511627776 := by
  have a := yfa l
  have b := yd0 (hfit l hl) (l.take k)
  rw [qao] at b
  rw [qab]
  omega
 refine (c_put_yes ((hL l).map Int.toNat) w4.heap.size w4.heap.size g w4.heap.size v _ l[k] wr (hc.below h2) (by rw [qaD, yce]; omega) (hL_word hl hi _ (qaq hk)) (hfit l hl) h1 h3 hln).mono ?_
 rintro e w' ⟨rfl, v2, g1, g2, g3⟩
 refine ⟨rfl, v2, ?_, h2.trans (hws_below h1 (qad _) (qad _) h3 g2), qaA h3 g2.size⟩
 rw [cbits_snoc (hws l) l k hk, ← qam]
 exact g1
theorem p_hencode_any (l : List Int) (A : Option Addr) (n c : Nat) (w : World) (hm : n ≤ 1000000) (hr : Reads w w.heap.size 1 A n (ints l)) :
  Calls prog 35 #[.slice A n c] w fun e w' => e = .returned (.tuple #[.string ⟨(hencF l).1.toArray⟩, .int .i64 (hencF l).2]) ∧ Below w.heap.size w w' := by
 have en : l.length = n := by have := hr.1; rw [yab] at this; omega
 by_cases hE : (hcF l).2 = 0
 ·obtain ⟨hl, hin0, hf⟩ := hc_ok hE
  have he : hencF l = (text (hB l), 0) := qag hE
  rw [he]
  dsimp only
  have Hbest := qaa (p_hbest_yes l A n c w hm hr hE)
  have Hnew := qaa fun W A c hr => hc_new (l := l) hl W A c hr
  have Hput := qaa fun (W : World) A c (hr : Reads W W.heap.size 1 A 257 (ints (hL l))) (hc : 257 ≤ c) => p_tput_yes W.heap.size W.heap.size W.heap.size (.slice none 0 0) [] (hL l) A 257 c (W.alloc (.cells #[.slice none 0 0, .int .i64 0] 102)) (hr.alloc (qad _) _) ⟨qad _, qad _⟩ (yck hl) (twriter_new W) (by simp) (by simp) hc
  have Hstep := qaa fun (w4 wr : World) g k hc hk h => HEnc.step (w4 := w4) (wr := wr) (l := l) (g := g) (k := k) hl hin0 hc hk h
  have Hcell : Hid (∀ W, Below w.heap.size w W → ∀ k (hk : k < l.length), ∃ b off, A = some ⟨b, off, none⟩ ∧ W.cell? ⟨b, off + k, none⟩ = some (.int .i64 l[k])) := qaa fun W hW k hk => by
   obtain ⟨b, off, e, hb, hc⟩ := hr.2 (by omega)
   exact ⟨b, off, e, (hW.cell (p := ⟨b, off + k, none⟩) hb).trans (hc k _ (yai l k hk))⟩
  have Hlast : Hid (yaw (hL l) ++ ybo (hws l) (l.take n) = hB l) := qaa (by rw [qar (by omega)]; rfl)
  have En := qaa en
  have hni : (n : Int) ≤ 100000 := by omega
  have hput0 : ∀ T : List Nat, [] ++ T = T ++ ybo (hws l) (l.take 0) := fun T => by rw [qbb]; simp [ybo]
  have Hp0 := qaa hput0
  clear hr hE hl hin0 hf he en hm hput0
  generalize hws l = ws at *
  generalize yaw (hL l) = T at *
  generalize hB l = BB at *
  go_enter func35, ntmps35
  go_wp2_with (first
   | (go_at_call 61; refine Hbest.out.mono ?_; rintro e w3 ⟨A2, c2, A3, c3, rfl, hc3, _, h3, hb3⟩; have H3 := qaa h3; have Hc3 := qaa hc3; have Hb3 := qaa hb3; clear h3 hb3 hc3)
   | (go_at_call 62; refine (Hnew.out _ _ _ H3.out).mono ?_; rintro e w4 ⟨g, rfl, h4, hb4⟩; have H4 := qaa h4; have H3b := qaa (H3.out.onto hb4); have Hb4 := qaa (Hb3.out.trans (hb4.mono Hb3.out.size)); clear h4 hb4)
   | (go_at_call 63; refine (Hput.out w4 _ _ H3b.out Hc3.out).mono ?_; rintro e w5 ⟨rfl, v5, hW5, ht5, hs5⟩; have HW5 := qaa hW5; have Ht5 := qaa ht5; clear hW5 ht5 hs5))
  have HE0 : Hid (HEnc w4 T ws l 0 w5) := qaa (by
   have h1 := HW5.out
   rw [Hp0.out] at h1
   have h2 : Below w4.heap.size w4 w5 := twriter_back rfl Ht5.out (fun k e => by cases e)
   exact ⟨v5, h1, h2, h2.size⟩)
  clear HW5 Ht5 Hput Hnew Hbest H3 H3b Hc3 Hp0
  go_loopw [11, 30] (fun xv i wr => ∃ k : Nat, k ≤ n ∧ i = .int .i64 k ∧ Hid (HEnc w4 T ws l k wr)) (fun _ i _ => n - (intOf i).toNat)
  case atStart => exact ⟨0, by omega, rfl, HE0⟩
  case round =>
   obtain ⟨k, hk, rfl, HI⟩ := hrel
   clear HE0
   have hwb : Below w.heap.size w wr := by
    obtain ⟨v, h1, h2, h3⟩ := HI.out
    exact Hb4.out.trans (h2.mono Hb4.out.size)
   have Hwb := qaa hwb
   clear hwb
   by_cases hlt : k < n
   ·have hki : (k : Int) < (n : Int) := by omega
    have hkl : k < l.length := by rw [En.out]; exact hlt
    obtain ⟨b, off, rfl, x1⟩ := Hcell.out wr Hwb.out k hkl
    have Hst := qaa (Hstep.out w4 wr g k H4.out hkl HI.out)
    generalize l[k] = x at *
    clear hkl
    go_wp2_with (go_at_call 64; refine Hst.out.mono ?_; rintro e w6 ⟨rfl, h6⟩; have H6 := qaa h6; clear h6)
    go_roundw
    case rel => exact ⟨k + 1, by omega, iv (by omega), H6⟩
    case measure => simp only [intOf]; omega
   ·obtain rfl : k = n := by omega
    have hii : ¬ (k : Int) < (k : Int) := by omega
    obtain ⟨v, hW, _, _⟩ := HI.out
    rw [Hlast.out] at hW
    have HW := qaa hW
    clear hW
    go_wp2_with (go_at_call 65; refine (wtext_any _ _ _ _ _ HW.out).mono ?_; rintro e w7 ⟨rfl, rfl⟩)
    go_ret2
    exact ⟨rfl, Hwb.out⟩
 ·have he : hencF l = ([], (hcF l).2) := qae hE
  rw [he]
  dsimp only
  have hb2 : ((hcF l).2 == 0) = false := by simpa using hE
  have hb3 : ((hcF l).2 != 0) = true := by simpa using hE
  have Hbest := qaa (p_hbest_no l A n c w hm hr hE)
  clear hr he hE en hm
  generalize (hcF l).2 = E at *
  go_enter func35, ntmps35
  go_wp2_with (go_at_call 61; refine Hbest.out.mono ?_; rintro e w2 ⟨rfl, hb2⟩; have Hb2 := qaa hb2; clear hb2)
  go_ret2
  exact ⟨rfl, Hb2.out⟩
end Go.Proofs.YtanjhbkbpalnaaaGreat
