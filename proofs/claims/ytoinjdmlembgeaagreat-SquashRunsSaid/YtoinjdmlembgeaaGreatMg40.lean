/-
 What the law of the last of these texts stands on, part 40.
-/
import Derived.Test.YtoinjdmlembgeaaGreatMg33
import Derived.Test.YtoinjdmlembgeaaGreatMg38
import Derived.Test.YtoinjdmlembgeaaGreatMg39
namespace Go.Proofs.YtoinjdmlembgeaaGreat
set_option linter.unusedSimpArgs false
set_option linter.unusedVariables false
open Go.ChangeShapes Go.WideShapes Go.ChangeAt Go.RowKit Go.Joins Go.Deep
def hbitF (l : List Int) : List Nat × Int := if (hcF l).2 = 0 then (hB l, 0) else ([], (hcF l).2)
def HBPost (w w' : World) (e : Ending) (F : List Nat × Int) : Prop := ∃ A' c', e = .returned (.tuple #[.slice A' F.1.length c', .int .i64 F.2]) ∧ Reads w' w'.heap.size 1 A' F.1.length (bcs F.1) ∧ Below w.heap.size w w'
theorem cbits_snoc (ws : List (Int × Int)) (l : List Int) (k : Nat) (hk : k < l.length) : ybu ws (l.take (k + 1)) = ybu ws (l.take k) ++ (yaD ws l[k]).1 := by
 rw [List.take_succ_eq_append_getElem hk]
 unfold ybu
 rw [List.flatMap_append, List.flatMap_singleton]
theorem Reads.onto {w w' : World} {size n : Nat} {A : Option Addr} {xs : List Value} (h : Reads w w.heap.size size A n xs) (hb : Below w.heap.size w w') : Reads w' w'.heap.size size A n xs := (h.below hb).more hb.size
section
variable {l : List Int} (hl : l.length ≤ 100000)
theorem hb_best (W : World) (A : Option Addr) (c : Nat) (hr : Reads W W.heap.size 1 A 257 (ints (yam l))) (hl : l.length ≤ 100000) :
  Calls Tryz.prog 73 #[.slice A 257 c, .int .i64 15] W fun e w' => ∃ A' c', e = .returned (.tuple #[.slice A' 257 c', .int .i64 0]) ∧ Reads w' w'.heap.size 1 A' 257 (ints (hL l)) ∧ Below W.heap.size W w' := by
 have := lref_best_any (yam l) 15 A 257 c W (by omega) hr
 rw [hbest hl] at this
 refine this.mono ?_
 rintro e w' ⟨A', c', rfl, _, h2, h3⟩
 rw [ycn] at h2 ⊢
 exact ⟨A', c', rfl, h2, h3⟩
theorem hb_words (W : World) (A : Option Addr) (c : Nat) (hr : Reads W W.heap.size 1 A 257 (ints (hL l))) (hl : l.length ≤ 100000) :
  Calls Tryz.prog 74 #[.slice A 257 c] W fun e w' => ∃ A' c', e = .returned (.tuple #[.slice A' 257 c', .int .i64 0]) ∧ Reads w' w'.heap.size 2 A' 257 (ybi .i64 (hws l)) ∧ Below W.heap.size W w' := by
 have := cref_words_any (hL l) A 257 c W (by omega) hr
 rw [yho (ycl hl)] at this
 refine this.mono ?_
 rintro e w' ⟨A', c', rfl, _, h2, h3⟩
 have e2 : (wat ((hL l).map Int.toNat) 16 0).length = 257 := by rw [yaF, List.length_map, ycn]
 rw [e2] at h2 ⊢
 exact ⟨A', c', rfl, h2, h3⟩
theorem hws_len : (hws l).length = 257 := by unfold hws; rw [yaF, List.length_map, ycn]
end
set_option maxRecDepth 100000 in
set_option maxHeartbeats 8000000 in
theorem href_bits_any (l : List Int) (A : Option Addr) (n c : Nat) (w : World) (hm : n ≤ 1000000) (hr : Reads w w.heap.size 1 A n (ints l)) :
  Calls Tryz.prog 33 #[.slice A n c] w fun e w' => HBPost w w' e (hbitF l) := by
 obtain ⟨i0, hi, hz0, hz1, hz9⟩ := info_parts ye5
 have en : l.length = n := by have := hr.1; rw [yab] at this; omega
 have hcnt := yhL l A n c w hm hr
 by_cases hE : (hcF l).2 = 0
 ·obtain ⟨hl, hin0, hf⟩ := hc_ok hE
  have hbf : hbitF l = (hB l, 0) := if_pos hE
  rw [hf] at hcnt
  rw [hbf]
  have hc2 : Calls Tryz.prog 72 #[.slice A n c] w fun e w' => ∃ A' c', e = .returned (.tuple #[.slice A' 257 c', .int .i64 0]) ∧ Reads w' w'.heap.size 1 A' 257 (ints (yam l)) ∧ Below w.heap.size w w' := by
   refine hcnt.mono ?_
   rintro e w' ⟨A', c', rfl, _, h2, h3⟩
   rw [yal] at h2 ⊢
   exact ⟨A', c', rfl, h2, h3⟩
  have Hcnt := Lib.hid hc2
  have Hbest := Lib.hid fun W A c hr => hb_best (l := l) W A c hr hl
  have Hwords := Lib.hid fun W A c hr => hb_words (l := l) W A c hr hl
  have Hbits := Lib.hid fun W A c hr => tref_bits_own (hL l) A 257 c W (by omega) (ydt (ycl hl)).2 hr
  have Hword := Lib.hid fun W A c s hr => cref_word_any (hws l) A 257 c s W hws_len (by omega) hr (hfit l hl)
  have Hcell : Hid (∀ W, Below w.heap.size w W → ∀ k (hk : k < l.length), ∃ b off, A = some ⟨b, off, none⟩ ∧ W.cell? ⟨b, off + k, none⟩ = some (.int .i64 l[k])) := Lib.hid fun W hW k hk => by
   obtain ⟨b, off, e, hb, hc⟩ := hr.2 (by omega)
   exact ⟨b, off, e, (hW.cell (p := ⟨b, off + k, none⟩) hb).trans (hc k _ (yai l k hk))⟩
  have Hsnoc := Lib.hid (cbits_snoc (hws l) l)
  have Hsm := Lib.hid fun s => (yet (hfit l hl) s).1
  have Hlen := Lib.hid fun k => yd3 (hfit l hl) (l.take k)
  have Htl := Lib.hid (yfw l)
  have Hlast : Hid (ybu (hws l) (l.take n) = ybu (hws l) l) := Lib.hid (by rw [List.take_of_length_le (by omega)])
  have HBe : Hid (yav (hL l) ++ ybu (hws l) l = hB l) := Lib.hid rfl
  have En := Lib.hid en
  have hni : (n : Int) ≤ 100000 := by omega
  have hnn : n ≤ 100000 := by omega
  clear hr hcnt hc2 hE hl hin0 hf hbf en hm
  generalize hws l = ws at *
  generalize yav (hL l) = T at *
  generalize hB l = BB at *
  go_enter Tryz.func33, Tryz.ntmps33
  go_wp2_with (first
   | (go_at_call 72; refine Hcnt.out.mono ?_; rintro e w2 ⟨A2, c2, rfl, h2, hb2⟩; have H2 := Lib.hid h2; have Hb2 := Lib.hid hb2; clear h2 hb2)
   | (go_at_call 73; refine (Hbest.out _ _ _ H2.out).mono ?_; rintro e w3 ⟨A3, c3, rfl, h3, hb3⟩; have H3 := Lib.hid h3; have Hb3 := Lib.hid (Hb2.out.trans (hb3.mono Hb2.out.size)); clear h3 hb3)
   | (go_at_call 74; refine (Hwords.out _ _ _ H3.out).mono ?_; rintro e w4 ⟨A4, c4, rfl, h4, hb4⟩; have H4 := Lib.hid h4; have H3b := Lib.hid (H3.out.onto hb4); have Hb4 := Lib.hid (Hb3.out.trans (hb4.mono Hb3.out.size)); clear h4 hb4)
   | (go_at_call 75; refine (Hbits.out _ _ _ H3b.out).mono ?_; rintro e w5 ⟨A5, c5, rfl, h5, hb5⟩; have H5 := Lib.hid h5; have Hb5 := Lib.hid hb5; clear h5 hb5))
  have H50 : Hid (w5.ownsRow w4.heap.size 3 1 (.slice A5 T.length c5) T.length (bcs (T ++ ybu ws (l.take 0)))) := Lib.hid (by rw [List.take_zero]; show w5.ownsRow _ _ _ _ _ (bcs (T ++ [])); rw [List.append_nil]; exact H5.out)
  have HL0 : Hid (T.length = T.length + (ybu ws (l.take 0)).length) := Lib.hid rfl
  go_loopw [10, 11, 12, 13] (fun v i dv ev wr => ∃ (k m : Nat) (Av : Option Addr) (cv : Nat), k ≤ n ∧ v = .slice Av m cv ∧ i = .int .i64 k ∧ Hid (m = T.length + (ybu ws (l.take k)).length) ∧ Hid (wr.ownsRow w4.heap.size 3 1 (.slice Av m cv) m (bcs (T ++ ybu ws (l.take k)))) ∧ Hid (Below w4.heap.size w4 wr)) (fun _ i _ _ _ => n - (intOf i).toNat)
  case atStart => exact ⟨0, T.length, A5, c5, by omega, rfl, rfl, HL0, H50, Hb5⟩
  case round =>
   obtain ⟨k, m, Av, cv, hk, rfl, rfl, HL, HO, HB⟩ := hrel
   clear HL0 H50
   by_cases hlt : k < n
   ·have hki : (k : Int) < (n : Int) := by omega
    have hkl : k < l.length := by rw [En.out]; exact hlt
    have hwb : Below w.heap.size w wr := Hb4.out.trans (HB.out.mono Hb4.out.size)
    obtain ⟨b, off, rfl, x1⟩ := Hcell.out wr hwb k hkl
    have hwd := Hword.out wr A4 c4 l[k] (H4.out.onto HB.out)
    have hsn := Hsnoc.out k hkl
    have hsm := Hsm.out l[k]
    have hln := Hlen.out k
    have hkt : (l.take k).length = k := by rw [List.length_take]; omega
    rw [hkt] at hln
    have htl := Htl.out
    have hmm := HL.out
    have hm1 : m ≤ 3300000 := by omega
    obtain ⟨F, hF⟩ : ∃ F, yaD ws l[k] = F := ⟨_, rfl⟩
    rw [hF] at hwd hsn hsm
    have Hwd := Lib.hid hwd
    have Hsn := Lib.hid hsn
    obtain ⟨d, hd⟩ : ∃ d, F.1.length = d := ⟨_, rfl⟩
    rw [hd] at hsm
    have Hd := Lib.hid hd
    have HL2 : Hid (m + d = T.length + (ybu ws (l.take (k + 1))).length) := Lib.hid (by rw [hsn, List.length_append, hd]; omega)
    generalize l[k] = x at *
    have hsz4 := HB.out.size
    clear hwd hsn hkl hd hF hln hkt htl hmm hwb
    go_wp2_with (first
     | (go_at_call 76; refine Hwd.out.mono ?_; unfold CWordPost; rintro e w6 ⟨D, md, cd, rfl, h6, h7, hb6⟩; rw [Hd.out] at h6; subst h6; have H7 := Lib.hid h7; have Hb6 := Lib.hid hb6; have hz6 := hb6.size; clear h7 hb6)
     | (at_builtin; refine yaf _ rfl _ _ 28 rfl w4.heap.size 3 i0 (.int .i64 0) 1 8 Tryz.underlying28 hi hz0 hz1 hz9 rfl (by decide) _ _ _ rfl (yah HO.out Hb6.out (Nat.le_refl _)) _ d _ _ _ rfl H7.out ?c1 ?c2 ?c3 ?c4 ?_))
    case c1 => exact yf6 _
    case c2 => unfold maxLen; omega
    case c3 => omega
    case c4 => omega
    intro v7 w7 ho7 hg7 _
    obtain ⟨A8, c8, rfl, _, _⟩ := yae ho7
    have Ho7 : Hid (w7.ownsRow w4.heap.size 3 1 (.slice A8 (m + d) c8) (m + d) (bcs (T ++ ybu ws (l.take (k + 1))))) := Lib.hid (by
     rw [Hsn.out, ← List.append_assoc, ybQ]
     exact ho7)
    have Hb7 : Hid (Below w4.heap.size w4 w7) := Lib.hid ((HB.out.trans (Hb6.out.mono hsz4)).grown hg7 (by omega) (fun b hb => (HO.out.lt b hb).1))
    clear ho7 hg7
    go_wp2
    go_roundw
    case rel => exact ⟨k + 1, m + d, A8, c8, by omega, rfl, iv (by omega), HL2, Ho7, Hb7⟩
    case measure => simp only [intOf]; omega
   ·obtain rfl : k = n := by omega
    have hii : ¬ (k : Int) < (k : Int) := by omega
    have hO := HO.out
    have hL2 := HL.out
    rw [Hlast.out] at hO hL2
    rw [HBe.out] at hO
    have hml : m = BB.length := by rw [← HBe.out, List.length_append]; exact hL2
    subst hml
    obtain ⟨A9, c9, e9, _, h9⟩ := yae hO
    injection e9 with e1 _ e2
    subst e1 e2
    have H9 := Lib.hid h9
    have Hfin : Hid (Below w.heap.size w wr) := Lib.hid (Hb4.out.trans (HB.out.mono Hb4.out.size))
    clear hO hL2 h9
    go_wp2
    go_ret2
    exact ⟨Av, cv, rfl, H9.out, Hfin.out⟩
 ·have hbf : hbitF l = ([], (hcF l).2) := if_neg hE
  have hb1 := hc_bad hE
  have hF : hcF l = ([], (hcF l).2) := Prod.ext hb1 rfl
  rw [hF] at hcnt
  rw [hbf]
  have hb2 : ((hcF l).2 == 0) = false := by simpa using hE
  have hb3 : ((hcF l).2 != 0) = true := by simpa using hE
  have Hcnt := Lib.hid hcnt
  clear hr hcnt hbf hb1 hF en hm
  generalize (hcF l).2 = E at *
  go_enter Tryz.func33, Tryz.ntmps33
  go_wp2_with (go_at_call 72; refine Hcnt.out.mono ?_; unfold yfJ; rintro e w2 ⟨A2, c2, rfl, _, h2, hb2⟩; have Hb2 := Lib.hid hb2; clear hb2 h2)
  go_ret2
  exact ⟨none, 0, rfl, Reads.none_, Hb2.out⟩
set_option maxRecDepth 100000 in
set_option maxHeartbeats 2000000 in
theorem yh2 (l : List Int) (A : Option Addr) (n c : Nat) (w : World) (hm : n ≤ 1000000) (hr : Reads w w.heap.size 1 A n (ints l)) :
  Calls Tryz.prog 17 #[.slice A n c] w fun e w' => e = .returned (.tuple #[.string ⟨(hencF l).1.toArray⟩, .int .i64 (hencF l).2]) ∧ Below w.heap.size w w' := by
 have hb := href_bits_any l A n c w hm hr
 by_cases hE : (hcF l).2 = 0
 ·obtain ⟨hl, hin0, hf⟩ := hc_ok hE
  have he : hencF l = (text (hB l), 0) := if_pos hE
  have hbf : hbitF l = (hB l, 0) := if_pos hE
  rw [hbf] at hb
  rw [he]
  dsimp only
  have hln := hB_len hl
  have Hb := Lib.hid hb
  have Ht := Lib.hid fun (A : Option Addr) (c : Nat) (W : World) hr => refText_any (hB l) A (hB l).length c W rfl (by omega) hr (hB_bin hl)
  clear hr hb hbf he hE hf hl hin0 hln
  generalize hB l = BB at *
  go_enter Tryz.func17, Tryz.ntmps17
  go_wp2_with (first
   | (go_at_call 33; refine Hb.out.mono ?_; unfold HBPost; rintro e w2 ⟨A2, c2, rfl, h2, hb2⟩; have H2 := Lib.hid h2; have Hb2 := Lib.hid hb2; clear h2 hb2)
   | (go_at_call 34; refine (Ht.out _ _ _ H2.out).mono ?_; rintro e w3 ⟨rfl, hb3⟩; have Hb3 := Lib.hid (Hb2.out.trans (hb3.mono Hb2.out.size)); clear hb3))
  go_ret2
  exact ⟨rfl, Hb3.out⟩
 ·have he : hencF l = ([], (hcF l).2) := if_neg hE
  have hbf : hbitF l = ([], (hcF l).2) := if_neg hE
  rw [hbf] at hb
  rw [he]
  dsimp only
  have hb2 : ((hcF l).2 == 0) = false := by simpa using hE
  have hb3 : ((hcF l).2 != 0) = true := by simpa using hE
  have Hb := Lib.hid hb
  clear hr hb hbf he hE
  generalize (hcF l).2 = E at *
  go_enter Tryz.func17, Tryz.ntmps17
  go_wp2_with (go_at_call 33; refine Hb.out.mono ?_; unfold HBPost; rintro e w2 ⟨A2, c2, rfl, _, hb2⟩; have Hb2 := Lib.hid hb2; clear hb2)
  go_ret2
  exact ⟨rfl, Hb2.out⟩
section
variable {l : List Int}
theorem hc_best (hl : l.length ≤ 100000) (W : World) (A : Option Addr) (c : Nat) (hr : Reads W W.heap.size 1 A 257 (ints (yam l))) :
  Calls Tryz.prog 63 #[.slice A 257 c, .int .i64 15] W fun e w' => ∃ A' c', e = .returned (.tuple #[.slice A' 257 c', .int .i64 0]) ∧ 257 ≤ c' ∧ Reads w' w'.heap.size 1 A' 257 (ints (hL l)) ∧ Below W.heap.size W w' := by
 have := p_best_any (yam l) 15 A 257 c W (by omega) hr
 rw [hbest hl] at this
 refine this.mono ?_
 rintro e w' ⟨A', c', rfl, h1, h2, h3⟩
 rw [ycn] at h1 h2 ⊢
 exact ⟨A', c', rfl, h1, h2, h3⟩
theorem hc_new (hl : l.length ≤ 100000) (W : World) (A : Option Addr) (c : Nat) (hr : Reads W W.heap.size 1 A 257 (ints (hL l))) :
  Calls Tryz.prog 28 #[.slice A 257 c] W fun e w' => ∃ g, e = .returned (.tuple #[.pointer (some ⟨g, 0, none⟩), .int .i64 0]) ∧ CCode w' w'.heap.size g ((hL l).map Int.toNat) ∧ Below W.heap.size W w' := by
 refine (c_new_any (hL l) A 257 c W (by omega) hr).mono ?_
 rintro e w' ⟨h1, ⟨_, g, _, rfl, h2⟩ | ⟨h2, _⟩⟩
 ·exact ⟨g, rfl, h2.1, h1⟩
 ·exact absurd (ycl hl) h2
theorem hc_counts (hE : (hcF l).2 = 0) (A : Option Addr) (n c : Nat) (w : World) (hm : n ≤ 1000000) (hr : Reads w w.heap.size 1 A n (ints l)) :
  Calls Tryz.prog 62 #[.slice A n c] w fun e w' => ∃ A' c', e = .returned (.tuple #[.slice A' 257 c', .int .i64 0]) ∧ Reads w' w'.heap.size 1 A' 257 (ints (yam l)) ∧ Below w.heap.size w w' := by
 have hcnt := yeU l A n c w hm hr
 obtain ⟨hl, hin0, hf⟩ := hc_ok hE
 rw [hf] at hcnt
 refine hcnt.mono ?_
 rintro e w' ⟨A', c', rfl, _, h2, h3⟩
 rw [yal] at h2 ⊢
 exact ⟨A', c', rfl, h2, h3⟩
theorem hc_counts_no (hE : (hcF l).2 ≠ 0) (A : Option Addr) (n c : Nat) (w : World) (hm : n ≤ 1000000) (hr : Reads w w.heap.size 1 A n (ints l)) :
  Calls Tryz.prog 62 #[.slice A n c] w fun e w' => ∃ A' c', e = .returned (.tuple #[.slice A' 0 c', .int .i64 (hcF l).2]) ∧ Below w.heap.size w w' := by
 have hcnt := yeU l A n c w hm hr
 have hF : hcF l = ([], (hcF l).2) := Prod.ext (hc_bad hE) rfl
 rw [hF] at hcnt
 refine hcnt.mono ?_
 rintro e w' ⟨A', c', rfl, _, h2, h3⟩
 exact ⟨A', c', rfl, h3⟩
end
set_option maxRecDepth 100000 in
set_option maxHeartbeats 4000000 in
theorem p_hbest_yes (l : List Int) (A : Option Addr) (n c : Nat) (w : World) (hm : n ≤ 1000000) (hr : Reads w w.heap.size 1 A n (ints l)) (hE : (hcF l).2 = 0) :
  Calls Tryz.prog 27 #[.slice A n c] w fun e w' => ∃ A2 c2 A3 c3, e = .returned (.tuple #[.slice A2 257 c2, .slice A3 257 c3, .int .i64 0]) ∧ 257 ≤ c3 ∧ Reads w' w'.heap.size 1 A2 257 (ints (yam l)) ∧ Reads w' w'.heap.size 1 A3 257 (ints (hL l)) ∧ Below w.heap.size w w' := by
 obtain ⟨hl, hin0, hf⟩ := hc_ok hE
 have Hcnt := Lib.hid (hc_counts hE A n c w hm hr)
 have Hbest := Lib.hid fun W A c hr => hc_best (l := l) hl W A c hr
 clear hr hE hl hin0 hf hm
 go_enter Tryz.func27, Tryz.ntmps27
 go_wp2_with (first
  | (go_at_call 62; refine Hcnt.out.mono ?_; rintro e w2 ⟨A2, c2, rfl, h2, hb2⟩; have H2 := Lib.hid h2; have Hb2 := Lib.hid hb2; clear h2 hb2)
  | (go_at_call 63; refine (Hbest.out _ _ _ H2.out).mono ?_; rintro e w3 ⟨A3, c3, rfl, hc3, h3, hb3⟩; have H3 := Lib.hid h3; have Hc3 := Lib.hid hc3; have H2b := Lib.hid (H2.out.onto hb3); have Hb3 := Lib.hid (Hb2.out.trans (hb3.mono Hb2.out.size)); clear h3 hb3 hc3))
 go_ret3
 exact ⟨A2, c2, A3, c3, rfl, Hc3.out, H2b.out, H3.out, Hb3.out⟩
set_option maxRecDepth 100000 in
set_option maxHeartbeats 4000000 in
theorem p_hbest_no (l : List Int) (A : Option Addr) (n c : Nat) (w : World) (hm : n ≤ 1000000) (hr : Reads w w.heap.size 1 A n (ints l)) (hE : (hcF l).2 ≠ 0) :
  Calls Tryz.prog 27 #[.slice A n c] w fun e w' => e = .returned (.tuple #[.slice none 0 0, .slice none 0 0, .int .i64 (hcF l).2]) ∧ Below w.heap.size w w' := by
 have hb2 : ((hcF l).2 == 0) = false := by simpa using hE
 have hb3 : ((hcF l).2 != 0) = true := by simpa using hE
 have Hcnt := Lib.hid (hc_counts_no hE A n c w hm hr)
 clear hr hE hm
 generalize (hcF l).2 = E at *
 go_enter Tryz.func27, Tryz.ntmps27
 go_wp2_with (go_at_call 62; refine Hcnt.out.mono ?_; rintro e w2 ⟨A2, c2, rfl, hb2⟩; have Hb2 := Lib.hid hb2; clear hb2)
 go_ret3
 exact ⟨rfl, Hb2.out⟩
theorem hws_below {B0 B g : Nat} {w1 w' : World} {v : Value} {R : List Nat} (hW : WHold w1 B g v R) (hg : B0 ≤ g) (hB : B0 ≤ B) (hs : B0 ≤ w1.heap.size) (ht : Touch w1 w' (WS g v)) : Below B0 w1 w' :=
 ht.below (fun k _ e => by
  rcases e with e | e
  ·omega
  ·exact Nat.le_trans hB (hW.2.1.lt k e).1) hs
def HEnc (w4 : World) (T : List Nat) (ws : List (Int × Int)) (l : List Int) (k : Nat) (wr : World) : Prop :=
 ∃ v, WHold wr w4.heap.size w4.heap.size v (T ++ ybu ws (l.take k)) ∧ Below w4.heap.size w4 wr ∧ w4.heap.size ≤ wr.heap.size
theorem HEnc.step {w4 wr : World} {l : List Int} {g k : Nat} (hl : l.length ≤ 100000) (hi : hin l = true) (hc : CCode w4 w4.heap.size g ((hL l).map Int.toNat)) (hk : k < l.length) (h : HEnc w4 (yav (hL l)) (hws l) l k wr) :
  Calls Tryz.prog 30 #[.pointer (some ⟨g, 0, none⟩), .pointer (some ⟨w4.heap.size, 0, none⟩), .int .i64 l[k]] wr fun e w' => e = .returned (.int .i64 0) ∧ HEnc w4 (yav (hL l)) (hws l) l (k + 1) w' := by
 obtain ⟨v, h1, h2, h3⟩ := h
 have hln : (yav (hL l) ++ ybu (hws l) (l.take k)).length ≤ 1099511627776 := by
  have a := yfw l
  have b := yd3 (hfit l hl) (l.take k)
  rw [List.length_take] at b
  rw [List.length_append]
  omega
 refine (c_put_yes ((hL l).map Int.toNat) w4.heap.size w4.heap.size g w4.heap.size v _ l[k] wr (hc.below h2) (by rw [List.length_map, ycn]; omega) (hL_word hl hi _ (List.getElem_mem hk)) (hfit l hl) h1 h3 hln).mono ?_
 rintro e w' ⟨rfl, v2, g1, g2, g3⟩
 refine ⟨rfl, v2, ?_, h2.trans (hws_below h1 (Nat.le_refl _) (Nat.le_refl _) h3 g2), Nat.le_trans h3 g2.size⟩
 rw [cbits_snoc (hws l) l k hk, ← List.append_assoc]
 exact g1
set_option maxRecDepth 100000 in
set_option maxHeartbeats 8000000 in
theorem p_hencode_any (l : List Int) (A : Option Addr) (n c : Nat) (w : World) (hm : n ≤ 1000000) (hr : Reads w w.heap.size 1 A n (ints l)) :
  Calls Tryz.prog 14 #[.slice A n c] w fun e w' => e = .returned (.tuple #[.string ⟨(hencF l).1.toArray⟩, .int .i64 (hencF l).2]) ∧ Below w.heap.size w w' := by
 have en : l.length = n := by have := hr.1; rw [yab] at this; omega
 by_cases hE : (hcF l).2 = 0
 ·obtain ⟨hl, hin0, hf⟩ := hc_ok hE
  have he : hencF l = (text (hB l), 0) := if_pos hE
  rw [he]
  dsimp only
  have Hbest := Lib.hid (p_hbest_yes l A n c w hm hr hE)
  have Hnew := Lib.hid fun W A c hr => hc_new (l := l) hl W A c hr
  have Hput := Lib.hid fun (W : World) A c (hr : Reads W W.heap.size 1 A 257 (ints (hL l))) (hc : 257 ≤ c) => p_tput_yes W.heap.size W.heap.size W.heap.size (.slice none 0 0) [] (hL l) A 257 c (W.alloc (.cells #[.slice none 0 0, .int .i64 0] 63)) (hr.alloc (Nat.le_refl _) _) ⟨Nat.le_refl _, Nat.le_refl _⟩ (ycl hl) (twriter_new W) (by simp) (by simp) hc
  have Hstep := Lib.hid fun (w4 wr : World) g k hc hk h => HEnc.step (w4 := w4) (wr := wr) (l := l) (g := g) (k := k) hl hin0 hc hk h
  have Hcell : Hid (∀ W, Below w.heap.size w W → ∀ k (hk : k < l.length), ∃ b off, A = some ⟨b, off, none⟩ ∧ W.cell? ⟨b, off + k, none⟩ = some (.int .i64 l[k])) := Lib.hid fun W hW k hk => by
   obtain ⟨b, off, e, hb, hc⟩ := hr.2 (by omega)
   exact ⟨b, off, e, (hW.cell (p := ⟨b, off + k, none⟩) hb).trans (hc k _ (yai l k hk))⟩
  have Hlast : Hid (yav (hL l) ++ ybu (hws l) (l.take n) = hB l) := Lib.hid (by rw [List.take_of_length_le (by omega)]; rfl)
  have En := Lib.hid en
  have hni : (n : Int) ≤ 100000 := by omega
  have hput0 : ∀ T : List Nat, [] ++ T = T ++ ybu (hws l) (l.take 0) := fun T => by rw [List.take_zero]; simp [ybu]
  have Hp0 := Lib.hid hput0
  clear hr hE hl hin0 hf he en hm hput0
  generalize hws l = ws at *
  generalize yav (hL l) = T at *
  generalize hB l = BB at *
  go_enter Tryz.func14, Tryz.ntmps14
  go_wp2_with (first
   | (go_at_call 27; refine Hbest.out.mono ?_; rintro e w3 ⟨A2, c2, A3, c3, rfl, hc3, _, h3, hb3⟩; have H3 := Lib.hid h3; have Hc3 := Lib.hid hc3; have Hb3 := Lib.hid hb3; clear h3 hb3 hc3)
   | (go_at_call 28; refine (Hnew.out _ _ _ H3.out).mono ?_; rintro e w4 ⟨g, rfl, h4, hb4⟩; have H4 := Lib.hid h4; have H3b := Lib.hid (H3.out.onto hb4); have Hb4 := Lib.hid (Hb3.out.trans (hb4.mono Hb3.out.size)); clear h4 hb4)
   | (go_at_call 29; refine (Hput.out w4 _ _ H3b.out Hc3.out).mono ?_; rintro e w5 ⟨rfl, v5, hW5, ht5, hs5⟩; have HW5 := Lib.hid hW5; have Ht5 := Lib.hid ht5; clear hW5 ht5 hs5))
  have HE0 : Hid (HEnc w4 T ws l 0 w5) := Lib.hid (by
   have h1 := HW5.out
   rw [Hp0.out] at h1
   have h2 : Below w4.heap.size w4 w5 := twriter_back rfl Ht5.out (fun k e => by cases e)
   exact ⟨v5, h1, h2, h2.size⟩)
  clear HW5 Ht5 Hput Hnew Hbest H3 H3b Hc3 Hp0
  go_loopw [11, 30] (fun xv i wr => ∃ k : Nat, k ≤ n ∧ i = .int .i64 k ∧ Hid (HEnc w4 T ws l k wr)) (fun _ i _ => n - (intOf i).toNat)
  case atStart => exact ⟨0, by omega, rfl, HE0⟩
  case round =>
   obtain ⟨k, hk, rfl, HI⟩ := hrel
   clear HE0
   have hwb : Below w.heap.size w wr := by
    obtain ⟨v, h1, h2, h3⟩ := HI.out
    exact Hb4.out.trans (h2.mono Hb4.out.size)
   have Hwb := Lib.hid hwb
   clear hwb
   by_cases hlt : k < n
   ·have hki : (k : Int) < (n : Int) := by omega
    have hkl : k < l.length := by rw [En.out]; exact hlt
    obtain ⟨b, off, rfl, x1⟩ := Hcell.out wr Hwb.out k hkl
    have Hst := Lib.hid (Hstep.out w4 wr g k H4.out hkl HI.out)
    generalize l[k] = x at *
    clear hkl
    go_wp2_with (go_at_call 30; refine Hst.out.mono ?_; rintro e w6 ⟨rfl, h6⟩; have H6 := Lib.hid h6; clear h6)
    go_roundw
    case rel => exact ⟨k + 1, by omega, iv (by omega), H6⟩
    case measure => simp only [intOf]; omega
   ·obtain rfl : k = n := by omega
    have hii : ¬ (k : Int) < (k : Int) := by omega
    obtain ⟨v, hW, _, _⟩ := HI.out
    rw [Hlast.out] at hW
    have HW := Lib.hid hW
    clear hW
    go_wp2_with (go_at_call 31; refine (wtext_any _ _ _ _ _ HW.out).mono ?_; rintro e w7 ⟨rfl, rfl⟩)
    go_ret2
    exact ⟨rfl, Hwb.out⟩
 ·have he : hencF l = ([], (hcF l).2) := if_neg hE
  rw [he]
  dsimp only
  have hb2 : ((hcF l).2 == 0) = false := by simpa using hE
  have hb3 : ((hcF l).2 != 0) = true := by simpa using hE
  have Hbest := Lib.hid (p_hbest_no l A n c w hm hr hE)
  clear hr he hE en hm
  generalize (hcF l).2 = E at *
  go_enter Tryz.func14, Tryz.ntmps14
  go_wp2_with (go_at_call 27; refine Hbest.out.mono ?_; rintro e w2 ⟨rfl, hb2⟩; have Hb2 := Lib.hid hb2; clear hb2)
  go_ret2
  exact ⟨rfl, Hb2.out⟩
end Go.Proofs.YtoinjdmlembgeaaGreat
