/-
  What the law of the last of these texts stands on, part 38.
-/
import Derived.Test.YtpocpckhcciecaaRows
import Derived.Test.YtpocpckhcciecaaMg01
import Derived.Test.YtpocpckhcciecaaMg02
import Derived.Test.YtpocpckhcciecaaMg03
import Derived.Test.YtpocpckhcciecaaMg04
import Derived.Test.YtpocpckhcciecaaMg05
import Derived.Test.YtpocpckhcciecaaMg06
import Derived.Test.YtpocpckhcciecaaMg07
import Derived.Test.YtpocpckhcciecaaMg08
import Derived.Test.YtpocpckhcciecaaMg09
import Derived.Test.YtpocpckhcciecaaMg10
import Derived.Test.YtpocpckhcciecaaMg11
import Derived.Test.YtpocpckhcciecaaMg12
import Derived.Test.YtpocpckhcciecaaMg13
import Derived.Test.YtpocpckhcciecaaMg14
import Derived.Test.YtpocpckhcciecaaMg15
import Derived.Test.YtpocpckhcciecaaMg16
import Derived.Test.YtpocpckhcciecaaMg17
import Derived.Test.YtpocpckhcciecaaMg18
import Derived.Test.YtpocpckhcciecaaMg19
import Derived.Test.YtpocpckhcciecaaMg20
import Derived.Test.YtpocpckhcciecaaMg21
import Derived.Test.YtpocpckhcciecaaMg22
import Derived.Test.YtpocpckhcciecaaMg23
import Derived.Test.YtpocpckhcciecaaMg24
import Derived.Test.YtpocpckhcciecaaMg25
import Derived.Test.YtpocpckhcciecaaMg26
import Derived.Test.YtpocpckhcciecaaMg27
import Derived.Test.YtpocpckhcciecaaMg28
import Derived.Test.YtpocpckhcciecaaMg29
import Derived.Test.YtpocpckhcciecaaMg30
import Derived.Test.YtpocpckhcciecaaMg31
import Derived.Test.YtpocpckhcciecaaMg32
import Derived.Test.YtpocpckhcciecaaMg33
import Derived.Test.YtpocpckhcciecaaMg34
import Derived.Test.YtpocpckhcciecaaMg35
import Derived.Test.YtpocpckhcciecaaMg36
import Derived.Test.YtpocpckhcciecaaMg37
import Derived.OwnWalk
import Derived.WalkKit
import Derived.WalkSpells
import Derived.WalkLawsBesides
import Derived.ProofKit
import Derived.OpenShut
import Derived.Handy
import Derived.SizedLaws
import Derived.JoinedOf
import Derived.KernelRfl
import Derived.Lib.Hide
import Derived.Lib.SmallJoins
import Derived.Deep.Slices
import Derived.Deep.Fields
import Derived.Deep.SlicePairs
import Derived.Deep.Draws
import Derived.Deep.AppendLies
import Derived.Deep.QuietTactic
import Derived.BigQuiet
import Derived.Deep.RegionHeld3
import Derived.StillTailTactics
import Derived.Laws.OwnMore
import Derived.Laws.Rows
import Derived.Below
import Derived.Carry
import Derived.Lib.BitFns
import Derived.Deep.OwnRows
import Derived.WalkMore
import Derived.Laws.BytesString
import Derived.Laws.BitsLemmas
import Derived.Laws.Concat
import Derived.Laws.EntriesVeiled
import Derived.Shelf.Spec.SlicesGrow
import Derived.Lib.OwnBridge
import Derived.Shelf.SlSorted.Search
import Derived.Deep.RegionWith
import Derived.Deep.Upon
import Derived.Sort.WalkB2
import Derived.Sort.WalkB12
import Derived.Deep.LoopGhost
import Derived.Shelf.SlSortCmp.KitK
import Derived.Deep.RegionLaw
import Derived.Laws.CopyOwn
import Derived.Laws.Bits64b
namespace Go.Proofs.Ytpocpckhcciecaa
set_option linter.unusedSimpArgs false
set_option linter.unusedVariables false
open Go.ChangeShapes Go.WideShapes Go.ChangeAt Go.RowKit Go.Joins Go.Deep
section
variable {l : List Int}
theorem hc_best (hl : l.length ≤ 100000) (W : World) (A : Option Addr) (c : Nat) (hr : Reads W W.heap.size 1 A 257 (ints (hcount l))) :
    Calls Try.prog 16 #[.slice A 257 c, .int .i64 15] W fun e w' => ∃ A' c', e = .returned (.tuple #[.slice A' 257 c', .int .i64 0]) ∧ 257 ≤ c' ∧ Reads w' w'.heap.size 1 A' 257 (ints (hL l)) ∧ Below W.heap.size W w' := by
  have := p_best_any (hcount l) 15 A 257 c W (by omega) hr
  rw [hbest hl] at this
  refine this.mono ?_
  rintro e w' ⟨A', c', rfl, h1, h2, h3⟩
  rw [hL_len] at h1 h2 ⊢
  exact ⟨A', c', rfl, h1, h2, h3⟩
theorem hc_new (hl : l.length ≤ 100000) (W : World) (A : Option Addr) (c : Nat) (hr : Reads W W.heap.size 1 A 257 (ints (hL l))) :
    Calls Try.prog 20 #[.slice A 257 c] W fun e w' => ∃ g, e = .returned (.tuple #[.pointer (some ⟨g, 0, none⟩), .int .i64 0]) ∧ CCode w' w'.heap.size g ((hL l).map Int.toNat) ∧ Below W.heap.size W w' := by
  refine (c_new_any (hL l) A 257 c W (by omega) hr).mono ?_
  rintro e w' ⟨h1, ⟨_, g, _, rfl, h2⟩ | ⟨h2, _⟩⟩
  · exact ⟨g, rfl, h2.1, h1⟩
  · exact absurd (hL_check hl) h2
theorem hc_counts (hE : (hcF l).2 = 0) (A : Option Addr) (n c : Nat) (w : World) (hm : n ≤ 1000000) (hr : Reads w w.heap.size 1 A n (ints l)) :
    Calls Try.prog 9 #[.slice A n c] w fun e w' => ∃ A' c', e = .returned (.tuple #[.slice A' 257 c', .int .i64 0]) ∧ Reads w' w'.heap.size 1 A' 257 (ints (hcount l)) ∧ Below w.heap.size w w' := by
  have hcnt := p_hcounts_any l A n c w hm hr
  obtain ⟨hl, hin0, hf⟩ := hc_ok hE
  rw [hf] at hcnt
  refine hcnt.mono ?_
  rintro e w' ⟨A', c', rfl, _, h2, h3⟩
  rw [hcount_len] at h2 ⊢
  exact ⟨A', c', rfl, h2, h3⟩
theorem hc_counts_no (hE : (hcF l).2 ≠ 0) (A : Option Addr) (n c : Nat) (w : World) (hm : n ≤ 1000000) (hr : Reads w w.heap.size 1 A n (ints l)) :
    Calls Try.prog 9 #[.slice A n c] w fun e w' => ∃ A' c', e = .returned (.tuple #[.slice A' 0 c', .int .i64 (hcF l).2]) ∧ Below w.heap.size w w' := by
  have hcnt := p_hcounts_any l A n c w hm hr
  have hF : hcF l = ([], (hcF l).2) := Prod.ext (hc_bad hE) rfl
  rw [hF] at hcnt
  refine hcnt.mono ?_
  rintro e w' ⟨A', c', rfl, _, h2, h3⟩
  exact ⟨A', c', rfl, h3⟩
end
set_option maxRecDepth 100000 in
set_option maxHeartbeats 4000000 in
theorem p_hbest_yes (l : List Int) (A : Option Addr) (n c : Nat) (w : World) (hm : n ≤ 1000000) (hr : Reads w w.heap.size 1 A n (ints l)) (hE : (hcF l).2 = 0) :
    Calls Try.prog 19 #[.slice A n c] w fun e w' => ∃ A2 c2 A3 c3, e = .returned (.tuple #[.slice A2 257 c2, .slice A3 257 c3, .int .i64 0]) ∧ 257 ≤ c3 ∧ Reads w' w'.heap.size 1 A2 257 (ints (hcount l)) ∧ Reads w' w'.heap.size 1 A3 257 (ints (hL l)) ∧ Below w.heap.size w w' := by
  obtain ⟨hl, hin0, hf⟩ := hc_ok hE
  have Hcnt := Lib.hid (hc_counts hE A n c w hm hr)
  have Hbest := Lib.hid fun W A c hr => hc_best (l := l) hl W A c hr
  clear hr hE hl hin0 hf hm
  go_enter Try.func19, Try.ntmps19
  go_wp2_with (first
    | (go_at_call 9; refine Hcnt.out.mono ?_; rintro e w2 ⟨A2, c2, rfl, h2, hb2⟩; have H2 := Lib.hid h2; have Hb2 := Lib.hid hb2; clear h2 hb2)
    | (go_at_call 16; refine (Hbest.out _ _ _ H2.out).mono ?_; rintro e w3 ⟨A3, c3, rfl, hc3, h3, hb3⟩; have H3 := Lib.hid h3; have Hc3 := Lib.hid hc3; have H2b := Lib.hid (H2.out.onto hb3); have Hb3 := Lib.hid (Hb2.out.trans (hb3.mono Hb2.out.size)); clear h3 hb3 hc3))
  go_ret3
  exact ⟨A2, c2, A3, c3, rfl, Hc3.out, H2b.out, H3.out, Hb3.out⟩
set_option maxRecDepth 100000 in
set_option maxHeartbeats 4000000 in
theorem p_hbest_no (l : List Int) (A : Option Addr) (n c : Nat) (w : World) (hm : n ≤ 1000000) (hr : Reads w w.heap.size 1 A n (ints l)) (hE : (hcF l).2 ≠ 0) :
    Calls Try.prog 19 #[.slice A n c] w fun e w' => e = .returned (.tuple #[.slice none 0 0, .slice none 0 0, .int .i64 (hcF l).2]) ∧ Below w.heap.size w w' := by
  have hb2 : ((hcF l).2 == 0) = false := by simpa using hE
  have hb3 : ((hcF l).2 != 0) = true := by simpa using hE
  have Hcnt := Lib.hid (hc_counts_no hE A n c w hm hr)
  clear hr hE hm
  generalize (hcF l).2 = E at *
  go_enter Try.func19, Try.ntmps19
  go_wp2_with (go_at_call 9; refine Hcnt.out.mono ?_; rintro e w2 ⟨A2, c2, rfl, hb2⟩; have Hb2 := Lib.hid hb2; clear hb2)
  go_ret3
  exact ⟨rfl, Hb2.out⟩
/-- What a writer's call leaves of what stood before the writer. -/
theorem hws_below {B0 B g : Nat} {w1 w' : World} {v : Value} {R : List Nat} (hW : WHold w1 B g v R) (hg : B0 ≤ g) (hB : B0 ≤ B) (hs : B0 ≤ w1.heap.size) (ht : Touch w1 w' (WS g v)) : Below B0 w1 w' :=
  ht.below (fun k _ e => by
    rcases e with e | e
    · omega
    · exact Nat.le_trans hB (hW.2.1.lt k e).1) hs
/-- What Encode's loop holds on to: the writer has the words of the first k symbols. -/
def HEnc (w4 : World) (T : List Nat) (ws : List (Int × Int)) (l : List Int) (k : Nat) (wr : World) : Prop :=
  ∃ v, WHold wr w4.heap.size w4.heap.size v (T ++ cbits ws (l.take k)) ∧ Below w4.heap.size w4 wr ∧ w4.heap.size ≤ wr.heap.size
theorem HEnc.step {w4 wr : World} {l : List Int} {g k : Nat} (hl : l.length ≤ 100000) (hi : hin l = true) (hc : CCode w4 w4.heap.size g ((hL l).map Int.toNat)) (hk : k < l.length) (h : HEnc w4 (tbits (hL l)) (hws l) l k wr) :
    Calls Try.prog 22 #[.pointer (some ⟨g, 0, none⟩), .pointer (some ⟨w4.heap.size, 0, none⟩), .int .i64 l[k]] wr fun e w' => e = .returned (.int .i64 0) ∧ HEnc w4 (tbits (hL l)) (hws l) l (k + 1) w' := by
  obtain ⟨v, h1, h2, h3⟩ := h
  have hln : (tbits (hL l) ++ cbits (hws l) (l.take k)).length ≤ 1099511627776 := by
    have a := htbits_len l
    have b := hcbits_len (hfit l hl) (l.take k)
    rw [List.length_take] at b
    rw [List.length_append]
    omega
  refine (c_put_yes ((hL l).map Int.toNat) w4.heap.size w4.heap.size g w4.heap.size v _ l[k] wr (hc.below h2) (by rw [List.length_map, hL_len]; omega) (hL_word hl hi _ (List.getElem_mem hk)) (hfit l hl) h1 h3 hln).mono ?_
  rintro e w' ⟨rfl, v2, g1, g2, g3⟩
  refine ⟨rfl, v2, ?_, h2.trans (hws_below h1 (Nat.le_refl _) (Nat.le_refl _) h3 g2), Nat.le_trans h3 g2.size⟩
  rw [cbits_snoc (hws l) l k hk, ← List.append_assoc]
  exact g1
set_option maxRecDepth 100000 in
set_option maxHeartbeats 8000000 in
theorem p_hencode_any (l : List Int) (A : Option Addr) (n c : Nat) (w : World) (hm : n ≤ 1000000) (hr : Reads w w.heap.size 1 A n (ints l)) :
    Calls Try.prog 7 #[.slice A n c] w fun e w' => e = .returned (.tuple #[.string ⟨(hencF l).1.toArray⟩, .int .i64 (hencF l).2]) ∧ Below w.heap.size w w' := by
  have en : l.length = n := by have := hr.1; rw [ints_length] at this; omega
  by_cases hE : (hcF l).2 = 0
  · obtain ⟨hl, hin0, hf⟩ := hc_ok hE
    have he : hencF l = (text (hB l), 0) := if_pos hE
    rw [he]
    dsimp only
    have Hbest := Lib.hid (p_hbest_yes l A n c w hm hr hE)
    have Hnew := Lib.hid fun W A c hr => hc_new (l := l) hl W A c hr
    have Hput := Lib.hid fun (W : World) A c (hr : Reads W W.heap.size 1 A 257 (ints (hL l))) (hc : 257 ≤ c) => p_tput_yes W.heap.size W.heap.size W.heap.size (.slice none 0 0) [] (hL l) A 257 c (W.alloc (.cells #[.slice none 0 0, .int .i64 0] 46)) (hr.alloc (Nat.le_refl _) _) ⟨Nat.le_refl _, Nat.le_refl _⟩ (hL_check hl) (twriter_new W) (by simp) (by simp) hc
    have Hstep := Lib.hid fun (w4 wr : World) g k hc hk h => HEnc.step (w4 := w4) (wr := wr) (l := l) (g := g) (k := k) hl hin0 hc hk h
    have Hcell : Hid (∀ W, Below w.heap.size w W → ∀ k (hk : k < l.length), ∃ b off, A = some ⟨b, off, none⟩ ∧ W.cell? ⟨b, off + k, none⟩ = some (.int .i64 l[k])) := Lib.hid fun W hW k hk => by
      obtain ⟨b, off, e, hb, hc⟩ := hr.2 (by omega)
      exact ⟨b, off, e, (hW.cell (p := ⟨b, off + k, none⟩) hb).trans (hc k _ (ints_get l k hk))⟩
    have Hlast : Hid (tbits (hL l) ++ cbits (hws l) (l.take n) = hB l) := Lib.hid (by rw [List.take_of_length_le (by omega)]; rfl)
    have En := Lib.hid en
    have hni : (n : Int) ≤ 100000 := by omega
    have hput0 : ∀ T : List Nat, [] ++ T = T ++ cbits (hws l) (l.take 0) := fun T => by rw [List.take_zero]; simp [cbits]
    have Hp0 := Lib.hid hput0
    clear hr hE hl hin0 hf he en hm hput0
    generalize hws l = ws at *
    generalize tbits (hL l) = T at *
    generalize hB l = BB at *
    go_enter Try.func7, Try.ntmps7
    go_wp2_with (first
      | (go_at_call 19; refine Hbest.out.mono ?_; rintro e w3 ⟨A2, c2, A3, c3, rfl, hc3, _, h3, hb3⟩; have H3 := Lib.hid h3; have Hc3 := Lib.hid hc3; have Hb3 := Lib.hid hb3; clear h3 hb3 hc3)
      | (go_at_call 20; refine (Hnew.out _ _ _ H3.out).mono ?_; rintro e w4 ⟨g, rfl, h4, hb4⟩; have H4 := Lib.hid h4; have H3b := Lib.hid (H3.out.onto hb4); have Hb4 := Lib.hid (Hb3.out.trans (hb4.mono Hb3.out.size)); clear h4 hb4)
      | (go_at_call 21; refine (Hput.out w4 _ _ H3b.out Hc3.out).mono ?_; rintro e w5 ⟨rfl, v5, hW5, ht5, hs5⟩; have HW5 := Lib.hid hW5; have Ht5 := Lib.hid ht5; clear hW5 ht5 hs5))
    have HE0 : Hid (HEnc w4 T ws l 0 w5) := Lib.hid (by
      have h1 := HW5.out
      rw [Hp0.out] at h1
      have h2 : Below w4.heap.size w4 w5 := twriter_back rfl Ht5.out (fun k e => by cases e)
      exact ⟨v5, h1, h2, h2.size⟩)
    clear HW5 Ht5 Hput Hnew Hbest H3 H3b Hc3 Hp0
    go_loopw [11, 30] (fun xv i wr => ∃ k : Nat, k ≤ n ∧ i = .int .i64 k ∧ Hid (HEnc w4 T ws l k wr)) (fun _ i _ => n - (intOf i).toNat)
    case atStart => exact ⟨0, by omega, rfl, HE0⟩
    case round =>
      obtain ⟨k, hk, rfl, HI⟩ := hrel
      clear HE0
      have hwb : Below w.heap.size w wr := by
        obtain ⟨v, h1, h2, h3⟩ := HI.out
        exact Hb4.out.trans (h2.mono Hb4.out.size)
      have Hwb := Lib.hid hwb
      clear hwb
      by_cases hlt : k < n
      · have hki : (k : Int) < (n : Int) := by omega
        have hkl : k < l.length := by rw [En.out]; exact hlt
        obtain ⟨b, off, rfl, x1⟩ := Hcell.out wr Hwb.out k hkl
        have Hst := Lib.hid (Hstep.out w4 wr g k H4.out hkl HI.out)
        generalize l[k] = x at *
        clear hkl
        go_wp2_with (go_at_call 22; refine Hst.out.mono ?_; rintro e w6 ⟨rfl, h6⟩; have H6 := Lib.hid h6; clear h6)
        go_roundw
        case rel => exact ⟨k + 1, by omega, iv (by omega), H6⟩
        case measure => simp only [intOf]; omega
      · obtain rfl : k = n := by omega
        have hii : ¬ (k : Int) < (k : Int) := by omega
        obtain ⟨v, hW, _, _⟩ := HI.out
        rw [Hlast.out] at hW
        have HW := Lib.hid hW
        clear hW
        go_wp2_with (go_at_call 23; refine (wtext_any _ _ _ _ _ HW.out).mono ?_; rintro e w7 ⟨rfl, rfl⟩)
        go_ret2
        exact ⟨rfl, Hwb.out⟩
  · have he : hencF l = ([], (hcF l).2) := if_neg hE
    rw [he]
    dsimp only
    have hb2 : ((hcF l).2 == 0) = false := by simpa using hE
    have hb3 : ((hcF l).2 != 0) = true := by simpa using hE
    have Hbest := Lib.hid (p_hbest_no l A n c w hm hr hE)
    clear hr he hE en hm
    generalize (hcF l).2 = E at *
    go_enter Try.func7, Try.ntmps7
    go_wp2_with (go_at_call 19; refine Hbest.out.mono ?_; rintro e w2 ⟨rfl, hb2⟩; have Hb2 := Lib.hid hb2; clear hb2)
    go_ret2
    exact ⟨rfl, Hb2.out⟩
end Go.Proofs.Ytpocpckhcciecaa
namespace Go.Proofs.Ytpocpckhcciecaa
set_option linter.unusedSimpArgs false
set_option linter.unusedVariables false
open Go.ChangeShapes Go.WideShapes Go.ChangeAt Go.RowKit Go.Joins Go.Deep
theorem hsum_take (L : List Int) (hb : ∀ x ∈ L, 0 ≤ x ∧ x ≤ 1000000000) : ∀ k, 0 ≤ (L.take k).sum ∧ (L.take k).sum ≤ 1000000000 * (k : Int)
  | 0 => by simp
  | k + 1 => by
    have ih := hsum_take L hb k
    by_cases hk : k < L.length
    · have := hb L[k] (List.getElem_mem hk)
      rw [List.take_succ_eq_append_getElem hk, List.sum_append]
      simp only [List.sum_cons, List.sum_nil]
      omega
    · rw [List.take_of_length_le (by omega)] at ih ⊢
      omega
set_option maxRecDepth 100000 in
set_option maxHeartbeats 2000000 in
theorem p_hsum_any (L : List Int) (A : Option Addr) (n c : Nat) (w : World) (hn : n ≤ 1000) (hb : ∀ x ∈ L, 0 ≤ x ∧ x ≤ 1000000000) (hr : Reads w w.heap.size 1 A n (ints L)) :
    Calls Try.prog 26 #[.slice A n c] w fun e w' => e = .returned (.int .i64 L.sum) ∧ w = w' := by
  have en : L.length = n := by have := hr.1; rw [ints_length] at this; omega
  have Hcell : Hid (∀ k (hk : k < L.length), ∃ b off, A = some ⟨b, off, none⟩ ∧ w.cell? ⟨b, off + k, none⟩ = some (.int .i64 L[k])) := Lib.hid fun k hk => by
    obtain ⟨b, off, e, hb, hc⟩ := hr.2 (by omega)
    exact ⟨b, off, e, hc k _ (ints_get L k hk)⟩
  have Hs := Lib.hid (hsum_take L hb)
  have Hb := Lib.hid hb
  have En := Lib.hid en
  have Hnext : Hid (∀ k (hk : k < L.length), (L.take (k + 1)).sum = (L.take k).sum + L[k]) := Lib.hid fun k hk => by rw [List.take_succ_eq_append_getElem hk, List.sum_append]; simp
  have Hall : Hid ((L.take n).sum = L.sum) := Lib.hid (by rw [List.take_of_length_le (by omega)])
  have hni : (n : Int) ≤ 1000 := by omega
  clear hr hb en
  go_enter Try.func26, Try.ntmps26
  go_wp2
  go_loop [3, 5, 8] (fun v xv i => ∃ (k : Nat) (z : Int), k ≤ n ∧ i = .int .i64 k ∧ v = .int .i64 z ∧ Hid ((L.take k).sum = z)) (fun _ _ i => n - (intOf i).toNat)
  case atStart => exact ⟨0, 0, by omega, rfl, rfl, Lib.hid (by simp)⟩
  case round =>
    obtain ⟨k, z, hk, rfl, rfl, HZ⟩ := hrel
    by_cases hlt : k < n
    · have hki : (k : Int) < (n : Int) := by omega
      have hkl : k < L.length := by rw [En.out]; exact hlt
      obtain ⟨b, off, rfl, x1⟩ := Hcell.out k hkl
      have hx := Hb.out L[k] (List.getElem_mem hkl)
      have hz := Hs.out k
      rw [HZ.out] at hz
      have HZ2 : Hid ((L.take (k + 1)).sum = z + L[k]) := Lib.hid (by rw [Hnext.out k hkl, HZ.out])
      generalize L[k] = x at *
      have hzb : 0 ≤ z ∧ z ≤ 1000000000000 := by omega
      clear hz hkl
      go_wp2
      go_round
      case rel => exact ⟨k + 1, z + x, by omega, iv (by omega), iv (by omega), HZ2⟩
      case measure => simp only [intOf]; omega
    · obtain rfl : k = n := by omega
      have hii : ¬ (k : Int) < (k : Int) := by omega
      have hz : L.sum = z := by rw [← Hall.out]; exact HZ.out
      have Hz := Lib.hid hz
      clear hz
      go_wp2
      go_ret
      exact ⟨by rw [Hz.out]; rfl, rfl⟩
set_option maxRecDepth 100000 in
set_option maxHeartbeats 4000000 in
theorem p_hsize_any (l : List Int) (A : Option Addr) (n c : Nat) (w : World) (hm : n ≤ 1000000) (hr : Reads w w.heap.size 1 A n (ints l)) :
    Calls Try.prog 12 #[.slice A n c] w fun e w' => e = .returned (.int .i64 (hsizeF l : Int)) ∧ Below w.heap.size w w' := by
  by_cases hE : (hcF l).2 = 0
  · obtain ⟨hl, hin0, hf⟩ := hc_ok hE
    have he : hsizeF l = (hB l).length := if_pos hE
    have hsz := hsize_is hl hin0
    have hbl := hB_len hl
    have htl := htbits_len l
    rw [he, hsz]
    have hco : 0 ≤ costF (hcount l) (hL l) := by
      rw [hcost_own hl hin0 (hL l) (hL_len l) (fun j hj => lgood_get (tcheck_ok (hL_check hl)).2 j hj), ← (cbits_size (tcheck_ok (hL_check hl)).2 l (hL_word hl hin0)).1]
      omega
    have Hbest := Lib.hid (p_hbest_yes l A n c w hm hr hE)
    have Hts : Hid (∀ (W : World) A c (hc : 257 ≤ c) (hr : Reads W W.heap.size 1 A 257 (ints (hL l))), Calls Try.prog 17 #[.slice A 257 c] W fun e w' => e = .returned (.int .i64 ((tbits (hL l)).length : Int)) ∧ Below W.heap.size W w') := Lib.hid fun W A c hc hr => by
      have := p_tsize_any (hL l) A 257 c W (by omega) hr
      rwa [show tsizeF (hL l) = (tbits (hL l)).length from if_pos (hL_check hl)] at this
    have Hco := Lib.hid fun (W : World) A1 c1 A2 c2 (h1 : Reads W W.heap.size 1 A1 257 (ints (hcount l))) (h2 : Reads W W.heap.size 1 A2 257 (ints (hL l))) => p_cost_any (hcount l) (hL l) A1 A2 257 257 c1 c2 W (by omega) (by omega) h1 h2
    have hT : ((tbits (hL l)).length : Int) ≤ 1000000 ∧ 0 ≤ ((tbits (hL l)).length : Int) := by omega
    have hC : costF (hcount l) (hL l) ≤ 1000000000 := by omega
    clear hr hE hl hin0 hf he hsz hbl htl
    generalize ((tbits (hL l)).length : Int) = T at *
    generalize costF (hcount l) (hL l) = C at *
    have Hsum := Lib.hid fun (W : World) A c (hr : Reads W W.heap.size 1 A 2 (ints [T, C])) => p_hsum_any [T, C] A 2 c W (by decide) (fun x hx => by
      rcases List.mem_cons.1 hx with rfl | hx
      · omega
      · rw [List.mem_singleton.1 hx]; omega) hr
    have hTC : [T, C].sum = T + C := by simp
    rw [hTC] at Hsum
    clear hTC
    go_enter Try.func12, Try.ntmps12
    go_wp2_with (first
      | (go_at_call 19; refine Hbest.out.mono ?_; rintro e w3 ⟨A2, c2, A3, c3, rfl, hc3, h2, h3, hb3⟩; have H3 := Lib.hid h3; have Hc3 := Lib.hid hc3; have H2b := Lib.hid h2; have Hb3 := Lib.hid hb3; clear h2 h3 hb3 hc3)
      | (go_at_call 17; refine (Hts.out _ _ _ Hc3.out H3.out).mono ?_; rintro e w4 ⟨rfl, hb4⟩; have H3c := Lib.hid (H3.out.onto hb4); have H2c := Lib.hid (H2b.out.onto hb4); have Hb4 := Lib.hid (Hb3.out.trans (hb4.mono Hb3.out.size)); clear hb4)
      | (go_at_call 18; refine (Hco.out _ _ _ _ _ H2c.out H3c.out).mono ?_; rintro e w5 ⟨rfl, hb5⟩; have Hb5 := Lib.hid (Hb4.out.trans (hb5.mono Hb4.out.size)); clear hb5)
      | (go_at_call 26; refine (Hsum.out _ _ _ ((reads_new w5 3 #[.int .i64 T, .int .i64 C] 1 2 rfl).more (by simp))).mono ?_; rintro e w6 ⟨rfl, hw6⟩; obtain rfl := hw6.symm))
    go_ret
    exact ⟨rfl, Hb5.out.alloc Hb5.out.size _⟩
  · have he : hsizeF l = 0 := if_neg hE
    rw [he]
    have hb2 : ((hcF l).2 == 0) = false := by simpa using hE
    have hb3 : ((hcF l).2 != 0) = true := by simpa using hE
    have Hbest := Lib.hid (p_hbest_no l A n c w hm hr hE)
    clear hr he hE hm
    generalize (hcF l).2 = E at *
    go_enter Try.func12, Try.ntmps12
    go_wp2_with (go_at_call 19; refine Hbest.out.mono ?_; rintro e w2 ⟨rfl, hb2⟩; have Hb2 := Lib.hid hb2; clear hb2)
    go_ret
    exact ⟨rfl, Hb2.out⟩
end Go.Proofs.Ytpocpckhcciecaa
