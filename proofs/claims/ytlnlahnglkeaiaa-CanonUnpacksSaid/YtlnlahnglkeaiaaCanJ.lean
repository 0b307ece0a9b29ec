/-
  Layer 9: what the program's Words and Pack return, for any lengths and symbols.
-/
import Derived.Test.YtlnlahnglkeaiaaCanE
import Derived.Test.YtlnlahnglkeaiaaCanF
namespace Go.Proofs.Ytlnlahnglkeaiaa
set_option linter.unusedSimpArgs false
set_option linter.unusedVariables false
open Go.ChangeShapes Go.WideShapes Go.ChangeAt Go.RowKit Go.Joins Go.Deep

section
variable {l : List Int} {A : Option Addr} {n c : Nat} {w : World}
theorem c_new_yes (hm : n ≤ 1000000) (hr : Reads w w.heap.size 1 A n (ints l)) (h0 : checkF l = 0) :
    Calls Try.prog 24 #[.slice A n c] w fun e w' => ∃ g, e = .returned (.tuple #[.pointer (some ⟨g, 0, none⟩), .int .i64 0]) ∧ CCode w' w'.heap.size g (l.map Int.toNat) ∧ Below w.heap.size w w' :=
  (c_new_any l A n c w hm hr).mono fun e w' h => by
    obtain ⟨hb, ⟨_, g, _, he, hc⟩ | ⟨h1, _⟩⟩ := h
    · exact ⟨g, he, hc, hb⟩
    · exact absurd h0 h1
theorem c_new_no (hm : n ≤ 1000000) (hr : Reads w w.heap.size 1 A n (ints l)) (h0 : checkF l ≠ 0) :
    Calls Try.prog 24 #[.slice A n c] w fun e w' => e = .returned (.tuple #[.pointer none, .int .i64 (checkF l)]) ∧ Below w.heap.size w w' :=
  (c_new_any l A n c w hm hr).mono fun e w' h => by
    obtain ⟨hb, ⟨h1, _⟩ | ⟨_, he⟩⟩ := h
    · exact absurd h1 h0
    · exact ⟨he, hb⟩
end

set_option maxRecDepth 100000 in
set_option maxHeartbeats 1000000 in
theorem p_cwords_any (l : List Int) (A : Option Addr) (n c : Nat) (w : World) (hm : n ≤ 1000000) (hr : Reads w w.heap.size 1 A n (ints l)) :
    Calls Try.prog 10 #[.slice A n c] w fun e w' => ∃ A' c', e = .returned (.tuple #[.slice A' (cwordsF l).1.length c', .int .i64 (cwordsF l).2]) ∧ (cwordsF l).1.length ≤ c' ∧ Reads w' w'.heap.size 2 A' (cwordsF l).1.length (pairs .i64 (cwordsF l).1) ∧ Below w.heap.size w w' := by
  by_cases h0 : checkF l = 0
  · have Hnew := Lib.hid (c_new_yes (c := c) hm hr h0)
    rw [cwords_ok h0]
    have hwl := wat_len (l.map Int.toNat) 16 0
    obtain ⟨m, hmm⟩ : ∃ m, (l.map Int.toNat).length = m := ⟨_, rfl⟩
    have Hw : Hid (∀ (W : World) B g, CCode W B g (l.map Int.toNat) → ∃ b, b < W.heap.size ∧ g < W.heap.size ∧ W.cell? ⟨g, 1, none⟩ = some (.slice (some ⟨b, 0, none⟩) m m) ∧ Reads W W.heap.size 2 (some ⟨b, 0, none⟩) m (pairs .i64 (wat (l.map Int.toNat) 16 0))) := Lib.hid fun W B g h => by
      obtain ⟨b, hb, x1, hB⟩ := h.words
      rw [hmm] at x1
      refine ⟨b, hB.lt, h.at.2, x1, by rw [pairs_length, hwl, hmm], fun _ => ⟨b, 0, rfl, hB.lt, fun j u hu => ?_⟩⟩
      rw [Nat.zero_add, hB.cell, List.getElem?_toArray]
      exact hu
    rw [hmm] at hwl
    clear hr h0
    show Calls _ _ _ _ fun e w' => ∃ A' c', e = .returned (.tuple #[.slice A' (wat (l.map Int.toNat) 16 0).length c', .int .i64 0]) ∧ (wat (l.map Int.toNat) 16 0).length ≤ c' ∧ Reads w' w'.heap.size 2 A' (wat (l.map Int.toNat) 16 0).length (pairs .i64 (wat (l.map Int.toNat) 16 0)) ∧ Below w.heap.size w w'
    rw [hwl]
    clear hwl
    generalize pairs .i64 (wat (l.map Int.toNat) 16 0) = P at *
    go_enter Try.func10, Try.ntmps10
    go_wp2_with (go_at_call 24; refine Hnew.out.mono ?_; rintro e w1 ⟨g, rfl, hc, hb1⟩; have Hb1 := Lib.hid hb1; obtain ⟨b, x0, x1, x2, hrd⟩ := Hw.out _ _ _ hc; have Hrd := Lib.hid hrd; clear hb1 hc hrd)
    go_ret2
    exact ⟨some ⟨b, 0, none⟩, m, rfl, Nat.le_refl _, Hrd.out, Hb1.out⟩
  · have Hnew := Lib.hid (c_new_no (c := c) hm hr h0)
    have hw : cwordsF l = ([], checkF l) := by unfold cwordsF; rw [if_neg h0]
    rw [hw]
    have hb0 : (checkF l == (0 : Int)) = false := by simpa using h0
    clear hr h0 hw
    generalize checkF l = E at *
    go_enter Try.func10, Try.ntmps10
    go_wp2_with (go_at_call 24; refine Hnew.out.mono ?_; rintro e w1 ⟨rfl, hb1⟩; have Hb1 := Lib.hid hb1; clear hb1)
    go_ret2
    exact ⟨none, 0, rfl, Nat.le_refl _, Reads.none_, Hb1.out⟩

set_option maxRecDepth 100000 in
set_option maxHeartbeats 4000000 in
theorem p_cpack_any (l sy : List Int) (A S : Option Addr) (n c m sc : Nat) (w : World) (hm : n ≤ 1000000) (hm2 : m ≤ 1000000) (hr : Reads w w.heap.size 1 A n (ints l)) (hr2 : Reads w w.heap.size 1 S m (ints sy)) :
    Calls Try.prog 12 #[.slice A n c, .slice S m sc] w fun e w' => e = .returned (.tuple #[.string ⟨(cpackF l sy).1.toArray⟩, .int .i64 (cpackF l sy).2]) ∧ Below w.heap.size w w' := by
  by_cases h0 : checkF l = 0
  · have Hnew := Lib.hid (c_new_yes (c := c) hm hr h0)
    obtain ⟨hl, hg, hca⟩ := check_ok h0
    have hfit := cwords_fit l
    obtain ⟨F, hF⟩ : ∃ F, cpackF l sy = F := ⟨_, rfl⟩
    rw [hF]
    unfold cpackF at hF
    rw [cwords_ok h0] at hF hfit
    rw [if_pos rfl] at hF
    dsimp only at hF hfit
    have hll : (l.map Int.toNat).length ≤ 257 := by rw [List.length_map]; exact hl
    have Hfit := Lib.hid hfit
    have HF := Lib.hid hF
    have Hc2 : Hid (0 < m → ∃ b off, S = some ⟨b, off, none⟩ ∧ b < w.heap.size ∧ ∀ wr, Below w.heap.size w wr → ∀ k, (hk : k < sy.length) → wr.cell? ⟨b, off + k, none⟩ = some (.int .i64 sy[k])) := Lib.hid fun h => by
      obtain ⟨b, off, e, hb, hc⟩ := hr2.2 h
      exact ⟨b, off, e, hb, fun wr hw k hk => (hw.cell (p := ⟨b, off + k, none⟩) hb).trans (hc k _ (ints_get sy k hk))⟩
    have El : Hid (sy.length = m) := Lib.hid (by have := hr2.1; rw [ints_length] at this; omega)
    have hmz : (m : Int) ≤ 1000000 := by omega
    have hmf : ∀ (fn : Fn) (first cap : Array Value) (w : World), (Instr.makeFunc fn first cap).run Try.prog w = .ok (.func fn first cap) w := fun _ _ _ _ => rfl
    clear hr hr2 h0 hF hfit hl hg hca
    generalize l.map Int.toNat = ls at *
    go_enter Try.func12, Try.ntmps12
    go_wp2_with (go_at_call 24; refine Hnew.out.mono ?_; rintro e w1 ⟨g, rfl, hc, hb1⟩; have Hb1 := Lib.hid hb1; have HC := Lib.hid hc; clear hb1 hc)
    have HH0 : Hid (WHold (w1.alloc (.cells #[.slice none 0 0, .int .i64 0] 59)) w1.heap.size w1.heap.size (.slice none 0 0) []) := Lib.hid (by
      refine ⟨by simpa [fr] using Blk.new w1 59 #[.slice none 0 0, .int .i64 0], ?_, bin_nil⟩
      simpa [text_nil, bc] using World.ownsRow_nil (w1.alloc (.cells #[.slice none 0 0, .int .i64 0] 59)) w1.heap.size 5 1)
    have HB0 : Hid (Below w1.heap.size w1 (w1.alloc (.cells #[.slice none 0 0, .int .i64 0] 59))) := Lib.hid ((Below.refl _ _).alloc (Nat.le_refl _) _)
    generalize w1.alloc (.cells #[.slice none 0 0, .int .i64 0] 59) = wz at *
    go_loopw [11, 12, 24] (fun sx ex i wr => ∃ (k : Nat) (acc : List Nat) (v : Value), k ≤ m ∧ i = .int .i64 k ∧ Hid (acc.length ≤ 32 * k) ∧ Hid (cpack1 (wat ls 16 0) (sy.drop k) acc = cpack1 (wat ls 16 0) sy []) ∧ Hid (WHold wr w1.heap.size w1.heap.size v acc) ∧ Hid (Below w1.heap.size w1 wr)) (fun _ _ i _ => m - (intOf i).toNat)
    case atStart => exact ⟨0, [], _, by omega, rfl, Lib.hid (by simp), Lib.hid rfl, HH0, HB0⟩
    case round =>
      obtain ⟨k, acc, v, hk, rfl, Hacc, Hp, HH, Hb⟩ := hrel
      clear HH0 HB0
      have HBw : Hid (Below w.heap.size w wr) := Lib.hid (Hb1.out.trans (Hb.out.mono Hb1.out.size))
      by_cases hlt : k < m
      · have hkl : k < sy.length := by rw [El.out]; exact hlt
        obtain ⟨b, off, rfl, hb, hc⟩ := Hc2.out (by omega)
        have x1 := hc wr HBw.out k hkl
        have hki : (0 : Int) ≤ (k : Int) ∧ (k : Int) < (m : Int) := by omega
        have hp := Hp.out
        rw [List.drop_eq_getElem_cons hkl, cpack1_cons] at hp
        generalize sy[k] = sv at x1 hp
        have hC := HC.out.below Hb.out
        have hpr := (pword_ref (wat ls 16 0) sv).1
        by_cases hde : (cwordF (wat ls 16 0) sv).2 = 0
        · rw [if_pos hde] at hp
          have hyes := c_hand_yes ls w1.heap.size w1.heap.size g w1.heap.size v acc sv wr hC (by omega) (by rw [hpr]; exact hde) Hfit.out HH.out Hb.out.size (by have := Hacc.out; omega)
          have hsm := (cword_small Hfit.out sv).1
          generalize (cwordF (wat ls 16 0) sv).1 = D at *
          unfold cputV at hyes
          have Hyes := Lib.hid hyes
          have Hp2 := Lib.hid hp
          have HaD : Hid ((acc ++ D).length ≤ 32 * (k + 1)) := Lib.hid (by rw [List.length_append]; have := Hacc.out; omega)
          have Hown : Hid (∀ k, v.ownBlock = some k → w1.heap.size ≤ k) := Lib.hid fun k hk => (HH.out.2.1.lt k hk).1
          clear hyes hp hc hC hpr hde hkl
          go_wp2_with (go_at_call 26; refine Hyes.out.mono ?_; rintro e w5 ⟨rfl, v5, hH5, ht5, hs5⟩; have HH5 := Lib.hid hH5; have Ht5 := Lib.hid ht5; clear hH5 ht5 hs5)
          go_roundw
          case rel =>
            refine ⟨k + 1, acc ++ D, v5, by omega, iv (by omega), HaD, Hp2, HH5, Lib.hid (Hb.out.trans (Ht5.out.below (fun k _ h => ?_) Hb.out.size))⟩
            rcases h with h | h
            · omega
            · exact Hown.out k h
          case measure => simp only [intOf]; omega
        · rw [if_neg hde] at hp
          have hno := fun pv => c_hand_no ls w1.heap.size g pv sv _ wr hC (by omega) hpr hde
          have hf := HF.out
          rw [← hp] at hf
          dsimp only at hf
          rw [if_neg hde] at hf
          generalize (cwordF (wat ls 16 0) sv).2 = E at *
          have hdb : (E == (0 : Int)) = false := by simpa using hde
          have Hno := Lib.hid hno
          have Hf := Lib.hid hf
          clear hno hp hf hc hC hpr hde hkl
          go_wp2_with (go_at_call 26; refine (Hno.out _).mono ?_; rintro e w5 ⟨rfl, hb5⟩; have Hb5 := Lib.hid hb5; clear hb5)
          go_ret2
          refine ⟨?_, HBw.out.trans (Hb5.out.mono HBw.out.size)⟩
          rw [← Hf.out]
          rfl
      · obtain rfl : k = m := by omega
        have hki : ¬ (k : Int) < (k : Int) := by omega
        have hp := Hp.out
        rw [List.drop_of_length_le (by rw [El.out]; exact Nat.le_refl _)] at hp
        have hf := HF.out
        rw [← hp] at hf
        have Hf : Hid ((text acc, (0 : Int)) = F) := Lib.hid hf
        have Htx := Lib.hid (wtext_any _ _ _ _ wr HH.out)
        clear hf hp HF
        go_wp2_with (go_at_call 27; refine Htx.out.mono ?_; rintro e w2 ⟨rfl, rfl⟩)
        go_ret2
        refine ⟨?_, HBw.out⟩
        rw [← Hf.out]
        rfl
  · have Hnew := Lib.hid (c_new_no (c := c) hm hr h0)
    have hw : cpackF l sy = ([], checkF l) := by
      unfold cpackF cwordsF
      rw [if_neg h0]
      exact if_neg h0
    rw [hw]
    have hb0 : (checkF l == (0 : Int)) = false := by simpa using h0
    clear hr hr2 h0 hw
    generalize checkF l = E at *
    go_enter Try.func12, Try.ntmps12
    go_wp2_with (go_at_call 24; refine Hnew.out.mono ?_; rintro e w1 ⟨rfl, hb1⟩; have Hb1 := Lib.hid hb1; clear hb1)
    go_ret2
    exact ⟨rfl, Hb1.out⟩
end Go.Proofs.Ytlnlahnglkeaiaa
