/-
 What the law of the last of these texts stands on, part 30.
-/
import Derived.Test.YtoinjdmlembgeaaGreatMg21
namespace Go.Proofs.YtoinjdmlembgeaaGreat
set_option linter.unusedSimpArgs false
set_option linter.unusedVariables false
open Go.ChangeShapes Go.WideShapes Go.ChangeAt Go.RowKit Go.Joins Go.Deep
def yfJ (w w' : World) (e : Ending) (F : List Int × Int) : Prop := ∃ A' c', e = .returned (.tuple #[.slice A' F.1.length c', .int .i64 F.2]) ∧ F.1.length ≤ c' ∧ Reads w' w'.heap.size 1 A' F.1.length (ints F.1) ∧ Below w.heap.size w w'
theorem yaA {w w' : World} {E : Int} (hb : Below w.heap.size w w') : yfJ w w' (.returned (.tuple #[.slice none 0 0, .int .i64 E])) ([], E) := ⟨none, 0, rfl, Nat.le_refl _, Reads.none_, hb⟩
theorem hcpost_row {w w' : World} {L : List Int} {g : Nat} (hl : L.length = 257) (hB : Blk w' g 3 (ints L).toArray) (hb : Below w.heap.size w w') : yfJ w w' (.returned (.tuple #[.slice (some ⟨g, 0, none⟩) 257 257, .int .i64 0])) (L, 0) := by
 refine ⟨some ⟨g, 0, none⟩, 257, by rw [hl], by rw [hl]; exact Nat.le_refl _, ?_, hb⟩
 refine ⟨by rw [yab]; show L.length = L.length * 1; omega, fun _ => ⟨g, 0, rfl, hB.lt, fun j u hu => ?_⟩⟩
 rw [Nat.zero_add, hB.cell]
 simpa using hu
theorem hints_set (l : List Int) (k : Nat) (v : Int) : (ints l).toArray.setIfInBounds k (.int .i64 v) = (ints (l.set k v)).toArray := by
 rw [List.setIfInBounds_toArray]
 simp [ints, List.map_set]
structure HCells (l : List Int) (C : Nat → List Value) : Prop where
 zero : C 0 = ints (List.replicate 257 0)
 get : ∀ k (s : Nat), s < 257 → ∃ v : Nat, v ≤ k ∧ (C k).toArray[s]? = some (.int .i64 (v : Int)) ∧ ∀ hk : k < l.length, l[k] = (s : Int) → (C k).toArray.setIfInBounds s (.int .i64 ((v : Int) + 1)) = (C (k + 1)).toArray
 last : C l.length = ints (yam l)
theorem hcells (l : List Int) : HCells l (fun k => ints (yam (l.take k))) := by
 refine ⟨by rw [List.take_zero, hcount_nil], fun k s hs => ?_, by rw [List.take_length]⟩
 have hsl : s < (yam (l.take k)).length := by rw [yal]; exact hs
 refine ⟨(l.take k).count (s : Int), ?_, ?_, fun hk hx => ?_⟩
 ·have := List.count_le_length (a := (s : Int)) (l := l.take k)
  rw [List.length_take] at this
  omega
 ·rw [List.getElem?_toArray, yai _ s hsl, ya9]
 ·rw [hints_set, List.take_succ_eq_append_getElem hk, hx, hcount_snoc (l.take k) (s : Int) (by omega) (by omega)]
  simp only [Int.toNat_natCast]
  rw [ya9]
theorem hc_big {l : List Int} (h : 100000 < l.length) : hcF l = ([], 3) := if_pos h
theorem hc_all {l : List Int} (h : ¬ 100000 < l.length) (hi : hin l = true) : hcF l = (yam l, 0) := by unfold hcF; rw [if_neg h, if_pos hi]
theorem hc_none {l : List Int} (h : ¬ 100000 < l.length) (k : Nat) (hk : k < l.length) (hx : ¬ (0 ≤ l[k] ∧ l[k] ≤ 256)) : hcF l = ([], 70) := by
 unfold hcF
 rw [if_neg h, if_neg fun hi => hx (yg3 hi _ (List.getElem_mem hk))]
theorem hin_take {l : List Int} (k : Nat) (hk : k < l.length) (h : hin (l.take k) = true) (hx : 0 ≤ l[k] ∧ l[k] ≤ 256) : hin (l.take (k + 1)) = true := by
 refine hin_of fun x hm => ?_
 rw [List.take_succ_eq_append_getElem hk] at hm
 rcases List.mem_append.1 hm with h2 | h2
 ·exact yg3 h x h2
 ·rw [List.mem_singleton.1 h2]; exact hx
set_option maxRecDepth 100000 in
set_option maxHeartbeats 4000000 in
theorem yhL (l : List Int) (A : Option Addr) (n c : Nat) (w : World) (hm : n ≤ 1000000) (hr : Reads w w.heap.size 1 A n (ints l)) :
  Calls Tryz.prog 72 #[.slice A n c] w fun e w' => yfJ w w' e (hcF l) := by
 have en : l.length = n := by have := hr.1; rw [yab] at this; omega
 have hni : (n : Int) ≤ 1000000 := by omega
 by_cases hbig : 100000 < n
 ·rw [hc_big (by omega)]
  have hb1 : (100000 : Int) < (n : Int) := by omega
  clear hr
  go_enter Tryz.func72, Tryz.ntmps72
  go_wp2
  go_ret2
  exact yaA (Below.refl _ _)
 have hb1 : ¬ (100000 : Int) < (n : Int) := by omega
 have hbl : ¬ 100000 < l.length := by omega
 obtain ⟨C, hC⟩ : ∃ C : Nat → List Value, HCells l C := ⟨_, hcells l⟩
 have hmk := fun w => tmk_ints 257 257 rfl (by decide) w
 rw [← hC.zero] at hmk
 have HC := Lib.hid hC
 have Hcell : Hid (∀ W, Below w.heap.size w W → ∀ k (hk : k < l.length), ∃ b off, A = some ⟨b, off, none⟩ ∧ W.cell? ⟨b, off + k, none⟩ = some (.int .i64 l[k])) := Lib.hid fun W hW k hk => by
  obtain ⟨b, off, e, hb, hc⟩ := hr.2 (by omega)
  exact ⟨b, off, e, (hW.cell (p := ⟨b, off + k, none⟩) hb).trans (hc k _ (yai l k hk))⟩
 have En := Lib.hid en
 have Hbl := Lib.hid hbl
 have HB0 := Lib.hid (Blk.new w 3 (C 0).toArray)
 have HO0 := Lib.hid ((Below.refl w.heap.size w).alloc (Nat.le_refl _) (.cells (C 0).toArray 3))
 clear hr hC en hbl
 generalize hg : w.heap.size = g at *
 go_enter Tryz.func72, Tryz.ntmps72
 go_wp2
 go_loopw [5, 6] (fun i xv wr => ∃ k : Nat, k ≤ n ∧ i = .int .i64 k ∧ Hid (hin (l.take k) = true) ∧ Hid (Blk wr g 3 (C k).toArray) ∧ Hid (Below g w wr)) (fun i _ _ => n - (intOf i).toNat)
 case atStart => exact ⟨0, by omega, rfl, Lib.hid rfl, HB0, HO0⟩
 case round =>
  obtain ⟨k, hk, rfl, Hin, HB, HO⟩ := hrel
  clear HB0 HO0 hmk
  by_cases hlt : k < n
  ·have hki : (k : Int) < (n : Int) := by omega
   have hkl : k < l.length := by rw [En.out]; exact hlt
   obtain ⟨b, off, rfl, x1⟩ := Hcell.out wr HO.out k hkl
   obtain ⟨x, hx⟩ : ∃ x, l[k] = x := ⟨_, rfl⟩
   rw [hx] at x1
   by_cases hin0 : 0 ≤ x ∧ x ≤ 256
   ·obtain ⟨s, rfl⟩ := Int.eq_ofNat_of_zero_le hin0.1
    have hsi : (0 : Int) ≤ (s : Int) ∧ (s : Int) < 257 ∧ (s : Int) ≤ 256 := by omega
    obtain ⟨v, hv1, hv2, hv3⟩ := HC.out.get k s (by omega)
    have x2 : wr.cell? ⟨g, s, none⟩ = some (.int .i64 (v : Int)) := by rw [HB.out.cell]; exact hv2
    have x3 := HB.out.frozen s
    have Hset := Lib.hid (hv3 hkl hx)
    have Hin2 := Lib.hid (hin_take k hkl Hin.out (by rw [hx]; exact hin0))
    have hvi : (0 : Int) ≤ (v : Int) ∧ (v : Int) ≤ 1000000 := by omega
    have hgl := HB.out.lt
    clear hx hv2 hv3 hin0 hkl
    go_wp2
    go_roundw
    case rel =>
     refine ⟨k + 1, by omega, iv (by omega), Hin2, Lib.hid ?_, Lib.hid ?_⟩
     ·rw [← Hset.out]
      exact HB.out.set_ s _
     ·exact HO.out.setCell (p := ⟨g, s, none⟩) (Nat.le_refl _) _
    case measure => simp only [intOf]; omega
   ·have Hf := Lib.hid (hc_none Hbl.out k hkl (by rw [hx]; exact hin0))
    by_cases h0 : 0 ≤ x
    ·have h1 : ¬ x ≤ 256 := by omega
     clear hx hkl
     go_wp2
     go_ret2
     rw [Hf.out]
     subst hg
     exact yaA HO.out
    ·clear hx hkl
     go_wp2
     go_ret2
     rw [Hf.out]
     subst hg
     exact yaA HO.out
  ·obtain rfl : k = n := by omega
   have hii : ¬ (k : Int) < (k : Int) := by omega
   have hin2 := Hin.out
   rw [List.take_of_length_le (by rw [En.out]; exact Nat.le_refl _)] at hin2
   have Hf := Lib.hid (hc_all Hbl.out hin2)
   have hlast := HC.out.last
   rw [En.out] at hlast
   have HB2 : Hid (Blk wr g 3 (ints (yam l)).toArray) := Lib.hid (by rw [← hlast]; exact HB.out)
   clear hin2 hlast
   go_wp2
   go_ret2
   rw [Hf.out]
   subst hg
   exact hcpost_row (yal l) HB2.out HO.out
set_option maxRecDepth 100000 in
set_option maxHeartbeats 2000000 in
theorem yfP (n : Int) (w : World) (h : hasG n) : Calls Tryz.prog 113 #[.int .i64 n] w fun e w' =>
  ∃ A c, e = .returned (.tuple #[.slice A (gam n.toNat).length c, .bool true]) ∧ w'.ownsRow w.heap.size 3 1 (.slice A (gam n.toNat).length c) (gam n.toNat).length (bcs (gam n.toNat)) ∧ Below w.heap.size w w' := by
 obtain ⟨i0, hi, hz0, hz1, hz2⟩ := info_parts yhr
 obtain ⟨h1, h2⟩ := h
 obtain ⟨N, rfl⟩ := Int.eq_ofNat_of_zero_le (by omega : 0 ≤ n)
 rw [Int.toNat_natCast]
 have HN : Hid (1 ≤ N ∧ N ≤ 4294967295) := Lib.hid (by omega)
 go_enter Tryz.func113, Tryz.ntmps113
 go_wp2
 clear h1 h2
 go_loop [4, 5] (fun k m => ∃ j M : Nat, j ≤ 32 ∧ k = .int .i64 j ∧ m = .int .i64 M ∧ Hid (M = N / 2 ^ j ∧ 1 ≤ M)) (fun _ m => (intOf m).toNat)
 case atStart => exact ⟨0, N, by omega, rfl, rfl, Lib.hid ⟨by simp, HN.out.1⟩⟩
 case round =>
  obtain ⟨j, M, hj, rfl, rfl, HM⟩ := hrel
  have hM32 : (M : Int) ≤ 4294967295 := by have := HM.out.1; have := HN.out.2; have : N / 2 ^ j ≤ N := Nat.div_le_self _ _; omega
  by_cases hlt : 1 < M
  ·have hMi : (1 : Int) < M := by omega
   have hj32 : j < 32 := by
    have h1 := HM.out.1
    rcases Nat.lt_or_ge j 32 with e | e
    ·exact e
    ·have h3 : N / 2 ^ j = 0 := Nat.div_eq_of_lt (by
      have h4 : 2 ^ 32 ≤ 2 ^ j := Nat.pow_le_pow_right (by omega) e
      rw [show (2 : Nat) ^ 32 = 4294967296 from by decide] at h4
      have := HN.out.2
      omega)
     omega
   have hji : (j : Int) < 32 := by omega
   go_wp2
   go_round
   case rel => exact ⟨j + 1, M / 2, by omega, iv (by omega), iv (by omega), Lib.hid ⟨by rw [HM.out.1, Nat.pow_succ, Nat.div_div_eq_div_mul], by omega⟩⟩
   case measure => simp only [intOf]; omega
  ·have hMi : ¬ (1 : Int) < M := by omega
   have hp : 0 < 2 ^ j := Nat.pow_pos (by omega)
   have hM1 : N / 2 ^ j = 1 := by have := HM.out; omega
   have hlo : 2 ^ j ≤ N := by
    have := Nat.div_mul_le_self N (2 ^ j)
    rw [hM1] at this
    omega
   have hhi : N < 2 ^ (j + 1) := by
    rw [Nat.pow_succ, Nat.mul_comm]
    have := Nat.lt_mul_of_div_lt (show N / 2 ^ j < 2 by omega) hp
    omega
   have hg := gam_is hlo hhi (by have := HN.out; omega)
   have hj31 : j ≤ 31 := by
    rcases Nat.lt_or_ge j 32 with e | e
    ·omega
    ·have h4 : 2 ^ 32 ≤ 2 ^ j := Nat.pow_le_pow_right (by omega) e
     rw [show (2 : Nat) ^ 32 = 4294967296 from by decide] at h4
     have := HN.out.2
     omega
   have hji : (j : Int) ≤ 31 := by omega
   have hdg := fun W => ydD (N : Int) ((j + 1 : Nat) : Int) W ⟨by omega, by omega, by omega, by rw [Int.toNat_natCast]; exact_mod_cast hhi⟩
   have hmk := fun W => ye3 j (by omega) W
   have e1 : (j : Int) + 1 = ((j + 1 : Nat) : Int) := by omega
   have hD : (digI (N : Int) ((j + 1 : Nat) : Int)) = dig (j + 1) N := rfl
   have hDl : (digI (N : Int) ((j + 1 : Nat) : Int)).length = j + 1 := yad _ _
   rw [← hD] at hg
   rw [Int.toNat_natCast] at hdg
   have hgl : (gam N).length = j + (j + 1) := by rw [hg, List.length_append, List.length_replicate, hDl]
   have Hg := Lib.hid hg
   have Hgl := Lib.hid hgl
   have HDl := Lib.hid hDl
   have Hdg := Lib.hid hdg
   have E1 := Lib.hid e1
   clear hg hgl hDl hdg hD hp hM1 hlo hhi e1
   generalize digI (N : Int) ((j + 1 : Nat) : Int) = D at *
   go_wp2_with (first
    | (go_at_call 112; rw [E1.out]; refine (Hdg.out _).mono ?_; rintro e w1 ⟨g, rfl, hB1, hg1, hb1⟩)
    | (at_builtin; refine yaf _ rfl _ _ 28 rfl w.heap.size 3 i0 (.int .i64 0) 1 8 Tryz.underlying28 hi hz0 hz1 hz2 rfl (by decide) _ _ _ rfl (World.ownsRow_lit (base := w.heap.size) (e := 3) (size := 1) w1 (bcs (List.replicate j 0)).toArray j hb1.size (by unfold maxLen; omega) (by simp [bcs])) _ (j + 1) (j + 1) _ _ rfl (yeH _ (hB1.alloc _) (j + 1) (by rw [ydN]; exact HDl.out)) ?c1 ?c2 ?c3 ?c4 ?_))
   case c1 => exact yf6 _
   case c2 => unfold maxLen; omega
   case c3 => omega
   case c4 => have := hb1.size; simp; omega
   intro v2 w2 hown2 hgrow hsep
   obtain ⟨A', c', rfl, hc', hr'⟩ := yae hown2
   have hb2 : Below w.heap.size w w2 := ((hb1.alloc hb1.size _)).grown hgrow (by have := hb1.size; simp; omega) (fun g hg => by injection hg with hg; simp only at hg; have := hb1.size; omega)
   have Hb2 := Lib.hid hb2
   have Hr' := Lib.hid hown2
   clear hb2 hr' hown2 hgrow hsep hB1 hb1
   go_wp2
   go_ret2
   refine ⟨A', c', by rw [Hgl.out]; rfl, ?_, Hb2.out⟩
   have h5 := Hr'.out
   rw [Hgl.out, Hg.out, ybQ]
   exact h5
set_option maxRecDepth 100000 in
set_option maxHeartbeats 16000000 in
theorem tref_bits_own (l : List Int) (A : Option Addr) (n c : Nat) (w : World) (hm : n ≤ 257) (hg : ydv l = true) (hr : Reads w w.heap.size 1 A n (ints l)) :
  Calls Tryz.prog 75 #[.slice A n c] w fun e w' => ∃ A' c', e = .returned (.slice A' (yav l).length c') ∧ w'.ownsRow w.heap.size 3 1 (.slice A' (yav l).length c') (yav l).length (bcs (yav l)) ∧ Below w.heap.size w w' := by
 obtain ⟨i0, hi, hz0, hz1, hz9⟩ := info_parts yhr
 have el : l.length = n := by have := hr.1; rw [yab] at this; omega
 have Hc : Hid (0 < n → ∃ b off, A = some ⟨b, off, none⟩ ∧ ∀ wr, Below w.heap.size w wr → ∀ k, (hk : k < l.length) → wr.cell? ⟨b, off + k, none⟩ = some (.int .i64 l[k])) := Lib.hid fun h => by
  obtain ⟨b, off, e, hb, hc⟩ := hr.2 h
  exact ⟨b, off, e, fun wr hw k hk => (hw.cell (p := ⟨b, off + k, none⟩) hb).trans (hc k _ (yai l k hk))⟩
 have Hgood := Lib.hid fun i hi => yaI hg i hi
 have El := Lib.hid el
 have hni : (n : Int) ≤ 257 := by omega
 clear hr hg el
 go_enter Tryz.func75, Tryz.ntmps75
 go_wp2
 go_loopw [3, 4, 5, 6, 7, 8, 9] (fun v ix kx dx okx gx oy wr => ∃ (i : Nat) (acc : List Nat), i ≤ n ∧ ix = .int .i64 i ∧ Hid (acc.length ≤ 67 * i) ∧ Hid (wr.ownsRow w.heap.size 3 1 v acc.length (bcs acc)) ∧ Hid (acc ++ yav (l.drop i) = yav l) ∧ Hid (Below w.heap.size w wr)) (fun _ ix _ _ _ _ _ _ => n - (intOf ix).toNat)
 case atStart => exact ⟨0, [], by omega, rfl, Lib.hid (by simp), Lib.hid (World.ownsRow_nil _ _ _ _), Lib.hid (by simp), Below.refl _ _⟩
 case round =>
  obtain ⟨i, acc, hin, rfl, Hacc, Hown, HT, HB⟩ := hrel
  by_cases hlt : i < n
  ·have hii : (0 : Int) ≤ (i : Int) ∧ (i : Int) < (n : Int) := by omega
   have hil : i < l.length := by rw [El.out]; exact hlt
   obtain ⟨b, off, rfl, hcell⟩ := Hc.out (by omega)
   have Hcell := Lib.hid hcell
   clear hcell
   obtain ⟨x, hxe⟩ : ∃ x, l[i] = x := ⟨_, rfl⟩
   have hgx := Hgood.out i hil
   rw [hxe] at hgx
   have hfit : fits x 4 := ⟨by omega, by omega, by omega, by show x < 16; omega⟩
   have Hrun : Hid (∀ k, i < k → k ≤ n → (∀ j (hj : j < l.length), i ≤ j → j < k → l[j] = x) → (∀ hj : k < l.length, l[k] ≠ x) → ∀ acc, acc ++ yav (l.drop i) = yav l → (acc ++ (digI x 4 ++ gam (k - i))) ++ yav (l.drop k) = yav l) := Lib.hid fun k h1 h2 h3 h4 acc h5 => by
    rw [tbits_at l x i k h1 (by rw [El.out]; exact h2) h3 h4] at h5
    rw [← h5, List.append_assoc]
    rfl
   have Hx1 : Hid (∀ W, Below w.heap.size w W → W.cell? ⟨b, off + i, none⟩ = some (.int .i64 x)) := Lib.hid fun W hW => by
    have := Hcell.out W hW i hil
    rwa [hxe] at this
   have Hall0 : Hid (∀ j (hj : j < l.length), i ≤ j → j < i → l[j] = x) := Lib.hid fun j hj a b => by omega
   have Hii : Hid (l[i] = x) := hxe
   clear Hc Hgood hxe hgx
   go_wp2
   go_loopw [5] (fun kx W => ∃ k : Nat, i ≤ k ∧ k ≤ n ∧ kx = .int .i64 k ∧ Hid (∀ j (hj : j < l.length), i ≤ j → j < k → l[j] = x) ∧ Hid (W.ownsRow w.heap.size 3 1 u3 acc.length (bcs acc)) ∧ Hid (Below w.heap.size w W)) (fun kx _ => n - (intOf kx).toNat)
   case atStart => exact ⟨i, by omega, by omega, rfl, Hall0, Hown, HB⟩
   case round =>
    obtain ⟨k, hik0, hkn, rfl, Hall, HO2, HB2⟩ := hrel
    have x1 := Hx1.out wr HB2.out
    by_cases hkt : k < n
    ·have hki : (0 : Int) ≤ (k : Int) ∧ (k : Int) < (n : Int) := by omega
     have hkl : k < l.length := by rw [El.out]; exact hkt
     have x2 := Hcell.out wr HB2.out k hkl
     by_cases hy : l[k] = x
     ·have Hall2 : Hid (∀ j (hj : j < l.length), i ≤ j → j < k + 1 → l[j] = x) := Lib.hid fun j hj a b => by
       rcases Nat.lt_or_ge j k with h | h
       ·exact Hall.out j hj a h
       ·obtain rfl : j = k := by omega
        exact hy
      rw [hy] at x2
      have hb1 : (x == x) = true := by simp
      clear hy Hall Hrun
      go_wp2
      go_quiet (fail)
      go_wp2
      go_roundw
      case rel => exact ⟨k + 1, by omega, by omega, iv (by omega), Hall2, HO2.out, yaj HB2.out _⟩
      case measure => simp only [intOf]; omega
     ·have hstop : ∀ hj : k < l.length, l[k] ≠ x := fun _ => hy
      have hik : i < k := by
       rcases Nat.lt_or_ge i k with h | h
       ·exact h
       ·obtain rfl : k = i := by omega
        exact absurd Hii.out hy
      obtain ⟨y, hye⟩ : ∃ y, l[k] = y := ⟨_, rfl⟩
      have hb1 : (y == x) = false := by rw [← hye]; simpa using hy
      rw [hye] at x2
      clear hye hy
      have Hst := Lib.hid (Hrun.out k hik hkn Hall.out hstop acc HT.out)
      have hdk : (k : Int) - (i : Int) = ((k - i : Nat) : Int) := by omega
      obtain ⟨d, hd⟩ : ∃ d, k - i = d := ⟨_, rfl⟩
      rw [hd] at hdk Hst
      have hdn : 1 ≤ d ∧ d ≤ 257 := by omega
      have Hgam := Lib.hid fun W => yfP (d : Int) W (by unfold hasG; omega)
      rw [Int.toNat_natCast] at Hgam
      have Hdig := Lib.hid fun W => ydD x 4 W hfit
      have hdl : (digI x 4).length = 4 := by unfold digI; rw [yad]; rfl
      have hgl := gam_len d (by omega) (by omega)
      have HAc := Hacc.out
      have hlk : 67 * i + 67 ≤ 67 * k := by omega
      clear Hall hstop hd hik Hrun
      generalize digI x 4 = D at *
      generalize gam d = G at *
      obtain ⟨gl, hgle⟩ : ∃ gl, G.length = gl := ⟨_, rfl⟩
      rw [hgle] at Hgam hgl
      have HGl := Lib.hid hgle
      have HDl := Lib.hid hdl
      clear hgle hdl
      obtain ⟨al, hal⟩ : ∃ al, acc.length = al := ⟨_, rfl⟩
      rw [hal] at HO2 HAc
      have Hal := Lib.hid hal
      clear hal Hown Hacc
      go_wp2
      go_quiet (fail)
      have HOd : Hid ((wr.drewN nq).ownsRow w.heap.size 3 1 u3 al (bcs acc)) := Lib.hid HO2.out
      have HBd : Hid (Below w.heap.size w (wr.drewN nq)) := Lib.hid (yaj HB2.out nq)
      clear HO2 HB2 x1
      generalize wr.drewN nq = Wd at *
      have x1 := Hx1.out Wd HBd.out
      have hsz0 := HBd.out.size
      go_wp2_with (first
       | (go_at_call 112; refine (Hdig.out _).mono ?_; rintro e w2 ⟨g, rfl, hB2, hg2, hb2⟩; have HBg := Lib.hid hB2; have Hb2 := Lib.hid hb2; have hz2 := hb2.size; clear hB2 hb2)
       | (go_at_call 113; refine (Hgam.out _).mono ?_; rintro e w3 ⟨Ag, cg, rfl, ho3, hb3⟩; have Ho3 := Lib.hid ho3; have Hb3 := Lib.hid hb3; have hz3 := hb3.size; clear ho3 hb3)
       | (at_builtin; refine yaf _ rfl _ _ 28 rfl w.heap.size 3 i0 (.int .i64 0) 1 8 Tryz.underlying28 hi hz0 hz1 hz9 rfl (by decide) _ _ _ rfl (yah (yah HOd.out Hb2.out (Nat.le_refl _)) Hb3.out (Nat.le_refl _)) _ 4 4 _ _ rfl (yeH _ (Blk.below HBg.out Hb3.out HBg.out.lt) 4 (by rw [ydN]; exact HDl.out)) ?c1 ?c2 ?c3 ?c4 ?_))
      case c1 => exact yf6 _
      case c2 => unfold maxLen; omega
      case c3 => omega
      case c4 => omega
      intro v4 w4 ho4 hg4 _
      have Ho4 := Lib.hid ho4
      have Hb4 : Hid (Below w.heap.size w w4) := Lib.hid (((HBd.out.trans (Hb2.out.mono hsz0)).trans (Hb3.out.mono (by omega))).grown hg4 (by omega) (fun b hb => (HOd.out.lt b hb).1))
      have Ho5 := Lib.hid (yaz Ho3.out (yaq hg4) fun b hb e => by
       have h1 := (Ho3.out.lt b hb).1
       have h2 := (HOd.out.lt b e.symm).2
       omega)
      have hsz4 : w.heap.size ≤ w4.heap.size := Hb4.out.size
      obtain ⟨Ag2, cg2, eg, _, hrg⟩ := yae Ho5.out
      injection eg with eg1 _ eg2
      subst eg1 eg2
      have Hrg := Lib.hid hrg
      clear ho4 hg4 hrg HOd Ho3
      go_wp2_with (at_builtin; refine yaf _ rfl _ _ 28 rfl w.heap.size 3 i0 (.int .i64 0) 1 8 Tryz.underlying28 hi hz0 hz1 hz9 rfl (by decide) _ _ _ rfl Ho4.out _ gl _ _ _ rfl Hrg.out ?d1 ?d2 ?d3 ?d4 ?_)
      case d1 => exact yf6 _
      case d2 => unfold maxLen; omega
      case d3 => omega
      first
       | (case d4 => exact hsz4)
       | skip
      intro v6 w6 ho6 hg6 _
      have Ho6 : Hid (w6.ownsRow w.heap.size 3 1 v6 (acc ++ (D ++ G)).length (bcs (acc ++ (D ++ G)))) := Lib.hid (by
       have e : (acc ++ (D ++ G)).length = al + 4 + gl := by rw [List.length_append, List.length_append, Hal.out, HDl.out, HGl.out]; omega
       rw [e, ybQ, ybQ]
       first
        | exact ho6
        | (rw [← List.append_assoc]; exact ho6))
      have Hb6 : Hid (Below w.heap.size w w6) := Lib.hid (Hb4.out.grown hg6 hsz4 (fun b hb => (Ho4.out.lt b hb).1))
      have Hlen : Hid ((acc ++ (D ++ G)).length ≤ 67 * k) := Lib.hid (by
       rw [List.length_append, List.length_append, Hal.out, HDl.out, HGl.out]
       omega)
      clear ho6 hg6
      go_wp2
      go_roundw
      case rel => exact ⟨k, acc ++ (D ++ G), hkn, rfl, Hlen, Ho6, Hst, Hb6⟩
      case measure => simp only [intOf]; omega
    ·obtain rfl : k = n := by omega
     have hki : ¬ (k : Int) < (k : Int) := by omega
     have hstop : ∀ hj : k < l.length, l[k] ≠ x := fun hj => absurd hj (by rw [El.out]; omega)
     have hik : i < k := hlt
     have Hst := Lib.hid (Hrun.out k hik hkn Hall.out hstop acc HT.out)
     have hdk : (k : Int) - (i : Int) = ((k - i : Nat) : Int) := by omega
     obtain ⟨d, hd⟩ : ∃ d, k - i = d := ⟨_, rfl⟩
     rw [hd] at hdk Hst
     have hdn : 1 ≤ d ∧ d ≤ 257 := by omega
     have Hgam := Lib.hid fun W => yfP (d : Int) W (by unfold hasG; omega)
     rw [Int.toNat_natCast] at Hgam
     have Hdig := Lib.hid fun W => ydD x 4 W hfit
     have hdl : (digI x 4).length = 4 := by unfold digI; rw [yad]; rfl
     have hgl := gam_len d (by omega) (by omega)
     have HAc := Hacc.out
     have hlk : 67 * i + 67 ≤ 67 * k := by omega
     clear Hall hstop hd hik Hrun
     generalize digI x 4 = D at *
     generalize gam d = G at *
     obtain ⟨gl, hgle⟩ : ∃ gl, G.length = gl := ⟨_, rfl⟩
     rw [hgle] at Hgam hgl
     have HGl := Lib.hid hgle
     have HDl := Lib.hid hdl
     clear hgle hdl
     obtain ⟨al, hal⟩ : ∃ al, acc.length = al := ⟨_, rfl⟩
     rw [hal] at HO2 HAc
     have Hal := Lib.hid hal
     clear hal Hown Hacc
     go_wp2
     go_quiet (fail)
     have HOd : Hid ((wr.drewN nq).ownsRow w.heap.size 3 1 u3 al (bcs acc)) := Lib.hid HO2.out
     have HBd : Hid (Below w.heap.size w (wr.drewN nq)) := Lib.hid (yaj HB2.out nq)
     clear HO2 HB2 x1
     generalize wr.drewN nq = Wd at *
     have x1 := Hx1.out Wd HBd.out
     have hsz0 := HBd.out.size
     go_wp2_with (first
      | (go_at_call 112; refine (Hdig.out _).mono ?_; rintro e w2 ⟨g, rfl, hB2, hg2, hb2⟩; have HBg := Lib.hid hB2; have Hb2 := Lib.hid hb2; have hz2 := hb2.size; clear hB2 hb2)
      | (go_at_call 113; refine (Hgam.out _).mono ?_; rintro e w3 ⟨Ag, cg, rfl, ho3, hb3⟩; have Ho3 := Lib.hid ho3; have Hb3 := Lib.hid hb3; have hz3 := hb3.size; clear ho3 hb3)
      | (at_builtin; refine yaf _ rfl _ _ 28 rfl w.heap.size 3 i0 (.int .i64 0) 1 8 Tryz.underlying28 hi hz0 hz1 hz9 rfl (by decide) _ _ _ rfl (yah (yah HOd.out Hb2.out (Nat.le_refl _)) Hb3.out (Nat.le_refl _)) _ 4 4 _ _ rfl (yeH _ (Blk.below HBg.out Hb3.out HBg.out.lt) 4 (by rw [ydN]; exact HDl.out)) ?f1 ?f2 ?f3 ?f4 ?_))
     case f1 => exact yf6 _
     case f2 => unfold maxLen; omega
     case f3 => omega
     case f4 => omega
     intro v4 w4 ho4 hg4 _
     have Ho4 := Lib.hid ho4
     have Hb4 : Hid (Below w.heap.size w w4) := Lib.hid (((HBd.out.trans (Hb2.out.mono hsz0)).trans (Hb3.out.mono (by omega))).grown hg4 (by omega) (fun b hb => (HOd.out.lt b hb).1))
     have Ho5 := Lib.hid (yaz Ho3.out (yaq hg4) fun b hb e => by
      have h1 := (Ho3.out.lt b hb).1
      have h2 := (HOd.out.lt b e.symm).2
      omega)
     have hsz4 : w.heap.size ≤ w4.heap.size := Hb4.out.size
     obtain ⟨Ag2, cg2, eg, _, hrg⟩ := yae Ho5.out
     injection eg with eg1 _ eg2
     subst eg1 eg2
     have Hrg := Lib.hid hrg
     clear ho4 hg4 hrg HOd Ho3
     go_wp2_with (at_builtin; refine yaf _ rfl _ _ 28 rfl w.heap.size 3 i0 (.int .i64 0) 1 8 Tryz.underlying28 hi hz0 hz1 hz9 rfl (by decide) _ _ _ rfl Ho4.out _ gl _ _ _ rfl Hrg.out ?g1 ?g2 ?g3 ?g4 ?_)
     case g1 => exact yf6 _
     case g2 => unfold maxLen; omega
     case g3 => omega
     first
      | (case g4 => exact hsz4)
      | skip
     intro v6 w6 ho6 hg6 _
     have Ho6 : Hid (w6.ownsRow w.heap.size 3 1 v6 (acc ++ (D ++ G)).length (bcs (acc ++ (D ++ G)))) := Lib.hid (by
      have e : (acc ++ (D ++ G)).length = al + 4 + gl := by rw [List.length_append, List.length_append, Hal.out, HDl.out, HGl.out]; omega
      rw [e, ybQ, ybQ]
      first
       | exact ho6
       | (rw [← List.append_assoc]; exact ho6))
     have Hb6 : Hid (Below w.heap.size w w6) := Lib.hid (Hb4.out.grown hg6 hsz4 (fun b hb => (Ho4.out.lt b hb).1))
     have Hlen : Hid ((acc ++ (D ++ G)).length ≤ 67 * k) := Lib.hid (by
      rw [List.length_append, List.length_append, Hal.out, HDl.out, HGl.out]
      omega)
     clear ho6 hg6
     go_wp2
     go_roundw
     case rel => exact ⟨k, acc ++ (D ++ G), hkn, rfl, Hlen, Ho6, Hst, Hb6⟩
     case measure => simp only [intOf]; omega
  ·obtain rfl : i = n := by omega
   have hii : ¬ (i : Int) < (i : Int) := by omega
   have ht := HT.out
   rw [List.drop_of_length_le (by rw [El.out]; exact Nat.le_refl _)] at ht
   have hO := Hown.out
   have e : acc = yav l := by rw [← ht]; simp [yav]
   rw [e] at hO
   obtain ⟨At, ct, rfl, _, hrt⟩ := yae hO
   have Hrt := Lib.hid hO
   clear hrt hO ht e
   go_wp2
   go_ret
   exact ⟨At, ct, rfl, Hrt.out, HB.out⟩
end Go.Proofs.YtoinjdmlembgeaaGreat
