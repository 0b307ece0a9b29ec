/-
  Layer 9: the document's own Get, for every row of words and every row of bits (ahead of the code's landing).
-/
import Derived.Test.YtlnlahnglkeaiaaCanG
import Derived.OwnWalk
namespace Go.Proofs.Ytlnlahnglkeaiaa
set_option linter.unusedSimpArgs false
set_option linter.unusedVariables false
open Go.ChangeShapes Go.WideShapes Go.ChangeAt Go.RowKit Go.Joins Go.Deep

/-- Which of the words, from number s on, begins the bits R; E: what is said if none does. -/
def cget1 : List (Int × Int) → Nat → List Nat → Int → Int × Int × Int
  | [], _, _, E => (0, 0, E)
  | f :: t, s, R, E => if f.2 = 0 then cget1 t (s + 1) R E else if (begF R (digI f.1 f.2)).2 = true then ((s : Int), ((digI f.1 f.2).length : Int), 0) else cget1 t (s + 1) R (if (begF R (digI f.1 f.2)).1 = true then 4 else E)
/-- What Get answers at a place. -/
def cgetF (ws : List (Int × Int)) (L : List Nat) (p : Nat) : Int × Int × Int := cget1 ws 0 (L.drop p) (if p = L.length then 4 else 40)

theorem cword_at (ws : List (Int × Int)) (k : Nat) (h : k < ws.length) : cwordF ws (k : Int) = if ws[k].2 ≠ 0 then (digI ws[k].1 ws[k].2, 0) else ([], 70) := by
  have hgd : ws.getD k (0, 0) = ws[k] := by rw [List.getD_eq_getElem?_getD, List.getElem?_eq_getElem h]; rfl
  unfold cwordF
  rw [Int.toNat_natCast, hgd]
  by_cases hz : ws[k].2 ≠ 0
  · rw [if_pos hz, if_pos ⟨by omega, by omega, hz⟩]
  · rw [if_neg hz, if_neg (fun h => hz h.2.2)]

/-- What the loop of Get leaves. -/
def CGetPost (w w' : World) (e : Ending) (F : Int × Int × Int) : Prop := e = .returned (.tuple #[.int .i64 F.1, .int .i64 F.2.1, .int .i64 F.2.2]) ∧ Below w.heap.size w w'

set_option maxRecDepth 100000 in
set_option maxHeartbeats 4000000 in
theorem cref_get_any (ws : List (Int × Int)) (L : List Nat) (A LA : Option Addr) (n c nl lc p : Nat) (w : World) (hn : ws.length = n) (hl : n ≤ 1000) (hln : L.length = nl) (hl2 : nl ≤ 8796093022208) (hp : p ≤ nl) (hr : Reads w w.heap.size 2 A n (pairs .i64 ws)) (hf : ∀ f ∈ ws, fits f.1 f.2) (hr2 : Reads w w.heap.size 1 LA nl (bcs L)) :
    Calls Try.prog 32 #[.slice A n c, .slice LA nl lc, .int .i64 p] w fun e w' => CGetPost w w' e (cgetF ws L p) := by
  have hnz : (n : Int) ≤ 1000 ∧ (nl : Int) ≤ 8796093022208 ∧ (p : Int) ≤ (nl : Int) := by omega
  have HrA : Hid (∀ W, Below w.heap.size w W → Reads W W.heap.size 2 A n (pairs .i64 ws)) := Lib.hid fun W hb => (hr.below hb).more hb.size
  have HrL : Hid (∀ W, Below w.heap.size w W → Reads W W.heap.size 1 LA nl (bcs L)) := Lib.hid fun W hb => (hr2.below hb).more hb.size
  have Hwd : Hid (∀ (W : World) (k : Nat), Below w.heap.size w W → Calls Try.prog 28 #[.slice A n c, .int .i64 (k : Int)] W fun e w' => CWordPost W w' e (cwordF ws k)) := Lib.hid fun W k hb => cref_word_any ws A n c k W hn hl (HrA.out W hb) hf
  have Hbg : Hid (∀ (W : World) (d : List Nat) (D : Option Addr) (m cd : Nat), Below w.heap.size w W → d.length = m → m ≤ 1000 → Reads W W.heap.size 1 D m (bcs d) → Calls Try.prog 41 #[.slice LA nl lc, .int .i64 p, .slice D m cd] W fun e w' => e = .returned (.tuple #[.bool (begF (L.drop p) d).1, .bool (begF (L.drop p) d).2]) ∧ Below W.heap.size W w') := Lib.hid fun W d D m cd hb hd hm hD => cref_begins_any L d LA D nl lc p m cd W hln hd hl2 hm hp (HrL.out W hb) hD
  have Hfit := Lib.hid hf
  have Hn := Lib.hid hn
  obtain ⟨E0, hE0⟩ : ∃ E0 : Int, (if p = L.length then (4 : Int) else 40) = E0 := ⟨_, rfl⟩
  obtain ⟨F, hF⟩ : ∃ F, cgetF ws L p = F := ⟨_, rfl⟩
  rw [hF]
  have Hst : Hid (cget1 (ws.drop 0) 0 (L.drop p) E0 = F) := Lib.hid (by rw [List.drop_zero, ← hE0]; exact hF)
  have hE : E0 = if (p : Int) = (nl : Int) then 4 else 40 := by
    rw [← hE0, hln]
    by_cases h : p = nl
    · rw [if_pos h, if_pos (by omega)]
    · rw [if_neg h, if_neg (by omega)]
  have hbp : ((p : Int) == (nl : Int)) = decide (E0 = 4) := by
    rw [hE]
    by_cases h : (p : Int) = (nl : Int)
    · rw [if_pos h]; simpa using h
    · rw [if_neg h]; simpa using h
  clear hr hr2 hf hn hF hln hE0
  have hgo : ∀ (k : Nat) (W : World) (E : Int), k < n → Below w.heap.size w W → True := fun _ _ _ _ _ => trivial
  clear hgo
  have key : E0 = 4 ∧ ((p : Int) == (nl : Int)) = true ∨ E0 = 40 ∧ ((p : Int) == (nl : Int)) = false := by
    rw [hE]
    by_cases h : (p : Int) = (nl : Int)
    · exact Or.inl ⟨if_pos h, by simpa using h⟩
    · exact Or.inr ⟨if_neg h, by simpa using h⟩
  clear hE hbp
  rcases key with ⟨rfl, hb0⟩ | ⟨rfl, hb0⟩
  all_goals
    go_enter Try.func32, Try.ntmps32
    go_wp2
    go_loopw [9, 10] (fun e s wr => ∃ (k : Nat) (E : Int), k ≤ n ∧ s = .int .i64 k ∧ e = .int .i64 E ∧ Hid (cget1 (ws.drop k) k (L.drop p) E = F) ∧ Hid (Below w.heap.size w wr)) (fun _ s _ => n - (intOf s).toNat)
    case atStart => exact ⟨0, _, by omega, rfl, rfl, Hst, Below.refl _ _⟩
    case round =>
      obtain ⟨k, E, hk, rfl, rfl, HF, HB⟩ := hrel
      clear Hst hb0
      by_cases hlt : k < n
      · have hki : (0 : Int) ≤ (k : Int) ∧ (k : Int) < (n : Int) := by omega
        have hkw : k < ws.length := by rw [Hn.out]; exact hlt
        have hff := Hfit.out _ (List.getElem_mem hkw)
        have hf := HF.out
        rw [List.drop_eq_getElem_cons hkw] at hf
        have hcw := cword_at ws k hkw
        unfold cget1 at hf
        generalize ws[k] = fd at *
        obtain ⟨fn, fw⟩ := fd
        dsimp only at hf hcw hff
        by_cases hz : fw = 0
        · rw [if_pos hz] at hf
          rw [if_neg (by simpa using hz)] at hcw
          have Hw1 := Lib.hid fun W hb => Hwd.out W k hb
          rw [hcw] at Hw1
          have Hf := Lib.hid hf
          clear hf hcw hff hkw
          go_wp2_with (first
            | (go_at_call 28; refine (Hw1.out _ HB.out).mono ?_; rintro e w1 ⟨D, m, cd, rfl, hm1, hD1, hb1⟩))
          have HB1 : Hid (Below w.heap.size w w1) := Lib.hid (HB.out.trans (hb1.mono HB.out.size))
          clear hb1 hD1 hm1
          go_roundw
          case rel => exact ⟨k + 1, E, by omega, iv (by omega), rfl, Hf, HB1⟩
          case measure => simp only [intOf]; omega
        · rw [if_neg hz] at hf
          rw [if_pos hz] at hcw
          have Hw1 := Lib.hid fun W hb => Hwd.out W k hb
          rw [hcw] at Hw1
          have Hdl : Hid ((digI fn fw).length ≤ 1000) := Lib.hid (by unfold digI; rw [dig_length]; have := hff.2.1; omega)
          have Hb1 := Lib.hid fun W => Hbg.out W (digI fn fw)
          have Hlen : Hid (∀ m : Nat, (digI fn fw).length = m → ((digI fn fw).length : Int) = (m : Int)) := Lib.hid fun m h => by rw [h]
          clear hcw hff hkw
          generalize digI fn fw = d at *
          generalize begF (L.drop p) d = b at *
          obtain ⟨b1, b2⟩ := b
          dsimp only at hf
          cases b2
          · rw [if_neg (by decide)] at hf
            cases b1
            · rw [if_neg (by decide)] at hf
              have Hf := Lib.hid hf
              clear hf
              go_wp2_with (first
                | (go_at_call 28; refine (Hw1.out _ HB.out).mono ?_; rintro e w1 ⟨D, m, cd, rfl, hm1, hD1, hb1⟩; have HB1 : Hid (Below w.heap.size w w1) := Lib.hid (HB.out.trans (hb1.mono HB.out.size)); have HD1 := Lib.hid hD1; have Hm1 := Lib.hid hm1; clear hb1 hD1 hm1)
                | (go_at_call 41; refine (Hb1.out _ D m cd HB1.out Hm1.out (by rw [← Hm1.out]; exact Hdl.out) HD1.out).mono ?_; rintro e w2 ⟨rfl, hb2⟩; have HB2 : Hid (Below w.heap.size w w2) := Lib.hid (HB1.out.trans (hb2.mono HB1.out.size)); clear hb2))
              go_roundw
              case rel => exact ⟨k + 1, E, by omega, iv (by omega), rfl, Hf, HB2⟩
              case measure => simp only [intOf]; omega
            · rw [if_pos rfl] at hf
              have Hf := Lib.hid hf
              clear hf
              go_wp2_with (first
                | (go_at_call 28; refine (Hw1.out _ HB.out).mono ?_; rintro e w1 ⟨D, m, cd, rfl, hm1, hD1, hb1⟩; have HB1 : Hid (Below w.heap.size w w1) := Lib.hid (HB.out.trans (hb1.mono HB.out.size)); have HD1 := Lib.hid hD1; have Hm1 := Lib.hid hm1; clear hb1 hD1 hm1)
                | (go_at_call 41; refine (Hb1.out _ D m cd HB1.out Hm1.out (by rw [← Hm1.out]; exact Hdl.out) HD1.out).mono ?_; rintro e w2 ⟨rfl, hb2⟩; have HB2 : Hid (Below w.heap.size w w2) := Lib.hid (HB1.out.trans (hb2.mono HB1.out.size)); clear hb2))
              go_roundw
              case rel => exact ⟨k + 1, 4, by omega, iv (by omega), rfl, Hf, HB2⟩
              case measure => simp only [intOf]; omega
          · rw [if_pos rfl] at hf
            have Hf := Lib.hid hf
            clear hf
            go_wp2_with (first
              | (go_at_call 28; refine (Hw1.out _ HB.out).mono ?_; rintro e w1 ⟨D, m, cd, rfl, hm1, hD1, hb1⟩; have HB1 : Hid (Below w.heap.size w w1) := Lib.hid (HB.out.trans (hb1.mono HB.out.size)); have HD1 := Lib.hid hD1; have Hm1 := Lib.hid hm1; clear hb1 hD1 hm1)
              | (go_at_call 41; refine (Hb1.out _ D m cd HB1.out Hm1.out (by rw [← Hm1.out]; exact Hdl.out) HD1.out).mono ?_; rintro e w2 ⟨rfl, hb2⟩; have HB2 : Hid (Below w.heap.size w w2) := Lib.hid (HB1.out.trans (hb2.mono HB1.out.size)); clear hb2))
            go_ret3
            refine ⟨?_, HB2.out⟩
            rw [← Hf.out, Hlen.out _ Hm1.out]
            rfl
      · obtain rfl : k = n := by omega
        have hf := HF.out
        rw [List.drop_of_length_le (by rw [Hn.out]; exact Nat.le_refl _)] at hf
        have Hf := Lib.hid hf
        clear hf HF
        go_wp2
        go_ret3
        refine ⟨?_, HB.out⟩
        rw [← Hf.out]
        rfl
end Go.Proofs.Ytlnlahnglkeaiaa
