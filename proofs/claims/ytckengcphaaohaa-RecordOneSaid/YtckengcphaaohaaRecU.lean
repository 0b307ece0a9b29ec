/-
  Layer 15, the document's: Join of records, for every row; the law's Few (ahead of the code's landing).
-/
import Derived.Test.YtckengcphaaohaaRecT
namespace Go.Proofs.Ytckengcphaaohaa
set_option linter.unusedSimpArgs false
set_option linter.unusedVariables false
open Go.ChangeShapes Go.WideShapes Go.ChangeAt Go.RowKit Go.Joins Go.Deep
theorem rjB_take (l : List Rc) (k : Nat) (h : k < l.length) : rjB (l.take (k + 1)) = rjB (l.take k) ++ rB l[k] := by
  rw [List.take_succ_eq_append_getElem h, rjB_app]
  show _ ++ (rB l[k] ++ []) = _
  rw [List.append_nil]
theorem rjB_le (l : List Rc) (k : Nat) : (rjB (l.take k)).length ≤ (rjB l).length := by
  have h : rjB l = rjB (l.take k) ++ rjB (l.drop k) := by rw [← rjB_app, List.take_append_drop]
  rw [h, List.length_append]
  omega
theorem rB_len {r : Rc} (h : rmay r = true) : (rB r).length ≤ 2027 := by
  have h1 := rput_len r.1
  have h2 := rput_len r.2.1
  have h3 := rput_len r.2.2.length
  have h4 := (rmay_iff r).1 h
  unfold rB
  rw [List.length_append, List.length_append, List.length_append]
  omega
set_option maxRecDepth 100000 in
set_option maxHeartbeats 4000000 in
theorem rref_join_any (l : List Rc) (A : Option Addr) (n c : Nat) (w : World) (hl : l.length = n) (hn : n ≤ 1000000) (hr : Reads w w.heap.size 3 A n (rcs l)) :
    Calls Try.prog 18 #[.slice A n c] w fun e w' => e = .returned (.tuple #[.string ⟨(rjoinF l).1.toArray⟩, .int .i64 (rjoinF l).2]) ∧ Below w.heap.size w w' := by
  have hrow := rref_row_any l A n c w hl hn hr
  by_cases hE : rrowF l ≠ 0
  · have fin : rjoinF l = ([], rrowF l) := if_pos hE
    rw [fin]
    have Hrow := Lib.hid hrow
    clear hrow fin hr hl
    generalize rrowF l = E at *
    go_enter Try.func18, Try.ntmps18
    go_wp2_with (go_at_call 22; (with_reducible refine Hrow.out.mono ?_); rintro e w1 ⟨rfl, hb1⟩; have Hb1 := Lib.hid hb1; clear hb1 Hrow)
    go_ret2
    exact ⟨rfl, Hb1.out⟩
  have hE0 : rrowF l = 0 := by omega
  rw [hE0] at hrow
  have Hmay := Lib.hid (rrow_may hE0)
  have Hbig : Hid (20000 < (rjB l).length → rjoinF l = ([], 3)) := Lib.hid fun h => by unfold rjoinF; rw [if_neg hE, if_pos h]
  have Hfit : Hid (¬ 20000 < (rjB l).length → rjoinF l = (rjB l, 0)) := Lib.hid fun h => by unfold rjoinF; rw [if_neg hE, if_neg h]
  have Hrow := Lib.hid hrow
  have Hc := Lib.hid (rec_cells hr hl)
  have Hl := Lib.hid hl
  have H0 : Hid (rjB (l.take 0) = []) := Lib.hid rfl
  clear hr hl hrow hE hE0
  go_enter Try.func18, Try.ntmps18
  go_wp2_with (go_at_call 22; (with_reducible refine Hrow.out.mono ?_); rintro e w1 ⟨rfl, hb1⟩; have Hb1 := Lib.hid hb1; clear hb1 Hrow)
  go_loopw [5, 6] (fun o i wr => ∃ (k : Nat) (U : List UInt8), k ≤ n ∧ i = .int .i64 (k : Int) ∧ o = .string ⟨U.toArray⟩ ∧ Hid (rjB (l.take k) = U ∧ U.length ≤ 20000) ∧ Hid (Below w.heap.size w wr)) (fun _ i _ => n - (intOf i).toNat)
  case atStart => exact ⟨0, [], by omega, rfl, rfl, Lib.hid ⟨H0.out, Nat.zero_le _⟩, Hb1⟩
  case round =>
    obtain ⟨k, U, hk, rfl, rfl, HU, HB⟩ := hrel
    by_cases hlt : k < n
    · have hkl : k < l.length := by have := Hl.out; omega
      obtain ⟨b, off, rfl, hb, hcell⟩ := Hc.out k hlt
      obtain ⟨d0, d1, d2⟩ := hcell k hkl
      have c0 := (HB.out.cell (p := ⟨b, off + k * 3, none⟩) hb).trans d0
      have c1 := (HB.out.cell (p := ⟨b, off + k * 3 + 1, none⟩) hb).trans d1
      have c2 := (HB.out.cell (p := ⟨b, off + k * 3 + 2, none⟩) hb).trans d2
      have hki : (0 : Int) ≤ (k : Int) ∧ (k : Int) < (n : Int) := by omega
      have hm := Hmay.out _ (List.getElem_mem hkl)
      have hput := Lib.hid fun W => rref_put_any l[k].1 l[k].2.1 l[k].2.2 W
      have e1 : rputF (l[k].1, l[k].2.1, l[k].2.2) = (rB l[k], 0) := (rchk_yes hm).2
      rw [e1] at hput
      dsimp only at hput
      have hadd := fun W => rstr_add U (rB l[k]) (by have := rB_len hm; have := HU.out.2; omega) W
      have Hnx : Hid (rjB (l.take (k + 1)) = U ++ rB l[k]) := Lib.hid (by rw [rjB_take l k hkl, HU.out.1])
      have Hle := Lib.hid (rjB_le l (k + 1))
      clear d0 d1 d2 e1 hm hcell H0 Hc
      generalize l[k].1 = x at *
      generalize l[k].2.1 = y at *
      generalize l[k].2.2 = d at *
      generalize U ++ rB l[k] = V at *
      generalize rB l[k] = R at *
      by_cases hV : 20000 < V.length
      · have hVi : (20000 : Int) < (V.length : Int) := by omega
        have HF := Lib.hid (Hbig.out (by have := Hle.out; rw [Hnx.out] at this; omega))
        go_wp2_with (go_at_call 10; (with_reducible refine (hput.out _).mono ?_); rintro e w2 ⟨rfl, hb2⟩; have HB2 := Lib.hid (HB.out.trans (hb2.mono HB.out.size)); clear hb2 hput)
        go_ret2
        exact ⟨by rw [HF.out]; rfl, HB2.out⟩
      · have hVi : ¬ (20000 : Int) < (V.length : Int) := by omega
        go_wp2_with (go_at_call 10; (with_reducible refine (hput.out _).mono ?_); rintro e w2 ⟨rfl, hb2⟩; have HB2 := Lib.hid (HB.out.trans (hb2.mono HB.out.size)); clear hb2 hput)
        go_roundw
        case rel => exact ⟨k + 1, V, by omega, iv (by omega), rfl, Lib.hid ⟨Hnx.out, by omega⟩, HB2⟩
        case measure => simp only [intOf]; omega
    · obtain rfl : k = n := by omega
      have e : rjB l = U := by
        have h := HU.out.1
        rwa [List.take_of_length_le (by have := Hl.out; omega)] at h
      have HF := Lib.hid (Hfit.out (by rw [e]; have := HU.out.2; omega))
      have He := Lib.hid e
      clear e
      go_wp2
      go_ret2
      exact ⟨by rw [HF.out, He.out]; rfl, HB.out⟩
def fewF (l : List Rc) : Bool := decide (l.length ≤ 200) && l.all fun r => decide (r.2.2.length ≤ 3000)
theorem few_len {l : List Rc} (h : fewF l = true) : l.length ≤ 200 := by
  unfold fewF at h
  rw [Bool.and_eq_true, decide_eq_true_iff] at h
  exact h.1
theorem few_data {l : List Rc} (h : fewF l = true) : ∀ r ∈ l, r.2.2.length ≤ 3000 := by
  unfold fewF at h
  rw [Bool.and_eq_true, List.all_eq_true] at h
  exact fun r hr => of_decide_eq_true (h.2 r hr)
theorem few_no {l : List Rc} {k : Nat} (h : k < l.length) (hk : 3000 < l[k].2.2.length) : fewF l = false := by
  cases e : fewF l with
  | false => rfl
  | true =>
    have := few_data e _ (List.getElem_mem h)
    omega
theorem few_yes {l : List Rc} (h : l.length ≤ 200) (hd : ∀ k (hk : k < l.length), l[k].2.2.length ≤ 3000) : fewF l = true := by
  unfold fewF
  rw [Bool.and_eq_true, decide_eq_true_iff, List.all_eq_true]
  refine ⟨h, fun r hr => ?_⟩
  obtain ⟨k, hk, rfl⟩ := List.getElem_of_mem hr
  exact decide_eq_true (hd k hk)
set_option maxRecDepth 100000 in
set_option maxHeartbeats 2000000 in
theorem few_any (l : List Rc) (A : Option Addr) (n c : Nat) (w : World) (hl : l.length = n) (hr : Reads w w.heap.size 3 A n (rcs l)) :
    Calls Try.prog 7 #[.slice A n c] w fun e w' => e = .returned (.bool (fewF l)) ∧ w' = w := by
  by_cases hn : n ≤ 200
  · have hni : ¬ (200 : Int) < (n : Int) := by omega
    have Hc := Lib.hid (rec_cells hr hl)
    have Hl := Lib.hid hl
    clear hr hl
    go_enter Try.func7, Try.ntmps7
    go_wp2
    go_loopw [3] (fun i wr => ∃ k : Nat, k ≤ n ∧ i = .int .i64 (k : Int) ∧ Hid (∀ j (hj : j < l.length), j < k → l[j].2.2.length ≤ 3000) ∧ wr = w) (fun i _ => n - (intOf i).toNat)
    case atStart => exact ⟨0, by omega, rfl, Lib.hid fun j _ h => absurd h (Nat.not_lt_zero _), rfl⟩
    case round =>
      obtain ⟨k, hk, rfl, HK, rfl⟩ := hrel
      by_cases hlt : k < n
      · have hkl : k < l.length := by have := Hl.out; omega
        obtain ⟨b, off, rfl, hb, hcell⟩ := Hc.out k hlt
        have c2 := (hcell k hkl).2.2
        have hki : (0 : Int) ≤ (k : Int) ∧ (k : Int) < (n : Int) := by omega
        have HN : Hid (3000 < l[k].2.2.length → fewF l = false) := Lib.hid (few_no hkl)
        have HY : Hid (l[k].2.2.length ≤ 3000 → ∀ j (hj : j < l.length), j < k + 1 → l[j].2.2.length ≤ 3000) := Lib.hid fun h j hj hj2 => by
          by_cases e : j = k
          · subst e
            exact h
          · exact HK.out j hj (by omega)
        clear hcell Hc
        generalize l[k].2.2 = d at *
        by_cases hd : 3000 < d.length
        · have hdi : (3000 : Int) < (d.length : Int) := by omega
          have HF := Lib.hid (HN.out hd)
          clear HN HY
          go_wp2
          go_ret
          exact ⟨by rw [HF.out]; rfl, rfl⟩
        · have hdi : ¬ (3000 : Int) < (d.length : Int) := by omega
          have HY2 := Lib.hid (HY.out (by omega))
          clear HN HY
          go_wp2
          go_roundw
          case rel => exact ⟨k + 1, by omega, iv (by omega), HY2, by first | rfl | trivial⟩
          case measure => simp only [intOf]; omega
      · obtain rfl : k = n := by omega
        have HF := Lib.hid (few_yes (l := l) (by have := Hl.out; omega) fun j hj => HK.out j hj (by have := Hl.out; omega))
        go_wp2
        go_ret
        exact ⟨by rw [HF.out]; rfl, rfl⟩
  · have hni : (200 : Int) < (n : Int) := by omega
    have HF : Hid (fewF l = false) := Lib.hid (by
      cases e : fewF l with
      | false => rfl
      | true =>
        have := few_len e
        omega)
    clear hr hl
    go_enter Try.func7, Try.ntmps7
    go_wp2
    go_ret
    exact ⟨by rw [HF.out]; rfl, rfl⟩
end Go.Proofs.Ytckengcphaaohaa
