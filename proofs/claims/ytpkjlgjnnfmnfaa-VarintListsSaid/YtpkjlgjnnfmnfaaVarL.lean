/-
  Layer 2: what List of package varint returns, for every list that can be read.
-/
import Derived.Test.YtpkjlgjnnfmnfaaVarP
namespace Go.Proofs.Ytpkjlgjnnfmnfaa
set_option linter.unusedSimpArgs false
set_option linter.unusedVariables false
open Go.ChangeShapes Go.WideShapes Go.ChangeAt Go.RowKit Go.Joins Go.Deep

/-- A number laid behind what is laid already, in a row that is 0 from there on. -/
theorem lay_on (x : Int) (S : Nat) (D : List UInt8) (g : Nat) (w : World) (h0 : 0 ≤ x) (hx : x < 9223372036854775808) (hS : (D ++ putB x).length ≤ S) (hmax : S ≤ 4611686018427387904) (hB : Blk w g 5 (bc (D ++ List.replicate (S - D.length) 0))) :
    Calls Try.prog 24 #[.slice (some ⟨g, 0, none⟩) S S, .int .i64 D.length, .int .i64 x] w fun e w' => e = .returned (.int .i64 ((D ++ putB x).length : Nat)) ∧ Blk w' g 5 (bc ((D ++ putB x) ++ List.replicate (S - (D ++ putB x).length) 0)) ∧ Below g w w' := by
  obtain ⟨m, rfl⟩ := Int.eq_ofNat_of_zero_le h0
  have e1 : putB (m : Int) = dg 9 m := by rw [putB_of (by omega), Int.toNat_natCast]
  rw [e1] at hS ⊢
  rw [List.length_append] at hS ⊢
  have hsplit : List.replicate (S - D.length) (0 : UInt8) = List.replicate (dg 9 m).length 0 ++ List.replicate (S - (D.length + (dg 9 m).length)) 0 := by
    rw [List.replicate_append_replicate]
    congr 1
    omega
  rw [hsplit] at hB
  have := lay_any m S D (List.replicate (dg 9 m).length 0) (List.replicate (S - (D.length + (dg 9 m).length)) 0) g w (by omega) (by simp) (by simp; omega) hB hmax
  rw [List.append_assoc]
  exact this

/-- What is laid of a list when k of its numbers are. -/
def laid (l : List Int) (k : Nat) : List UInt8 := putB l.length ++ (l.take k).flatMap putB
theorem laid_succ (l : List Int) (k : Nat) (h : k < l.length) : laid l (k + 1) = laid l k ++ putB l[k] := by
  unfold laid
  rw [List.take_succ_eq_append_getElem h, List.flatMap_append, List.append_assoc]
  simp
theorem putB_le (x : Int) : (putB x).length ≤ 9 := by
  unfold putB
  split
  · simp
  · exact dg_le 9 _
theorem laid_le (l : List Int) : ∀ k, k ≤ l.length → (laid l k).length ≤ 9 * (k + 1)
  | 0, _ => by have := putB_le l.length; simp [laid]; omega
  | k + 1, h => by
    have ih := laid_le l k (by omega)
    have := putB_le l[k]
    rw [laid_succ l k (by omega), List.length_append]
    omega
theorem laid_mono (l : List Int) (k : Nat) (h : k ≤ l.length) : (laid l k).length ≤ (laid l l.length).length := by
  have e : laid l l.length = laid l k ++ (l.drop k).flatMap putB := by
    unfold laid
    rw [List.append_assoc, ← List.flatMap_append]
    congr 2
    rw [List.take_length, List.take_append_drop]
  rw [e, List.length_append]
  omega

set_option maxRecDepth 100000 in
set_option maxHeartbeats 1000000 in
theorem list_any (A : Option Addr) (n c : Nat) (l : List Int) (w : World) (hn : l.length = n) (hlen : n ≤ 17592186044416) (hr : Reads w w.heap.size 1 A n (ints l)) (hbd : ∀ x ∈ l, x < 9223372036854775808) :
    Calls Try.prog 19 #[.slice A n c] w fun e w' => e = .returned (strInt (listB l) (listE l)) ∧ Below w.heap.size w w' := by
  have hsz : sizeF (n : Int) = ((laid l 0).length : Int) := by unfold sizeF; rw [← hn]; simp [laid]
  have hcell : 0 < n → ∃ b off, A = some ⟨b, off, none⟩ ∧ b < w.heap.size ∧ ∀ k, (hk : k < l.length) → w.cell? ⟨b, off + k, none⟩ = some (.int .i64 l[k]) := by
    intro h
    obtain ⟨b, off, e, hb, hc⟩ := hr.2 h
    exact ⟨b, off, e, hb, fun k hk => hc k _ (ints_get l k hk)⟩
  have HN := Lib.hid hn
  have HC := Lib.hid hcell
  have HB := Lib.hid hbd
  have hn' : (n : Int) < 9223372036854775808 := by omega
  clear hr hcell hn hbd
  go_enter Try.func19, Try.ntmps19
  go_wp2_with (refine (size_any (n : Int) _ hn').mono ?_; rintro e w1 ⟨rfl, rfl⟩; rw [hsz])
  go_loop [4, 16] (fun s i => ∃ k S : Nat, k ≤ n ∧ i = .int .i64 k ∧ s = .int .i64 S ∧ S ≤ 158329674399753 ∧ Hid (S = (laid l k).length ∧ ∀ j, (h : j < l.length) → j < k → 0 ≤ l[j])) (fun _ i => n - (intOf i).toNat)
  case atStart => exact ⟨0, _, by omega, rfl, rfl, by have := laid_le l 0 (by omega); omega, rfl, fun j _ h => by omega⟩
  case round =>
    obtain ⟨k, S, hk, rfl, rfl, hS, hd⟩ := hrel
    by_cases hlt : k < n
    · have hkl : k < l.length := by have := HN.out; omega
      obtain ⟨b, off, rfl, hb, hc⟩ := HC.out (by omega)
      have hcell := hc k hkl
      have hxb := HB.out l[k] (List.getElem_mem hkl)
      obtain ⟨hd1, hd2⟩ := hd.out
      have hsx : sizeF l[k] = (putB l[k]).length := rfl
      have hp9 := putB_le l[k]
      have hsucc := laid_succ l k hkl
      have hnext := laid_le l (k + 1) (by omega)
      rw [hsucc, List.length_append] at hnext
      by_cases hneg : l[k] < 0
      · have hany : l.any (fun n => decide (n < 0)) = true := List.any_eq_true.2 ⟨l[k], List.getElem_mem hkl, by simpa using hneg⟩
        have e1 : listB l = [] := by unfold listB; rw [if_pos hany]
        have e2 : listE l = 2 := by unfold listE; rw [if_pos hany]
        have E1 := Lib.hid e1
        have E2 := Lib.hid e2
        generalize l[k] = x at *
        clear hc hd1 hd2 hsucc hnext hsx hp9 hany e1 e2 HB HC
        go_wp2
        go_ret2
        exact ⟨by rw [E1.out, E2.out]; rfl, by go_grown⟩
      · have hnext' : S + (putB l[k]).length ≤ 158329674399753 := by omega
        have hgoal : ∃ k' S' : Nat, k' ≤ n ∧ Value.int .i64 ((k : Int) + 1) = .int .i64 (k' : Int) ∧ Value.int .i64 ((S : Int) + (putB l[k]).length) = .int .i64 (S' : Int) ∧ S' ≤ 158329674399753 ∧ Hid (S' = (laid l k').length ∧ ∀ j, (h : j < l.length) → j < k' → 0 ≤ l[j]) := by
          refine ⟨k + 1, S + (putB l[k]).length, by omega, iv (by omega), iv (by omega), hnext', ?_, ?_⟩
          · rw [hsucc, List.length_append, hd1]
          · intro j hj hjk
            rcases Nat.lt_or_ge j k with h | h
            · exact hd2 j hj h
            · obtain rfl : j = k := by omega
              omega
        have HG := Lib.hid hgoal
        generalize l[k] = x at *
        generalize hP : (putB x).length = P at *
        have HP := Lib.hid hP
        clear hP hc hd hd1 hd2 hsucc hnext HB HC hgoal
        go_wp2_with (refine (size_any x _ hxb).mono ?_; rintro e w1 ⟨rfl, rfl⟩; rw [hsx])
        go_round
        case rel => exact HG.out
        case measure => simp [intOf]; omega
    · obtain rfl : k = n := by omega
      obtain ⟨hd1, hd2⟩ := hd.out
      have hpos : Hid (∀ j, (h : j < l.length) → 0 ≤ l[j]) := Lib.hid fun j h => hd2 j h (by have := HN.out; omega)
      have hany : l.any (fun n => decide (n < 0)) = false := by
        rw [List.any_eq_false]
        intro x hx
        obtain ⟨j, hj, rfl⟩ := List.getElem_of_mem hx
        have := hpos.out j hj
        simpa using this
      have e1 : listB l = laid l l.length := by unfold listB laid; rw [hany, List.take_length]; simp
      have e2 : listE l = 0 := by unfold listE; rw [hany]; simp
      have E1 := Lib.hid e1
      have E2 := Lib.hid e2
      have hmk := fun W : World => run_make_bytes S (by omega) W
      have hS' : S = (laid l l.length).length := by rw [hd1, HN.out]
      have hlay : ∀ (W : World), Blk W w.heap.size 5 (bc (List.replicate S 0)) → Calls Try.prog 24 #[.slice (some ⟨w.heap.size, 0, none⟩) S S, .int .i64 0, .int .i64 k] W fun e w' => e = .returned (.int .i64 ((laid l 0).length : Nat)) ∧ Blk w' w.heap.size 5 (bc (laid l 0 ++ List.replicate (S - (laid l 0).length) 0)) ∧ Below w.heap.size W w' := by
        intro W hB
        have h00 : laid l 0 = [] ++ putB (k : Int) := by unfold laid; rw [HN.out]; simp
        rw [h00]
        have hm := laid_mono l 0 (by omega)
        exact lay_on (k : Int) S [] w.heap.size W (by omega) hn' (by rw [← h00]; omega) (by omega) (by simpa using hB)
      have hS0 : Hid ((laid l 0).length ≤ S) := Lib.hid (by have := laid_mono l 0 (by omega); omega)
      have HS := Lib.hid hS'
      have Hlay := Lib.hid hlay
      clear hlay hd hd1 hd2 hany e1 e2 hS'
      generalize hP : (laid l 0).length = P at *
      have HP := Lib.hid hP
      clear hP
      go_wp2_with (go_at_call 24; refine (Hlay.out _ (Blk.new _ _ _)).mono ?_; rintro e w2 ⟨rfl, hB2, hb2⟩)
      have hb2' : Below w.heap.size w w2 := Below.trans (by go_grown) hb2
      have HB2 := Lib.hid hB2
      have Hb2 := Lib.hid hb2'
      clear hB2 hb2 hb2' Hlay hmk hsz
      go_loopw [8, 35] (fun p i wr => ∃ j Q : Nat, j ≤ k ∧ i = .int .i64 j ∧ p = .int .i64 Q ∧ Hid (Q = (laid l j).length) ∧ Hid (Blk wr w.heap.size 5 (bc (laid l j ++ List.replicate (S - (laid l j).length) 0))) ∧ Hid (Below w.heap.size w wr)) (fun _ i _ => k - (intOf i).toNat)
      case atStart => exact ⟨0, P, by omega, rfl, rfl, HP.out.symm, by show Blk _ _ _ _; rw [HP.out]; exact HB2.out, Hb2.out⟩
      case round =>
        obtain ⟨j, Q, hj, rfl, rfl, HQ, HBj, Hb⟩ := hrel
        by_cases hjk : j < k
        · have hjl : j < l.length := by have := HN.out; omega
          obtain ⟨b, off, rfl, hb, hc⟩ := HC.out (by omega)
          have hcell : wr.cell? ⟨b, off + j, none⟩ = some (.int .i64 l[j]) := (Hb.out.cell (p := ⟨b, off + j, none⟩) hb).trans (hc j hjl)
          have hlay : Calls Try.prog 24 #[.slice (some ⟨w.heap.size, 0, none⟩) S S, .int .i64 Q, .int .i64 l[j]] wr fun e w' => e = .returned (.int .i64 ((laid l (j + 1)).length : Nat)) ∧ Blk w' w.heap.size 5 (bc (laid l (j + 1) ++ List.replicate (S - (laid l (j + 1)).length) 0)) ∧ Below w.heap.size wr w' := by
            have hm := laid_mono l (j + 1) (by omega)
            have hsS := HS.out
            rw [laid_succ l j hjl] at hm ⊢
            have hQ : (Q : Int) = ((laid l j).length : Nat) := by rw [HQ.out]
            rw [hQ]
            exact lay_on l[j] S (laid l j) w.heap.size wr (hpos.out j hjl) (HB.out _ (List.getElem_mem hjl)) (by omega) (by omega) HBj.out
          have Hlay := Lib.hid hlay
          clear hlay hc HC HB HBj HB2 Hb2 hpos
          generalize l[j] = x at *
          go_wp2_with (refine Hlay.out.mono ?_; rintro e w3 ⟨rfl, hB3, hb3⟩)
          go_roundw
          case rel => exact ⟨j + 1, _, by omega, iv (by omega), rfl, rfl, hB3, Below.trans Hb.out hb3⟩
          case measure => simp [intOf]; omega
        · obtain rfl : j = k := by omega
          have hcv := run_str wr w.heap.size S S 5 (laid l l.length) HS.out.symm (by
            have := HBj.out
            rw [← HN.out, ← HS.out, Nat.sub_self] at this
            simpa using this)
          clear HBj HB2 Hb2 HC HB hpos
          go_wp2
          go_ret2
          exact ⟨by rw [E1.out, E2.out]; rfl, Hb.out⟩
end Go.Proofs.Ytpkjlgjnnfmnfaa
