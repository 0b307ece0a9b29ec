/-
  Layer 18, the program's: what a name's runes may be, what counts, Check, the number of some digits.
-/
import Derived.Test.YtgoahcmgpjacjaaGreatNamR
import Derived.Laws.RangeAny
import Derived.Lib.OthersKept
namespace Go.Proofs.YtgoahcmgpjacjaaGreat
set_option linter.unusedSimpArgs false
set_option linter.unusedVariables false
open Go.ChangeShapes Go.WideShapes Go.ChangeAt Go.RowKit Go.Joins Go.Deep
theorem ndig_yes (r : Int) (h1 : 48 ≤ r) (h2 : r ≤ 57) (w : World) : Calls Tryz.prog 79 #[.int .i32 r] w fun e w' => e = .returned (.bool true) ∧ w' = w := by
  go_enter Tryz.func79, Tryz.ntmps79
  go_wp2
  go_ret
  exact ⟨rfl, rfl⟩
theorem ndig_no (r : Int) (h : ¬ (48 ≤ r ∧ r ≤ 57)) (w : World) : Calls Tryz.prog 79 #[.int .i32 r] w fun e w' => e = .returned (.bool false) ∧ w' = w := by
  by_cases h1 : 48 ≤ r
  · have h2 : ¬ r ≤ 57 := fun h2 => h ⟨h1, h2⟩
    clear h
    go_enter Tryz.func79, Tryz.ntmps79
    go_wp2
    go_ret
    exact ⟨rfl, rfl⟩
  · clear h
    go_enter Tryz.func79, Tryz.ntmps79
    go_wp2
    go_ret
    exact ⟨rfl, rfl⟩
def nfit (r : Int) : Prop := (97 ≤ r ∧ r ≤ 122) ∨ (48 ≤ r ∧ r ≤ 57) ∨ r = 46 ∨ r = 45
set_option maxRecDepth 100000 in
theorem nfits_yes (r : Int) (h : nfit r) (w : World) : Calls Tryz.prog 69 #[.int .i32 r] w fun e w' => e = .returned (.bool true) ∧ w' = w := by
  unfold nfit at h
  by_cases ha : 97 ≤ r
  · have hb : r ≤ 122 := by omega
    clear h
    go_enter Tryz.func69, Tryz.ntmps69
    go_wp2
    go_ret
    exact ⟨rfl, rfl⟩
  by_cases hd : 48 ≤ r ∧ r ≤ 57
  · have D := Lib.hid (ndig_yes r hd.1 hd.2)
    clear h hd
    go_enter Tryz.func69, Tryz.ntmps69
    go_wp2_with (first | (go_at_call 79; (with_reducible refine (D.out _).mono ?_); rintro e w1 ⟨rfl, rfl⟩) | fail)
    go_ret
    exact ⟨rfl, rfl⟩
  have D := Lib.hid (ndig_no r hd)
  by_cases h46 : r = 46
  · have hq : (r == 46) = true := by simpa using h46
    clear h hd ha
    subst h46
    go_enter Tryz.func69, Tryz.ntmps69
    go_wp2_with (first | (go_at_call 79; (with_reducible refine (D.out _).mono ?_); rintro e w1 ⟨rfl, rfl⟩) | fail)
    go_ret
    exact ⟨rfl, rfl⟩
  · have h45 : r = 45 := by omega
    clear h hd ha h46
    subst h45
    go_enter Tryz.func69, Tryz.ntmps69
    go_wp2_with (first | (go_at_call 79; (with_reducible refine (D.out _).mono ?_); rintro e w1 ⟨rfl, rfl⟩) | fail)
    go_ret
    exact ⟨rfl, rfl⟩
set_option maxRecDepth 100000 in
theorem nfits_no (r : Int) (h : ¬ nfit r) (w : World) : Calls Tryz.prog 69 #[.int .i32 r] w fun e w' => e = .returned (.bool false) ∧ w' = w := by
  unfold nfit at h
  have D := Lib.hid (ndig_no r (by omega))
  have h46 : ¬ r = 46 := by omega
  have h45 : ¬ r = 45 := by omega
  have q46 : (r == 46) = false := by simpa using h46
  have q45 : (r == 45) = false := by simpa using h45
  by_cases ha : 97 ≤ r
  · have hb : ¬ r ≤ 122 := by omega
    clear h
    go_enter Tryz.func69, Tryz.ntmps69
    go_wp2_with (first | (go_at_call 79; (with_reducible refine (D.out _).mono ?_); rintro e w1 ⟨rfl, rfl⟩) | fail)
    go_ret
    exact ⟨rfl, rfl⟩
  · clear h
    go_enter Tryz.func69, Tryz.ntmps69
    go_wp2_with (first | (go_at_call 79; (with_reducible refine (D.out _).mono ?_); rintro e w1 ⟨rfl, rfl⟩) | fail)
    go_ret
    exact ⟨rfl, rfl⟩
theorem nrune (s : List UInt8) (wr : World) (g pos : Nat) (hit : wr.heap[g]? = some (.stringIter ⟨s.toArray⟩ pos)) (hp : pos < s.length) :
    ∃ m d : Nat, (∀ ty, (Instr.next (.pointer (some ⟨g, 0, none⟩)) true ty).run Tryz.prog wr = .ok (.tuple #[.bool true, .int .i64 (pos : Int), .int .i32 (m : Int)]) (wr.iterAt g ⟨s.toArray⟩ (pos + d))) ∧
      ((s[pos].toNat < 128 ∧ m = s[pos].toNat ∧ d = 1) ∨ (128 ≤ s[pos].toNat ∧ 128 ≤ m)) ∧ m ≤ 2147483647 := by
  have hp' : pos < (⟨s.toArray⟩ : ByteArray).size := by rw [ByteArray.size_mk', List.size_toArray]; exact hp
  have hbb : (⟨s.toArray⟩ : ByteArray)[pos]'hp' = s[pos] := rfl
  by_cases hb : s[pos].toNat < 128
  · refine ⟨s[pos].toNat, 1, fun ty => ?_, .inl ⟨hb, rfl, rfl⟩, by omega⟩
    have := Lib.run_next_ascii_at (P := Tryz.prog) wr g ⟨s.toArray⟩ pos ty hit hp' (by rw [hbb]; exact hb)
    rw [hbb] at this
    exact this
  · refine ⟨(Utf8.decode ⟨s.toArray⟩ pos).1, (Utf8.decode ⟨s.toArray⟩ pos).2, fun ty => Lib.run_next_any_at wr g ⟨s.toArray⟩ pos ty hit hp', .inr ⟨by omega, ?_⟩, decode_le _ _⟩
    exact (decode_high ⟨s.toArray⟩ pos hp' (by rw [hbb]; omega)).1
theorem nrune_end (s : List UInt8) (wr : World) (g pos : Nat) (hit : wr.heap[g]? = some (.stringIter ⟨s.toArray⟩ pos)) (hp : ¬ pos < s.length) (ty : TypeId) :
    (Instr.next (.pointer (some ⟨g, 0, none⟩)) true ty).run Tryz.prog wr = .ok (.tuple #[.bool false]) wr :=
  Lib.run_next_end_at wr g ⟨s.toArray⟩ pos ty hit (by rw [ByteArray.size_mk', List.size_toArray]; exact hp)
theorem nchr_fit (c : UInt8) : nchr c = true ↔ nfit (c.toNat : Int) := by
  unfold nchr nfit
  rw [decide_eq_true_iff]
  omega
set_option maxRecDepth 100000 in
set_option maxHeartbeats 4000000 in
theorem p_nchk_any (s : List UInt8) (w : World) (hs : s.length ≤ 1000000) : Calls Tryz.prog 42 #[.string ⟨s.toArray⟩] w fun e w' => e = .returned (.int .i64 (nchkF s)) ∧ Below w.heap.size w w' := by
  by_cases h0 : s.length = 0
  · rw [show nchkF s = 180 from if_neg (by omega)]
    have h0i : (s.length : Int) < 1 := by omega
    go_enter Tryz.func42, Tryz.ntmps42
    go_wp2
    go_ret
    exact ⟨rfl, Below.refl _ _⟩
  have h0i : ¬ (s.length : Int) < 1 := by omega
  by_cases h6 : 64 < s.length
  · rw [show nchkF s = 180 from if_neg (by omega)]
    have h6i : (64 : Int) < (s.length : Int) := by omega
    go_enter Tryz.func42, Tryz.ntmps42
    go_wp2
    go_ret
    exact ⟨rfl, Below.refl _ _⟩
  have h6i : ¬ (64 : Int) < (s.length : Int) := by omega
  have HY := Lib.hid fun h => nchk_yes (s := s) (by omega) (by omega) h
  have HN := Lib.hid fun j hj h => nchk_no (s := s) (j := j) hj h
  have hL : s.length ≤ 64 := by omega
  generalize nchkF s = R at *
  go_enter Tryz.func42, Tryz.ntmps42
  go_wp2
  go_loopw [] (fun wr => ∃ k : Nat, k ≤ s.length ∧ wr.heap[w.heap.size]? = some (.stringIter ⟨s.toArray⟩ k) ∧ Hid (∀ j (hj : j < s.length), j < k → nchr s[j] = true) ∧ Hid (Below w.heap.size w wr)) (fun wr => s.length - wr.iterPos w.heap.size)
  case atStart =>
    refine ⟨0, by omega, World.iter_heap w _ 0, Lib.hid fun j _ h => absurd h (Nat.not_lt_zero _), Lib.hid ?_⟩
    exact (Below.refl _ w).alloc (Nat.le_refl _) _
  case round =>
    obtain ⟨k, hk, hit, HK, HB⟩ := hrel
    by_cases hlt : k < s.length
    · obtain ⟨m, d, hnx, hm, hm2⟩ := nrune s wr w.heap.size k hit hlt
      have hit2 := Lib.iterAt_heap wr w.heap.size ⟨s.toArray⟩ k (k + d) hit
      have HB2 := Lib.hid (Lib.below_iterAt HB.out (k := w.heap.size) (Nat.le_refl _) ⟨s.toArray⟩ (k + d))
      by_cases hf : nfit (m : Int)
      · have hc : s[k].toNat < 128 ∧ m = s[k].toNat ∧ d = 1 := by
          rcases hm with h | h
          · exact h
          · unfold nfit at hf
            omega
        obtain ⟨-, hc2, rfl⟩ := hc
        have hy : nchr s[k] = true := (nchr_fit _).2 (by rw [← hc2]; exact hf)
        have D := Lib.hid (nfits_yes (m : Int) hf)
        clear hm hf hc2 hm2
        generalize wr.iterAt w.heap.size ⟨s.toArray⟩ (k + 1) = w2 at *
        go_wp2_with (first | (go_at_call 69; (with_reducible refine (D.out _).mono ?_); rintro e w1 ⟨rfl, rfl⟩) | fail)
        go_roundw
        case rel =>
          refine ⟨k + 1, by omega, hit2, Lib.hid fun j hj h => ?_, HB2⟩
          by_cases hjk : j = k
          · subst hjk; exact hy
          · exact HK.out j hj (by omega)
        case measure =>
          simp only [World.iterPos, hit2, hit]
          omega
      · have hy : nchr s[k] = false := by
          cases h : nchr s[k]
          · rfl
          · exfalso
            have hx := (nchr_fit _).1 h
            rcases hm with h | h
            · rw [← h.2.1] at hx
              exact hf hx
            · unfold nfit at hx
              omega
        have hR := Lib.hid (HN.out k hlt hy)
        have D := Lib.hid (nfits_no (m : Int) hf)
        clear hm hf hm2
        generalize wr.iterAt w.heap.size ⟨s.toArray⟩ (k + d) = w2 at *
        go_wp2_with (first | (go_at_call 69; (with_reducible refine (D.out _).mono ?_); rintro e w1 ⟨rfl, rfl⟩) | fail)
        go_ret
        exact ⟨by rw [hR.out]; rfl, HB2.out⟩
    · have hnx := nrune_end s wr w.heap.size k hit hlt
      have hR := Lib.hid (HY.out fun j hj => HK.out j hj (by omega))
      go_wp2
      go_ret
      exact ⟨by rw [hR.out]; rfl, HB.out⟩
end Go.Proofs.YtgoahcmgpjacjaaGreat
