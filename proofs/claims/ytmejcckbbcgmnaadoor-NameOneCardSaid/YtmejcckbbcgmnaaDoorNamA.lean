/-
  Layer 18, the program's: what a name's runes may be, what counts, Check, the number of some digits.
-/
import Derived.Test.YtmejcckbbcgmnaaDoorNamP
import Derived.Laws.RangeAny
import Derived.Lib.OthersKept
namespace Go.Proofs.YtmejcckbbcgmnaaDoor
set_option linter.unusedSimpArgs false
set_option linter.unusedVariables false
open Go.ChangeShapes Go.WideShapes Go.ChangeAt Go.RowKit Go.Joins Go.Deep
theorem ndig_yes (r : Int) (h1 : 48 ≤ r) (h2 : r ≤ 57) (w : World) : Calls Tryd.prog 23 #[.int .i32 r] w fun e w' => e = .returned (.bool true) ∧ w' = w := by
  go_enter Tryd.func23, Tryd.ntmps23
  go_wp2
  go_ret
  exact ⟨rfl, rfl⟩
theorem ndig_no (r : Int) (h : ¬ (48 ≤ r ∧ r ≤ 57)) (w : World) : Calls Tryd.prog 23 #[.int .i32 r] w fun e w' => e = .returned (.bool false) ∧ w' = w := by
  by_cases h1 : 48 ≤ r
  · have h2 : ¬ r ≤ 57 := fun h2 => h ⟨h1, h2⟩
    clear h
    go_enter Tryd.func23, Tryd.ntmps23
    go_wp2
    go_ret
    exact ⟨rfl, rfl⟩
  · clear h
    go_enter Tryd.func23, Tryd.ntmps23
    go_wp2
    go_ret
    exact ⟨rfl, rfl⟩
def nfit (r : Int) : Prop := (97 ≤ r ∧ r ≤ 122) ∨ (48 ≤ r ∧ r ≤ 57) ∨ r = 46 ∨ r = 45
set_option maxRecDepth 100000 in
theorem nfits_yes (r : Int) (h : nfit r) (w : World) : Calls Tryd.prog 22 #[.int .i32 r] w fun e w' => e = .returned (.bool true) ∧ w' = w := by
  unfold nfit at h
  by_cases ha : 97 ≤ r
  · have hb : r ≤ 122 := by omega
    clear h
    go_enter Tryd.func22, Tryd.ntmps22
    go_wp2
    go_ret
    exact ⟨rfl, rfl⟩
  by_cases hd : 48 ≤ r ∧ r ≤ 57
  · have D := Lib.hid (ndig_yes r hd.1 hd.2)
    clear h hd
    go_enter Tryd.func22, Tryd.ntmps22
    go_wp2_with (first | (go_at_call 23; (with_reducible refine (D.out _).mono ?_); rintro e w1 ⟨rfl, rfl⟩) | fail)
    go_ret
    exact ⟨rfl, rfl⟩
  have D := Lib.hid (ndig_no r hd)
  by_cases h46 : r = 46
  · have hq : (r == 46) = true := by simpa using h46
    clear h hd ha
    subst h46
    go_enter Tryd.func22, Tryd.ntmps22
    go_wp2_with (first | (go_at_call 23; (with_reducible refine (D.out _).mono ?_); rintro e w1 ⟨rfl, rfl⟩) | fail)
    go_ret
    exact ⟨rfl, rfl⟩
  · have h45 : r = 45 := by omega
    clear h hd ha h46
    subst h45
    go_enter Tryd.func22, Tryd.ntmps22
    go_wp2_with (first | (go_at_call 23; (with_reducible refine (D.out _).mono ?_); rintro e w1 ⟨rfl, rfl⟩) | fail)
    go_ret
    exact ⟨rfl, rfl⟩
set_option maxRecDepth 100000 in
theorem nfits_no (r : Int) (h : ¬ nfit r) (w : World) : Calls Tryd.prog 22 #[.int .i32 r] w fun e w' => e = .returned (.bool false) ∧ w' = w := by
  unfold nfit at h
  have D := Lib.hid (ndig_no r (by omega))
  have h46 : ¬ r = 46 := by omega
  have h45 : ¬ r = 45 := by omega
  have q46 : (r == 46) = false := by simpa using h46
  have q45 : (r == 45) = false := by simpa using h45
  by_cases ha : 97 ≤ r
  · have hb : ¬ r ≤ 122 := by omega
    clear h
    go_enter Tryd.func22, Tryd.ntmps22
    go_wp2_with (first | (go_at_call 23; (with_reducible refine (D.out _).mono ?_); rintro e w1 ⟨rfl, rfl⟩) | fail)
    go_ret
    exact ⟨rfl, rfl⟩
  · clear h
    go_enter Tryd.func22, Tryd.ntmps22
    go_wp2_with (first | (go_at_call 23; (with_reducible refine (D.out _).mono ?_); rintro e w1 ⟨rfl, rfl⟩) | fail)
    go_ret
    exact ⟨rfl, rfl⟩
theorem ncnt_yes (r : Int) (h1 : 1 ≤ r) (h2 : r ≤ 999999) (w : World) : Calls Tryd.prog 19 #[.int .i64 r] w fun e w' => e = .returned (.bool true) ∧ w' = w := by
  go_enter Tryd.func19, Tryd.ntmps19
  go_wp2
  go_ret
  exact ⟨rfl, rfl⟩
theorem ncnt_no (r : Int) (h : ¬ (1 ≤ r ∧ r ≤ 999999)) (w : World) : Calls Tryd.prog 19 #[.int .i64 r] w fun e w' => e = .returned (.bool false) ∧ w' = w := by
  by_cases h1 : 1 ≤ r
  · have h2 : ¬ r ≤ 999999 := fun h2 => h ⟨h1, h2⟩
    clear h
    go_enter Tryd.func19, Tryd.ntmps19
    go_wp2
    go_ret
    exact ⟨rfl, rfl⟩
  · clear h
    go_enter Tryd.func19, Tryd.ntmps19
    go_wp2
    go_ret
    exact ⟨rfl, rfl⟩
theorem nrune (s : List UInt8) (wr : World) (g pos : Nat) (hit : wr.heap[g]? = some (.stringIter ⟨s.toArray⟩ pos)) (hp : pos < s.length) :
    ∃ m d : Nat, (∀ ty, (Instr.next (.pointer (some ⟨g, 0, none⟩)) true ty).run Tryd.prog wr = .ok (.tuple #[.bool true, .int .i64 (pos : Int), .int .i32 (m : Int)]) (wr.iterAt g ⟨s.toArray⟩ (pos + d))) ∧
      ((s[pos].toNat < 128 ∧ m = s[pos].toNat ∧ d = 1) ∨ (128 ≤ s[pos].toNat ∧ 128 ≤ m)) ∧ m ≤ 2147483647 := by
  have hp' : pos < (⟨s.toArray⟩ : ByteArray).size := by rw [ByteArray.size_mk', List.size_toArray]; exact hp
  have hbb : (⟨s.toArray⟩ : ByteArray)[pos]'hp' = s[pos] := rfl
  by_cases hb : s[pos].toNat < 128
  · refine ⟨s[pos].toNat, 1, fun ty => ?_, .inl ⟨hb, rfl, rfl⟩, by omega⟩
    have := Lib.run_next_ascii_at (P := Tryd.prog) wr g ⟨s.toArray⟩ pos ty hit hp' (by rw [hbb]; exact hb)
    rw [hbb] at this
    exact this
  · refine ⟨(Utf8.decode ⟨s.toArray⟩ pos).1, (Utf8.decode ⟨s.toArray⟩ pos).2, fun ty => Lib.run_next_any_at wr g ⟨s.toArray⟩ pos ty hit hp', .inr ⟨by omega, ?_⟩, decode_le _ _⟩
    exact (decode_high ⟨s.toArray⟩ pos hp' (by rw [hbb]; omega)).1
theorem nrune_end (s : List UInt8) (wr : World) (g pos : Nat) (hit : wr.heap[g]? = some (.stringIter ⟨s.toArray⟩ pos)) (hp : ¬ pos < s.length) (ty : TypeId) :
    (Instr.next (.pointer (some ⟨g, 0, none⟩)) true ty).run Tryd.prog wr = .ok (.tuple #[.bool false]) wr :=
  Lib.run_next_end_at wr g ⟨s.toArray⟩ pos ty hit (by rw [ByteArray.size_mk', List.size_toArray]; exact hp)
theorem nchr_fit (c : UInt8) : nchr c = true ↔ nfit (c.toNat : Int) := by
  unfold nchr nfit
  rw [decide_eq_true_iff]
  omega
set_option maxRecDepth 100000 in
set_option maxHeartbeats 4000000 in
theorem p_nchk_any (s : List UInt8) (w : World) (hs : s.length ≤ 1000000) : Calls Tryd.prog 11 #[.string ⟨s.toArray⟩] w fun e w' => e = .returned (.int .i64 (nchkF s)) ∧ Below w.heap.size w w' := by
  by_cases h0 : s.length = 0
  · rw [show nchkF s = 180 from if_neg (by omega)]
    have h0i : (s.length : Int) < 1 := by omega
    go_enter Tryd.func11, Tryd.ntmps11
    go_wp2
    go_ret
    exact ⟨rfl, Below.refl _ _⟩
  have h0i : ¬ (s.length : Int) < 1 := by omega
  by_cases h6 : 64 < s.length
  · rw [show nchkF s = 180 from if_neg (by omega)]
    have h6i : (64 : Int) < (s.length : Int) := by omega
    go_enter Tryd.func11, Tryd.ntmps11
    go_wp2
    go_ret
    exact ⟨rfl, Below.refl _ _⟩
  have h6i : ¬ (64 : Int) < (s.length : Int) := by omega
  have HY := Lib.hid fun h => nchk_yes (s := s) (by omega) (by omega) h
  have HN := Lib.hid fun j hj h => nchk_no (s := s) (j := j) hj h
  have hL : s.length ≤ 64 := by omega
  generalize nchkF s = R at *
  go_enter Tryd.func11, Tryd.ntmps11
  go_wp2
  go_loopw [] (fun wr => ∃ k : Nat, k ≤ s.length ∧ wr.heap[w.heap.size]? = some (.stringIter ⟨s.toArray⟩ k) ∧ Hid (∀ j (hj : j < s.length), j < k → nchr s[j] = true) ∧ Hid (Below w.heap.size w wr)) (fun wr => s.length - wr.iterPos w.heap.size)
  case atStart =>
    refine ⟨0, by omega, World.iter_heap w _ 0, Lib.hid fun j _ h => absurd h (Nat.not_lt_zero _), Lib.hid ?_⟩
    exact (Below.refl _ w).alloc (Nat.le_refl _) _
  case round =>
    obtain ⟨k, hk, hit, HK, HB⟩ := hrel
    by_cases hlt : k < s.length
    · obtain ⟨m, d, hnx, hm, hm2⟩ := nrune s wr w.heap.size k hit hlt
      have hit2 := Lib.iterAt_heap wr w.heap.size ⟨s.toArray⟩ k (k + d) hit
      have HB2 := Lib.hid (Lib.below_iterAt HB.out (k := w.heap.size) (Nat.le_refl _) ⟨s.toArray⟩ (k + d))
      by_cases hf : nfit (m : Int)
      · have hc : s[k].toNat < 128 ∧ m = s[k].toNat ∧ d = 1 := by
          rcases hm with h | h
          · exact h
          · unfold nfit at hf
            omega
        obtain ⟨-, hc2, rfl⟩ := hc
        have hy : nchr s[k] = true := (nchr_fit _).2 (by rw [← hc2]; exact hf)
        have D := Lib.hid (nfits_yes (m : Int) hf)
        clear hm hf hc2 hm2
        generalize wr.iterAt w.heap.size ⟨s.toArray⟩ (k + 1) = w2 at *
        go_wp2_with (first | (go_at_call 22; (with_reducible refine (D.out _).mono ?_); rintro e w1 ⟨rfl, rfl⟩) | fail)
        go_roundw
        case rel =>
          refine ⟨k + 1, by omega, hit2, Lib.hid fun j hj h => ?_, HB2⟩
          by_cases hjk : j = k
          · subst hjk; exact hy
          · exact HK.out j hj (by omega)
        case measure =>
          simp only [World.iterPos, hit2, hit]
          omega
      · have hy : nchr s[k] = false := by
          cases h : nchr s[k]
          · rfl
          · exfalso
            have hx := (nchr_fit _).1 h
            rcases hm with h | h
            · rw [← h.2.1] at hx
              exact hf hx
            · unfold nfit at hx
              omega
        have hR := Lib.hid (HN.out k hlt hy)
        have D := Lib.hid (nfits_no (m : Int) hf)
        clear hm hf hm2
        generalize wr.iterAt w.heap.size ⟨s.toArray⟩ (k + d) = w2 at *
        go_wp2_with (first | (go_at_call 22; (with_reducible refine (D.out _).mono ?_); rintro e w1 ⟨rfl, rfl⟩) | fail)
        go_ret
        exact ⟨by rw [hR.out]; rfl, HB2.out⟩
    · have hnx := nrune_end s wr w.heap.size k hit hlt
      have hR := Lib.hid (HY.out fun j hj => HK.out j hj (by omega))
      go_wp2
      go_ret
      exact ⟨by rw [hR.out]; rfl, HB.out⟩
def nnum (l : List UInt8) : Int := if 0 ≤ nun l 0 then nun l 0 else 0
set_option maxRecDepth 100000 in
set_option maxHeartbeats 4000000 in
theorem p_nnum_any (l : List UInt8) (w : World) (hl : l.length ≤ 6) :
    Calls Tryd.prog 17 #[.string ⟨l.toArray⟩] w fun e w' => e = .returned (.int .i64 (nnum l)) ∧ Below w.heap.size w w' := by
  have H0 : Hid (nun (l.drop 0) 0 = nun l 0) := Lib.hid rfl
  have Hst := Lib.hid fun k (h : k < l.length) m => (show nun (l.drop k) m = if 48 ≤ l[k].toNat ∧ l[k].toNat ≤ 57 then nun (l.drop (k + 1)) (10 * m + (l[k].toNat - 48)) else -1 from by rw [List.drop_eq_getElem_cons h]; rfl)
  have Hend := Lib.hid fun m => (show nun (l.drop l.length) m = (m : Int) from by rw [List.drop_length]; rfl)
  have HF : Hid (nnum l = if 0 ≤ nun l 0 then nun l 0 else 0) := Lib.hid rfl
  generalize nnum l = F at *
  generalize nun l 0 = R at *
  go_enter Tryd.func17, Tryd.ntmps17
  go_wp2
  go_loopw [3] (fun v wr => ∃ k m : Nat, k ≤ l.length ∧ v = .int .i64 (m : Int) ∧ wr.heap[w.heap.size]? = some (.stringIter ⟨l.toArray⟩ k) ∧ Hid (nun (l.drop k) m = R ∧ m < 10 ^ k) ∧ Hid (Below w.heap.size w wr)) (fun _ wr => l.length - wr.iterPos w.heap.size)
  case atStart => exact ⟨0, 0, by omega, rfl, World.iter_heap w _ 0, Lib.hid ⟨H0.out, by decide⟩, Lib.hid ((Below.refl _ w).alloc (Nat.le_refl _) _)⟩
  case round =>
    obtain ⟨k, m, hk, rfl, hit, HI, HB⟩ := hrel
    by_cases hlt : k < l.length
    · obtain ⟨r, d, hnx, hm, hm2⟩ := nrune l wr w.heap.size k hit hlt
      have hit2 := Lib.iterAt_heap wr w.heap.size ⟨l.toArray⟩ k (k + d) hit
      have HB2 := Lib.hid (Lib.below_iterAt HB.out (k := w.heap.size) (Nat.le_refl _) ⟨l.toArray⟩ (k + d))
      have hst := Hst.out k hlt m
      have hmk : m < 1000000 := Nat.lt_of_lt_of_le HI.out.2 (by
        have := Nat.pow_le_pow_right (by omega : 0 < 10) (by omega : k ≤ 6)
        exact this)
      have hmi : (m : Int) < 1000000 := by omega
      clear Hst Hend
      by_cases hd : 48 ≤ r ∧ r ≤ 57
      · have hc : l[k].toNat = r ∧ d = 1 := by
          rcases hm with h | h
          · exact ⟨h.2.1.symm, h.2.2⟩
          · omega
        obtain ⟨hc1, rfl⟩ := hc
        rw [hc1, if_pos (by omega)] at hst
        have D := Lib.hid (ndig_yes (r : Int) (by omega) (by omega))
        obtain ⟨x, rfl⟩ : ∃ x, r = 48 + x := ⟨r - 48, by omega⟩
        have hx9 : x ≤ 9 := by omega
        rw [Nat.add_sub_cancel_left] at hst
        have hsub : IntKind.i32.wrap (((48 + x : Nat) : Int) - 48) = (x : Int) := by rw [IntKind.wrap_i32]; omega
        have hdi : (x : Int) ≤ 9 := by omega
        have HI2 : Hid (nun (l.drop (k + 1)) (10 * m + x) = R ∧ 10 * m + x < 10 ^ (k + 1)) := Lib.hid ⟨by rw [← hst]; exact HI.out.1, by have := HI.out.2; rw [Nat.pow_succ]; omega⟩
        clear hst hm hm2 hd hc1 HI
        generalize wr.iterAt w.heap.size ⟨l.toArray⟩ (k + 1) = w2 at *
        generalize (((48 + x : Nat) : Int)) = rr at *
        go_wp2_with (first | (go_at_call 23; (with_reducible refine (D.out _).mono ?_); rintro e w1 ⟨rfl, rfl⟩) | fail)
        go_roundw
        case rel => exact ⟨k + 1, 10 * m + x, by omega, iv (by omega), hit2, HI2, HB2⟩
        case measure =>
          simp only [World.iterPos, hit2, hit]
          omega
      · rw [if_neg (by rcases hm with h | h <;> omega)] at hst
        have HR : Hid (F = 0) := Lib.hid (by rw [HF.out, ← HI.out.1, hst, if_neg (by decide)])
        have D := Lib.hid (ndig_no (r : Int) (by omega))
        clear hst hm hm2 hd
        generalize wr.iterAt w.heap.size ⟨l.toArray⟩ (k + d) = w2 at *
        go_wp2_with (first | (go_at_call 23; (with_reducible refine (D.out _).mono ?_); rintro e w1 ⟨rfl, rfl⟩) | fail)
        go_ret
        exact ⟨by rw [HR.out]; rfl, HB2.out⟩
    · have hkn : k = l.length := by omega
      subst hkn
      have HR : Hid (F = (m : Int)) := Lib.hid (by rw [HF.out, ← HI.out.1, Hend.out, if_pos (by omega)])
      have hnx := nrune_end l wr w.heap.size l.length hit (by omega)
      clear Hst Hend
      go_wp2
      go_ret
      exact ⟨by rw [HR.out]; rfl, HB.out⟩
end Go.Proofs.YtmejcckbbcgmnaaDoor
