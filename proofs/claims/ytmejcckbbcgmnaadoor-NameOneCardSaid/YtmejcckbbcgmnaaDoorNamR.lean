/-
  Layer 18, the document's: Check, six, Segment, unsix (ahead of the code's landing).
-/
import Derived.Test.YtmejcckbbcgmnaaDoorNamM
import Derived.Test.YtmejcckbbcgmnaaDoorVarR
namespace Go.Proofs.YtmejcckbbcgmnaaDoor
set_option linter.unusedSimpArgs false
set_option linter.unusedVariables false
open Go.ChangeShapes Go.WideShapes Go.ChangeAt Go.RowKit Go.Joins Go.Deep
theorem nbyte_at (l : List UInt8) (k : Nat) (h : k < l.length) (w : World) : (Instr.index 9 (.string ⟨l.toArray⟩) (.int .i64 (k : Int))).run Tryd.prog w = .ok (.int .u8 (l[k].toNat : Int)) w := by
  simp [Instr.index, run_underlying Tryd.underlying9, asIntOf, go_sem, h]
  rfl
theorem nchk_yes {s : List UInt8} (h1 : 1 ≤ s.length) (h2 : s.length ≤ 64) (h : ∀ j (hj : j < s.length), nchr s[j] = true) : nchkF s = 0 := by
  refine if_pos ⟨h1, h2, List.all_eq_true.2 fun c hc => ?_⟩
  obtain ⟨j, hj, rfl⟩ := List.getElem_of_mem hc
  exact h j hj
theorem nchk_no {s : List UInt8} {j : Nat} (hj : j < s.length) (h : nchr s[j] = false) : nchkF s = 180 := by
  refine if_neg fun hc => ?_
  have := List.all_eq_true.1 hc.2.2 _ (List.getElem_mem hj)
  rw [h] at this
  cases this
set_option maxRecDepth 100000 in
set_option maxHeartbeats 4000000 in
theorem nref_check_any (s : List UInt8) (w : World) (hs : s.length ≤ 1000000) :
    Calls Tryd.prog 12 #[.string ⟨s.toArray⟩] w fun e w' => e = .returned (.int .i64 (nchkF s)) ∧ w' = w := by
  by_cases h0 : s.length = 0
  · rw [show nchkF s = 180 from if_neg (by omega)]
    have h0i : (s.length : Int) = 0 := by omega
    go_enter Tryd.func12, Tryd.ntmps12
    go_wp2
    go_ret
    exact ⟨rfl, rfl⟩
  have h0i : ¬ (s.length : Int) = 0 := by omega
  have h0b : ((s.length : Int) == 0) = false := by simpa using h0
  by_cases h6 : 64 < s.length
  · rw [show nchkF s = 180 from if_neg (by omega)]
    have h6i : (64 : Int) < (s.length : Int) := by omega
    go_enter Tryd.func12, Tryd.ntmps12
    go_wp2
    go_ret
    exact ⟨rfl, rfl⟩
  have h6i : ¬ (64 : Int) < (s.length : Int) := by omega
  have HY := Lib.hid fun h => nchk_yes (s := s) (by omega) (by omega) h
  have HN := Lib.hid fun j hj h => nchk_no (s := s) (j := j) hj h
  have hL : s.length ≤ 64 := by omega
  generalize nchkF s = R at *
  have HB := Lib.hid fun k (h : k < s.length) W => nbyte_at s k h W
  go_enter Tryd.func12, Tryd.ntmps12
  go_wp2
  go_loopw [3] (fun i wr => ∃ k : Nat, k ≤ s.length ∧ i = .int .i64 (k : Int) ∧ Hid (∀ j (hj : j < s.length), j < k → nchr s[j] = true) ∧ wr = w) (fun i _ => s.length - (intOf i).toNat)
  case atStart => exact ⟨0, by omega, rfl, Lib.hid fun j _ h => absurd h (Nat.not_lt_zero _), rfl⟩
  case round =>
    obtain ⟨k, hk, rfl, HK, hw⟩ := hrel
    subst hw
    by_cases hlt : k < s.length
    · have hkl : k < s.length := hlt
      have hby := fun W => HB.out k hkl W
      have hki : (0 : Int) ≤ (k : Int) ∧ (k : Int) < (s.length : Int) := by omega
      have hx := u8_lt s[k]
      have HX : Hid (nchr s[k] = decide ((97 ≤ s[k].toNat ∧ s[k].toNat ≤ 122) ∨ (48 ≤ s[k].toNat ∧ s[k].toNat ≤ 57) ∨ s[k].toNat = 46 ∨ s[k].toNat = 45)) := Lib.hid rfl
      have HK2 : Hid (nchr s[k] = true → ∀ j (hj : j < s.length), j < k + 1 → nchr s[j] = true) := Lib.hid fun h j hj hj2 => by
        by_cases e : j = k
        · subst e
          exact h
        · exact HK.out j hj (by omega)
      have HN2 := Lib.hid fun h => HN.out k hkl h
      clear HN HB
      generalize nchr s[k] = g at *
      obtain ⟨x, hxx⟩ : ∃ x : Int, (s[k].toNat : Int) = x := ⟨_, rfl⟩
      have hcs : (97 ≤ x ∧ x ≤ 122) ∨ (48 ≤ x ∧ x ≤ 57) ∨ x = 46 ∨ x = 45 ∨ (x < 48 ∧ x ≠ 46 ∧ x ≠ 45) ∨ (57 < x ∧ x < 97) ∨ 122 < x := by omega
      generalize s[k].toNat = z at *
      rw [hxx] at hby
      rcases hcs with h | h | h | h | h | h | h
      · have hg : Hid (g = true) := Lib.hid (by rw [HX.out]; exact decide_eq_true (by omega))
        have HK3 := Lib.hid (HK2.out hg.out)
        have f0 : ¬ x < 97 := by omega
        have f1 : ¬ 122 < x := by omega
        clear HX hg HK2 HN2 h
        go_wp2
        go_roundw
        case rel => exact ⟨k + 1, by omega, iv (by omega), HK3, by first | rfl | trivial⟩
        case measure => simp only [intOf]; omega
      · have hg : Hid (g = true) := Lib.hid (by rw [HX.out]; exact decide_eq_true (by omega))
        have HK3 := Lib.hid (HK2.out hg.out)
        have f0 : x < 97 := by omega
        have f1 : ¬ x < 48 := by omega
        have f2 : ¬ 57 < x := by omega
        clear HX hg HK2 HN2 h
        go_wp2
        go_roundw
        case rel => exact ⟨k + 1, by omega, iv (by omega), HK3, by first | rfl | trivial⟩
        case measure => simp only [intOf]; omega
      · have hg : Hid (g = true) := Lib.hid (by rw [HX.out]; exact decide_eq_true (by omega))
        have HK3 := Lib.hid (HK2.out hg.out)
        have f0 : x < 97 := by omega
        have f1 : x < 48 := by omega
        have f2 : x = 46 := by omega
        have e2 : (x != 46) = false := by simpa using f2
        clear HX hg HK2 HN2 h
        go_wp2
        go_roundw
        case rel => exact ⟨k + 1, by omega, iv (by omega), HK3, by first | rfl | trivial⟩
        case measure => simp only [intOf]; omega
      · have hg : Hid (g = true) := Lib.hid (by rw [HX.out]; exact decide_eq_true (by omega))
        have HK3 := Lib.hid (HK2.out hg.out)
        have f0 : x < 97 := by omega
        have f1 : x < 48 := by omega
        have f2 : ¬ x = 46 := by omega
        have f3 : x = 45 := by omega
        have e2 : (x != 46) = true := by simpa using f2
        have e3 : (x != 45) = false := by simpa using f3
        clear HX hg HK2 HN2 h
        go_wp2
        go_roundw
        case rel => exact ⟨k + 1, by omega, iv (by omega), HK3, by first | rfl | trivial⟩
        case measure => simp only [intOf]; omega
      · have hg : Hid (g = false) := Lib.hid (by rw [HX.out]; exact decide_eq_false (by omega))
        have HF := Lib.hid (HN2.out hg.out)
        have f0 : x < 97 := by omega
        have f1 : x < 48 := by omega
        have f2 : ¬ x = 46 := by omega
        have f3 : ¬ x = 45 := by omega
        have e2 : (x != 46) = true := by simpa using f2
        have e3 : (x != 45) = true := by simpa using f3
        clear HX hg HK2 HN2 h
        go_wp2
        go_ret
        exact ⟨by rw [HF.out]; rfl, rfl⟩
      · have hg : Hid (g = false) := Lib.hid (by rw [HX.out]; exact decide_eq_false (by omega))
        have HF := Lib.hid (HN2.out hg.out)
        have f0 : x < 97 := by omega
        have f1 : ¬ x < 48 := by omega
        have f2 : 57 < x := by omega
        have f3 : ¬ x = 46 := by omega
        have f4 : ¬ x = 45 := by omega
        have e3 : (x != 46) = true := by simpa using f3
        have e4 : (x != 45) = true := by simpa using f4
        clear HX hg HK2 HN2 h
        go_wp2
        go_ret
        exact ⟨by rw [HF.out]; rfl, rfl⟩
      · have hg : Hid (g = false) := Lib.hid (by rw [HX.out]; exact decide_eq_false (by omega))
        have HF := Lib.hid (HN2.out hg.out)
        have f0 : ¬ x < 97 := by omega
        have f1 : 122 < x := by omega
        have f2 : ¬ x < 48 := by omega
        have f3 : 57 < x := by omega
        have f4 : ¬ x = 46 := by omega
        have f5 : ¬ x = 45 := by omega
        have e4 : (x != 46) = true := by simpa using f4
        have e5 : (x != 45) = true := by simpa using f5
        clear HX hg HK2 HN2 h
        go_wp2
        go_ret
        exact ⟨by rw [HF.out]; rfl, rfl⟩
    · have hkn : k = s.length := by omega
      subst hkn
      have HF := Lib.hid (HY.out fun j hj => HK.out j hj hj)
      clear HY HN HB HK
      go_wp2
      go_ret
      exact ⟨by rw [HF.out]; rfl, rfl⟩
set_option maxRecDepth 100000 in
set_option maxHeartbeats 4000000 in
theorem nref_six_any (n : Nat) (w : World) (hn : n ≤ 999999) :
    Calls Tryd.prog 21 #[.int .i64 (n : Int)] w fun e w' => e = .returned (.string ⟨(nsx 6 n).toArray⟩) ∧ Below w.heap.size w w' := by
  have Hn := Lib.hid hn
  go_enter Tryd.func21, Tryd.ntmps21
  go_wp2
  go_loopw [0, 3, 4] (fun m o i wr => ∃ k q : Nat, k ≤ 6 ∧ q ≤ 999999 ∧ Hid (n / 10 ^ k = q) ∧ m = .int .i64 (q : Int) ∧ o = .string ⟨(nsx k n).toArray⟩ ∧ i = .int .i64 (k : Int) ∧ Hid (Below w.heap.size w wr)) (fun _ _ i _ => 6 - (intOf i).toNat)
  case atStart => exact ⟨0, n, by omega, Hn.out, Lib.hid (Nat.div_one n), rfl, rfl, rfl, Lib.hid (Below.refl _ _)⟩
  case round =>
    obtain ⟨k, q, hk, hq, HQ, rfl, rfl, rfl, HB⟩ := hrel
    by_cases hlt : k < 6
    · have hki : (k : Int) < 6 := by omega
      have hd : q % 10 < 10 := Nat.mod_lt _ (by omega)
      have e1 : nsx (k + 1) n = UInt8.ofNat (48 + q % 10) :: nsx k n := by
        show UInt8.ofNat (48 + n / 10 ^ k % 10) :: nsx k n = _
        rw [HQ.out]
      have hcv := one_byte (48 + ((q % 10 : Nat) : Int)) (UInt8.ofNat (48 + q % 10)) (by rw [ndig _ hd]; omega)
      have had := fun W => add_bytes [UInt8.ofNat (48 + q % 10)] (nsx k n) (by rw [nsx_len, List.length_singleton]; omega) W
      have e2 : [UInt8.ofNat (48 + q % 10)] ++ nsx k n = nsx (k + 1) n := e1.symm
      rw [e2] at had
      have HQ2 : Hid (n / 10 ^ (k + 1) = q / 10) := Lib.hid (by rw [Nat.pow_succ, ← Nat.div_div_eq_div_mul, HQ.out])
      have hw8 : IntKind.u8.wrap (48 + ((q % 10 : Nat) : Int)) = 48 + ((q % 10 : Nat) : Int) := by rw [IntKind.wrap_u8]; omega
      have hm10 : (q : Int).tmod 10 = ((q % 10 : Nat) : Int) := by rw [Int.tmod_eq_emod_of_nonneg (by omega)]; omega
      have hd10 : (q : Int).tdiv 10 = ((q / 10 : Nat) : Int) := by rw [Int.tdiv_eq_ediv_of_nonneg (by omega)]; omega
      have hq2 : q / 10 ≤ 999999 := by omega
      obtain ⟨V, hV⟩ : ∃ V, nsx (k + 1) n = V := ⟨_, rfl⟩
      rw [hV] at had
      have HV := Lib.hid hV
      clear e1 e2 hV
      generalize nsx k n = U at *
      generalize UInt8.ofNat (48 + q % 10) = D at *
      generalize q / 10 = q2 at *
      generalize q % 10 = r at *
      go_wp2
      go_roundw
      case rel => exact ⟨k + 1, q2, by omega, hq2, HQ2, by first | rfl | rw [hd10], by rw [HV.out], iv (by omega), Lib.hid (HB.out.alloc HB.out.size _)⟩
      case measure => simp only [intOf]; omega
    · obtain rfl : k = 6 := by omega
      go_wp2
      go_ret
      exact ⟨rfl, HB.out⟩
set_option maxRecDepth 100000 in
set_option maxHeartbeats 2000000 in
theorem nref_seg_any (a b : Int) (w : World) :
    Calls Tryd.prog 10 #[.int .i64 a, .int .i64 b] w fun e w' => e = .returned (.tuple #[.string ⟨(nsegF a b).1.toArray⟩, .int .i64 (nsegF a b).2]) ∧ Below w.heap.size w w' := by
  by_cases h1 : a < 1
  · rw [show nsegF a b = ([], 2) from if_neg (by omega)]
    go_enter Tryd.func10, Tryd.ntmps10
    go_wp2
    go_ret2
    exact ⟨rfl, by go_grown⟩
  by_cases h2 : 999999 < a
  · rw [show nsegF a b = ([], 2) from if_neg (by omega)]
    go_enter Tryd.func10, Tryd.ntmps10
    go_wp2
    go_ret2
    exact ⟨rfl, by go_grown⟩
  by_cases h3 : b < 1
  · rw [show nsegF a b = ([], 2) from if_neg (by omega)]
    go_enter Tryd.func10, Tryd.ntmps10
    go_wp2
    go_ret2
    exact ⟨rfl, by go_grown⟩
  by_cases h4 : 999999 < b
  · rw [show nsegF a b = ([], 2) from if_neg (by omega)]
    go_enter Tryd.func10, Tryd.ntmps10
    go_wp2
    go_ret2
    exact ⟨rfl, by go_grown⟩
  obtain ⟨p, rfl⟩ : ∃ p : Nat, a = (p : Int) := ⟨a.toNat, by omega⟩
  obtain ⟨q, rfl⟩ : ∃ q : Nat, b = (q : Int) := ⟨b.toNat, by omega⟩
  rw [show nsegF (p : Int) (q : Int) = (nmB p q, 0) from by unfold nsegF; rw [if_pos (by omega)]; rfl]
  have s1 := Lib.hid fun W => nref_six_any p W (by omega)
  have s2 := Lib.hid fun W => nref_six_any q W (by omega)
  have l1 := nsx_len 6 p
  have l2 := nsx_len 6 q
  have e : nmB p q = (((nhead ++ nsx 6 p) ++ [45]) ++ nsx 6 q) ++ ntail := by unfold nmB; simp only [List.append_assoc, List.cons_append, List.nil_append]
  rw [e]
  clear e
  dsimp only
  have a1 := fun W => add_bytes [115, 101, 103, 45] (nsx 6 p) (by rw [l1]; decide) W
  have a2 := fun W => add_bytes (nhead ++ nsx 6 p) [45] (by rw [List.length_append, l1]; decide) W
  have a3 := fun W => add_bytes ((nhead ++ nsx 6 p) ++ [45]) (nsx 6 q) (by rw [List.length_append, List.length_append, l1, l2]; decide) W
  have a4 := fun W => add_bytes (((nhead ++ nsx 6 p) ++ [45]) ++ nsx 6 q) [46, 108, 111, 103] (by rw [List.length_append, List.length_append, List.length_append, l1, l2]; decide) W
  rw [show ([115, 101, 103, 45] : List UInt8) ++ nsx 6 p = nhead ++ nsx 6 p from rfl] at a1
  rw [show (((nhead ++ nsx 6 p) ++ [45]) ++ nsx 6 q) ++ ([46, 108, 111, 103] : List UInt8) = (((nhead ++ nsx 6 p) ++ [45]) ++ nsx 6 q) ++ ntail from rfl] at a4
  clear l1 l2
  generalize (((nhead ++ nsx 6 p) ++ [45]) ++ nsx 6 q) ++ ntail = Y4 at *
  generalize ((nhead ++ nsx 6 p) ++ [45]) ++ nsx 6 q = Y3 at *
  generalize (nhead ++ nsx 6 p) ++ [45] = Y2 at *
  generalize nhead ++ nsx 6 p = Y1 at *
  generalize nsx 6 p = S1 at *
  generalize nsx 6 q = S2 at *
  go_enter Tryd.func10, Tryd.ntmps10
  go_wp2_with (first
    | (go_at_call 21; (with_reducible refine (s1.out _).mono ?_); rintro e w1 ⟨rfl, hb1⟩; have HB1 := Lib.hid hb1; clear hb1 s1)
    | (go_at_call 21; (with_reducible refine (s2.out _).mono ?_); rintro e w2 ⟨rfl, hb2⟩; have HB2 := Lib.hid (HB1.out.trans (hb2.mono HB1.out.size)); clear hb2 s2)
    | fail)
  go_ret2
  exact ⟨rfl, HB2.out⟩
set_option maxRecDepth 100000 in
set_option maxHeartbeats 4000000 in
theorem nref_unsix_any (l : List UInt8) (w : World) (hl : l.length ≤ 6) :
    Calls Tryd.prog 18 #[.string ⟨l.toArray⟩] w fun e w' => e = .returned (.int .i64 (nun l 0)) ∧ w' = w := by
  have HB := Lib.hid fun k (h : k < l.length) W => nbyte_at l k h W
  have H0 : Hid (nun (l.drop 0) 0 = nun l 0) := Lib.hid rfl
  have Hst := Lib.hid fun k (h : k < l.length) m => (show nun (l.drop k) m = if 48 ≤ l[k].toNat ∧ l[k].toNat ≤ 57 then nun (l.drop (k + 1)) (10 * m + (l[k].toNat - 48)) else -1 from by rw [List.drop_eq_getElem_cons h]; rfl)
  have Hend := Lib.hid fun m => (show nun (l.drop l.length) m = (m : Int) from by rw [List.drop_length]; rfl)
  generalize nun l 0 = R at *
  go_enter Tryd.func18, Tryd.ntmps18
  go_wp2
  go_loopw [3, 4] (fun v i wr => ∃ k m : Nat, k ≤ l.length ∧ i = .int .i64 (k : Int) ∧ v = .int .i64 (m : Int) ∧ Hid (nun (l.drop k) m = R ∧ m < 10 ^ k) ∧ wr = w) (fun _ i _ => l.length - (intOf i).toNat)
  case atStart => exact ⟨0, 0, by omega, rfl, rfl, Lib.hid ⟨H0.out, by decide⟩, rfl⟩
  case round =>
    obtain ⟨k, m, hk, rfl, rfl, HI, hw⟩ := hrel
    subst hw
    by_cases hlt : k < l.length
    · have hby := fun W => HB.out k hlt W
      have hki : (0 : Int) ≤ (k : Int) ∧ (k : Int) < (l.length : Int) := by omega
      have hst := Hst.out k hlt m
      have hz := u8_lt l[k]
      have hmk : m < 1000000 := Nat.lt_of_lt_of_le HI.out.2 (by
        have := Nat.pow_le_pow_right (by omega : 0 < 10) (by omega : k ≤ 6)
        exact this)
      have hmi : (m : Int) < 1000000 := by omega
      clear Hst HB Hend
      generalize l[k].toNat = z at *
      by_cases h1 : z < 48
      · have f1 : (z : Int) < 48 := by omega
        rw [if_neg (by omega)] at hst
        have HF : Hid (R = -1) := Lib.hid (by rw [← HI.out.1, hst])
        clear hst
        go_wp2
        go_ret
        exact ⟨by rw [HF.out]; rfl, rfl⟩
      by_cases h2 : 57 < z
      · have f1 : ¬ (z : Int) < 48 := by omega
        have f2 : (57 : Int) < (z : Int) := by omega
        rw [if_neg (by omega)] at hst
        have HF : Hid (R = -1) := Lib.hid (by rw [← HI.out.1, hst])
        clear hst
        go_wp2
        go_ret
        exact ⟨by rw [HF.out]; rfl, rfl⟩
      · have f1 : ¬ (z : Int) < 48 := by omega
        have f2 : ¬ (57 : Int) < (z : Int) := by omega
        rw [if_pos (by omega)] at hst
        obtain ⟨d, hd⟩ : ∃ d, z - 48 = d := ⟨_, rfl⟩
        rw [hd] at hst
        have hsub : IntKind.u8.wrap ((z : Int) - 48) = (d : Int) := by rw [IntKind.wrap_u8]; omega
        have hdd : d ≤ 9 := by omega
        have hdi : (d : Int) ≤ 9 := by omega
        have HI2 : Hid (nun (l.drop (k + 1)) (10 * m + d) = R ∧ 10 * m + d < 10 ^ (k + 1)) := Lib.hid ⟨by rw [← hst]; exact HI.out.1, by have := HI.out.2; rw [Nat.pow_succ]; omega⟩
        clear hst hd
        go_wp2
        go_roundw
        case rel => exact ⟨k + 1, 10 * m + d, by omega, iv (by omega), iv (by omega), HI2, by first | rfl | trivial⟩
        case measure => simp only [intOf]; omega
    · have hkn : k = l.length := by omega
      subst hkn
      have HF : Hid (R = (m : Int)) := Lib.hid (by rw [← HI.out.1, Hend.out])
      clear Hst HB Hend
      go_wp2
      go_ret
      exact ⟨by rw [HF.out]; rfl, rfl⟩
end Go.Proofs.YtmejcckbbcgmnaaDoor
