/-
  A run of noughts has as many symbols as its length and 1 have digits to the base 2, less 1; its digits come to it; the layer's probe holds (ZrunForms). No condition.
-/
import Derived.Test.YtaabmpmoioipaaaZrAw
import Derived.Test.YtaabmpmoioipaaaZrR
import Derived.Test.YtaabmpmoioipaaaFrame
namespace Go.Proofs.Ytaabmpmoioipaaa
set_option linter.unusedSimpArgs false
set_option linter.unusedVariables false
open Go.ChangeShapes Go.WideShapes Go.ChangeAt Go.RowKit Go.Joins Go.Deep
open Go.Shelf

theorem zdig_none (n : Int) (h : n ≤ 0) : zdigF n = [] := by
  unfold zdigF
  rw [show n.toNat = 0 from by omega, zd_zero]
  rfl
theorem zrun_none (n : Int) (hn : n ≤ 0) (W : World) : Calls Try.prog 11 #[.int .i64 n] W fun e w' => ∃ A c, e = .returned (.slice A 0 c) ∧ Below W.heap.size W w' := by
  refine (zr_digits_any n (by omega) W).mono ?_
  rintro e w' ⟨A, c, rfl, _, _, hb⟩
  rw [zdig_none n hn]
  exact ⟨A, c, rfl, hb⟩
set_option maxHeartbeats 2000000 in
theorem zrunForms_low (n : Int) (h : n < 1) (w : World) : Calls Try.prog 6 #[.int .i64 n] w fun e w' => e = .returned (.bool true) ∧ Below w.heap.size w w' := by
  have Hd := Lib.hid fun W => zrun_none n (by omega) W
  have hn : ¬ 0 < n := by omega
  go_enter Try.func6, Try.ntmps6
  go_wp2_with (first
    | (go_at_call 11; refine (Hd.out _).mono ?_; rintro e w1 ⟨A1, c1, rfl, hb1⟩; have Hb1 := Lib.hid hb1; clear hb1)
    | (go_at_call 7; refine (awake7_any _).mono ?_; rintro e w9 ⟨rfl, hb9⟩; have Hb := Lib.hid (Hb1.out.trans (hb9.mono Hb1.out.size)); clear hb9))
  go_ret
  exact ⟨rfl, Hb.out⟩
set_option maxHeartbeats 2000000 in
theorem zrunForms_high (n : Int) (h : 5000 < n) (w : World) : Calls Try.prog 6 #[.int .i64 n] w fun e w' => e = .returned (.bool true) ∧ Below w.heap.size w w' := by
  have Hd := Lib.hid fun W => zrun_none 0 (by omega) W
  have hn : 0 < n := by omega
  have h1 : ¬ n < 1 := by omega
  go_enter Try.func6, Try.ntmps6
  go_wp2_with (first
    | (go_at_call 11; refine (Hd.out _).mono ?_; rintro e w1 ⟨A1, c1, rfl, hb1⟩; have Hb1 := Lib.hid hb1; clear hb1)
    | (go_at_call 7; refine (awake7_any _).mono ?_; rintro e w9 ⟨rfl, hb9⟩; have Hb := Lib.hid (Hb1.out.trans (hb9.mono Hb1.out.size)); clear hb9))
  go_ret
  exact ⟨rfl, Hb.out⟩

theorem zgood_noughts (n : Nat) : zgood 255 (List.replicate n 0) = true := zgood_of fun i hi => by simp
theorem zpack_noughts (n : Nat) : zpackF (List.replicate n 0) = (zd n, 0) := by
  unfold zpackF
  rw [if_pos (zgood_noughts n), zpk_noughts]
theorem zdig_reads (n : Nat) (hn : n ≤ 5000) (W : World) : Calls Try.prog 11 #[.int .i64 (n : Int)] W fun e w' => ∃ A c, e = .returned (.slice A (zd n).length c) ∧ Reads w' w'.heap.size 1 A (zd n).length (ints ((zd n).map (· + 1))) ∧ Below W.heap.size W w' := by
  have e1 : zdigF (n : Int) = (zd n).map (· + 1) := by unfold zdigF; rw [Int.toNat_natCast]
  refine (zr_digits_any (n : Int) (by omega) W).mono ?_
  rintro e w' ⟨A, c, rfl, _, ho, hb⟩
  have hr := zowns_reads ho
  rw [e1, List.length_map] at hr ⊢
  exact ⟨A, c, rfl, hr, hb⟩
theorem zpack_zero (n : Nat) (hn : n ≤ 5000) (W : World) : Calls Try.prog 8 #[.slice (some ⟨W.heap.size, 0, none⟩) n n] (W.alloc (.cells (ints (List.replicate n 0)).toArray 3)) fun e w' => ∃ A c, e = .returned (.tuple #[.slice A (zd n).length c, .int .i64 0]) ∧ Below W.heap.size W w' := by
  refine (aw7_pack (xs := List.replicate n 0) (ys := zd n) (e := 0) (N := (zd n).length) rfl (by simp) (by omega) rfl (zpack_noughts n) W).mono ?_
  rintro e w' ⟨A, c, rfl, _, hb⟩
  exact ⟨A, c, rfl, hb⟩
/-- What is left of the loop that counts how often n + 1 can be halved. -/
theorem zhalf2 (p : Nat) (h : p ≤ 5000) : (((p : Int) + 1 + 1).tdiv 2) = ((p / 2 + 1 : Nat) : Int) := by
  rw [Int.tdiv_eq_ediv_of_nonneg (by omega)]
  omega

set_option maxRecDepth 100000 in
set_option maxHeartbeats 8000000 in
theorem zrunForms_near (n : Nat) (h1 : 1 ≤ n) (h2 : n ≤ 5000) (w : World) : Calls Try.prog 6 #[.int .i64 (n : Int)] w fun e w' => e = .returned (.bool true) ∧ Below w.heap.size w w' := by
  have g1 : ¬ (n : Int) < 1 := by omega
  have g2 : ¬ (5000 : Int) < n := by omega
  have g3 : (0 : Int) ≤ n ∧ (n : Int) ≤ 5000 := by omega
  have hmk := fun W => zmk_ints (n : Int) n rfl (by omega) W
  have Hpk := Lib.hid fun W => zpack_zero n h2 W
  have Hdg := Lib.hid fun W => zdig_reads n h2 W
  have hlog := zd_log n
  have hlen : (zd n).length ≤ 12 := by
    rw [hlog]
    exact zlog_lt 12 _ (by omega)
  have Hlog := Lib.hid hlog
  have Hgood : Hid (∀ q (hq : q < (zd n).length), 0 ≤ (zd n)[q] ∧ (zd n)[q] ≤ 1) := Lib.hid (zgood_get (zgood_zd n))
  have Htake : Hid (∀ q (hq : q < (zd n).length), zv ((zd n).take (q + 1)) = zv ((zd n).take q) + 2 ^ q * ((zd n)[q].toNat + 1)) := Lib.hid (zv_take (zd n))
  have Hle : Hid (∀ q, zv ((zd n).take q) ≤ n) := Lib.hid fun q => by have := zv_more (zd n) q; rwa [zv_zd] at this
  have Hall : Hid (zv ((zd n).take (zd n).length) = n) := Lib.hid (by rw [List.take_length, zv_zd])
  have H1 := Lib.hid h1
  clear hlog h1 h2
  generalize (ints (List.replicate n 0)).toArray = Z0 at *
  generalize zd n = D at *
  go_enter Try.func6, Try.ntmps6
  go_wp2_with (first
    | (go_at_call 8; refine (Hpk.out _).mono ?_; rintro e w1 ⟨A1, c1, rfl, hb1⟩; have Hb1 := Lib.hid hb1; clear hb1)
    | (go_at_call 11; refine (Hdg.out _).mono ?_; rintro e w2 ⟨A2, c2, rfl, hr2, hb2⟩; have Hr2 := Lib.hid hr2; have Hb2 := Lib.hid (Hb1.out.trans (hb2.mono Hb1.out.size)); clear hb2 hr2))
  clear hmk
  go_loop [6, 7] (fun s m => ∃ (S M : Nat), s = .int .i64 S ∧ m = .int .i64 ((M : Int) + 1) ∧ M ≤ 5000 ∧ S ≤ 5000 ∧ Hid (S + zlog (M + 1) = D.length ∧ S + M ≤ 5000)) (fun _ m => (intOf m).toNat)
  case atStart => exact ⟨0, n, rfl, rfl, by omega, by omega, Lib.hid ⟨by rw [Nat.zero_add]; exact Hlog.out.symm, by omega⟩⟩
  case round =>
    obtain ⟨S, M, rfl, rfl, hM, hS, HS⟩ := hrel
    cases M with
    | zero =>
      have hS2 := HS.out.1
      rw [show zlog (0 + 1) = 0 from zlog_one 1 (by omega), Nat.add_zero] at hS2
      subst hS2
      clear HS hM
      go_wp2
      go_loop [8, 9, 10] (fun a p i => ∃ (q N P : Nat), q ≤ D.length ∧ a = .int .i64 N ∧ p = .int .i64 P ∧ i = .int .i64 q ∧ N ≤ 5000 ∧ P ≤ 5000 ∧ Hid (N = zv (D.take q) ∧ P = 2 ^ q)) (fun _ _ i => D.length - (intOf i).toNat)
      case atStart => exact ⟨0, 0, 1, by omega, rfl, rfl, rfl, by omega, by omega, Lib.hid ⟨rfl, rfl⟩⟩
      case round =>
        obtain ⟨q, N, P, hq, rfl, rfl, rfl, hN, hP, Hq⟩ := hrel
        by_cases hlt : q < D.length
        · have hqi : (0 : Int) ≤ (q : Int) ∧ (q : Int) < D.length ∧ (q : Int) < 20 := by omega
          have hq20 : ¬ (20 : Int) ≤ (q : Int) := by omega
          obtain ⟨bd, od, rfl, hbl, hcell⟩ := Hr2.out.2 (by omega)
          have hx := hcell q _ (by rw [ints_get _ q (by simpa using hlt)])
          rw [List.getElem_map] at hx
          have hg := Hgood.out q hlt
          have ht := Htake.out q hlt
          have hle := Hle.out (q + 1)
          rw [← Hq.out.1, ← Hq.out.2] at ht
          have hP2 : P * 2 = 2 ^ (q + 1) := by rw [Nat.pow_succ, ← Hq.out.2]
          have hPl : 2 ^ (q + 1) ≤ 2 ^ 12 := Nat.pow_le_pow_right (by omega) (by omega)
          have hP3 : P * 2 ≤ 4096 := by rw [hP2]; exact hPl
          have h01 : D[q] = 0 ∨ D[q] = 1 := by omega
          clear hcell hPl
          rcases h01 with h01 | h01
          · rw [h01] at hx ht
            rw [show P * ((0 : Int).toNat + 1) = P from by simp] at ht
            have Hn : Hid (N + P = zv (D.take (q + 1)) ∧ 2 * P = 2 ^ (q + 1)) := Lib.hid ⟨ht.symm, by omega⟩
            have hNP : N + P ≤ 5000 := by omega
            clear ht hle hP2 Hq hg h01
            go_wp2
            go_round
            case rel => exact ⟨q + 1, N + P, 2 * P, by omega, iv (by omega), iv (by omega), iv (by omega), by omega, by omega, Hn.out⟩
            case measure => simp only [intOf]; omega
          · rw [h01] at hx ht
            rw [show P * ((1 : Int).toNat + 1) = 2 * P from by simp; omega] at ht
            have Hn : Hid (N + 2 * P = zv (D.take (q + 1)) ∧ 2 * P = 2 ^ (q + 1)) := Lib.hid ⟨ht.symm, by omega⟩
            have hNP : N + 2 * P ≤ 5000 := by omega
            clear ht hle hP2 Hq hg h01
            go_wp2
            go_round
            case rel => exact ⟨q + 1, N + 2 * P, 2 * P, by omega, iv (by omega), iv (by omega), iv (by omega), by omega, by omega, Hn.out⟩
            case measure => simp only [intOf]; omega
        · obtain rfl : q = D.length := by omega
          have hNn : N = n := Hq.out.1.trans Hall.out
          subst hNn
          clear Hq
          go_wp2_with (go_at_call 7; refine (awake7_any _).mono ?_; rintro e w9 ⟨rfl, hb9⟩; have Hb9 := Lib.hid (Hb2.out.trans (hb9.mono Hb2.out.size)); clear hb9)
          go_ret
          exact ⟨rfl, Hb9.out⟩
    | succ M =>
      have hS2 := HS.out
      rw [zlog_more (M + 1 + 1) (by omega), show (M + 1 + 1) / 2 = M / 2 + 1 from by omega] at hS2
      have Hn : Hid (S + 1 + zlog (M / 2 + 1) = D.length ∧ S + 1 + M / 2 ≤ 5000) := Lib.hid ⟨by omega, by omega⟩
      have hdv := zhalf2 M (by omega)
      have hM2 : M / 2 ≤ M := Nat.div_le_self _ _
      have Hdv := Lib.hid hdv
      have hSS : S + 1 ≤ 5000 := by omega
      clear hS2 HS hdv
      go_wp2
      go_round
      case rel => exact ⟨S + 1, M / 2, iv (by omega), iv (by have := Hdv.out; omega), by omega, by omega, Hn.out⟩
      case measure => simp only [intOf]; omega
theorem zrunForms_walk (n : Int) (w : World) : Calls Try.prog 6 #[.int .i64 n] w fun e w' => e = .returned (.bool true) ∧ Below w.heap.size w w' := by
  by_cases h : n < 1
  · exact zrunForms_low n h w
  · by_cases k : 5000 < n
    · exact zrunForms_high n k w
    · obtain ⟨N, rfl⟩ : ∃ N : Nat, n = N := ⟨n.toNat, by omega⟩
      exact zrunForms_near N (by omega) (by omega) w

namespace ZrunForms
set_option maxRecDepth 100000 in
theorem lifted (os : Os) (started : os.Started) (H : Type) (enc : TypeId × Value → H) :
    ReturnsInHanded {} Try.checked os 6 .any (Rows.zrunFormsSpec.pre6 enc Try.prog Try.f6 Rows.zrunFormsRow.domain false) (Rows.zrunFormsSpec.post enc Try.prog Try.f6 false true false false) := by
  refine law_sized (C := Try.checked) (tb := 4) ownP started (by kernel_rfl) Try.func6
    (ChangeSpec.witness6 (enc := enc) (C := Try.checked) false ⟨#[], #[.int .i64 0], []⟩ 8 (by kernel_rfl) (by kernel_rfl) (by kernel_rfl) (by kernel_rfl))
    laidP (by kernel_rfl) rfl (by kernel_rfl) Try.underlying4 (by intro ds h; match ds, h with | [_], _ => rfl) ?_
  intro W base args ds p hval0 hA0 hlt _
  have hval : ∀ (j : Nat) t v, Try.f6.params[j]? = some t → args[j]? = some v → Value.okWide Try.prog W .any base t v := hval0
  have hA : DataW.TrodAll enc Try.prog W 0 (fun _ => true) true Try.f6.params.toList args.toList ds p := hA0
  rw [Try.params6] at hA hval
  obtain ⟨v0, d0, rfl, rfl, h0⟩ := trodAll_one hA
  obtain ⟨n, rfl, rfl, rfl, wn⟩ := open_int Try.underlying3 (hval 0 3 v0 rfl rfl) h0
  exact zrunForms_walk n W

theorem holds : Rows.ZrunFormsSaid :=
  OpenClaim.holds_of_wide 6 Try.f6 rfl rfl rfl rfl rfl rfl rfl ⟨rfl, rfl, rfl, rfl, rfl⟩ rfl rfl rfl rfl rfl (by kernel_rfl) Try.func6 (by kernel_rfl)
    (of_decide_eq_true (by kernel_rfl)) (by unfold Func.isWrapper; first | (rw [if_pos (by decide +kernel)]; kernel_rfl) | (rw [if_neg (by decide +kernel)]; exact ⟨rfl, rfl⟩))
    (fun os started H enc _ => lifted os started H enc)
end ZrunForms
end Go.Proofs.Ytaabmpmoioipaaa
