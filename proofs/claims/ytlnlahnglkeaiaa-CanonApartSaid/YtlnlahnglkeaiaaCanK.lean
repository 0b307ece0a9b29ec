/-
  Layer 9: what the program's Unpack returns, for any lengths, bytes and number.
-/
import Derived.Test.YtlnlahnglkeaiaaCanJ
import Derived.Test.YtlnlahnglkeaiaaCanI
namespace Go.Proofs.Ytlnlahnglkeaiaa
set_option linter.unusedSimpArgs false
set_option linter.unusedVariables false
open Go.ChangeShapes Go.WideShapes Go.ChangeAt Go.RowKit Go.Joins Go.Deep

/-- What Get answers where it fails. -/
theorem cget_fail (ws : List (Int × Int)) (L : List Nat) (p : Nat) (hf : ∀ f ∈ ws, fits f.1 f.2) (h : (cgetF ws L p).2.2 ≠ 0) : (cgetF ws L p).1 = 0 ∧ (cgetF ws L p).2.1 = 0 := by
  unfold cgetF at h ⊢
  rcases cget1_ok (L.drop p) ws 0 (if p = L.length then 4 else 40) (by split <;> omega) hf with ⟨h1, _⟩ | ⟨_, h2, h3⟩
  · exact absurd h1 h
  · exact ⟨h2, h3⟩
theorem cunp_own {w w' : World} {B n : Nat} {v : Value} {xs : List Value} (h : w.ownsRow (B + 1) 3 1 v n xs) (ht : Touch w w' (fun k => k = B)) : w'.ownsRow (B + 1) 3 1 v n xs := owns_touch h ht fun k hk e => by
  have := (h.lt k hk).1
  omega
theorem cunp_below {w1 wr w3 : World} (hb : Below w1.heap.size w1 wr) (ht : Touch wr w3 (fun k => k = w1.heap.size)) : Below w1.heap.size w1 w3 := hb.trans (ht.below (fun k _ e => by omega) hb.size)
theorem cunp_app {w1 w3 w4 : World} {n q : Nat} {v : Value} {xs : List Value} {o : Obj} {s : List UInt8} (hb : Below w1.heap.size w1 w3) (ho : w3.ownsRow (w1.heap.size + 1) 3 1 v n xs) (hR : RHold w3 w1.heap.size s q) (hg : (w3.alloc o).grownBy w4 v.ownBlock) : Below w1.heap.size w1 w4 ∧ RHold w4 w1.heap.size s q := by
  have h1 : Below w1.heap.size w1 (w3.alloc o) := hb.alloc hb.size o
  refine ⟨h1.grown hg h1.size fun g hg => ?_, Blk.grow' (Blk.alloc hR o) hg fun e => ?_⟩
  · have := (ho.lt g hg).1
    omega
  · have := (ho.lt _ e).1
    omega
theorem tvs (v : Value) (a a' e : Int) (h : a = a') : Ending.returned (.tuple #[v, .int .i64 a, .int .i64 e]) = Ending.returned (.tuple #[v, .int .i64 a', .int .i64 e]) := by rw [h]
set_option maxRecDepth 100000 in
set_option maxHeartbeats 8000000 in
theorem p_cunpack_any (l : List Int) (s : List UInt8) (N : Int) (A : Option Addr) (n c : Nat) (w : World) (hm : n ≤ 1000000) (hs : s.length ≤ 1099511627776) (hr : Reads w w.heap.size 1 A n (ints l)) :
    Calls Try.prog 15 #[.slice A n c, .string ⟨s.toArray⟩, .int .i64 N] w fun e w' => CUnpPost w w' e (cunpackF l s N) := by
  obtain ⟨i0, hi, hz0, hz1, hz2⟩ := info_parts bint_info
  obtain ⟨R, hR⟩ : ∃ R, cunpackF l s N = R := ⟨_, rfl⟩
  rw [hR]
  unfold cunpackF at hR
  by_cases h0 : checkF l = 0
  · have Hnew := Lib.hid (c_new_yes (c := c) hm hr h0)
    obtain ⟨hl, hg, hca⟩ := check_ok h0
    have hfit := cwords_fit l
    rw [cwords_ok h0] at hR hfit
    rw [if_pos rfl] at hR
    dsimp only at hR hfit
    have hll : (l.map Int.toNat).length ≤ 257 := by rw [List.length_map]; exact hl
    have Hfit := Lib.hid hfit
    have h15 := cnat15 hg
    have hD := cdeep_full h0
    have hwl := wat_len (l.map Int.toNat) 16 0
    clear hr h0 hfit hl hg
    generalize l.map Int.toNat = ls at *
    by_cases hN0 : N < 0
    · rw [if_pos (Or.inl hN0)] at hR
      have Hf := Lib.hid hR
      clear hR hs
      go_enter Try.func15, Try.ntmps15
      go_wp2_with (go_at_call 24; refine Hnew.out.mono ?_; rintro e w1 ⟨g, rfl, hc, hb1⟩; have Hb1 := Lib.hid hb1; clear hb1 hc)
      go_ret3
      rw [← Hf.out]
      exact ⟨none, 0, rfl, Nat.le_refl _, Reads.none_, Hb1.out⟩
    by_cases hN1 : 100000 < N
    · rw [if_pos (Or.inr hN1)] at hR
      have Hf := Lib.hid hR
      clear hR hs
      go_enter Try.func15, Try.ntmps15
      go_wp2_with (go_at_call 24; refine Hnew.out.mono ?_; rintro e w1 ⟨g, rfl, hc, hb1⟩; have Hb1 := Lib.hid hb1; clear hb1 hc)
      go_ret3
      rw [← Hf.out]
      exact ⟨none, 0, rfl, Nat.le_refl _, Reads.none_, Hb1.out⟩
    rw [if_neg (by omega)] at hR
    obtain ⟨M, rfl⟩ := Int.eq_ofNat_of_zero_le (by omega : 0 ≤ N)
    have hMz : (0 : Int) ≤ (M : Int) ∧ (M : Int) ≤ 100000 := by omega
    rw [Int.toNat_natCast] at hR
    have hsl : (s.length : Int) ≤ 1099511627776 := by omega
    have Hst := Lib.hid hR
    have HG := Lib.hid fun W (B g gr p : Nat) (hc : CCode W B g ls) (hgr : B ≤ gr) (hR : RHold W gr s p) (hp : p ≤ 8 * s.length) => c_get_any ls B g gr s p W hc h15 hca hD hll hgr hR hs hp
    have Hleft := Lib.hid fun W (gr p : Nat) (hp : p ≤ 8 * s.length) (hR : RHold W gr s p) => bleft_any s p gr W (by omega) hp hR
    have HwL : Hid ((wat ls 16 0).length ≤ 257) := Lib.hid (by omega)
    have Hrl : Hid ((rowOf s).length = 8 * s.length) := Lib.hid (row_length s)
    clear hR hs hN0 hN1 h15 hca hD hll hwl
    go_enter Try.func15, Try.ntmps15
    go_wp2_with (first
      | (go_at_call 24; refine Hnew.out.mono ?_; rintro e w1 ⟨g, rfl, hc, hb1⟩; have Hb1 := Lib.hid hb1; have HC := Lib.hid hc; clear hb1 hc)
      | (go_at_call 20; refine (newreader_any _ _).mono ?_; rintro e w2 ⟨rfl, rfl⟩))
    have HA0 : Hid (RHold (w1.alloc (.cells #[.string ⟨s.toArray⟩, .int .i64 0] 79)) w1.heap.size s 0) := Lib.hid (Blk.new w1 _ _)
    have HB0 : Hid (Below w1.heap.size w1 (w1.alloc (.cells #[.string ⟨s.toArray⟩, .int .i64 0] 79))) := Lib.hid ((Below.refl _ _).alloc (Nat.le_refl _) _)
    have Hsz : Hid (w1.heap.size < (w1.alloc (.cells #[.string ⟨s.toArray⟩, .int .i64 0] 79)).heap.size) := Lib.hid (by simp)
    have HO0 := Lib.hid (World.ownsRow_nil (w1.alloc (.cells #[.string ⟨s.toArray⟩, .int .i64 0] 79)) (w1.heap.size + 1) 3 1)
    generalize w1.alloc (.cells #[.string ⟨s.toArray⟩, .int .i64 0] 79) = wz at *
    go_loopw [6, 8, 11, 12, 30] (fun v ex sx fx i wr => ∃ (k pp : Nat) (acc : List Int), k ≤ M ∧ pp ≤ 8 * s.length ∧ i = .int .i64 k ∧ ex = .int .i64 0 ∧ Hid (acc.length = k) ∧ Hid (wr.ownsRow (w1.heap.size + 1) 3 1 v acc.length (ints acc)) ∧ Hid (RHold wr w1.heap.size s pp) ∧ Hid (Below w1.heap.size w1 wr) ∧ Hid (cunp (wat ls 16 0) (rowOf s) (M - k) pp acc = R)) (fun _ _ _ _ i _ => M - (intOf i).toNat)
    case atStart => exact ⟨0, 0, [], by omega, by omega, rfl, rfl, Lib.hid rfl, HO0, HA0, HB0, Hst⟩
    case round =>
      obtain ⟨k, pp, acc, hk, hpp, rfl, rfl, Hacc, Hown, HA, Hb, HR⟩ := hrel
      clear Hst HA0 HB0 HO0 Hnew
      by_cases hlt : k < M
      · have hki : (k : Int) < (M : Int) := by omega
        have hget := HG.out wr w1.heap.size g w1.heap.size pp (HC.out.below Hb.out) (Nat.le_refl _) HA.out hpp
        have hok := cgetF_ok (wat ls 16 0) (rowOf s) pp (8 * s.length) Hrl.out hpp HwL.out Hfit.out
        have hfl := cget_fail (wat ls 16 0) (rowOf s) pp Hfit.out
        have hst := HR.out
        rw [show M - k = M - (k + 1) + 1 from by omega, cunp_step] at hst
        generalize cgetF (wat ls 16 0) (rowOf s) pp = G at *
        obtain ⟨g1, g2, g3⟩ := G
        unfold CGet2 at hget
        dsimp only at hst hok hget hfl
        have Hget := Lib.hid hget
        clear hget
        rcases hok with ⟨rfl, x, kk, rfl, hx, rfl, hkk⟩ | hne
        · rw [if_pos rfl, Int.toNat_natCast] at hst
          have Hs := Lib.hid hst
          have hszr := Hb.out.size
          have hk63 : k < 100000 := by omega
          clear hst HR hfl
          go_wp2_with (first
            | (go_at_call 19; refine Hget.out.mono ?_; rintro e w3 ⟨rfl, hr3, ht3⟩; have Hr3 := Lib.hid hr3; have Ht3 := Lib.hid ht3; have Ho3 := Lib.hid (cunp_own Hown.out ht3); have hsz3 := ht3.size; clear hr3 ht3)
            | (at_builtin; refine wpList_append_sep _ rfl _ _ 22 rfl (w1.heap.size + 1) 3 i0 (.int .i64 0) 1 8 Try.underlying22 hi hz0 hz1 hz2 rfl (by decide) _ _ _ rfl (Ho3.out.alloc _) _ 1 1 _ _ rfl (reads_new w3 3 #[.int .i64 (x : Int)] 1 1 rfl) ?c1 ?c2 ?c3 ?c4 ?_))
          case c1 => exact rfl
          case c2 => have := Hacc.out; unfold maxLen; omega
          case c3 => have := Hacc.out; omega
          case c4 => have := Hsz.out; have := HA.out.lt; simp; omega
          intro v' w4 hown' hgrow _
          have hpair := cunp_app (cunp_below Hb.out Ht3.out) Ho3.out Hr3.out hgrow
          have Hb' := Lib.hid hpair.1
          have HA' : Hid (RHold w4 w1.heap.size s (pp + kk)) := Lib.hid (by have := hpair.2; rwa [Int.toNat_natCast] at this)
          have Hown' : Hid (w4.ownsRow (w1.heap.size + 1) 3 1 v' (acc ++ [(x : Int)]).length (ints (acc ++ [(x : Int)]))) := Lib.hid (by
            have e1 : (acc ++ [(x : Int)]).length = acc.length + 1 := by simp
            have e2 : ints (acc ++ [(x : Int)]) = ints acc ++ [.int .i64 (x : Int)] := by simp [ints]
            rw [e1, e2]
            exact hown')
          clear hown' hgrow hpair
          go_wp2
          go_roundw
          case rel => exact ⟨k + 1, pp + kk, acc ++ [(x : Int)], by omega, hkk, iv (by omega), rfl, Lib.hid (by rw [List.length_append, Hacc.out]; rfl), Hown', HA', Hb', Hs⟩
          case measure => simp only [intOf]; omega
        · rw [if_neg hne] at hst
          obtain ⟨rfl, rfl⟩ := hfl hne
          have Hs := Lib.hid hst
          obtain ⟨At, ct, rfl, hct, hrt⟩ := owns_cells Hown.out
          have Hct := Lib.hid hct
          have hdb : (g3 == (0 : Int)) = false := by simpa using hne
          have hdb2 : (g3 != (0 : Int)) = true := by simpa using hne
          have hpl : ((8 * s.length - pp : Nat) : Int) = 8 * (s.length : Int) - (pp : Int) := by omega
          have hpp2 : (0 : Int) ≤ (pp : Int) ∧ (pp : Int) ≤ 8 * (s.length : Int) := by omega
          have Hl := Lib.hid fun W hR => Hleft.out W w1.heap.size pp hpp hR
          rw [hpl] at Hl
          clear hst HR hrt hct hne hfl HG Hleft hpl
          go_wp2_with (first
            | (go_at_call 19; refine Hget.out.mono ?_; rintro e w3 ⟨rfl, hr3, ht3⟩; have Hr3 := Lib.hid hr3; have Hb3 := Lib.hid (cunp_below Hb.out ht3); have Ho3 := Lib.hid (cunp_own Hown.out ht3); clear hr3 ht3)
            | (go_at_call 30; refine (Hl.out _ Hr3.out).mono ?_; rintro e w4 ⟨rfl, kd, rfl⟩))
          obtain ⟨A2, c2, e2, hc2, hr2⟩ := owns_cells Ho3.out
          injection e2 with e3 _ e4
          subst e3 e4
          have hrd := (hr2.drewN kd)
          go_ret3
          rw [← Hs.out]
          refine ⟨At, ct, ?_, Hct.out, hrd, Hb1.out.trans ((below_drewN Hb3.out kd).mono Hb1.out.size)⟩
          first
            | rfl
            | exact tvs (.slice At acc.length ct) (8 * (s.length : Int) - (8 * (s.length : Int) - (pp : Int))) (pp : Int) g3 (by omega)
      · obtain rfl : k = M := by omega
        have hki : ¬ (k : Int) < (k : Int) := by omega
        have hst := HR.out
        rw [Nat.sub_self] at hst
        have Hs : Hid ((acc, pp, (0 : Int)) = R) := Lib.hid hst
        obtain ⟨At, ct, rfl, hct, hrt⟩ := owns_cells Hown.out
        have Hrt := Lib.hid hrt
        have Hct := Lib.hid hct
        have hpl : ((8 * s.length - pp : Nat) : Int) = 8 * (s.length : Int) - (pp : Int) := by omega
        have hpp2 : (0 : Int) ≤ (pp : Int) ∧ (pp : Int) ≤ 8 * (s.length : Int) := by omega
        have Hl := Lib.hid fun W hR => Hleft.out W w1.heap.size pp hpp hR
        rw [hpl] at Hl
        clear hst HR hrt hct HG Hleft hpl Hown
        go_wp2_with (go_at_call 30; refine (Hl.out _ HA.out).mono ?_; rintro e w4 ⟨rfl, kd, rfl⟩)
        have hrd := (Hrt.out.drewN kd)
        go_ret3
        rw [← Hs.out]
        refine ⟨At, ct, ?_, Hct.out, hrd, Hb1.out.trans ((below_drewN Hb.out kd).mono Hb1.out.size)⟩
        first
          | rfl
          | exact tvs (.slice At acc.length ct) (8 * (s.length : Int) - (8 * (s.length : Int) - (pp : Int))) (pp : Int) 0 (by omega)
  · have Hnew := Lib.hid (c_new_no (c := c) hm hr h0)
    have hw : cwordsF l = ([], checkF l) := by unfold cwordsF; rw [if_neg h0]
    rw [hw] at hR
    dsimp only at hR
    rw [if_neg h0] at hR
    have Hf := Lib.hid hR
    have hb0 : (checkF l == (0 : Int)) = false := by simpa using h0
    clear hr h0 hw hR hs
    generalize checkF l = E at *
    go_enter Try.func15, Try.ntmps15
    go_wp2_with (go_at_call 24; refine Hnew.out.mono ?_; rintro e w1 ⟨rfl, hb1⟩; have Hb1 := Lib.hid hb1; clear hb1)
    go_ret3
    rw [← Hf.out]
    exact ⟨none, 0, rfl, Nat.le_refl _, Reads.none_, Hb1.out⟩
/-! ### How many symbols there are -/
theorem cunp_len (ws : List (Int × Int)) (L : List Nat) : ∀ (n p : Nat) (acc : List Int), (cunp ws L n p acc).1.length ≤ acc.length + n
  | 0, p, acc => Nat.le_refl _
  | n + 1, p, acc => by
    rw [cunp_step]
    by_cases h : (cgetF ws L p).2.2 = 0
    · rw [if_pos h]
      have := cunp_len ws L n (p + (cgetF ws L p).2.1.toNat) (acc ++ [(cgetF ws L p).1])
      rw [List.length_append, List.length_singleton] at this
      omega
    · rw [if_neg h]
      exact Nat.le_add_right _ _
theorem cunpack_len (l : List Int) (s : List UInt8) (N : Int) : (cunpackF l s N).1.length ≤ 100000 := by
  unfold cunpackF
  by_cases h : (cwordsF l).2 = 0
  · rw [if_pos h]
    by_cases h2 : N < 0 ∨ 100000 < N
    · rw [if_pos h2]; exact Nat.zero_le _
    · rw [if_neg h2]
      have := cunp_len (cwordsF l).1 (rowOf s) N.toNat 0 []
      rw [List.length_nil] at this
      omega
  · rw [if_neg h]; exact Nat.zero_le _
end Go.Proofs.Ytlnlahnglkeaiaa
