/-
  For any bytes, any place and any number: what the program's Get takes is just what its Put makes, no other number's bytes begin with it, and the layer's probe holds (VarintLeast). No condition.
-/
import Derived.Test.YtpkjlgjnnfmnfaaVarLaw1
import Derived.Test.YtpkjlgjnnfmnfaaVarLaw2
namespace Go.Proofs.Ytpkjlgjnnfmnfaa
set_option linter.unusedSimpArgs false
set_option linter.unusedVariables false
open Go.ChangeShapes Go.WideShapes Go.ChangeAt Go.RowKit Go.Joins Go.Deep

theorem slice_str (l : List UInt8) (a b : Int) (h0 : 0 ≤ a) (h1 : a ≤ b) (h2 : b ≤ l.length) (w : World) :
    (Instr.slice 9 (.string ⟨l.toArray⟩) (some (.int .i64 a)) (some (.int .i64 b)) none).run Try.prog w = .ok (.string ⟨((l.drop a.toNat).take (b.toNat - a.toNat)).toArray⟩) w := by
  rw [run_slice_string_if w 9 _ .i64 .i64 a b Try.underlying9, if_pos ⟨by omega, by rw [ByteArray.size_mk', List.size_toArray]; exact h2⟩, if_pos ⟨h0, h1⟩, ByteArray.extract_mk]
theorem slice_head (l : List UInt8) (b : Int) (h0 : 0 ≤ b) (h2 : b ≤ l.length) (w : World) :
    (Instr.slice 9 (.string ⟨l.toArray⟩) none (some (.int .i64 b)) none).run Try.prog w = .ok (.string ⟨(l.take b.toNat).toArray⟩) w := by
  rw [run_slice_string_h w 9 _ Try.underlying9 .i64 b h0 (by rw [ByteArray.size_mk', List.size_toArray]; exact h2), ByteArray.extract_mk]
  simp

theorem got_is {l : List UInt8} {p m t : Int} (h : getF l p = (m, t, 0)) : (l.drop p.toNat).take (t.toNat - p.toNat) = putB m ∧ 0 ≤ m ∧ m < 9223372036854775808 := by
  obtain ⟨h0, h1, h2, h3, h4⟩ := getF_good h
  unfold getF at h
  rw [if_pos ⟨h0, by omega⟩] at h
  by_cases hr : (getR (l.drop p.toNat)).2.2 = 0
  · rw [if_pos hr] at h
    obtain ⟨M, hM, e1, e2, e3, e4⟩ := getR_ok _ hr
    simp only [Prod.mk.injEq] at h
    refine ⟨?_, h3, h4⟩
    rw [show t.toNat - p.toNat = (getR (l.drop p.toNat)).2.1 from by omega, e4, ← h.1, e1, putB_of (by omega), Int.toNat_natCast]
  · rw [if_neg hr] at h
    simp only [Prod.mk.injEq] at h
    exact absurd h.2.2 hr

set_option maxHeartbeats 2000000 in
theorem least_bad (l : List UInt8) (p n e : Int) (w : World) (hl : l.length ≤ 4611686018427387904) (hg : getF l p = (0, 0, e)) (he : ¬ e = 0) :
    Calls Try.prog 7 #[.string ⟨l.toArray⟩, .int .i64 p, .int .i64 n] w fun e w' => e = .returned (.bool true) ∧ Below w.heap.size w w' := by
  have Hg := Lib.hid (get_is hg w hl)
  clear hg hl
  go_enter Try.func7, Try.ntmps7
  go_wp2_with (first
      | (go_at_call 15; refine Hg.out.mono ?_; rintro e w' ⟨rfl, rfl⟩)
      | (go_at_call 14; refine (awake_any _).mono ?_; rintro e w5 ⟨rfl, hb5⟩))
  go_ret
  exact ⟨rfl, hb5⟩

set_option maxHeartbeats 4000000 in
/-- The way through: what is taken is put again, and compared; a second number is put, and is not the same, or its bytes are other ones. -/
theorem least_good (l : List UInt8) (p n m t : Int) (w : World) (hl : l.length ≤ 4611686018427387904) (hn : n < 9223372036854775808) (hg : getF l p = (m, t, 0)) :
    Calls Try.prog 7 #[.string ⟨l.toArray⟩, .int .i64 p, .int .i64 n] w fun e w' => e = .returned (.bool true) ∧ Below w.heap.size w w' := by
  obtain ⟨h0, h1, h2, h3, h4⟩ := getF_good hg
  obtain ⟨heq, _, _⟩ := got_is hg
  have hsl := slice_str l p t h0 (by omega) h2
  rw [heq] at hsl
  have Hg := Lib.hid (get_is hg w hl)
  have Hp : ∀ w, Hid (Calls Try.prog 8 #[.int .i64 m] w fun e w' => e = .returned (.tuple #[.string ⟨(putB m).toArray⟩, .int .i64 0]) ∧ Below w.heap.size w w') := fun w => by
    have := put_is m w h4
    rw [show putE m = 0 from by unfold putE; rw [if_neg (by omega)]] at this
    exact this
  have Hq : ∀ w, Hid (Calls Try.prog 8 #[.int .i64 n] w fun e w' => e = .returned (.tuple #[.string ⟨(putB n).toArray⟩, .int .i64 (putE n)]) ∧ Below w.heap.size w w') := fun w => put_is n w hn
  have hlt : (l.length : Int) ≤ 4611686018427387904 := by omega
  clear hg hl heq
  have hapart : 0 ≤ n → n ≠ m → (putB n).take (putB m).length ≠ putB m := fun hn0 hne he => by
    obtain ⟨N, rfl⟩ := Int.eq_ofNat_of_zero_le hn0
    obtain ⟨M, rfl⟩ := Int.eq_ofNat_of_zero_le h3
    rw [putB_of (by omega), putB_of (by omega), Int.toNat_natCast, Int.toNat_natCast] at he
    exact hne (by rw [dg_apart M N (by omega) (by omega) he])
  have Hap := Lib.hid hapart
  clear hapart
  have hfirst := Lib.hid (show True from trivial)
  by_cases hn0 : n < 0
  · have hE : putE n = 2 := by unfold putE; rw [if_pos hn0]
    rw [hE] at Hq
    clear hE
    generalize putB n = U at *
    generalize putB m = V at *
    clear hn h4 hlt
    go_enter Try.func7, Try.ntmps7
    go_wp2_with (first
      | (go_at_call 15; refine Hg.out.mono ?_; rintro e w' ⟨rfl, rfl⟩)
      | (go_at_call 8; clear hfirst; refine (Hp _).out.mono ?_; rintro e w1 ⟨rfl, hb1⟩)
      | (go_at_call 8; refine (Hq _).out.mono ?_; rintro e w2 ⟨rfl, hb2⟩)
      | (go_at_call 14; refine (awake_any _).mono ?_; rintro e w5 ⟨rfl, hb5⟩))
    have s1 := hb1.size
    have s2 := hb2.size
    go_ret
    exact ⟨rfl, (hb1.trans (hb2.mono (by omega))).trans (hb5.mono (by omega))⟩
  · have hE : putE n = 0 := by unfold putE; rw [if_neg hn0]
    rw [hE] at Hq
    clear hE
    by_cases hnm : n = m
    · subst hnm
      generalize putB n = U at *
      clear hn h4 hlt
      go_enter Try.func7, Try.ntmps7
      go_wp2_with (first
        | (go_at_call 15; refine Hg.out.mono ?_; rintro e w' ⟨rfl, rfl⟩)
        | (go_at_call 8; clear hfirst; refine (Hp _).out.mono ?_; rintro e w1 ⟨rfl, hb1⟩)
        | (go_at_call 8; refine (Hq _).out.mono ?_; rintro e w2 ⟨rfl, hb2⟩)
        | (go_at_call 14; refine (awake_any _).mono ?_; rintro e w5 ⟨rfl, hb5⟩))
      have s1 := hb1.size
      have s2 := hb2.size
      go_ret
      exact ⟨rfl, (hb1.trans (hb2.mono (by omega))).trans (hb5.mono (by omega))⟩
    · have hx := Hap.out (by omega) hnm
      by_cases hlen : (putB n).length < (putB m).length
      · generalize putB n = U at *
        generalize putB m = V at *
        clear hn h4 hlt hx
        go_enter Try.func7, Try.ntmps7
        go_wp2_with (first
          | (go_at_call 15; refine Hg.out.mono ?_; rintro e w' ⟨rfl, rfl⟩)
          | (go_at_call 8; clear hfirst; refine (Hp _).out.mono ?_; rintro e w1 ⟨rfl, hb1⟩)
          | (go_at_call 8; refine (Hq _).out.mono ?_; rintro e w2 ⟨rfl, hb2⟩)
          | (go_at_call 14; refine (awake_any _).mono ?_; rintro e w5 ⟨rfl, hb5⟩))
        have s1 := hb1.size
        have s2 := hb2.size
        go_ret
        exact ⟨rfl, (hb1.trans (hb2.mono (by omega))).trans (hb5.mono (by omega))⟩
      · have hsl2 := slice_head (putB n) ((putB m).length : Int) (by omega) (by omega)
        rw [Int.toNat_natCast] at hsl2
        generalize (putB n).take (putB m).length = X at *
        generalize putB n = U at *
        generalize putB m = V at *
        have hxv : (X == V) = false := by simpa using hx
        have hnmb : (n != m) = true := by simpa using hnm
        clear hn h4 hlt hx
        go_enter Try.func7, Try.ntmps7
        go_wp2_with (first
          | (go_at_call 15; refine Hg.out.mono ?_; rintro e w' ⟨rfl, rfl⟩)
          | (go_at_call 8; clear hfirst; refine (Hp _).out.mono ?_; rintro e w1 ⟨rfl, hb1⟩)
          | (go_at_call 8; refine (Hq _).out.mono ?_; rintro e w2 ⟨rfl, hb2⟩)
          | (go_at_call 14; refine (awake_any _).mono ?_; rintro e w5 ⟨rfl, hb5⟩))
        have s1 := hb1.size
        have s2 := hb2.size
        go_ret
        exact ⟨rfl, (hb1.trans (hb2.mono (by omega))).trans (hb5.mono (by omega))⟩

theorem least_walk (l : List UInt8) (p n : Int) (w : World) (hl : l.length ≤ 140737488351232) (hn : n < 9223372036854775808) :
    Calls Try.prog 7 #[.string ⟨l.toArray⟩, .int .i64 p, .int .i64 n] w fun e w' => e = .returned (.bool true) ∧ Below w.heap.size w w' := by
  obtain ⟨m, t, e, hg⟩ : ∃ m t e, getF l p = (m, t, e) := ⟨_, _, _, rfl⟩
  by_cases he : e = 0
  · subst he
    exact least_good l p n m t w (by omega) hn hg
  · obtain ⟨rfl, rfl⟩ := getF_bad hg he
    exact least_bad l p n e w (by omega) hg he

namespace VarintLeast
set_option maxRecDepth 100000 in
theorem lifted (os : Os) (started : os.Started) (H : Type) (enc : TypeId × Value → H) :
    ReturnsInHanded {} Try.checked os 7 .any (Rows.varintLeastSpec.pre6 enc Try.prog Try.f7 Rows.varintLeastRow.domain false) (Rows.varintLeastSpec.post enc Try.prog Try.f7 false true false false) := by
  refine law_sized (C := Try.checked) (tb := 4) ownP started (by kernel_rfl) Try.func7
    (ChangeSpec.witness6 (enc := enc) (C := Try.checked) false ⟨#[], #[.string ⟨#[]⟩, .int .i64 0, .int .i64 0], []⟩ 8 (by kernel_rfl) (by kernel_rfl) (by kernel_rfl) (by kernel_rfl))
    laidP (by kernel_rfl) rfl (by kernel_rfl) Try.underlying4 (by intro ds h; match ds, h with | [_, _, _], _ => rfl) ?_
  intro W base args ds p hval0 hA0 hlt hsz0
  have hval : ∀ (j : Nat) t v, Try.f7.params[j]? = some t → args[j]? = some v → Value.okWide Try.prog W .any base t v := hval0
  have hA : DataW.TrodAll enc Try.prog W 0 (fun _ => true) true Try.f7.params.toList args.toList ds p := hA0
  have hsz : (DataW.weightsEach Try.prog Try.f7.params.toList ds).all (· ≤ reachBytes) = true := hsz0
  rw [Try.params7] at hA hval hsz
  obtain ⟨v0, v1, v2, d0, d1, d2, p0, p1, p2, rfl, rfl, rfl, h0, h1, h2⟩ := trodAll_three hA
  obtain ⟨l, rfl, rfl⟩ := open_bytes Try.underlying9 (hval 0 9 v0 rfl rfl) h0
  obtain ⟨p, rfl, rfl, rfl, wp⟩ := open_int Try.underlying3 (hval 1 3 v1 rfl rfl) h1
  obtain ⟨n, rfl, rfl, rfl, wn⟩ := open_int Try.underlying3 (hval 2 3 v2 rfl rfl) h2
  exact least_walk l p n W (reach_bytes hsz 0 rfl rfl) (by have := (bounds_i64 wn).2; omega)

theorem holds : Rows.VarintLeastSaid :=
  OpenClaim.holds_of_wide 7 Try.f7 rfl rfl rfl rfl rfl rfl rfl ⟨rfl, rfl, rfl, rfl, rfl⟩ rfl rfl rfl rfl rfl (by kernel_rfl) Try.func7 (by kernel_rfl)
    (of_decide_eq_true (by kernel_rfl)) (by unfold Func.isWrapper; first | (rw [if_pos (by decide +kernel)]; kernel_rfl) | (rw [if_neg (by decide +kernel)]; exact ⟨rfl, rfl⟩))
    (fun os started H enc _ => lifted os started H enc)
end VarintLeast
end Go.Proofs.Ytpkjlgjnnfmnfaa
