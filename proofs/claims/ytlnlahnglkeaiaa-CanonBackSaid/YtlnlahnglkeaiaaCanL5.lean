/-
  Symbols come back of their bytes, whatever stands behind them; the layer's probe holds (CanonBack). No condition.
-/
import Derived.Test.YtlnlahnglkeaiaaCanAw
import Derived.Test.YtlnlahnglkeaiaaFrame
namespace Go.Proofs.Ytlnlahnglkeaiaa
set_option linter.unusedSimpArgs false
set_option linter.unusedVariables false
open Go.ChangeShapes Go.WideShapes Go.ChangeAt Go.RowKit Go.Joins Go.Deep
set_option maxHeartbeats 2000000 in
/-- Beyond the sizes that the statement looks at: the probe alone. -/
theorem canonBack_far0 (A : Option Addr) (n c : Nat) (A2 : Option Addr) (n2 c2 : Nat) (B : List UInt8) (w : World) (h : 300 < n) :
    Calls Try.prog 7 #[.slice A n c, .slice A2 n2 c2, .string ⟨B.toArray⟩] w fun e w' => e = .returned (.bool true) ∧ Below w.heap.size w w' := by
  have h1 : (300 : Int) < n := by omega
  go_enter Try.func7, Try.ntmps7
  go_wp2_with (go_at_call 9; refine (awake9_any _).mono ?_; rintro e w9 ⟨rfl, hb9⟩)
  go_ret
  exact ⟨rfl, hb9⟩
set_option maxHeartbeats 2000000 in
/-- Beyond the sizes that the statement looks at: the probe alone. -/
theorem canonBack_far1 (A : Option Addr) (n c : Nat) (A2 : Option Addr) (n2 c2 : Nat) (B : List UInt8) (w : World) (h : n ≤ 300) (k : 500 < n2) :
    Calls Try.prog 7 #[.slice A n c, .slice A2 n2 c2, .string ⟨B.toArray⟩] w fun e w' => e = .returned (.bool true) ∧ Below w.heap.size w w' := by
  have h1 : ¬ (300 : Int) < n := by omega
  have h2 : (500 : Int) < n2 := by omega
  go_enter Try.func7, Try.ntmps7
  go_wp2_with (go_at_call 9; refine (awake9_any _).mono ?_; rintro e w9 ⟨rfl, hb9⟩)
  go_ret
  exact ⟨rfl, hb9⟩
set_option maxHeartbeats 2000000 in
/-- Beyond the sizes that the statement looks at: the probe alone. -/
theorem canonBack_far2 (A : Option Addr) (n c : Nat) (A2 : Option Addr) (n2 c2 : Nat) (B : List UInt8) (w : World) (h : n ≤ 300) (k : n2 ≤ 500) (k2 : 100 < B.length) :
    Calls Try.prog 7 #[.slice A n c, .slice A2 n2 c2, .string ⟨B.toArray⟩] w fun e w' => e = .returned (.bool true) ∧ Below w.heap.size w w' := by
  have h1 : ¬ (300 : Int) < n := by omega
  have h2 : ¬ (500 : Int) < n2 := by omega
  have h3 : (100 : Int) < B.length := by omega
  go_enter Try.func7, Try.ntmps7
  go_wp2_with (go_at_call 9; refine (awake9_any _).mono ?_; rintro e w9 ⟨rfl, hb9⟩)
  go_ret
  exact ⟨rfl, hb9⟩

theorem cpack_none (l sy : List Int) (h : (cpackF l sy).2 ≠ 0) : (cpackF l sy).1 = [] := by
  unfold cpackF at h ⊢
  by_cases h0 : (cwordsF l).2 = 0
  · rw [if_pos h0] at h ⊢
    exact if_neg h
  · rw [if_neg h0]
set_option maxRecDepth 100000 in
set_option maxHeartbeats 8000000 in
theorem canonBack_none (A : Option Addr) (n c : Nat) (A2 : Option Addr) (n2 c2 : Nat) (B : List UInt8) (l sy : List Int) (w : World) (hr : Reads w w.heap.size 1 A n (ints l)) (hr2 : Reads w w.heap.size 1 A2 n2 (ints sy)) (h : n ≤ 300) (h' : n2 ≤ 500) (h'' : B.length ≤ 100) (he : (cpackF l sy).2 ≠ 0) :
    Calls Try.prog 7 #[.slice A n c, .slice A2 n2 c2, .string ⟨B.toArray⟩] w fun e w' => e = .returned (.bool true) ∧ Below w.heap.size w w' := by
  have h1 : ¬ (300 : Int) < n := by omega
  have h2 : ¬ (500 : Int) < n2 := by omega
  have h3 : ¬ (100 : Int) < B.length := by omega
  have hp := p_cpack_any l sy A A2 n c n2 c2 w (by omega) (by omega) hr hr2
  rw [cpack_none l sy he] at hp
  have Hp : Hid (Calls Try.prog 12 #[.slice A n c, .slice A2 n2 c2] w fun e w' => e = .returned (.tuple #[.string ⟨#[]⟩, .int .i64 (cpackF l sy).2]) ∧ Below w.heap.size w w') := Lib.hid hp
  clear hr hr2 hp h h' h''
  generalize (cpackF l sy).2 = E at *
  have hE : (E == 0) = false := by simpa using he
  have hE2 : (E != 0) = true := by simpa using he
  go_enter Try.func7, Try.ntmps7
  go_wp2_with (first
    | (go_at_call 12; refine Hp.out.mono ?_; rintro e w1 ⟨rfl, hb1⟩; have Hb := Lib.hid hb1; clear hb1)
    | (go_at_call 9; refine (awake9_any _).mono ?_; rintro e w9 ⟨rfl, hb9⟩; replace Hb := Lib.hid (Hb.out.trans (hb9.mono Hb.out.size)); clear hb9))
  go_ret
  exact ⟨rfl, Hb.out⟩

theorem cstr_add (a b : List UInt8) (h : a.length + b.length ≤ 9223372036854775807) (w : World) : (Op.stringOp .add ⟨a.toArray⟩ ⟨b.toArray⟩).run Try.prog w = .ok (.string ⟨(a ++ b).toArray⟩) w := by
  rw [run_string_add_sum w _ _ (by rw [ByteArray.size_mk', ByteArray.size_mk', List.size_toArray, List.size_toArray]; exact h), ByteArray.mk_append_mk]
theorem csize_take (l sy : List Int) (k : Nat) (h : k < sy.length) : csize l (sy.take (k + 1)) = csize l (sy.take k) + l.getD sy[k].toNat 0 := by
  induction sy generalizing k with
  | nil => simp at h
  | cons s t ih =>
    cases k with
    | zero => simp [csize]
    | succ k =>
      have := ih k (by simpa using h)
      simp only [List.take_succ_cons, csize, List.getElem_cons_succ]
      omega
theorem cbits_len {ws : List (Int × Int)} (hf : ∀ f ∈ ws, fits f.1 f.2) : ∀ sy : List Int, (cbits ws sy).length ≤ 32 * sy.length
  | [] => Nat.zero_le _
  | s :: t => by
    have h1 := (cword_small hf s).1
    have h2 := cbits_len hf t
    rw [cbits_cons, List.length_append, List.length_cons]
    omega
/-- What a round of the law's loop looks at. -/
theorem cback_step {l sy : List Int} (h : (cpackF l sy).2 = 0) (k : Nat) (hk : k < sy.length) : ∃ s : Nat, sy[k] = (s : Int) ∧ ∃ hs : s < l.length, 0 ≤ l[s] ∧ l[s] ≤ 15 ∧ csize l (sy.take (k + 1)) = csize l (sy.take k) + l[s] := by
  obtain ⟨hc, h1, h2⟩ := cpack_zero h
  obtain ⟨_, hg, _⟩ := check_ok hc
  obtain ⟨h3, h4⟩ := cbits_size hg sy h1
  obtain ⟨h5, h6⟩ := h4 sy[k] (List.getElem_mem hk)
  refine ⟨sy[k].toNat, by omega, by omega, ?_⟩
  have h7 := lgood_get hg sy[k].toNat (by omega)
  have h8 := csize_take l sy k hk
  rw [List.getD_eq_getElem?_getD, List.getElem?_eq_getElem (by omega : sy[k].toNat < l.length)] at h8
  exact ⟨h7.1, h7.2, h8⟩
theorem cback_bound {l sy : List Int} (h : (cpackF l sy).2 = 0) : ∀ k, k ≤ sy.length → 0 ≤ csize l (sy.take k) ∧ csize l (sy.take k) ≤ 15 * k
  | 0, _ => by simp [csize]
  | k + 1, hk => by
    obtain ⟨s, _, hs, h1, h2, h3⟩ := cback_step h k (by omega)
    have := cback_bound h k (by omega)
    rw [h3]
    omega
set_option maxRecDepth 100000 in
set_option maxHeartbeats 8000000 in
theorem canonBack_near (A : Option Addr) (n c : Nat) (A2 : Option Addr) (n2 c2 : Nat) (B : List UInt8) (l sy : List Int) (w : World) (hr : Reads w w.heap.size 1 A n (ints l)) (hr2 : Reads w w.heap.size 1 A2 n2 (ints sy)) (h : n ≤ 300) (h' : n2 ≤ 500) (h'' : B.length ≤ 100) (he : (cpackF l sy).2 = 0) :
    Calls Try.prog 7 #[.slice A n c, .slice A2 n2 c2, .string ⟨B.toArray⟩] w fun e w' => e = .returned (.bool true) ∧ Below w.heap.size w w' := by
  have h1 : ¬ (300 : Int) < n := by omega
  have h2 : ¬ (500 : Int) < n2 := by omega
  have h3 : ¬ (100 : Int) < B.length := by omega
  have el : l.length = n := by have := hr.1; rw [ints_length] at this; omega
  have es : sy.length = n2 := by have := hr2.1; rw [ints_length] at this; omega
  have hp := p_cpack_any l sy A A2 n c n2 c2 w (by omega) (by omega) hr hr2
  rw [he] at hp
  have Hp := Lib.hid hp
  obtain ⟨hb1, hb2, hb3⟩ := cback he (by omega) B
  have hxl : (cpackF l sy).1.length ≤ 100000 := by
    obtain ⟨g1, g2, g3⟩ := cpack_zero he
    have hfit := cwords_fit l
    rw [cwords_ok g1] at hfit
    dsimp only at hfit
    have := cbits_len hfit sy
    rw [g3, text_length]
    omega
  have hu := fun W hr => p_cunpack_any l ((cpackF l sy).1 ++ B) (sy.length : Int) A n c W (by omega) (by rw [List.length_append]; omega) hr
  rw [hb1, es] at hu
  unfold CUnpPost at hu
  dsimp only at hu
  rw [es, Int.toNat_of_nonneg hb2] at hu
  have Hu := Lib.hid hu
  have hadd := fun w => cstr_add (cpackF l sy).1 B (by omega) w
  have Hstep := Lib.hid fun k hk => cback_step he k hk
  have Hbd := Lib.hid fun k hk => cback_bound he k hk
  have Hc1 : Hid (0 < n → ∃ b off, A = some ⟨b, off, none⟩ ∧ ∀ wr, Below w.heap.size w wr → ∀ k, (hk : k < l.length) → wr.cell? ⟨b, off + k, none⟩ = some (.int .i64 l[k])) := Lib.hid fun h => by
    obtain ⟨b, off, e, hb, hc⟩ := hr.2 h
    exact ⟨b, off, e, fun wr hw k hk => (hw.cell (p := ⟨b, off + k, none⟩) hb).trans (hc k _ (ints_get l k hk))⟩
  have Hc2 : Hid (0 < n2 → ∃ b off, A2 = some ⟨b, off, none⟩ ∧ ∀ wr, Below w.heap.size w wr → ∀ k, (hk : k < sy.length) → wr.cell? ⟨b, off + k, none⟩ = some (.int .i64 sy[k])) := Lib.hid fun h => by
    obtain ⟨b, off, e, hb, hc⟩ := hr2.2 h
    exact ⟨b, off, e, fun wr hw k hk => (hw.cell (p := ⟨b, off + k, none⟩) hb).trans (hc k _ (ints_get sy k hk))⟩
  have Hsame : Hid (∀ (xs : List Int) (N : Nat) (A1 A2 : Option Addr) (c1 c2 : Nat) (W : World), N ≤ 1000000 → Reads W W.heap.size 1 A1 N (ints xs) → Reads W W.heap.size 1 A2 N (ints xs) → Calls Try.prog 17 #[.slice A1 N c1, .slice A2 N c2] W fun e w' => e = .returned (.bool true) ∧ Below W.heap.size W w') := Lib.hid fun xs N A1 A2 c1 c2 W hn h1 h2 => by
    have := same_any A1 A2 N N c1 c2 xs xs W h1 h2 (by omega) (by omega)
    rwa [show decide (xs = xs) = true from by simp] at this
  have Hr := Lib.hid hr
  have Hr2 := Lib.hid hr2
  have Hel := Lib.hid el
  have Hes := Lib.hid es
  have Hall : Hid (csize l (sy.take n2) = csize l sy) := Lib.hid (by rw [List.take_of_length_le (by omega)])
  have hni : (n : Int) ≤ 300 ∧ (n2 : Int) ≤ 500 := by omega
  clear hr hr2 hp hu hb1 hb2 hb3 hxl he el es h h' h''
  generalize (cpackF l sy).1 = X at *
  go_enter Try.func7, Try.ntmps7
  go_wp2_with (first
    | (go_at_call 12; refine Hp.out.mono ?_; rintro e w1 ⟨rfl, hb1⟩; have Hb := Lib.hid hb1; clear hb1)
    | (go_at_call 15; refine (Hu.out _ (Hr.out.on Hb.out)).mono ?_; rintro e w2 ⟨A3, c3, rfl, _, hr3, hb2⟩; have Hr3 := Lib.hid hr3; replace Hb := Lib.hid (Hb.out.trans (hb2.mono Hb.out.size)); clear hb2; clear hr3))
  clear hadd
  generalize hTT : csize l sy = TT at *
  go_loopw [12, 13] (fun sx ix wr => ∃ (k : Nat) (z : Int), k ≤ n2 ∧ ix = .int .i64 k ∧ sx = .int .i64 z ∧ Hid (z = csize l (sy.take k)) ∧ Hid (Below w2.heap.size w2 wr)) (fun _ ix _ => n2 - (intOf ix).toNat)
  case atStart => exact ⟨0, 0, by omega, rfl, rfl, Lib.hid rfl, Below.refl _ _⟩
  case round =>
    obtain ⟨k, z, hk, rfl, rfl, Hz, Hb2⟩ := hrel
    have Hbw : Hid (Below w.heap.size w wr) := Lib.hid (Hb.out.trans (Hb2.out.mono Hb.out.size))
    by_cases hlt : k < n2
    · have hki : (0 : Int) ≤ (k : Int) ∧ (k : Int) < (n2 : Int) := by omega
      have hks : k < sy.length := by rw [Hes.out]; exact hlt
      obtain ⟨s, hs1, hs2, hs3, hs4, hs5⟩ := Hstep.out k hks
      have hbd := Hbd.out k (by omega)
      rw [← Hz.out] at hbd hs5
      have hn0 : 0 < n := by have := Hel.out; omega
      obtain ⟨b1, o1, rfl, f1⟩ := Hc1.out hn0
      obtain ⟨b2, o2, rfl, f2⟩ := Hc2.out (by omega)
      have x1 := f1 wr Hbw.out s hs2
      have x2 := f2 wr Hbw.out k hks
      rw [hs1] at x2
      have hsn : (0 : Int) ≤ (s : Int) ∧ (s : Int) < (n : Int) := by have := Hel.out; omega
      have Hz2 := Lib.hid hs5
      have hzb : (0 : Int) ≤ z ∧ z ≤ 15 * (k : Int) := hbd
      clear f1 f2 hs1 hs5 hbd
      generalize l[s] = lv at *
      go_wp2
      go_roundw
      case rel => exact ⟨k + 1, z + lv, by omega, iv (by omega), iv (by omega), Lib.hid Hz2.out.symm, Hb2⟩
      case measure => simp only [intOf]; omega
    · obtain rfl : k = n2 := by omega
      have hki : ¬ (k : Int) < (k : Int) := by omega
      have hz := Hz.out
      rw [Hall.out] at hz
      subst hz
      have hE1 : (z == z) = true := by simp
      clear Hz Hall Hstep Hbd
      go_wp2_with (first
        | (go_at_call 17; (with_reducible refine (Hsame.out sy _ _ _ _ _ _ (by omega) (Hr3.out.on Hb2.out) (Hr2.out.on Hbw.out)).mono ?_); rintro e w5 ⟨rfl, hb5⟩; have Hb5 := Lib.hid (Hbw.out.trans (hb5.mono Hbw.out.size)); clear hb5)
        | (go_at_call 9; refine (awake9_any _).mono ?_; rintro e w9 ⟨rfl, hb9⟩; replace Hb5 := Lib.hid (Hb5.out.trans (hb9.mono Hb5.out.size)); clear hb9))
      go_ret
      exact ⟨rfl, Hb5.out⟩
theorem canonBack_walk (A : Option Addr) (n c : Nat) (A2 : Option Addr) (n2 c2 : Nat) (B : List UInt8) (l sy : List Int) (w : World) (hr : Reads w w.heap.size 1 A n (ints l)) (hr2 : Reads w w.heap.size 1 A2 n2 (ints sy)) :
    Calls Try.prog 7 #[.slice A n c, .slice A2 n2 c2, .string ⟨B.toArray⟩] w fun e w' => e = .returned (.bool true) ∧ Below w.heap.size w w' := by
  by_cases h : n ≤ 300
  · by_cases h2 : n2 ≤ 500
    · by_cases h3 : B.length ≤ 100
      · by_cases he : (cpackF l sy).2 = 0
        · exact canonBack_near A n c A2 n2 c2 B l sy w hr hr2 h h2 h3 he
        · exact canonBack_none A n c A2 n2 c2 B l sy w hr hr2 h h2 h3 he
      · exact canonBack_far2 A n c A2 n2 c2 B w h h2 (by omega)
    · exact canonBack_far1 A n c A2 n2 c2 B w h (by omega)
  · exact canonBack_far0 A n c A2 n2 c2 B w (by omega)

namespace CanonBack
set_option maxRecDepth 100000 in
theorem lifted (os : Os) (started : os.Started) (H : Type) (enc : TypeId × Value → H) :
    ReturnsInHanded {} Try.checked os 7 .any (Rows.canonBackSpec.pre6 enc Try.prog Try.f7 Rows.canonBackRow.domain false) (Rows.canonBackSpec.post enc Try.prog Try.f7 false true false false) := by
  refine law_sized (C := Try.checked) (tb := 4) ownP started (by kernel_rfl) Try.func7
    (ChangeSpec.witness6 (enc := enc) (C := Try.checked) false ⟨#[], #[.slice none 0 0, .slice none 0 0, .string ⟨#[]⟩], []⟩ 8 (by kernel_rfl) (by kernel_rfl) (by kernel_rfl) (by kernel_rfl))
    laidP (by kernel_rfl) rfl (by kernel_rfl) Try.underlying4 (by intro ds h; match ds, h with | [_, _, _], _ => rfl) ?_
  intro W base args ds p hval0 hA0 hlt _
  have hval : ∀ (j : Nat) t v, Try.f7.params[j]? = some t → args[j]? = some v → Value.okWide Try.prog W .any base t v := hval0
  have hA : DataW.TrodAll enc Try.prog W 0 (fun _ => true) true Try.f7.params.toList args.toList ds p := hA0
  rw [Try.params7] at hA hval
  obtain ⟨v0, v1, v2, d0, d1, d2, p0, p1, p2, rfl, rfl, rfl, h0, h1, h2⟩ := trodAll_three hA
  obtain ⟨Aks, nks, cks, ks, rfl, eks, hnks, hmks, hrks, hbks⟩ := open_nums rfl Try.underlying22 Try.underlying3 (by kernel_rfl) (hval 0 22 v0 rfl rfl) h0
  obtain ⟨Ass, nss, css, ss, rfl, ess, hnss, hmss, hrss, hbss⟩ := open_nums rfl Try.underlying22 Try.underlying3 (by kernel_rfl) (hval 1 22 v1 rfl rfl) h1
  obtain ⟨s, rfl, rfl⟩ := open_bytes Try.underlying9 (hval 2 9 v2 rfl rfl) h2
  exact canonBack_walk Aks nks cks Ass nss css s ks ss W hrks hrss

theorem holds : Rows.CanonBackSaid :=
  OpenClaim.holds_of_wide 7 Try.f7 rfl rfl rfl rfl rfl rfl rfl ⟨rfl, rfl, rfl, rfl, rfl⟩ rfl rfl rfl rfl rfl (by kernel_rfl) Try.func7 (by kernel_rfl)
    (of_decide_eq_true (by kernel_rfl)) (by unfold Func.isWrapper; first | (rw [if_pos (by decide +kernel)]; kernel_rfl) | (rw [if_neg (by decide +kernel)]; exact ⟨rfl, rfl⟩))
    (fun os started H enc _ => lifted os started H enc)
end CanonBack
end Go.Proofs.Ytlnlahnglkeaiaa
