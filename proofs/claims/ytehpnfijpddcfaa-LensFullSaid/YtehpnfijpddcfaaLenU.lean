/-
  Layer 8: the document's own first row, for every list of counts.
-/
import Derived.Test.YtehpnfijpddcfaaLenT
namespace Go.Proofs.Ytehpnfijpddcfaa
set_option linter.unusedSimpArgs false
set_option linter.unusedVariables false
open Go.ChangeShapes Go.WideShapes Go.ChangeAt Go.RowKit Go.Joins Go.Deep

theorem LHRow.nil (W : World) (B : Nat) (ok : Nat → Prop) : LHRow W B ok none 0 [] := ⟨rfl, fun h => absurd h (by omega), [], Reads.none_, rfl⟩
theorem lput_length (R : List LTh) (x : LTh) : (lput R x).length = R.length + 1 := by
  obtain ⟨r1, r2, h1, h2, _, _⟩ := lput_split x R
  rw [h2, h1, List.length_append, List.length_append, List.length_cons]
  omega
theorem lfirst_yes (i : Nat) (c : Int) (t : List Int) (R : List LTh) (h : 0 < c) : lfirst i (c :: t) R = lfirst (i + 1) t (lput R ⟨c, [i], true⟩) := by
  conv => lhs; unfold lfirst
  rw [if_pos h]
theorem lfirst_no (i : Nat) (c : Int) (t : List Int) (R : List LTh) (h : ¬ 0 < c) : lfirst i (c :: t) R = lfirst (i + 1) t R := by
  conv => lhs; unfold lfirst
  rw [if_neg h]
/-- One integer in a block of its own. -/
theorem lone_reads (W : World) (s : Nat) : Reads (W.alloc (.cells #[.int .i64 (s : Int)] 3)) (W.alloc (.cells #[.int .i64 (s : Int)] 3)).heap.size 1 (some ⟨W.heap.size, 0, none⟩) 1 (ints (lsy [s])) := by
  have := reads_new W 3 #[.int .i64 (s : Int)] 1 1 rfl
  exact this.more (by simp)

set_option maxRecDepth 100000 in
set_option maxHeartbeats 4000000 in
theorem lref_first_any (ok : Nat → Prop) (counts : List Int) (A : Option Addr) (n c : Nat) (w : World) (hm : n ≤ 100000) (hok : ∀ b, w.heap.size ≤ b → ok b) (hr : Reads w w.heap.size 1 A n (ints counts)) :
    Calls Try.prog 22 #[.slice A n c] w fun e w' => ∃ A' c', e = .returned (.slice A' (lleaves counts).length c') ∧ (lleaves counts).length ≤ c' ∧ LHRow w' w'.heap.size ok A' (lleaves counts).length (lleaves counts) ∧ Below w.heap.size w w' := by
  have en : counts.length = n := by have := hr.1; rw [ints_length] at this; omega
  have Hcell : Hid (0 < n → ∃ b off, A = some ⟨b, off, none⟩ ∧ ∀ wr, Below w.heap.size w wr → ∀ k, (hk : k < counts.length) → wr.cell? ⟨b, off + k, none⟩ = some (.int .i64 counts[k])) := Lib.hid fun h => by
    obtain ⟨b, off, e, hb, hc⟩ := hr.2 h
    exact ⟨b, off, e, fun wr hw k hk => (hw.cell (p := ⟨b, off + k, none⟩) hb).trans (hc k _ (ints_get counts k hk))⟩
  have Hstart : Hid (lfirst 0 (counts.drop 0) [] = lleaves counts) := Lib.hid rfl
  have En := Lib.hid en
  have hnn : (n : Int) ≤ 100000 := by omega
  clear hr en
  generalize lleaves counts = T at *
  go_enter Try.func22, Try.ntmps22
  go_wp2
  go_loopw [3, 4] (fun v i wr => ∃ (k m cm : Nat) (Am : Option Addr) (R : List LTh), k ≤ n ∧ m ≤ k ∧ m ≤ cm ∧ v = .slice Am m cm ∧ i = .int .i64 k ∧ Hid (lfirst k (counts.drop k) R = T) ∧ Hid (LHRow wr wr.heap.size ok Am m R) ∧ Hid (Below w.heap.size w wr)) (fun _ i _ => n - (intOf i).toNat)
  case atStart => exact ⟨0, 0, 0, none, [], by omega, by omega, by omega, rfl, rfl, Hstart.out, LHRow.nil _ _ _, Below.refl _ _⟩
  case round =>
    obtain ⟨k, m, cm, Am, R, hk, hmk, hmc, rfl, rfl, Hf, HR, Hb⟩ := hrel
    by_cases hlt : k < n
    · have hki : (0 : Int) ≤ (k : Int) ∧ (k : Int) < n := by omega
      have hkl : k < counts.length := by rw [En.out]; exact hlt
      obtain ⟨b, off, rfl, hcell⟩ := Hcell.out (by omega)
      have hx := hcell wr Hb.out k hkl
      have hf := Hf.out
      rw [List.drop_eq_getElem_cons hkl] at hf
      clear hcell Hf
      generalize counts[k] = x at *
      by_cases hx0 : 0 < x
      · rw [lfirst_yes _ _ _ _ hx0] at hf
        have Hf2 := Lib.hid hf
        have Hput : Hid (Calls Try.prog 33 #[.slice Am m cm, .agg #[.int .i64 x, .slice (some ⟨wr.heap.size, 0, none⟩) 1 1, .bool true]] (wr.alloc (.cells #[.int .i64 (k : Int)] 3)) fun e w' => ∃ A' c', e = .returned (.slice A' (m + 1) c') ∧ m + 1 ≤ c' ∧ LHRow w' w'.heap.size ok A' (m + 1) (lput R ⟨x, [k], true⟩) ∧ Below (wr.alloc (.cells #[.int .i64 (k : Int)] 3)).heap.size (wr.alloc (.cells #[.int .i64 (k : Int)] 3)) w') := Lib.hid (by
          have hba : Below wr.heap.size wr (wr.alloc (.cells #[.int .i64 (k : Int)] 3)) := (Below.refl _ _).alloc (Nat.le_refl _) _
          exact lref_put_any ok R ⟨x, [k], true⟩ Am (some ⟨wr.heap.size, 0, none⟩) m cm 1 (wr.alloc (.cells #[.int .i64 (k : Int)] 3)) (by omega) hmc (fun b hb2 => hok b (Nat.le_trans (Nat.le_trans Hb.out.size hba.size) hb2)) ((HR.out.below hba).more hba.size) (Nat.le_refl _) ⟨lone_reads wr k, fun _ => ⟨_, _, rfl, hok _ Hb.out.size⟩⟩)
        clear hf
        go_wp2_with (go_at_call 33; refine Hput.out.mono ?_; rintro e w2 ⟨A2, c2, rfl, hc2, hR2, hb2⟩; have HR2 := Lib.hid hR2; have Hc2 := Lib.hid hc2; have Hb2 := Lib.hid (Hb.out.trans ((((Below.refl wr.heap.size wr).alloc (Nat.le_refl _) (.cells #[.int .i64 (k : Int)] 3)).trans (hb2.mono (by simp))).mono Hb.out.size)); clear hR2 hc2 hb2)
        go_roundw
        case rel => exact ⟨k + 1, m + 1, c2, A2, _, by omega, by omega, Hc2.out, rfl, iv (by omega), Hf2.out, HR2.out, Hb2.out⟩
        case measure => simp only [intOf]; omega
      · rw [lfirst_no _ _ _ _ hx0] at hf
        have Hf2 := Lib.hid hf
        clear hf
        go_wp2
        go_roundw
        case rel => exact ⟨k + 1, m, cm, Am, R, by omega, by omega, hmc, rfl, iv (by omega), Hf2.out, HR.out, Hb.out⟩
        case measure => simp only [intOf]; omega
    · obtain rfl : k = n := by omega
      have hf := Hf.out
      rw [List.drop_of_length_le (by rw [En.out]; exact Nat.le_refl _)] at hf
      have hf2 : R = T := hf
      subst hf2
      have hlen := HR.out.1
      subst hlen
      clear hf Hf
      go_wp2
      go_ret
      exact ⟨Am, cm, rfl, hmc, HR.out, Hb.out⟩
end Go.Proofs.Ytehpnfijpddcfaa
