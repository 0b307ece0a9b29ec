/-
  Layer 9: what hands a symbol's word to a writer; a code's Put where no call made the code.
-/
import Derived.Test.YtlnlahnglkeaiaaCanD
namespace Go.Proofs.Ytlnlahnglkeaiaa
set_option linter.unusedSimpArgs false
set_option linter.unusedVariables false
open Go.ChangeShapes Go.WideShapes Go.ChangeAt Go.RowKit Go.Joins Go.Deep

/-- The method value 'w.Put'. -/
def cputV (g : Nat) : Value := .func (.func 25) #[.pointer (some ⟨g, 0, none⟩)] #[]
theorem CNone.below {w w' : World} {v : Value} (h : CNone w v) (hb : Below w.heap.size w w') : CNone w' v := fun W hW => h W (hb.trans (hW.mono hb.size))

set_option maxRecDepth 100000 in
theorem c_hand_nil (v pv : Value) (s : Int) (w : World) (h : CNone w v) : Calls Try.prog 26 #[v, pv, .int .i64 s] w fun e w' => e = .returned (.int .i64 1) ∧ Below w.heap.size w w' := by
  have Hw := Lib.hid (c_word_nil v s w h)
  unfold wordV at Hw
  clear h
  go_enter Try.func26, Try.ntmps26
  go_wp2_with (go_at_call 18; refine Hw.out.mono ?_; rintro e w1 ⟨rfl, hb1⟩; have Hb1 := Lib.hid hb1; clear hb1)
  go_ret
  exact ⟨rfl, Hb1.out.alloc Hb1.out.size _⟩
set_option maxRecDepth 100000 in
theorem c_hand_no (ls : List Nat) (B g : Nat) (pv : Value) (s E : Int) (w : World) (h : CCode w B g ls) (hl : ls.length ≤ 1000000) (hE : (pwordF (wat ls 16 0) s).2 = E) (hE0 : E ≠ 0) : Calls Try.prog 26 #[.pointer (some ⟨g, 0, none⟩), pv, .int .i64 s] w fun e w' => e = .returned (.int .i64 E) ∧ Below w.heap.size w w' := by
  have Hw := Lib.hid (c_word_any ls B g s w h hl)
  unfold wordV at Hw
  rw [hE] at Hw
  have hb : (E == (0 : Int)) = false := by simpa using hE0
  clear h hE
  generalize (pwordF (wat ls 16 0) s).1.1 = x at *
  generalize (pwordF (wat ls 16 0) s).1.2 = y at *
  go_enter Try.func26, Try.ntmps26
  go_wp2_with (go_at_call 18; refine Hw.out.mono ?_; rintro e w1 ⟨rfl, hb1⟩; have Hb1 := Lib.hid hb1; clear hb1)
  go_ret
  exact ⟨rfl, Hb1.out.alloc Hb1.out.size _⟩
set_option maxRecDepth 100000 in
set_option maxHeartbeats 1000000 in
theorem c_hand_yes (ls : List Nat) (B Bw g gw : Nat) (v : Value) (R : List Nat) (s : Int) (w : World) (h : CCode w B g ls) (hl : ls.length ≤ 1000000) (hE : (pwordF (wat ls 16 0) s).2 = 0) (hf : ∀ f ∈ wat ls 16 0, fits f.1 f.2) (hH : WHold w Bw gw v R) (hB : Bw ≤ w.heap.size) (hR : R.length ≤ 1099511627776) :
    Calls Try.prog 26 #[.pointer (some ⟨g, 0, none⟩), cputV gw, .int .i64 s] w fun e w' => e = .returned (.int .i64 0) ∧ ∃ v', WHold w' Bw gw v' (R ++ (cwordF (wat ls 16 0) s).1) ∧ Touch w w' (WS gw v) ∧ Sep w v v' := by
  have Hw := Lib.hid (c_word_any ls B g s w h hl)
  obtain ⟨h1, h2⟩ := pword_ref (wat ls 16 0) s
  obtain ⟨h3, h4⟩ := h2 hE
  unfold wordV at Hw
  rw [hE] at Hw
  rw [h3]
  have hfit := hf _ h4
  have Hput := Lib.hid fun w hH hB => bput_is Bw gw _ _ v R w hfit hH hB hR
  clear h hE h1 h2 h3 h4 hf hfit
  generalize (pwordF (wat ls 16 0) s).1.1 = x at *
  generalize (pwordF (wat ls 16 0) s).1.2 = y at *
  have HW := Lib.hid fun (w1 : World) (hb : Below w.heap.size w w1) (o : Obj) => (hH.below hb (Nat.le_refl _)).below (C := w1.heap.size) ((Below.refl w1.heap.size w1).alloc (Nat.le_refl _) o) (Nat.le_refl _)
  have HB2 := Lib.hid fun (w1 : World) (hb : Below w.heap.size w w1) (o : Obj) => show Bw ≤ (w1.alloc o).heap.size from Nat.le_trans hB (Nat.le_trans hb.size (by simp))
  clear hH hB hR
  unfold cputV
  go_enter Try.func26, Try.ntmps26
  go_wp2_with (first
    | (go_at_call 18; refine Hw.out.mono ?_; rintro e w1 ⟨rfl, hb1⟩; have Hb1 := Lib.hid hb1; clear hb1)
    | (go_at_call 25; refine (Hput.out _ (HW.out w1 Hb1.out _) (HB2.out w1 Hb1.out _)).mono ?_; rintro e w2 ⟨rfl, v2, hH2, ht2, hs2⟩; have HH2 := Lib.hid hH2; have Ht2 := Lib.hid ht2; have Hs2 := Lib.hid hs2; clear hH2 ht2 hs2))
  go_ret
  refine ⟨rfl, v2, HH2.out, ?_, fun k hk => ?_⟩
  · exact ((touch_below (S := WS gw v) Hb1.out (Nat.le_refl _)).alloc _).trans Ht2.out
  · rcases Hs2.out k hk with e | e
    · exact Or.inl e
    · have := Hb1.out.size
      rw [World.size_alloc] at e
      exact Or.inr (by omega)
set_option maxRecDepth 100000 in
theorem c_put_nil (v : Value) (p : Option Addr) (s : Int) (w : World) (h : CNone w v) : Calls Try.prog 21 #[v, .pointer p, .int .i64 s] w fun e w' => e = .returned (.int .i64 1) ∧ Below w.heap.size w w' := by
  have hmf : ∀ (fn : Fn) (first cap : Array Value) (w : World), (Instr.makeFunc fn first cap).run Try.prog w = .ok (.func fn first cap) w := fun _ _ _ _ => rfl
  have Hh := Lib.hid fun pv => c_hand_nil v pv s w h
  clear h
  go_enter Try.func21, Try.ntmps21
  go_wp2_with (go_at_call 26; refine (Hh.out _).mono ?_; rintro e w1 ⟨rfl, hb1⟩)
  go_ret
  exact ⟨rfl, hb1⟩
end Go.Proofs.Ytlnlahnglkeaiaa
