/-
  Layer 10: the program's Put, Pack, Size, for all lengths.
-/
import Derived.Test.YtckekhghcelcpaaTabE
import Derived.Test.YtckekhghcelcpaaBitA0
namespace Go.Proofs.Ytckekhghcelcpaa
set_option linter.unusedSimpArgs false
set_option linter.unusedVariables false
open Go.ChangeShapes Go.WideShapes Go.ChangeAt Go.RowKit Go.Joins Go.Deep

theorem tmkfunc (fn : Fn) (first cap : Array Value) (w : World) : (Instr.makeFunc fn first cap).run Try.prog w = .ok (.func fn first cap) w := rfl

set_option maxRecDepth 100000 in
set_option maxHeartbeats 2000000 in
theorem p_tput_nil (A : Option Addr) (n c : Nat) (w : World) :
    Calls Try.prog 13 #[.pointer none, .slice A n c] w fun e w' => e = .returned (.int .i64 1) ∧ Below w.heap.size w w' := by
  go_enter Try.func13, Try.ntmps13
  go_wp2
  go_ret
  exact ⟨rfl, by go_grown⟩

set_option maxRecDepth 100000 in
set_option maxHeartbeats 2000000 in
theorem p_tput_no (g : Nat) (l : List Int) (A : Option Addr) (n c : Nat) (w : World) (hm : n ≤ 1000000) (hr : Reads w w.heap.size 1 A n (ints l)) (h0 : checkF l ≠ 0) :
    Calls Try.prog 13 #[.pointer (some ⟨g, 0, none⟩), .slice A n c] w fun e w' => e = .returned (.int .i64 (checkF l)) ∧ Below w.heap.size w w' := by
  have Hck := Lib.hid fun (W : World) (hW : Below w.heap.size w W) => p_check_any l A n c W hm ((hr.below hW).more hW.size)
  rw [lcheck_ref] at Hck
  have hb : (checkF l == 0) = false := by simpa using h0
  have hb2 : (checkF l != 0) = true := by simpa using h0
  have Hb1 := Lib.hid fun o => (Below.refl w.heap.size w).alloc (Nat.le_refl _) o
  clear hr hm
  generalize checkF l = E at *
  go_enter Try.func13, Try.ntmps13
  go_wp2_with (go_at_call 24; refine (Hck.out _ (Hb1.out _)).mono ?_; rintro e w2 ⟨rfl, hb2⟩; have Hb2 := Lib.hid ((Hb1.out _).trans (hb2.mono (by simp))); clear hb2)
  go_ret
  exact ⟨rfl, Hb2.out⟩

set_option maxRecDepth 100000 in
set_option maxHeartbeats 4000000 in
theorem p_tput_yes (B N0 g : Nat) (v : Value) (R : List Nat) (l : List Int) (A : Option Addr) (n c : Nat) (w : World) (hr : Reads w N0 1 A n (ints l)) (hg : N0 ≤ g ∧ N0 ≤ B) (h0 : checkF l = 0) (hH : WHold w B g v R) (hB : B ≤ w.heap.size) (hR : R.length ≤ 1000000000) (hc : n ≤ c) :
    Calls Try.prog 13 #[.pointer (some ⟨g, 0, none⟩), .slice A n c] w fun e w' => e = .returned (.int .i64 0) ∧ ∃ v', WHold w' B g v' (R ++ tbits l) ∧ Touch w w' (WS g v) ∧ Sep w v v' := by
  obtain ⟨hl, hgd⟩ := tcheck_ok h0
  have en : l.length = n := by have := hr.1; rw [ints_length] at this; omega
  have hN0 : N0 ≤ w.heap.size := by have := hH.1.lt; omega
  have Hck := Lib.hid fun (W : World) (hW : Below w.heap.size w W) => p_check_any l A n c W (by omega) ((hr.below (hW.mono hN0)).more (Nat.le_trans hN0 hW.size))
  rw [lcheck_ref, h0] at Hck
  have Heach := Lib.hid fun (W : World) (hW : Below w.heap.size w W) hP => teach_any B N0 g w.heap.size v R l A n c W (hr.below (hW.mono hN0)) hg hl (lgood_get hgd) hP (hH.below hW (Nat.le_refl _)) (Nat.le_trans hB hW.size) hR hc
  have Hb1 := Lib.hid fun o => (Below.refl w.heap.size w).alloc (Nat.le_refl _) o
  have Hnew := Lib.hid (Blk.new w 31 #[.pointer (some ⟨g, 0, none⟩)])
  have hmf := tmkfunc
  clear hr hg h0 hH hB hR hc hl hgd en hN0
  generalize R ++ tbits l = R2 at *
  go_enter Try.func13, Try.ntmps13
  go_wp2_with (first
    | (go_at_call 24; refine (Hck.out _ (Hb1.out _)).mono ?_; rintro e w2 ⟨rfl, hb2⟩; have Hb2 := Lib.hid ((Hb1.out _).trans (hb2.mono (by simp))); have HP2 := Lib.hid (Hnew.out.below hb2 (by simp)); clear hb2)
    | (go_at_call 25; refine (Heach.out _ Hb2.out HP2.out).mono ?_; rintro e w3 ⟨⟨v3, rfl⟩, hp3⟩; have Hp3 := Lib.hid hp3; clear hp3))
  go_ret
  obtain ⟨v', g1, g2, g3⟩ := Hp3.out
  refine ⟨rfl, v', g1, (touch_below Hb2.out (Nat.le_refl _)).trans g2, fun k hk => ?_⟩
  rcases g3 k hk with e | e
  · exact Or.inl e
  · exact Or.inr (Nat.le_trans Hb2.out.size e)

theorem twriter_new (w : World) : WHold (w.alloc (.cells #[.slice none 0 0, .int .i64 0] 34)) w.heap.size w.heap.size (.slice none 0 0) [] := by
  refine ⟨by simpa [fr] using Blk.new w 34 #[.slice none 0 0, .int .i64 0], ?_, bin_nil⟩
  simpa [text_nil, bc] using World.ownsRow_nil (w.alloc (.cells #[.slice none 0 0, .int .i64 0] 34)) w.heap.size 5 1
theorem twriter_back {w W w' : World} {o : Obj} {v : Value} (hW : W = w.alloc o) (h : Touch W w' (WS w.heap.size v)) (hv : ∀ k, v.ownBlock = some k → w.heap.size ≤ k) : Below w.heap.size w w' := by
  subst hW
  refine ((Below.refl w.heap.size w).alloc (Nat.le_refl _) o).trans (h.below (fun k _ e => ?_) (by simp))
  rcases e with e | e
  · omega
  · exact hv k e

set_option maxRecDepth 100000 in
set_option maxHeartbeats 4000000 in
theorem p_tpack_any (l : List Int) (A : Option Addr) (n c : Nat) (w : World) (hm : n ≤ 1000000 ∧ n ≤ c) (hr : Reads w w.heap.size 1 A n (ints l)) :
    Calls Try.prog 7 #[.slice A n c] w fun e w' => e = .returned (.tuple #[.string ⟨(tpackF l).1.toArray⟩, .int .i64 (tpackF l).2]) ∧ Below w.heap.size w w' := by
  have HW := Lib.hid (twriter_new w)
  have hb := (Below.refl w.heap.size w).alloc (Nat.le_refl _) (.cells #[.slice none 0 0, .int .i64 0] 34)
  obtain ⟨F, hF⟩ : ∃ F, tpackF l = F := ⟨_, rfl⟩
  rw [hF]
  unfold tpackF at hF
  by_cases h0 : checkF l = 0
  · rw [if_pos h0] at hF
    have Hput := Lib.hid (p_tput_yes w.heap.size w.heap.size w.heap.size (.slice none 0 0) [] l A n c _ (hr.below hb) ⟨Nat.le_refl _, Nat.le_refl _⟩ h0 HW.out hb.size (by simp) hm.2)
    rw [List.nil_append] at Hput
    have Hf := Lib.hid hF
    clear hr hm hF h0 HW
    generalize tbits l = T at *
    go_enter Try.func7, Try.ntmps7
    go_wp2_with (first
      | (go_at_call 13; refine Hput.out.mono ?_; rintro e w2 ⟨rfl, v2, hW2, ht2, hs2⟩; have HW2 := Lib.hid hW2; have Ht2 := Lib.hid ht2; clear hW2 ht2 hs2)
      | (go_at_call 19; refine (wtext_any _ _ _ _ _ HW2.out).mono ?_; rintro e w3 ⟨rfl, rfl⟩))
    go_ret2
    rw [← Hf.out]
    exact ⟨rfl, twriter_back rfl Ht2.out (fun k e => by cases e)⟩
  · rw [if_neg h0] at hF
    have Hput := Lib.hid (p_tput_no w.heap.size l A n c (w.alloc (.cells #[.slice none 0 0, .int .i64 0] 34)) hm.1 ((hr.below hb).more hb.size) h0)
    have Hf := Lib.hid hF
    have Hb := Lib.hid hb
    clear hr hm hF h0 hb
    generalize checkF l = E at *
    go_enter Try.func7, Try.ntmps7
    go_wp2_with (first
      | (go_at_call 13; refine Hput.out.mono ?_; rintro e w2 ⟨rfl, hb2⟩; have HW2 := Lib.hid (HW.out.below hb2 (Nat.le_refl _)); have Hb2 := Lib.hid (Hb.out.trans (hb2.mono (by simp))); clear hb2)
      | (go_at_call 19; refine (wtext_any _ _ _ _ _ HW2.out).mono ?_; rintro e w3 ⟨rfl, rfl⟩))
    go_ret2
    rw [← Hf.out, text_nil]
    exact ⟨rfl, Hb2.out⟩
set_option maxRecDepth 100000 in
set_option maxHeartbeats 4000000 in
theorem p_tsize_any (l : List Int) (A : Option Addr) (n c : Nat) (w : World) (hm : n ≤ 1000000 ∧ n ≤ c) (hr : Reads w w.heap.size 1 A n (ints l)) :
    Calls Try.prog 9 #[.slice A n c] w fun e w' => e = .returned (.int .i64 (tsizeF l : Int)) ∧ Below w.heap.size w w' := by
  have HW := Lib.hid (twriter_new w)
  have hb := (Below.refl w.heap.size w).alloc (Nat.le_refl _) (.cells #[.slice none 0 0, .int .i64 0] 34)
  by_cases h0 : checkF l = 0
  · have hF : tsizeF l = (tbits l).length := if_pos h0
    rw [hF]
    have Hput := Lib.hid (p_tput_yes w.heap.size w.heap.size w.heap.size (.slice none 0 0) [] l A n c _ (hr.below hb) ⟨Nat.le_refl _, Nat.le_refl _⟩ h0 HW.out hb.size (by simp) hm.2)
    rw [List.nil_append] at Hput
    have Htl : Hid ((tbits l).length ≤ 1099511627776) := Lib.hid (by
      have h1 := (tcheck_ok h0).1
      have := tbits_len l (by omega)
      omega)
    clear hr hm hF h0 HW
    generalize tbits l = T at *
    go_enter Try.func9, Try.ntmps9
    go_wp2_with (first
      | (go_at_call 13; refine Hput.out.mono ?_; rintro e w2 ⟨rfl, v2, hW2, ht2, hs2⟩; have HW2 := Lib.hid hW2; have Ht2 := Lib.hid ht2; clear hW2 ht2 hs2)
      | (go_at_call 12; refine (wlen_any _ _ _ _ _ HW2.out Htl.out).mono ?_; rintro e w3 ⟨rfl, kd, rfl⟩))
    go_ret
    exact ⟨rfl, below_drewN (twriter_back rfl Ht2.out (fun k e => by cases e)) kd⟩
  · have hF : tsizeF l = 0 := if_neg h0
    rw [hF]
    have Hput := Lib.hid (p_tput_no w.heap.size l A n c (w.alloc (.cells #[.slice none 0 0, .int .i64 0] 34)) hm.1 ((hr.below hb).more hb.size) h0)
    have Hb := Lib.hid hb
    clear hr hm hF h0 hb
    generalize checkF l = E at *
    go_enter Try.func9, Try.ntmps9
    go_wp2_with (first
      | (go_at_call 13; refine Hput.out.mono ?_; rintro e w2 ⟨rfl, hb2⟩; have HW2 := Lib.hid (HW.out.below hb2 (Nat.le_refl _)); have Hb2 := Lib.hid (Hb.out.trans (hb2.mono (by simp))); clear hb2)
      | (go_at_call 12; refine (wlen_any _ _ _ _ _ HW2.out (by simp)).mono ?_; rintro e w3 ⟨rfl, kd, rfl⟩))
    go_ret
    exact ⟨rfl, below_drewN Hb2.out kd⟩
end Go.Proofs.Ytckekhghcelcpaa
