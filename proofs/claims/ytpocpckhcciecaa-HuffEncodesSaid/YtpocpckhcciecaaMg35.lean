/-
  What the law of the last of these texts stands on, part 35.
-/
import Derived.Test.YtpocpckhcciecaaRows
import Derived.Test.YtpocpckhcciecaaMg01
import Derived.Test.YtpocpckhcciecaaMg02
import Derived.Test.YtpocpckhcciecaaMg03
import Derived.Test.YtpocpckhcciecaaMg04
import Derived.Test.YtpocpckhcciecaaMg05
import Derived.Test.YtpocpckhcciecaaMg12
import Derived.Test.YtpocpckhcciecaaMg13
import Derived.Test.YtpocpckhcciecaaMg14
import Derived.Test.YtpocpckhcciecaaMg17
import Derived.Test.YtpocpckhcciecaaMg18
import Derived.Test.YtpocpckhcciecaaMg20
import Derived.Test.YtpocpckhcciecaaMg34
import Derived.Laws.EntriesVeiled
import Derived.WalkKit
import Derived.WalkSpells
import Derived.WalkLawsBesides
import Derived.ProofKit
import Derived.OpenShut
import Derived.Handy
import Derived.SizedLaws
import Derived.JoinedOf
import Derived.KernelRfl
import Derived.Lib.Hide
import Derived.Lib.SmallJoins
import Derived.Deep.Slices
import Derived.Deep.Fields
import Derived.Deep.SlicePairs
import Derived.Deep.Draws
import Derived.Deep.AppendLies
import Derived.Deep.QuietTactic
import Derived.BigQuiet
import Derived.Deep.RegionHeld3
import Derived.StillTailTactics
import Derived.Laws.OwnMore
import Derived.Laws.Rows
import Derived.Below
import Derived.Carry
import Derived.Lib.BitFns
import Derived.WalkMore
import Derived.Laws.BytesString
import Derived.Laws.BitsLemmas
import Derived.Laws.Concat
import Derived.Deep.Upon
namespace Go.Proofs.Ytpocpckhcciecaa
set_option linter.unusedSimpArgs false
set_option linter.unusedVariables false
open Go.ChangeShapes Go.WideShapes Go.ChangeAt Go.RowKit Go.Joins Go.Deep
theorem tfits4 {x : Int} (hx : 0 ≤ x ∧ x ≤ 15) : fits x 4 := ⟨by omega, by omega, hx.1, by show x < 16; omega⟩
/-- The box of the writer's pointer lies apart from the writer. -/
theorem tbox_apart {w : World} {B g pb : Nat} {v : Value} {R : List Nat} (hP : Blk w pb 48 #[.pointer (some ⟨g, 0, none⟩)]) (hH : WHold w B g v R) : ¬ WS g v pb := by
  rintro (e | e)
  · subst e
    have h1 := hH.1
    unfold Blk at h1 hP
    rw [hP] at h1
    injection h1 with h1
    injection h1 with _ h2
    cases h2
  · exact owns_apart hH.2.1 hP (by decide) e
set_option maxRecDepth 100000 in
set_option maxHeartbeats 2000000 in
theorem tput1_any (B g pb : Nat) (v : Value) (R : List Nat) (x : Int) (d : Nat) (w : World) (hx : 0 ≤ x ∧ x ≤ 15) (hd : 1 ≤ d ∧ d ≤ 257) (hP : Blk w pb 48 #[.pointer (some ⟨g, 0, none⟩)]) (hH : WHold w B g v R) (hB : B ≤ w.heap.size) (hR : R.length ≤ 1000100000) :
    Calls Try.prog 43 #[.int .i64 x, .int .i64 (d : Int), .pointer (some ⟨pb, 0, none⟩)] w fun e w' => (∃ r, e = .returned r) ∧ ∃ v', WHold w' B g v' (R ++ trb x d) ∧ Touch w w' (WS g v) ∧ Sep w v v' := by
  have hap := tbox_apart hP hH
  have x1 : w.cell? ⟨pb, 0, none⟩ = some (.pointer (some ⟨g, 0, none⟩)) := hP.cell 0
  have hdl : (digI x 4).length = 4 := by unfold digI; rw [dig_length]; rfl
  have Hput := Lib.hid (bput_is B g x 4 v R w (tfits4 hx) hH hB (by omega))
  have Hgam := Lib.hid fun W v1 hH hB => wgamma_yes B g (d : Int) v1 (R ++ digI x 4) W ⟨by omega, by omega⟩ hH hB (by rw [List.length_append, hdl]; omega)
  have Hnext := Lib.hid fun (w1 : World) (h : Touch w w1 (WS g v)) => (hP.touch h hap).cell 0
  have HB := Lib.hid hB
  have hass : R ++ trb x d = R ++ digI x 4 ++ gam d := by unfold trb; rw [List.append_assoc]
  rw [Int.toNat_natCast] at Hgam
  rw [hass]
  clear hap hdl hass hP hH hB hR hx hd
  generalize R ++ digI x 4 = R1 at *
  generalize R1 ++ gam d = R2 at *
  go_enter Try.func43, Try.ntmps43
  go_wp2_with (first
    | (go_at_call 44; refine Hput.out.mono ?_; rintro e w1 ⟨rfl, v1, hH1, ht1, hs1⟩; have HH1 := Lib.hid hH1; have Ht1 := Lib.hid ht1; have Hs1 := Lib.hid hs1; have x2 := Hnext.out _ ht1; clear hH1 ht1 hs1)
    | (go_at_call 45; refine (Hgam.out _ _ HH1.out (Nat.le_trans HB.out Ht1.out.size)).mono ?_; rintro e w2 ⟨rfl, v2, hH2, ht2, hs2⟩; have HH2 := Lib.hid hH2; have Ht2 := Lib.hid ht2; have Hs2 := Lib.hid hs2; clear hH2 ht2 hs2))
  go_end0
  exact ⟨⟨_, rfl⟩, v2, HH2.out, touch_ws Ht1.out Ht2.out Hs1.out, Hs1.out.trans Hs2.out Ht1.out.size⟩
theorem tint_info2 : (Try.prog.info? 3).map (fun i => (i.zero, i.size, i.bytes)) = some (some (.int .i64 0), 1, 8) := by kernel_rfl
theorem tints_drop (l : List Int) (k : Nat) : (ints l).drop k = ints (l.drop k) := by simp [ints]
/-- What each holds on to: the writer has the runs that were handed over. -/
def TEach (w : World) (B g : Nat) (v : Value) (R : List Nat) (l : List Int) (i : Nat) (wr : World) : Prop :=
  ∃ R' v', WHold wr B g v' R' ∧ Touch w wr (WS g v) ∧ Sep w v v' ∧ R' ++ tbits (l.drop i) = R ++ tbits l ∧ R'.length ≤ R.length + 67 * i
section
variable {w wr : World} {B g pb N0 : Nat} {v : Value} {R : List Nat} {l : List Int}
theorem TEach.step (hr : R.length ≤ 1000000000) (hl : l.length ≤ 257) (h15 : ∀ i (h : i < l.length), 0 ≤ l[i] ∧ l[i] ≤ 15) (hB : B ≤ w.heap.size) (hP : Blk w pb 48 #[.pointer (some ⟨g, 0, none⟩)]) (hH : WHold w B g v R)
    (i k : Nat) (h : TEach w B g v R l i wr) (x : Int) (hik : i < k) (hk : k ≤ l.length) (hx : ∀ j (hj : j < l.length), i ≤ j → j < k → l[j] = x) (hs : ∀ hj : k < l.length, l[k] ≠ x) :
    Calls Try.prog 43 #[.int .i64 x, .int .i64 ((k - i : Nat) : Int), .pointer (some ⟨pb, 0, none⟩)] wr fun e w' => (∃ r, e = .returned r) ∧ TEach w B g v R l k w' := by
  obtain ⟨R', v', h1, h2, h3, h4, h5⟩ := h
  have hil : i < l.length := by omega
  have hx15 : 0 ≤ x ∧ x ≤ 15 := by have := h15 i hil; rw [hx i hil (Nat.le_refl _) hik] at this; exact this
  refine (tput1_any B g pb v' R' x (k - i) wr hx15 ⟨by omega, by omega⟩ (hP.touch h2 (tbox_apart hP hH)) h1 (Nat.le_trans hB h2.size) (by omega)).mono ?_
  rintro e w' ⟨hr', v2, g1, g2, g3⟩
  refine ⟨hr', R' ++ trb x (k - i), v2, g1, touch_ws h2 g2 h3, h3.trans g3 h2.size, ?_, ?_⟩
  · rw [← h4, tbits_at l x i k hik hk hx hs, List.append_assoc]
  · rw [List.length_append]
    have := trb_len x (k - i) (by omega) (by omega)
    omega
end
set_option maxRecDepth 100000 in
set_option maxHeartbeats 4000000 in
theorem teach_any (B N0 g pb : Nat) (v : Value) (R : List Nat) (l : List Int) (A : Option Addr) (n c : Nat) (w : World) (hr : Reads w N0 1 A n (ints l)) (hg : N0 ≤ g ∧ N0 ≤ B) (hl : l.length ≤ 257) (h15 : ∀ i (h : i < l.length), 0 ≤ l[i] ∧ l[i] ≤ 15)
    (hP : Blk w pb 48 #[.pointer (some ⟨g, 0, none⟩)]) (hH : WHold w B g v R) (hB : B ≤ w.heap.size) (hR : R.length ≤ 1000000000) (hc : n ≤ c) :
    Calls Try.prog 42 #[.slice A n c, .func (.func 43) #[] #[.pointer (some ⟨pb, 0, none⟩)]] w fun e w' => (∃ r, e = .returned r) ∧ ∃ v', WHold w' B g v' (R ++ tbits l) ∧ Touch w w' (WS g v) ∧ Sep w v v' := by
  obtain ⟨i0, hi, hz0, hz1, hz2⟩ := info_parts tint_info2
  have en : l.length = n := by have := hr.1; rw [ints_length] at this; omega
  have h0 : TEach w B g v R l 0 w := ⟨R, v, hH, Touch.refl _ _, fun k hk => Or.inl hk, rfl, by omega⟩
  have hN0 : N0 ≤ w.heap.size := by have := hH.1.lt; omega
  have Hbelow : Hid (∀ i wr, TEach w B g v R l i wr → Below N0 w wr) := Lib.hid fun i wr h => by
    obtain ⟨R', v', h1, h2, h3, h4, h5⟩ := h
    refine h2.below (fun k _ e => ?_) hN0
    rcases e with e | e
    · omega
    · exact Nat.le_trans hg.2 (hH.2.1.lt k e).1
  have Hstep := Lib.hid fun wr i k h x => TEach.step (wr := wr) hR hl h15 hB hP hH i k h x
  have Hend : Hid (∀ wr, TEach w B g v R l n wr → ∃ v', WHold wr B g v' (R ++ tbits l) ∧ Touch w wr (WS g v) ∧ Sep w v v') := Lib.hid fun wr h => by
    obtain ⟨R', v', h1, h2, h3, h4, h5⟩ := h
    rw [List.drop_of_length_le (by omega)] at h4
    have e : R' = R ++ tbits l := by rw [← h4]; simp [tbits]
    subst e
    exact ⟨v', h1, h2, h3⟩
  have En := Lib.hid en
  have Hn : (n : Int) ≤ 257 := by omega
  have H0 := Lib.hid h0
  have Hr0 := Lib.hid hr
  have Hh15 := Lib.hid h15
  clear hr hg hl h15 hP hH hB hR h0 hN0 en
  go_enter Try.func42, Try.ntmps42
  go_wp2
  go_step3
  go_wp2
  go_step3
  go_wp2
  go_loopw [0] (fun s wr => ∃ (i m ck : Nat) (Ak : Option Addr), i + m = n ∧ s = .slice Ak m ck ∧ m ≤ ck ∧ Hid (Reads w N0 1 Ak m (ints (l.drop i))) ∧ Hid (TEach w B g v R l i wr)) (fun s _ => match s with | .slice _ m _ => m | _ => 0)
  case atStart => exact ⟨0, n, c, A, by omega, rfl, hc, Lib.hid Hr0.out, H0⟩
  case round =>
    obtain ⟨i, m, ck, Ak, hk, rfl, hck, Hr, HI⟩ := hrel
    clear H0 Hr0
    by_cases hlt : 0 < m
    · have hki : (0 : Int) < (m : Int) := by omega
      have hil : i < l.length := by rw [En.out]; omega
      obtain ⟨x, hx⟩ : ∃ x, l[i] = x := ⟨_, rfl⟩
      obtain ⟨b, off, rfl, hb, hcell⟩ := (Hr.out.below (Hbelow.out i wr HI.out)).2 hlt
      have Hcell : Hid (∀ a (ha : i + a < l.length), a < m → wr.cell? ⟨b, off + a, none⟩ = some (.int .i64 l[i + a])) := Lib.hid fun a ha _ => hcell a _ (by rw [ints_get _ a (by simp; omega)]; simp)
      have x1 : wr.cell? ⟨b, off, none⟩ = some (.int .i64 x) := by
        have := Hcell.out 0 hil hlt
        rw [Nat.add_zero] at this
        rw [this]
        show some (Value.int .i64 l[i]) = _
        rw [hx]
      have Hx := Lib.hid hx
      clear hcell hx
      go_wp2
      go_loop [0, 11] (fun s j => ∃ a : Nat, a ≤ m ∧ s = .slice (some ⟨b, off, none⟩) m ck ∧ j = .int .i64 a ∧ Hid (∀ j (hj : j < l.length), i ≤ j → j < i + a → l[j] = x)) (fun _ j => m - (intOf j).toNat)
      case atStart => exact ⟨0, by omega, rfl, rfl, Lib.hid fun j hj h1 h2 => by omega⟩
      case round =>
        obtain ⟨a, ha, rfl, rfl, Hg⟩ := hrel
        by_cases hal : a < m
        · have hai : (0 : Int) ≤ (a : Int) ∧ (a : Int) < m := by omega
          have hkl : i + a < l.length := by rw [En.out]; omega
          have x2 := Hcell.out a hkl hal
          by_cases hy : l[i + a] = x
          · rw [hy] at x2
            have hb1 : (x == x) = true := by simp
            have Hg2 : Hid (∀ j (hj : j < l.length), i ≤ j → j < i + (a + 1) → l[j] = x) := Lib.hid fun j hj h1 h2 => by
              by_cases e : j = i + a
              · subst e; exact hy
              · exact Hg.out j hj h1 (by omega)
            clear hy
            go_wp2
            go_round
            case rel => exact ⟨a + 1, by omega, rfl, iv (by omega), Hg2⟩
            case measure => simp only [intOf]; omega
          · have ha0 : 0 < a := by
              rcases Nat.eq_zero_or_pos a with h | h
              · subst h
                exact absurd Hx.out hy
              · exact h
            have hfrom := fun W => run_slice_from (P := Try.prog) Try.underlying22 hi hz1 (some ⟨b, off, none⟩) m ck a (by omega) W
            have hst := Hstep.out wr i (i + a) HI.out x (by omega) (by omega) Hg.out (fun _ => hy)
            rw [Nat.add_sub_cancel_left] at hst
            have Hst := Lib.hid hst
            obtain ⟨y, hye⟩ : ∃ y, l[i + a] = y := ⟨_, rfl⟩
            have hb1 : (y == x) = false := by rw [← hye]; simpa using hy
            rw [hye] at x2
            clear hst hye hy
            go_wp2_with (go_at_call 43; refine Hst.out.mono ?_; rintro e w2 ⟨⟨v2, rfl⟩, hI2⟩; have HI2 := Lib.hid hI2; clear hI2)
            have hcut : Reads w N0 1 (some ⟨b, off + a, none⟩) (m - a) (ints (l.drop (i + a))) := by
              have := Hr.out.cut (k := a) (cap := ck) (by omega) (by omega)
              rw [if_neg (by omega), Nat.mul_one, tints_drop, List.drop_drop, Option.map_some, add_mk] at this
              exact this
            refine ⟨⟨i + a, m - a, ck - a, _, by omega, rfl, by omega, Lib.hid hcut, HI2⟩, ?_⟩
            show m - a < m
            omega
        · obtain rfl : a = m := by omega
          have hst := Hstep.out wr i (i + a) HI.out x (by omega) (by rw [En.out]; omega) Hg.out (fun hj => by rw [En.out] at hj; omega)
          rw [Nat.add_sub_cancel_left, hk] at hst
          have Hst := Lib.hid hst
          clear hst
          go_wp2_with (go_at_call 43; refine Hst.out.mono ?_; rintro e w2 ⟨⟨v2, rfl⟩, hI2⟩; have HI2 := Lib.hid hI2; clear hI2)
          rw [Exit.noGoto_ret]
          refine bodyPost_ret (results_none rfl _ _ _) rfl ?_
          exact ⟨⟨_, rfl⟩, Hend.out _ HI2.out⟩
    · obtain rfl : m = 0 := by omega
      obtain rfl : i = n := by omega
      go_wp2
      rw [Exit.noGoto_normal]
      go_end0
      exact ⟨⟨_, rfl⟩, Hend.out _ HI.out⟩
end Go.Proofs.Ytpocpckhcciecaa
namespace Go.Proofs.Ytpocpckhcciecaa
set_option linter.unusedSimpArgs false
set_option linter.unusedVariables false
open Go.ChangeShapes Go.WideShapes Go.ChangeAt Go.RowKit Go.Joins Go.Deep
theorem tmkfunc (fn : Fn) (first cap : Array Value) (w : World) : (Instr.makeFunc fn first cap).run Try.prog w = .ok (.func fn first cap) w := rfl
set_option maxRecDepth 100000 in
set_option maxHeartbeats 2000000 in
theorem p_tput_no (g : Nat) (l : List Int) (A : Option Addr) (n c : Nat) (w : World) (hm : n ≤ 1000000) (hr : Reads w w.heap.size 1 A n (ints l)) (h0 : checkF l ≠ 0) :
    Calls Try.prog 21 #[.pointer (some ⟨g, 0, none⟩), .slice A n c] w fun e w' => e = .returned (.int .i64 (checkF l)) ∧ Below w.heap.size w w' := by
  have Hck := Lib.hid fun (W : World) (hW : Below w.heap.size w W) => p_check_any l A n c W hm ((hr.below hW).more hW.size)
  rw [lcheck_ref] at Hck
  have hb : (checkF l == 0) = false := by simpa using h0
  have hb2 : (checkF l != 0) = true := by simpa using h0
  have Hb1 := Lib.hid fun o => (Below.refl w.heap.size w).alloc (Nat.le_refl _) o
  clear hr hm
  generalize checkF l = E at *
  go_enter Try.func21, Try.ntmps21
  go_wp2_with (go_at_call 41; refine (Hck.out _ (Hb1.out _)).mono ?_; rintro e w2 ⟨rfl, hb2⟩; have Hb2 := Lib.hid ((Hb1.out _).trans (hb2.mono (by simp))); clear hb2)
  go_ret
  exact ⟨rfl, Hb2.out⟩
set_option maxRecDepth 100000 in
set_option maxHeartbeats 4000000 in
theorem p_tput_yes (B N0 g : Nat) (v : Value) (R : List Nat) (l : List Int) (A : Option Addr) (n c : Nat) (w : World) (hr : Reads w N0 1 A n (ints l)) (hg : N0 ≤ g ∧ N0 ≤ B) (h0 : checkF l = 0) (hH : WHold w B g v R) (hB : B ≤ w.heap.size) (hR : R.length ≤ 1000000000) (hc : n ≤ c) :
    Calls Try.prog 21 #[.pointer (some ⟨g, 0, none⟩), .slice A n c] w fun e w' => e = .returned (.int .i64 0) ∧ ∃ v', WHold w' B g v' (R ++ tbits l) ∧ Touch w w' (WS g v) ∧ Sep w v v' := by
  obtain ⟨hl, hgd⟩ := tcheck_ok h0
  have en : l.length = n := by have := hr.1; rw [ints_length] at this; omega
  have hN0 : N0 ≤ w.heap.size := by have := hH.1.lt; omega
  have Hck := Lib.hid fun (W : World) (hW : Below w.heap.size w W) => p_check_any l A n c W (by omega) ((hr.below (hW.mono hN0)).more (Nat.le_trans hN0 hW.size))
  rw [lcheck_ref, h0] at Hck
  have Heach := Lib.hid fun (W : World) (hW : Below w.heap.size w W) hP => teach_any B N0 g w.heap.size v R l A n c W (hr.below (hW.mono hN0)) hg hl (lgood_get hgd) hP (hH.below hW (Nat.le_refl _)) (Nat.le_trans hB hW.size) hR hc
  have Hb1 := Lib.hid fun o => (Below.refl w.heap.size w).alloc (Nat.le_refl _) o
  have Hnew := Lib.hid (Blk.new w 48 #[.pointer (some ⟨g, 0, none⟩)])
  have hmf := tmkfunc
  clear hr hg h0 hH hB hR hc hl hgd en hN0
  generalize R ++ tbits l = R2 at *
  go_enter Try.func21, Try.ntmps21
  go_wp2_with (first
    | (go_at_call 41; refine (Hck.out _ (Hb1.out _)).mono ?_; rintro e w2 ⟨rfl, hb2⟩; have Hb2 := Lib.hid ((Hb1.out _).trans (hb2.mono (by simp))); have HP2 := Lib.hid (Hnew.out.below hb2 (by simp)); clear hb2)
    | (go_at_call 42; refine (Heach.out _ Hb2.out HP2.out).mono ?_; rintro e w3 ⟨⟨v3, rfl⟩, hp3⟩; have Hp3 := Lib.hid hp3; clear hp3))
  go_ret
  obtain ⟨v', g1, g2, g3⟩ := Hp3.out
  refine ⟨rfl, v', g1, (touch_below Hb2.out (Nat.le_refl _)).trans g2, fun k hk => ?_⟩
  rcases g3 k hk with e | e
  · exact Or.inl e
  · exact Or.inr (Nat.le_trans Hb2.out.size e)
theorem twriter_new (w : World) : WHold (w.alloc (.cells #[.slice none 0 0, .int .i64 0] 46)) w.heap.size w.heap.size (.slice none 0 0) [] := by
  refine ⟨by simpa [fr] using Blk.new w 46 #[.slice none 0 0, .int .i64 0], ?_, bin_nil⟩
  simpa [text_nil, bc] using World.ownsRow_nil (w.alloc (.cells #[.slice none 0 0, .int .i64 0] 46)) w.heap.size 5 1
theorem twriter_back {w W w' : World} {o : Obj} {v : Value} (hW : W = w.alloc o) (h : Touch W w' (WS w.heap.size v)) (hv : ∀ k, v.ownBlock = some k → w.heap.size ≤ k) : Below w.heap.size w w' := by
  subst hW
  refine ((Below.refl w.heap.size w).alloc (Nat.le_refl _) o).trans (h.below (fun k _ e => ?_) (by simp))
  rcases e with e | e
  · omega
  · exact hv k e
set_option maxRecDepth 100000 in
set_option maxHeartbeats 4000000 in
theorem p_tsize_any (l : List Int) (A : Option Addr) (n c : Nat) (w : World) (hm : n ≤ 1000000 ∧ n ≤ c) (hr : Reads w w.heap.size 1 A n (ints l)) :
    Calls Try.prog 17 #[.slice A n c] w fun e w' => e = .returned (.int .i64 (tsizeF l : Int)) ∧ Below w.heap.size w w' := by
  have HW := Lib.hid (twriter_new w)
  have hb := (Below.refl w.heap.size w).alloc (Nat.le_refl _) (.cells #[.slice none 0 0, .int .i64 0] 46)
  by_cases h0 : checkF l = 0
  · have hF : tsizeF l = (tbits l).length := if_pos h0
    rw [hF]
    have Hput := Lib.hid (p_tput_yes w.heap.size w.heap.size w.heap.size (.slice none 0 0) [] l A n c _ (hr.below hb) ⟨Nat.le_refl _, Nat.le_refl _⟩ h0 HW.out hb.size (by simp) hm.2)
    rw [List.nil_append] at Hput
    have Htl : Hid ((tbits l).length ≤ 1099511627776) := Lib.hid (by
      have h1 := (tcheck_ok h0).1
      have := tbits_len l (by omega)
      omega)
    clear hr hm hF h0 HW
    generalize tbits l = T at *
    go_enter Try.func17, Try.ntmps17
    go_wp2_with (first
      | (go_at_call 21; refine Hput.out.mono ?_; rintro e w2 ⟨rfl, v2, hW2, ht2, hs2⟩; have HW2 := Lib.hid hW2; have Ht2 := Lib.hid ht2; clear hW2 ht2 hs2)
      | (go_at_call 39; refine (wlen_any _ _ _ _ _ HW2.out Htl.out).mono ?_; rintro e w3 ⟨rfl, kd, rfl⟩))
    go_ret
    exact ⟨rfl, below_drewN (twriter_back rfl Ht2.out (fun k e => by cases e)) kd⟩
  · have hF : tsizeF l = 0 := if_neg h0
    rw [hF]
    have Hput := Lib.hid (p_tput_no w.heap.size l A n c (w.alloc (.cells #[.slice none 0 0, .int .i64 0] 46)) hm.1 ((hr.below hb).more hb.size) h0)
    have Hb := Lib.hid hb
    clear hr hm hF h0 hb
    generalize checkF l = E at *
    go_enter Try.func17, Try.ntmps17
    go_wp2_with (first
      | (go_at_call 21; refine Hput.out.mono ?_; rintro e w2 ⟨rfl, hb2⟩; have HW2 := Lib.hid (HW.out.below hb2 (Nat.le_refl _)); have Hb2 := Lib.hid (Hb.out.trans (hb2.mono (by simp))); clear hb2)
      | (go_at_call 39; refine (wlen_any _ _ _ _ _ HW2.out (by simp)).mono ?_; rintro e w3 ⟨rfl, kd, rfl⟩))
    go_ret
    exact ⟨rfl, below_drewN Hb2.out kd⟩
end Go.Proofs.Ytpocpckhcciecaa
