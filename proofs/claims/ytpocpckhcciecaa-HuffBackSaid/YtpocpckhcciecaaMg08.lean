/-
  What the law of the last of these texts stands on, part 8.
-/
import Derived.Test.YtpocpckhcciecaaRows
import Derived.Test.YtpocpckhcciecaaMg01
import Derived.Test.YtpocpckhcciecaaMg02
import Derived.Test.YtpocpckhcciecaaMg03
import Derived.Test.YtpocpckhcciecaaMg04
import Derived.Test.YtpocpckhcciecaaMg05
import Derived.Test.YtpocpckhcciecaaMg06
import Derived.Test.YtpocpckhcciecaaMg07
import Derived.WalkKit
import Derived.WalkSpells
import Derived.WalkLawsBesides
import Derived.ProofKit
import Derived.OpenShut
import Derived.Handy
import Derived.SizedLaws
import Derived.JoinedOf
import Derived.KernelRfl
import Derived.Lib.Hide
import Derived.Lib.SmallJoins
import Derived.Deep.Slices
import Derived.Deep.Fields
import Derived.Deep.SlicePairs
import Derived.Deep.Draws
import Derived.Deep.AppendLies
import Derived.Deep.QuietTactic
import Derived.BigQuiet
import Derived.Deep.RegionHeld3
import Derived.StillTailTactics
import Derived.Laws.OwnMore
import Derived.Laws.Rows
import Derived.Below
import Derived.Carry
import Derived.WalkMore
import Derived.Laws.BytesString
import Derived.Laws.BitsLemmas
import Derived.Laws.Concat
import Derived.Deep.RegionWith
import Derived.Deep.Upon
import Derived.Deep.RegionLaw
namespace Go.Proofs.Ytpocpckhcciecaa
set_option linter.unusedSimpArgs false
set_option linter.unusedVariables false
open Go.ChangeShapes Go.WideShapes Go.ChangeAt Go.RowKit Go.Joins Go.Deep
theorem LHRow.nil (W : World) (B : Nat) (ok : Nat → Prop) : LHRow W B ok none 0 [] := ⟨rfl, fun h => absurd h (by omega), [], Reads.none_, rfl⟩
theorem lfirst_yes (i : Nat) (c : Int) (t : List Int) (R : List LTh) (h : 0 < c) : lfirst i (c :: t) R = lfirst (i + 1) t (lput R ⟨c, [i], true⟩) := by
  conv => lhs; unfold lfirst
  rw [if_pos h]
theorem lfirst_no (i : Nat) (c : Int) (t : List Int) (R : List LTh) (h : ¬ 0 < c) : lfirst i (c :: t) R = lfirst (i + 1) t R := by
  conv => lhs; unfold lfirst
  rw [if_neg h]
/-- One integer in a block of its own. -/
theorem lone_reads (W : World) (s : Nat) : Reads (W.alloc (.cells #[.int .i64 (s : Int)] 3)) (W.alloc (.cells #[.int .i64 (s : Int)] 3)).heap.size 1 (some ⟨W.heap.size, 0, none⟩) 1 (ints (lsy [s])) := by
  have := reads_new W 3 #[.int .i64 (s : Int)] 1 1 rfl
  exact this.more (by simp)
set_option maxRecDepth 100000 in
set_option maxHeartbeats 4000000 in
theorem lref_first_any (ok : Nat → Prop) (counts : List Int) (A : Option Addr) (n c : Nat) (w : World) (hm : n ≤ 100000) (hok : ∀ b, w.heap.size ≤ b → ok b) (hr : Reads w w.heap.size 1 A n (ints counts)) :
    Calls Try.prog 68 #[.slice A n c] w fun e w' => ∃ A' c', e = .returned (.slice A' (lleaves counts).length c') ∧ (lleaves counts).length ≤ c' ∧ LHRow w' w'.heap.size ok A' (lleaves counts).length (lleaves counts) ∧ Below w.heap.size w w' := by
  have en : counts.length = n := by have := hr.1; rw [ints_length] at this; omega
  have Hcell : Hid (0 < n → ∃ b off, A = some ⟨b, off, none⟩ ∧ ∀ wr, Below w.heap.size w wr → ∀ k, (hk : k < counts.length) → wr.cell? ⟨b, off + k, none⟩ = some (.int .i64 counts[k])) := Lib.hid fun h => by
    obtain ⟨b, off, e, hb, hc⟩ := hr.2 h
    exact ⟨b, off, e, fun wr hw k hk => (hw.cell (p := ⟨b, off + k, none⟩) hb).trans (hc k _ (ints_get counts k hk))⟩
  have Hstart : Hid (lfirst 0 (counts.drop 0) [] = lleaves counts) := Lib.hid rfl
  have En := Lib.hid en
  have hnn : (n : Int) ≤ 100000 := by omega
  clear hr en
  generalize lleaves counts = T at *
  go_enter Try.func68, Try.ntmps68
  go_wp2
  go_loopw [3, 4] (fun v i wr => ∃ (k m cm : Nat) (Am : Option Addr) (R : List LTh), k ≤ n ∧ m ≤ k ∧ m ≤ cm ∧ v = .slice Am m cm ∧ i = .int .i64 k ∧ Hid (lfirst k (counts.drop k) R = T) ∧ Hid (LHRow wr wr.heap.size ok Am m R) ∧ Hid (Below w.heap.size w wr)) (fun _ i _ => n - (intOf i).toNat)
  case atStart => exact ⟨0, 0, 0, none, [], by omega, by omega, by omega, rfl, rfl, Hstart.out, LHRow.nil _ _ _, Below.refl _ _⟩
  case round =>
    obtain ⟨k, m, cm, Am, R, hk, hmk, hmc, rfl, rfl, Hf, HR, Hb⟩ := hrel
    by_cases hlt : k < n
    · have hki : (0 : Int) ≤ (k : Int) ∧ (k : Int) < n := by omega
      have hkl : k < counts.length := by rw [En.out]; exact hlt
      obtain ⟨b, off, rfl, hcell⟩ := Hcell.out (by omega)
      have hx := hcell wr Hb.out k hkl
      have hf := Hf.out
      rw [List.drop_eq_getElem_cons hkl] at hf
      clear hcell Hf
      generalize counts[k] = x at *
      by_cases hx0 : 0 < x
      · rw [lfirst_yes _ _ _ _ hx0] at hf
        have Hf2 := Lib.hid hf
        have Hput : Hid (Calls Try.prog 84 #[.slice Am m cm, .agg #[.int .i64 x, .slice (some ⟨wr.heap.size, 0, none⟩) 1 1, .bool true]] (wr.alloc (.cells #[.int .i64 (k : Int)] 3)) fun e w' => ∃ A' c', e = .returned (.slice A' (m + 1) c') ∧ m + 1 ≤ c' ∧ LHRow w' w'.heap.size ok A' (m + 1) (lput R ⟨x, [k], true⟩) ∧ Below (wr.alloc (.cells #[.int .i64 (k : Int)] 3)).heap.size (wr.alloc (.cells #[.int .i64 (k : Int)] 3)) w') := Lib.hid (by
          have hba : Below wr.heap.size wr (wr.alloc (.cells #[.int .i64 (k : Int)] 3)) := (Below.refl _ _).alloc (Nat.le_refl _) _
          exact lref_put_any ok R ⟨x, [k], true⟩ Am (some ⟨wr.heap.size, 0, none⟩) m cm 1 (wr.alloc (.cells #[.int .i64 (k : Int)] 3)) (by omega) hmc (fun b hb2 => hok b (Nat.le_trans (Nat.le_trans Hb.out.size hba.size) hb2)) ((HR.out.below hba).more hba.size) (Nat.le_refl _) ⟨lone_reads wr k, fun _ => ⟨_, _, rfl, hok _ Hb.out.size⟩⟩)
        clear hf
        go_wp2_with (go_at_call 84; refine Hput.out.mono ?_; rintro e w2 ⟨A2, c2, rfl, hc2, hR2, hb2⟩; have HR2 := Lib.hid hR2; have Hc2 := Lib.hid hc2; have Hb2 := Lib.hid (Hb.out.trans ((((Below.refl wr.heap.size wr).alloc (Nat.le_refl _) (.cells #[.int .i64 (k : Int)] 3)).trans (hb2.mono (by simp))).mono Hb.out.size)); clear hR2 hc2 hb2)
        go_roundw
        case rel => exact ⟨k + 1, m + 1, c2, A2, _, by omega, by omega, Hc2.out, rfl, iv (by omega), Hf2.out, HR2.out, Hb2.out⟩
        case measure => simp only [intOf]; omega
      · rw [lfirst_no _ _ _ _ hx0] at hf
        have Hf2 := Lib.hid hf
        clear hf
        go_wp2
        go_roundw
        case rel => exact ⟨k + 1, m, cm, Am, R, by omega, by omega, hmc, rfl, iv (by omega), Hf2.out, HR.out, Hb.out⟩
        case measure => simp only [intOf]; omega
    · obtain rfl : k = n := by omega
      have hf := Hf.out
      rw [List.drop_of_length_le (by rw [En.out]; exact Nat.le_refl _)] at hf
      have hf2 : R = T := hf
      subst hf2
      have hlen := HR.out.1
      subst hlen
      clear hf Hf
      go_wp2
      go_ret
      exact ⟨Am, cm, rfl, hmc, HR.out, Hb.out⟩
end Go.Proofs.Ytpocpckhcciecaa
namespace Go.Proofs.Ytpocpckhcciecaa
set_option linter.unusedSimpArgs false
set_option linter.unusedVariables false
open Go.ChangeShapes Go.WideShapes Go.ChangeAt Go.RowKit Go.Joins Go.Deep
theorem lint_info : (Try.prog.info? 3).map (fun i => (i.zero, i.size, i.bytes)) = some (some (.int .i64 0), 1, 8) := by kernel_rfl
theorem lisblk {W : World} {g : Nat} {t : TypeId} {cs : Array Value} (h : Blk W g t cs) : Blk W g t cs := h
theorem lnot_own {W : World} {B n size : Nat} {e : TypeId} {v : Value} {xs : List Value} (h : W.ownsRow B e size v n xs) (k : v.ownBlock = some W.heap.size) : False := by
  have := (h.lt _ k).2
  omega
theorem lnot_blk {W : World} {B n size g : Nat} {e t : TypeId} {v : Value} {xs : List Value} {cs : Array Value} (h : W.ownsRow B e size v n xs) (hb : Blk W g t cs) (hne : e ≠ t) : v.ownBlock ≠ some g := owns_apart h hb hne
theorem lpacks_two (R : List LTh) (k : Nat) (h : k + 1 < R.length) : lpacks (R.drop k) = lpack (R[k]'(by omega)) R[k + 1] :: lpacks (R.drop (k + 2)) := by
  rw [List.drop_eq_getElem_cons (by omega), List.drop_eq_getElem_cons h]
  rfl
theorem lpacks_few (R : List LTh) (k : Nat) (h : R.length ≤ k + 1) : lpacks (R.drop k) = [] := by
  have hl : (R.drop k).length ≤ 1 := by rw [List.length_drop]; omega
  cases hd : R.drop k with
  | nil => rfl
  | cons a t =>
    rw [hd] at hl
    cases t with
    | nil => rfl
    | cons b u => simp at hl
section
variable {P : Program} {op : Op} {ty : TypeId} {pos : String} {af : Array Edge} {gd : Option (Nat × Bool)} {ys : Nat → Option Bool} {a : Act} {K : Act → World → Prop} {Q : Exit → Act → World → Prop} {E : Prop}
theorem lguardD1 (d : Nat) (wr : World) {o : Obj} (h : if Region.wanted ⟨some d, op, ty, pos, af, gd⟩ ys = true then Oper.wp P ⟨some d, op, ty, pos, af, gd⟩ a (wr.alloc o).drew K Q else E) : if Region.wanted ⟨some d, op, ty, pos, af, gd⟩ ys = true then Oper.wp P ⟨some d, op, ty, pos, af, gd⟩ a (wr.alloc o).drew K Q else E := h
theorem lguardD2 (d : Nat) (wr : World) (cs : Array Value) {t : TypeId} {o : Obj} (h : if Region.wanted ⟨some d, op, ty, pos, af, gd⟩ ys = true then Oper.wp P ⟨some d, op, ty, pos, af, gd⟩ a ((wr.alloc (.cells cs t)).alloc o).drew K Q else E) : if Region.wanted ⟨some d, op, ty, pos, af, gd⟩ ys = true then Oper.wp P ⟨some d, op, ty, pos, af, gd⟩ a ((wr.alloc (.cells cs t)).alloc o).drew K Q else E := h
theorem lbd1 (wr : World) (o : Obj) : Below wr.heap.size wr (wr.alloc o).drew := below_drewN ((Below.refl _ _).alloc (Nat.le_refl _) o) 1
theorem lbd2 (wr : World) (o o2 : Obj) : Below wr.heap.size wr ((wr.alloc o).alloc o2).drew := below_drewN (((Below.refl _ _).alloc (Nat.le_refl _) o).alloc (by simp) o2) 1
theorem lblkD1 (wr : World) (t : TypeId) (cs : Array Value) : Blk (wr.alloc (.cells cs t)).drew wr.heap.size t cs := (Blk.new wr t cs).drew
theorem lblkD2 (wr : World) (o : Obj) (t : TypeId) (cs : Array Value) : Blk ((wr.alloc (.cells cs t)).alloc o).drew wr.heap.size t cs := ((Blk.new wr t cs).alloc o).drew
theorem lblkD3 (wr : World) (o : Obj) (t : TypeId) (cs : Array Value) : Blk ((wr.alloc o).alloc (.cells cs t)).drew (wr.heap.size + 1) t cs := by
  have := (Blk.new (wr.alloc o) t cs).drew
  simpa using this
end
theorem lbset {wr w2 : World} {g : Nat} (h : Below wr.heap.size wr w2) (hg : wr.heap.size ≤ g) (v0 v1 v2 : Value) : Below wr.heap.size wr (((w2.setCell ⟨g, 0, none⟩ v0).setCell ⟨g, 1, none⟩ v1).setCell ⟨g, 2, none⟩ v2) := ((h.setCell (p := ⟨g, 0, none⟩) hg v0).setCell (p := ⟨g, 1, none⟩) hg v1).setCell (p := ⟨g, 2, none⟩) hg v2
theorem lown_sets {W : World} {B n size g : Nat} {e t : TypeId} {v : Value} {xs : List Value} {cs : Array Value} (h : W.ownsRow B e size v n xs) (hb : Blk W g t cs) (hne : e ≠ t) (v0 v1 v2 : Value) : (((W.setCell ⟨g, 0, none⟩ v0).setCell ⟨g, 1, none⟩ v1).setCell ⟨g, 2, none⟩ v2).ownsRow B e size v n xs :=
  owns_touch h ((((Touch.refl W (fun k => k = g)).set (p := ⟨g, 0, none⟩) (Or.inl rfl) v0).set (p := ⟨g, 1, none⟩) (Or.inl rfl) v1).set (p := ⟨g, 2, none⟩) (Or.inl rfl) v2) fun k hk e => by
    subst e
    exact owns_apart h hb hne hk
theorem lowns_reads {w : World} {base size n c : Nat} {e : TypeId} {A : Option Addr} {xs : List Value} (h : w.ownsRow base e size (.slice A n c) n xs) : Reads w w.heap.size size A n xs ∧ n ≤ c := by
  obtain ⟨A2, c2, e2, hc, hr⟩ := owns_cells h
  injection e2 with e2 _ e3
  subst e2
  subst e3
  exact ⟨hr, hc⟩
theorem lsy_app (a b : List Nat) : lsy (a ++ b) = lsy a ++ lsy b := by simp [lsy]
theorem lints_app (a b : List Int) : ints (a ++ b) = ints a ++ ints b := by simp [ints]
set_option maxRecDepth 100000 in
set_option maxHeartbeats 40000000 in
theorem lref_next_any (ok : Nat → Prop) (R leaves : List LTh) (A AL : Option Addr) (n c m d : Nat) (w : World) (hn : n ≤ 10000) (hc : n ≤ c) (hm : m ≤ 10000) (hd : m ≤ d) (hsy : ∀ x ∈ R, x.syms.length ≤ 1000000 ∧ 0 ≤ x.w ∧ x.w ≤ 1000000000000) (hok : ∀ b, w.heap.size ≤ b → ok b) (hR : LHRow w w.heap.size ok A n R) (hL : LHRow w w.heap.size ok AL m leaves) :
    Calls Try.prog 69 #[.slice A n c, .slice AL m d] w fun e w' => ∃ A' c', e = .returned (.slice A' (lnext R leaves).length c') ∧ (lnext R leaves).length ≤ c' ∧ LHRow w' w'.heap.size ok A' (lnext R leaves).length (lnext R leaves) ∧ Below w.heap.size w w' := by
  obtain ⟨j0, hj, hy0, hy1, hy2⟩ := info_parts lint_info
  obtain ⟨en, _, xs, hrx, hmx⟩ := hR
  obtain ⟨em, _, ys, hry, hmy⟩ := hL
  have Hcell : Hid (∀ k (hk : k < R.length), ∃ b off As cs, A = some ⟨b, off, none⟩ ∧ b < w.heap.size ∧ R[k].syms.length ≤ cs ∧ Reads w w.heap.size 1 As R[k].syms.length (ints (lsy R[k].syms)) ∧ ∀ W, Below w.heap.size w W → W.cell? ⟨b, off + k * 3, none⟩ = some (.int .i64 R[k].w) ∧ W.cell? ⟨b, off + k * 3 + 1, none⟩ = some (.slice As R[k].syms.length cs)) := Lib.hid fun k hk => by
    obtain ⟨As2, cs2, h1, h2, h3, h4, h5⟩ := hmx.at k hk
    obtain ⟨b, off, e, hb, hcell⟩ := hrx.2 (by omega)
    refine ⟨b, off, As2, cs2, e, hb, h4, h5.1, fun W hW => ⟨?_, ?_⟩⟩
    · exact (hW.cell (p := ⟨b, off + k * 3, none⟩) hb).trans (hcell _ _ h1)
    · exact (hW.cell (p := ⟨b, off + k * 3 + 1, none⟩) hb).trans (by rw [Nat.add_assoc]; exact hcell _ _ h2)
  have HLcell : Hid (∀ k (hk : k < leaves.length), ∃ b off As cs, AL = some ⟨b, off, none⟩ ∧ b < w.heap.size ∧ leaves[k].syms.length ≤ cs ∧ (Reads w w.heap.size 1 As leaves[k].syms.length (ints (lsy leaves[k].syms)) ∧ LOk ok As leaves[k].syms.length) ∧ ∀ W, Below w.heap.size w W → W.cell? ⟨b, off + k * 3, none⟩ = some (.int .i64 leaves[k].w) ∧ W.cell? ⟨b, off + k * 3 + 1, none⟩ = some (.slice As leaves[k].syms.length cs) ∧ W.cell? ⟨b, off + k * 3 + 2, none⟩ = some (.bool leaves[k].leaf)) := Lib.hid fun k hk => by
    obtain ⟨As2, cs2, h1, h2, h3, h4, h5⟩ := hmy.at k hk
    obtain ⟨b, off, e, hb, hcell⟩ := hry.2 (by omega)
    refine ⟨b, off, As2, cs2, e, hb, h4, h5, fun W hW => ⟨?_, ?_, ?_⟩⟩
    · exact (hW.cell (p := ⟨b, off + k * 3, none⟩) hb).trans (hcell _ _ h1)
    · exact (hW.cell (p := ⟨b, off + k * 3 + 1, none⟩) hb).trans (by rw [Nat.add_assoc]; exact hcell _ _ h2)
    · exact (hW.cell (p := ⟨b, off + k * 3 + 2, none⟩) hb).trans (by rw [Nat.add_assoc]; exact hcell _ _ h3)
  have Hsy := Lib.hid hsy
  have hni : (n : Int) ≤ 10000 ∧ (m : Int) ≤ 10000 := by omega
  have En := Lib.hid en
  have Em := Lib.hid em
  clear hrx hmx hry hmy hsy en em
  obtain ⟨T1, hT1⟩ : ∃ T1, (lpacks R).foldl lput [] = T1 := ⟨_, rfl⟩
  obtain ⟨T2, hT2⟩ : ∃ T2, lnext R leaves = T2 := ⟨_, rfl⟩
  have HT : Hid (leaves.foldl lput T1 = T2) := Lib.hid (by rw [← hT2, ← hT1]; rfl)
  have Hstart : Hid ((lpacks (R.drop 0)).foldl lput [] = T1) := Lib.hid hT1
  rw [hT2]
  clear hT1 hT2
  go_enter Try.func69, Try.ntmps69
  go_wp2
  go_loopw [5, 6] (fun v i wr => ∃ (k p cp : Nat) (Ap : Option Addr) (Rp : List LTh), k ≤ n + 1 ∧ p ≤ k ∧ p ≤ cp ∧ v = .slice Ap p cp ∧ i = .int .i64 k ∧ Hid ((lpacks (R.drop k)).foldl lput Rp = T1) ∧ Hid (LHRow wr wr.heap.size ok Ap p Rp) ∧ Hid (Below w.heap.size w wr)) (fun _ i _ => n + 1 - (intOf i).toNat)
  case atStart => exact ⟨0, 0, 0, none, [], by omega, by omega, by omega, rfl, rfl, Hstart.out, LHRow.nil _ _ _, Below.refl _ _⟩
  case round =>
    obtain ⟨k, p, cp, Ap, Rp, hk, hpk, hpc, rfl, rfl, Hf, HRp, Hb⟩ := hrel
    by_cases hlt : k + 1 < n
    · have hki : (0 : Int) ≤ (k : Int) ∧ (k : Int) + 1 < n ∧ (k : Int) < n := by omega
      have hk1 : k + 1 < R.length := by rw [En.out]; exact hlt
      have hk0 : k < R.length := by omega
      obtain ⟨b, off, As1, cs1, rfl, hb, hle1, hrs1, hcell1⟩ := Hcell.out k hk0
      obtain ⟨b', off', As2, cs2, e2, hb', hle2, hrs2, hcell2⟩ := Hcell.out (k + 1) hk1
      injection e2 with e2
      injection e2 with e3 e4
      subst e3
      subst e4
      obtain ⟨x1, x2⟩ := hcell1 wr Hb.out
      obtain ⟨x3, x4⟩ := hcell2 wr Hb.out
      have hsl1 := Hsy.out R[k] (List.getElem_mem hk0)
      have hsl2 := Hsy.out R[k + 1] (List.getElem_mem hk1)
      have hf := Hf.out
      rw [lpacks_two R k hk1, List.foldl_cons] at hf
      have Hf2 := Lib.hid hf
      have HSof : Hid (∀ W, Below wr.heap.size wr W → W.cell? ⟨b, off + k * 3, none⟩ = some (.int .i64 R[k].w) ∧ W.cell? ⟨b, off + k * 3 + 1, none⟩ = some (.slice As1 R[k].syms.length cs1) ∧ W.cell? ⟨b, off + (k + 1) * 3, none⟩ = some (.int .i64 R[k + 1].w) ∧ W.cell? ⟨b, off + (k + 1) * 3 + 1, none⟩ = some (.slice As2 R[k + 1].syms.length cs2)) := Lib.hid fun W hW => by
        have h1 := Hb.out.trans (hW.mono Hb.out.size)
        exact ⟨(hcell1 W h1).1, (hcell1 W h1).2, (hcell2 W h1).1, (hcell2 W h1).2⟩
      have Hrd1 : Hid (∀ W, Below wr.heap.size wr W → Reads W wr.heap.size 1 As1 R[k].syms.length (ints (lsy R[k].syms))) := Lib.hid fun W hW => (hrs1.below (Hb.out.trans (hW.mono Hb.out.size))).more Hb.out.size
      have Hrd2 : Hid (∀ W, Below wr.heap.size wr W → Reads W wr.heap.size 1 As2 R[k + 1].syms.length (ints (lsy R[k + 1].syms))) := Lib.hid fun W hW => (hrs2.below (Hb.out.trans (hW.mono Hb.out.size))).more Hb.out.size
      have hint : ∀ l : List Int, ∀ u ∈ ints l, u.oneCell' = true := fun l u hu => by
        obtain ⟨z, _, rfl⟩ := List.mem_map.1 hu
        rfl
      have Hone1 := Lib.hid (hint (lsy R[k].syms))
      have Hone2 := Lib.hid (hint (lsy R[k + 1].syms))
      clear hcell1 hcell2 hrs1 hrs2 hint hf Hf
      generalize hq1 : R[k] = q1 at *
      generalize hq2 : R[k + 1] = q2 at *
      clear hq1 hq2
      obtain ⟨k2, hk2⟩ : ∃ k2, k + 1 = k2 := ⟨_, rfl⟩
      have hsum : (k : Int) + 1 = (k2 : Int) := by omega
      have hwk : IntKind.i64.wrap ((k : Int) + 1) = (k2 : Int) := by rw [IntKind.wrap_i64]; omega
      have hwk2 : IntKind.i64.wrap (k2 : Int) = (k2 : Int) := by rw [IntKind.wrap_i64]; omega
      have hk2i : (0 : Int) ≤ (k2 : Int) ∧ (k2 : Int) < n := by omega
      rw [hk2] at x3 x4 HSof
      obtain ⟨a1, s1, l1⟩ := q1
      obtain ⟨a2, s2, l2⟩ := q2
      simp only at *
      generalize hns1 : s1.length = ns1 at *
      generalize hns2 : s2.length = ns2 at *
      have Hput : Hid (∀ W4 B2 d2, Below wr.heap.size wr W4 → W4.ownsRow wr.heap.size 3 1 (.slice B2 (ns1 + ns2) d2) (ns1 + ns2) (ints (lsy s1) ++ ints (lsy s2)) → Calls Try.prog 84 #[.slice Ap p cp, .agg #[.int .i64 (a1 + a2), .slice B2 (ns1 + ns2) d2, .bool false]] W4 fun e w' => ∃ A' c', e = .returned (.slice A' (p + 1) c') ∧ p + 1 ≤ c' ∧ LHRow w' w'.heap.size ok A' (p + 1) (lput Rp (lpack ⟨a1, s1, l1⟩ ⟨a2, s2, l2⟩)) ∧ Below w.heap.size w w') := Lib.hid fun W4 B2 d2 hb4 ho4 => by
        obtain ⟨hr4, hd4⟩ := lowns_reads ho4
        have hlen : (lpack ⟨a1, s1, l1⟩ ⟨a2, s2, l2⟩).syms.length = ns1 + ns2 := by show (s1 ++ s2).length = _; rw [List.length_append, hns1, hns2]
        have hsy4 : ints (lsy (lpack ⟨a1, s1, l1⟩ ⟨a2, s2, l2⟩).syms) = ints (lsy s1) ++ ints (lsy s2) := by show ints (lsy (s1 ++ s2)) = _; rw [lsy_app, lints_app]
        have := lref_put_any ok Rp (lpack ⟨a1, s1, l1⟩ ⟨a2, s2, l2⟩) Ap B2 p cp d2 W4 (by omega) hpc (fun b hb2 => hok b (Nat.le_trans (Nat.le_trans Hb.out.size hb4.size) hb2)) ((HRp.out.below hb4).more hb4.size) (by rw [hlen]; exact hd4) (by rw [hlen, hsy4]; exact ⟨hr4, lok_own ho4 fun b hb2 => hok b (Nat.le_trans Hb.out.size hb2)⟩)
        rw [hlen] at this
        refine this.mono ?_
        rintro e w' ⟨A', c', rfl, h1, h2, h3⟩
        exact ⟨A', c', rfl, h1, h2, (Hb.out.trans (hb4.mono Hb.out.size)).trans (h3.mono (Nat.le_trans Hb.out.size hb4.size))⟩
      have hws : IntKind.i64.wrap (a1 + a2) = a1 + a2 := by rw [IntKind.wrap_i64]; omega
      go_wp2
      go_region_held3 (fun w' => w'.cell? ⟨b, off + k * 3, none⟩ = some (.int .i64 a1) ∧ w'.cell? ⟨b, off + k * 3 + 1, none⟩ = some (.slice As1 ns1 cs1) ∧ w'.cell? ⟨b, off + k2 * 3, none⟩ = some (.int .i64 a2) ∧ w'.cell? ⟨b, off + k2 * 3 + 1, none⟩ = some (.slice As2 ns2 cs2)) (first | go_keep | exact hS1 | exact hS2 _ _ _) (first
        | (((with_reducible refine lguardD1 34 wr ?_); refine lstep_append (by rfl) (.tmp 28) (.tmp 33) 22 (by rfl) wr.heap.size 3 j0 _ 1 8 Try.underlying22 hj hy0 hy1 hy2 rfl (by decide) (.slice (some ⟨wr.heap.size, 0, none⟩) 0 0) (0) ([]) (by rfl) (lown_empty (lblkD1 wr _ _) (by omega)) (As1) (ns1) (cs1) (wr.heap.size) (ints (lsy s1)) (by rfl) (Hrd1.out _ (lbd1 wr _)) (Hone1.out) (by unfold maxLen; omega) (by omega) (by simp) (ns1) (Nat.zero_add ns1) ?_; intro B1 d1 w1 hown1 hgrow1 _; have Hb1 : Hid (Below wr.heap.size wr w1) := Lib.hid (Below.grown (lbd1 wr _) hgrow1 (by simp) (fun g hg => by injection hg with hg; simp at hg; omega)); have hS1 := HSof.out w1 Hb1.out; have HZ1 : Hid True := Lib.hid trivial; have Hown1 := Lib.hid (show w1.ownsRow wr.heap.size 3 1 (.slice B1 ns1 d1) ns1 (ints (lsy s1)) by simpa using hown1); clear hown1 hgrow1))
        | (((with_reducible refine lguardD2 34 wr #[] ?_); refine lstep_append (by rfl) (.tmp 28) (.tmp 33) 22 (by rfl) wr.heap.size 3 j0 _ 1 8 Try.underlying22 hj hy0 hy1 hy2 rfl (by decide) (.slice (some ⟨wr.heap.size, 0, none⟩) 0 0) (0) ([]) (by rfl) (lown_empty (lblkD2 wr _ _ _) (by omega)) (As1) (ns1) (cs1) (wr.heap.size) (ints (lsy s1)) (by rfl) (Hrd1.out _ (lbd2 wr _ _)) (Hone1.out) (by unfold maxLen; omega) (by omega) (by simp; omega) (ns1) (Nat.zero_add ns1) ?_; intro B1 d1 w1 hown1 hgrow1 _; have Hb1 : Hid (Below wr.heap.size wr w1) := Lib.hid (Below.grown (lbd2 wr _ _) hgrow1 (by simp; omega) (fun g hg => by injection hg with hg; simp at hg; omega)); have hS1 := HSof.out w1 Hb1.out; have HZ1 : Hid (Blk w1 (wr.heap.size + 1) 105 #[.int .i64 0, .slice none 0 0, .bool false]) := Lib.hid (Blk.grow' (lblkD3 wr _ _ _) hgrow1 (by intro h; injection h with h; simp at h)); have HG1 := Lib.hid (show wr.heap.size ≤ wr.heap.size + 1 from Nat.le_succ _); have Hown1 := Lib.hid (show w1.ownsRow wr.heap.size 3 1 (.slice B1 ns1 d1) ns1 (ints (lsy s1)) by simpa using hown1); clear hown1 hgrow1))
        | (((with_reducible refine lguardD2 34 wr #[.int .i64 0, .slice none 0 0, .bool false] ?_); refine lstep_append (by rfl) (.tmp 28) (.tmp 33) 22 (by rfl) wr.heap.size 3 j0 _ 1 8 Try.underlying22 hj hy0 hy1 hy2 rfl (by decide) (.slice (some ⟨wr.heap.size + 1, 0, none⟩) 0 0) (0) ([]) (by rfl) (lown_empty (lblkD3 wr _ _ _) (by omega)) (As1) (ns1) (cs1) (wr.heap.size) (ints (lsy s1)) (by rfl) (Hrd1.out _ (lbd2 wr _ _)) (Hone1.out) (by unfold maxLen; omega) (by omega) (by simp; omega) (ns1) (Nat.zero_add ns1) ?_; intro B1 d1 w1 hown1 hgrow1 _; have Hb1 : Hid (Below wr.heap.size wr w1) := Lib.hid (Below.grown (lbd2 wr _ _) hgrow1 (by simp; omega) (fun g hg => by injection hg with hg; simp at hg; omega)); have hS1 := HSof.out w1 Hb1.out; have HZ1 : Hid (Blk w1 (wr.heap.size) 105 #[.int .i64 0, .slice none 0 0, .bool false]) := Lib.hid (Blk.grow' (lblkD2 wr _ _ _) hgrow1 (by intro h; injection h with h; simp at h)); have HG1 := Lib.hid (show wr.heap.size ≤ wr.heap.size from Nat.le_refl _); have Hown1 := Lib.hid (show w1.ownsRow wr.heap.size 3 1 (.slice B1 ns1 d1) ns1 (ints (lsy s1)) by simpa using hown1); clear hown1 hgrow1))
        | (((with_reducible refine lguard3 41 w1 ?_); refine lstep_append (by rfl) (.tmp 34) (.tmp 40) 22 (by rfl) wr.heap.size 3 j0 _ 1 8 Try.underlying22 hj hy0 hy1 hy2 rfl (by decide) (.slice B1 ns1 d1) (ns1) (ints (lsy s1)) (by rfl) (Hown1.out.alloc _) (As2) (ns2) (cs2) (wr.heap.size) (ints (lsy s2)) (by rfl) (Hrd2.out _ (Hb1.out.alloc Hb1.out.size _)) (Hone2.out) (by unfold maxLen; omega) (by omega) (by have := Hb1.out.size; simp; omega) (ns1 + ns2) (rfl) ?_; intro B2 d2 w2 hown2 hgrow2 _; have Hb2 : Hid (Below wr.heap.size wr w2) := Lib.hid (Below.grown (Hb1.out.alloc Hb1.out.size _) hgrow2 (by have := Hb1.out.size; simp; omega) (fun g hg => (Hown1.out.lt g hg).1)); have hS1 := HSof.out w2 Hb2.out; have HZ2 : Hid (Blk w2 w1.heap.size 105 #[.int .i64 0, .slice none 0 0, .bool false]) := Lib.hid (Blk.grow' (Blk.new _ _ _) hgrow2 (fun h => lnot_own Hown1.out h)); have z0 := HZ2.out.cell 0; have z1 := HZ2.out.cell 1; have z2 := HZ2.out.cell 2; have zf0 := HZ2.out.frozen 0; have zf1 := HZ2.out.frozen 1; have zf2 := HZ2.out.frozen 2; have hS2 := fun v0 v1 v2 => HSof.out _ (lbset Hb2.out Hb1.out.size v0 v1 v2); have Hown2 := Lib.hid (show w2.ownsRow wr.heap.size 3 1 (.slice B2 (ns1 + ns2) d2) (ns1 + ns2) (ints (lsy s1) ++ ints (lsy s2)) by simpa using hown2); clear hown2 hgrow2; have hO2 := fun v0 v1 v2 => lown_sets Hown2.out HZ2.out (by decide) v0 v1 v2; have hBs := fun v0 v1 v2 => lbset Hb2.out Hb1.out.size v0 v1 v2))
        | (((with_reducible refine lguard 41 ?_); have HZ0 := lisblk HZ1.out; refine lstep_append (by rfl) (.tmp 34) (.tmp 40) 22 (by rfl) wr.heap.size 3 j0 _ 1 8 Try.underlying22 hj hy0 hy1 hy2 rfl (by decide) (.slice B1 ns1 d1) (ns1) (ints (lsy s1)) (by rfl) (Hown1.out) (As2) (ns2) (cs2) (wr.heap.size) (ints (lsy s2)) (by rfl) (Hrd2.out _ (Hb1.out)) (Hone2.out) (by unfold maxLen; omega) (by omega) (Hb1.out.size) (ns1 + ns2) (rfl) ?_; intro B2 d2 w2 hown2 hgrow2 _; have Hb2 : Hid (Below wr.heap.size wr w2) := Lib.hid (Below.grown (Hb1.out) hgrow2 (by have := Hb1.out.size; simp; omega) (fun g hg => (Hown1.out.lt g hg).1)); have hS1 := HSof.out w2 Hb2.out; have HZ2 := Lib.hid (Blk.grow' HZ0 hgrow2 (lnot_blk Hown1.out HZ0 (by decide))); have z0 := HZ2.out.cell 0; have z1 := HZ2.out.cell 1; have z2 := HZ2.out.cell 2; have zf0 := HZ2.out.frozen 0; have zf1 := HZ2.out.frozen 1; have zf2 := HZ2.out.frozen 2; have hS2 := fun v0 v1 v2 => HSof.out _ (lbset Hb2.out HG1.out v0 v1 v2); have Hown2 := Lib.hid (show w2.ownsRow wr.heap.size 3 1 (.slice B2 (ns1 + ns2) d2) (ns1 + ns2) (ints (lsy s1) ++ ints (lsy s2)) by simpa using hown2); clear hown2 hgrow2; have hO2 := fun v0 v1 v2 => lown_sets Hown2.out HZ2.out (by decide) v0 v1 v2; have hBs := fun v0 v1 v2 => lbset Hb2.out HG1.out v0 v1 v2))
        | (((with_reducible refine lguard 41 ?_); refine lstep_append (by rfl) (.tmp 34) (.tmp 40) 22 (by rfl) wr.heap.size 3 j0 _ 1 8 Try.underlying22 hj hy0 hy1 hy2 rfl (by decide) (.slice B1 ns1 d1) (ns1) (ints (lsy s1)) (by rfl) (Hown1.out) (As2) (ns2) (cs2) (wr.heap.size) (ints (lsy s2)) (by rfl) (Hrd2.out _ (Hb1.out)) (Hone2.out) (by unfold maxLen; omega) (by omega) (Hb1.out.size) (ns1 + ns2) (rfl) ?_; intro B2 d2 w2 hown2 hgrow2 _; have Hb2 : Hid (Below wr.heap.size wr w2) := Lib.hid (Below.grown (Hb1.out) hgrow2 (by have := Hb1.out.size; simp; omega) (fun g hg => (Hown1.out.lt g hg).1)); have hS1 := HSof.out w2 Hb2.out; have Hown2 := Lib.hid (show w2.ownsRow wr.heap.size 3 1 (.slice B2 (ns1 + ns2) d2) (ns1 + ns2) (ints (lsy s1) ++ ints (lsy s2)) by simpa using hown2); clear hown2 hgrow2))
        | fail)
      all_goals go_wp2_with (go_at_call 84; refine (Hput.out _ _ _ (by first | exact Hb2.out.alloc Hb2.out.size _ | exact hBs _ _ _) (by first | exact Hown2.out.alloc _ | exact hO2 _ _ _)).mono ?_; rintro e w5 ⟨A5, c5, rfl, hc5, hR5, hb5⟩; have Hc5 := Lib.hid hc5; have HR5 := Lib.hid hR5; have Hb5 := Lib.hid hb5; clear hc5 hR5 hb5)
      all_goals go_roundw
      all_goals (first | exact ⟨k + 2, p + 1, c5, A5, _, by omega, by omega, Hc5.out, rfl, iv (by omega), Hf2.out, HR5.out, Hb5.out⟩ | (simp only [intOf]; omega))
    · have hf := Hf.out
      rw [lpacks_few R k (by have := En.out; omega)] at hf
      have hf2 : Rp = T1 := hf
      subst hf2
      have hnk : (n : Int) ≤ (k : Int) + 1 := by omega
      have HT2 : Hid ((leaves.drop 0).foldl lput Rp = T2) := HT
      have hp0 : p ≤ 10001 := by omega
      clear hf Hf
      go_wp2
      go_loopw [5, 8] (fun v i W => ∃ (q p2 cp2 : Nat) (Ap2 : Option Addr) (Rp2 : List LTh), q ≤ m ∧ p2 ≤ 10001 + q ∧ p2 ≤ cp2 ∧ v = .slice Ap2 p2 cp2 ∧ i = .int .i64 q ∧ Hid ((leaves.drop q).foldl lput Rp2 = T2) ∧ Hid (LHRow W W.heap.size ok Ap2 p2 Rp2) ∧ Hid (Below w.heap.size w W)) (fun _ i _ => m - (intOf i).toNat)
      case atStart => exact ⟨0, p, cp, Ap, Rp, by omega, by omega, hpc, rfl, rfl, HT2.out, HRp.out, Hb.out⟩
      case round =>
        obtain ⟨q, p2, cp2, Ap2, Rp2, hq, hp2, hpc2, rfl, rfl, Hf, HR2, Hb2⟩ := hrel
        by_cases hlq : q < m
        · have hqi : (0 : Int) ≤ (q : Int) ∧ (q : Int) < m := by omega
          have hql : q < leaves.length := by rw [Em.out]; exact hlq
          obtain ⟨b, off, As, cs, rfl, hb, hcs, hrs, hcell⟩ := HLcell.out q hql
          obtain ⟨x1, x2, x3⟩ := hcell _ Hb2.out
          have hf := Hf.out
          rw [List.drop_eq_getElem_cons hql, List.foldl_cons] at hf
          have Hf2 := Lib.hid hf
          have hput := fun W (hb4 : Below w.heap.size w W) (hR4 : LHRow W W.heap.size ok Ap2 p2 Rp2) => lref_put_any ok Rp2 leaves[q] Ap2 As p2 cp2 cs W (by omega) hpc2 (fun b hb2 => hok b (Nat.le_trans hb4.size hb2)) hR4 hcs ⟨(hrs.1.below hb4).more hb4.size, hrs.2⟩
          have Hput := Lib.hid hput
          clear hcell hrs hf hput Hf
          generalize leaves[q] = y at *
          generalize hns : y.syms.length = ns at *
          generalize hyw : y.w = yw at *
          generalize hyl : y.leaf = yl at *
          go_wp2_with (go_at_call 84; refine (Hput.out _ Hb2.out HR2.out).mono ?_; rintro e w5 ⟨A5, c5, rfl, hc5, hR5, hb5⟩; have Hc5 := Lib.hid hc5; have HR5 := Lib.hid hR5; have Hb5 := Lib.hid (Hb2.out.trans (hb5.mono Hb2.out.size)); clear hc5 hR5 hb5)
          go_roundw
          case rel => exact ⟨q + 1, p2 + 1, c5, A5, _, by omega, by omega, Hc5.out, rfl, iv (by omega), Hf2.out, HR5.out, Hb5.out⟩
          case measure => simp only [intOf]; omega
        · obtain rfl : q = m := by omega
          have hf := Hf.out
          rw [List.drop_of_length_le (by rw [Em.out]; exact Nat.le_refl _)] at hf
          have hf2 : Rp2 = T2 := hf
          subst hf2
          have hlen := HR2.out.1
          subst hlen
          clear hf Hf
          go_wp2
          go_ret
          exact ⟨Ap2, cp2, rfl, hpc2, HR2.out, Hb2.out⟩
end Go.Proofs.Ytpocpckhcciecaa
