/-
  What the law of the last of these texts stands on, part 30.
-/
import Derived.Test.YtpocpckhcciecaaRows
import Derived.Test.YtpocpckhcciecaaMg01
import Derived.Test.YtpocpckhcciecaaMg02
import Derived.Test.YtpocpckhcciecaaMg03
import Derived.Test.YtpocpckhcciecaaMg04
import Derived.Test.YtpocpckhcciecaaMg05
import Derived.Test.YtpocpckhcciecaaMg06
import Derived.Test.YtpocpckhcciecaaMg07
import Derived.Test.YtpocpckhcciecaaMg08
import Derived.Test.YtpocpckhcciecaaMg10
import Derived.Test.YtpocpckhcciecaaMg23
import Derived.Test.YtpocpckhcciecaaMg24
import Derived.Test.YtpocpckhcciecaaMg25
import Derived.Test.YtpocpckhcciecaaMg26
import Derived.Test.YtpocpckhcciecaaMg27
import Derived.Test.YtpocpckhcciecaaMg28
import Derived.Test.YtpocpckhcciecaaMg29
import Derived.WalkKit
import Derived.WalkSpells
import Derived.WalkLawsBesides
import Derived.ProofKit
import Derived.OpenShut
import Derived.Handy
import Derived.SizedLaws
import Derived.JoinedOf
import Derived.KernelRfl
import Derived.Lib.Hide
import Derived.Lib.SmallJoins
import Derived.Deep.Slices
import Derived.Deep.Fields
import Derived.Deep.SlicePairs
import Derived.Deep.Draws
import Derived.Deep.AppendLies
import Derived.Deep.QuietTactic
import Derived.BigQuiet
import Derived.Deep.RegionHeld3
import Derived.StillTailTactics
import Derived.Laws.OwnMore
import Derived.Laws.Rows
import Derived.Below
import Derived.Carry
import Derived.WalkMore
import Derived.Laws.BytesString
import Derived.Laws.BitsLemmas
import Derived.Laws.Concat
import Derived.Shelf.Spec.SlicesGrow
import Derived.Lib.OwnBridge
import Derived.Shelf.SlSorted.Search
import Derived.Deep.RegionWith
import Derived.Deep.Upon
import Derived.Sort.WalkB2
import Derived.Sort.WalkB12
import Derived.Deep.LoopGhost
import Derived.Shelf.SlSortCmp.KitK
import Derived.Deep.RegionLaw
namespace Go.Proofs.Ytpocpckhcciecaa
set_option linter.unusedSimpArgs false
set_option linter.unusedVariables false
open Go.ChangeShapes Go.WideShapes Go.ChangeAt Go.RowKit Go.Joins Go.Deep Go.Shelf
/-- A slice of things that reads so. -/
def PRow (ok : Nat → Prop) (W : World) (B : Nat) (A : Option Addr) (n : Nat) (E : List PEl) : Prop := E.length = n ∧ Reads W B 2 A n (pcells E) ∧ (∀ x ∈ E, POk ok W B x) ∧ LOk ok A n
section
variable {ok okx : Nat → Prop} {W W' : World} {B B' n : Nat} {A : Option Addr} {E : List PEl}
theorem PRow.below (h : PRow ok W B A n E) (hb : Below B W W') : PRow ok W' B A n E := ⟨h.1, h.2.1.below hb, fun x hx => (h.2.2.1 x hx).below hb, h.2.2.2⟩
theorem PRow.more (h : PRow ok W B A n E) (hB : B ≤ B') : PRow ok W B' A n E := ⟨h.1, h.2.1.more hB, fun x hx => (h.2.2.1 x hx).more hB, h.2.2.2⟩
theorem PRow.okto (h : PRow ok W B A n E) (hk : ∀ b, b < B → okx b) : PRow okx W B A n E := by
  refine ⟨h.1, h.2.1, fun x hx => (h.2.2.1 x hx).ok' hk, fun hp => ?_⟩
  obtain ⟨b, off, e, hb, _⟩ := h.2.1.2 hp
  exact ⟨b, off, e, hk b hb⟩
end
def pth (E : List PEl) : List LTh := E.map (·.th)
theorem lpacks_step (E : List PEl) (q : Nat) (h : 2 * q + 1 < E.length) : lpacks (pth (E.drop (2 * q))) = lpack E[2 * q].th E[2 * q + 1].th :: lpacks (pth (E.drop (2 * (q + 1)))) := by
  rw [List.drop_eq_getElem_cons (show 2 * q < E.length by omega), List.drop_eq_getElem_cons (show 2 * q + 1 < E.length by omega)]
  rfl
theorem lpacks_done (E : List PEl) (q : Nat) (h : ¬ 2 * q + 1 < E.length) : lpacks (pth (E.drop (2 * q))) = [] := by
  have hl : (E.drop (2 * q)).length ≤ 1 := by rw [List.length_drop]; omega
  generalize E.drop (2 * q) = L at hl
  match L, hl with
  | [], _ => rfl
  | [x], _ => rfl
/-- Weights and symbols within bounds. -/
def PFit (x : PEl) : Prop := x.th.syms.length ≤ 400000 ∧ 0 ≤ x.th.w ∧ x.th.w ≤ 100000000000
theorem pthing_info : (Try.prog.info? 65).map (fun i => (i.zero, i.size, i.bytes)) = some (some (.agg #[.int .i64 0, .slice none 0 0]), 2, 32) := by kernel_rfl
theorem pcell_row {W : World} {B n : Nat} {A : Option Addr} {E : List PEl} (h : Reads W B 2 A n (pcells E)) (hE : E.length = n) (hn : 0 < n) : ∃ b off, A = some ⟨b, off, none⟩ ∧ b < B ∧ ∀ i (hi : i < E.length), W.cell? ⟨b, off + i * 2, none⟩ = some (.int .i64 E[i].th.w) ∧ W.cell? ⟨b, off + i * 2 + 1, none⟩ = some (.slice E[i].A E[i].th.syms.length E[i].c) := by
  obtain ⟨b, off, e, hb, hc⟩ := h.2 hn
  refine ⟨b, off, e, hb, fun i hi => ?_⟩
  obtain ⟨g1, g2⟩ := pcells_get E i hi
  exact ⟨hc _ _ g1, by rw [Nat.add_assoc]; exact hc _ _ g2⟩
theorem POk.alloc' {ok : Nat → Prop} {W : World} {B : Nat} {x : PEl} (h : POk ok W B x) (o : Obj) (hB : B ≤ W.heap.size) : POk ok (W.alloc o) B x := h.below ((Below.refl _ _).alloc hB o)
theorem pone_two {a : Int} {A : Option Addr} {n c : Nat} : ∀ u ∈ [Value.int .i64 a, Value.slice A n c], u.oneCell' = true := by
  intro u hu
  simp only [List.mem_cons, List.not_mem_nil, or_false] at hu
  rcases hu with rfl | rfl <;> rfl
theorem pafter {w wr w5 w6 : World} {o : Obj} {e : TypeId} {size n : Nat} {v : Value} {xs : List Value} (h1 : Below w.heap.size w wr) (h2 : Below wr.heap.size wr w5) (h3 : (w5.alloc o).ownsRow w.heap.size e size v n xs) (h4 : (w5.alloc o).grownBy w6 v.ownBlock) : Below w.heap.size w w6 := by
  have h5 : Below w.heap.size w (w5.alloc o) := (h1.trans (h2.mono h1.size)).alloc (Nat.le_trans h1.size h2.size) o
  exact h5.trans (own_below h3 h4 h5.size)
set_option maxRecDepth 100000 in
set_option maxHeartbeats 8000000 in
theorem packages_any (ok : Nat → Prop) (E : List PEl) (A : Option Addr) (n c : Nat) (w : World) (hok : ∀ b, w.heap.size ≤ b → ok b) (hr : PRow ok w w.heap.size A n E) (hn : n ≤ 100000) (hf : ∀ x ∈ E, PFit x) :
    Calls Try.prog 62 #[.slice A n c] w fun e w' => ∃ (Ep : List PEl) (A' : Option Addr) (c' : Nat), e = .returned (.slice A' Ep.length c') ∧ Ep.length ≤ c' ∧ pth Ep = lpacks (pth E) ∧ PRow ok w' w'.heap.size A' Ep.length Ep ∧ Below w.heap.size w w' := by
  obtain ⟨j0, hj, hy0, hy1, hy2⟩ : ∃ i0, Try.prog.info? 65 = some i0 ∧ i0.zero = some (.agg #[.int .i64 0, .slice none 0 0]) ∧ i0.size = 2 ∧ i0.bytes = 32 := by
    have h := pthing_info
    cases hi : Try.prog.info? 65 with
    | none => rw [hi] at h; cases h
    | some i0 =>
      rw [hi] at h
      simp only [Option.map_some, Option.some.injEq, Prod.mk.injEq] at h
      exact ⟨i0, rfl, h.1, h.2.1, h.2.2⟩
  obtain ⟨hE, hrd, hok2, _⟩ := hr
  have En := Lib.hid hE
  have Hcell : Hid (0 < n → ∃ b off, A = some ⟨b, off, none⟩ ∧ ∀ wr, Below w.heap.size w wr → ∀ i (hi : i < E.length), wr.cell? ⟨b, off + i * 2, none⟩ = some (.int .i64 E[i].th.w) ∧ wr.cell? ⟨b, off + i * 2 + 1, none⟩ = some (.slice E[i].A E[i].th.syms.length E[i].c)) := Lib.hid fun h => by
    obtain ⟨b, off, e, hb, hc⟩ := pcell_row hrd hE h
    exact ⟨b, off, e, fun wr hw i hi => ⟨(hw.cell (p := ⟨b, off + i * 2, none⟩) hb).trans (hc i hi).1, (hw.cell (p := ⟨b, off + i * 2 + 1, none⟩) hb).trans (hc i hi).2⟩⟩
  have Hwith := Lib.hid fun (i j : Nat) (hi : i < E.length) (hj : j < E.length) (W : World) (hW : Below w.heap.size w W) => with_any ok E[i] E[j] w.heap.size W hW.size (fun b hb => hok b (Nat.le_trans hW.size hb)) ((hok2 _ (List.getElem_mem hi)).below hW) ((hok2 _ (List.getElem_mem hj)).below hW) (by have := (hf _ (List.getElem_mem hi)).1; have := (hf _ (List.getElem_mem hj)).1; omega) (by have := (hf _ (List.getElem_mem hi)).2; omega) (by have := (hf _ (List.getElem_mem hj)).2; omega)
  have Hstep := Lib.hid fun q (h : 2 * q + 1 < E.length) => lpacks_step E q h
  have Hdone := Lib.hid fun q (h : ¬ 2 * q + 1 < E.length) => lpacks_done E q h
  have Hst : Hid (pth [] ++ lpacks (pth (E.drop (2 * 0))) = lpacks (pth E)) := Lib.hid rfl
  have hni : (n : Int) ≤ 100000 := by omega
  have Hok := Lib.hid hok
  clear hE hrd hok hok2 hf
  generalize lpacks (pth E) = T at *
  go_enter Try.func62, Try.ntmps62
  go_wp2
  go_loopw [3, 4] (fun v i wr => ∃ (q cp : Nat) (Ap : Option Addr) (Ep : List PEl), 2 * q ≤ n ∧ Ep.length = q ∧ v = .slice Ap q cp ∧ i = .int .i64 ((2 * q + 1 : Nat) : Int) ∧ Hid (pth Ep ++ lpacks (pth (E.drop (2 * q))) = T) ∧ Hid (wr.ownsRow w.heap.size 65 2 (.slice Ap q cp) q (pcells Ep)) ∧ Hid (∀ x ∈ Ep, POk ok wr wr.heap.size x) ∧ Hid (Below w.heap.size w wr)) (fun _ i _ => n + 1 - (intOf i).toNat)
  case atStart => exact ⟨0, 0, none, [], by omega, rfl, rfl, rfl, Hst, ⟨rfl, Or.inl ⟨rfl, rfl⟩⟩, Lib.hid (fun x hx => absurd hx (by simp)), Below.refl _ _⟩
  case round =>
    obtain ⟨q, cp, Ap, Ep, hq, hEp, rfl, rfl, HT, HO, HP, HB⟩ := hrel
    by_cases hlt : 2 * q + 1 < n
    · have hlz : ((2 * q + 1 : Nat) : Int) < (n : Int) := by omega
      obtain ⟨k0, hk0⟩ : ∃ k0, 2 * q = k0 := ⟨_, rfl⟩
      obtain ⟨k1, hk1⟩ : ∃ k1, 2 * q + 1 = k1 := ⟨_, rfl⟩
      have hk0l : k0 < E.length := by rw [En.out]; omega
      have hk1l : k1 < E.length := by rw [En.out]; omega
      obtain ⟨b, off, rfl, hcell⟩ := Hcell.out (by omega)
      have HS := Lib.hid fun wr hw => (⟨(hcell wr hw k0 hk0l).1, (hcell wr hw k0 hk0l).2, (hcell wr hw k1 hk1l).1, (hcell wr hw k1 hk1l).2⟩ : _ ∧ _ ∧ _ ∧ _)
      have Hw := Lib.hid fun W hW => Hwith.out k0 k1 hk0l hk1l W hW
      have hT := HT.out
      have hT3 : lpacks (pth (E.drop (2 * q))) = lpack E[k0].th E[k1].th :: lpacks (pth (E.drop (2 * (q + 1)))) := by subst hk0 hk1; exact Hstep.out q hk1l
      rw [hT3] at hT
      have HT2 : Hid (∀ x : PEl, x.th = lpack E[k0].th E[k1].th → pth (Ep ++ [x]) ++ lpacks (pth (E.drop (2 * (q + 1)))) = T) := Lib.hid fun x hx => by rw [← hT, ← hx]; simp [pth]
      clear hcell hT hT3 HT
      generalize E[k0] = x0 at *
      generalize E[k1] = x1 at *
      rw [hk1] at hlz ⊢
      have hkz : (k1 : Int) - 1 = (k0 : Int) := by omega
      have hkw : IntKind.i64.wrap ((k1 : Int) - 1) = (k0 : Int) := by rw [IntKind.wrap_i64]; omega
      have hkw0 : IntKind.i64.wrap (k0 : Int) = (k0 : Int) := by rw [IntKind.wrap_i64]; omega
      have hkb : (0 : Int) ≤ (k0 : Int) ∧ (k0 : Int) < (n : Int) := by omega
      have hkb1 : (0 : Int) ≤ (k1 : Int) ∧ (k1 : Int) < (n : Int) := by omega
      obtain ⟨NS, hNS⟩ : ∃ NS, (lpack x0.th x1.th).syms.length = NS := ⟨_, rfl⟩
      have Hcall : Hid (Calls Try.prog 81 #[.agg #[.int .i64 x0.th.w, .slice x0.A x0.th.syms.length x0.c], .agg #[.int .i64 x1.th.w, .slice x1.A x1.th.syms.length x1.c]] wr.drew fun e w' => ∃ A' c', e = .returned (.agg #[.int .i64 (x0.th.w + x1.th.w), .slice A' NS c']) ∧ Hid (POk ok w' w'.heap.size ⟨lpack x0.th x1.th, A', c', 0⟩) ∧ Below wr.heap.size wr w') := Lib.hid (by
        refine (Hw.out wr.drew HB.out.drew).mono ?_
        rintro e w' ⟨A', c', rfl, h1, h2⟩
        exact ⟨A', c', by rw [← hNS]; rfl, h1, (Below.refl wr.heap.size wr).drew.trans h2⟩)
      have HNS := Lib.hid hNS
      clear Hw hNS
      generalize x0.th.syms.length = ns0 at *
      generalize x1.th.syms.length = ns1 at *
      have HOw := Lib.hid fun (W : World) (hW : Below wr.heap.size wr W) (o : Obj) => (owns_below HO.out hW (Nat.le_refl _)).alloc o
      have hq63 : q ≤ 100000 := by omega
      go_wp2
      have HS0 := HS.out wr.drew HB.out.drew
      go_region_held3 (fun w' => w'.cell? ⟨b, off + k0 * 2, none⟩ = some (.int .i64 x0.th.w) ∧ w'.cell? ⟨b, off + k0 * 2 + 1, none⟩ = some (.slice x0.A ns0 x0.c) ∧ w'.cell? ⟨b, off + k1 * 2, none⟩ = some (.int .i64 x1.th.w) ∧ w'.cell? ⟨b, off + k1 * 2 + 1, none⟩ = some (.slice x1.A ns1 x1.c)) (first | go_keep | exact hS1 | exact hS2 _ | exact hS3) (first
        | (go_at_call 81; refine Hcall.out.mono ?_; rintro e w5 ⟨A5, c5, rfl, HP5, hb5⟩; have Hb5 := Lib.hid hb5; have hS1 := HS.out w5 (HB.out.trans (hb5.mono HB.out.size)); have hS2 := fun o => HS.out (w5.alloc o) ((HB.out.trans (hb5.mono HB.out.size)).alloc (Nat.le_trans HB.out.size hb5.size) o); clear hb5)
        | (refine lstep_append (by rfl) (.tmp 11) (.tmp 22) 60 (by rfl) w.heap.size 65 j0 _ 2 32 Try.underlying60 hj hy0 hy1 hy2 rfl (by decide) (.slice Ap q cp) q (pcells Ep) (by rfl) (HOw.out w5 Hb5.out _) (some ⟨w5.heap.size, 0, none⟩) 1 1 _ [.int .i64 (x0.th.w + x1.th.w), .slice A5 NS c5] (by rfl) (reads_new w5 65 #[.int .i64 (x0.th.w + x1.th.w), .slice A5 NS c5] 2 1 rfl) pone_two (by unfold maxLen; omega) (by omega) (by rw [World.size_alloc]; exact Nat.le_succ_of_le (Nat.le_trans HB.out.size Hb5.out.size)) (q + 1) rfl ?_; intro A6 c6 w6 hO6 hg6 _; have HO6 := Lib.hid hO6; have HG6 := Lib.hid hg6; have hS3 := HS.out w6 (pafter HB.out Hb5.out (HOw.out w5 Hb5.out _) hg6); clear hO6 hg6)
        | fail)
      have HB6 := Lib.hid (pafter HB.out Hb5.out (HOw.out w5 Hb5.out _) HG6.out)
      have HP6 : Hid (∀ x ∈ Ep ++ [⟨lpack x0.th x1.th, A5, c5, 0⟩], POk ok w6 w6.heap.size x) := Lib.hid fun x hx => by
        have hsz := HG6.out.size
        rw [World.size_alloc] at hsz
        have hs5 := Hb5.out.size
        rcases List.mem_append.1 hx with hx | hx
        · have h1 := ((HP.out x hx).below Hb5.out).alloc' (.cells #[.int .i64 (x0.th.w + x1.th.w), .slice A5 NS c5] 65) hs5
          exact (h1.grown (by rw [World.size_alloc]; omega) (HOw.out w5 Hb5.out _) HG6.out).more (by omega)
        · rw [List.mem_singleton.1 hx]
          have h1 := HP5.out.alloc' (.cells #[.int .i64 (x0.th.w + x1.th.w), .slice A5 NS c5] 65) (Nat.le_refl _)
          exact (h1.grown (by rw [World.size_alloc]; omega) (HOw.out w5 Hb5.out _) HG6.out).more (by omega)
      have HO7 : Hid (w6.ownsRow w.heap.size 65 2 (.slice A6 (q + 1) c6) (q + 1) (pcells (Ep ++ [⟨lpack x0.th x1.th, A5, c5, 0⟩]))) := Lib.hid (by
        rw [pcells_app, show pcells [(⟨lpack x0.th x1.th, A5, c5, 0⟩ : PEl)] = [.int .i64 (x0.th.w + x1.th.w), .slice A5 NS c5] from by rw [← HNS.out]; rfl]
        exact HO6.out)
      have HT6 := Lib.hid (HT2.out ⟨lpack x0.th x1.th, A5, c5, 0⟩ rfl)
      have hlen6 : (Ep ++ [(⟨lpack x0.th x1.th, A5, c5, 0⟩ : PEl)]).length = q + 1 := by rw [List.length_append, hEp]; rfl
      generalize Ep ++ [(⟨lpack x0.th x1.th, A5, c5, 0⟩ : PEl)] = Ep6 at *
      clear HO6 HG6 HP5 Hb5 hS1 hS2 hS3 HS0 Hcall HOw HS HT2
      go_wp2
      go_roundw
      case rel => exact ⟨q + 1, c6, A6, Ep6, by omega, hlen6, rfl, iv (by omega), HT6.out, HO7.out, HP6.out, HB6.out⟩
      case measure => simp only [intOf]; omega
    · have hlz : ¬ ((2 * q + 1 : Nat) : Int) < (n : Int) := by omega
      have hT := HT.out
      rw [Hdone.out q (by rw [En.out]; exact hlt), List.append_nil] at hT
      obtain ⟨k1, hk1⟩ : ∃ k1, 2 * q + 1 = k1 := ⟨_, rfl⟩
      rw [hk1] at hlz ⊢
      obtain ⟨A7, c7, e7, hc7, hr7⟩ := owns_cells HO.out
      injection e7 with e8 _ e9
      subst e8 e9
      have HR7 := Lib.hid hr7
      have HTT := Lib.hid hT
      clear hr7 hT HT
      subst hEp
      go_wp2
      go_ret
      exact ⟨Ep, _, _, rfl, hc7, HTT.out, ⟨rfl, HR7.out, HP.out, lok_own HO.out Hok.out⟩, HB.out⟩
end Go.Proofs.Ytpocpckhcciecaa
namespace Go.Proofs.Ytpocpckhcciecaa
set_option linter.unusedSimpArgs false
set_option linter.unusedVariables false
open Go.ChangeShapes Go.WideShapes Go.ChangeAt Go.RowKit Go.Joins Go.Deep Go.Shelf
/-- The leaves as they come. -/
def plv : Nat → List Int → List LTh
  | _, [] => []
  | i, c :: t => if 0 < c then ⟨c, [i], true⟩ :: plv (i + 1) t else plv (i + 1) t
theorem plv_yes (i : Nat) (c : Int) (t : List Int) (h : 0 < c) : plv i (c :: t) = ⟨c, [i], true⟩ :: plv (i + 1) t := if_pos h
theorem plv_no (i : Nat) (c : Int) (t : List Int) (h : ¬ 0 < c) : plv i (c :: t) = plv (i + 1) t := if_neg h
theorem reads_new1 (W : World) (o : Obj) (t : TypeId) (cs : Array Value) (size n : Nat) (hl : cs.size = n * size) : Reads ((W.alloc o).alloc (.cells cs t)) (W.heap.size + 1 + 1) size (some ⟨W.heap.size + 1, 0, none⟩) n cs.toList := by
  have h := reads_new (W.alloc o) t cs size n hl
  rw [World.size_alloc] at h
  exact h
set_option maxRecDepth 100000 in
set_option maxHeartbeats 8000000 in
theorem leaves_any (ok : Nat → Prop) (counts : List Int) (A : Option Addr) (n c : Nat) (w : World) (hok : ∀ b, w.heap.size ≤ b → ok b) (hr : Reads w w.heap.size 1 A n (ints counts)) (hn : n ≤ 100000) :
    Calls Try.prog 37 #[.slice A n c] w fun e w' => ∃ (E : List PEl) (A' : Option Addr) (c' : Nat), e = .returned (.slice A' E.length c') ∧ E.length ≤ c' ∧ pth E = plv 0 counts ∧ PRow ok w' w'.heap.size A' E.length E ∧ Below w.heap.size w w' := by
  obtain ⟨j0, hj, hy0, hy1, hy2⟩ : ∃ i0, Try.prog.info? 65 = some i0 ∧ i0.zero = some (.agg #[.int .i64 0, .slice none 0 0]) ∧ i0.size = 2 ∧ i0.bytes = 32 := by
    have h := pthing_info
    cases hi : Try.prog.info? 65 with
    | none => rw [hi] at h; cases h
    | some i0 =>
      rw [hi] at h
      simp only [Option.map_some, Option.some.injEq, Prod.mk.injEq] at h
      exact ⟨i0, rfl, h.1, h.2.1, h.2.2⟩
  have en : counts.length = n := by have := hr.1; rw [ints_length] at this; omega
  have En := Lib.hid en
  have Hcell : Hid (0 < n → ∃ b off, A = some ⟨b, off, none⟩ ∧ ∀ wr, Below w.heap.size w wr → ∀ k, (hk : k < counts.length) → wr.cell? ⟨b, off + k, none⟩ = some (.int .i64 counts[k])) := Lib.hid fun h => by
    obtain ⟨b, off, e, hb, hc⟩ := hr.2 h
    exact ⟨b, off, e, fun wr hw k hk => (hw.cell (p := ⟨b, off + k, none⟩) hb).trans (hc k _ (ints_get counts k hk))⟩
  have Hst : Hid (pth [] ++ plv 0 (counts.drop 0) = plv 0 counts) := Lib.hid rfl
  have hni : (n : Int) ≤ 100000 := by omega
  have Hok := Lib.hid hok
  clear hr en hok
  generalize plv 0 counts = T at *
  go_enter Try.func37, Try.ntmps37
  go_wp2
  go_loopw [3, 4, 5, 8] (fun v s x i wr => ∃ (k q cp : Nat) (Ap : Option Addr) (Ep : List PEl), k ≤ n ∧ q ≤ k ∧ Ep.length = q ∧ v = .slice Ap q cp ∧ i = .int .i64 k ∧ Hid (pth Ep ++ plv k (counts.drop k) = T) ∧ Hid (wr.ownsRow w.heap.size 65 2 (.slice Ap q cp) q (pcells Ep)) ∧ Hid (∀ x ∈ Ep, POk ok wr wr.heap.size x) ∧ Hid (Below w.heap.size w wr)) (fun _ _ _ i _ => n - (intOf i).toNat)
  case atStart => exact ⟨0, 0, 0, none, [], by omega, by omega, rfl, rfl, rfl, Hst, ⟨rfl, Or.inl ⟨rfl, rfl⟩⟩, Lib.hid (fun x hx => absurd hx (by simp)), Below.refl _ _⟩
  case round =>
    obtain ⟨k, q, cp, Ap, Ep, hk, hqk, hEp, rfl, rfl, HT, HO, HP, HB⟩ := hrel
    by_cases hlt : k < n
    · have hki : (0 : Int) ≤ (k : Int) ∧ (k : Int) < n := by omega
      have hkl : k < counts.length := by rw [En.out]; exact hlt
      obtain ⟨b, off, rfl, hcell⟩ := Hcell.out (by omega)
      have hx := hcell wr HB.out k hkl
      have hT := HT.out
      rw [List.drop_eq_getElem_cons hkl] at hT
      clear hcell HT
      generalize counts[k] = x at *
      by_cases hx0 : 0 < x
      · rw [plv_yes _ _ _ hx0] at hT
        have HT2 : Hid (∀ y : PEl, y.th = ⟨x, [k], true⟩ → pth (Ep ++ [y]) ++ plv (k + 1) (counts.drop (k + 1)) = T) := Lib.hid fun y hy => by rw [← hT, ← hy]; simp [pth]
        clear hT
        go_wp2_with (at_builtin; refine wpList_append_sep _ rfl _ _ 60 rfl w.heap.size 65 j0 (.agg #[.int .i64 0, .slice none 0 0]) 2 32 Try.underlying60 hj hy0 hy1 hy2 rfl (by decide) _ _ _ rfl ((HO.out.alloc _).alloc _) _ 1 1 _ _ rfl (reads_new1 wr (.cells #[.int .i64 (k : Int)] 3) 65 #[.int .i64 x, .slice (some ⟨wr.heap.size, 0, none⟩) 1 1] 2 1 rfl) ?c1 ?c2 ?c3 ?c4 ?_)
        case c1 => exact ⟨rfl, rfl⟩
        case c2 => unfold maxLen; omega
        case c3 => omega
        case c4 => rw [World.size_alloc, World.size_alloc]; have := HB.out.size; omega
        intro v6 w6 hO6 hg6 _
        have hbb : Below wr.heap.size wr ((wr.alloc (.cells #[.int .i64 (k : Int)] 3)).alloc (.cells #[.int .i64 x, .slice (some ⟨wr.heap.size, 0, none⟩) 1 1] 65)) := by go_grown
        have hO5 := (HO.out.alloc (.cells #[.int .i64 (k : Int)] 3)).alloc (.cells #[.int .i64 x, .slice (some ⟨wr.heap.size, 0, none⟩) 1 1] 65)
        have hsz := hg6.size
        simp only [World.size_alloc] at hsz
        have hbase := HB.out.size
        have HB6 : Hid (Below w.heap.size w w6) := Lib.hid ((HB.out.trans (hbb.mono hbase)).trans (own_below hO5 hg6 (by simp only [World.size_alloc] at *; omega)))
        have HP6 : Hid (∀ y ∈ Ep ++ [⟨⟨x, [k], true⟩, some ⟨wr.heap.size, 0, none⟩, 1, 0⟩], POk ok w6 w6.heap.size y) := Lib.hid fun y hy => by
          rcases List.mem_append.1 hy with hy | hy
          · exact (((HP.out y hy).below hbb).grown (by simp only [World.size_alloc] at *; omega) hO5 hg6).more (by omega)
          · rw [List.mem_singleton.1 hy]
            have hnew : POk ok (wr.alloc (.cells #[.int .i64 (k : Int)] 3)) (wr.alloc (.cells #[.int .i64 (k : Int)] 3)).heap.size ⟨⟨x, [k], true⟩, some ⟨wr.heap.size, 0, none⟩, 1, 0⟩ :=
              ⟨Nat.le_refl _, lone_reads wr k, fun _ => ⟨_, _, _, rfl, Blk.new wr _ _, Hok.out _ HB.out.size⟩⟩
            exact ((hnew.alloc' _ (Nat.le_refl _)).grown (by simp only [World.size_alloc] at *; omega) hO5 hg6).more (by simp only [World.size_alloc] at *; omega)
        obtain ⟨A6, c6, rfl, _, _⟩ := owns_cells hO6
        have HO7 : Hid (w6.ownsRow w.heap.size 65 2 (.slice A6 (q + 1) c6) (q + 1) (pcells (Ep ++ [⟨⟨x, [k], true⟩, some ⟨wr.heap.size, 0, none⟩, 1, 0⟩]))) := Lib.hid (by
          rw [pcells_app]
          exact hO6)
        have HT6 := Lib.hid (HT2.out ⟨⟨x, [k], true⟩, some ⟨wr.heap.size, 0, none⟩, 1, 0⟩ rfl)
        have hlen6 : (Ep ++ [(⟨⟨x, [k], true⟩, some ⟨wr.heap.size, 0, none⟩, 1, 0⟩ : PEl)]).length = q + 1 := by rw [List.length_append, hEp]; rfl
        generalize Ep ++ [(⟨⟨x, [k], true⟩, some ⟨wr.heap.size, 0, none⟩, 1, 0⟩ : PEl)] = Ep6 at *
        clear hO6 hg6 hO5 hbb hsz HT2
        go_wp2
        go_roundw
        case rel => exact ⟨k + 1, q + 1, c6, A6, Ep6, by omega, by omega, hlen6, rfl, iv (by omega), HT6.out, HO7.out, HP6.out, HB6.out⟩
        case measure => simp only [intOf]; omega
      · rw [plv_no _ _ _ hx0] at hT
        have HT6 := Lib.hid hT
        clear hT
        go_wp2
        go_roundw
        case rel => exact ⟨k + 1, q, cp, Ap, Ep, by omega, by omega, hEp, rfl, iv (by omega), HT6.out, HO.out, HP.out, HB.out⟩
        case measure => simp only [intOf]; omega
    · obtain rfl : k = n := by omega
      have hT := HT.out
      rw [List.drop_of_length_le (by rw [En.out]; exact Nat.le_refl _)] at hT
      have hT2 : pth Ep = T := by rw [← hT]; simp [plv]
      obtain ⟨A7, c7, e7, hc7, hr7⟩ := owns_cells HO.out
      injection e7 with e8 _ e9
      subst e8 e9
      have HR7 := Lib.hid hr7
      have HTT := Lib.hid hT2
      clear hr7 hT HT hT2
      subst hEp
      go_wp2
      go_ret
      exact ⟨Ep, _, _, rfl, hc7, HTT.out, ⟨rfl, HR7.out, HP.out, lok_own HO.out Hok.out⟩, HB.out⟩
end Go.Proofs.Ytpocpckhcciecaa
