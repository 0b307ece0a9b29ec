/-
  Layer 12: slices.Backward over the levels, for every loop body that keeps what it reads.
-/
import Derived.Test.YtngenehleelcmaaSufF
import Derived.Test.YtngenehleelcmaaRows
import Derived.Shelf.Abstract
import Derived.OwnWalkIn
import Derived.TacticsInMore
import Derived.LoopNIn
import Derived.LoopIn
namespace Go.Proofs.Ytngenehleelcmaa
set_option linter.unusedSimpArgs false
set_option linter.unusedVariables false
open Go.ChangeShapes Go.WideShapes Go.ChangeAt Go.RowKit Go.Joins Go.Deep Go.Shelf
attribute [local go_sem] Oper.semAt_some

/-- A level's number. -/
abbrev SLv (L : Nat) := { p : Nat // p < L }
/-- The levels from the last one down to the q-th have come. -/
def SBk (L q : Nat) (pre : List (SLv L)) : Prop := pre.map (·.1) = (List.range' q (L - q)).reverse
theorem SBk.start (L : Nat) : SBk L L [] := by unfold SBk; simp
theorem SBk.step {L p : Nat} {pre : List (SLv L)} (h : SBk L (p + 1) pre) (hp : p < L) : SBk L p (pre ++ [⟨p, hp⟩]) := by
  unfold SBk at *
  rw [List.map_append, h, show L - p = (L - (p + 1)) + 1 from by omega, List.range'_succ, List.reverse_cons]
  rfl
theorem SBk.len {L q : Nat} {pre : List (SLv L)} (h : SBk L q pre) : pre.length = L - q := by
  have := congrArg List.length h
  simpa using this
theorem SBk.all {L : Nat} {pre : List (SLv L)} (h : SBk L 0 pre) : pre.map (·.1) = (List.range L).reverse := by
  rw [List.range_eq_range']
  exact h

section
variable {F : Fence} {n : Nat}
/-- What a round that goes on keeps: all that lay, but one box. -/
def SKp (nb N0 : Nat) (W W' : World) : Prop := Touch W W' (fun k => k = nb ∨ N0 ≤ k)
theorem skp_b {nb N0 : Nat} {w : World} (hn : N0 ≤ w.heap.size) (W : World) (l : Nat) (o o' : Obj) (hl : w.heap.size ≤ l) (h : W.heap[l]? = some o) (_ : o.isCells = false) (_ : o.isWalk = false) : SKp nb N0 W (W.putObj l o') :=
  (touch_grow (grownBy_putObj' W l o')).mono fun k _ e => by injection e with e; subst e; exact Or.inr (by omega)

set_option maxRecDepth 100000 in
set_option maxHeartbeats 2000000 in
/-- slices.Backward's closure, for every loop body that keeps what it reads. -/
theorem sback1_in (h : F.fn 43) (hro : F.round = none) (hn : 1 ≤ n) (l Bs nb N0 b off cap N L : Nat) (gs : List Nat) (hL : gs.length = L) (hlen : 0 < L) (hreach : L ≤ 4611686018427387904) (J Jx : List (SLv L) → World → Prop)
    (hY : ∀ pre x W, J pre W → pre.length < L → YieldAt F (n - 1) Try.prog l #[.int .i64 (x.1 : Int), .slice (some ⟨gs[x.1]'(by rw [hL]; exact x.2), 0, none⟩) N N] W fun e W' =>
      (e = .returned (.bool true) ∧ J (pre ++ [x]) W' ∧ SKp nb N0 W W') ∨ (e = .returned (.bool false) ∧ Jx (pre ++ [x]) W'))
    (W : World) (hN : N0 ≤ W.heap.size) (hB1 : Bs < N0) (hB2 : Bs ≠ nb) (hb1 : b < N0) (hb2 : b ≠ nb)
    (hBs : W.cell? ⟨Bs, 0, none⟩ = some (.slice (some ⟨b, off, none⟩) L cap)) (hc : ∀ j (hj : j < gs.length), W.cell? ⟨b, off + j, none⟩ = some (.slice (some ⟨gs[j], 0, none⟩) N N)) (h0 : J [] W) :
    CallsIn F n Try.prog 43 #[.func (.yield l) #[] #[], .pointer (some ⟨Bs, 0, none⟩)] W fun e W' => (∃ v, e = .returned v) ∧
      ((∃ ys, ys.map (·.1) = (List.range L).reverse ∧ J ys W') ∨ (∃ pre, True ∧ Jx pre W')) := by
  refine callsIn_of_wp Try.func43 rfl h ?_ hro
  simp only [Try.ntmps43, List.size_toArray, List.length_cons, List.length_nil, Nat.reduceAdd, Nat.reduceSub, Array.replicate_succ, Array.replicate_zero, List.push_toArray, List.append_toArray, List.nil_append, List.cons_append]
  have hl0 : IntKind.i64.wrap ((L : Int) - 1) = (L : Int) - 1 := by rw [IntKind.wrap_i64]; omega
  gi_wp2
  gi_loopw [3] (fun i wr => ∃ q : Nat, q ≤ L ∧ i = .int .i64 ((q : Int) - 1) ∧ (∃ pre, SBk L q pre ∧ J pre wr) ∧ SKp nb N0 W wr)
    (fun i _ => (intOf i + 1).toNat)
  case atStart => exact ⟨L, Nat.le_refl _, rfl, ⟨[], SBk.start L, h0⟩, Touch.refl _ _⟩
  case round =>
    obtain ⟨q, hq, rfl, ⟨pre, hpre, hJs⟩, hnx⟩ := hrel
    have hcB : wr.cell? ⟨Bs, 0, none⟩ = some (.slice (some ⟨b, off, none⟩) L cap) := (World.cell?_of_block (hnx.block Bs (by omega) (by omega))).trans hBs
    cases q with
    | zero =>
      rw [show ((0 : Nat) : Int) - 1 = -1 from rfl]
      gi_wp2
      go_end0
      exact ⟨⟨_, rfl⟩, .inl ⟨_, hpre.all, hJs⟩⟩
    | succ p =>
      have hpl : p < L := by omega
      have hpg : p < gs.length := by omega
      have hcx : wr.cell? ⟨b, off + p, none⟩ = some (.slice (some ⟨gs[p], 0, none⟩) N N) := (World.cell?_of_block (a := ⟨b, off + p, none⟩) (hnx.block b (by omega) (by omega))).trans (hc p hpg)
      obtain ⟨fn, tmps, assign, body, hy, hR⟩ := hY _ ⟨p, hpl⟩ wr hJs (by rw [hpre.len]; omega)
      dsimp only at hy
      rw [show ((p + 1 : Nat) : Int) - 1 = (p : Int) from by omega]
      have hpi : (0 : Int) ≤ (p : Int) ∧ (p : Int) < L := by omega
      have hw1 : IntKind.i64.wrap ((p : Int) - 1) = (p : Int) - 1 := by rw [IntKind.wrap_i64]; omega
      gi_wp2
      refine hR.mono ?_
      rintro e W3 (⟨rfl, hJ3, hk3⟩ | ⟨rfl, hJx3⟩)
      · gi_wp2
        go_roundw
        case rel => exact ⟨p, by omega, rfl, ⟨_, hpre.step hpl, hJ3⟩, hnx.trans hk3⟩
        case measure => simp only [intOf]; omega
      · gi_wp2
        refine bodyPost_ret (results_none rfl _ _ _) rfl ?_
        exact ⟨⟨_, rfl⟩, .inr ⟨_, trivial, hJx3⟩⟩

set_option maxRecDepth 100000 in
set_option maxHeartbeats 1000000 in
/-- .. at no levels: no round. -/
theorem sback0_in (h : F.fn 43) (hro : F.round = none) (l Bs cap : Nat) (A : Option Addr) (J : World → Prop) (W : World) (hBs : W.cell? ⟨Bs, 0, none⟩ = some (.slice A 0 cap)) (h0 : J W) :
    CallsIn F n Try.prog 43 #[.func (.yield l) #[] #[], .pointer (some ⟨Bs, 0, none⟩)] W fun e W' => (∃ v, e = .returned v) ∧ J W' := by
  refine callsIn_of_wp Try.func43 rfl h ?_ hro
  simp only [Try.ntmps43, List.size_toArray, List.length_cons, List.length_nil, Nat.reduceAdd, Nat.reduceSub, Array.replicate_succ, Array.replicate_zero, List.push_toArray, List.append_toArray, List.nil_append, List.cons_append]
  gi_wp2
  gi_loopw [3] (fun i wr => i = .int .i64 (-1) ∧ J wr) (fun _ _ => 0)
  case atStart => exact ⟨rfl, h0⟩
  case round =>
    obtain ⟨rfl, hJs⟩ := hrel
    gi_wp2
    go_end0
    exact ⟨⟨_, rfl⟩, hJs⟩

set_option maxHeartbeats 1000000 in
/-- slices.Backward: the slice is boxed; the function value captures the box. -/
theorem sbackward_any (a : Option Addr) (len cap : Nat) (w : World) :
    Calls Try.prog 30 #[.slice a len cap] w fun e w' => e = .returned (.func (.func 43) #[] #[.pointer (some ⟨w.heap.size, 0, none⟩)]) ∧ w' = w.alloc (.cells #[.slice a len cap] 57) := by
  have hmf : ∀ (fn : Fn) (first cap : Array Value) (w : World), (Instr.makeFunc fn first cap).run Try.prog w = .ok (.func fn first cap) w := fun _ _ _ _ => rfl
  go_enter Try.func30, Try.ntmps30
  go_wp2
  go_ret
  exact ⟨rfl, rfl⟩

theorem sback_stops (h : F.fn 43) (hro : F.round = none) (hn : 1 ≤ n) (Bs nb N0 cap N L : Nat) (A : Option Addr) (gs : List Nat) (hL : gs.length = L) (hreach : L ≤ 4611686018427387904) (w : World)
    (hN : N0 ≤ w.heap.size) (hB1 : Bs < N0) (hB2 : Bs ≠ nb) (hc : w.cell? ⟨Bs, 0, none⟩ = some (.slice A L cap))
    (hI : 0 < L → ∃ b off, A = some ⟨b, off, none⟩ ∧ b < N0 ∧ b ≠ nb ∧ ∀ j (hj : j < gs.length), w.cell? ⟨b, off + j, none⟩ = some (.slice (some ⟨gs[j], 0, none⟩) N N)) :
    SeqStopsK F n Try.prog 43 #[.pointer (some ⟨Bs, 0, none⟩)] (fun x : SLv L => #[Value.int .i64 (x.1 : Int), Value.slice (some ⟨gs[x.1]'(by rw [hL]; exact x.2), 0, none⟩) N N]) (SKp nb N0) (fun ys => ys.map (·.1) = (List.range L).reverse)
      (fun pre => True) L w := fun l J Jx W hW _ _ hY h0 => by
  have hc' := (hW.cell (p := ⟨Bs, 0, none⟩) (by simp; omega)).trans hc
  have hsz := hW.size
  rcases Nat.eq_zero_or_pos L with hz | hz
  · have hc2 := hc'
    rw [hz] at hc2
    refine (sback0_in h hro l Bs cap A (J []) W hc2 h0).mono fun e W' ⟨he, hj⟩ => ⟨he, .inl ⟨[], ?_, hj⟩⟩
    rw [hz]
    rfl
  · obtain ⟨b, off, rfl, h1, h2, h3⟩ := hI hz
    exact sback1_in h hro hn l Bs nb N0 b off cap N L gs hL hz hreach J Jx hY W (by omega) hB1 hB2 h1 h2 hc' (fun j hj => (hW.cell (p := ⟨b, off + j, none⟩) (by simp; omega)).trans (h3 j hj)) h0
end
end Go.Proofs.Ytngenehleelcmaa
