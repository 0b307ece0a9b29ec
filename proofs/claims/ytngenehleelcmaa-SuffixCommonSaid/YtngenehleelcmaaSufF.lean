/-
  Over any program: a region that draws its order, in a round of a range over a function; marks of such ranges at a function's return.
-/
import Derived.RangeFuncBox
import Derived.RangeFuncLeaves
import Derived.RangeFuncNested
import Derived.OrdersIn
import Derived.Deep.Quiet
import Derived.Deep.RegionHeld
import Derived.WalkKit
import Derived.Test.YtngenehleelcmaaMore
namespace Go.Proofs.Ytngenehleelcmaa
set_option linter.unusedSimpArgs false
set_option linter.unusedVariables false
open Go.ChangeShapes Go.WideShapes Go.ChangeAt Go.RowKit Go.Joins Go.Deep

section
variable {P : Program} {ops : Array Oper} {Q : Exit → Act → World → Prop} {md : Region.Mode}
theorem calls_round {n l : Nat} {f : FuncId} {args : Array Value} {w : World} {R : Ending → World → Prop} (h : Calls P f args w R) : CallsIn (Fence.wide.inRound l) n P f args w R := (callsIn_wide.2 h : CallsIn Fence.wide n P f args w R)
theorem rows_round {n l : Nat} {row : String} {args : Array Value} {w : World} {R : Value → World → Prop} (h : Rows P row args w R) : RowsIn (Fence.wide.inRound l) n P row args w R := fun c cs _ => by
  obtain ⟨v, w', r, s⟩ := h c cs
  exact ⟨v, w', r, stepsIn_wide.2 s⟩
theorem oper_round {n l : Nat} {o : Oper} {a : Act} {w : World} {K : Act → World → Prop} (hd : ∀ c, o.op ≠ .defer c) (h : o.wp P a w K Q) : o.wpIn (Fence.wide.inRound l) n P a w K Q := by
  unfold Oper.wp at h
  unfold Oper.wpIn
  refine ⟨fun _ _ => trivial, ?_⟩
  rw [Oper.semAt_eq _ _ _ hd]
  generalize (execOp a.eval o).run P w = r at *
  cases r with
  | ok x w' =>
    cases x <;> simp only [Oper.upon] at h <;> simp only [Oper.uponIn]
    case value => exact h
    case skip => exact h
    case defer => exact h
    case enter => exact ⟨fun hh => (by simp [Fence.wide] at hh), calls_round h⟩
    case row => exact ⟨fun hh => (by simp [Fence.wide] at hh), rows_round h⟩
  | halt x w' => cases x <;> simp only [Oper.upon] at h <;> simp only [Oper.uponIn] <;> exact h
theorem op_round {n l i : Nat} {a : Act} {w : World} {K : Act → World → Prop} (hno : ¬ LetsOut Q) (hd : ∀ (o : Oper), ops[i]? = some o → ∀ c, o.op ≠ Op.defer c) (h : wpOp P ops Q i K a w) : wpOpIn (Fence.wide.inRound l) n P ops Q i K a w := by
  unfold wpOp at h
  unfold wpOpIn
  split
  · rename_i ho
    simp only [ho] at h
    exact h
  · rename_i o ho
    simp only [ho] at h
    split
    · rename_i hw
      simp only [hw, if_true] at h
      rcases h with h | ⟨_, h⟩
      · exact oper_round (hd o ho) h
      · exact absurd h hno
    · rename_i hw
      simp only [hw] at h
      exact ⟨fun _ _ => trivial, h⟩
theorem any_round {n l : Nat} (hno : ¬ LetsOut Q) (hd : ∀ (i : Nat) (o : Oper), ops[i]? = some o → ∀ c, o.op ≠ Op.defer c) : ∀ (fuel : Nat) (listed : Array Bool) (a : Act) (w : World), wpAny P md ops Q fuel listed a w → wpAnyIn (Fence.wide.inRound l) n P md ops Q fuel listed a w
  | 0, _, _, _, h => h
  | fuel + 1, _, _, _, h => ⟨h.1, fun i hi => wpOpIn_mono (fun a' w' h2 => any_round hno hd fuel _ a' w' h2) (op_round hno (hd i) (h.2 i hi))⟩
/-- No operation of a list is a defer statement. -/
def noDefer (l : List Oper) : Bool := l.all fun o => match o.op with | .defer _ => false | _ => true
theorem noDefer_at {l : List Oper} (h : noDefer l = true) : ∀ (i : Nat) (o : Oper), l.toArray[i]? = some o → ∀ c, o.op ≠ Op.defer c := fun i o ho c e => by
  unfold noDefer at h
  rw [List.all_eq_true] at h
  rw [List.getElem?_toArray] at ho
  have := h o (List.mem_of_getElem? ho)
  rw [e] at this
  cases this
/-- A region that only reads, in a round. -/
theorem round_quiet_lit {n id l0 : Nat} {a : Act} {w : World} {l : List Oper} (hm : P.follows .mixedOrders = true) (hB : Region.lexB .any l.toArray = true) (hd : noDefer l = true) (hno : ¬ LetsOut Q)
    (h : wpQuiet P l.toArray (fun w' => ∃ n, w' = w.drewN n) (fun a' => ∀ w', (∃ n, w' = w.drewN n) → Q .normal a' w') l a) : (Code.region id l.toArray true).wpIn (Fence.wide.inRound l0) n P Q a w := by
  simp only [Region.lexB, Bool.and_eq_true] at hB
  refine wpIn_region_any hm (any_round hno (noDefer_at hd) _ _ _ _ (wpAny_of_quiet (C := fun w' => ∃ n, w' = w.drewN n) (Q := fun a' => ∀ w', (∃ n, w' = w.drewN n) → Q .normal a' w') (fun _ w' hw' h => h w' hw') _ _ _ _ ⟨1, rfl⟩ ?_))
  have := wpAnyQ_lex (C := fun w' => ∃ n, w' = w.drewN n) (md := .any) hB.1 l.toArray.toList 0 (Array.replicate l.toArray.size false) a (by simp) (by simpa using hB.2) (by simpa using h)
  simpa using this
/-- A region that draws, in a round, over the plain calculus. -/
theorem round_any_lit {n id l0 : Nat} {a : Act} {w : World} {l : List Oper} (hm : P.follows .mixedOrders = true) (hd : noDefer l = true) (hno : ¬ LetsOut Q)
    (h : wpAny P .any l.toArray Q l.toArray.size (Array.replicate l.toArray.size false) a w.drew) : (Code.region id l.toArray true).wpIn (Fence.wide.inRound l0) n P Q a w :=
  wpIn_region_any hm (any_round hno (noDefer_at hd) _ _ _ _ h)
/-- A region that draws, in a round, operation by operation. -/
theorem round_held_drew {n id l0 : Nat} {S : World → Prop} {a : Act} {w : World} {l : List Oper} (hm : P.follows .mixedOrders = true) (hd : noDefer l = true) (hno : ¬ LetsOut Q) (hS : S w.drew)
    (h : S w.drew → wpAnyH P .any l.toArray Q S l.toArray.size (Array.replicate l.toArray.size false) a w.drew) : (Code.region id l.toArray true).wpIn (Fence.wide.inRound l0) n P Q a w :=
  wpIn_region_any hm (any_round hno (noDefer_at hd) _ _ _ _ (wpAny_of_held _ _ _ _ (h hS)))
end

/-! ### The marks of ranges over functions, at the return -/
/-- Marks whose blocks hold no calls, and lie at B or beyond. -/
def Marks (B : Nat) (W : World) (ds : List Deferred) : Prop := (ds.map fun d => d.target).Nodup ∧ ∀ d ∈ ds, ∃ D, d.target = .collected D ∧ W.heap[D]? = some (.deferred (some [])) ∧ B ≤ D
theorem Marks.nil (B : Nat) (W : World) : Marks B W [] := ⟨List.Pairwise.nil, fun _ h => by cases h⟩
theorem Marks.grow {B : Nat} {W W' : World} {ds : List Deferred} (h : Marks B W ds) (hk : ∀ (D : Nat), W.heap[D]? = some (.deferred (some [])) → W'.heap[D]? = some (.deferred (some []))) : Marks B W' ds :=
  ⟨h.1, fun d hd => by obtain ⟨D, e, hD, hB⟩ := h.2 d hd; exact ⟨D, e, hk D hD, hB⟩⟩
theorem Marks.cons {B : Nat} {W : World} {ds : List Deferred} {D : Nat} (h : Marks B W ds) (hD : W.heap[D]? = some (.deferred (some []))) (hB : B ≤ D) (hn : ∀ d ∈ ds, ∀ E, d.target = .collected E → E ≠ D) (args : Array Value) : Marks B W ({ target := .collected D, args := args } :: ds) := by
  refine ⟨List.nodup_cons.2 ⟨fun hm => ?_, h.1⟩, fun d hd => ?_⟩
  · obtain ⟨d, hd, e⟩ := List.mem_map.1 hm
    exact hn d hd D e rfl
  · rcases List.mem_cons.1 hd with rfl | hd
    · exact ⟨D, rfl, hD, hB⟩
    · exact h.2 d hd
/-- What reads cells alone is left by shutting the marks' blocks. -/
def Cellwise (B : Nat) (R : World → Prop) : Prop := ∀ W D, R W → (∃ o : Obj, W.heap[D]? = some o ∧ o.isCells = false) → B ≤ D → R (W.putObj D (.deferred none))
theorem leaves_marks {F : Fence} {n B : Nat} {P : Program} {fn : Func} {tmps : Array Value} {R : Ending → World → Prop} {RV : World → Prop} (hc : Cellwise B RV) (hR : ∀ W, RV W → LeavesIn F n P fn tmps R [] .returning W) :
    ∀ (ds : List Deferred) (W : World), Marks B W ds → RV W → LeavesInM F n P fn tmps R ds .returning W
  | [], W, _, h => hR W h
  | d :: ds, W, hm, h => by
    obtain ⟨D, e, hD, hB⟩ := hm.2 d (List.mem_cons_self ..)
    have hn := List.nodup_cons.1 hm.1
    refine ⟨by simp, .inl ⟨D, _, e, run_takeDeferred hD, leaves_marks hc hR ds _ ⟨hn.2, fun d' hd' => ?_⟩ (hc W D h ⟨_, hD, rfl⟩ hB)⟩⟩
    obtain ⟨D', e', hD', hB'⟩ := hm.2 d' (List.mem_cons_of_mem _ hd')
    have hne : D' ≠ D := fun e2 => hn.1 (by
      show d.target ∈ ds.map fun d => d.target
      rw [e, ← e2, ← e']
      exact List.mem_map.2 ⟨d', hd', rfl⟩)
    exact ⟨D', e', (World.putObj_heap_other hne).trans hD', hB'⟩
end Go.Proofs.Ytngenehleelcmaa
