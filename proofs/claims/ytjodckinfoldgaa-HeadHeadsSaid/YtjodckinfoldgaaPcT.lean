/-
  Package pieces, the program's: what takes pieces is called, and a taker's fault is caught; a taker's numbers, one behind the other.
-/
import Derived.Test.YtjodckinfoldgaaTakeC
namespace Go.Proofs.Ytjodckinfoldgaa
set_option linter.unusedSimpArgs false
set_option linter.unusedVariables false
open Go.ChangeShapes Go.WideShapes Go.ChangeAt Go.RowKit Go.Joins Go.Deep
theorem pt_fault_is (v : Value) (w : World) : (Instr.typeAssert (.iface 69 v) 20 69 false).run Try.prog w = .ok v w := by kernel_rfl
theorem pt_fault_f0 (a b : Value) (w : World) : (Instr.field 69 (.agg #[a, b]) 0).run Try.prog w = .ok a w := by kernel_rfl
theorem pt_idle (a : Addr) (w : World) : CallsD Try.prog 41 #[.pointer (some a)] .returning w fun e u' w' => e = .returned (.tuple #[]) ∧ u' = .returning ∧ w' = w := by
  refine callsD_of_wpS Try.func41 rfl fun c₀ cs hu => ?_
  apply wpS_seq
  apply wpS_region
  simp [wpOpsS, go_sem, recoverD, hu, Try.ntmps41, Exit.thenS]
  apply wpS_seq
  apply wpS_region
  simp [wpOpsS, go_sem, Exit.thenS, Array.replicate]
  refine wpS_cond (t := false) (by simp [Act.eval]) ?_
  simp only [Bool.false_eq_true, if_false]
  refine wpS_of_wp (wp_skip ?_)
  cases c₀
  simp_all [bodyPostS, results, Try.results41]
theorem pt_fault (N : Nat) (x e p : Int) (older : List PanicEntry) (w : World) (hN : Blk w N 25 #[.int .i64 x]) :
    CallsD Try.prog 41 #[.pointer (some ⟨N, 0, none⟩)] (.panicking ({ v := .iface 69 (.agg #[.int .i64 e, .int .i64 p]), recovered := false } :: older)) w fun r u' w' =>
      r = .returned (.tuple #[]) ∧ u' = .panicking ({ v := .iface 69 (.agg #[.int .i64 e, .int .i64 p]), recovered := true } :: older) ∧ w' = w.setCell ⟨N, 0, none⟩ (.int .i64 e) := by
  have c1 : w.cell? ⟨N, 0, none⟩ = some (.int .i64 x) := hN.cell 0
  have z1 := hN.frozen 0
  refine callsD_of_wpS Try.func41 rfl fun c₀ cs hu => ?_
  apply wpS_seq
  apply wpS_region
  simp [wpOpsS, go_sem, recoverD, hu, Try.ntmps41, Exit.thenS, Array.replicate]
  apply wpS_seq
  apply wpS_region
  simp [wpOpsS, go_sem, Exit.thenS, Array.replicate]
  refine wpS_cond (t := true) (by simp [Act.eval]) ?_
  simp only [if_true]
  refine wpS_of_wp ?_
  have hta := pt_fault_is
  have hf0 := pt_fault_f0
  go_wp2
  exact ⟨rfl, _, rfl, .tuple #[], by simp [results, Try.results41], rfl, rfl, rfl⟩
theorem pt_enters {P : Program} {f : FuncId} {fn : Func} {c : Code} (hf : P.funcs[f]? = some fn) (hn : (fn.name == "runtime.NumGoroutine") = false) (hb : fn.body = some c) (args : Array Value) (w : World) : (callFunc f args).run P w = .ok (.enter f args) w := by
  have h1 : fn.name ≠ "runtime.NumGoroutine" := by simpa using hn
  simp [callFunc, hf, h1, hb, mark]
def PEnd (r : Ending) (E : Int) : Prop := (E = 0 ∧ ∃ u, r = .returned u) ∨ ∃ p : Int, r = .panicked [{ v := .iface 69 (.agg #[.int .i64 E, .int .i64 p]), recovered := false }]
set_option maxRecDepth 100000 in
set_option maxHeartbeats 1000000 in
theorem p_ptake (F : Nat) (cap : Array Value) (s : ByteArray) (E : Int) (W : World) (Q : World → Prop)
    (hF : ∀ args w, (callFunc F args).run Try.prog w = .ok (.enter F args) w)
    (hc : Calls Try.prog F (#[.pointer (some ⟨W.heap.size + 1, 0, none⟩)] ++ cap) ((W.alloc (.cells #[.int .i64 0] 25)).alloc (.cells #[.string s, .int .i64 0] 88)) fun r w' => PEnd r E ∧ Blk w' W.heap.size 25 #[.int .i64 0] ∧ Q w') :
    Calls Try.prog 28 #[.string s, .func (.func F) #[] cap] W fun r w' => r = .returned (.int .i64 E) ∧ ∃ w1, Q w1 ∧ w' = w1.setCell ⟨W.heap.size, 0, none⟩ (.int .i64 E) := by
  have hmf : ∀ (fn : Fn) (first cap : Array Value) (w : World), (Instr.makeFunc fn first cap).run Try.prog w = .ok (.func fn first cap) w := fun _ _ _ _ => rfl
  have Hc := Lib.hid hc
  clear hc
  go_enter_defers Try.func28, Try.ntmps28
  go_wp2_with (first
    | (go_at_call 42; refine (new_any _ _).mono ?_; rintro e w1 ⟨rfl, rfl⟩)
    | ((with_reducible refine Hc.out.mono ?_); rintro e w1 ⟨⟨rfl, u, rfl⟩ | ⟨p, rfl⟩, hN, hQ⟩; have y1 := hN.cell 0; have z1 := hN.frozen 0))
  · refine leaves_cons (f := 41) (args := #[.pointer (some ⟨W.heap.size, 0, none⟩)]) (by simp) (by simp [go_sem]) ?_
    refine (pt_idle _ _).mono ?_
    rintro e' u' w3 ⟨rfl, rfl, rfl⟩
    refine ⟨.int .i64 0, ?_, rfl, _, hQ, rfl⟩
    have hN2 := (hN.set_ 0 (.int .i64 0)).cell 0
    simp only [List.setIfInBounds_toArray, List.set_cons_zero, List.getElem?_toArray, List.getElem?_cons_zero] at hN2
    simp [results, Try.results28, go_sem, hN2]
  · refine leaves_cons (f := 41) (args := #[.pointer (some ⟨W.heap.size, 0, none⟩)]) (by simp) (by simp [go_sem]) ?_
    refine (pt_fault W.heap.size 0 E p [] _ hN).mono ?_
    rintro e' u' w3 ⟨rfl, rfl, rfl⟩
    refine ⟨.int .i64 E, ?_, rfl, _, hQ, rfl⟩
    have hN2 := (hN.set_ 0 (.int .i64 E)).cell 0
    simp only [List.setIfInBounds_toArray, List.set_cons_zero, List.getElem?_toArray, List.getElem?_cons_zero] at hN2
    simp [results, Try.results28, go_sem, hN2]
theorem pt_panic {P : Program} {fn : Func} {R : Ending → World → Prop} {a : Act} {w : World} {ps : List PanicEntry} (hd : a.defers = []) (hR : R (.panicked ps) w) : bodyPost P fn R (.panic ps) a w := ⟨hd, hR⟩
structure TAt (W w : World) (l : List UInt8) (g : Nat) (p : Int) : Prop where
  blk : Blk w g 88 #[.string ⟨l.toArray⟩, .int .i64 p]
  touch : Touch W w (fun k => k = g)
  low : 0 ≤ p
  high : p ≤ l.length
theorem TAt.keep {W w : World} {l : List UInt8} {g b : Nat} {p : Int} {t : TypeId} {cs : Array Value} (h : TAt W w l g p) (hb : Blk W b t cs) (hn : b ≠ g) : Blk w b t cs := hb.touch h.touch hn
def TEnd (W w' : World) (r : Ending) (l : List UInt8) (g : Nat) (v : Value) (q E : Int) : Prop :=
  (E = 0 ∧ r = .returned v ∧ TAt W w' l g q) ∨ (E ≠ 0 ∧ (∃ p : Int, r = .panicked [{ v := .iface 69 (.agg #[.int .i64 E, .int .i64 p]), recovered := false }]) ∧ Touch W w' (fun k => k = g))
section
variable (W w : World) (l : List UInt8) (g : Nat) (p : Int) (hl : l.length ≤ 4611686018427387904) (h : TAt W w l g p)
include hl h
theorem pt_num : Calls Try.prog 30 #[.pointer (some ⟨g, 0, none⟩)] w fun r w' => TEnd W w' r l g (.int .i64 (getF l p).1) (getF l p).2.1 (getF l p).2.2 := by
  obtain ⟨x, q, E, hr⟩ : ∃ x q E, getF l p = (x, q, E) := ⟨_, _, _, rfl⟩
  have hq : pieceF l p 2 0 = ((x, []), q, E) := by simp [pieceF, hr]
  have hT := Lib.hid h.touch
  have hok := getF_ok' (l := l) (p := p)
  rw [hr] at hok ⊢
  dsimp only at hok ⊢
  by_cases hE : E = 0
  · subst hE
    have hok := hok rfl
    refine (num_ok l p g w hl h.low h.high h.blk x [] q hq).mono ?_
    rintro r w' ⟨rfl, hg, hB⟩
    exact .inl ⟨rfl, rfl, hB, hT.out.next (touch_grow hg) (fun i _ e => by injection e), by omega, by omega⟩
  · have ht := Lib.hid fun w hB => take_no l p 2 0 g w hl h.low h.high hB x [] q E hq hE
    have hB := h.blk
    have HE := Lib.hid hE
    clear hr hok hq h hE
    go_enter Try.func30, Try.ntmps30
    go_wp2_with (refine (ht.out _ hB).mono ?_; rintro e w1 ⟨rfl, h1⟩)
    exact ⟨rfl, .inr ⟨HE.out, ⟨p, rfl⟩, hT.out.next (touch_below h1 (Nat.le_refl _)) (fun i _ e => e)⟩⟩
end
end Go.Proofs.Ytjodckinfoldgaa
