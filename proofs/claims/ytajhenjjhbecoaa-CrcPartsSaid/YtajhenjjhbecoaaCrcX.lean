/-
  Layer 5: a table is the same as itself, as '==' on arrays tells it.
-/
import Derived.Test.YtajhenjjhbecoaaCrcAw
import Derived.Laws.StructEq
namespace Go.Proofs.Ytajhenjjhbecoaa
set_option linter.unusedSimpArgs false
set_option linter.unusedVariables false
open Go.ChangeShapes Go.WideShapes Go.ChangeAt Go.RowKit Go.Joins Go.Deep

section
variable {P : Program}
theorem run_equalIn_tab (w : World) (d : Nat) (t e : TypeId) (n : Nat) (ht : P.underlying t = some (.array n e)) (he : P.underlying e = some (.int .u32)) (hsz : ∀ w, (sizeOf e).run P w = .ok 1 w)
    (C : List Value) (hC : ∀ i, i < n → ∃ x, C[i]? = some (.int .u32 x)) : (Op.equalIn (d + 2) t (.agg C.toArray) (.agg C.toArray)).run P w = .ok true w := by
  rw [Op.equalIn]
  simp only [Sem.run_bind, run_underlying ht, Result.andThen_ok, hsz, Std.Legacy.Range.forIn_eq_forIn_range', Std.Legacy.Range.size, Nat.sub_zero, Nat.add_sub_cancel, Nat.div_one]
  have hl : ∀ i ∈ List.range' 0 n 1, i < n := fun i hi => by simpa using (List.mem_range'_1.1 hi).2
  generalize List.range' 0 n 1 = l at hl ⊢
  induction l with
  | nil => simp
  | cons i l ih =>
    obtain ⟨x, hx⟩ := hC i (hl i (by simp))
    have px : (part e C.toArray (i * 1)).run P w = .ok (.int .u32 x) w := by
      simp [part, isAgg, run_underlying he, hx]
    have pe : (Op.equalIn (d + 1) e (.int .u32 x) (.int .u32 x)).run P w = .ok true w := by
      rw [run_equalIn_int w d e .u32 .u32 _ _ he]
      simp
    simp only [List.forIn_cons, Sem.run_bind, px, pe, Result.andThen_ok, Bool.not_true, Bool.false_eq_true, if_false, Sem.run_pure]
    exact ih fun j hj => hl j (by simp [hj])
theorem yieldsIf_eql_tab {ops : Array Oper} {S : World → Prop} {op : Oper} {a : Act} (hw : Region.wanted op (yielded ops a.tmps) = true) (t e : TypeId) (n : Nat) (x y : Operand) (t2 : TypeId) (ho : op.op = .binOp .eql t x y t2)
    (C : List Value) (hx : a.eval x = .agg C.toArray) (hy : a.eval y = .agg C.toArray)
    (ht : P.underlying t = some (.array n e)) (he : P.underlying e = some (.int .u32)) (hsz : ∀ w, (sizeOf e).run P w = .ok 1 w) (hC : ∀ i, i < n → ∃ x, C[i]? = some (.int .u32 x)) (hg : P.eqGuardType P.depth t = false) : YieldsIf P ops S op (.bool true) a :=
  .inl ⟨hw, fun w _ => by
    have h := run_equalIn_tab (P := P) w 9998 t e n ht he hsz C hC
    have h2 : (binOp .eql t (.agg C.toArray) (.agg C.toArray)).run P w = .ok (.bool true) w := by
      rw [run_eql_struct, h]
      rfl
    unfold execOp
    simp only [ho, hx, hy, Sem.run_bind, run_eqGuard_agg _ _ _ _ _ _ _ hg, Result.andThen_ok, h2, Sem.run_pure]⟩
end
theorem tab_ints (T : List (BitVec 32)) (h : T.length = 256) : ∀ i, i < 256 → ∃ x, (tab T)[i]? = some (.int .u32 x) := fun i hi => ⟨_, tab_get T i (by omega)⟩
theorem size_u32 : ∀ w, (sizeOf 22).run Try.prog w = .ok 1 w := fun w => by kernel_rfl
theorem guard_tab : Try.prog.eqGuardType Try.prog.depth 24 = false := by kernel_rfl
/-- A number of 32 bits that came in. -/
theorem u32_bv {n : Int} (h : (Lit.int .u32 n).wf = true) : ∃ c : BitVec 32, n = (c.toNat : Int) := by
  have h1 : 0 ≤ n ∧ n < 4294967296 := by
    simp [Lit.wf, IntKind.min, IntKind.max, IntKind.signed, IntKind.bits] at h
    omega
  refine ⟨BitVec.ofNat 32 n.toNat, ?_⟩
  rw [BitVec.toNat_ofNat]
  omega
theorem bt {w w1 w2 : World} (h : Below w.heap.size w w1) (k : Below w1.heap.size w1 w2) : Below w.heap.size w w2 := h.trans (k.mono h.size)
end Go.Proofs.Ytajhenjjhbecoaa
