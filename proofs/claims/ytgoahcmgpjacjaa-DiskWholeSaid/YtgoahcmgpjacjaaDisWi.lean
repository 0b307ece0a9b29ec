/-
  Layer 20: a disk of a law's own beside the law's arguments (ahead of the code's landing).
-/
import Derived.Test.YtgoahcmgpjacjaaDisAw
import Derived.Test.YtgoahcmgpjacjaaDisTa
import Derived.Test.YtgoahcmgpjacjaaDisTb
import Derived.Test.YtgoahcmgpjacjaaDisZ
import Derived.Test.YtgoahcmgpjacjaaDisWh
namespace Go.Proofs.Ytgoahcmgpjacjaa
set_option linter.unusedSimpArgs false
set_option linter.unusedVariables false
open Go.ChangeShapes Go.WideShapes Go.ChangeAt Go.RowKit Go.Joins Go.Deep
theorem few_one (x : Ac) : Few20 [x] ↔ AcFew x := ⟨fun h => h.2 x (List.mem_cons_self ..), fun h => ⟨by simp, fun y hy => by rw [List.mem_singleton] at hy; subst hy; exact h⟩⟩
theorem act_row {W : World} {g : Nat} (x : Ac) (h : Blk W g 29 (acf x).toArray) : Reads W W.heap.size 7 (some ⟨g, 0, none⟩) 1 (dcs acf [x]) := by
  rw [dcs_one]
  refine ⟨rfl, fun _ => ⟨g, 0, rfl, h.lt, fun j v hj => ?_⟩⟩
  rw [Nat.zero_add, h.cell j, List.getElem?_toArray]
  exact hj
abbrev dch (y : Ac) : Ac := ⟨0, 0, [], [], y.dir, y.cuts, y.marks, y.cA, y.cc, y.mA, y.mc⟩
theorem AcOk.dch {W : World} {B : Nat} {y : Ac} (h : AcOk W B y) : AcOk W B (dch y) := ⟨h.cuts, h.marks, h.k1, h.k2, h.m1, h.m2, ⟨by show (-9223372036854775808 : Int) ≤ 0; decide, by show (0 : Int) < _; decide⟩, h.dir⟩
theorem DAt.out {w w2 W : World} {S : Nat → Prop} {g : Nat} {D : Dk} {t : Nat} (h : DAt w2 W S g D t) (hb : Below w.heap.size w w2) : Below w.heap.size w W := hb.trans (h.below.mono hb.size)
theorem DAt.far {w w2 W : World} {S : Nat → Prop} {g : Nat} {D : Dk} {t : Nat} (h : DAt w2 W S g D t) (hb : Below w.heap.size w w2) : ∀ k, S k → w.heap.size ≤ k := fun k hk => Nat.le_trans hb.size (h.new k hk)
theorem DAt.more {w2 W : World} {S : Nat → Prop} {g : Nat} {D : Dk} {t u : Nat} (h : DAt w2 W S g D t) (hu : t ≤ u) : DAt w2 W S g D u := ⟨h.dr, h.sm.more hu, h.new, h.below⟩
section
variable {w w2 W : World} {S : Nat → Prop} {g : Nat} {D : Dk} {t : Nat} (h : DAt w2 W S g D t) (hb : Below w.heap.size w w2) (ht : t ≤ 1000)
include h hb ht
theorem dwh_do (x : Ac) (hx : AcOk w w.heap.size x) (hf : AcFew x) : Calls Try.prog 9 #[.pointer (some ⟨g, 0, none⟩), .agg (acf x).toArray] W fun e w' => e = .returned (.int .i64 (dDoF D x).2) ∧ DOp W w' S g (dDoF D x).1 :=
  law_do_any x W h.dr (h.sm.more ht) (h.far hb) (h.out hb).size (hx.on (h.out hb)) hf
theorem dwh_boot (y : Ac) (hy : AcOk w w.heap.size y) (hm : ∀ m ∈ y.marks, m.length ≤ 100000) : Calls Try.prog 14 #[.pointer (some ⟨g, 0, none⟩), .agg (chf y).toArray] W fun e w' => e = .returned (.int .i64 0) ∧ DOp W w' S g (dbootF D y.dir y.cuts y.marks) :=
  p_dboot_any W h.dr (h.sm.more ht) y ((hy.on (h.out hb)).more (h.out hb).size) (hy.far (h.far hb)) hm
end
end Go.Proofs.Ytgoahcmgpjacjaa
