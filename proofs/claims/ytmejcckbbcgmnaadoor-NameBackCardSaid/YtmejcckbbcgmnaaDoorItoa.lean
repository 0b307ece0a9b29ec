/-
  The library's contract for strconv.Itoa, laid at this seat's program; its table in the worlds of a call.
-/
import Derived.Test.YtmejcckbbcgmnaaDoorProg
import Derived.Test.YtmejcckbbcgmnaaDoorBase
import Derived.Shelf.Strconv.Itoa3
import Derived.Lib.LaidTab
import Derived.Lib.AppendIntMem
namespace Go.Proofs.YtmejcckbbcgmnaaDoor
set_option linter.unusedSimpArgs false
set_option linter.unusedVariables false
open Go.ChangeShapes Go.WideShapes Go.ChangeAt Go.RowKit Go.Joins Go.Deep Go.Shelf
def itRen : Ren := ⟨fun x => if x = 129 then 32 else if x = 171 then 24 else if x = 243 then 25 else if x = 246 then 26 else if x = 283 then 27 else if x = 284 then 28 else if x = 285 then 29 else if x = 286 then 30 else if x = 317 then 31 else if x = 318 then 33 else if x = 319 then 34 else if x = 320 then 35 else if x = 337 then 36 else if x = 338 then 37 else x, fun x => if x = 0 then 0 else if x = 2 then 2 else if x = 3 then 3 else if x = 4 then 4 else if x = 5 then 5 else if x = 9 then 9 else if x = 20 then 20 else if x = 37 then 40 else if x = 46 then 53 else if x = 51 then 51 else if x = 53 then 43 else if x = 171 then 42 else if x = 173 then 46 else if x = 212 then 50 else if x = 213 then 52 else if x = 232 then 56 else if x = 233 then 57 else x, fun x => if x = 17 then 0 else if x = 18 then 1 else if x = 19 then 2 else x⟩
theorem itLays : LaysM.n171 Tryd.prog itRen where
  mixed := by kernel_rfl
  f129 := Tryd.func32.trans (by kernel_rfl)
  f171 := Tryd.func24.trans (by kernel_rfl)
  f243 := Tryd.func25.trans (by kernel_rfl)
  f246 := Tryd.func26.trans (by kernel_rfl)
  f283 := Tryd.func27.trans (by kernel_rfl)
  f284 := Tryd.func28.trans (by kernel_rfl)
  f285 := Tryd.func29.trans (by kernel_rfl)
  f286 := Tryd.func30.trans (by kernel_rfl)
  f317 := Tryd.func31.trans (by kernel_rfl)
  f318 := Tryd.func33.trans (by kernel_rfl)
  f319 := Tryd.func34.trans (by kernel_rfl)
  f320 := Tryd.func35.trans (by kernel_rfl)
  f337 := Tryd.func36.trans (by kernel_rfl)
  f338 := Tryd.func37.trans (by kernel_rfl)
  t0 := by kernel_rfl
  a0 := Tryd.isAgg0
  z0 := Tryd.sizeOf0
  v0 := Tryd.zeroValue0
  t2 := by kernel_rfl
  a2 := Tryd.isAgg2
  z2 := Tryd.sizeOf2
  v2 := Tryd.zeroValue2
  t3 := by kernel_rfl
  a3 := Tryd.isAgg3
  z3 := Tryd.sizeOf3
  v3 := Tryd.zeroValue3
  t4 := by kernel_rfl
  a4 := Tryd.isAgg4
  z4 := Tryd.sizeOf4
  v4 := Tryd.zeroValue4
  t5 := by kernel_rfl
  a5 := Tryd.isAgg5
  z5 := Tryd.sizeOf5
  v5 := Tryd.zeroValue5
  t9 := by kernel_rfl
  a9 := Tryd.isAgg9
  z9 := Tryd.sizeOf9
  v9 := Tryd.zeroValue9
  t20 := by kernel_rfl
  a20 := Tryd.isAgg20
  z20 := Tryd.sizeOf20
  v20 := Tryd.zeroValue20
  t37 := by kernel_rfl
  a37 := Tryd.isAgg40
  z37 := Tryd.sizeOf40
  v37 := Tryd.zeroValue40
  t46 := by kernel_rfl
  a46 := Tryd.isAgg53
  z46 := Tryd.sizeOf53
  v46 := Tryd.zeroValue53
  t51 := by kernel_rfl
  a51 := Tryd.isAgg51
  z51 := Tryd.sizeOf51
  v51 := Tryd.zeroValue51
  t53 := by kernel_rfl
  a53 := Tryd.isAgg43
  z53 := Tryd.sizeOf43
  v53 := Tryd.zeroValue43
  t171 := by kernel_rfl
  a171 := Tryd.isAgg42
  z171 := Tryd.sizeOf42
  v171 := Tryd.zeroValue42
  t173 := by kernel_rfl
  a173 := Tryd.isAgg46
  z173 := Tryd.sizeOf46
  v173 := Tryd.zeroValue46
  t212 := by kernel_rfl
  a212 := Tryd.isAgg50
  z212 := Tryd.sizeOf50
  v212 := Tryd.zeroValue50
  t213 := by kernel_rfl
  a213 := Tryd.isAgg52
  z213 := Tryd.sizeOf52
  t232 := by kernel_rfl
  a232 := Tryd.isAgg56
  z232 := Tryd.sizeOf56
  v232 := Tryd.zeroValue56
  t233 := by kernel_rfl
  a233 := Tryd.isAgg57
  z233 := Tryd.sizeOf57
  v233 := Tryd.zeroValue57
  g17 := by kernel_rfl
  g18 := by kernel_rfl
  g19 := by kernel_rfl
  i0 := by kernel_rfl
  i2 := by kernel_rfl
  i3 := by kernel_rfl
  i4 := by kernel_rfl
  i5 := by kernel_rfl
  i9 := by kernel_rfl
  i20 := by kernel_rfl
  i37 := by kernel_rfl
  i46 := by kernel_rfl
  i51 := by kernel_rfl
  i53 := by kernel_rfl
  i171 := by kernel_rfl
  i173 := by kernel_rfl
  i212 := by kernel_rfl
  i232 := by kernel_rfl
  i233 := by kernel_rfl
  m17 := by kernel_rfl
  m18 := by kernel_rfl
  m19 := by kernel_rfl
def NTab (w : World) : Prop := Lib.TabIs Tryd.prog w "internal/strconv.uint64pow10" .u64 Lib.pow10Tab
theorem NTab.of {w w' : World} (h : NTab w) (hb : Below w.heap.size w w') : NTab w' := by
  have hg : Tryd.prog.globalNamed "internal/strconv.uint64pow10" = some 0 := by kernel_rfl
  unfold NTab Lib.TabIs World.var? at h ⊢
  rw [hg] at h ⊢
  simp only [Option.bind_some] at h ⊢
  have hlt : 0 < w.heap.size := by
    rcases Nat.lt_or_ge 0 w.heap.size with h' | h'
    · exact h'
    · rw [Array.getElem?_eq_none h'] at h; cases h
  rw [hb.block _ hlt]
  exact h
theorem itoa_any (n : Int) (h0 : 0 ≤ n) (h1 : n ≤ 9223372036854775807) (w : World) (ht : NTab w) :
    Calls Tryd.prog 24 #[.int .i64 n] w fun e w' => e = .returned (.string ⟨(Lib.decDigits n.toNat).toArray⟩) ∧ Below w.heap.size w w' :=
  (Any.strconv_Itoa itLays n (by omega) h1 w ht).mono fun e w' ⟨he, k, os, hw⟩ => by
    refine ⟨?_, ?_⟩
    · rw [he]
      obtain ⟨m, rfl⟩ : ∃ m : Nat, n = m := ⟨n.toNat, by omega⟩
      rw [Lib.itoa_nonneg]
      rfl
    · rw [hw]
      exact Lib.below_grow _ w (Nat.le_refl _) k os
end Go.Proofs.YtmejcckbbcgmnaaDoor
