/-
 The names of the library that the texts behind this one use, made short.
-/
import Derived.Test.YtanjhbkbpalnaaaGreatRows
import Derived.WalkKit
import Derived.WalkSpells
import Derived.WalkLawsBesides
import Derived.ProofKit
import Derived.OpenShut
import Derived.Handy
import Derived.SizedLaws
import Derived.JoinedOf
import Derived.KernelRfl
import Derived.Lib.Hide
import Derived.Lib.SmallJoins
import Derived.Deep.Slices
import Derived.Deep.Fields
import Derived.Deep.SlicePairs
import Derived.Deep.Draws
import Derived.Deep.AppendLies
import Derived.Deep.QuietTactic
import Derived.BigQuiet
import Derived.Deep.RegionHeld3
import Derived.StillTailTactics
import Derived.Laws.OwnMore
import Derived.Laws.Rows
import Derived.Below
import Derived.Carry
namespace Go.Proofs.YtanjhbkbpalnaaaGreat
open Go.ChangeShapes Go.WideShapes Go.ChangeAt Go.RowKit Go.Joins Go.Deep
abbrev qaa := @Lib.hid
abbrev qab := @List.length_append
abbrev qac := @List.setIfInBounds_toArray
abbrev qad := @Nat.le_refl
abbrev qae := @if_neg
abbrev qaf := @List.set_cons_succ
abbrev qag := @if_pos
abbrev qah := @List.getElem?_eq_getElem
abbrev qai := @List.set_cons_zero
abbrev qaj := @List.getD_eq_getElem?_getD
abbrev qak := @Below.refl
abbrev qal := @IntKind.wrap_i64
abbrev qam := @List.append_assoc
abbrev qan := @Int.toNat_natCast
abbrev qao := @List.length_take
abbrev qap := @List.length_cons
abbrev qaq := @List.getElem_mem
abbrev qar := @List.take_of_length_le
abbrev qas := @List.length_drop
abbrev qat := @List.take_succ_eq_append_getElem
abbrev qau := @List.drop_eq_getElem_cons
abbrev qav := @List.length_replicate
abbrev qaw := @World.size_alloc
abbrev qax := @List.take_append_drop
abbrev qay := @Or.inl
abbrev qaz := @Nat.zero_add
abbrev qa0 := @Nat.pow_le_pow_right
abbrev qa1 := @List.length_eq_zero_iff
abbrev qa2 := @List.pairwise_append
abbrev qa3 := @List.size_toArray
abbrev qa4 := @List.mem_cons_of_mem
abbrev qa5 := @List.mem_cons_self
abbrev qa6 := @AllReadyH.cons
abbrev qa7 := @List.length_range
abbrev qa8 := @List.append_nil
abbrev qa9 := @List.pairwise_cons
abbrev qaA := @Nat.le_trans
abbrev qaB := @List.getElem?_toArray
abbrev qaC := @List.mem_cons
abbrev qaD := @List.length_map
abbrev qaE := @List.getElem_cons_zero
abbrev qaF := @Int.eq_ofNat_of_zero_le
abbrev qaG := @List.filter_cons
abbrev qaH := @List.drop_of_length_le
abbrev qaI := @Or.inr
abbrev qaJ := @List.getElem_of_mem
abbrev qaK := @AllReadyH.nil
abbrev qaL := @ByteArray.size_mk'
abbrev qaM := @List.take_succ_cons
abbrev qaN := @List.mem_of_mem_take
abbrev qaO := @wpAnyH_ready
abbrev qaP := @List.replicate_succ
abbrev qaQ := @List.getElem_map
abbrev qaR := @Nat.pow_succ
abbrev qaS := @List.mem_range
abbrev qaT := @List.mem_filter
abbrev qaU := @wpAnyH_take
abbrev qaV := @List.pairwise_iff_getElem
abbrev qaW := @List.drop_append_of_le_length
abbrev qaX := @Nat.pow_pos
abbrev qaY := @List.ext_getElem
abbrev qaZ := @Nat.lt_of_lt_of_le
abbrev qba := @decide_eq_true_iff
abbrev qbb := @List.take_zero
abbrev qbc := @List.nil_append
abbrev qbd := @List.getElem_range
abbrev qbe := @Nat.lt_or_ge
abbrev qbf := @Nat.min_eq_left
abbrev qbg := @List.mem_of_mem_drop
abbrev qbh := @List.take_append_of_le_length
abbrev qbi := @List.drop_zero
abbrev qbj := @List.getElem?_append_right
abbrev qbk := @List.mem_append
abbrev qbm := @Nat.eq_zero_or_pos
abbrev qbn := @World.ownsRow_nil
abbrev qbo := @run_underlying
abbrev qbp := @List.mem_append_right
abbrev qbq := @List.getElem?_eq_none
abbrev qbr := @List.filter_append
abbrev qbs := @List.Pairwise.imp_of_mem
abbrev qbt := @List.drop_drop
abbrev qbu := @List.drop_succ_cons
abbrev qbv := @Nat.add_zero
abbrev qbw := @bodyPost_ret
abbrev qbx := @List.length_nil
abbrev qby := @List.mem_append_left
abbrev qbz := @Below.grown
abbrev qb0 := @beq_eq_false_iff_ne
abbrev qb1 := @info_parts
abbrev qb2 := @wp_region_still_tail
abbrev qb3 := @List.cons_append
abbrev qb4 := @List.getElem?_cons_succ
abbrev qb5 := @List.mem_map
abbrev qb6 := @Nat.mul_comm
abbrev qb7 := @List.getElem_cons_succ
abbrev qb8 := @Prod.mk.injEq
abbrev qb9 := @Nat.mul_lt_mul_of_pos_right
abbrev qbA := @List.Pairwise.nil
abbrev qbB := @Int.natCast_add
abbrev qbC := @congrArg
abbrev qbD := @List.countP_append
abbrev qbE := @Nat.div_lt_iff_lt_mul
abbrev qbF := @Nat.pow_add
abbrev qbG := @Option.getD_some
abbrev qbH := @List.all_eq_true
abbrev qbI := @List.countP_cons
abbrev qbJ := @List.length_set
abbrev qbK := @List.drop_left'
abbrev qbL := @List.getElem_drop
abbrev qbM := @of_decide_eq_true
abbrev qbN := @List.getElem?_append_left
abbrev qbO := @World.cell?_of_block
abbrev qbP := @Nat.div_div_eq_div_mul
abbrev qbQ := @Nat.add_sub_cancel
abbrev qbR := @Option.map_some
abbrev qbS := @Nat.sub_self
abbrev qbT := @List.take_length
abbrev qbU := @Nat.add_assoc
abbrev qbV := @Nat.add_sub_cancel_left
abbrev qbW := @List.getElem_replicate
abbrev qbX := @decide_eq_false
abbrev qbY := @Array.getElem?_eq_getElem
abbrev qbZ := @decide_eq_true
abbrev qca := @Bool.and_eq_true
abbrev qcb := @Nat.zero_le
abbrev qcc := @List.set_append_right
abbrev qcd := @List.take_left'
abbrev qce := @ByteArray.extract_mk
abbrev qcf := @List.replicate_succ'
abbrev qcg := @List.filter_eq_nil_iff
abbrev qch := @Option.some.injEq
abbrev qci := @Nat.mul_le_mul_left
abbrev qcj := @List.replicate_append_replicate
abbrev qck := @decide_eq_true_eq
abbrev qcl := @Nat.mul_assoc
abbrev qcm := @Int.natCast_mul
abbrev qcn := @List.length_filter_le
abbrev qco := @Int.mul_le_mul_of_nonneg_right
abbrev qcp := @List.length_singleton
abbrev qcq := @List.mem_singleton
abbrev qcr := @wpAnyH_done
abbrev qcs := @Nat.add_mul
abbrev qct := @Nat.mul_le_mul_right
abbrev qcu := @List.map_set
abbrev qcv := @List.map_append
abbrev qcw := @List.map_const'
abbrev qcx := @List.getElem_set
abbrev qcy := @List.Perm.append_left
abbrev qcz := @List.map_cons
abbrev qc0 := @List.countP_singleton
abbrev qc1 := @Nat.sub_zero
abbrev qc2 := @List.getElem?_take
abbrev qc3 := @List.Perm.refl
abbrev qc4 := @World.cell?_setCell_other
abbrev qc5 := @List.getElem?_eq_some_iff
abbrev qc6 := @wpStill_nil
abbrev qc7 := @UInt8.toNat_inj
abbrev qc8 := @List.ext_getElem?
abbrev qc9 := @List.getElem_take
abbrev qcA := @Nat.lt_trichotomy
abbrev qcB := @Exit.noGoto_ret
abbrev qcC := @Nat.add_comm
abbrev qcD := @List.map_congr_left
abbrev qcE := @List.filter_eq_self
abbrev qcF := @List.countP_eq_zero
abbrev qcG := @List.replicate_zero
abbrev qcH := @List.take_add
abbrev qcI := @List.drop_length
abbrev qcJ := @Nat.mod_eq_of_lt
abbrev qcK := @Nat.mul_one
abbrev qcL := @beq_iff_eq
end Go.Proofs.YtanjhbkbpalnaaaGreat
