/-
 The names of the library that the texts behind this one use, made short.
-/
import Derived.Test.YtanjhbkbpalnaaaGreatRows
import Derived.WalkKit
import Derived.WalkSpells
import Derived.WalkLawsBesides
import Derived.ProofKit
import Derived.OpenShut
import Derived.Handy
import Derived.SizedLaws
import Derived.JoinedOf
import Derived.KernelRfl
import Derived.Lib.Hide
import Derived.Lib.SmallJoins
import Derived.Deep.Slices
import Derived.Deep.Fields
import Derived.Deep.SlicePairs
import Derived.Deep.Draws
import Derived.Deep.AppendLies
import Derived.Deep.QuietTactic
import Derived.BigQuiet
import Derived.Deep.RegionHeld3
import Derived.StillTailTactics
import Derived.Laws.OwnMore
import Derived.Laws.Rows
import Derived.Below
import Derived.Carry
namespace Go.Proofs.YtanjhbkbpalnaaaGreat
open Go.ChangeShapes Go.WideShapes Go.ChangeAt Go.RowKit Go.Joins Go.Deep
abbrev qaa := @Lib.hid
abbrev qab := @List.setIfInBounds_toArray
abbrev qac := @List.set_cons_succ
abbrev qad := @List.set_cons_zero
abbrev qae := @List.length_append
abbrev qaf := @Nat.le_refl
abbrev qag := @if_neg
abbrev qah := @if_pos
abbrev qai := @IntKind.wrap_i64
abbrev qaj := @List.getElem?_eq_getElem
abbrev qak := @List.append_assoc
abbrev qal := @wpAnyH_take
abbrev qam := @Below.refl
abbrev qan := @List.getElem?_toArray
abbrev qao := @List.length_take
abbrev qap := @List.take_succ_eq_append_getElem
abbrev qaq := @List.getElem_mem
abbrev qar := @List.getD_eq_getElem?_getD
abbrev qas := @Or.inl
abbrev qat := @List.length_drop
abbrev qau := @List.length_cons
abbrev qav := @Int.toNat_natCast
abbrev qaw := @List.getElem?_cons_succ
abbrev qax := @List.take_append_drop
abbrev qay := @World.size_alloc
abbrev qaz := @List.length_eq_zero_iff
abbrev qa0 := @List.getElem?_cons_zero
abbrev qa1 := @AllReadyH.cons
abbrev qa2 := @List.pairwise_append
abbrev qa3 := @List.mem_cons_of_mem
abbrev qa4 := @List.mem_cons_self
abbrev qa5 := @List.take_of_length_le
abbrev qa6 := @List.drop_eq_getElem_cons
abbrev qa7 := @List.pairwise_cons
abbrev qa8 := @List.append_nil
abbrev qa9 := @AllReadyH.nil
abbrev qaA := @List.size_toArray
abbrev qaB := @List.mem_cons
abbrev qaC := @List.length_range
abbrev qaD := @List.filter_cons
abbrev qaE := @List.length_replicate
abbrev qaF := @wpAnyH_ready
abbrev qaG := @Nat.le_trans
abbrev qaH := @Nat.pow_le_pow_right
abbrev qaI := @List.getElem_of_mem
abbrev qaJ := @List.take_succ_cons
abbrev qaK := @Or.inr
abbrev qaL := @Nat.zero_add
abbrev qaM := @List.length_map
abbrev qaN := @bodyPost_ret
abbrev qaO := @List.drop_of_length_le
abbrev qaP := @decide_eq_true
abbrev qaQ := @Int.eq_ofNat_of_zero_le
abbrev qaR := @decide_eq_true_iff
abbrev qaS := @List.nil_append
abbrev qaT := @List.mem_filter
abbrev qaU := @List.mem_range
abbrev qaV := @List.mem_of_mem_take
abbrev qaW := @Nat.pow_succ
abbrev qaX := @List.drop_append_of_le_length
abbrev qaY := @List.getElem_map
abbrev qaZ := @Nat.lt_of_lt_of_le
abbrev qba := @Nat.eq_zero_or_pos
abbrev qbb := @List.take_zero
abbrev qbc := @ByteArray.size_mk'
abbrev qbd := @List.pairwise_iff_getElem
abbrev qbe := @run_underlying
abbrev qbf := @Nat.pow_pos
abbrev qbg := @List.ext_getElem
abbrev qbh := @List.drop_drop
abbrev qbi := @Nat.min_eq_left
abbrev qbj := @List.mem_append_right
abbrev qbk := @List.take_append_of_le_length
abbrev qbl := @List.cons_append
abbrev qbm := @List.mem_append
abbrev qbn := @List.drop_succ_cons
abbrev qbo := @of_decide_eq_true
abbrev qbp := @List.getElem_range
abbrev qbq := @List.filter_append
abbrev qbr := @List.Pairwise.imp_of_mem
abbrev qbs := @List.getElem?_append_right
abbrev qbt := @List.mem_of_mem_drop
abbrev qbu := @List.mem_append_left
abbrev qbv := @decide_eq_false
abbrev qbw := @List.getElem?_eq_none
abbrev qbx := @beq_eq_false_iff_ne
abbrev qby := @List.replicate_succ
abbrev qbz := @Nat.lt_or_ge
abbrev qb0 := @Nat.add_zero
abbrev qb1 := @wp_region_still_tail
abbrev qb2 := @Classical.not_not
abbrev qb3 := @Prod.mk.injEq
abbrev qb4 := @info_parts
abbrev qb5 := @List.all_eq_true
abbrev qb6 := @Nat.mul_lt_mul_of_pos_right
abbrev qb7 := @Int.natCast_add
abbrev qb8 := @List.Pairwise.nil
abbrev qb9 := @List.drop_zero
abbrev qbA := @List.length_singleton
abbrev qbB := @Nat.div_lt_iff_lt_mul
abbrev qbC := @wp_region_held_drew
abbrev qbD := @congrArg
abbrev qbE := @Nat.zero_le
abbrev qbF := @List.drop_left'
abbrev qbG := @List.countP_cons
abbrev qbH := @Bool.and_eq_true
abbrev qbI := @List.mem_map
abbrev qbJ := @Nat.pow_add
abbrev qbK := @List.countP_append
abbrev qbL := @Nat.add_sub_cancel
abbrev qbM := @List.length_set
abbrev qbN := @Option.map_some
abbrev qbO := @Nat.mul_comm
abbrev qbP := @wpAnyH_done
abbrev qbQ := @List.take_length
abbrev qbR := @Nat.add_sub_cancel_left
abbrev qbS := @World.ownsRow_nil
abbrev qbT := @List.take_left'
abbrev qbU := @Array.getElem?_eq_getElem
abbrev qbV := @List.getElem?_append_left
abbrev qbW := @Option.getD_some
abbrev qbX := @List.getElem_drop
abbrev qbY := @List.set_append_right
abbrev qbZ := @List.mem_singleton
abbrev qca := @Exit.noGoto_ret
abbrev qcb := @World.cell?_of_block
abbrev qcc := @Nat.sub_self
abbrev qcd := @List.filter_eq_nil_iff
abbrev qce := @Nat.div_div_eq_div_mul
abbrev qcf := @List.getElem_replicate
abbrev qcg := @Option.some.injEq
abbrev qch := @decide_eq_true_eq
abbrev qci := @List.replicate_append_replicate
abbrev qcj := @List.getElem?_eq_some_iff
abbrev qck := @List.length_filter_le
abbrev qcl := @Nat.mul_le_mul_right
abbrev qcm := @Nat.mul_assoc
abbrev qcn := @Nat.add_assoc
abbrev qco := @List.take_add
abbrev qcp := @Nat.mul_le_mul_left
abbrev qcq := @List.getElem_set
abbrev qcr := @List.map_cons
abbrev qcs := @List.map_set
abbrev qct := @List.Perm.append_left
abbrev qcu := @World.cell?_setCell_other
abbrev qcv := @wpStill_nil
abbrev qcw := @Int.le_refl
abbrev qcx := @List.Perm.refl
abbrev qcy := @Nat.add_mul
abbrev qcz := @List.replicate_succ'
abbrev qc0 := @List.map_const'
abbrev qc1 := @Int.natCast_mul
abbrev qc2 := @Nat.lt_trichotomy
abbrev qc3 := @List.map_append
abbrev qc4 := @List.ext_getElem?
abbrev qc5 := @List.countP_eq_zero
abbrev qc6 := @List.filter_eq_self
abbrev qc7 := @List.map_congr_left
abbrev qc8 := @Nat.mod_eq_of_lt
abbrev qc9 := @Nat.add_comm
abbrev qcA := @Nat.mul_one
abbrev qcB := @Nat.zero_mul
end Go.Proofs.YtanjhbkbpalnaaaGreat
