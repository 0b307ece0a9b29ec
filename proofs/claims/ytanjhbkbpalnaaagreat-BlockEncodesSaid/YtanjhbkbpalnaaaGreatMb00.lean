/-
 The names of the library that the texts behind this one use, made short.
-/
import Derived.Test.YtanjhbkbpalnaaaGreatRows
import Derived.WalkKit
import Derived.WalkSpells
import Derived.WalkLawsBesides
import Derived.ProofKit
import Derived.OpenShut
import Derived.Handy
import Derived.SizedLaws
import Derived.JoinedOf
import Derived.KernelRfl
import Derived.Lib.Hide
import Derived.Lib.SmallJoins
import Derived.Deep.Slices
import Derived.Deep.Fields
import Derived.Deep.SlicePairs
import Derived.Deep.Draws
import Derived.Deep.AppendLies
import Derived.Deep.QuietTactic
import Derived.BigQuiet
import Derived.Deep.RegionHeld3
import Derived.StillTailTactics
import Derived.Laws.OwnMore
import Derived.Laws.Rows
import Derived.Below
import Derived.Carry
namespace Go.Proofs.YtanjhbkbpalnaaaGreat
open Go.ChangeShapes Go.WideShapes Go.ChangeAt Go.RowKit Go.Joins Go.Deep
abbrev qaa := @Lib.hid
abbrev qab := @List.setIfInBounds_toArray
abbrev qac := @List.set_cons_succ
abbrev qad := @List.set_cons_zero
abbrev qae := @List.length_append
abbrev qaf := @Nat.le_refl
abbrev qag := @if_neg
abbrev qah := @if_pos
abbrev qai := @IntKind.wrap_i64
abbrev qaj := @Below.refl
abbrev qak := @List.append_assoc
abbrev qal := @wpAnyH_take
abbrev qam := @List.getElem_mem
abbrev qan := @List.getElem?_eq_getElem
abbrev qao := @List.take_succ_eq_append_getElem
abbrev qap := @Int.toNat_natCast
abbrev qaq := @List.getElem?_toArray
abbrev qar := @List.length_take
abbrev qas := @World.size_alloc
abbrev qat := @Or.inl
abbrev qau := @List.length_cons
abbrev qav := @AllReadyH.cons
abbrev qaw := @List.getD_eq_getElem?_getD
abbrev qax := @List.take_of_length_le
abbrev qay := @List.length_eq_zero_iff
abbrev qaz := @List.length_drop
abbrev qa0 := @List.size_toArray
abbrev qa1 := @List.take_append_drop
abbrev qa2 := @List.pairwise_append
abbrev qa3 := @List.drop_eq_getElem_cons
abbrev qa4 := @AllReadyH.nil
abbrev qa5 := @List.pairwise_cons
abbrev qa6 := @List.append_nil
abbrev qa7 := @Nat.le_trans
abbrev qa8 := @List.getElem?_cons_succ
abbrev qa9 := @List.mem_cons
abbrev qaA := @ByteArray.size_mk'
abbrev qaB := @wpAnyH_ready
abbrev qaC := @List.mem_cons_self
abbrev qaD := @List.mem_cons_of_mem
abbrev qaE := @Nat.zero_add
abbrev qaF := @Nat.pow_le_pow_right
abbrev qaG := @List.filter_cons
abbrev qaH := @List.getElem?_cons_zero
abbrev qaI := @List.getElem_of_mem
abbrev qaJ := @List.drop_of_length_le
abbrev qaK := @Int.eq_ofNat_of_zero_le
abbrev qaL := @List.length_range
abbrev qaM := @Nat.lt_of_lt_of_le
abbrev qaN := @List.length_map
abbrev qaO := @Nat.pow_succ
abbrev qaP := @decide_eq_true
abbrev qaQ := @bodyPost_ret
abbrev qaR := @List.take_succ_cons
abbrev qaS := @List.mem_filter
abbrev qaT := @Or.inr
abbrev qaU := @decide_eq_false
abbrev qaV := @List.mem_of_mem_take
abbrev qaW := @Nat.eq_zero_or_pos
abbrev qaX := @List.take_zero
abbrev qaY := @List.length_replicate
abbrev qaZ := @Nat.lt_or_ge
abbrev qba := @run_underlying
abbrev qbb := @List.pairwise_iff_getElem
abbrev qbc := @List.nil_append
abbrev qbd := @List.drop_append_of_le_length
abbrev qbe := @List.mem_append_right
abbrev qbf := @List.mem_append
abbrev qbg := @World.ownsRow_nil
abbrev qbh := @Nat.min_eq_left
abbrev qbi := @List.filter_append
abbrev qbj := @List.Pairwise.imp_of_mem
abbrev qbk := @List.mem_range
abbrev qbl := @List.drop_succ_cons
abbrev qbm := @List.mem_append_left
abbrev qbn := @info_parts
abbrev qbo := @Below.grown
abbrev qbp := @List.getElem?_eq_none
abbrev qbq := @decide_eq_true_iff
abbrev qbr := @Nat.add_zero
abbrev qbs := @wp_region_still_tail
abbrev qbt := @List.drop_zero
abbrev qbu := @Nat.pow_pos
abbrev qbv := @List.length_singleton
abbrev qbw := @beq_eq_false_iff_ne
abbrev qbx := @Nat.mul_comm
abbrev qby := @List.all_eq_true
abbrev qbz := @Int.natCast_add
abbrev qb0 := @List.Pairwise.nil
abbrev qb1 := @Nat.div_lt_iff_lt_mul
abbrev qb2 := @List.getElem?_append_right
abbrev qb3 := @wpAnyH_done
abbrev qb4 := @wp_region_held_drew
abbrev qb5 := @List.take_append_of_le_length
abbrev qb6 := @Bool.and_eq_true
abbrev qb7 := @of_decide_eq_true
abbrev qb8 := @Option.map_some
abbrev qb9 := @List.replicate_succ
abbrev qbA := @List.drop_drop
abbrev qbB := @List.getElem_map
abbrev qbC := @List.cons_append
abbrev qbD := @Nat.add_assoc
abbrev qbE := @List.getElem_drop
abbrev qbF := @Nat.add_sub_cancel_left
abbrev qbG := @List.mem_of_mem_drop
abbrev qbH := @Nat.add_sub_cancel
abbrev qbI := @Nat.div_div_eq_div_mul
abbrev qbJ := @congrArg
abbrev qbK := @List.take_length
abbrev qbL := @List.set_append_right
abbrev qbM := @List.mem_map
abbrev qbN := @Exit.noGoto_ret
abbrev qbO := @List.length_set
abbrev qbP := @World.cell?_of_block
abbrev qbQ := @ByteArray.extract_mk
abbrev qbR := @List.ext_getElem
abbrev qbS := @List.filter_eq_nil_iff
abbrev qbT := @Classical.not_not
abbrev qbU := @decide_eq_true_eq
abbrev qbV := @Option.some.injEq
abbrev qbW := @Nat.mul_le_mul_left
abbrev qbX := @Nat.mul_assoc
abbrev qbY := @List.length_filter_le
abbrev qbZ := @List.drop_left'
abbrev qca := @Int.mul_le_mul_of_nonneg_right
abbrev qcb := @List.mem_singleton
abbrev qcc := @Option.getD_some
abbrev qcd := @Nat.pow_add
abbrev qce := @Prod.mk.injEq
abbrev qcf := @Nat.add_mul
abbrev qcg := @List.take_left'
abbrev qch := @List.length_nil
abbrev qci := @Nat.mul_lt_mul_of_pos_right
abbrev qcj := @Nat.zero_le
abbrev qck := @List.getElem_replicate
abbrev qcl := @ByteArray.mk_append_mk
abbrev qcm := @List.Perm.append_left
abbrev qcn := @List.map_cons
abbrev qco := @Array.getElem?_eq_getElem
abbrev qcp := @wpStill_nil
abbrev qcq := @List.Perm.refl
abbrev qcr := @List.getElem?_eq_some_iff
abbrev qcs := @List.getElem?_append_left
abbrev qct := @Nat.mul_le_mul_right
abbrev qcu := @List.map_const'
abbrev qcv := @Nat.lt_trichotomy
abbrev qcw := @Int.natCast_mul
abbrev qcx := @List.ext_getElem?
abbrev qcy := @Nat.zero_mul
abbrev qcz := @Nat.add_comm
abbrev qc0 := @List.filter_eq_self
abbrev qc1 := @Nat.mul_one
abbrev qc2 := @Int.le_refl
abbrev qc3 := @List.drop_length
end Go.Proofs.YtanjhbkbpalnaaaGreat
