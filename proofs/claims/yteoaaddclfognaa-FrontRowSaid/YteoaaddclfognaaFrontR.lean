/-
  Layer 6: what the document's own begun, moved, place, Ranks, Row and Text return, for every argument.
-/
import Derived.Test.YteoaaddclfognaaFrontB
import Derived.OwnWalk
namespace Go.Proofs.Yteoaaddclfognaa
set_option linter.unusedSimpArgs false
set_option linter.unusedVariables false
open Go.ChangeShapes Go.WideShapes Go.ChangeAt Go.RowKit Go.Joins Go.Deep

/-! ### Parts of a string -/
theorem str_head (l : List UInt8) (p : Nat) (hp : p ≤ l.length) (w : World) :
    (Instr.slice 9 (.string ⟨l.toArray⟩) none (some (.int .i64 (p : Int))) none).run Try.prog w = .ok (.string ⟨(l.take p).toArray⟩) w := by
  rw [run_slice_string_h w 9 ⟨l.toArray⟩ Try.underlying9 .i64 (p : Int) (by omega) (by rw [ByteArray.size_mk', List.size_toArray]; omega), ByteArray.extract_mk, List.drop_zero, Nat.sub_zero, Int.toNat_natCast]
theorem str_tail (l : List UInt8) (p : Int) (h0 : 0 ≤ p) (hp : p ≤ l.length) (w : World) :
    (Instr.slice 9 (.string ⟨l.toArray⟩) (some (.int .i64 p)) none none).run Try.prog w = .ok (.string ⟨(l.drop p.toNat).toArray⟩) w := by
  rw [run_slice_string_l w 9 ⟨l.toArray⟩ Try.underlying9 .i64 p h0 (by rw [ByteArray.size_mk', List.size_toArray]; exact hp), ByteArray.extract_mk, ByteArray.size_mk', List.size_toArray, List.take_of_length_le (by rw [List.length_drop]; omega)]
theorem str_part (l : List UInt8) (p q : Int) (h0 : 0 ≤ p) (hn : p ≤ q) (hl : q ≤ l.length) (w : World) :
    (Instr.slice 9 (.string ⟨l.toArray⟩) (some (.int .i64 p)) (some (.int .i64 q)) none).run Try.prog w = .ok (.string ⟨((l.drop p.toNat).take (q.toNat - p.toNat)).toArray⟩) w := by
  rw [run_slice_string w 9 ⟨l.toArray⟩ .i64 .i64 p q Try.underlying9 h0 (by omega) (by rw [ByteArray.size_mk', List.size_toArray]; exact hl), ByteArray.extract_mk]
theorem str_add (a b : List UInt8) (h : a.length + b.length ≤ 9223372036854775807) (w : World) : (Op.stringOp .add ⟨a.toArray⟩ ⟨b.toArray⟩).run Try.prog w = .ok (.string ⟨(a ++ b).toArray⟩) w := by
  rw [run_string_add_sum w _ _ (by rw [ByteArray.size_mk', ByteArray.size_mk', List.size_toArray, List.size_toArray]; exact h), ByteArray.mk_append_mk]

set_option maxRecDepth 100000 in
set_option maxHeartbeats 800000 in
theorem fr_begun_any (w : World) : Calls Try.prog 18 #[] w fun e w' => e = .returned (.string ⟨row0.toArray⟩) ∧ Below w.heap.size w w' := by
  obtain ⟨i0, hi, hz0, hz1, hz2⟩ := info_parts mbyte_info
  have Hnext : Hid (∀ k, k < 256 → (bc (row0.take k)).toList ++ [Value.int .u8 (k : Int)] = (bc (row0.take (k + 1))).toList ∧ (row0.take k).length = k) := Lib.hid fun k hk => by
    refine ⟨?_, by rw [List.length_take, row0_len]; omega⟩
    have hl : k < row0.length := by rw [row0_len]; exact hk
    have hg := row0_get k hk
    rw [List.getElem?_eq_getElem hl] at hg
    injection hg with hg
    rw [take_snoc row0 k hl, hg, bc_toList, bc_toList, List.map_append]
    simp [u8_ofNat k hk]
  have Hend : Hid (∀ wr A c, wr.ownsRow w.heap.size 5 1 (.slice A 256 c) 256 (bc (row0.take 256)).toList → (convert 39 9 (.slice A 256 c)).run Try.prog wr = .ok (.string ⟨row0.toArray⟩) wr) := Lib.hid fun wr A c h => by
    obtain ⟨A', c', he, _, hr⟩ := owns_cells h
    injection he with e1 e2 e3
    subst e1
    subst e3
    have hl := row0_len
    rw [List.take_of_length_le (by omega)] at hr
    have := run_str_any Try.underlying39 Try.underlying5 Try.underlying9 wr A c row0 (by rw [hl]; exact hr)
    rw [hl] at this
    exact this
  generalize hf : (fun k => (bc (row0.take k)).toList) = f at *
  have hf' : ∀ k, (bc (row0.take k)).toList = f k := fun k => by rw [← hf]
  have hf0 : f 0 = [] := by rw [← hf' 0]; rfl
  simp only [hf'] at *
  clear hf hf'
  have Hf0 := Lib.hid hf0
  clear hf0
  generalize row0 = RR at *
  go_enter Try.func18, Try.ntmps18
  go_wp2
  go_loopw [1, 2] (fun v i wr => ∃ k : Nat, k ≤ 256 ∧ i = .int .i64 k ∧ Hid (wr.ownsRow w.heap.size 5 1 v k (f k)) ∧ Hid (Below w.heap.size w wr)) (fun _ i _ => 256 - (intOf i).toNat)
  case atStart => exact ⟨0, by omega, rfl, Lib.hid (by rw [Hf0.out]; exact World.ownsRow_nil _ _ _ _), Lib.hid (Below.refl _ _)⟩
  case round =>
    obtain ⟨k, hk, rfl, Hown, Hb⟩ := hrel
    by_cases hlt : k < 256
    · have hki : (0 : Int) ≤ (k : Int) ∧ (k : Int) < 256 := by omega
      have hm : (k : Int) % 256 = k := by omega
      have Hn := Lib.hid (Hnext.out k hlt)
      have hszr := Hb.out.size
      clear Hnext
      go_wp2_with (at_builtin; refine wpList_append_sep _ rfl _ _ 39 rfl w.heap.size 5 i0 (.int .u8 0) 1 1 Try.underlying39 hi hz0 hz1 hz2 rfl (by decide) _ _ _ rfl (Hown.out.alloc _) _ 1 1 _ _ rfl (reads_new wr 5 #[.int .u8 (k : Int)] 1 1 rfl) ?c1 ?c2 ?c3 ?c4 ?_)
      case c1 => exact rfl
      case c2 => unfold maxLen; omega
      case c3 => omega
      case c4 => simp; omega
      intro v2 w2 hown2 hgrow hsep
      have hb2 : Below w.heap.size w w2 := (Hb.out.trans ((Below.refl _ _).alloc hszr _)).grown hgrow (by simp; omega) (fun g hg => (Hown.out.lt g hg).1)
      have Hown3 : Hid (w2.ownsRow w.heap.size 5 1 v2 (k + 1) (f (k + 1))) := Lib.hid (by rw [← Hn.out.1]; simpa using hown2)
      have Hb2 := Lib.hid hb2
      clear hb2 hown2 hgrow hsep
      go_wp2
      go_roundw
      case rel => exact ⟨k + 1, by omega, iv (by omega), Hown3.out, Hb2.out⟩
      case measure => simp only [intOf]; omega
    · obtain rfl : k = 256 := by omega
      obtain ⟨A, c, rfl, _, _⟩ := owns_cells Hown.out
      have hcv := Hend.out wr A c Hown.out
      go_wp2
      go_ret
      exact ⟨rfl, Hb.out⟩

set_option maxRecDepth 100000 in
set_option maxHeartbeats 800000 in
theorem fr_moved_any (R : List UInt8) (hR : R.length = 256) (k : Nat) (hk : k < 256) (w : World) :
    Calls Try.prog 19 #[.string ⟨R.toArray⟩, .int .i64 (k : Int)] w fun e w' => e = .returned (.string ⟨(mv R k).toArray⟩) ∧ Below w.heap.size w w' := by
  have hki : (0 : Int) ≤ (k : Int) ∧ (k : Int) < 256 := by omega
  have hw1 : IntKind.i64.wrap ((k : Int) + 1) = (k : Int) + 1 := by rw [IntKind.wrap_i64]; omega
  have h1 := fun w => str_part R (k : Int) ((k : Int) + 1) (by omega) (by omega) (by omega) w
  have h2 := fun w => str_head R k (by omega) w
  have h3 := fun w => str_tail R ((k : Int) + 1) (by omega) (by omega) w
  have e1 : (R.drop (k : Int).toNat).take (((k : Int) + 1).toNat - (k : Int).toNat) = [R.getD k 0] := by
    rw [show (k : Int).toNat = k from rfl, show ((k : Int) + 1).toNat = k + 1 from by omega, show k + 1 - k = 1 from by omega, List.drop_eq_getElem_cons (by omega), getD_get R k (by omega)]
    rfl
  have e3 : ((k : Int) + 1).toNat = k + 1 := by omega
  have a1 := fun w => str_add [R.getD k 0] (R.take k) (by rw [List.length_take, List.length_singleton]; omega) w
  have a2 := fun w => str_add ([R.getD k 0] ++ R.take k) (R.drop (k + 1)) (by rw [List.length_append, List.length_take, List.length_singleton, List.length_drop]; omega) w
  have e4 : ([R.getD k 0] ++ R.take k) ++ R.drop (k + 1) = mv R k := by simp [mv]
  rw [e1] at h1
  rw [e3] at h3
  rw [e4] at a2
  clear e1 e3 e4 hR
  generalize [R.getD k 0] ++ R.take k = B2 at *
  generalize [R.getD k 0] = B1 at *
  generalize mv R k = M at *
  generalize R.take k = T at *
  generalize R.drop (k + 1) = D at *
  go_enter Try.func19, Try.ntmps19
  go_wp2
  go_quiet (fail)
  go_wp2
  go_ret
  exact ⟨rfl, below_drewN (Below.refl _ _) _⟩

theorem pl_ne (R : List UInt8) (b : UInt8) (k : Nat) (hk : k < R.length) (h : k < pl R b) : R[k] ≠ b := by
  have := List.not_of_lt_findIdx (p := (· == b)) (xs := R) (i := k) h
  simpa using this

set_option maxRecDepth 100000 in
set_option maxHeartbeats 800000 in
theorem fr_place_any (R : List UInt8) (h : Whole R) (b : UInt8) (w : World) :
    Calls Try.prog 21 #[.string ⟨R.toArray⟩, .int .u8 (b.toNat : Int)] w fun e w' => e = .returned (.int .i64 (pl R b : Int)) ∧ w = w' := by
  have hlen := h.len
  have hp := pl_lt h b
  have Hne : Hid (∀ k (hk : k < (ByteArray.mk R.toArray).size), k < pl R b → ¬ (((ByteArray.mk R.toArray)[k]'hk).toNat : Int) = (b.toNat : Int)) := Lib.hid fun k hk hlt e => by
    rw [ba_get] at e
    exact pl_ne R b k _ hlt (u8_eq (by omega))
  have Heq : Hid (∀ (hk : pl R b < (ByteArray.mk R.toArray).size), (((ByteArray.mk R.toArray)[pl R b]'hk).toNat : Int) = (b.toNat : Int)) := Lib.hid fun hk => by
    rw [ba_get]
    have := pl_get h b
    rw [getD_get _ _ (by omega)] at this
    rw [this]
  have hsz : (ByteArray.mk R.toArray).size = 256 := by rw [ByteArray.size_mk']; simpa using hlen
  have Hsz := Lib.hid hsz
  clear h hsz
  generalize (b.toNat : Int) = bv at *
  generalize pl R b = p at *
  go_enter Try.func21, Try.ntmps21
  go_wp2
  go_loop [5] (fun i => ∃ k : Nat, k ≤ p ∧ i = .int .i64 k) (fun i => p - (intOf i).toNat)
  case atStart => exact ⟨0, by omega, rfl⟩
  case round =>
    obtain ⟨k, hk, rfl⟩ := hrel
    have hki : (0 : Int) ≤ (k : Int) ∧ (k : Int) < 256 := by omega
    have hks : k < (ByteArray.mk R.toArray).size := by rw [Hsz.out]; omega
    have hkz : (k : Int) < R.length := by omega
    by_cases hlt : k < p
    · have hn := Hne.out k hks hlt
      go_wp2
      go_round
      case rel => exact ⟨k + 1, by omega, by go_num⟩
      case measure => simp only [intOf]; omega
    · obtain rfl : k = p := by omega
      have hn := Heq.out hks
      go_wp2
      go_ret
      exact ⟨rfl, rfl⟩
end Go.Proofs.Yteoaaddclfognaa
