/-
 What the law of the last of these texts stands on, part 51.
-/
import Derived.Test.YtoinjdmlembgeaaGreatMg43
import Derived.Outline
namespace Go.Proofs.YtoinjdmlembgeaaGreat
set_option linter.unusedSimpArgs false
set_option linter.unusedVariables false
open Go.ChangeShapes Go.WideShapes Go.ChangeAt Go.RowKit Go.Joins Go.Deep
theorem str_head (l : List UInt8) (p : Nat) (hp : p ≤ l.length) (w : World) :
  (Instr.slice 9 (.string ⟨l.toArray⟩) none (some (.int .i64 (p : Int))) none).run Tryz.prog w = .ok (.string ⟨(l.take p).toArray⟩) w := by
 rw [run_slice_string_h w 9 ⟨l.toArray⟩ Tryz.underlying9 .i64 (p : Int) (by omega) (by rw [ByteArray.size_mk', List.size_toArray]; omega), ByteArray.extract_mk, List.drop_zero, Nat.sub_zero, Int.toNat_natCast]
theorem str_tail (l : List UInt8) (p : Int) (h0 : 0 ≤ p) (hp : p ≤ l.length) (w : World) :
  (Instr.slice 9 (.string ⟨l.toArray⟩) (some (.int .i64 p)) none none).run Tryz.prog w = .ok (.string ⟨(l.drop p.toNat).toArray⟩) w := by
 rw [run_slice_string_l w 9 ⟨l.toArray⟩ Tryz.underlying9 .i64 p h0 (by rw [ByteArray.size_mk', List.size_toArray]; exact hp), ByteArray.extract_mk, ByteArray.size_mk', List.size_toArray, List.take_of_length_le (by rw [List.length_drop]; omega)]
theorem str_part (l : List UInt8) (p q : Int) (h0 : 0 ≤ p) (hn : p ≤ q) (hl : q ≤ l.length) (w : World) :
  (Instr.slice 9 (.string ⟨l.toArray⟩) (some (.int .i64 p)) (some (.int .i64 q)) none).run Tryz.prog w = .ok (.string ⟨((l.drop p.toNat).take (q.toNat - p.toNat)).toArray⟩) w := by
 rw [run_slice_string w 9 ⟨l.toArray⟩ .i64 .i64 p q Tryz.underlying9 h0 (by omega) (by rw [ByteArray.size_mk', List.size_toArray]; exact hl), ByteArray.extract_mk]
theorem str_add (a b : List UInt8) (h : a.length + b.length ≤ 9223372036854775807) (w : World) : (Op.stringOp .add ⟨a.toArray⟩ ⟨b.toArray⟩).run Tryz.prog w = .ok (.string ⟨(a ++ b).toArray⟩) w := by
 rw [run_string_add_sum w _ _ (by rw [ByteArray.size_mk', ByteArray.size_mk', List.size_toArray, List.size_toArray]; exact h), ByteArray.mk_append_mk]
set_option maxRecDepth 100000 in
set_option maxHeartbeats 800000 in
theorem fr_begun_any (w : World) : Calls Tryz.prog 46 #[] w fun e w' => e = .returned (.string ⟨row0.toArray⟩) ∧ Below w.heap.size w w' := by
 obtain ⟨i0, hi, hz0, hz1, hz2⟩ := info_parts ydJ
 have Hnext : Hid (∀ k, k < 256 → (bc (row0.take k)).toList ++ [Value.int .u8 (k : Int)] = (bc (row0.take (k + 1))).toList ∧ (row0.take k).length = k) := Lib.hid fun k hk => by
  refine ⟨?_, by rw [List.length_take, ygf]; omega⟩
  have hl : k < row0.length := by rw [ygf]; exact hk
  have hg := row0_get k hk
  rw [List.getElem?_eq_getElem hl] at hg
  injection hg with hg
  rw [yc0 row0 k hl, hg, ydw, ydw, List.map_append]
  simp [ya0 k hk]
 have Hend : Hid (∀ wr A c, wr.ownsRow w.heap.size 5 1 (.slice A 256 c) 256 (bc (row0.take 256)).toList → (convert 36 9 (.slice A 256 c)).run Tryz.prog wr = .ok (.string ⟨row0.toArray⟩) wr) := Lib.hid fun wr A c h => by
  obtain ⟨A', c', he, _, hr⟩ := yae h
  injection he with e1 e2 e3
  subst e1
  subst e3
  have hl := ygf
  rw [List.take_of_length_le (by omega)] at hr
  have := ycV Tryz.underlying36 Tryz.underlying5 Tryz.underlying9 wr A c row0 (by rw [hl]; exact hr)
  rw [hl] at this
  exact this
 generalize hf : (fun k => (bc (row0.take k)).toList) = f at *
 have hf' : ∀ k, (bc (row0.take k)).toList = f k := fun k => by rw [← hf]
 have hf0 : f 0 = [] := by rw [← hf' 0]; rfl
 simp only [hf'] at *
 clear hf hf'
 have Hf0 := Lib.hid hf0
 clear hf0
 generalize row0 = RR at *
 go_enter Tryz.func46, Tryz.ntmps46
 go_wp2
 go_loopw [1, 2] (fun v i wr => ∃ k : Nat, k ≤ 256 ∧ i = .int .i64 k ∧ Hid (wr.ownsRow w.heap.size 5 1 v k (f k)) ∧ Hid (Below w.heap.size w wr)) (fun _ i _ => 256 - (intOf i).toNat)
 case atStart => exact ⟨0, by omega, rfl, Lib.hid (by rw [Hf0.out]; exact World.ownsRow_nil _ _ _ _), Lib.hid (Below.refl _ _)⟩
 case round =>
  obtain ⟨k, hk, rfl, Hown, Hb⟩ := hrel
  by_cases hlt : k < 256
  ·have hki : (0 : Int) ≤ (k : Int) ∧ (k : Int) < 256 := by omega
   have hm : (k : Int) % 256 = k := by omega
   have Hn := Lib.hid (Hnext.out k hlt)
   have hszr := Hb.out.size
   clear Hnext
   go_wp2_with (at_builtin; refine yaf _ rfl _ _ 36 rfl w.heap.size 5 i0 (.int .u8 0) 1 1 Tryz.underlying36 hi hz0 hz1 hz2 rfl (by decide) _ _ _ rfl (Hown.out.alloc _) _ 1 1 _ _ rfl (ya1 wr 5 #[.int .u8 (k : Int)] 1 1 rfl) ?c1 ?c2 ?c3 ?c4 ?_)
   case c1 => exact rfl
   case c2 => unfold maxLen; omega
   case c3 => omega
   case c4 => simp; omega
   intro v2 w2 hown2 hgrow hsep
   have hb2 : Below w.heap.size w w2 := (Hb.out.trans ((Below.refl _ _).alloc hszr _)).grown hgrow (by simp; omega) (fun g hg => (Hown.out.lt g hg).1)
   have Hown3 : Hid (w2.ownsRow w.heap.size 5 1 v2 (k + 1) (f (k + 1))) := Lib.hid (by rw [← Hn.out.1]; simpa using hown2)
   have Hb2 := Lib.hid hb2
   clear hb2 hown2 hgrow hsep
   go_wp2
   go_roundw
   case rel => exact ⟨k + 1, by omega, iv (by omega), Hown3.out, Hb2.out⟩
   case measure => simp only [intOf]; omega
  ·obtain rfl : k = 256 := by omega
   obtain ⟨A, c, rfl, _, _⟩ := yae Hown.out
   have hcv := Hend.out wr A c Hown.out
   go_wp2
   go_ret
   exact ⟨rfl, Hb.out⟩
set_option maxRecDepth 100000 in
set_option maxHeartbeats 800000 in
theorem fr_moved_any (R : List UInt8) (hR : R.length = 256) (k : Nat) (hk : k < 256) (w : World) :
  Calls Tryz.prog 48 #[.string ⟨R.toArray⟩, .int .i64 (k : Int)] w fun e w' => e = .returned (.string ⟨(mv R k).toArray⟩) ∧ Below w.heap.size w w' := by
 have hki : (0 : Int) ≤ (k : Int) ∧ (k : Int) < 256 := by omega
 have hw1 : IntKind.i64.wrap ((k : Int) + 1) = (k : Int) + 1 := by rw [IntKind.wrap_i64]; omega
 have h1 := fun w => str_part R (k : Int) ((k : Int) + 1) (by omega) (by omega) (by omega) w
 have h2 := fun w => str_head R k (by omega) w
 have h3 := fun w => str_tail R ((k : Int) + 1) (by omega) (by omega) w
 have e1 : (R.drop (k : Int).toNat).take (((k : Int) + 1).toNat - (k : Int).toNat) = [R.getD k 0] := by
  rw [show (k : Int).toNat = k from rfl, show ((k : Int) + 1).toNat = k + 1 from by omega, show k + 1 - k = 1 from by omega, List.drop_eq_getElem_cons (by omega), ygy R k (by omega)]
  rfl
 have e3 : ((k : Int) + 1).toNat = k + 1 := by omega
 have a1 := fun w => str_add [R.getD k 0] (R.take k) (by rw [List.length_take, List.length_singleton]; omega) w
 have a2 := fun w => str_add ([R.getD k 0] ++ R.take k) (R.drop (k + 1)) (by rw [List.length_append, List.length_take, List.length_singleton, List.length_drop]; omega) w
 have e4 : ([R.getD k 0] ++ R.take k) ++ R.drop (k + 1) = mv R k := by simp [mv]
 rw [e1] at h1
 rw [e3] at h3
 rw [e4] at a2
 clear e1 e3 e4 hR
 generalize [R.getD k 0] ++ R.take k = B2 at *
 generalize [R.getD k 0] = B1 at *
 generalize mv R k = M at *
 generalize R.take k = T at *
 generalize R.drop (k + 1) = D at *
 go_enter Tryz.func48, Tryz.ntmps48
 go_wp2
 go_quiet (fail)
 go_wp2
 go_ret
 exact ⟨rfl, yaj (Below.refl _ _) _⟩
theorem pl_ne (R : List UInt8) (b : UInt8) (k : Nat) (hk : k < R.length) (h : k < pl R b) : R[k] ≠ b := by
 have := List.not_of_lt_findIdx (p := (· == b)) (xs := R) (i := k) h
 simpa using this
set_option maxRecDepth 100000 in
set_option maxHeartbeats 800000 in
theorem fr_place_any (R : List UInt8) (h : Whole R) (b : UInt8) (w : World) :
  Calls Tryz.prog 47 #[.string ⟨R.toArray⟩, .int .u8 (b.toNat : Int)] w fun e w' => e = .returned (.int .i64 (pl R b : Int)) ∧ w = w' := by
 have hlen := h.len
 have hp := pl_lt h b
 have Hne : Hid (∀ k (hk : k < (ByteArray.mk R.toArray).size), k < pl R b → ¬ (((ByteArray.mk R.toArray)[k]'hk).toNat : Int) = (b.toNat : Int)) := Lib.hid fun k hk hlt e => by
  rw [ycZ] at e
  exact pl_ne R b k _ hlt (u8_eq (by omega))
 have Heq : Hid (∀ (hk : pl R b < (ByteArray.mk R.toArray).size), (((ByteArray.mk R.toArray)[pl R b]'hk).toNat : Int) = (b.toNat : Int)) := Lib.hid fun hk => by
  rw [ycZ]
  have := pl_get h b
  rw [ygy _ _ (by omega)] at this
  rw [this]
 have hsz : (ByteArray.mk R.toArray).size = 256 := by rw [ByteArray.size_mk']; simpa using hlen
 have Hsz := Lib.hid hsz
 clear h hsz
 generalize (b.toNat : Int) = bv at *
 generalize pl R b = p at *
 go_enter Tryz.func47, Tryz.ntmps47
 go_wp2
 go_loop [5] (fun i => ∃ k : Nat, k ≤ p ∧ i = .int .i64 k) (fun i => p - (intOf i).toNat)
 case atStart => exact ⟨0, by omega, rfl⟩
 case round =>
  obtain ⟨k, hk, rfl⟩ := hrel
  have hki : (0 : Int) ≤ (k : Int) ∧ (k : Int) < 256 := by omega
  have hks : k < (ByteArray.mk R.toArray).size := by rw [Hsz.out]; omega
  have hkz : (k : Int) < R.length := by omega
  by_cases hlt : k < p
  ·have hn := Hne.out k hks hlt
   go_wp2
   go_round
   case rel => exact ⟨k + 1, by omega, by go_num⟩
   case measure => simp only [intOf]; omega
  ·obtain rfl : k = p := by omega
   have hn := Heq.out hks
   go_wp2
   go_ret
   exact ⟨rfl, rfl⟩
theorem ints_snoc (a b : List Int) : ints a ++ ints b = ints (a ++ b) := by simp [ints]
set_option maxRecDepth 100000 in
set_option maxHeartbeats 2000000 in
theorem ref_ranks_any (l : List UInt8) (hl : l.length ≤ 1000000) (w : World) :
  Calls Tryz.prog 23 #[.string ⟨l.toArray⟩] w fun e w' => ∃ A c, e = .returned (.slice A l.length c) ∧ l.length ≤ c ∧ Reads w' w'.heap.size 1 A l.length (ints (rks row0 l)) ∧ Below w.heap.size w w' := by
 obtain ⟨i0, hi, hz0, hz1, hz2⟩ := info_parts mint_info
 have hll : (l.length : Int) ≤ 1000000 := by omega
 have Hlen : Hid (∀ k, k ≤ l.length → (rks row0 (l.take k)).length = k) := Lib.hid fun k hk => by rw [yhj, List.length_take]; omega
 clear hl
 go_enter Tryz.func23, Tryz.ntmps23
 go_wp2_with (go_at_call 46; refine (fr_begun_any _).mono ?_; rintro e w0 ⟨rfl, hb0⟩)
 have Hb0 := Lib.hid hb0
 clear hb0
 go_loopw [3, 4, 5] (fun r v i wr => ∃ k : Nat, k ≤ l.length ∧ i = .int .i64 k ∧ Hid (r = .string ⟨(rowS row0 (l.take k)).toArray⟩) ∧ Hid (wr.ownsRow w0.heap.size 3 1 v k (ints (rks row0 (l.take k)))) ∧ Hid (Below w0.heap.size w0 wr)) (fun _ _ i _ => l.length - (intOf i).toNat)
 case atStart => exact ⟨0, by omega, rfl, Lib.hid rfl, Lib.hid (World.ownsRow_nil _ _ _ _), Lib.hid (Below.refl _ _)⟩
 case round =>
  obtain ⟨k, hk, rfl, Hr, Hown, Hb⟩ := hrel
  obtain rfl := Hr.out
  clear Hr
  by_cases hlt : k < l.length
  ·have hki : (0 : Int) ≤ (k : Int) ∧ (k : Int) < l.length := by omega
   have hks : k < (ByteArray.mk l.toArray).size := by rw [ByteArray.size_mk']; simpa using hlt
   have hW := row0_whole.rowS (l.take k)
   have hpl : ∀ W, Calls Tryz.prog 47 #[.string ⟨(rowS row0 (l.take k)).toArray⟩, .int .u8 ((((ByteArray.mk l.toArray)[k]'hks).toNat : Nat) : Int)] W fun e w' => e = .returned (.int .i64 (pl (rowS row0 (l.take k)) l[k] : Int)) ∧ W = w' := fun W => fr_place_any _ hW l[k] W
   have hmv : ∀ W, Calls Tryz.prog 48 #[.string ⟨(rowS row0 (l.take k)).toArray⟩, .int .i64 (pl (rowS row0 (l.take k)) l[k] : Int)] W fun e w' => e = .returned (.string ⟨(rowS row0 (l.take (k + 1))).toArray⟩) ∧ Below W.heap.size W w' := fun W => by
    rw [rowS_take _ _ _ hlt]
    exact fr_moved_any _ hW.len _ (pl_lt hW _) W
   have Hrk := Lib.hid (rks_take row0 l k hlt)
   have Hpl := Lib.hid hpl
   have Hmv := Lib.hid hmv
   have hlk := Hlen.out k (by omega)
   have hszr := Hb.out.size
   clear hpl hmv hW
   generalize (pl (rowS row0 (l.take k)) l[k] : Int) = j at *
   generalize hR2 : rowS row0 (l.take (k + 1)) = R2 at *
   have HR2 := Lib.hid hR2
   clear hR2
   generalize rowS row0 (l.take k) = R1 at *
   go_wp2_with (first
    | (go_at_call 47; refine (Hpl.out _).mono ?_; rintro e w1 ⟨rfl, rfl⟩)
    | (at_builtin; refine yaf _ rfl _ _ 28 rfl w0.heap.size 3 i0 (.int .i64 0) 1 8 Tryz.underlying28 hi hz0 hz1 hz2 rfl (by decide) _ _ _ rfl (Hown.out.alloc _) _ 1 1 _ _ rfl (ya1 wr 3 #[.int .i64 j] 1 1 rfl) ?c1 ?c2 ?c3 ?c4 ?_))
   case c1 => exact rfl
   case c2 => unfold maxLen; omega
   case c3 => omega
   case c4 => simp; omega
   intro v2 w2 hown2 hgrow hsep
   have hb2 : Below w0.heap.size w0 w2 := (Hb.out.trans ((Below.refl _ _).alloc hszr _)).grown hgrow (by simp; omega) (fun g hg => (Hown.out.lt g hg).1)
   have Hown3 : Hid (w2.ownsRow w0.heap.size 3 1 v2 (k + 1) (ints (rks row0 (l.take (k + 1))))) := Lib.hid (by rw [Hrk.out, ← ints_snoc]; simpa [ints] using hown2)
   have Hb2 := Lib.hid hb2
   clear hb2 hown2 hgrow hsep Hown
   go_wp2_with (go_at_call 48; refine (Hmv.out _).mono ?_; rintro e w3 ⟨rfl, hb3⟩; have Hb3 := Lib.hid hb3; clear hb3)
   go_roundw
   case rel => exact ⟨k + 1, by omega, iv (by omega), Lib.hid (by rw [HR2.out]), Lib.hid (yah Hown3.out Hb3.out (Nat.le_refl _)), Lib.hid (Hb2.out.trans (Hb3.out.mono Hb2.out.size))⟩
   case measure => simp only [intOf]; omega
  ·obtain rfl : k = l.length := by omega
   obtain ⟨A, c, rfl, hc, hr⟩ := yae Hown.out
   rw [List.take_length] at hr
   have Hr := Lib.hid hr
   clear hr
   go_wp2
   go_ret
   exact ⟨A, c, rfl, hc, Hr.out, Hb0.out.trans (Hb.out.mono Hb0.out.size)⟩
theorem one_byte (x : Int) (b : UInt8) (h : (b.toNat : Int) = x) (W : World) :
  (convert 36 9 (.slice (some ⟨W.heap.size, 0, none⟩) 1 1)).run Tryz.prog (W.alloc (.cells #[.int .u8 x] 5)) = .ok (.string ⟨#[b]⟩) (W.alloc (.cells #[.int .u8 x] 5)) := by
 subst h
 exact run_str (W.alloc (.cells #[.int .u8 (b.toNat : Int)] 5)) W.heap.size 1 1 5 [b] rfl (Blk.new W 5 (bc [b]))
theorem add_bytes (a b : List UInt8) (h : a.length + b.length ≤ 9223372036854775807) (w : World) : (Op.stringOp .add ⟨a.toArray⟩ ⟨b.toArray⟩).run Tryz.prog w = .ok (.string ⟨(a ++ b).toArray⟩) w := by
 rw [run_string_add_sum w _ _ (by rw [ByteArray.size_mk', ByteArray.size_mk', List.size_toArray, List.size_toArray]; exact h), ByteArray.mk_append_mk]
theorem w_div (m d : Nat) (hd : 0 < d) (h : m < 9223372036854775808) : wrap64 ((m : Int).tdiv (d : Int)) = ((m / d : Nat) : Int) := by
 rw [Int.tdiv_eq_ediv_of_nonneg (by omega), ← Int.natCast_ediv]
 have := Nat.div_le_self m d
 generalize m / d = q at *
 unfold wrap64
 omega
theorem lt_63 {f m : Nat} (hf : f ≤ 8) (hm : m < 128 ^ (f + 1)) : m < 9223372036854775808 := by
 rw [← pow9]
 exact Nat.lt_of_lt_of_le hm (Nat.pow_le_pow_right (by omega) (by omega))
set_option maxRecDepth 100000 in
theorem refPut_small (m : Int) (b : UInt8) (w : World) (hb : (b.toNat : Int) = m) (h0 : 0 ≤ m) (h1 : m < 128) : Calls Tryz.prog 16 #[.int .i64 m] w fun e w' => e = .returned (yhM [b] 0) ∧ Below w.heap.size w w' := by
 have hcv := one_byte m b hb w
 clear hb
 go_enter Tryz.func16, Tryz.ntmps16
 go_wp2
 go_ret2
 exact ⟨rfl, by go_grown⟩
theorem refPut_step (m : Int) (b : UInt8) (t : List UInt8) (w : World) (h1 : 128 ≤ m) (hb : (b.toNat : Int) = m % 128 + 128) (ht : t.length ≤ 9)
  (ih : Hid (Calls Tryz.prog 16 #[.int .i64 (wrap64 (m.tdiv 128))] w fun e w' => e = .returned (.tuple #[.string ⟨t.toArray⟩, .int .i64 0]) ∧ Below w.heap.size w w')) :
  Calls Tryz.prog 16 #[.int .i64 m] w fun e w' => e = .returned (yhM (b :: t) 0) ∧ Below w.heap.size w w' := by
 have hcv := one_byte (128 + m % 128) b (by omega)
 have had := add_bytes [b] t (by simp; omega)
 have e1 : (ByteArray.mk [b].toArray) = ⟨#[b]⟩ := rfl
 rw [e1] at had
 clear hb ht
 go_enter Tryz.func16, Tryz.ntmps16
 go_wp2_with (refine ih.out.mono ?_; rintro e w1 ⟨rfl, hb1⟩)
 go_ret2
 have hs1 := hb1.size
 exact ⟨rfl, by go_grown⟩
theorem refPut_in : ∀ (f m : Nat) (w : World), f ≤ 8 → m < 128 ^ (f + 1) → Calls Tryz.prog 16 #[.int .i64 m] w fun e w' => e = .returned (yhM (dg (f + 1) m) 0) ∧ Below w.heap.size w w'
 | f, m, w, hf, hm => by
  by_cases h1 : m < 128
  ·have e : dg (f + 1) m = [UInt8.ofNat m] := by rw [dg, if_pos h1]
   rw [e]
   exact refPut_small (m : Int) _ w (by rw [ya0 _ (by omega)]) (by omega) (by omega)
  ·cases f with
   | zero => simp at hm; omega
   | succ f =>
    have hdiv : m / 128 < 128 ^ (f + 1) := by rw [Nat.div_lt_iff_lt_mul (by omega)]; rw [Nat.pow_succ] at hm; exact hm
    have ih := refPut_in f (m / 128) w (by omega) hdiv
    have hm63 := lt_63 (f := f + 1) hf hm
    have e : dg (f + 1 + 1) m = UInt8.ofNat (128 + m % 128) :: dg (f + 1) (m / 128) := by rw [dg, if_neg h1]
    have hle := dg_le (f + 1) (m / 128)
    rw [e]
    exact refPut_step (m : Int) _ (dg (f + 1) (m / 128)) w (by omega) (by rw [ya0 _ (by omega)]; omega) (by omega) (Lib.hid (by rw [show (128 : Int) = ((128 : Nat) : Int) from rfl, w_div m 128 (by omega) hm63]; exact ih))
theorem yf3 (n : Int) (w : World) (h : n < 9223372036854775808) : Calls Tryz.prog 16 #[.int .i64 n] w fun e w' => e = .returned (yhM (putB n) (putE n)) ∧ Below w.heap.size w w' := by
 by_cases h0 : n < 0
 ·have e1 : putB n = [] := by simp [putB, h0]
  have e2 : putE n = 2 := by simp [putE, h0]
  rw [e1, e2]
  clear e1 e2
  go_enter Tryz.func16, Tryz.ntmps16
  go_wp2
  go_ret2
  exact ⟨rfl, by go_grown⟩
 ·obtain ⟨m, rfl⟩ := Int.eq_ofNat_of_zero_le (by omega : 0 ≤ n)
  have e1 : putB (m : Int) = dg 9 m := by rw [yec (by omega), Int.toNat_natCast]
  have e2 : putE (m : Int) = 0 := by unfold putE; rw [if_neg h0]
  rw [e1, e2]
  exact refPut_in 8 m w (by omega) (by rw [pow9]; omega)
end Go.Proofs.YtoinjdmlembgeaaGreat
