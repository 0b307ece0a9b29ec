/-
  Layer 15, the program's: Size, lay and Put of a record, for every record.
-/
import Derived.Test.YtckengcphaaohaaRecB
import Derived.Test.YtckengcphaaohaaVarP
import Derived.Lib.AppendStr
namespace Go.Proofs.Ytckengcphaaohaa
set_option linter.unusedSimpArgs false
set_option linter.unusedVariables false
open Go.ChangeShapes Go.WideShapes Go.ChangeAt Go.RowKit Go.Joins Go.Deep
section
variable {P : Program}
theorem rrun_index (w : World) (t e : TypeId) (n : Nat) (ht : P.underlying t = some (.array n e)) (he : P.underlying e = some (.int .i64)) (hsz : ∀ w, (sizeOf e).run P w = .ok 1 w) (C : List Value) (k : Nat) (hk : k < n) (x : Int) (hx : C[k]? = some (.int .i64 x)) :
    (Instr.index t (.agg C.toArray) (.int .i64 (k : Int))).run P w = .ok (.int .i64 x) w := by
  have hn : 0 ≤ (k : Int) ∧ (k : Int) < (n : Int) := by omega
  simp [Instr.index, run_underlying ht, asIntOf, hn, hsz, part, isAgg, run_underlying he, hx, go_sem]
  intro h
  omega
end
def rnumAt (r : Rc) : Nat → Int
  | 0 => r.1
  | 1 => r.2.1
  | _ => r.2.2.length
theorem rnum_index (x y : Int) (d : List UInt8) (k : Nat) (h : k < 3) (w : World) : (Instr.index 54 (.agg #[.int .i64 x, .int .i64 y, .int .i64 (d.length : Int)]) (.int .i64 (k : Int))).run Try.prog w = .ok (.int .i64 (rnumAt (x, y, d) k)) w :=
  rrun_index w 54 3 3 (by kernel_rfl) (by kernel_rfl) (fun w => by simp [go_sem]) [.int .i64 x, .int .i64 y, .int .i64 (d.length : Int)] k h _ (by
    match k, h with
    | 0, _ => rfl
    | 1, _ => rfl
    | 2, _ => rfl)
def rnB (r : Rc) : Nat → List UInt8
  | 0 => []
  | k + 1 => rnB r k ++ putB (rnumAt r k)
theorem rnB_all (r : Rc) : rB r = rnB r 3 ++ r.2.2 := by
  unfold rB
  simp only [rnB, rnumAt, List.nil_append, List.append_assoc]
theorem rnB_len (r : Rc) : ∀ k, (rnB r k).length ≤ 9 * k
  | 0 => Nat.le_refl _
  | k + 1 => by
    have ih := rnB_len r k
    have := rput_len (rnumAt r k)
    show (rnB r k ++ putB (rnumAt r k)).length ≤ _
    rw [List.length_append]
    omega
theorem rnum_lt {r : Rc} (h : rmay r = true) (k : Nat) : rnumAt r k < 9223372036854775808 := by
  have h2 := (rmay_iff r).1 h
  match k with
  | 0 => show r.1 < _; omega
  | 1 => show r.2.1 < _; omega
  | k + 2 => show (r.2.2.length : Int) < _; omega
set_option maxRecDepth 100000 in
set_option maxHeartbeats 2000000 in
theorem p_rsize_any (x y : Int) (d : List UInt8) (w : World) : Calls Try.prog 15 #[.agg #[.int .i64 x, .int .i64 y, .string ⟨d.toArray⟩]] w fun e w' => e = .returned (.int .i64 (rsizeF (x, y, d) : Int)) ∧ Below w.heap.size w w' := by
  have hc := Lib.hid fun W => p_rcheck_any x y d W
  have HB0 := Lib.hid ((Below.refl w.heap.size w).alloc (Nat.le_refl _) (.cells #[.int .i64 x, .int .i64 y, .string ⟨d.toArray⟩] 23))
  by_cases hm : rmay (x, y, d) = true
  · rw [(rchk_yes hm).1] at hc
    have hF : Hid (rsizeF (x, y, d) = d.length + (rnB (x, y, d) 3).length) := Lib.hid (by unfold rsizeF; rw [(rchk_yes hm).2, rnB_all, List.length_append]; dsimp only; omega)
    have hd : (d.length : Int) ≤ 2000 := by have := (rmay_iff _).1 hm; dsimp only at this; omega
    have HX := Lib.hid (Blk.new w 23 #[.int .i64 x, .int .i64 y, .string ⟨d.toArray⟩])
    have hh := Lib.hid fun W => p_header_any x y d W
    have Hix := Lib.hid fun k h W => rnum_index x y d k h W
    have Hnx : Hid (∀ k, rnB (x, y, d) (k + 1) = rnB (x, y, d) k ++ putB (rnumAt (x, y, d) k)) := Lib.hid fun k => rfl
    have Hln := Lib.hid fun k => rnB_len (x, y, d) k
    have Hlt := Lib.hid fun k => rnum_lt hm k
    have H00 : Hid ((rnB (x, y, d) 0).length = 0) := Lib.hid rfl
    clear hm
    generalize rsizeF (x, y, d) = F at *
    generalize rnB (x, y, d) = R at *
    generalize rnumAt (x, y, d) = N at *
    go_enter Try.func15, Try.ntmps15
    go_wp2_with (first
      | (go_at_call 13; (with_reducible refine (hc.out _).mono ?_); rintro e w1 ⟨rfl, hb1⟩; have H1 := Lib.hid (HX.out.below hb1 HX.out.lt); have HB1 := Lib.hid (HB0.out.trans (hb1.mono HB0.out.size)); have c10 : w1.cell? ⟨w.heap.size, 0, none⟩ = some (.int .i64 x) := H1.out.cell 0; have c11 : w1.cell? ⟨w.heap.size, 1, none⟩ = some (.int .i64 y) := H1.out.cell 1; have c12 : w1.cell? ⟨w.heap.size, 2, none⟩ = some (.string ⟨d.toArray⟩) := H1.out.cell 2; clear hb1 hc)
      | (go_at_call 30; (with_reducible refine (hh.out _).mono ?_); rintro e w2 ⟨rfl, hb2⟩; have HB2 := Lib.hid (HB1.out.trans (hb2.mono HB1.out.size)); clear hb2 hh))
    go_loopw [3, 14] (fun s i wr => ∃ k : Nat, k ≤ 3 ∧ i = .int .i64 (k : Int) ∧ s = .int .i64 ((d.length : Int) + ((R k).length : Int)) ∧ Hid (Below w.heap.size w wr)) (fun _ i _ => 3 - (intOf i).toNat)
    case atStart => exact ⟨0, by omega, rfl, by rw [H00.out]; simp, HB2⟩
    case round =>
      obtain ⟨k, hk, rfl, rfl, HB⟩ := hrel
      by_cases hlt : k < 3
      · have hki : (0 : Int) ≤ (k : Int) ∧ (k : Int) < 3 := by omega
        have hix := Hix.out k hlt
        have hs := Lib.hid fun W => size_any (N k) W (Hlt.out k)
        unfold sizeF at hs
        have hnx := Lib.hid (Hnx.out k)
        have l1 := rput_len (N k)
        have l2 := Hln.out k
        clear Hix
        generalize (N k) = z at *
        generalize putB z = Z at *
        have l3 : (Z.length : Int) ≤ 9 ∧ ((R k).length : Int) ≤ 27 := by omega
        clear l1 l2
        go_wp2_with (go_at_call 31; (with_reducible refine (hs.out _).mono ?_); rintro e w3 ⟨rfl, rfl⟩; clear hs)
        go_roundw
        case rel => exact ⟨k + 1, by omega, iv (by omega), iv (by rw [hnx.out, List.length_append]; omega), HB⟩
        case measure => simp only [intOf]; omega
      · obtain rfl : k = 3 := by omega
        have HF : Hid ((d.length : Int) + ((R 3).length : Int) = (F : Int)) := Lib.hid (by rw [hF.out]; omega)
        go_wp2
        go_ret
        exact ⟨by rw [← HF.out]; rfl, HB.out⟩
  · rw [(rchk_no hm).1] at hc
    have hF : Hid (rsizeF (x, y, d) = 0) := Lib.hid (by unfold rsizeF; rw [(rchk_no hm).2]; rfl)
    clear hm
    generalize rsizeF (x, y, d) = F at *
    go_enter Try.func15, Try.ntmps15
    go_wp2_with (go_at_call 13; (with_reducible refine (hc.out _).mono ?_); rintro e w1 ⟨rfl, hb1⟩; have HB1 := Lib.hid (HB0.out.trans (hb1.mono HB0.out.size)); clear hb1 hc)
    go_ret
    exact ⟨by rw [hF.out]; rfl, HB1.out⟩
theorem rstr_cells (X : List UInt8) : Lib.strCells ⟨X.toArray⟩ = (bc X).toList := by simp [Lib.strCells, bc]
theorem bc_app (a b : List UInt8) : (bc a).toList ++ (bc b).toList = (bc (a ++ b)).toList := by simp [bc]
structure RLay (w wr : World) (B g : Nat) (v : Value) (L : List UInt8) (cs : Array Value) : Prop where
  own : wr.ownsRow B 5 1 v L.length (bc L).toList
  blk : Blk wr g 23 cs
  below : Below B w wr
  low : B ≤ w.heap.size
theorem RLay.on {w w1 w2 : World} {B g : Nat} {v : Value} {L : List UInt8} {cs : Array Value} (h : RLay w w1 B g v L cs) (hb : Below w1.heap.size w1 w2) : RLay w w2 B g v L cs :=
  ⟨owns_below h.own hb (Nat.le_refl _), h.blk.below hb h.blk.lt, h.below.trans (hb.mono (Nat.le_trans h.low h.below.size)), h.low⟩
theorem RLay.add {w w1 w2 : World} {B g : Nat} {v v' : Value} {L X : List UInt8} {cs : Array Value} (h : RLay w w1 B g v L cs) {n : Nat} (hn : n = (L ++ X).length) (ho : w2.ownsRow B 5 1 v' n ((bc L).toList ++ Lib.strCells ⟨X.toArray⟩)) (hg : w1.grownBy w2 v.ownBlock) : RLay w w2 B g v' (L ++ X) cs := by
  refine ⟨?_, Blk.grow' h.blk hg (owns_apart h.own h.blk (by decide)), h.below.grown hg (Nat.le_trans h.low h.below.size) fun b hb => (h.own.lt b hb).1, h.low⟩
  rw [rstr_cells, bc_app, hn] at ho
  exact ho
set_option maxRecDepth 100000 in
set_option maxHeartbeats 4000000 in
theorem p_rlay_any (x y : Int) (d : List UInt8) (hm : rmay (x, y, d) = true) (B : Nat) (v : Value) (L : List UInt8) (w : World) (hL : L.length ≤ 1000000) (hB : B ≤ w.heap.size) (ho : w.ownsRow B 5 1 v L.length (bc L).toList) :
    Calls Try.prog 24 #[v, .agg #[.int .i64 x, .int .i64 y, .string ⟨d.toArray⟩]] w fun e w' => ∃ v', e = .returned v' ∧ w'.ownsRow B 5 1 v' (L ++ rB (x, y, d)).length (bc (L ++ rB (x, y, d))).toList ∧ Below B w w' := by
  obtain ⟨i0, hi, hz0, hz1, hz9⟩ := info_parts byte_info
  have HX := Blk.new w 23 #[.int .i64 x, .int .i64 y, .string ⟨d.toArray⟩]
  have hd : d.length ≤ 2000 := by have := (rmay_iff _).1 hm; dsimp only at this; omega
  have HI0 : Hid (RLay w (w.alloc (.cells #[.int .i64 x, .int .i64 y, .string ⟨d.toArray⟩] 23)) B w.heap.size v L #[.int .i64 x, .int .i64 y, .string ⟨d.toArray⟩]) := Lib.hid ⟨ho.alloc _, HX, (Below.refl _ _).alloc hB _, hB⟩
  have hh := Lib.hid fun W => p_header_any x y d W
  have Hix := Lib.hid fun k h W => rnum_index x y d k h W
  have Hnx : Hid (∀ k, rnB (x, y, d) (k + 1) = rnB (x, y, d) k ++ putB (rnumAt (x, y, d) k)) := Lib.hid fun k => rfl
  have Hln := Lib.hid fun k => rnB_len (x, y, d) k
  have Hlt := Lib.hid fun k => rnum_lt hm k
  have H00 : Hid (rnB (x, y, d) 0 = []) := Lib.hid rfl
  have HA : Hid (rB (x, y, d) = rnB (x, y, d) 3 ++ d) := Lib.hid (rnB_all (x, y, d))
  clear hm HX ho
  generalize rB (x, y, d) = F at *
  generalize rnB (x, y, d) = R at *
  generalize rnumAt (x, y, d) = N at *
  go_enter Try.func24, Try.ntmps24
  go_wp2_with (go_at_call 30; (with_reducible refine (hh.out _).mono ?_); rintro e w1 ⟨rfl, hb1⟩; have HI1 := Lib.hid (HI0.out.on hb1); clear hb1 hh)
  go_loopw [0, 11] (fun o i wr => ∃ k : Nat, k ≤ 3 ∧ i = .int .i64 (k : Int) ∧ Hid (RLay w wr B w.heap.size o (L ++ R k) #[.int .i64 x, .int .i64 y, .string ⟨d.toArray⟩])) (fun _ i _ => 3 - (intOf i).toNat)
  case atStart => exact ⟨0, by omega, rfl, Lib.hid (by rw [H00.out, List.append_nil]; exact HI1.out)⟩
  case round =>
    obtain ⟨k, hk, rfl, HI⟩ := hrel
    by_cases hlt : k < 3
    · have hki : (0 : Int) ≤ (k : Int) ∧ (k : Int) < 3 := by omega
      have hix := Hix.out k hlt
      have hp := Lib.hid fun W => put_any (N k) W (Hlt.out k)
      unfold strInt at hp
      have hnx := Lib.hid (Hnx.out k)
      have l1 := rput_len (N k)
      have l2 := Hln.out k
      clear Hix
      have l3 : (L ++ R k).length ≤ 1000027 := by rw [List.length_append]; omega
      clear l2
      generalize (N k) = z at *
      generalize putB z = Z at *
      generalize putE z = E at *
      go_wp2_with (first
        | (go_at_call 33; (with_reducible refine (hp.out _).mono ?_); rintro e w3 ⟨rfl, hb3⟩; have HI3 := Lib.hid (HI.out.on hb3); clear hb3 hp)
        | (refine Lib.wpList_append_own_string _ rfl _ _ 50 9 rfl B 5 i0 Try.underlying50 Try.underlying9 hi hz0 hz1 hz9 _ _ _ rfl HI3.out.own _ rfl ?c1 ?c2 (Nat.le_trans HI3.out.low HI3.out.below.size) ?_))
      case c1 => rw [ByteArray.size_mk', List.size_toArray]; unfold maxLen; omega
      case c2 => rw [ByteArray.size_mk', List.size_toArray]; omega
      · intro v' w4 ho4 hg4 _
        have HI4 := Lib.hid (HI3.out.add (X := Z) (by simp only [List.length_append]) ho4 hg4)
        clear ho4 hg4
        go_wp2
        go_roundw
        case rel => exact ⟨k + 1, by omega, iv (by omega), Lib.hid (by rw [hnx.out, ← List.append_assoc]; exact HI4.out)⟩
        case measure => simp only [intOf]; omega
    · obtain rfl : k = 3 := by omega
      have c12 : wr.cell? ⟨w.heap.size, 2, none⟩ = some (.string ⟨d.toArray⟩) := HI.out.blk.cell 2
      have l2 := Hln.out 3
      have l3 : (L ++ R 3).length ≤ 1000027 := by rw [List.length_append]; omega
      clear l2
      go_wp2_with (refine Lib.wpList_append_own_string _ rfl _ _ 50 9 rfl B 5 i0 Try.underlying50 Try.underlying9 hi hz0 hz1 hz9 _ _ _ rfl HI.out.own _ rfl ?c3 ?c4 (Nat.le_trans HI.out.low HI.out.below.size) ?_)
      case c3 => rw [ByteArray.size_mk', List.size_toArray]; unfold maxLen; omega
      case c4 => rw [ByteArray.size_mk', List.size_toArray]; omega
      · intro v' w4 ho4 hg4 _
        have HI4 := Lib.hid (HI.out.add (X := d) (by simp only [List.length_append]) ho4 hg4)
        clear ho4 hg4
        go_wp2
        go_ret
        refine ⟨_, rfl, ?_, HI4.out.below⟩
        rw [HA.out, ← List.append_assoc]
        exact HI4.out.own
set_option maxRecDepth 100000 in
set_option maxHeartbeats 2000000 in
theorem p_rput_any (x y : Int) (d : List UInt8) (w : World) : Calls Try.prog 9 #[.agg #[.int .i64 x, .int .i64 y, .string ⟨d.toArray⟩]] w fun e w' => e = .returned (.tuple #[.string ⟨(rputF (x, y, d)).1.toArray⟩, .int .i64 (rputF (x, y, d)).2]) ∧ Below w.heap.size w w' := by
  have hc := Lib.hid fun W => p_rcheck_any x y d W
  have HB0 := Lib.hid ((Below.refl w.heap.size w).alloc (Nat.le_refl _) (.cells #[.int .i64 x, .int .i64 y, .string ⟨d.toArray⟩] 23))
  by_cases hm : rmay (x, y, d) = true
  · rw [(rchk_yes hm).1] at hc
    rw [(rchk_yes hm).2]
    have hl := Lib.hid fun B W (hB : B ≤ W.heap.size) => p_rlay_any x y d hm B (.slice none 0 0) [] W (Nat.zero_le _) hB (World.ownsRow_nil _ _ _ _)
    rw [List.nil_append] at hl
    have HX := Lib.hid (Blk.new w 23 #[.int .i64 x, .int .i64 y, .string ⟨d.toArray⟩])
    clear hm
    generalize rB (x, y, d) = F at *
    dsimp only
    go_enter Try.func9, Try.ntmps9
    go_wp2_with (first
      | (go_at_call 13; (with_reducible refine (hc.out _).mono ?_); rintro e w1 ⟨rfl, hb1⟩; have H1 := Lib.hid (HX.out.below hb1 HX.out.lt); have HB1 := Lib.hid (HB0.out.trans (hb1.mono HB0.out.size)); have c10 : w1.cell? ⟨w.heap.size, 0, none⟩ = some (.int .i64 x) := H1.out.cell 0; have c11 : w1.cell? ⟨w.heap.size, 1, none⟩ = some (.int .i64 y) := H1.out.cell 1; have c12 : w1.cell? ⟨w.heap.size, 2, none⟩ = some (.string ⟨d.toArray⟩) := H1.out.cell 2; clear hb1 hc)
      | (go_at_call 24; (with_reducible refine (hl.out w.heap.size _ HB1.out.size).mono ?_); rintro e w2 ⟨v2, rfl, ho2, hb2⟩; have HB2 := Lib.hid (HB1.out.trans hb2); obtain ⟨A2, cc2, rfl, hc2, hr2⟩ := owns_cells ho2; have hst := run_str_any Try.underlying50 Try.underlying5 Try.underlying9 w2 A2 cc2 F hr2; clear hb2 hl ho2 hr2))
    go_ret2
    exact ⟨rfl, HB2.out⟩
  · rw [(rchk_no hm).1] at hc
    rw [(rchk_no hm).2]
    clear hm
    go_enter Try.func9, Try.ntmps9
    go_wp2_with (go_at_call 13; (with_reducible refine (hc.out _).mono ?_); rintro e w1 ⟨rfl, hb1⟩; have HB1 := Lib.hid (HB0.out.trans (hb1.mono HB0.out.size)); clear hb1 hc)
    go_ret2
    exact ⟨rfl, HB1.out⟩
end Go.Proofs.Ytckengcphaaohaa
