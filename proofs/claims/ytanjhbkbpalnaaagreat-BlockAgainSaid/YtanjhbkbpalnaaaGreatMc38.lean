/-
 What the law of the last of these texts stands on, part 38.
-/
import Derived.Test.YtanjhbkbpalnaaaGreatMc27
import Derived.Lib.AppendStr
set_option maxRecDepth 100000
set_option maxHeartbeats 8000000
open Go.Proofs.Tryz
namespace Go.Proofs.YtanjhbkbpalnaaaGreat
set_option linter.unusedSimpArgs false
set_option linter.unusedVariables false
open Go.ChangeShapes Go.WideShapes Go.ChangeAt Go.RowKit Go.Joins Go.Deep
theorem ydm : (prog.info? 54).map (fun i => (i.zero, i.size, i.bytes)) = some (some (.agg #[.int .i64 0, .int .i64 0, .string ⟨#[]⟩]), 3, 32) := by kernel_rfl
def yaP (w w' : World) (e : Ending) (F : List Rc × Int) : Prop := ∃ A c, e = .returned (.tuple #[.slice A F.1.length c, .int .i64 F.2]) ∧ F.1.length ≤ c ∧ Reads w' w'.heap.size 3 A F.1.length (rcs F.1) ∧ Below w.heap.size w w'
theorem ybe {w w' : World} {E : Int} (hb : Below w.heap.size w w') : yaP w w' (.returned (.tuple #[.slice none 0 0, .int .i64 E])) ([], E) := ⟨none, 0, rfl, qaf _, Reads.none_, hb⟩
theorem rgrown {B n : Nat} {w1 W W' : World} {v : Value} {xs : List Value} {o : Obj} (hb : Below B w1 W) (hB : B ≤ W.heap.size) (h : W.ownsRow B 54 3 v n xs) (hg : (W.alloc o).grownBy W' v.ownBlock) : Below B w1 W' :=
 (hb.alloc hB o).grown hg (by rw [qay]; omega) fun b hb => (h.lt b hb).1
theorem rsp_end (s : List UInt8) (f : Nat) (p : Int) (acc : List Rc) (h : ¬ p < s.length) : rsp s f p acc = (acc, 0) := by
 cases f with
 | zero => rfl
 | succ f =>
  unfold rsp
  rw [qag h]
theorem rsp_bad (s : List UInt8) (f : Nat) (p : Int) (acc : List Rc) (h : p < s.length) (hf : (s.length : Int) - p ≤ f) (hE : (ya2 s p).2.2 ≠ 0) : rsp s f p acc = ([], (ya2 s p).2.2) := by
 cases f with
 | zero => omega
 | succ f =>
  unfold rsp
  rw [qah h, qah hE]
theorem rsp_more (s : List UInt8) (f : Nat) (p : Int) (acc : List Rc) (h : p < s.length) (hf : (s.length : Int) - p ≤ f) (hE : (ya2 s p).2.2 = 0) : ∃ f2 : Nat, (s.length : Int) - (ya2 s p).2.1 ≤ f2 ∧ rsp s f p acc = rsp s f2 (ya2 s p).2.1 (acc ++ [(ya2 s p).1]) := by
 have h2 := (rget_ok hE).2.1
 cases f with
 | zero => omega
 | succ f =>
  refine ⟨f, by omega, ?_⟩
  show (if p < s.length then (if (ya2 s p).2.2 ≠ 0 then ([], (ya2 s p).2.2) else rsp s f (ya2 s p).2.1 (acc ++ [(ya2 s p).1])) else (acc, 0)) = _
  rw [qah h, qag (by omega)]
structure RInv (w wr : World) (s : List UInt8) (R0 : List Rc × Int) (v : Value) (p : Int) (acc : List Rc) (f : Nat) : Prop where
 lo : 0 ≤ p
 hi : p ≤ s.length
 few : (acc.length : Int) ≤ p
 fuel : (s.length : Int) - p ≤ f
 rest : rsp s f p acc = R0
 own : wr.ownsRow w.heap.size 54 3 v acc.length (rcs acc)
 below : Below w.heap.size w wr
section
variable {P : Program}
theorem rrun_index (w : World) (t e : TypeId) (n : Nat) (ht : P.underlying t = some (.array n e)) (he : P.underlying e = some (.int .i64)) (hsz : ∀ w, (sizeOf e).run P w = .ok 1 w) (C : List Value) (k : Nat) (hk : k < n) (x : Int) (hx : C[k]? = some (.int .i64 x)) :
  (Instr.index t (.agg C.toArray) (.int .i64 (k : Int))).run P w = .ok (.int .i64 x) w := by
 have hn : 0 ≤ (k : Int) ∧ (k : Int) < (n : Int) := by omega
 simp [Instr.index, qbe ht, asIntOf, hn, hsz, part, isAgg, qbe he, hx, go_sem]
 intro h
 omega
end
def yd8 (r : Rc) : Nat → Int
 | 0 => r.1
 | 1 => r.2.1
 | _ => r.2.2.length
theorem rnum_index (x y : Int) (d : List UInt8) (k : Nat) (h : k < 3) (w : World) : (Instr.index 91 (.agg #[.int .i64 x, .int .i64 y, .int .i64 (d.length : Int)]) (.int .i64 (k : Int))).run prog w = .ok (.int .i64 (yd8 (x, y, d) k)) w :=
 rrun_index w 91 3 3 (by kernel_rfl) (by kernel_rfl) (fun w => by simp [go_sem]) [.int .i64 x, .int .i64 y, .int .i64 (d.length : Int)] k h _ (by
  match k, h with
  | 0, _ => rfl
  | 1, _ => rfl
  | 2, _ => rfl)
def rnB (r : Rc) : Nat → List UInt8
 | 0 => []
 | k + 1 => rnB r k ++ putB (yd8 r k)
theorem rnB_all (r : Rc) : rB r = rnB r 3 ++ r.2.2 := by
 unfold rB
 simp only [rnB, yd8, qaS, qak]
theorem rnB_len (r : Rc) : ∀ k, (rnB r k).length ≤ 9 * k
 | 0 => qaf _
 | k + 1 => by
  have ih := rnB_len r k
  have := yd0 (yd8 r k)
  show (rnB r k ++ putB (yd8 r k)).length ≤ _
  rw [qae]
  omega
theorem rnum_lt {r : Rc} (h : rmay r = true) (k : Nat) : yd8 r k < 9223372036854775808 := by
 have h2 := (ybc r).1 h
 match k with
 | 0 => show r.1 < _; omega
 | 1 => show r.2.1 < _; omega
 | k + 2 => show (r.2.2.length : Int) < _; omega
theorem yg2 (x y : Int) (d : List UInt8) (w : World) : Calls prog 32 #[.agg #[.int .i64 x, .int .i64 y, .string ⟨d.toArray⟩]] w fun e w' => e = .returned (.int .i64 (ydb (x, y, d) : Int)) ∧ Below w.heap.size w w' := by
 have hc := qaa fun W => yfj x y d W
 have HB0 := qaa ((qam w.heap.size w).alloc (qaf _) (.cells #[.int .i64 x, .int .i64 y, .string ⟨d.toArray⟩] 54))
 by_cases hm : rmay (x, y, d) = true
 ·rw [(yeq hm).1] at hc
  have hF : Hid (ydb (x, y, d) = d.length + (rnB (x, y, d) 3).length) := qaa (by unfold ydb; rw [(yeq hm).2, rnB_all, qae]; dsimp only; omega)
  have hd : (d.length : Int) ≤ 2000 := by have := (ybc _).1 hm; dsimp only at this; omega
  have HX := qaa (Blk.new w 54 #[.int .i64 x, .int .i64 y, .string ⟨d.toArray⟩])
  have hh := qaa fun W => ycY x y d W
  have Hix := qaa fun k h W => rnum_index x y d k h W
  have Hnx : Hid (∀ k, rnB (x, y, d) (k + 1) = rnB (x, y, d) k ++ putB (yd8 (x, y, d) k)) := qaa fun k => rfl
  have Hln := qaa fun k => rnB_len (x, y, d) k
  have Hlt := qaa fun k => rnum_lt hm k
  have H00 : Hid ((rnB (x, y, d) 0).length = 0) := qaa rfl
  clear hm
  generalize ydb (x, y, d) = F at *
  generalize rnB (x, y, d) = R at *
  generalize yd8 (x, y, d) = N at *
  go_enter func32, ntmps32
  go_wp2_with (first
   | (go_at_call 57; (with_reducible refine (hc.out _).mono ?_); rintro e w1 ⟨rfl, hb1⟩; have H1 := qaa (HX.out.below hb1 HX.out.lt); have HB1 := qaa (HB0.out.trans (hb1.mono HB0.out.size)); have c10 : w1.cell? ⟨w.heap.size, 0, none⟩ = some (.int .i64 x) := H1.out.cell 0; have c11 : w1.cell? ⟨w.heap.size, 1, none⟩ = some (.int .i64 y) := H1.out.cell 1; have c12 : w1.cell? ⟨w.heap.size, 2, none⟩ = some (.string ⟨d.toArray⟩) := H1.out.cell 2; clear hb1 hc)
   | (go_at_call 58; (with_reducible refine (hh.out _).mono ?_); rintro e w2 ⟨rfl, hb2⟩; have HB2 := qaa (HB1.out.trans (hb2.mono HB1.out.size)); clear hb2 hh))
  go_loopw [3, 14] (fun s i wr => ∃ k : Nat, k ≤ 3 ∧ i = .int .i64 (k : Int) ∧ s = .int .i64 ((d.length : Int) + ((R k).length : Int)) ∧ Hid (Below w.heap.size w wr)) (fun _ i _ => 3 - (intOf i).toNat)
  case atStart => exact ⟨0, by omega, rfl, by rw [H00.out]; simp, HB2⟩
  case round =>
   obtain ⟨k, hk, rfl, rfl, HB⟩ := hrel
   by_cases hlt : k < 3
   ·have hki : (0 : Int) ≤ (k : Int) ∧ (k : Int) < 3 := by omega
    have hix := Hix.out k hlt
    have hs := qaa fun W => size_any (N k) W (Hlt.out k)
    unfold sizeF at hs
    have hnx := qaa (Hnx.out k)
    have l1 := yd0 (N k)
    have l2 := Hln.out k
    clear Hix
    generalize (N k) = z at *
    generalize putB z = Z at *
    have l3 : (Z.length : Int) ≤ 9 ∧ ((R k).length : Int) ≤ 27 := by omega
    clear l1 l2
    go_wp2_with (go_at_call 59; (with_reducible refine (hs.out _).mono ?_); rintro e w3 ⟨rfl, rfl⟩; clear hs)
    go_roundw
    case rel => exact ⟨k + 1, by omega, iv (by omega), iv (by rw [hnx.out, qae]; omega), HB⟩
    case measure => simp only [intOf]; omega
   ·obtain rfl : k = 3 := by omega
    have HF : Hid ((d.length : Int) + ((R 3).length : Int) = (F : Int)) := qaa (by rw [hF.out]; omega)
    go_wp2
    go_ret
    exact ⟨by rw [← HF.out]; rfl, HB.out⟩
 ·rw [(rchk_no hm).1] at hc
  have hF : Hid (ydb (x, y, d) = 0) := qaa (by unfold ydb; rw [(rchk_no hm).2]; rfl)
  clear hm
  generalize ydb (x, y, d) = F at *
  go_enter func32, ntmps32
  go_wp2_with (go_at_call 57; (with_reducible refine (hc.out _).mono ?_); rintro e w1 ⟨rfl, hb1⟩; have HB1 := qaa (HB0.out.trans (hb1.mono HB0.out.size)); clear hb1 hc)
  go_ret
  exact ⟨by rw [hF.out]; rfl, HB1.out⟩
theorem rstr_cells (X : List UInt8) : Lib.strCells ⟨X.toArray⟩ = (bc X).toList := by simp [Lib.strCells, bc]
theorem bc_app (a b : List UInt8) : (bc a).toList ++ (bc b).toList = (bc (a ++ b)).toList := by simp [bc]
structure RLay (w wr : World) (B g : Nat) (v : Value) (L : List UInt8) (cs : Array Value) : Prop where
 own : wr.ownsRow B 5 1 v L.length (bc L).toList
 blk : Blk wr g 54 cs
 below : Below B w wr
 low : B ≤ w.heap.size
theorem RLay.on {w w1 w2 : World} {B g : Nat} {v : Value} {L : List UInt8} {cs : Array Value} (h : RLay w w1 B g v L cs) (hb : Below w1.heap.size w1 w2) : RLay w w2 B g v L cs :=
 ⟨yah h.own hb (qaf _), h.blk.below hb h.blk.lt, h.below.trans (hb.mono (qaG h.low h.below.size)), h.low⟩
theorem RLay.add {w w1 w2 : World} {B g : Nat} {v v' : Value} {L X : List UInt8} {cs : Array Value} (h : RLay w w1 B g v L cs) {n : Nat} (hn : n = (L ++ X).length) (ho : w2.ownsRow B 5 1 v' n ((bc L).toList ++ Lib.strCells ⟨X.toArray⟩)) (hg : w1.grownBy w2 v.ownBlock) : RLay w w2 B g v' (L ++ X) cs := by
 refine ⟨?_, Blk.grow' h.blk hg (ya4 h.own h.blk (by decide)), h.below.grown hg (qaG h.low h.below.size) fun b hb => (h.own.lt b hb).1, h.low⟩
 rw [rstr_cells, bc_app, hn] at ho
 exact ho
theorem p_rlay_any (x y : Int) (d : List UInt8) (hm : rmay (x, y, d) = true) (B : Nat) (v : Value) (L : List UInt8) (w : World) (hL : L.length ≤ 1000000) (hB : B ≤ w.heap.size) (ho : w.ownsRow B 5 1 v L.length (bc L).toList) :
  Calls prog 55 #[v, .agg #[.int .i64 x, .int .i64 y, .string ⟨d.toArray⟩]] w fun e w' => ∃ v', e = .returned v' ∧ w'.ownsRow B 5 1 v' (L ++ rB (x, y, d)).length (bc (L ++ rB (x, y, d))).toList ∧ Below B w w' := by
 obtain ⟨i0, hi, hz0, hz1, hz9⟩ := qb4 ycV
 have HX := Blk.new w 54 #[.int .i64 x, .int .i64 y, .string ⟨d.toArray⟩]
 have hd : d.length ≤ 2000 := by have := (ybc _).1 hm; dsimp only at this; omega
 have HI0 : Hid (RLay w (w.alloc (.cells #[.int .i64 x, .int .i64 y, .string ⟨d.toArray⟩] 54)) B w.heap.size v L #[.int .i64 x, .int .i64 y, .string ⟨d.toArray⟩]) := qaa ⟨ho.alloc _, HX, (qam _ _).alloc hB _, hB⟩
 have hh := qaa fun W => ycY x y d W
 have Hix := qaa fun k h W => rnum_index x y d k h W
 have Hnx : Hid (∀ k, rnB (x, y, d) (k + 1) = rnB (x, y, d) k ++ putB (yd8 (x, y, d) k)) := qaa fun k => rfl
 have Hln := qaa fun k => rnB_len (x, y, d) k
 have Hlt := qaa fun k => rnum_lt hm k
 have H00 : Hid (rnB (x, y, d) 0 = []) := qaa rfl
 have HA : Hid (rB (x, y, d) = rnB (x, y, d) 3 ++ d) := qaa (rnB_all (x, y, d))
 clear hm HX ho
 generalize rB (x, y, d) = F at *
 generalize rnB (x, y, d) = R at *
 generalize yd8 (x, y, d) = N at *
 go_enter func55, ntmps55
 go_wp2_with (go_at_call 58; (with_reducible refine (hh.out _).mono ?_); rintro e w1 ⟨rfl, hb1⟩; have HI1 := qaa (HI0.out.on hb1); clear hb1 hh)
 go_loopw [0, 11] (fun o i wr => ∃ k : Nat, k ≤ 3 ∧ i = .int .i64 (k : Int) ∧ Hid (RLay w wr B w.heap.size o (L ++ R k) #[.int .i64 x, .int .i64 y, .string ⟨d.toArray⟩])) (fun _ i _ => 3 - (intOf i).toNat)
 case atStart => exact ⟨0, by omega, rfl, qaa (by rw [H00.out, qa8]; exact HI1.out)⟩
 case round =>
  obtain ⟨k, hk, rfl, HI⟩ := hrel
  by_cases hlt : k < 3
  ·have hki : (0 : Int) ≤ (k : Int) ∧ (k : Int) < 3 := by omega
   have hix := Hix.out k hlt
   have hp := qaa fun W => put_any (N k) W (Hlt.out k)
   unfold strInt at hp
   have hnx := qaa (Hnx.out k)
   have l1 := yd0 (N k)
   have l2 := Hln.out k
   clear Hix
   have l3 : (L ++ R k).length ≤ 1000027 := by rw [qae]; omega
   clear l2
   generalize (N k) = z at *
   generalize putB z = Z at *
   generalize putE z = E at *
   go_wp2_with (first
    | (go_at_call 94; (with_reducible refine (hp.out _).mono ?_); rintro e w3 ⟨rfl, hb3⟩; have HI3 := qaa (HI.out.on hb3); clear hb3 hp)
    | (refine Lib.wpList_append_own_string _ rfl _ _ 36 9 rfl B 5 i0 underlying36 underlying9 hi hz0 hz1 hz9 _ _ _ rfl HI3.out.own _ rfl ?c1 ?c2 (qaG HI3.out.low HI3.out.below.size) ?_))
   case c1 => rw [qbc, qaA]; unfold maxLen; omega
   case c2 => rw [qbc, qaA]; omega
   ·intro v' w4 ho4 hg4 _
    have HI4 := qaa (HI3.out.add (X := Z) (by simp only [qae]) ho4 hg4)
    clear ho4 hg4
    go_wp2
    go_roundw
    case rel => exact ⟨k + 1, by omega, iv (by omega), qaa (by rw [hnx.out, ← qak]; exact HI4.out)⟩
    case measure => simp only [intOf]; omega
  ·obtain rfl : k = 3 := by omega
   have c12 : wr.cell? ⟨w.heap.size, 2, none⟩ = some (.string ⟨d.toArray⟩) := HI.out.blk.cell 2
   have l2 := Hln.out 3
   have l3 : (L ++ R 3).length ≤ 1000027 := by rw [qae]; omega
   clear l2
   go_wp2_with (refine Lib.wpList_append_own_string _ rfl _ _ 36 9 rfl B 5 i0 underlying36 underlying9 hi hz0 hz1 hz9 _ _ _ rfl HI.out.own _ rfl ?c3 ?c4 (qaG HI.out.low HI.out.below.size) ?_)
   case c3 => rw [qbc, qaA]; unfold maxLen; omega
   case c4 => rw [qbc, qaA]; omega
   ·intro v' w4 ho4 hg4 _
    have HI4 := qaa (HI.out.add (X := d) (by simp only [qae]) ho4 hg4)
    clear ho4 hg4
    go_wp2
    go_ret
    refine ⟨_, rfl, ?_, HI4.out.below⟩
    rw [HA.out, ← qak]
    exact HI4.out.own
end Go.Proofs.YtanjhbkbpalnaaaGreat
