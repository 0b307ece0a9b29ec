/-
 What the law of the last of these texts stands on, part 34.
-/
import Derived.Test.YtanjhbkbpalnaaaGreatMb32
import Derived.Test.YtanjhbkbpalnaaaGreatMb33
set_option maxRecDepth 100000
set_option maxHeartbeats 8000000
open Go.Proofs.Tryz
namespace Go.Proofs.YtanjhbkbpalnaaaGreat
set_option linter.unusedSimpArgs false
set_option linter.unusedVariables false
open Go.ChangeShapes Go.WideShapes Go.ChangeAt Go.RowKit Go.Joins Go.Deep
theorem rec_info : (prog.info? 54).map (fun i => (i.zero, i.size, i.bytes)) = some (some (.agg #[.int .i64 0, .int .i64 0, .string ⟨#[]⟩]), 3, 32) := by kernel_rfl
def ybn (w w' : World) (e : Ending) (F : List Rc × Int) : Prop := ∃ A c, e = .returned (.tuple #[.slice A F.1.length c, .int .i64 F.2]) ∧ F.1.length ≤ c ∧ Reads w' w'.heap.size 3 A F.1.length (rcs F.1) ∧ Below w.heap.size w w'
theorem ybf {w w' : World} {E : Int} (hb : Below w.heap.size w w') : ybn w w' (.returned (.tuple #[.slice none 0 0, .int .i64 E])) ([], E) := ⟨none, 0, rfl, qaf _, Reads.none_, hb⟩
theorem rgrown {B n : Nat} {w1 W W' : World} {v : Value} {xs : List Value} {o : Obj} (hb : Below B w1 W) (hB : B ≤ W.heap.size) (h : W.ownsRow B 54 3 v n xs) (hg : (W.alloc o).grownBy W' v.ownBlock) : Below B w1 W' :=
 (hb.alloc hB o).grown hg (by rw [qas]; omega) fun b hb => (h.lt b hb).1
theorem rsp_end (s : List UInt8) (f : Nat) (p : Int) (acc : List Rc) (h : ¬ p < s.length) : rsp s f p acc = (acc, 0) := by
 cases f with
 | zero => rfl
 | succ f =>
  unfold rsp
  rw [qag h]
theorem rsp_bad (s : List UInt8) (f : Nat) (p : Int) (acc : List Rc) (h : p < s.length) (hf : (s.length : Int) - p ≤ f) (hE : (ya2 s p).2.2 ≠ 0) : rsp s f p acc = ([], (ya2 s p).2.2) := by
 cases f with
 | zero => omega
 | succ f =>
  unfold rsp
  rw [qah h, qah hE]
theorem rsp_more (s : List UInt8) (f : Nat) (p : Int) (acc : List Rc) (h : p < s.length) (hf : (s.length : Int) - p ≤ f) (hE : (ya2 s p).2.2 = 0) : ∃ f2 : Nat, (s.length : Int) - (ya2 s p).2.1 ≤ f2 ∧ rsp s f p acc = rsp s f2 (ya2 s p).2.1 (acc ++ [(ya2 s p).1]) := by
 have h2 := (rget_ok hE).2.1
 cases f with
 | zero => omega
 | succ f =>
  refine ⟨f, by omega, ?_⟩
  show (if p < s.length then (if (ya2 s p).2.2 ≠ 0 then ([], (ya2 s p).2.2) else rsp s f (ya2 s p).2.1 (acc ++ [(ya2 s p).1])) else (acc, 0)) = _
  rw [qah h, qag (by omega)]
structure RInv (w wr : World) (s : List UInt8) (R0 : List Rc × Int) (v : Value) (p : Int) (acc : List Rc) (f : Nat) : Prop where
 lo : 0 ≤ p
 hi : p ≤ s.length
 few : (acc.length : Int) ≤ p
 fuel : (s.length : Int) - p ≤ f
 rest : rsp s f p acc = R0
 own : wr.ownsRow w.heap.size 54 3 v acc.length (rcs acc)
 below : Below w.heap.size w wr
theorem ycC (s : List UInt8) (w : World) (hs : s.length ≤ 1000000) :
  Calls prog 53 #[.string ⟨s.toArray⟩] w fun e w' => ybn w w' e (yag s) := by
 obtain ⟨i0, hi, hz0, hz1, hz9⟩ := qbn rec_info
 by_cases hbig : 20000 < s.length
 ·have fin : yag s = ([], 3) := qah hbig
  rw [fin]
  have hsi : (20000 : Int) < (s.length : Int) := by omega
  clear fin hi hz0 hz1 hz9
  go_enter func53, ntmps53
  go_wp2
  go_ret2
  exact ybf (qaj _ _)
 have hsi : ¬ (20000 : Int) < (s.length : Int) := by omega
 obtain ⟨R0, hR0⟩ : ∃ R0, rsp s s.length 0 [] = R0 := ⟨_, rfl⟩
 have Hbad : Hid (R0.2 ≠ 0 → yag s = ([], R0.2)) := qaa fun h => by unfold yag; rw [qag hbig, hR0, qah h]
 have Hrow : Hid (R0.2 = 0 → ya9 R0.1 ≠ 0 → yag s = ([], ya9 R0.1)) := qaa fun h h2 => by unfold yag; rw [qag hbig, hR0, qag (by omega), qah h2]
 have Hok : Hid (R0.2 = 0 → ya9 R0.1 = 0 → yag s = (R0.1, 0)) := qaa fun h h2 => by unfold yag; rw [qag hbig, hR0, qag (by omega), qag (by omega)]
 have HI0 : Hid (RInv w w s R0 (.slice none 0 0) 0 [] s.length) := qaa ⟨qc2 _, by omega, by simp, by omega, hR0, qbg _ _ _ _, qaj _ _⟩
 have Hs := qaa hs
 clear hR0 hs hbig
 go_enter func53, ntmps53
 go_wp2
 go_loopw [4, 5] (fun v i wr => ∃ (p : Int) (acc : List Rc) (f : Nat), i = .int .i64 p ∧ Hid (RInv w wr s R0 v p acc f)) (fun _ i _ => ((s.length : Int) - intOf i).toNat)
 case atStart => exact ⟨0, [], s.length, rfl, HI0⟩
 case round =>
  obtain ⟨p, acc, f, rfl, HI⟩ := hrel
  have hpi : 0 ≤ p ∧ p ≤ (s.length : Int) := ⟨HI.out.lo, HI.out.hi⟩
  by_cases hlt : p < (s.length : Int)
  ·have hget := fun W => p_rget_any s p W (by have := Hs.out; omega)
   unfold RGPost at hget
   by_cases hE : (ya2 s p).2.2 ≠ 0
   ·have h1 := rsp_bad s f p acc hlt HI.out.fuel hE
    rw [HI.out.rest] at h1
    have HF := qaa (Hbad.out (by rw [h1]; exact hE))
    rw [h1] at HF
    have Hget := qaa hget
    have HB := qaa HI.out.below
    clear hget h1 HI HI0 Hbad Hrow Hok
    generalize (ya2 s p).2.2 = E at *
    generalize (ya2 s p).2.1 = q at *
    generalize (ya2 s p).1 = r at *
    go_wp2_with (go_at_call 100; (with_reducible refine (Hget.out _).mono ?_); rintro e w1 ⟨rfl, hb1⟩; have HB1 := qaa (HB.out.trans (hb1.mono HB.out.size)); clear hb1 Hget)
    go_ret2
    rw [HF.out]
    exact ybf (HB1.out.alloc HB1.out.size _)
   ·have hE0 : (ya2 s p).2.2 = 0 := by omega
    obtain ⟨f2, k1, k2⟩ := rsp_more s f p acc hlt HI.out.fuel hE0
    rw [HI.out.rest] at k2
    have k3 := rget_ok hE0
    rw [hE0] at hget
    have Hget := qaa hget
    have Hk : Hid (0 ≤ (ya2 s p).2.1 ∧ p < (ya2 s p).2.1 ∧ (ya2 s p).2.1 ≤ s.length ∧ (s.length : Int) - (ya2 s p).2.1 ≤ f2 ∧ rsp s f2 (ya2 s p).2.1 (acc ++ [(ya2 s p).1]) = R0) := qaa ⟨by omega, k3.2.1, k3.2.2.1, k1, k2.symm⟩
    have hfew : (acc.length : Int) ≤ 1000000 := by have := HI.out.few; have := Hs.out; omega
    clear hget hE hE0 k1 k2 k3 HI0 Hbad Hrow Hok
    generalize (ya2 s p).2.1 = q at *
    generalize (ya2 s p).1 = r at *
    obtain ⟨x, y, d⟩ := r
    dsimp only at Hget
    go_wp2_with (first
     | (go_at_call 100; (with_reducible refine (Hget.out _).mono ?_); rintro e w1 ⟨rfl, hb1⟩; have HB1 := qaa (HI.out.below.trans (hb1.mono HI.out.below.size)); have HO1 := qaa (yah HI.out.own hb1 (qaf _)); clear hb1 Hget)
     | (refine wpList_append_own _ rfl _ _ 38 rfl w.heap.size 54 i0 (.agg #[.int .i64 0, .int .i64 0, .string ⟨#[]⟩]) 3 32 underlying38 hi hz0 hz1 hz9 rfl (by decide) _ _ _ rfl ((HO1.out.alloc _).alloc _) ⟨w1.heap.size + 1, 0, none⟩ 1 1 [.int .i64 x, .int .i64 y, .string ⟨d.toArray⟩] rfl rfl ?c1 ?c2 ?c3 ?c4 ?c5 ?_))
    case c1 =>
     intro j u hj
     match j, hj with
     | 0, hj => simp at hj; subst hj; simp [Addr.add]
     | 1, hj => simp at hj; subst hj; simp [Addr.add]
     | 2, hj => simp at hj; subst hj; simp [Addr.add]
    case c2 =>
     intro u hu
     simp at hu
     rcases hu with rfl | rfl | rfl <;> rfl
    case c3 => unfold maxLen; omega
    case c4 => omega
    case c5 =>
     have h4 := HB1.out.size
     simp only [qas]
     omega
    ·intro v' w2 hown' hgrow _
     have HI2 : Hid (RInv w w2 s R0 v' q (acc ++ [(x, y, d)]) f2) := qaa ⟨Hk.out.1, Hk.out.2.2.1, by rw [qae, qbv]; have := HI.out.few; have := Hk.out.2.1; omega, Hk.out.2.2.2.1, Hk.out.2.2.2.2, by
      rw [qae, rcs_app]
      exact hown', rgrown (HB1.out.alloc HB1.out.size _) (by rw [qas]; have := HB1.out.size; omega) (HO1.out.alloc _) hgrow⟩
     have hqi : p < q ∧ q ≤ (s.length : Int) := ⟨Hk.out.2.1, Hk.out.2.2.1⟩
     clear hown' hgrow
     go_wp2
     go_roundw
     case rel => exact ⟨q, _, f2, rfl, HI2⟩
     case measure => simp only [intOf]; omega
  ·have h1 := rsp_end s f p acc (by omega)
   rw [HI.out.rest] at h1
   obtain ⟨A, c, hv, hc, hr⟩ := yad HI.out.own
   have hrow := p_rrow_any acc A acc.length c wr rfl (by have := HI.out.few; have := Hs.out; omega) hr
   subst h1
   by_cases hE : ya9 acc ≠ 0
   ·have HF := qaa (Hrow.out rfl hE)
    have Hr := qaa hrow
    have HB := qaa HI.out.below
    subst hv
    clear hrow hr HI HI0 Hbad Hrow Hok
    dsimp only at HF hE
    generalize ya9 acc = E at *
    go_wp2_with (go_at_call 33; (with_reducible refine Hr.out.mono ?_); rintro e w1 ⟨rfl, hb1⟩; have HB1 := qaa (HB.out.trans (hb1.mono HB.out.size)); clear hb1 Hr)
    go_ret2
    rw [HF.out]
    exact ybf HB1.out
   ·have hE0 : ya9 acc = 0 := by omega
    have HF := qaa (Hok.out rfl hE0)
    rw [hE0] at hrow
    have Hr := qaa hrow
    have HB := qaa HI.out.below
    have HRd := qaa hr
    subst hv
    clear hrow hr HI HI0 Hbad Hrow Hok hE hE0
    go_wp2_with (go_at_call 33; (with_reducible refine Hr.out.mono ?_); rintro e w1 ⟨rfl, hb1⟩; have HB1 := qaa (HB.out.trans (hb1.mono HB.out.size)); have HR1 := qaa ((HRd.out.below hb1).more hb1.size); clear hb1 Hr)
    go_ret2
    rw [HF.out]
    exact ⟨A, c, rfl, hc, HR1.out, HB1.out⟩
theorem yfy (l : List Rc) (k : Nat) (h : k < l.length) : rjB (l.take (k + 1)) = rjB (l.take k) ++ rB l[k] := by
 rw [qao h, rjB_app]
 show _ ++ (rB l[k] ++ []) = _
 rw [qa6]
theorem rjB_le (l : List Rc) (k : Nat) : (rjB (l.take k)).length ≤ (rjB l).length := by
 have h : rjB l = rjB (l.take k) ++ rjB (l.drop k) := by rw [← rjB_app, qa1]
 rw [h, qae]
 omega
theorem rB_len {r : Rc} (h : rmay r = true) : (rB r).length ≤ 2027 := by
 have h1 := ybb r.1
 have h2 := ybb r.2.1
 have h3 := ybb r.2.2.length
 have h4 := (ya1 r).1 h
 unfold rB
 rw [qae, qae, qae]
 omega
theorem rref_join_any (l : List Rc) (A : Option Addr) (n c : Nat) (w : World) (hl : l.length = n) (hn : n ≤ 1000000) (hr : Reads w w.heap.size 3 A n (rcs l)) :
  Calls prog 50 #[.slice A n c] w fun e w' => e = .returned (.tuple #[.string ⟨(yal l).1.toArray⟩, .int .i64 (yal l).2]) ∧ Below w.heap.size w w' := by
 have hrow := rref_row_any l A n c w hl hn hr
 by_cases hE : ya9 l ≠ 0
 ·have fin : yal l = ([], ya9 l) := qah hE
  rw [fin]
  have Hrow := qaa hrow
  clear hrow fin hr hl
  generalize ya9 l = E at *
  go_enter func50, ntmps50
  go_wp2_with (go_at_call 95; (with_reducible refine Hrow.out.mono ?_); rintro e w1 ⟨rfl, hb1⟩; have Hb1 := qaa hb1; clear hb1 Hrow)
  go_ret2
  exact ⟨rfl, Hb1.out⟩
 have hE0 : ya9 l = 0 := by omega
 rw [hE0] at hrow
 have Hmay := qaa (ycS hE0)
 have Hbig : Hid (20000 < (rjB l).length → yal l = ([], 3)) := qaa fun h => by unfold yal; rw [qag hE, qah h]
 have Hfit : Hid (¬ 20000 < (rjB l).length → yal l = (rjB l, 0)) := qaa fun h => by unfold yal; rw [qag hE, qag h]
 have Hrow := qaa hrow
 have Hc := qaa (yaX hr hl)
 have Hl := qaa hl
 have H0 : Hid (rjB (l.take 0) = []) := qaa rfl
 clear hr hl hrow hE hE0
 go_enter func50, ntmps50
 go_wp2_with (go_at_call 95; (with_reducible refine Hrow.out.mono ?_); rintro e w1 ⟨rfl, hb1⟩; have Hb1 := qaa hb1; clear hb1 Hrow)
 go_loopw [5, 6] (fun o i wr => ∃ (k : Nat) (U : List UInt8), k ≤ n ∧ i = .int .i64 (k : Int) ∧ o = .string ⟨U.toArray⟩ ∧ Hid (rjB (l.take k) = U ∧ U.length ≤ 20000) ∧ Hid (Below w.heap.size w wr)) (fun _ i _ => n - (intOf i).toNat)
 case atStart => exact ⟨0, [], by omega, rfl, rfl, qaa ⟨H0.out, qcj _⟩, Hb1⟩
 case round =>
  obtain ⟨k, U, hk, rfl, rfl, HU, HB⟩ := hrel
  by_cases hlt : k < n
  ·have hkl : k < l.length := by have := Hl.out; omega
   obtain ⟨b, off, rfl, hb, hcell⟩ := Hc.out k hlt
   obtain ⟨d0, d1, d2⟩ := hcell k hkl
   have c0 := (HB.out.cell (p := ⟨b, off + k * 3, none⟩) hb).trans d0
   have c1 := (HB.out.cell (p := ⟨b, off + k * 3 + 1, none⟩) hb).trans d1
   have c2 := (HB.out.cell (p := ⟨b, off + k * 3 + 2, none⟩) hb).trans d2
   have hki : (0 : Int) ≤ (k : Int) ∧ (k : Int) < (n : Int) := by omega
   have hm := Hmay.out _ (qam hkl)
   have hput := qaa fun W => rref_put_any l[k].1 l[k].2.1 l[k].2.2 W
   have e1 : rputF (l[k].1, l[k].2.1, l[k].2.2) = (rB l[k], 0) := (yb7 hm).2
   rw [e1] at hput
   dsimp only at hput
   have hadd := fun W => yf5 U (rB l[k]) (by have := rB_len hm; have := HU.out.2; omega) W
   have Hnx : Hid (rjB (l.take (k + 1)) = U ++ rB l[k]) := qaa (by rw [yfy l k hkl, HU.out.1])
   have Hle := qaa (rjB_le l (k + 1))
   clear d0 d1 d2 e1 hm hcell H0 Hc
   generalize l[k].1 = x at *
   generalize l[k].2.1 = y at *
   generalize l[k].2.2 = d at *
   generalize U ++ rB l[k] = V at *
   generalize rB l[k] = R at *
   by_cases hV : 20000 < V.length
   ·have hVi : (20000 : Int) < (V.length : Int) := by omega
    have HF := qaa (Hbig.out (by have := Hle.out; rw [Hnx.out] at this; omega))
    go_wp2_with (go_at_call 96; (with_reducible refine (hput.out _).mono ?_); rintro e w2 ⟨rfl, hb2⟩; have HB2 := qaa (HB.out.trans (hb2.mono HB.out.size)); clear hb2 hput)
    go_ret2
    exact ⟨by rw [HF.out]; rfl, HB2.out⟩
   ·have hVi : ¬ (20000 : Int) < (V.length : Int) := by omega
    go_wp2_with (go_at_call 96; (with_reducible refine (hput.out _).mono ?_); rintro e w2 ⟨rfl, hb2⟩; have HB2 := qaa (HB.out.trans (hb2.mono HB.out.size)); clear hb2 hput)
    go_roundw
    case rel => exact ⟨k + 1, V, by omega, iv (by omega), rfl, qaa ⟨Hnx.out, by omega⟩, HB2⟩
    case measure => simp only [intOf]; omega
  ·obtain rfl : k = n := by omega
   have e : rjB l = U := by
    have h := HU.out.1
    rwa [qax (by have := Hl.out; omega)] at h
   have HF := qaa (Hfit.out (by rw [e]; have := HU.out.2; omega))
   have He := qaa e
   clear e
   go_wp2
   go_ret2
   exact ⟨by rw [HF.out, He.out]; rfl, HB.out⟩
def fewF (l : List Rc) : Bool := decide (l.length ≤ 200) && l.all fun r => decide (r.2.2.length ≤ 3000)
theorem few_len {l : List Rc} (h : fewF l = true) : l.length ≤ 200 := by
 unfold fewF at h
 rw [qb6, qbq] at h
 exact h.1
theorem few_data {l : List Rc} (h : fewF l = true) : ∀ r ∈ l, r.2.2.length ≤ 3000 := by
 unfold fewF at h
 rw [qb6, qby] at h
 exact fun r hr => qb7 (h.2 r hr)
theorem few_no {l : List Rc} {k : Nat} (h : k < l.length) (hk : 3000 < l[k].2.2.length) : fewF l = false := by
 cases e : fewF l with
 | false => rfl
 | true =>
  have := few_data e _ (qam h)
  omega
theorem few_yes {l : List Rc} (h : l.length ≤ 200) (hd : ∀ k (hk : k < l.length), l[k].2.2.length ≤ 3000) : fewF l = true := by
 unfold fewF
 rw [qb6, qbq, qby]
 refine ⟨h, fun r hr => ?_⟩
 obtain ⟨k, hk, rfl⟩ := qaI hr
 exact qaP (hd k hk)
theorem few_any (l : List Rc) (A : Option Addr) (n c : Nat) (w : World) (hl : l.length = n) (hr : Reads w w.heap.size 3 A n (rcs l)) :
  Calls prog 19 #[.slice A n c] w fun e w' => e = .returned (.bool (fewF l)) ∧ w' = w := by
 by_cases hn : n ≤ 200
 ·have hni : ¬ (200 : Int) < (n : Int) := by omega
  have Hc := qaa (yaX hr hl)
  have Hl := qaa hl
  clear hr hl
  go_enter func19, ntmps19
  go_wp2
  go_loopw [3] (fun i wr => ∃ k : Nat, k ≤ n ∧ i = .int .i64 (k : Int) ∧ Hid (∀ j (hj : j < l.length), j < k → l[j].2.2.length ≤ 3000) ∧ wr = w) (fun i _ => n - (intOf i).toNat)
  case atStart => exact ⟨0, by omega, rfl, qaa fun j _ h => absurd h (Nat.not_lt_zero _), rfl⟩
  case round =>
   obtain ⟨k, hk, rfl, HK, rfl⟩ := hrel
   by_cases hlt : k < n
   ·have hkl : k < l.length := by have := Hl.out; omega
    obtain ⟨b, off, rfl, hb, hcell⟩ := Hc.out k hlt
    have c2 := (hcell k hkl).2.2
    have hki : (0 : Int) ≤ (k : Int) ∧ (k : Int) < (n : Int) := by omega
    have HN : Hid (3000 < l[k].2.2.length → fewF l = false) := qaa (few_no hkl)
    have HY : Hid (l[k].2.2.length ≤ 3000 → ∀ j (hj : j < l.length), j < k + 1 → l[j].2.2.length ≤ 3000) := qaa fun h j hj hj2 => by
     by_cases e : j = k
     ·subst e
      exact h
     ·exact HK.out j hj (by omega)
    clear hcell Hc
    generalize l[k].2.2 = d at *
    by_cases hd : 3000 < d.length
    ·have hdi : (3000 : Int) < (d.length : Int) := by omega
     have HF := qaa (HN.out hd)
     clear HN HY
     go_wp2
     go_ret
     exact ⟨by rw [HF.out]; rfl, rfl⟩
    ·have hdi : ¬ (3000 : Int) < (d.length : Int) := by omega
     have HY2 := qaa (HY.out (by omega))
     clear HN HY
     go_wp2
     go_roundw
     case rel => exact ⟨k + 1, by omega, iv (by omega), HY2, by first | rfl | trivial⟩
     case measure => simp only [intOf]; omega
   ·obtain rfl : k = n := by omega
    have HF := qaa (few_yes (l := l) (by have := Hl.out; omega) fun j hj => HK.out j hj (by have := Hl.out; omega))
    go_wp2
    go_ret
    exact ⟨by rw [HF.out]; rfl, rfl⟩
 ·have hni : (200 : Int) < (n : Int) := by omega
  have HF : Hid (fewF l = false) := qaa (by
   cases e : fewF l with
   | false => rfl
   | true =>
    have := few_len e
    omega)
  clear hr hl
  go_enter func19, ntmps19
  go_wp2
  go_ret
  exact ⟨by rw [HF.out]; rfl, rfl⟩
theorem rmk_room (N : Nat) (h : N ≤ 281474976710656) (w : World) :
  (Instr.makeSlice 36 (.int .i64 0) (.int .i64 (N : Int))).run prog w = .ok (.slice (some ⟨w.heap.size, 0, none⟩) 0 N) (w.alloc (.cells (madeCells #[.int .u8 0] N) 5)) := by
 obtain ⟨i0, hi, hz0, hz1, hz9⟩ := qbn yc2
 have := run_make (P := prog) w 36 5 i0 (.int .u8 0) underlying36 hi hz0 .i64 .i64 0 (N : Int) (by omega) (by omega) (by rw [hz9]; omega) (by omega)
 rw [hz1, qc1, qap] at this
 exact this
theorem rmk_owns (N B : Nat) (w : World) (hB : B ≤ w.heap.size) (h : N ≤ 281474976710656) : (w.alloc (.cells (madeCells #[.int .u8 0] N) 5)).ownsRow B 5 1 (.slice (some ⟨w.heap.size, 0, none⟩) 0 N) 0 (bc []).toList := by
 refine ⟨rfl, .inr ⟨w.heap.size, N, _, rfl, hB, heap_alloc_new w _, qcj _, by unfold maxLen; omega, ?_, ?_⟩⟩
 ·rw [bc_zero, ycE, qaY, qc1]
 ·rw [qcy, qaX]
  rfl
theorem rjB_most {l : List Rc} (h : ∀ r ∈ l, rmay r = true) (k : Nat) (hk : k ≤ l.length) : (rjB (l.take k)).length ≤ 2027 * k := by
 induction k with
 | zero => exact qaf _
 | succ k ih =>
  rw [yfy l k (by omega), qae]
  have := rB_len (h _ (qam (show k < l.length by omega)))
  have := ih (by omega)
  omega
theorem ydI (l : List Rc) (A : Option Addr) (n c : Nat) (w : World) (hl : l.length = n) (hn : n ≤ 1000000) (hr : Reads w w.heap.size 3 A n (rcs l)) :
  Calls prog 26 #[.slice A n c] w fun e w' => e = .returned (.tuple #[.string ⟨(yal l).1.toArray⟩, .int .i64 (yal l).2]) ∧ Below w.heap.size w w' := by
 have hrow := p_rrow_any l A n c w hl hn hr
 by_cases hE : ya9 l ≠ 0
 ·have fin : yal l = ([], ya9 l) := qah hE
  rw [fin]
  have Hrow := qaa hrow
  clear hrow fin hr hl
  generalize ya9 l = E at *
  go_enter func26, ntmps26
  go_wp2_with (go_at_call 33; (with_reducible refine Hrow.out.mono ?_); rintro e w1 ⟨rfl, hb1⟩; have Hb1 := qaa hb1; clear hb1 Hrow)
  go_ret2
  exact ⟨rfl, Hb1.out⟩
 have hE0 : ya9 l = 0 := by omega
 rw [hE0] at hrow
 have Hmay := qaa (ycS hE0)
 have Hbig : Hid (20000 < (rjB l).length → yal l = ([], 3)) := qaa fun h => by unfold yal; rw [qag hE, qah h]
 have Hfit : Hid (¬ 20000 < (rjB l).length → yal l = (rjB l, 0)) := qaa fun h => by unfold yal; rw [qag hE, qag h]
 have Hrow := qaa hrow
 have Hc := qaa (yaX hr hl)
 have Hl := qaa hl
 have H0 : Hid (rjB (l.take 0) = []) := qaa rfl
 have Hmost : Hid (∀ k, k ≤ n → (rjB (l.take k)).length ≤ 2027 * k) := qaa fun k hk => rjB_most (ycS hE0) k (by omega)
 clear hr hl hrow hE hE0
 go_enter func26, ntmps26
 go_wp2_with (go_at_call 33; (with_reducible refine Hrow.out.mono ?_); rintro e w1 ⟨rfl, hb1⟩; have Hb1 := qaa hb1; clear hb1 Hrow)
 go_loopw [5, 18] (fun sv i wr => ∃ (k m : Nat), k ≤ n ∧ i = .int .i64 (k : Int) ∧ sv = .int .i64 (m : Int) ∧ Hid ((rjB (l.take k)).length = m) ∧ Hid (Below w.heap.size w wr)) (fun _ i _ => n - (intOf i).toNat)
 case atStart => exact ⟨0, 0, by omega, rfl, rfl, qaa (by rw [H0.out]; rfl), Hb1⟩
 case round =>
  obtain ⟨k, m, hk, rfl, rfl, HU, HB⟩ := hrel
  by_cases hlt : k < n
  ·have hkl : k < l.length := by have := Hl.out; omega
   obtain ⟨b, off, rfl, hb, hcell⟩ := Hc.out k hlt
   obtain ⟨d0, d1, d2⟩ := hcell k hkl
   have c0 := (HB.out.cell (p := ⟨b, off + k * 3, none⟩) hb).trans d0
   have c1 := (HB.out.cell (p := ⟨b, off + k * 3 + 1, none⟩) hb).trans d1
   have c2 := (HB.out.cell (p := ⟨b, off + k * 3 + 2, none⟩) hb).trans d2
   have hki : (0 : Int) ≤ (k : Int) ∧ (k : Int) < (n : Int) := by omega
   have hm := Hmay.out _ (qam hkl)
   have hsz := qaa fun W => p_rsize_any l[k].1 l[k].2.1 l[k].2.2 W
   have e1 : ydK (l[k].1, l[k].2.1, l[k].2.2) = (rB l[k]).length := by unfold ydK; rw [(yb7 hm).2]
   rw [e1] at hsz
   have h1 := Hmost.out k (by omega)
   rw [HU.out] at h1
   have h2 := rB_len hm
   have Hnx : Hid ((rjB (l.take (k + 1))).length = m + (rB l[k]).length) := qaa (by rw [yfy l k hkl, qae, HU.out])
   clear d0 d1 d2 e1 hm hcell H0 Hc
   generalize l[k].1 = x at *
   generalize l[k].2.1 = y at *
   generalize l[k].2.2 = d at *
   generalize (rB l[k]).length = q at *
   have hmq : (m : Int) ≤ 2027000000 ∧ (q : Int) ≤ 2027 := by omega
   clear h1 h2
   have HA := qaa (HB.out.alloc HB.out.size (.cells #[.int .i64 x, .int .i64 y, .string ⟨d.toArray⟩] 54))
   go_wp2_with (go_at_call 32; (with_reducible refine (hsz.out _).mono ?_); rintro e w2 ⟨rfl, hb2⟩; have HB2 := qaa (HA.out.trans (hb2.mono HA.out.size)); clear hb2 hsz)
   go_roundw
   case rel => exact ⟨k + 1, m + q, by omega, iv (by omega), iv (by omega), Hnx, HB2⟩
   case measure => simp only [intOf]; omega
  ·obtain rfl : k = n := by omega
   have e : rjB l = rjB (l.take k) := by rw [qax (by have := Hl.out; omega)]
   have Hm : Hid ((rjB l).length = m) := qaa (by rw [e]; exact HU.out)
   clear e HU
   by_cases hbig : 20000 < m
   ·have hbi : (20000 : Int) < (m : Int) := by omega
    have HF := qaa (Hbig.out (by rw [Hm.out]; exact hbig))
    clear Hbig Hfit
    go_wp2
    go_ret2
    exact ⟨by rw [HF.out]; rfl, HB.out⟩
   ·have hbi : ¬ (20000 : Int) < (m : Int) := by omega
    have HF := qaa (Hfit.out (by rw [Hm.out]; exact hbig))
    clear Hbig Hfit
    have hmk := fun W => rmk_room m (by omega) W
    have Hown : Hid ((wr.alloc (.cells (madeCells #[.int .u8 0] m) 5)).ownsRow w.heap.size 5 1 (.slice (some ⟨wr.heap.size, 0, none⟩) 0 m) 0 (bc []).toList) := qaa (rmk_owns m w.heap.size wr HB.out.size (by omega))
    have HBA := qaa (HB.out.alloc HB.out.size (.cells (madeCells #[.int .u8 0] m) 5))
    generalize madeCells #[.int .u8 0] m = Z at *
    go_wp2
    go_loopw [8, 33] (fun ov i W => ∃ (j : Nat) (U : List UInt8), j ≤ k ∧ i = .int .i64 (j : Int) ∧ Hid (rjB (l.take j) = U) ∧ Hid (W.ownsRow w.heap.size 5 1 ov U.length (bc U).toList) ∧ Hid (Below w.heap.size w W)) (fun _ i _ => k - (intOf i).toNat)
    case atStart => exact ⟨0, [], by omega, rfl, H0, Hown, HBA⟩
    case round =>
     obtain ⟨j, U, hj, rfl, HU2, HO2, HW⟩ := hrel
     by_cases hjt : j < k
     ·have hjl : j < l.length := by have := Hl.out; omega
      obtain ⟨b, off, rfl, hb, hcell⟩ := Hc.out j hjt
      obtain ⟨d0, d1, d2⟩ := hcell j hjl
      have c0 := (HW.out.cell (p := ⟨b, off + j * 3, none⟩) hb).trans d0
      have c1 := (HW.out.cell (p := ⟨b, off + j * 3 + 1, none⟩) hb).trans d1
      have c2 := (HW.out.cell (p := ⟨b, off + j * 3 + 2, none⟩) hb).trans d2
      have hji : (0 : Int) ≤ (j : Int) ∧ (j : Int) < (k : Int) := by omega
      have hm := Hmay.out _ (qam hjl)
      have hle : U.length ≤ 1000000 := by have := rjB_le l j; rw [HU2.out, Hm.out] at this; omega
      have hlay := qaa fun v W2 hB ho => p_rlay_any l[j].1 l[j].2.1 l[j].2.2 hm w.heap.size v U W2 hle hB ho
      have Hnx : Hid (rjB (l.take (j + 1)) = U ++ rB l[j]) := qaa (by rw [yfy l j hjl, HU2.out])
      clear d0 d1 d2 hm hcell H0 Hc hle
      change Hid (∀ v W2 (hB : w.heap.size ≤ W2.heap.size) (ho : W2.ownsRow w.heap.size 5 1 v U.length (bc U).toList), Calls prog 55 #[v, .agg #[.int .i64 l[j].1, .int .i64 l[j].2.1, .string ⟨l[j].2.2.toArray⟩]] W2 fun e w' => ∃ v', e = .returned v' ∧ w'.ownsRow w.heap.size 5 1 v' (U ++ rB l[j]).length (bc (U ++ rB l[j])).toList ∧ Below w.heap.size W2 w') at hlay
      generalize l[j].1 = x at *
      generalize l[j].2.1 = y at *
      generalize l[j].2.2 = d at *
      generalize U ++ rB l[j] = V at *
      have HA := qaa (HW.out.alloc HW.out.size (.cells #[.int .i64 x, .int .i64 y, .string ⟨d.toArray⟩] 54))
      have HO3 := qaa (HO2.out.alloc (.cells #[.int .i64 x, .int .i64 y, .string ⟨d.toArray⟩] 54))
      go_wp2_with (go_at_call 55; (with_reducible refine (hlay.out _ _ HA.out.size HO3.out).mono ?_); rintro e w2 ⟨v2, rfl, ho2, hb2⟩; have HB2 := qaa (HA.out.trans hb2); have HO4 := qaa ho2; clear hb2 ho2 hlay)
      go_roundw
      case rel => exact ⟨j + 1, V, by omega, iv (by omega), Hnx, HO4, HB2⟩
      case measure => simp only [intOf]; omega
     ·obtain rfl : j = k := by omega
      have e : rjB l = U := by
       have h := HU2.out
       rwa [qax (by have := Hl.out; omega)] at h
      rw [e] at HF
      obtain ⟨A2, cc2, hv2, hc2, hr2⟩ := yad HO2.out
      have hst := ybd underlying36 underlying5 underlying9 _ A2 cc2 U hr2
      subst hv2
      clear hr2 hc2 e
      go_wp2
      go_ret2
      exact ⟨by rw [HF.out]; rfl, HW.out⟩
def ppB (l : List Int) : List UInt8 := l.flatMap putB
theorem ppB_take (l : List Int) (k : Nat) (h : k < l.length) : ppB (l.take (k + 1)) = ppB (l.take k) ++ putB l[k] := by
 unfold ppB
 rw [qao h, List.flatMap_append]
 simp
theorem yck (n : Int) : (putB n).length ≤ 9 := by
 unfold putB
 split
 ·exact qcj _
 ·exact dg_le 9 _
theorem ppB_len (l : List Int) : ∀ k, k ≤ l.length → (ppB (l.take k)).length ≤ 9 * k
 | 0, _ => qaf _
 | k + 1, h => by
  have := ppB_len l k (by omega)
  have := yck l[k]
  rw [ppB_take l k (by omega), qae]
  omega
structure PLay (w wr : World) (v : Value) (L : List UInt8) : Prop where
 own : wr.ownsRow w.heap.size 5 1 v L.length (bc L).toList
 below : Below w.heap.size w wr
theorem PLay.on {w w1 w2 : World} {v : Value} {L : List UInt8} (h : PLay w w1 v L) (hb : Below w1.heap.size w1 w2) : PLay w w2 v L :=
 ⟨yah h.own hb (qaf _), h.below.trans (hb.mono h.below.size)⟩
theorem PLay.add {w w1 w2 : World} {v v' : Value} {L X : List UInt8} (h : PLay w w1 v L) {n : Nat} (hn : n = (L ++ X).length) (ho : w2.ownsRow w.heap.size 5 1 v' n ((bc L).toList ++ Lib.strCells ⟨X.toArray⟩)) (hg : w1.grownBy w2 v.ownBlock) : PLay w w2 v' (L ++ X) := by
 refine ⟨?_, h.below.grown hg h.below.size fun b hb => (h.own.lt b hb).1⟩
 rw [show Lib.strCells ⟨X.toArray⟩ = (bc X).toList by simp [Lib.strCells, bc], show (bc L).toList ++ (bc X).toList = (bc (L ++ X)).toList by simp [bc], hn] at ho
 exact ho
theorem p_pput_any (l : List Int) (A : Option Addr) (n c : Nat) (w : World) (hl : l.length = n) (hn : n ≤ 1000) (hr : Reads w w.heap.size 1 A n (ints l)) (hbd : ∀ x ∈ l, x < 9223372036854775808) :
  Calls prog 49 #[.slice A n c] w fun e w' => e = .returned (.string ⟨(ppB l).toArray⟩) ∧ Below w.heap.size w w' := by
 obtain ⟨i0, hi, hz0, hz1, hz9⟩ := qbn yc2
 have hcell : 0 < n → ∃ b off, A = some ⟨b, off, none⟩ ∧ b < w.heap.size ∧ ∀ k, (hk : k < l.length) → w.cell? ⟨b, off + k, none⟩ = some (.int .i64 l[k]) := by
  intro h
  obtain ⟨b, off, e, hb, hc⟩ := hr.2 h
  exact ⟨b, off, e, hb, fun k hk => hc k _ (yak l k hk)⟩
 have HL := qaa hl
 have HC := qaa hcell
 have HBd := qaa hbd
 have H0 : Hid (PLay w w (.slice none 0 0) []) := qaa ⟨qbg _ _ _ _, qaj _ _⟩
 have H00 : Hid (ppB (l.take 0) = []) := qaa rfl
 have Hln : Hid (∀ k, k ≤ n → (ppB (l.take k)).length ≤ 9 * k) := qaa fun k hk => ppB_len l k (by omega)
 clear hr hcell hbd hl
 go_enter func49, ntmps49
 go_wp2
 go_loopw [3, 10] (fun o i wr => ∃ k : Nat, k ≤ n ∧ i = .int .i64 (k : Int) ∧ Hid (PLay w wr o (ppB (l.take k)))) (fun _ i _ => n - (intOf i).toNat)
 case atStart => exact ⟨0, by omega, rfl, qaa (by rw [H00.out]; exact H0.out)⟩
 case round =>
  obtain ⟨k, hk, rfl, HI⟩ := hrel
  by_cases hlt : k < n
  ·have hkl : k < l.length := by have := HL.out; omega
   obtain ⟨b, off, rfl, hb, hcell⟩ := HC.out (by omega)
   have c0 := (HI.out.below.cell (p := ⟨b, off + k, none⟩) hb).trans (hcell k hkl)
   have hki : (0 : Int) ≤ (k : Int) ∧ (k : Int) < (n : Int) := by omega
   have hp := qaa fun W => put_any l[k] W (HBd.out _ (qam hkl))
   unfold ycJ at hp
   have hnx : Hid (ppB (l.take (k + 1)) = ppB (l.take k) ++ putB l[k]) := qaa (ppB_take l k hkl)
   have l1 := yck l[k]
   have l2 := Hln.out k hk
   have l3 : (ppB (l.take k)).length ≤ 9000 := by omega
   clear l2 hcell HBd
   generalize l[k] = z at *
   generalize putB z = Z at *
   generalize putE z = E at *
   go_wp2_with (first
    | (go_at_call 94; (with_reducible refine (hp.out _).mono ?_); rintro e w3 ⟨rfl, hb3⟩; have HI3 := qaa (HI.out.on hb3); clear hb3 hp)
    | (refine Lib.wpList_append_own_string _ rfl _ _ 36 9 rfl w.heap.size 5 i0 underlying36 underlying9 hi hz0 hz1 hz9 _ _ _ rfl HI3.out.own _ rfl ?c1 ?c2 HI3.out.below.size ?_))
   case c1 => rw [qaA, qa0]; unfold maxLen; omega
   case c2 => rw [qaA, qa0]; omega
   ·intro v' w4 ho4 hg4 _
    have HI4 := qaa (HI3.out.add (X := Z) (by simp only [qae]) ho4 hg4)
    clear ho4 hg4
    go_wp2
    go_roundw
    case rel => exact ⟨k + 1, by omega, iv (by omega), qaa (by rw [hnx.out]; exact HI4.out)⟩
    case measure => simp only [intOf]; omega
  ·obtain rfl : k = n := by omega
   have e : ppB l = ppB (l.take k) := by rw [qax (by have := HL.out; omega)]
   obtain ⟨A2, cc2, hv2, hc2, hr2⟩ := yad HI.out.own
   have hst := ybd underlying36 underlying5 underlying9 _ A2 cc2 _ hr2
   have HE := qaa e
   subst hv2
   clear hr2 hc2 e
   go_wp2
   go_ret
   refine ⟨?_, HI.out.below⟩
   rw [HE.out]
   rfl
theorem rref_same_any (xs ys : List Rc) (A1 A2 : Option Addr) (n1 n2 c1 c2 : Nat) (w : World) (e1 : xs.length = n1) (e2 : ys.length = n2) (m1 : n1 ≤ 4611686018427387904) (m2 : n2 ≤ 4611686018427387904) (h1 : Reads w w.heap.size 3 A1 n1 (rcs xs)) (h2 : Reads w w.heap.size 3 A2 n2 (rcs ys)) :
  Calls prog 27 #[.slice A1 n1 c1, .slice A2 n2 c2] w fun e w' => e = .returned (.bool (decide (xs = ys))) ∧ Below w.heap.size w w' := by
 by_cases hn : n1 = n2
 ·subst hn
  have G1 := qaa (yaX h1 e1)
  have G2 := qaa (yaX h2 e2)
  have E1 := qaa e1
  have E2 := qaa e2
  have Hyes : Hid (xs = ys → decide (xs = ys) = true) := qaa fun h => qaP h
  have Hno : Hid (xs ≠ ys → decide (xs = ys) = false) := qaa fun h => qaU h
  have hb0 : (((n1 : Nat) : Int) == (n1 : Int)) = true := beq_self_eq_true _
  clear h1 h2 e1 e2
  generalize decide (xs = ys) = r at *
  go_enter func27, ntmps27
  go_wp2
  go_loopw [5] (fun i wr => ∃ k : Nat, k ≤ n1 ∧ i = .int .i64 (k : Int) ∧ Hid (xs.take k = ys.take k) ∧ Hid (Below w.heap.size w wr)) (fun i _ => n1 - (intOf i).toNat)
  case atStart => exact ⟨0, by omega, rfl, qaa rfl, qaa (qaj _ _)⟩
  case round =>
   obtain ⟨k, hk, rfl, HT, HB⟩ := hrel
   by_cases hlt : k < n1
   ·have k1 : k < xs.length := by have := E1.out; omega
    have k2 : k < ys.length := by have := E2.out; omega
    obtain ⟨b, off, rfl, hb, hc1⟩ := G1.out k hlt
    obtain ⟨b2, off2, rfl, hb2, hc2⟩ := G2.out k hlt
    obtain ⟨p0, p1, p2⟩ := hc1 k k1
    obtain ⟨q0, q1, q2⟩ := hc2 k k2
    have x0 := (HB.out.cell (p := ⟨b, off + k * 3, none⟩) hb).trans p0
    have x1 := (HB.out.cell (p := ⟨b, off + k * 3 + 1, none⟩) hb).trans p1
    have x2 := (HB.out.cell (p := ⟨b, off + k * 3 + 2, none⟩) hb).trans p2
    have y0 := (HB.out.cell (p := ⟨b2, off2 + k * 3, none⟩) hb2).trans q0
    have y1 := (HB.out.cell (p := ⟨b2, off2 + k * 3 + 1, none⟩) hb2).trans q1
    have y2 := (HB.out.cell (p := ⟨b2, off2 + k * 3 + 2, none⟩) hb2).trans q2
    have hki : (0 : Int) ≤ (k : Int) ∧ (k : Int) < (n1 : Int) := by omega
    have Hnx : Hid (xs[k] = ys[k] → xs.take (k + 1) = ys.take (k + 1)) := qaa fun h => by rw [qao k1, qao k2, HT.out, h]
    have Hdf : Hid (xs[k] ≠ ys[k] → r = false) := qaa fun h => Hno.out fun e => h (by subst e; rfl)
    clear p0 p1 p2 q0 q1 q2 hc1 hc2 G1 G2 Hyes Hno
    generalize xs[k] = u at *
    generalize ys[k] = v at *
    obtain ⟨a, b3, d⟩ := u
    obtain ⟨a', b3', d'⟩ := v
    dsimp only at x0 x1 x2 y0 y1 y2
    by_cases ea : a = a'
    ·subst ea
     by_cases eb : b3 = b3'
     ·subst eb
      by_cases ed : d = d'
      ·subst ed
       have Hn2 := qaa (Hnx.out rfl)
       clear Hnx Hdf
       go_wp2
       go_quiet (fail)
       go_wp2
       go_roundw
       case rel => exact ⟨k + 1, by omega, iv (by omega), Hn2, qaa (yaj HB.out _)⟩
       case measure => simp only [intOf]; omega
      ·have hne : (d == d') = false := by simpa using ed
       have HF := qaa (Hdf.out fun e => ed (by injection e with _ e; injection e))
       clear Hnx Hdf ed
       go_wp2
       go_quiet (fail)
       go_wp2
       go_ret
       exact ⟨by rw [HF.out]; rfl, yaj HB.out _⟩
     ·have HF := qaa (Hdf.out fun e => eb (by injection e with _ e; injection e))
      have hne : (b3 != b3') = true := by simpa using eb
      have hne2 : (b3 == b3') = false := by simpa using eb
      have hne3 : decide (b3 = b3') = false := by simpa using eb
      clear Hnx Hdf eb
      go_wp2
      go_quiet (fail)
      go_wp2
      go_ret
      exact ⟨by rw [HF.out]; rfl, yaj HB.out _⟩
    ·have HF := qaa (Hdf.out fun e => ea (by injection e))
     have hne : (a != a') = true := by simpa using ea
     have hne2 : (a == a') = false := by simpa using ea
     have hne3 : decide (a = a') = false := by simpa using ea
     clear Hnx Hdf ea
     go_wp2
     go_quiet (fail)
     go_wp2
     go_ret
     exact ⟨by rw [HF.out]; rfl, yaj HB.out _⟩
   ·obtain rfl : k = n1 := by omega
    have HF := qaa (Hyes.out (by
     have h := HT.out
     rwa [qax (by have := E1.out; omega), qax (by have := E2.out; omega)] at h))
    clear Hyes Hno
    go_wp2
    go_ret
    exact ⟨by rw [HF.out]; rfl, HB.out⟩
 ·have HF : Hid (decide (xs = ys) = false) := qaa (qaU fun e => hn (by rw [← e1, ← e2, e]))
  have hb0 : (((n1 : Nat) : Int) == (n2 : Int)) = false := qbw.2 (by omega)
  clear h1 h2 e1 e2
  generalize decide (xs = ys) = r at *
  go_enter func27, ntmps27
  go_wp2
  go_ret
  exact ⟨by rw [HF.out]; rfl, qaj _ _⟩
theorem rfresh (r : Rc) (w : World) : Reads (w.alloc (.cells #[.int .i64 r.1, .int .i64 r.2.1, .string ⟨r.2.2.toArray⟩] 54)) (w.alloc (.cells #[.int .i64 r.1, .int .i64 r.2.1, .string ⟨r.2.2.toArray⟩] 54)).heap.size 3 (some ⟨w.heap.size, 0, none⟩) 1 (rcs [r]) := by
 have := yar w 54 #[.int .i64 r.1, .int .i64 r.2.1, .string ⟨r.2.2.toArray⟩] 3 1 rfl
 exact this.more (by simp)
theorem Reads.on15 {w w' : World} {size n : Nat} {A : Option Addr} {xs : List Value} (h : Reads w w.heap.size size A n xs) (hb : Below w.heap.size w w') : Reads w' w'.heap.size size A n xs := (h.below hb).more hb.size
theorem ints_snoc (a b : List Int) : ints a ++ ints b = ints (a ++ b) := by simp [ints]
theorem ref_ranks_any (l : List UInt8) (hl : l.length ≤ 1000000) (w : World) :
  Calls prog 44 #[.string ⟨l.toArray⟩] w fun e w' => ∃ A c, e = .returned (.slice A l.length c) ∧ l.length ≤ c ∧ Reads w' w'.heap.size 1 A l.length (ints (rks row0 l)) ∧ Below w.heap.size w w' := by
 obtain ⟨i0, hi, hz0, hz1, hz2⟩ := qbn mint_info
 have hll : (l.length : Int) ≤ 1000000 := by omega
 have Hlen : Hid (∀ k, k ≤ l.length → (rks row0 (l.take k)).length = k) := qaa fun k hk => by rw [yg6, qar]; omega
 clear hl
 go_enter func44, ntmps44
 go_wp2_with (go_at_call 79; refine (fr_begun_any _).mono ?_; rintro e w0 ⟨rfl, hb0⟩)
 have Hb0 := qaa hb0
 clear hb0
 go_loopw [3, 4, 5] (fun r v i wr => ∃ k : Nat, k ≤ l.length ∧ i = .int .i64 k ∧ Hid (r = .string ⟨(rowS row0 (l.take k)).toArray⟩) ∧ Hid (wr.ownsRow w0.heap.size 3 1 v k (ints (rks row0 (l.take k)))) ∧ Hid (Below w0.heap.size w0 wr)) (fun _ _ i _ => l.length - (intOf i).toNat)
 case atStart => exact ⟨0, by omega, rfl, qaa rfl, qaa (qbg _ _ _ _), qaa (qaj _ _)⟩
 case round =>
  obtain ⟨k, hk, rfl, Hr, Hown, Hb⟩ := hrel
  obtain rfl := Hr.out
  clear Hr
  by_cases hlt : k < l.length
  ·have hki : (0 : Int) ≤ (k : Int) ∧ (k : Int) < l.length := by omega
   have hks : k < (ByteArray.mk l.toArray).size := by rw [qaA]; simpa using hlt
   have hW := row0_whole.rowS (l.take k)
   have hpl : ∀ W, Calls prog 80 #[.string ⟨(rowS row0 (l.take k)).toArray⟩, .int .u8 ((((ByteArray.mk l.toArray)[k]'hks).toNat : Nat) : Int)] W fun e w' => e = .returned (.int .i64 (pl (rowS row0 (l.take k)) l[k] : Int)) ∧ W = w' := fun W => fr_place_any _ hW l[k] W
   have hmv : ∀ W, Calls prog 81 #[.string ⟨(rowS row0 (l.take k)).toArray⟩, .int .i64 (pl (rowS row0 (l.take k)) l[k] : Int)] W fun e w' => e = .returned (.string ⟨(rowS row0 (l.take (k + 1))).toArray⟩) ∧ Below W.heap.size W w' := fun W => by
    rw [rowS_take _ _ _ hlt]
    exact fr_moved_any _ hW.len _ (pl_lt hW _) W
   have Hrk := qaa (rks_take row0 l k hlt)
   have Hpl := qaa hpl
   have Hmv := qaa hmv
   have hlk := Hlen.out k (by omega)
   have hszr := Hb.out.size
   clear hpl hmv hW
   generalize (pl (rowS row0 (l.take k)) l[k] : Int) = j at *
   generalize hR2 : rowS row0 (l.take (k + 1)) = R2 at *
   have HR2 := qaa hR2
   clear hR2
   generalize rowS row0 (l.take k) = R1 at *
   go_wp2_with (first
    | (go_at_call 80; refine (Hpl.out _).mono ?_; rintro e w1 ⟨rfl, rfl⟩)
    | (at_builtin; refine yaf _ rfl _ _ 28 rfl w0.heap.size 3 i0 (.int .i64 0) 1 8 underlying28 hi hz0 hz1 hz2 rfl (by decide) _ _ _ rfl (Hown.out.alloc _) _ 1 1 _ _ rfl (yar wr 3 #[.int .i64 j] 1 1 rfl) ?c1 ?c2 ?c3 ?c4 ?_))
   case c1 => exact rfl
   case c2 => unfold maxLen; omega
   case c3 => omega
   case c4 => simp; omega
   intro v2 w2 hown2 hgrow hsep
   have hb2 : Below w0.heap.size w0 w2 := (Hb.out.trans ((qaj _ _).alloc hszr _)).grown hgrow (by simp; omega) (fun g hg => (Hown.out.lt g hg).1)
   have Hown3 : Hid (w2.ownsRow w0.heap.size 3 1 v2 (k + 1) (ints (rks row0 (l.take (k + 1))))) := qaa (by rw [Hrk.out, ← ints_snoc]; simpa [ints] using hown2)
   have Hb2 := qaa hb2
   clear hb2 hown2 hgrow hsep Hown
   go_wp2_with (go_at_call 81; refine (Hmv.out _).mono ?_; rintro e w3 ⟨rfl, hb3⟩; have Hb3 := qaa hb3; clear hb3)
   go_roundw
   case rel => exact ⟨k + 1, by omega, iv (by omega), qaa (by rw [HR2.out]), qaa (yah Hown3.out Hb3.out (qaf _)), qaa (Hb2.out.trans (Hb3.out.mono Hb2.out.size))⟩
   case measure => simp only [intOf]; omega
  ·obtain rfl : k = l.length := by omega
   obtain ⟨A, c, rfl, hc, hr⟩ := yad Hown.out
   rw [qbK] at hr
   have Hr := qaa hr
   clear hr
   go_wp2
   go_ret
   exact ⟨A, c, rfl, hc, Hr.out, Hb0.out.trans (Hb.out.mono Hb0.out.size)⟩
end Go.Proofs.YtanjhbkbpalnaaaGreat
