/-
 What the law of the last of these texts stands on, part 44.
-/
import Derived.Test.YtanjhbkbpalnaaaGreatMc30
import Derived.Test.YtanjhbkbpalnaaaGreatMc38
set_option maxRecDepth 100000
set_option maxHeartbeats 8000000
open Go.Proofs.Tryz
namespace Go.Proofs.YtanjhbkbpalnaaaGreat
set_option linter.unusedSimpArgs false
set_option linter.unusedVariables false
open Go.ChangeShapes Go.WideShapes Go.ChangeAt Go.RowKit Go.Joins Go.Deep
theorem yde (s : List UInt8) (w : World) (hs : s.length ≤ 1000000) :
  Calls prog 53 #[.string ⟨s.toArray⟩] w fun e w' => yaP w w' e (yae s) := by
 obtain ⟨i0, hi, hz0, hz1, hz9⟩ := qb4 ydm
 by_cases hbig : 20000 < s.length
 ·have fin : yae s = ([], 3) := qah hbig
  rw [fin]
  have hsi : (20000 : Int) < (s.length : Int) := by omega
  clear fin hi hz0 hz1 hz9
  go_enter func53, ntmps53
  go_wp2
  go_ret2
  exact ybe (qam _ _)
 have hsi : ¬ (20000 : Int) < (s.length : Int) := by omega
 obtain ⟨R0, hR0⟩ : ∃ R0, rsp s s.length 0 [] = R0 := ⟨_, rfl⟩
 have Hbad : Hid (R0.2 ≠ 0 → yae s = ([], R0.2)) := qaa fun h => by unfold yae; rw [qag hbig, hR0, qah h]
 have Hrow : Hid (R0.2 = 0 → yaz R0.1 ≠ 0 → yae s = ([], yaz R0.1)) := qaa fun h h2 => by unfold yae; rw [qag hbig, hR0, qag (by omega), qah h2]
 have Hok : Hid (R0.2 = 0 → yaz R0.1 = 0 → yae s = (R0.1, 0)) := qaa fun h h2 => by unfold yae; rw [qag hbig, hR0, qag (by omega), qag (by omega)]
 have HI0 : Hid (RInv w w s R0 (.slice none 0 0) 0 [] s.length) := qaa ⟨qcw _, by omega, by simp, by omega, hR0, qbS _ _ _ _, qam _ _⟩
 have Hs := qaa hs
 clear hR0 hs hbig
 go_enter func53, ntmps53
 go_wp2
 go_loopw [4, 5] (fun v i wr => ∃ (p : Int) (acc : List Rc) (f : Nat), i = .int .i64 p ∧ Hid (RInv w wr s R0 v p acc f)) (fun _ i _ => ((s.length : Int) - intOf i).toNat)
 case atStart => exact ⟨0, [], s.length, rfl, HI0⟩
 case round =>
  obtain ⟨p, acc, f, rfl, HI⟩ := hrel
  have hpi : 0 ≤ p ∧ p ≤ (s.length : Int) := ⟨HI.out.lo, HI.out.hi⟩
  by_cases hlt : p < (s.length : Int)
  ·have hget := fun W => p_rget_any s p W (by have := Hs.out; omega)
   unfold RGPost at hget
   by_cases hE : (ya2 s p).2.2 ≠ 0
   ·have h1 := rsp_bad s f p acc hlt HI.out.fuel hE
    rw [HI.out.rest] at h1
    have HF := qaa (Hbad.out (by rw [h1]; exact hE))
    rw [h1] at HF
    have Hget := qaa hget
    have HB := qaa HI.out.below
    clear hget h1 HI HI0 Hbad Hrow Hok
    generalize (ya2 s p).2.2 = E at *
    generalize (ya2 s p).2.1 = q at *
    generalize (ya2 s p).1 = r at *
    go_wp2_with (go_at_call 100; (with_reducible refine (Hget.out _).mono ?_); rintro e w1 ⟨rfl, hb1⟩; have HB1 := qaa (HB.out.trans (hb1.mono HB.out.size)); clear hb1 Hget)
    go_ret2
    rw [HF.out]
    exact ybe (HB1.out.alloc HB1.out.size _)
   ·have hE0 : (ya2 s p).2.2 = 0 := by omega
    obtain ⟨f2, k1, k2⟩ := rsp_more s f p acc hlt HI.out.fuel hE0
    rw [HI.out.rest] at k2
    have k3 := rget_ok hE0
    rw [hE0] at hget
    have Hget := qaa hget
    have Hk : Hid (0 ≤ (ya2 s p).2.1 ∧ p < (ya2 s p).2.1 ∧ (ya2 s p).2.1 ≤ s.length ∧ (s.length : Int) - (ya2 s p).2.1 ≤ f2 ∧ rsp s f2 (ya2 s p).2.1 (acc ++ [(ya2 s p).1]) = R0) := qaa ⟨by omega, k3.2.1, k3.2.2.1, k1, k2.symm⟩
    have hfew : (acc.length : Int) ≤ 1000000 := by have := HI.out.few; have := Hs.out; omega
    clear hget hE hE0 k1 k2 k3 HI0 Hbad Hrow Hok
    generalize (ya2 s p).2.1 = q at *
    generalize (ya2 s p).1 = r at *
    obtain ⟨x, y, d⟩ := r
    dsimp only at Hget
    go_wp2_with (first
     | (go_at_call 100; (with_reducible refine (Hget.out _).mono ?_); rintro e w1 ⟨rfl, hb1⟩; have HB1 := qaa (HI.out.below.trans (hb1.mono HI.out.below.size)); have HO1 := qaa (yah HI.out.own hb1 (qaf _)); clear hb1 Hget)
     | (refine wpList_append_own _ rfl _ _ 38 rfl w.heap.size 54 i0 (.agg #[.int .i64 0, .int .i64 0, .string ⟨#[]⟩]) 3 32 underlying38 hi hz0 hz1 hz9 rfl (by decide) _ _ _ rfl ((HO1.out.alloc _).alloc _) ⟨w1.heap.size + 1, 0, none⟩ 1 1 [.int .i64 x, .int .i64 y, .string ⟨d.toArray⟩] rfl rfl ?c1 ?c2 ?c3 ?c4 ?c5 ?_))
    case c1 =>
     intro j u hj
     match j, hj with
     | 0, hj => simp at hj; subst hj; simp [Addr.add]
     | 1, hj => simp at hj; subst hj; simp [Addr.add]
     | 2, hj => simp at hj; subst hj; simp [Addr.add]
    case c2 =>
     intro u hu
     simp at hu
     rcases hu with rfl | rfl | rfl <;> rfl
    case c3 => unfold maxLen; omega
    case c4 => omega
    case c5 =>
     have h4 := HB1.out.size
     simp only [qay]
     omega
    ·intro v' w2 hown' hgrow _
     have HI2 : Hid (RInv w w2 s R0 v' q (acc ++ [(x, y, d)]) f2) := qaa ⟨Hk.out.1, Hk.out.2.2.1, by rw [qae, qbA]; have := HI.out.few; have := Hk.out.2.1; omega, Hk.out.2.2.2.1, Hk.out.2.2.2.2, by
      rw [qae, rcs_app]
      exact hown', rgrown (HB1.out.alloc HB1.out.size _) (by rw [qay]; have := HB1.out.size; omega) (HO1.out.alloc _) hgrow⟩
     have hqi : p < q ∧ q ≤ (s.length : Int) := ⟨Hk.out.2.1, Hk.out.2.2.1⟩
     clear hown' hgrow
     go_wp2
     go_roundw
     case rel => exact ⟨q, _, f2, rfl, HI2⟩
     case measure => simp only [intOf]; omega
  ·have h1 := rsp_end s f p acc (by omega)
   rw [HI.out.rest] at h1
   obtain ⟨A, c, hv, hc, hr⟩ := yag HI.out.own
   have hrow := ybu acc A acc.length c wr rfl (by have := HI.out.few; have := Hs.out; omega) hr
   subst h1
   by_cases hE : yaz acc ≠ 0
   ·have HF := qaa (Hrow.out rfl hE)
    have Hr := qaa hrow
    have HB := qaa HI.out.below
    subst hv
    clear hrow hr HI HI0 Hbad Hrow Hok
    dsimp only at HF hE
    generalize yaz acc = E at *
    go_wp2_with (go_at_call 33; (with_reducible refine Hr.out.mono ?_); rintro e w1 ⟨rfl, hb1⟩; have HB1 := qaa (HB.out.trans (hb1.mono HB.out.size)); clear hb1 Hr)
    go_ret2
    rw [HF.out]
    exact ybe HB1.out
   ·have hE0 : yaz acc = 0 := by omega
    have HF := qaa (Hok.out rfl hE0)
    rw [hE0] at hrow
    have Hr := qaa hrow
    have HB := qaa HI.out.below
    have HRd := qaa hr
    subst hv
    clear hrow hr HI HI0 Hbad Hrow Hok hE hE0
    go_wp2_with (go_at_call 33; (with_reducible refine Hr.out.mono ?_); rintro e w1 ⟨rfl, hb1⟩; have HB1 := qaa (HB.out.trans (hb1.mono HB.out.size)); have HR1 := qaa ((HRd.out.below hb1).more hb1.size); clear hb1 Hr)
    go_ret2
    rw [HF.out]
    exact ⟨A, c, rfl, hc, HR1.out, HB1.out⟩
theorem yf2 (l : List Rc) (k : Nat) (h : k < l.length) : rjB (l.take (k + 1)) = rjB (l.take k) ++ rB l[k] := by
 rw [qap h, rjB_app]
 show _ ++ (rB l[k] ++ []) = _
 rw [qa8]
theorem rjB_le (l : List Rc) (k : Nat) : (rjB (l.take k)).length ≤ (rjB l).length := by
 have h : rjB l = rjB (l.take k) ++ rjB (l.drop k) := by rw [← rjB_app, qax]
 rw [h, qae]
 omega
theorem rB_len {r : Rc} (h : rmay r = true) : (rB r).length ≤ 2027 := by
 have h1 := yd0 r.1
 have h2 := yd0 r.2.1
 have h3 := yd0 r.2.2.length
 have h4 := (ybc r).1 h
 unfold rB
 rw [qae, qae, qae]
 omega
def fewF (l : List Rc) : Bool := decide (l.length ≤ 200) && l.all fun r => decide (r.2.2.length ≤ 3000)
theorem yce {l : List Rc} (h : fewF l = true) : l.length ≤ 200 := by
 unfold fewF at h
 rw [qbH, qaR] at h
 exact h.1
theorem few_data {l : List Rc} (h : fewF l = true) : ∀ r ∈ l, r.2.2.length ≤ 3000 := by
 unfold fewF at h
 rw [qbH, qb5] at h
 exact fun r hr => qbo (h.2 r hr)
theorem few_no {l : List Rc} {k : Nat} (h : k < l.length) (hk : 3000 < l[k].2.2.length) : fewF l = false := by
 cases e : fewF l with
 | false => rfl
 | true =>
  have := few_data e _ (qaq h)
  omega
theorem few_yes {l : List Rc} (h : l.length ≤ 200) (hd : ∀ k (hk : k < l.length), l[k].2.2.length ≤ 3000) : fewF l = true := by
 unfold fewF
 rw [qbH, qaR, qb5]
 refine ⟨h, fun r hr => ?_⟩
 obtain ⟨k, hk, rfl⟩ := qaI hr
 exact qaP (hd k hk)
theorem ybn (l : List Rc) (A : Option Addr) (n c : Nat) (w : World) (hl : l.length = n) (hr : Reads w w.heap.size 3 A n (rcs l)) :
  Calls prog 19 #[.slice A n c] w fun e w' => e = .returned (.bool (fewF l)) ∧ w' = w := by
 by_cases hn : n ≤ 200
 ·have hni : ¬ (200 : Int) < (n : Int) := by omega
  have Hc := qaa (yby hr hl)
  have Hl := qaa hl
  clear hr hl
  go_enter func19, ntmps19
  go_wp2
  go_loopw [3] (fun i wr => ∃ k : Nat, k ≤ n ∧ i = .int .i64 (k : Int) ∧ Hid (∀ j (hj : j < l.length), j < k → l[j].2.2.length ≤ 3000) ∧ wr = w) (fun i _ => n - (intOf i).toNat)
  case atStart => exact ⟨0, by omega, rfl, qaa fun j _ h => absurd h (Nat.not_lt_zero _), rfl⟩
  case round =>
   obtain ⟨k, hk, rfl, HK, rfl⟩ := hrel
   by_cases hlt : k < n
   ·have hkl : k < l.length := by have := Hl.out; omega
    obtain ⟨b, off, rfl, hb, hcell⟩ := Hc.out k hlt
    have c2 := (hcell k hkl).2.2
    have hki : (0 : Int) ≤ (k : Int) ∧ (k : Int) < (n : Int) := by omega
    have HN : Hid (3000 < l[k].2.2.length → fewF l = false) := qaa (few_no hkl)
    have HY : Hid (l[k].2.2.length ≤ 3000 → ∀ j (hj : j < l.length), j < k + 1 → l[j].2.2.length ≤ 3000) := qaa fun h j hj hj2 => by
     by_cases e : j = k
     ·subst e
      exact h
     ·exact HK.out j hj (by omega)
    clear hcell Hc
    generalize l[k].2.2 = d at *
    by_cases hd : 3000 < d.length
    ·have hdi : (3000 : Int) < (d.length : Int) := by omega
     have HF := qaa (HN.out hd)
     clear HN HY
     go_wp2
     go_ret
     exact ⟨by rw [HF.out]; rfl, rfl⟩
    ·have hdi : ¬ (3000 : Int) < (d.length : Int) := by omega
     have HY2 := qaa (HY.out (by omega))
     clear HN HY
     go_wp2
     go_roundw
     case rel => exact ⟨k + 1, by omega, iv (by omega), HY2, by first | rfl | trivial⟩
     case measure => simp only [intOf]; omega
   ·obtain rfl : k = n := by omega
    have HF := qaa (few_yes (l := l) (by have := Hl.out; omega) fun j hj => HK.out j hj (by have := Hl.out; omega))
    go_wp2
    go_ret
    exact ⟨by rw [HF.out]; rfl, rfl⟩
 ·have hni : (200 : Int) < (n : Int) := by omega
  have HF : Hid (fewF l = false) := qaa (by
   cases e : fewF l with
   | false => rfl
   | true =>
    have := yce e
    omega)
  clear hr hl
  go_enter func19, ntmps19
  go_wp2
  go_ret
  exact ⟨by rw [HF.out]; rfl, rfl⟩
end Go.Proofs.YtanjhbkbpalnaaaGreat
