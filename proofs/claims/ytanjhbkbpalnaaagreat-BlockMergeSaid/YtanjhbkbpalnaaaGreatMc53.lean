/-
 Blocks of two rows, the second one of which goes on, are merged to the block of both, unless it is too great; the layer's probe holds (BlockMerge). No condition.
-/
import Derived.Test.YtanjhbkbpalnaaaGreatMc51
set_option maxRecDepth 100000
set_option maxHeartbeats 8000000
open Go.Proofs.Tryz
namespace Go.Proofs.YtanjhbkbpalnaaaGreat
set_option linter.unusedSimpArgs false
set_option linter.unusedVariables false
open Go.ChangeShapes Go.WideShapes Go.ChangeAt Go.RowKit Go.Joins Go.Deep
theorem rcs_top (l : List Rc) (k : Nat) (h : k ≤ l.length) : (rcs l).take (k * 3) = rcs (l.take k) := by
 have e : rcs l = rcs (l.take k) ++ rcs (l.drop k) := by rw [← rcs_app, qax]
 rw [e]
 exact qbT (by rw [yeR, qao, qbi h])
theorem ye6 {w : World} {B size n k : Nat} {A : Option Addr} {xs : List Value} (h : Reads w B size A n xs) (hk : k ≤ n) : Reads w B size A k (xs.take (k * size)) := by
 refine ⟨by rw [qao, h.1]; exact qbi (qcl _ hk), fun h0 => ?_⟩
 obtain ⟨b, off, e, hb, hc⟩ := h.2 (by omega)
 refine ⟨b, off, e, hb, fun j u hj => hc j u ?_⟩
 rw [List.getElem?_take] at hj
 split at hj
 ·exact hj
 ·cases hj
theorem blockMerge_far (l : List Rc) (A : Option Addr) (n c : Nat) (hl : l.length = n) (p : Int) (w : World) (h : fewF l = false) (hr : Reads w w.heap.size 3 A n (rcs l)) :
  Calls prog 11 #[.slice A n c, .int .i64 p] w fun e w' => e = .returned (.bool true) ∧ Below w.heap.size w w' := by
 have Hb := qaa (qam w.heap.size w)
 have hf := ybn l A n c w hl hr
 rw [h] at hf
 replace hf := qaa hf
 go_enter func11, ntmps11
 go_wp2_with (first
  | (go_at_call 19; (with_reducible refine hf.out.mono ?_); rintro e w0 ⟨rfl, hw0⟩; obtain rfl := hw0.symm; clear hf hw0)
  | (go_at_call 21; refine (yam _).mono ?_; rintro e w9 ⟨rfl, hb9⟩; replace Hb := qaa (Hb.out.trans (hb9.mono Hb.out.size)); clear hb9))
 go_ret
 exact ⟨rfl, Hb.out⟩
theorem blockMerge_low (l : List Rc) (A : Option Addr) (n c : Nat) (hl : l.length = n) (p : Int) (w : World) (h : fewF l = true) (h1 : p < 1) (hr : Reads w w.heap.size 3 A n (rcs l)) :
  Calls prog 11 #[.slice A n c, .int .i64 p] w fun e w' => e = .returned (.bool true) ∧ Below w.heap.size w w' := by
 have Hb := qaa (qam w.heap.size w)
 have hf := ybn l A n c w hl hr
 rw [h] at hf
 replace hf := qaa hf
 go_enter func11, ntmps11
 go_wp2_with (first
  | (go_at_call 19; (with_reducible refine hf.out.mono ?_); rintro e w0 ⟨rfl, hw0⟩; obtain rfl := hw0.symm; clear hf hw0)
  | (go_at_call 21; refine (yam _).mono ?_; rintro e w9 ⟨rfl, hb9⟩; replace Hb := qaa (Hb.out.trans (hb9.mono Hb.out.size)); clear hb9))
 go_ret
 exact ⟨rfl, Hb.out⟩
theorem yfQ (l : List Rc) (A : Option Addr) (n c : Nat) (hl : l.length = n) (p : Int) (w : World) (h : fewF l = true) (h1 : ¬ p < 1) (h2 : (n : Int) ≤ p) (hr : Reads w w.heap.size 3 A n (rcs l)) :
  Calls prog 11 #[.slice A n c, .int .i64 p] w fun e w' => e = .returned (.bool true) ∧ Below w.heap.size w w' := by
 have Hb := qaa (qam w.heap.size w)
 have hf := ybn l A n c w hl hr
 rw [h] at hf
 replace hf := qaa hf
 go_enter func11, ntmps11
 go_wp2_with (first
  | (go_at_call 19; (with_reducible refine hf.out.mono ?_); rintro e w0 ⟨rfl, hw0⟩; obtain rfl := hw0.symm; clear hf hw0)
  | (go_at_call 21; refine (yam _).mono ?_; rintro e w9 ⟨rfl, hb9⟩; replace Hb := qaa (Hb.out.trans (hb9.mono Hb.out.size)); clear hb9))
 go_ret
 exact ⟨rfl, Hb.out⟩
theorem blockMerge_row (l : List Rc) (A : Option Addr) (n c : Nat) (hl : l.length = n) (p : Int) (w : World) (h : fewF l = true) (h1 : ¬ p < 1) (h2 : ¬ (n : Int) ≤ p) (hE : yaz l ≠ 0) (hr : Reads w w.heap.size 3 A n (rcs l)) :
  Calls prog 11 #[.slice A n c, .int .i64 p] w fun e w' => e = .returned (.bool true) ∧ Below w.heap.size w w' := by
 have Hb := qaa (qam w.heap.size w)
 have hf := ybn l A n c w hl hr
 rw [h] at hf
 replace hf := qaa hf
 have hn : n ≤ 1000000 := by have := yce h; omega
 have R1 := fun W (hb : Below w.heap.size w W) => ybu l A n c W hl hn ((hr.below hb).more hb.size)
 replace R1 := qaa R1
 have h3 : p < (n : Int) := by omega
 clear hr hl hn h
 generalize yaz l = E at *
 have q2 : (E != 0) = true := by simpa using hE
 go_enter func11, ntmps11
 go_wp2_with (first
  | (go_at_call 19; (with_reducible refine hf.out.mono ?_); rintro e w0 ⟨rfl, hw0⟩; obtain rfl := hw0.symm; clear hf hw0)
  | (go_at_call 33; (with_reducible refine (R1.out _ Hb.out).mono ?_); rintro e w1 ⟨rfl, hb1⟩; replace Hb := qaa (Hb.out.trans (hb1.mono Hb.out.size)); clear hb1; clear R1)
  | (go_at_call 21; refine (yam _).mono ?_; rintro e w9 ⟨rfl, hb9⟩; replace Hb := qaa (Hb.out.trans (hb9.mono Hb.out.size)); clear hb9))
 go_ret
 exact ⟨rfl, Hb.out⟩
theorem yhe (l : List Rc) (A : Option Addr) (n c : Nat) (hl : l.length = n) (hnc : n ≤ c) (m : Nat) (hm : 1 ≤ m) (hmn : m < n) (w : World) (h : fewF l = true) (hrow : yaz l = 0) (hE : (yaj (l.take m)).2 ≠ 0) (hB : (yaj l).2 = 3) (hr : Reads w w.heap.size 3 A n (rcs l)) :
  Calls prog 11 #[.slice A n c, .int .i64 (m : Int)] w fun e w' => e = .returned (.bool true) ∧ Below w.heap.size w w' := by
 have Hb := qaa (qam w.heap.size w)
 have hf := ybn l A n c w hl hr
 rw [h] at hf
 replace hf := qaa hf
 have hn : n ≤ 1000000 := by have := yce h; omega
 have R1 := fun W (hb : Below w.heap.size w W) => ybu l A n c W hl hn ((hr.below hb).more hb.size)
 rw [hrow] at R1
 obtain ⟨i0, hi0, hz0, hz1, hz9⟩ := qb4 ydm
 have htop := fun W => ybD (P := prog) underlying38 hi0 hz1 A n c m (by omega) W
 have hfrom := fun W => yaN (P := prog) underlying38 hi0 hz1 A n c m (by omega) W
 have hr1 := ye6 hr (k := m) (by omega)
 rw [rcs_top l m (by omega)] at hr1
 have hr2 := hr.cut (k := m) (cap := c) (by omega) hnc
 rw [yev] at hr2
 obtain ⟨A2, hA2⟩ : ∃ A2, (if c = m then A else A.map (·.add (m * 3))) = A2 := ⟨_, rfl⟩
 rw [hA2] at hr2 hfrom
 obtain ⟨n2, hn2⟩ : ∃ n2, n - m = n2 := ⟨_, rfl⟩
 rw [hn2] at hr2 hfrom
 obtain ⟨c2, hc2⟩ : ∃ c2, c - m = c2 := ⟨_, rfl⟩
 rw [hc2] at hfrom
 have P1 := fun W (hb : Below w.heap.size w W) => yal (l.take m) A m c W (by rw [qao]; omega) (by omega) ((hr1.below hb).more hb.size)
 have P2 := fun W (hb : Below w.heap.size w W) => yal (l.drop m) A2 n2 c2 W (by rw [qat]; omega) (by omega) ((hr2.below hb).more hb.size)
 have P3 := fun W (hb : Below w.heap.size w W) => yal l A n c W hl hn ((hr.below hb).more hb.size)
 unfold yaI at P1 P2 P3
 have hmi : ¬ (m : Int) < 1 ∧ ¬ (n : Int) ≤ (m : Int) ∧ (m : Int) < (n : Int) ∧ (1 : Int) ≤ (m : Int) := by omega
 obtain ⟨hm1, hm2, hm3, hm4⟩ := hmi
 rw [hB] at P3
 generalize (yaj (l.take m)).2 = E1 at *
 have q2 : (E1 != 0) = true := by simpa using hE
 replace R1 := qaa R1
 replace P1 := qaa P1
 replace P2 := qaa P2
 replace P3 := qaa P3
 clear hr hr1 hr2 hl hn h hz0 hz9 hi0 hz1 hA2 hn2 hc2 hrow hnc hm hmn
 generalize (yaj (l.take m)).1 = X1 at *
 generalize (yaj (l.drop m)).1 = X2 at *
 generalize (yaj l).1 = X3 at *
 go_enter func11, ntmps11
 go_wp2_with (first
  | (go_at_call 19; (with_reducible refine hf.out.mono ?_); rintro e w0 ⟨rfl, hw0⟩; obtain rfl := hw0.symm; clear hf hw0)
  | (go_at_call 33; (with_reducible refine (R1.out _ Hb.out).mono ?_); rintro e w1 ⟨rfl, hb1⟩; replace Hb := qaa (Hb.out.trans (hb1.mono Hb.out.size)); clear hb1; clear R1)
  | (go_at_call 22; (with_reducible refine (P1.out _ Hb.out).mono ?_); rintro e w2 ⟨rfl, hb2⟩; replace Hb := qaa (Hb.out.trans (hb2.mono Hb.out.size)); clear hb2; clear P1)
  | (go_at_call 22; (with_reducible refine (P2.out _ Hb.out).mono ?_); rintro e w3 ⟨rfl, hb3⟩; replace Hb := qaa (Hb.out.trans (hb3.mono Hb.out.size)); clear hb3; clear P2)
  | (go_at_call 22; (with_reducible refine (P3.out _ Hb.out).mono ?_); rintro e w4 ⟨rfl, hb4⟩; replace Hb := qaa (Hb.out.trans (hb4.mono Hb.out.size)); clear hb4; clear P3)
  | (go_at_call 21; refine (yam _).mono ?_; rintro e w9 ⟨rfl, hb9⟩; replace Hb := qaa (Hb.out.trans (hb9.mono Hb.out.size)); clear hb9))
 go_ret
 exact ⟨rfl, Hb.out⟩
theorem ygl (l : List Rc) (A : Option Addr) (n c : Nat) (hl : l.length = n) (hnc : n ≤ c) (m : Nat) (hm : 1 ≤ m) (hmn : m < n) (w : World) (h : fewF l = true) (hrow : yaz l = 0) (hE1 : (yaj (l.take m)).2 = 0) (hE : (yaj (l.drop m)).2 ≠ 0) (hB : (yaj l).2 = 3) (hr : Reads w w.heap.size 3 A n (rcs l)) :
  Calls prog 11 #[.slice A n c, .int .i64 (m : Int)] w fun e w' => e = .returned (.bool true) ∧ Below w.heap.size w w' := by
 have Hb := qaa (qam w.heap.size w)
 have hf := ybn l A n c w hl hr
 rw [h] at hf
 replace hf := qaa hf
 have hn : n ≤ 1000000 := by have := yce h; omega
 have R1 := fun W (hb : Below w.heap.size w W) => ybu l A n c W hl hn ((hr.below hb).more hb.size)
 rw [hrow] at R1
 obtain ⟨i0, hi0, hz0, hz1, hz9⟩ := qb4 ydm
 have htop := fun W => ybD (P := prog) underlying38 hi0 hz1 A n c m (by omega) W
 have hfrom := fun W => yaN (P := prog) underlying38 hi0 hz1 A n c m (by omega) W
 have hr1 := ye6 hr (k := m) (by omega)
 rw [rcs_top l m (by omega)] at hr1
 have hr2 := hr.cut (k := m) (cap := c) (by omega) hnc
 rw [yev] at hr2
 obtain ⟨A2, hA2⟩ : ∃ A2, (if c = m then A else A.map (·.add (m * 3))) = A2 := ⟨_, rfl⟩
 rw [hA2] at hr2 hfrom
 obtain ⟨n2, hn2⟩ : ∃ n2, n - m = n2 := ⟨_, rfl⟩
 rw [hn2] at hr2 hfrom
 obtain ⟨c2, hc2⟩ : ∃ c2, c - m = c2 := ⟨_, rfl⟩
 rw [hc2] at hfrom
 have P1 := fun W (hb : Below w.heap.size w W) => yal (l.take m) A m c W (by rw [qao]; omega) (by omega) ((hr1.below hb).more hb.size)
 have P2 := fun W (hb : Below w.heap.size w W) => yal (l.drop m) A2 n2 c2 W (by rw [qat]; omega) (by omega) ((hr2.below hb).more hb.size)
 have P3 := fun W (hb : Below w.heap.size w W) => yal l A n c W hl hn ((hr.below hb).more hb.size)
 unfold yaI at P1 P2 P3
 have hmi : ¬ (m : Int) < 1 ∧ ¬ (n : Int) ≤ (m : Int) ∧ (m : Int) < (n : Int) ∧ (1 : Int) ≤ (m : Int) := by omega
 obtain ⟨hm1, hm2, hm3, hm4⟩ := hmi
 rw [hB] at P3
 rw [hE1] at P1
 generalize (yaj (l.drop m)).2 = E2 at *
 have q2 : (E2 != 0) = true := by simpa using hE
 replace R1 := qaa R1
 replace P1 := qaa P1
 replace P2 := qaa P2
 replace P3 := qaa P3
 clear hr hr1 hr2 hl hn h hz0 hz9 hi0 hz1 hA2 hn2 hc2 hrow hnc hm hmn
 generalize (yaj (l.take m)).1 = X1 at *
 generalize (yaj (l.drop m)).1 = X2 at *
 generalize (yaj l).1 = X3 at *
 go_enter func11, ntmps11
 go_wp2_with (first
  | (go_at_call 19; (with_reducible refine hf.out.mono ?_); rintro e w0 ⟨rfl, hw0⟩; obtain rfl := hw0.symm; clear hf hw0)
  | (go_at_call 33; (with_reducible refine (R1.out _ Hb.out).mono ?_); rintro e w1 ⟨rfl, hb1⟩; replace Hb := qaa (Hb.out.trans (hb1.mono Hb.out.size)); clear hb1; clear R1)
  | (go_at_call 22; (with_reducible refine (P1.out _ Hb.out).mono ?_); rintro e w2 ⟨rfl, hb2⟩; replace Hb := qaa (Hb.out.trans (hb2.mono Hb.out.size)); clear hb2; clear P1)
  | (go_at_call 22; (with_reducible refine (P2.out _ Hb.out).mono ?_); rintro e w3 ⟨rfl, hb3⟩; replace Hb := qaa (Hb.out.trans (hb3.mono Hb.out.size)); clear hb3; clear P2)
  | (go_at_call 22; (with_reducible refine (P3.out _ Hb.out).mono ?_); rintro e w4 ⟨rfl, hb4⟩; replace Hb := qaa (Hb.out.trans (hb4.mono Hb.out.size)); clear hb4; clear P3)
  | (go_at_call 21; refine (yam _).mono ?_; rintro e w9 ⟨rfl, hb9⟩; replace Hb := qaa (Hb.out.trans (hb9.mono Hb.out.size)); clear hb9))
 go_ret
 exact ⟨rfl, Hb.out⟩
theorem blockMerge_fit (l : List Rc) (A : Option Addr) (n c : Nat) (hl : l.length = n) (hnc : n ≤ c) (m : Nat) (hm : 1 ≤ m) (hmn : m < n) (w : World) (h : fewF l = true) (hrow : yaz l = 0) (hE1 : (yaj (l.take m)).2 = 0) (hE2 : (yaj (l.drop m)).2 = 0) (hB : (yaj l).2 = 0) (hr : Reads w w.heap.size 3 A n (rcs l)) :
  Calls prog 11 #[.slice A n c, .int .i64 (m : Int)] w fun e w' => e = .returned (.bool true) ∧ Below w.heap.size w w' := by
 have Hb := qaa (qam w.heap.size w)
 have hf := ybn l A n c w hl hr
 rw [h] at hf
 replace hf := qaa hf
 have hn : n ≤ 1000000 := by have := yce h; omega
 have R1 := fun W (hb : Below w.heap.size w W) => ybu l A n c W hl hn ((hr.below hb).more hb.size)
 rw [hrow] at R1
 obtain ⟨i0, hi0, hz0, hz1, hz9⟩ := qb4 ydm
 have htop := fun W => ybD (P := prog) underlying38 hi0 hz1 A n c m (by omega) W
 have hfrom := fun W => yaN (P := prog) underlying38 hi0 hz1 A n c m (by omega) W
 have hr1 := ye6 hr (k := m) (by omega)
 rw [rcs_top l m (by omega)] at hr1
 have hr2 := hr.cut (k := m) (cap := c) (by omega) hnc
 rw [yev] at hr2
 obtain ⟨A2, hA2⟩ : ∃ A2, (if c = m then A else A.map (·.add (m * 3))) = A2 := ⟨_, rfl⟩
 rw [hA2] at hr2 hfrom
 obtain ⟨n2, hn2⟩ : ∃ n2, n - m = n2 := ⟨_, rfl⟩
 rw [hn2] at hr2 hfrom
 obtain ⟨c2, hc2⟩ : ∃ c2, c - m = c2 := ⟨_, rfl⟩
 rw [hc2] at hfrom
 have P1 := fun W (hb : Below w.heap.size w W) => yal (l.take m) A m c W (by rw [qao]; omega) (by omega) ((hr1.below hb).more hb.size)
 have P2 := fun W (hb : Below w.heap.size w W) => yal (l.drop m) A2 n2 c2 W (by rw [qat]; omega) (by omega) ((hr2.below hb).more hb.size)
 have P3 := fun W (hb : Below w.heap.size w W) => yal l A n c W hl hn ((hr.below hb).more hb.size)
 unfold yaI at P1 P2 P3
 have hmi : ¬ (m : Int) < 1 ∧ ¬ (n : Int) ≤ (m : Int) ∧ (m : Int) < (n : Int) ∧ (1 : Int) ≤ (m : Int) := by omega
 obtain ⟨hm1, hm2, hm3, hm4⟩ := hmi
 obtain ⟨_, s1⟩ := ygp hE1
 obtain ⟨_, s2⟩ := ygp hE2
 have M := fun W => ydF (yaj (l.take m)).1 (yaj (l.drop m)).1 W (fun W => ybf _ W (by omega)) (fun W => ybf _ W (by omega))
 rw [omerge hE1 hE2, qax] at M
 unfold yaI at M
 rw [hB] at P3 M
 rw [hE1] at P1
 rw [hE2] at P2
 replace M := qaa M
 replace R1 := qaa R1
 replace P1 := qaa P1
 replace P2 := qaa P2
 replace P3 := qaa P3
 clear hr hr1 hr2 hl hn h hz0 hz9 hi0 hz1 hA2 hn2 hc2 hrow hnc hm hmn
 clear s1 s2
 generalize (yaj (l.take m)).1 = X1 at *
 generalize (yaj (l.drop m)).1 = X2 at *
 generalize (yaj l).1 = X3 at *
 have q1 : (X3 == X3) = true := beq_self_eq_true _
 go_enter func11, ntmps11
 go_wp2_with (first
  | (go_at_call 19; (with_reducible refine hf.out.mono ?_); rintro e w0 ⟨rfl, hw0⟩; obtain rfl := hw0.symm; clear hf hw0)
  | (go_at_call 33; (with_reducible refine (R1.out _ Hb.out).mono ?_); rintro e w1 ⟨rfl, hb1⟩; replace Hb := qaa (Hb.out.trans (hb1.mono Hb.out.size)); clear hb1; clear R1)
  | (go_at_call 22; (with_reducible refine (P1.out _ Hb.out).mono ?_); rintro e w2 ⟨rfl, hb2⟩; replace Hb := qaa (Hb.out.trans (hb2.mono Hb.out.size)); clear hb2; clear P1)
  | (go_at_call 22; (with_reducible refine (P2.out _ Hb.out).mono ?_); rintro e w3 ⟨rfl, hb3⟩; replace Hb := qaa (Hb.out.trans (hb3.mono Hb.out.size)); clear hb3; clear P2)
  | (go_at_call 22; (with_reducible refine (P3.out _ Hb.out).mono ?_); rintro e w4 ⟨rfl, hb4⟩; replace Hb := qaa (Hb.out.trans (hb4.mono Hb.out.size)); clear hb4; clear P3)
  | (go_at_call 34; (with_reducible refine (M.out _).mono ?_); rintro e w5 ⟨rfl, hb5⟩; replace Hb := qaa (Hb.out.trans (hb5.mono Hb.out.size)); clear hb5; clear M)
  | (go_at_call 21; refine (yam _).mono ?_; rintro e w9 ⟨rfl, hb9⟩; replace Hb := qaa (Hb.out.trans (hb9.mono Hb.out.size)); clear hb9))
 go_ret
 exact ⟨rfl, Hb.out⟩
theorem blockMerge_big (l : List Rc) (A : Option Addr) (n c : Nat) (hl : l.length = n) (hnc : n ≤ c) (m : Nat) (hm : 1 ≤ m) (hmn : m < n) (w : World) (h : fewF l = true) (hrow : yaz l = 0) (hE1 : (yaj (l.take m)).2 = 0) (hE2 : (yaj (l.drop m)).2 = 0) (hB : (yaj l).2 = 3) (hr : Reads w w.heap.size 3 A n (rcs l)) :
  Calls prog 11 #[.slice A n c, .int .i64 (m : Int)] w fun e w' => e = .returned (.bool true) ∧ Below w.heap.size w w' := by
 have Hb := qaa (qam w.heap.size w)
 have hf := ybn l A n c w hl hr
 rw [h] at hf
 replace hf := qaa hf
 have hn : n ≤ 1000000 := by have := yce h; omega
 have R1 := fun W (hb : Below w.heap.size w W) => ybu l A n c W hl hn ((hr.below hb).more hb.size)
 rw [hrow] at R1
 obtain ⟨i0, hi0, hz0, hz1, hz9⟩ := qb4 ydm
 have htop := fun W => ybD (P := prog) underlying38 hi0 hz1 A n c m (by omega) W
 have hfrom := fun W => yaN (P := prog) underlying38 hi0 hz1 A n c m (by omega) W
 have hr1 := ye6 hr (k := m) (by omega)
 rw [rcs_top l m (by omega)] at hr1
 have hr2 := hr.cut (k := m) (cap := c) (by omega) hnc
 rw [yev] at hr2
 obtain ⟨A2, hA2⟩ : ∃ A2, (if c = m then A else A.map (·.add (m * 3))) = A2 := ⟨_, rfl⟩
 rw [hA2] at hr2 hfrom
 obtain ⟨n2, hn2⟩ : ∃ n2, n - m = n2 := ⟨_, rfl⟩
 rw [hn2] at hr2 hfrom
 obtain ⟨c2, hc2⟩ : ∃ c2, c - m = c2 := ⟨_, rfl⟩
 rw [hc2] at hfrom
 have P1 := fun W (hb : Below w.heap.size w W) => yal (l.take m) A m c W (by rw [qao]; omega) (by omega) ((hr1.below hb).more hb.size)
 have P2 := fun W (hb : Below w.heap.size w W) => yal (l.drop m) A2 n2 c2 W (by rw [qat]; omega) (by omega) ((hr2.below hb).more hb.size)
 have P3 := fun W (hb : Below w.heap.size w W) => yal l A n c W hl hn ((hr.below hb).more hb.size)
 unfold yaI at P1 P2 P3
 have hmi : ¬ (m : Int) < 1 ∧ ¬ (n : Int) ≤ (m : Int) ∧ (m : Int) < (n : Int) ∧ (1 : Int) ≤ (m : Int) := by omega
 obtain ⟨hm1, hm2, hm3, hm4⟩ := hmi
 obtain ⟨_, s1⟩ := ygp hE1
 obtain ⟨_, s2⟩ := ygp hE2
 have M := fun W => ydF (yaj (l.take m)).1 (yaj (l.drop m)).1 W (fun W => ybf _ W (by omega)) (fun W => ybf _ W (by omega))
 rw [omerge hE1 hE2, qax] at M
 unfold yaI at M
 rw [hB] at P3 M
 rw [hE1] at P1
 rw [hE2] at P2
 replace M := qaa M
 replace R1 := qaa R1
 replace P1 := qaa P1
 replace P2 := qaa P2
 replace P3 := qaa P3
 clear hr hr1 hr2 hl hn h hz0 hz9 hi0 hz1 hA2 hn2 hc2 hrow hnc hm hmn
 clear s1 s2
 generalize (yaj (l.take m)).1 = X1 at *
 generalize (yaj (l.drop m)).1 = X2 at *
 generalize (yaj l).1 = X3 at *
 have q1 : (X3 == X3) = true := beq_self_eq_true _
 go_enter func11, ntmps11
 go_wp2_with (first
  | (go_at_call 19; (with_reducible refine hf.out.mono ?_); rintro e w0 ⟨rfl, hw0⟩; obtain rfl := hw0.symm; clear hf hw0)
  | (go_at_call 33; (with_reducible refine (R1.out _ Hb.out).mono ?_); rintro e w1 ⟨rfl, hb1⟩; replace Hb := qaa (Hb.out.trans (hb1.mono Hb.out.size)); clear hb1; clear R1)
  | (go_at_call 22; (with_reducible refine (P1.out _ Hb.out).mono ?_); rintro e w2 ⟨rfl, hb2⟩; replace Hb := qaa (Hb.out.trans (hb2.mono Hb.out.size)); clear hb2; clear P1)
  | (go_at_call 22; (with_reducible refine (P2.out _ Hb.out).mono ?_); rintro e w3 ⟨rfl, hb3⟩; replace Hb := qaa (Hb.out.trans (hb3.mono Hb.out.size)); clear hb3; clear P2)
  | (go_at_call 22; (with_reducible refine (P3.out _ Hb.out).mono ?_); rintro e w4 ⟨rfl, hb4⟩; replace Hb := qaa (Hb.out.trans (hb4.mono Hb.out.size)); clear hb4; clear P3)
  | (go_at_call 34; (with_reducible refine (M.out _).mono ?_); rintro e w5 ⟨rfl, hb5⟩; replace Hb := qaa (Hb.out.trans (hb5.mono Hb.out.size)); clear hb5; clear M)
  | (go_at_call 21; refine (yam _).mono ?_; rintro e w9 ⟨rfl, hb9⟩; replace Hb := qaa (Hb.out.trans (hb9.mono Hb.out.size)); clear hb9))
 go_ret
 exact ⟨rfl, Hb.out⟩
theorem ygH (l : List Rc) (A : Option Addr) (n c : Nat) (hl : l.length = n) (p : Int) (hnc : n ≤ c) (w : World) (hr : Reads w w.heap.size 3 A n (rcs l)) :
  Calls prog 11 #[.slice A n c, .int .i64 p] w fun e w' => e = .returned (.bool true) ∧ Below w.heap.size w w' := by
 cases h : fewF l with
 | false => exact blockMerge_far l A n c hl p w h hr
 | true =>
  by_cases h1 : p < 1
  ·exact blockMerge_low l A n c hl p w h h1 hr
  by_cases h2 : (n : Int) ≤ p
  ·exact yfQ l A n c hl p w h h1 h2 hr
  by_cases hE : yaz l ≠ 0
  ·exact blockMerge_row l A n c hl p w h h1 h2 hE hr
  have hrow : yaz l = 0 := qb2.1 hE
  obtain ⟨m, rfl⟩ : ∃ m : Nat, p = (m : Int) := ⟨p.toNat, by omega⟩
  have hp := opart (a := l.take m) (b := l.drop m) (by rw [qax]; exact hrow) (by rw [qao]; omega) (by rw [qat]; omega)
  rw [qax] at hp
  by_cases e1 : (yaj (l.take m)).2 ≠ 0
  ·exact yhe l A n c hl hnc m (by omega) (by omega) w h hrow e1 (hp.1 e1) hr
  by_cases e2 : (yaj (l.drop m)).2 ≠ 0
  ·exact ygl l A n c hl hnc m (by omega) (by omega) w h hrow (qb2.1 e1) e2 (hp.2.1 e2) hr
  rcases hp.2.2 with e3 | e3
  ·exact blockMerge_fit l A n c hl hnc m (by omega) (by omega) w h hrow (qb2.1 e1) (qb2.1 e2) e3 hr
  ·exact blockMerge_big l A n c hl hnc m (by omega) (by omega) w h hrow (qb2.1 e1) (qb2.1 e2) e3 hr
namespace BlockMerge
theorem lifted (os : Os) (started : os.Started) (H : Type) (enc : TypeId × Value → H) :
  ReturnsInHanded {} Tryz.checked os 11 .any (Rows.blockMergeSpec.pre6 enc prog Tryz.f11 Rows.blockMergeRow.domain false) (Rows.blockMergeSpec.post enc prog Tryz.f11 false true false false) := by
 refine yec (C := Tryz.checked) (tb := 4) ownP started (by kernel_rfl) func11
  (ChangeSpec.witness6 (enc := enc) (C := Tryz.checked) false ⟨#[], #[.slice none 0 0, .int .i64 0], []⟩ 8 (by kernel_rfl) (by kernel_rfl) (by kernel_rfl) (by kernel_rfl))
  laidP (by kernel_rfl) rfl (by kernel_rfl) underlying4 (by intro ds h; match ds, h with | [_, _], _ => rfl) ?_
 intro W base args ds p hval0 hA0 hlt _
 have hval : ∀ (j : Nat) t v, Tryz.f11.params[j]? = some t → args[j]? = some v → Value.okWide prog W .any base t v := hval0
 have hA : DataW.TrodAll enc prog W 0 (fun _ => true) true Tryz.f11.params.toList args.toList ds p := hA0
 rw [Tryz.params11] at hA hval
 obtain ⟨v0, v1, d0, d1, p0, p1, rfl, rfl, rfl, h0, h1⟩ := trodAll_two hA
 obtain ⟨Al, nl, cl, l, rfl, el, hnl, hml, hrl, hbl⟩ := yg9 underlying38 underlying54 (by kernel_rfl) (by kernel_rfl) underlying3 underlying3 underlying9 (hval 0 38 v0 rfl rfl) h0
 obtain ⟨p, rfl, rfl, rfl, wp⟩ := open_int underlying3 (hval 1 3 v1 rfl rfl) h1
 exact ygH l Al nl cl el p hnl W hrl
theorem holds : Rows.BlockMergeSaid :=
 OpenClaim.holds_of_wide 11 Tryz.f11 rfl rfl rfl rfl rfl rfl rfl ⟨rfl, rfl, rfl, rfl, rfl⟩ rfl rfl rfl rfl rfl (by kernel_rfl) func11 (by kernel_rfl)
  (qbo (by kernel_rfl)) (by unfold Func.isWrapper; first | (rw [qah (by decide +kernel)]; kernel_rfl) | (rw [qag (by decide +kernel)]; exact ⟨rfl, rfl⟩))
  (fun os started H enc _ => lifted os started H enc)
end BlockMerge
end Go.Proofs.YtanjhbkbpalnaaaGreat
