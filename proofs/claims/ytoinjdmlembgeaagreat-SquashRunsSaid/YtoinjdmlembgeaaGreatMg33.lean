/-
 What the law of the last of these texts stands on, part 33.
-/
import Derived.Test.YtoinjdmlembgeaaGreatMg26
namespace Go.Proofs.YtoinjdmlembgeaaGreat
set_option linter.unusedSimpArgs false
set_option linter.unusedVariables false
open Go.ChangeShapes Go.WideShapes Go.ChangeAt Go.RowKit Go.Joins Go.Deep
theorem lints_zero (n : Nat) : madeCells #[.int .i64 0] n = (ints (List.replicate n 0)).toArray := by
 unfold ints
 apply Array.ext'
 simp [madeCells, Nat.mod_one]
 rw [List.map_const', List.length_range]
theorem lmk_ints (n : Int) (N : Nat) (hN : (N : Int) = n) (h : N ≤ 17592186044416) (w : World) :
  (Instr.makeSlice 28 (.int .i64 n) (.int .i64 n)).run Tryz.prog w = .ok (.slice (some ⟨w.heap.size, 0, none⟩) N N) (w.alloc (.cells (ints (List.replicate N 0)).toArray 3)) := by
 subst hN
 rw [← lints_zero]
 exact run_make_row' (P := Tryz.prog) 28 3 (.int .i64 0) 8 Tryz.underlying28 lint_info rfl .i64 .i64 N (by omega) (by omega) w
theorem lints_set (l : List Int) (k : Nat) (v : Int) : (ints l).toArray.setIfInBounds k (.int .i64 v) = (ints (l.set k v)).toArray := by
 rw [List.setIfInBounds_toArray]
 simp [ints, List.map_set]
theorem lout_zero (n : Nat) : List.replicate n (0 : Int) = lout n (fun _ => 0) := by
 unfold lout
 rw [List.map_const', List.length_range]
theorem LOk.of {ok ok' : Nat → Prop} {W : World} {B size n : Nat} {A : Option Addr} {xs : List Value} (hr : Reads W B size A n xs) (h : ∀ b, b < B → ok' b) : LOk ok' A n := fun hn => by
 obtain ⟨b, off, e, hb, _⟩ := hr.2 hn
 exact ⟨b, off, e, h b hb⟩
theorem LMem.ok' {ok ok' : Nat → Prop} {W : World} {B : Nat} (h : ∀ b, b < B → ok' b) : ∀ {R : List LTh} {xs : List Value}, LMem W B ok xs R → LMem W B ok' xs R
 | [], _, k => k
 | x :: t, _, ⟨As, ns, cs, rest, e, hn, hc, hr, ht⟩ => ⟨As, ns, cs, rest, e, hn, hc, ⟨hr.1, LOk.of (ok := ok) hr.1 h⟩, LMem.ok' h ht⟩
theorem LHRow.ok' {ok ok' : Nat → Prop} {W : World} {B n : Nat} {A : Option Addr} {R : List LTh} (k : LHRow W B ok A n R) (h : ∀ b, b < B → ok' b) : LHRow W B ok' A n R := by
 obtain ⟨hn, ho, xs, hr, hm⟩ := k
 exact ⟨hn, LOk.of (ok := ok) hr h, xs, hr, hm.ok' h⟩
theorem LHRow.cells {W : World} {n g : Nat} {A : Option Addr} {R : List LTh} (k : LHRow W W.heap.size (fun b => b ≠ g) A n R) (i : Nat) (hi : i < R.length) :
  ∃ b off As cs, A = some ⟨b, off, none⟩ ∧ (∀ W', W.grownBy W' (some g) → W'.cell? ⟨b, off + i * 3 + 1, none⟩ = some (.slice As R[i].syms.length cs)) ∧
   ∀ q (hq : q < R[i].syms.length), ∃ bs os, As = some ⟨bs, os, none⟩ ∧ ∀ W', W.grownBy W' (some g) → W'.cell? ⟨bs, os + q, none⟩ = some (.int .i64 (R[i].syms[q] : Int)) := by
 obtain ⟨hn, ho, xs, hr, hm⟩ := k
 obtain ⟨As, cs, h1, h2, h3, h4, h5, h6⟩ := hm.at i hi
 obtain ⟨b, off, e, hb, hc⟩ := hr.2 (by omega)
 obtain ⟨b', off', e', hbg⟩ := ho (by omega)
 rw [e] at e'
 injection e' with e'
 injection e' with e1 e2
 subst e1
 refine ⟨b, off, As, cs, e, fun W' hg => ?_, fun q hq => ?_⟩
 ·refine (World.cell?_of_block (a := ⟨b, off + i * 3 + 1, none⟩) (hg.block b hb (fun h => by injection h with h; exact hbg h))).trans ?_
  rw [Nat.add_assoc]
  exact hc _ _ h2
 ·obtain ⟨bs, os, es, hbs, hcs⟩ := h5.2 (by omega)
  obtain ⟨bs', os', es', hbsg⟩ := h6 (by omega)
  rw [es] at es'
  injection es' with es'
  injection es' with e3 e4
  subst e3
  refine ⟨bs, os, es, fun W' hg => ?_⟩
  refine (World.cell?_of_block (a := ⟨bs, os + q, none⟩) (hg.block bs hbs (fun h => by injection h with h; exact hbsg h))).trans (hcs q _ ?_)
  rw [yai _ q (by simpa [lsy] using hq)]
  simp [lsy]
theorem lhas_bound (s : Nat) (x : LTh) (h : x.syms.length ≤ 400000) : 0 ≤ lhas s x ∧ lhas s x ≤ 400000 := by
 unfold lhas
 have := List.count_le_length (a := s) (l := x.syms)
 omega
theorem lsum_bound (s : Nat) : ∀ (R : List LTh), (∀ x ∈ R, x.syms.length ≤ 400000) → 0 ≤ lsum (lhas s) R ∧ lsum (lhas s) R ≤ 400000 * R.length
 | [], _ => by simp [lsum]
 | x :: t, h => by
  have h1 := lhas_bound s x (h x (by simp))
  have h2 := lsum_bound s t fun y hy => h y (by simp [hy])
  simp only [lsum, List.length_cons]
  omega
theorem yfk (R : List LTh) (i k s : Nat) (hi : i < R.length) (h : ∀ x ∈ R, x.syms.length ≤ 400000) : 0 ≤ lfar R i k s ∧ lfar R i k s ≤ 400000 * (i + 1) := by
 unfold lfar
 have h1 := lsum_bound s (R.take i) fun x hx => h x (List.mem_of_mem_take hx)
 rw [List.length_take] at h1
 rw [List.getElem?_eq_getElem hi]
 simp only [Option.map_some, Option.getD_some]
 have h2 := List.count_le_length (a := s) (l := R[i].syms.take k)
 rw [List.length_take] at h2
 have h3 := h R[i] (List.getElem_mem hi)
 omega
theorem yfy {W : World} {g n : Nat} {R : List LTh} {i k : Nat} (hB : Blk W g 3 (ints (lout n (lfar R i k))).toArray) (hi : i < R.length) (hk : k < R[i].syms.length) (hs : R[i].syms[k] < n) :
  W.cell? ⟨g, R[i].syms[k], none⟩ = some (.int .i64 (lfar R i k R[i].syms[k])) ∧ W.frozen? ⟨g, R[i].syms[k], none⟩ = false ∧
   Blk (W.setCell ⟨g, R[i].syms[k], none⟩ (.int .i64 (lfar R i k R[i].syms[k] + 1))) g 3 (ints (lout n (lfar R i (k + 1)))).toArray := by
 refine ⟨?_, hB.frozen _, ?_⟩
 ·rw [hB.cell]
  simp only [List.getElem?_toArray]
  unfold ints
  rw [List.getElem?_map, ye2 n _ _ hs]
  rfl
 ·have h := hB.set_ R[i].syms[k] (.int .i64 (lfar R i k R[i].syms[k] + 1))
  rw [lints_set, lout_set n (lfar R i k) (lfar R i (k + 1)) _ _ (by rw [lfar_step R i k _ hi hk, if_pos rfl]) (fun t ht => by rw [lfar_step R i k t hi hk, if_neg ht]; omega)] at h
  exact h
theorem yen {W : World} {g n : Nat} {R : List LTh} {i : Nat} (hi : i < R.length) (h : Blk W g 3 (ints (lout n (lfar R i R[i].syms.length))).toArray) : Blk W g 3 (ints (lout n (lfar R (i + 1) 0))).toArray := by
 rw [ybK n (lfar R (i + 1) 0) (lfar R i R[i].syms.length) fun t _ => by rw [yeT, lfar_end R i t hi]]
 exact h
theorem yhf (x : LTh) : ∀ k, lrow [x] k = [x]
 | 0 => rfl
 | k + 1 => by
  show yhF (lrow [x] k) [x] = [x]
  rw [yhf x k]
  rfl
theorem lbest_taken (counts : List Int) (L : Nat) : yar counts L = lout counts.length (fun s => lsum (lhas s) ((lrow (yaa counts) (L - 1)).take (max (2 * (yaa counts).length - 2) (yaa counts).length))) := by
 by_cases h : (yaa counts).length = 1
 ·obtain ⟨x, hx⟩ := List.length_eq_one_iff.1 h
  obtain ⟨j, hj, hp, e⟩ := (yan counts x).1 (by rw [hx]; simp)
  obtain ⟨_, h2⟩ := lbestL_one counts L j h (by simp only [hx, List.getElem_cons_zero, e])
  rw [← h2, lout_set counts.length (fun _ => 0) (fun t => if t = j then 1 else 0) j 1 (by simp) (fun t ht => if_neg ht)]
  refine ybK _ _ _ fun t _ => ?_
  rw [hx, yhf]
  simp only [lsum, lhas, e, List.length_singleton]
  by_cases ht : t = j
  ·subst ht; simp [lsum, lhas]
  ·rw [if_neg ht]
   simp [lsum, lhas, List.count_cons, Ne.symm ht]
 ·rw [yeu counts L h]
  refine ybK _ _ _ fun t _ => ?_
  unfold yfQ
  rw [show max (2 * (yaa counts).length - 2) (yaa counts).length = 2 * (yaa counts).length - 2 from by omega]
theorem PRow.cells {W : World} {n g : Nat} {A : Option Addr} {E : List PEl} (h : PRow (fun b => b ≠ g) W W.heap.size A n E) (i : Nat) (hi : i < E.length) :
  ∃ b off, A = some ⟨b, off, none⟩ ∧ b ≠ g ∧ (∀ W', W.grownBy W' (some g) → W'.cell? ⟨b, off + i * 2, none⟩ = some (.int .i64 E[i].th.w) ∧ W'.cell? ⟨b, off + i * 2 + 1, none⟩ = some (.slice E[i].A E[i].th.syms.length E[i].c)) ∧
   ∀ q (hq : q < E[i].th.syms.length), ∃ bs os, E[i].A = some ⟨bs, os, none⟩ ∧ ∀ W', W.grownBy W' (some g) → W'.cell? ⟨bs, os + q, none⟩ = some (.int .i64 (E[i].th.syms[q] : Int)) := by
 obtain ⟨hn, hr, hok, ho⟩ := h
 obtain ⟨b, off, e, hb, hc⟩ := pcell_row hr hn (by omega)
 obtain ⟨b', off', e', hbg⟩ := ho (by omega)
 rw [e] at e'
 injection e' with e'
 injection e' with e1 e2
 subst e1
 obtain ⟨c1, c2⟩ := hc i hi
 refine ⟨b, off, e, hbg, fun W' hg => ⟨?_, ?_⟩, fun q hq => ?_⟩
 ·exact (World.cell?_of_block (a := ⟨b, off + i * 2, none⟩) (hg.block b hb (fun h => by injection h with h; exact hbg h))).trans c1
 ·exact (World.cell?_of_block (a := ⟨b, off + i * 2 + 1, none⟩) (hg.block b hb (fun h => by injection h with h; exact hbg h))).trans c2
 ·have hx := hok _ (List.getElem_mem hi)
  obtain ⟨bs, os, es, hbs, hcs⟩ := hx.reads.2 (by omega)
  obtain ⟨bs', os', cs', es', _, hbsg⟩ := hx.ty (by omega)
  rw [es] at es'
  injection es' with es'
  injection es' with e3 e4
  subst e3
  refine ⟨bs, os, es, fun W' hg => ?_⟩
  refine (World.cell?_of_block (a := ⟨bs, os + q, none⟩) (hg.block bs hbs (fun h => by injection h with h; exact hbsg h))).trans (hcs q _ ?_)
  rw [yai _ q (by simpa [lsy] using hq)]
  simp [lsy]
theorem pplv_len : ∀ (l : List Int) (i : Nat), (plv i l).length ≤ l.length
 | [], _ => Nat.le_refl _
 | c :: t, i => by
  have := pplv_len t (i + 1)
  by_cases h : 0 < c
  ·rw [plv_yes _ _ _ h, List.length_cons, List.length_cons]; omega
  ·rw [plv_no _ _ _ h, List.length_cons]; omega
theorem ybl {w w1 w2 w3 : World} {o : Obj} (h1 : Below w.heap.size w w1) (h2 : Below w1.heap.size w1 w2) (h3 : Below (w2.alloc o).heap.size (w2.alloc o) w3) : Below w.heap.size w w3 := by
 have h4 : Below w.heap.size w w2 := h1.trans (h2.mono h1.size)
 have h5 := h4.alloc h4.size o
 exact h5.trans (h3.mono h5.size)
theorem pbest_row {W : World} {A : Option Addr} {n : Nat} {E : List PEl} {o : Obj} (h : PRow (fun _ => True) W W.heap.size A n E) : PRow (fun b => b ≠ W.heap.size) (W.alloc o) (W.alloc o).heap.size A n E :=
 ((h.okto (fun b hb => by show b ≠ W.heap.size; omega)).below ((Below.refl _ _).alloc (Nat.le_refl _) o)).more (by rw [World.size_alloc]; omega)
theorem pbest_new (W : World) (o : Obj) : ∀ b, (W.alloc o).heap.size ≤ b → b ≠ W.heap.size := fun b hb => by rw [World.size_alloc] at hb; omega
theorem pbest_room {Z : List PEl} {R : List LTh} {c t : Nat} (h : pth Z = R) (hc : Z.length ≤ c) (ht : t ≤ R.length) : (t : Int) ≤ (c : Int) := by
 have : Z.length = R.length := by rw [← h]; simp [pth]
 omega
theorem ycq {w w3 w5 : World} {o : Obj} (h1 : Below w.heap.size w w3) (h2 : Below (w3.alloc o).heap.size (w3.alloc o) w5) : Below w.heap.size w w5 := by
 have h5 := h1.alloc h1.size o
 exact h5.trans (h2.mono h5.size)
theorem pbest_none {Z : List PEl} {R : List LTh} {W : World} {t : Nat} {ok : Nat → Prop} (h : pth Z = R) (hq : PRow ok W W.heap.size none Z.length Z) (ht : t ≤ R.length) : t = 0 := by
 have : Z.length = R.length := by rw [← h]; simp [pth]
 rcases Nat.eq_zero_or_pos Z.length with e | e
 ·omega
 ·obtain ⟨b, off, e2, _⟩ := hq.2.1.2 e
  cases e2
theorem yeJ (n : Nat) (RW : List LTh) {w3 w5 : World} (h : Below (w3.alloc (.cells (ints (lout n (fun _ => 0))).toArray 3)).heap.size (w3.alloc (.cells (ints (lout n (fun _ => 0))).toArray 3)) w5) : Blk w5 w3.heap.size 3 (ints (lout n (lfar RW 0 0))).toArray := by
 have h1 := Blk.new w3 3 (ints (lout n (fun _ => 0))).toArray
 have h2 := h1.below h h1.lt
 rw [ybK n (lfar RW 0 0) (fun _ => 0) fun t _ => by rw [yeT]; rfl]
 exact h2
theorem pbest_th {Z : List PEl} {R : List LTh} (h : pth Z = R) (k : Nat) (hk : k < R.length) : ∃ hz : k < Z.length, Z[k].th = R[k] := by
 subst h
 unfold pth at hk ⊢
 rw [List.length_map] at hk
 exact ⟨hk, by rw [List.getElem_map]⟩
theorem ydi (RW : List LTh) (n t : Nat) (BL : List Int) (F : List Int × Int) (W : World) (g : Nat) (w : World) (hBL : BL = lout n (fun s => lsum (lhas s) (RW.take t))) (hF : (BL, (0 : Int)) = F) (hB : Blk W g 3 (ints (lout n (lfar RW t 0))).toArray) (hw : Below w.heap.size w W) :
  ∃ A' c', Ending.returned (.tuple #[.slice (some ⟨g, 0, none⟩) n n, .int .i64 0]) = Ending.returned (.tuple #[.slice A' F.1.length c', .int .i64 F.2]) ∧ F.1.length ≤ c' ∧ Reads W W.heap.size 1 A' F.1.length (ints F.1) ∧ Below w.heap.size w W := by
 subst hF
 have hl : BL.length = n := by rw [hBL, ydK]
 refine ⟨some ⟨g, 0, none⟩, n, by rw [hl], by rw [hl]; exact Nat.le_refl _, ?_, hw⟩
 refine ⟨by rw [yab]; omega, fun _ => ⟨g, 0, rfl, hB.lt, fun j u hu => ?_⟩⟩
 rw [Nat.zero_add, hB.cell, List.getElem?_toArray, ybK n (lfar RW t 0) (fun s => lsum (lhas s) (RW.take t)) fun s _ => yeT RW t s, ← hBL]
 exact hu
theorem yfg {w w5 W : World} {g : Nat} (h : Below w.heap.size w w5) (hg : w5.grownBy W (some g)) (hgw : w.heap.size ≤ g) : Below w.heap.size w W := h.trans (ydH hg hgw h.size)
set_option maxRecDepth 100000 in
set_option maxHeartbeats 40000000 in
theorem p_best_any (counts : List Int) (most : Int) (A : Option Addr) (n c : Nat) (w : World) (hm : n ≤ 100000) (hr : Reads w w.heap.size 1 A n (ints counts)) :
  Calls Tryz.prog 63 #[.slice A n c, .int .i64 most] w fun e w' => ∃ A' c', e = .returned (.tuple #[.slice A' (ybD counts most).1.length c', .int .i64 (ybD counts most).2]) ∧ (ybD counts most).1.length ≤ c' ∧ Reads w' w'.heap.size 1 A' (ybD counts most).1.length (ints (ybD counts most).1) ∧ Below w.heap.size w w' := by
 have en : counts.length = n := by have := hr.1; rw [yab] at this; omega
 have hni : (n : Int) ≤ 100000 := by omega
 have En := Lib.hid en
 have Hall := Lib.hid (a_all_any counts 1000000 A n c w (by omega) hr)
 obtain ⟨F, hF⟩ : ∃ F, ybD counts most = F := ⟨_, rfl⟩
 rw [hF]
 unfold ybD at hF
 rw [en] at hF
 by_cases h1 : 257 < n
 ·have h1i : (257 : Int) < n := by omega
  rw [if_pos h1] at hF
  have Hf := Lib.hid hF
  clear hF hr
  go_enter Tryz.func63, Tryz.ntmps63
  go_wp2
  go_ret2
  rw [← Hf.out]
  exact ⟨none, 0, rfl, Nat.le_refl _, Reads.none_, Below.refl _ _⟩
 ·have h1i : ¬ (257 : Int) < n := by omega
  rw [if_neg h1] at hF
  by_cases hg : ye4 counts = true
  ·have hga : ycE 1000000 counts = true := hg
   rw [hga] at Hall
   by_cases h2 : most < 1
   ·rw [if_pos (Or.inl h2)] at hF
    have Hf := Lib.hid hF
    clear hF hr hg hga
    go_enter Tryz.func63, Tryz.ntmps63
    go_wp2_with (go_at_call 99; refine Hall.out.mono ?_; rintro e w1 ⟨rfl, hb1⟩; have Hb1 := Lib.hid hb1; clear hb1)
    go_ret2
    rw [← Hf.out]
    exact ⟨none, 0, rfl, Nat.le_refl _, Reads.none_, Hb1.out⟩
   ·by_cases h3 : 15 < most
    ·rw [if_pos (Or.inr h3)] at hF
     have Hf := Lib.hid hF
     clear hF hr hg hga
     go_enter Tryz.func63, Tryz.ntmps63
     go_wp2_with (go_at_call 99; refine Hall.out.mono ?_; rintro e w1 ⟨rfl, hb1⟩; have Hb1 := Lib.hid hb1; clear hb1)
     go_ret2
     rw [← Hf.out]
     exact ⟨none, 0, rfl, Nat.le_refl _, Reads.none_, Hb1.out⟩
    ·rw [if_neg (by omega), if_pos hg] at hF
     obtain ⟨L, rfl⟩ : ∃ L : Nat, most = L := ⟨most.toNat, by omega⟩
     rw [Int.toNat_natCast] at hF
     have hL : 1 ≤ L ∧ L ≤ 15 := by omega
     have hLi : (1 : Int) ≤ (L : Int) ∧ (L : Int) ≤ 15 := by omega
     have hllen : (yaa counts).length ≤ n := by have := ycS counts; omega
     have Hleaves := Lib.hid fun (W : World) (hW : Below w.heap.size w W) => leaves_any (fun _ => True) counts A n c W (fun _ _ => trivial) ((hr.below hW).more hW.size) (by omega)
     have Hrow := Lib.hid fun (W : World) (E : List PEl) (A2 : Option Addr) (c2 : Nat) (hp : PRow (fun _ => True) W W.heap.size A2 E.length E) (hpl : E.length ≤ 1000) =>
      row_any (fun _ => True) [⟨A2, E.length, c2, E⟩] (some ⟨W.heap.size, 0, none⟩) 1 1 (W.alloc (.cells #[.slice A2 E.length c2] 140)) rfl (by omega)
       (fun _ => ⟨W.heap.size, 0, rfl, by rw [World.size_alloc]; omega, fun i hi => by
        have hi2 : i < 1 := hi
        obtain rfl : i = 0 := by omega
        exact (Blk.new W 140 #[.slice A2 E.length c2]).cell 0⟩)
       (fun _ _ => trivial)
       (fun s hs => by
        rw [List.mem_singleton.1 hs]
        have hba : Below W.heap.size W (W.alloc (.cells #[.slice A2 E.length c2] 140)) := (Below.refl _ _).alloc (Nat.le_refl _) _
        exact (hp.below hba).more hba.size)
       (by show (E ++ []).length ≤ _; rw [List.append_nil]; omega)
     have Hfirst : Hid (∀ (E Z : List PEl), pth E = plv 0 counts → Z.Perm (ybC 0 (rall [(⟨none, 0, 0, E⟩ : RSrc)])) → Z.Pairwise (sord (ltOf pcf) (·.no)) → pth Z = yaa counts) := Lib.hid fun E Z a1 a2 a3 => first_row counts E Z a1 (by simpa [rall] using a2) a3
     have Hlast := Lib.hid fun (g : Nat) (E1 : List PEl) (A1 : Option Addr) (c1 : Nat) (W : World) (a1 : pth E1 = yaa counts) (a2 : PRow (fun b => b ≠ g) W W.heap.size A1 E1.length E1) (a3 : E1.length ≤ c1) (a4 : ∀ b, W.heap.size ≤ b → b ≠ g) => last_any (fun b => b ≠ g) counts E1 L A1 c1 W (by omega) hg a1 a4 a2 a3 hL
     have hElen : Hid (∀ E : List PEl, pth E = plv 0 counts → E.length ≤ 1000) := Lib.hid fun E hE => by
      have h5 := congrArg List.length hE
      have h6 := pplv_len counts 0
      unfold pth at h5
      rw [List.length_map] at h5
      omega
     have hZlen : Hid (∀ Z : List PEl, pth Z = yaa counts → Z.length = (yaa counts).length) := Lib.hid fun Z hZ => by rw [← hZ]; simp [pth]
     have hroom : 2 ^ L < (yaa counts).length ∨ max (2 * (yaa counts).length - 2) (yaa counts).length ≤ (lrow (yaa counts) (L - 1)).length := by
      by_cases hb : 2 ^ L < (yaa counts).length
      ·exact Or.inl hb
      ·refine Or.inr ?_
       by_cases hm2 : 2 ≤ (yaa counts).length
       ·have := yeR (yaH counts) (yca counts) (L - 1) hm2 (by rw [show L - 1 + 1 = L from by omega]; omega)
        omega
       ·have : ∀ k, (yaa counts).length ≤ (lrow (yaa counts) k).length := fun k => by
         cases k with
         | zero => exact Nat.le_refl _
         | succ k => rw [ygw (yaH counts)]; omega
        have := this (L - 1)
        omega
     have Hfits : Hid (∀ x ∈ lrow (yaa counts) (L - 1), x.syms.length ≤ 400000 ∧ ∀ s ∈ x.syms, s < n) := Lib.hid fun x hx => by
      obtain ⟨f1, _, _, f4⟩ := yeK counts hg (L - 1) x hx
      have := lexp_le (show L - 1 ≤ 14 by omega)
      exact ⟨by omega, fun s hs => by have := f4 s hs; omega⟩
     have Hrl : Hid ((lrow (yaa counts) (L - 1)).length ≤ 600) := Lib.hid (by have := yd5 (yaH counts) (L - 1); omega)
     have Htake := Lib.hid (lbest_taken counts L)
     rw [en] at Htake
     have hp15 : (2 ^ L : Nat) ≤ 32768 := Nat.le_trans (Nat.pow_le_pow_right (by omega) hL.2) (by decide)
     have hmk := fun W => lmk_ints (n : Int) n rfl (by omega) W
     rw [lout_zero] at hmk
     have HF := Lib.hid hF
     clear hr hg hga hF
     generalize yar counts L = BL at *
     generalize lrow (yaa counts) (L - 1) = RW at *
     generalize hm0 : yaa counts = LV at *
     clear hm0
     obtain ⟨m, hmm⟩ : ∃ m, LV.length = m := ⟨_, rfl⟩
     rw [hmm] at HF hZlen hroom Htake hllen
     clear hmm
     have hpw : ((2 : Int) ^ L) = ((2 ^ L : Nat) : Int) := by simp
     by_cases hbig : 2 ^ L < m
     ·have hf := HF.out
      rw [if_pos hbig] at hf
      have Hf := Lib.hid hf
      have hbi : ((2 ^ L : Nat) : Int) < (m : Int) := by omega
      generalize (2 ^ L : Nat) = PW at *
      clear hf HF hroom Htake
      go_enter Tryz.func63, Tryz.ntmps63
      go_wp2_with (first
       | (go_at_call 99; refine Hall.out.mono ?_; rintro e w1 ⟨rfl, hb1⟩; have Hb1 := Lib.hid hb1; clear hb1)
       | (go_at_call 101; refine (Hleaves.out _ Hb1.out).mono ?_; rintro e w2 ⟨E, A2, c2, rfl, hc2, hp2, hq2, hb2⟩; have HP2 := Lib.hid hp2; have HQ2 := Lib.hid hq2; have HB2 := Lib.hid hb2; clear hp2 hq2 hb2)
       | (go_at_call 100; refine (Hrow.out _ _ _ _ HQ2.out (hElen.out E HP2.out)).mono ?_; rintro e w3 ⟨Z, A3, c3, rfl, hc3, hp3, ho3, hq3, hb3⟩; have HZ : Hid (pth Z = LV) := Lib.hid (Hfirst.out E Z HP2.out hp3 ho3); have hzl : (Z.length : Int) = (m : Int) := congrArg Nat.cast (hZlen.out Z HZ.out); have HQ3 := Lib.hid hq3; have HB3 := Lib.hid hb3; clear hp3 ho3 hq3 hb3))
      go_ret2
      rw [← Hf.out]
      exact ⟨none, 0, rfl, Nat.le_refl _, Reads.none_, ybl Hb1.out HB2.out HB3.out⟩
     ·have hbi : ¬ ((2 ^ L : Nat) : Int) < (m : Int) := by omega
      have hf := HF.out
      rw [if_neg hbig] at hf
      have Hf := Lib.hid hf
      obtain ⟨t, ht⟩ : ∃ t, max (2 * m - 2) m = t := ⟨_, rfl⟩
      have htR : t ≤ RW.length := by
       rcases hroom with h | h
       ·exact absurd h hbig
       ·omega
      have hrl := Hrl.out
      have hti : (t : Int) ≤ 600 := by omega
      rw [ht] at Htake
      generalize (2 ^ L : Nat) = PW at *
      clear hf HF hbig
      by_cases hm2 : 2 ≤ m
      ·skip
       have zt : 2 * (m : Int) - 2 = (t : Int) := by omega
       have zt2 : ¬ (t : Int) < (m : Int) := by omega
       have zt3 : (m : Int) ≤ (t : Int) := by omega
       clear hroom
       go_enter Tryz.func63, Tryz.ntmps63
       go_wp2_with (first
        | (go_at_call 99; refine Hall.out.mono ?_; rintro e w1 ⟨rfl, hb1⟩; have Hb1 := Lib.hid hb1; clear hb1)
        | (go_at_call 101; refine (Hleaves.out _ Hb1.out).mono ?_; rintro e w2 ⟨E, A2, c2, rfl, hc2, hp2, hq2, hb2⟩; have HP2 := Lib.hid hp2; have HQ2 := Lib.hid hq2; have HB2 := Lib.hid hb2; clear hp2 hq2 hb2)
        | (go_at_call 100; refine (Hrow.out _ _ _ _ HQ2.out (hElen.out E HP2.out)).mono ?_; rintro e w3 ⟨Z, A3, c3, rfl, hc3, hp3, ho3, hq3, hb3⟩; have HZ : Hid (pth Z = LV) := Lib.hid (Hfirst.out E Z HP2.out hp3 ho3); have hzl : (Z.length : Int) = (m : Int) := congrArg Nat.cast (hZlen.out Z HZ.out); have HQ3 := Lib.hid hq3; have HB3 := Lib.hid hb3; have Hc3 := Lib.hid hc3; clear hp3 ho3 hq3 hb3 hc3)
        | (go_at_call 102; refine (Hlast.out w3.heap.size Z A3 c3 _ HZ.out (pbest_row HQ3.out) Hc3.out (pbest_new _ _)).mono ?_; rintro e w5 ⟨Z5, A5, c5, rfl, hc5, hp5, hq5, hb5⟩; have HP5 := Lib.hid hp5; have HQ5 := Lib.hid hq5; have HB5 := Lib.hid hb5; have Hc5 := Lib.hid hc5; have htc : (t : Int) ≤ (c5 : Int) := pbest_room hp5 hc5 htR; clear hp5 hq5 hb5 hc5; rcases A5 with _ | ⟨b5, off5, sp5⟩))
       ·-- no thing at all
        have ht0 : t = 0 := pbest_none HP5.out HQ5.out htR
        subst ht0
        have hBg : Hid (Blk w5 w3.heap.size 3 (ints (lout n (lfar RW 0 0))).toArray) := Lib.hid (yeJ n RW HB5.out)
        have hW5 : Hid (Below w.heap.size w w5) := Lib.hid (ycq (ybl Hb1.out HB2.out HB3.out) HB5.out)
        go_loopw [10, 12, 50, 57] (fun bx sy i j wr => i = .int .i64 (0 : Int) ∧ Hid (wr = w5)) (fun _ _ i _ _ => 0)
        case atStart => exact ⟨rfl, rfl⟩
        case round =>
         obtain ⟨rfl, Hw⟩ := hrel
         have hw : w5 = wr := Hw.out.symm
         subst hw
         go_wp2
         all_goals (go_ret2; exact ydi RW n 0 BL F w5 w3.heap.size w Htake.out Hf.out hBg.out hW5.out)
       ·have Hcl := Lib.hid fun i hi => PRow.cells HQ5.out i hi
        have hBg : Hid (Blk w5 w3.heap.size 3 (ints (lout n (lfar RW 0 0))).toArray) := Lib.hid (yeJ n RW HB5.out)
        have hW5 : Hid (Below w.heap.size w w5) := Lib.hid (ycq (ybl Hb1.out HB2.out HB3.out) HB5.out)
        have hgw : Hid (w.heap.size ≤ w3.heap.size) := Lib.hid (ybl Hb1.out HB2.out HB3.out).size
        have Hth : Hid (∀ k (hk : k < RW.length), ∃ hz : k < Z5.length, Z5[k].th = RW[k]) := Lib.hid fun k hk => pbest_th HP5.out k hk
        clear HQ5 HB5 HP5 Hc5 hmk Hb1 HB2 HB3 Hall Hleaves Hrow Hlast Hfirst hElen hZlen HQ3 HQ2 HP2 Hc3 HZ
        go_loopw [10, 12, 50, 57] (fun bx sy i j wr => ∃ k : Nat, k ≤ t ∧ i = .int .i64 k ∧ Hid (Blk wr w3.heap.size 3 (ints (lout n (lfar RW k 0))).toArray) ∧ Hid (w5.grownBy wr (some w3.heap.size))) (fun _ _ i _ _ => t - (intOf i).toNat)
        case atStart => exact ⟨0, by omega, rfl, hBg, ydq _ _⟩
        case round =>
         obtain ⟨k, hk, rfl, HB, HG⟩ := hrel
         by_cases hlt : k < t
         ·have hki : (0 : Int) ≤ (k : Int) ∧ (k : Int) < (t : Int) := by omega
          have hkR : k < RW.length := by omega
          obtain ⟨hz, hth⟩ := Hth.out k hkR
          obtain ⟨b, off, e5, hbg, hc1, hc2⟩ := Hcl.out k hz
          injection e5 with e5
          injection e5 with e6 e7 e8
          subst e6 e7 e8
          obtain ⟨x1, x2⟩ := hc1 wr HG.out
          have Hsy : Hid (∀ q (hq : q < RW[k].syms.length), ∃ bs os, Z5[k].A = some ⟨bs, os, none⟩ ∧ ∀ W', w5.grownBy W' (some w3.heap.size) → W'.cell? ⟨bs, os + q, none⟩ = some (.int .i64 (RW[k].syms[q] : Int))) := Lib.hid fun q hq => by
           rw [← hth] at hq
           obtain ⟨bs, os, f1, f2⟩ := hc2 q hq
           exact ⟨bs, os, f1, fun W' hW => by simp only [← hth]; exact f2 W' hW⟩
          have Hfk : Hid (∀ q (hq : q < RW[k].syms.length), RW[k].syms[q] < n) := Lib.hid fun q hq => (Hfits.out _ (List.getElem_mem hkR)).2 _ (List.getElem_mem hq)
          have hns : RW[k].syms.length ≤ 400000 := (Hfits.out _ (List.getElem_mem hkR)).1
          have Hbnd : Hid (∀ q s, 0 ≤ lfar RW k q s ∧ lfar RW k q s ≤ 400000 * (k + 1)) := Lib.hid fun q s => yfk RW k q s hkR fun x hx => (Hfits.out x hx).1
          rw [hth] at x2
          clear hc1 hc2
          obtain ⟨ns, hns2⟩ : ∃ ns, RW[k].syms.length = ns := ⟨_, rfl⟩
          rw [hns2] at x2 hns
          have Hns := Lib.hid hns2
          clear hns2 hth
          generalize Z5[k].th.w = zw at *
          generalize Z5[k].c = zc at *
          generalize Z5[k].A = zA at *
          clear hz Hcl Hth
          go_wp2
          have HB1 : Hid (Blk (wr.alloc (.cells #[.int .i64 zw, .slice zA ns zc] 145)) w3.heap.size 3 (ints (lout n (lfar RW k 0))).toArray) := Lib.hid (HB.out.alloc _)
          have HG1 : Hid (w5.grownBy (wr.alloc (.cells #[.int .i64 zw, .slice zA ns zc] 145)) (some w3.heap.size)) := Lib.hid (ydP HG.out _)
          clear HB HG
          generalize wr.alloc (.cells #[.int .i64 zw, .slice zA ns zc] 145) = wb at *
          go_loopw [12, 57] (fun sy j W => ∃ q : Nat, q ≤ ns ∧ j = .int .i64 q ∧ Hid (Blk W w3.heap.size 3 (ints (lout n (lfar RW k q))).toArray) ∧ Hid (w5.grownBy W (some w3.heap.size))) (fun _ j _ => ns - (intOf j).toNat)
          case atStart => exact ⟨0, by omega, rfl, HB1, HG1⟩
          case round =>
           obtain ⟨q, hq, rfl, HB2, HG2⟩ := hrel
           clear HB1 HG1
           by_cases hqt : q < ns
           ·have hqi : (0 : Int) ≤ (q : Int) ∧ (q : Int) < (ns : Int) := by omega
            have hqs : q < RW[k].syms.length := by rw [Hns.out]; exact hqt
            obtain ⟨bs, os, rfl, hcs⟩ := Hsy.out q hqs
            have hsc := hcs _ HG2.out
            have hsn := Hfk.out q hqs
            obtain ⟨d1, d2, d3⟩ := yfy HB2.out hkR hqs hsn
            have hbd := Hbnd.out q RW[k].syms[q]
            have HB3 := Lib.hid d3
            have hsi : (0 : Int) ≤ (RW[k].syms[q] : Int) ∧ (RW[k].syms[q] : Int) < (n : Int) := by omega
            clear d3 hcs
            generalize lfar RW k q RW[k].syms[q] = fv at *
            generalize RW[k].syms[q] = sy at *
            have hfv : (0 : Int) ≤ fv ∧ fv ≤ 400000000 := by omega
            go_wp2
            go_roundw
            case rel => exact ⟨q + 1, by omega, iv (by omega), HB3, Lib.hid (ybg HG2.out (Or.inl rfl) _)⟩
            case measure => simp only [intOf]; omega
           ·have hqi : ¬ (q : Int) < (ns : Int) := by omega
            obtain rfl : q = ns := by omega
            have hb4 := HB2.out
            rw [← Hns.out] at hb4
            have HB4 := Lib.hid (yen hkR hb4)
            clear hb4
            go_wp2
            go_roundw
            case rel => exact ⟨k + 1, by omega, iv (by omega), HB4, HG2⟩
            case measure => simp only [intOf]; omega
         ·have hki : ¬ (k : Int) < (t : Int) := by omega
          obtain rfl : k = t := by omega
          go_wp2
          go_ret2
          exact ydi RW n k BL F _ w3.heap.size w Htake.out Hf.out HB.out (yfg hW5.out HG.out hgw.out)

      ·skip
       have zt : 2 * (m : Int) - 2 < (m : Int) := by omega
       have zt1 : 2 * (m : Int) - 2 ≤ (m : Int) := by omega
       have zt3 : (m : Int) = (t : Int) := by omega
       clear hroom
       go_enter Tryz.func63, Tryz.ntmps63
       go_wp2_with (first
        | (go_at_call 99; refine Hall.out.mono ?_; rintro e w1 ⟨rfl, hb1⟩; have Hb1 := Lib.hid hb1; clear hb1)
        | (go_at_call 101; refine (Hleaves.out _ Hb1.out).mono ?_; rintro e w2 ⟨E, A2, c2, rfl, hc2, hp2, hq2, hb2⟩; have HP2 := Lib.hid hp2; have HQ2 := Lib.hid hq2; have HB2 := Lib.hid hb2; clear hp2 hq2 hb2)
        | (go_at_call 100; refine (Hrow.out _ _ _ _ HQ2.out (hElen.out E HP2.out)).mono ?_; rintro e w3 ⟨Z, A3, c3, rfl, hc3, hp3, ho3, hq3, hb3⟩; have HZ : Hid (pth Z = LV) := Lib.hid (Hfirst.out E Z HP2.out hp3 ho3); have hzl : (Z.length : Int) = (m : Int) := congrArg Nat.cast (hZlen.out Z HZ.out); have HQ3 := Lib.hid hq3; have HB3 := Lib.hid hb3; have Hc3 := Lib.hid hc3; clear hp3 ho3 hq3 hb3 hc3)
        | (go_at_call 102; refine (Hlast.out w3.heap.size Z A3 c3 _ HZ.out (pbest_row HQ3.out) Hc3.out (pbest_new _ _)).mono ?_; rintro e w5 ⟨Z5, A5, c5, rfl, hc5, hp5, hq5, hb5⟩; have HP5 := Lib.hid hp5; have HQ5 := Lib.hid hq5; have HB5 := Lib.hid hb5; have Hc5 := Lib.hid hc5; have htc : (t : Int) ≤ (c5 : Int) := pbest_room hp5 hc5 htR; clear hp5 hq5 hb5 hc5; rcases A5 with _ | ⟨b5, off5, sp5⟩))
       ·-- no thing at all
        have ht0 : t = 0 := pbest_none HP5.out HQ5.out htR
        subst ht0
        have hBg : Hid (Blk w5 w3.heap.size 3 (ints (lout n (lfar RW 0 0))).toArray) := Lib.hid (yeJ n RW HB5.out)
        have hW5 : Hid (Below w.heap.size w w5) := Lib.hid (ycq (ybl Hb1.out HB2.out HB3.out) HB5.out)
        go_loopw [10, 12, 50, 57] (fun bx sy i j wr => i = .int .i64 (0 : Int) ∧ Hid (wr = w5)) (fun _ _ i _ _ => 0)
        case atStart => exact ⟨rfl, rfl⟩
        case round =>
         obtain ⟨rfl, Hw⟩ := hrel
         have hw : w5 = wr := Hw.out.symm
         subst hw
         go_wp2
         all_goals (go_ret2; exact ydi RW n 0 BL F w5 w3.heap.size w Htake.out Hf.out hBg.out hW5.out)
       ·have Hcl := Lib.hid fun i hi => PRow.cells HQ5.out i hi
        have hBg : Hid (Blk w5 w3.heap.size 3 (ints (lout n (lfar RW 0 0))).toArray) := Lib.hid (yeJ n RW HB5.out)
        have hW5 : Hid (Below w.heap.size w w5) := Lib.hid (ycq (ybl Hb1.out HB2.out HB3.out) HB5.out)
        have hgw : Hid (w.heap.size ≤ w3.heap.size) := Lib.hid (ybl Hb1.out HB2.out HB3.out).size
        have Hth : Hid (∀ k (hk : k < RW.length), ∃ hz : k < Z5.length, Z5[k].th = RW[k]) := Lib.hid fun k hk => pbest_th HP5.out k hk
        clear HQ5 HB5 HP5 Hc5 hmk Hb1 HB2 HB3 Hall Hleaves Hrow Hlast Hfirst hElen hZlen HQ3 HQ2 HP2 Hc3 HZ
        go_loopw [10, 12, 50, 57] (fun bx sy i j wr => ∃ k : Nat, k ≤ t ∧ i = .int .i64 k ∧ Hid (Blk wr w3.heap.size 3 (ints (lout n (lfar RW k 0))).toArray) ∧ Hid (w5.grownBy wr (some w3.heap.size))) (fun _ _ i _ _ => t - (intOf i).toNat)
        case atStart => exact ⟨0, by omega, rfl, hBg, ydq _ _⟩
        case round =>
         obtain ⟨k, hk, rfl, HB, HG⟩ := hrel
         by_cases hlt : k < t
         ·have hki : (0 : Int) ≤ (k : Int) ∧ (k : Int) < (t : Int) := by omega
          have hkR : k < RW.length := by omega
          obtain ⟨hz, hth⟩ := Hth.out k hkR
          obtain ⟨b, off, e5, hbg, hc1, hc2⟩ := Hcl.out k hz
          injection e5 with e5
          injection e5 with e6 e7 e8
          subst e6 e7 e8
          obtain ⟨x1, x2⟩ := hc1 wr HG.out
          have Hsy : Hid (∀ q (hq : q < RW[k].syms.length), ∃ bs os, Z5[k].A = some ⟨bs, os, none⟩ ∧ ∀ W', w5.grownBy W' (some w3.heap.size) → W'.cell? ⟨bs, os + q, none⟩ = some (.int .i64 (RW[k].syms[q] : Int))) := Lib.hid fun q hq => by
           rw [← hth] at hq
           obtain ⟨bs, os, f1, f2⟩ := hc2 q hq
           exact ⟨bs, os, f1, fun W' hW => by simp only [← hth]; exact f2 W' hW⟩
          have Hfk : Hid (∀ q (hq : q < RW[k].syms.length), RW[k].syms[q] < n) := Lib.hid fun q hq => (Hfits.out _ (List.getElem_mem hkR)).2 _ (List.getElem_mem hq)
          have hns : RW[k].syms.length ≤ 400000 := (Hfits.out _ (List.getElem_mem hkR)).1
          have Hbnd : Hid (∀ q s, 0 ≤ lfar RW k q s ∧ lfar RW k q s ≤ 400000 * (k + 1)) := Lib.hid fun q s => yfk RW k q s hkR fun x hx => (Hfits.out x hx).1
          rw [hth] at x2
          clear hc1 hc2
          obtain ⟨ns, hns2⟩ : ∃ ns, RW[k].syms.length = ns := ⟨_, rfl⟩
          rw [hns2] at x2 hns
          have Hns := Lib.hid hns2
          clear hns2 hth
          generalize Z5[k].th.w = zw at *
          generalize Z5[k].c = zc at *
          generalize Z5[k].A = zA at *
          clear hz Hcl Hth
          go_wp2
          have HB1 : Hid (Blk (wr.alloc (.cells #[.int .i64 zw, .slice zA ns zc] 145)) w3.heap.size 3 (ints (lout n (lfar RW k 0))).toArray) := Lib.hid (HB.out.alloc _)
          have HG1 : Hid (w5.grownBy (wr.alloc (.cells #[.int .i64 zw, .slice zA ns zc] 145)) (some w3.heap.size)) := Lib.hid (ydP HG.out _)
          clear HB HG
          generalize wr.alloc (.cells #[.int .i64 zw, .slice zA ns zc] 145) = wb at *
          go_loopw [12, 57] (fun sy j W => ∃ q : Nat, q ≤ ns ∧ j = .int .i64 q ∧ Hid (Blk W w3.heap.size 3 (ints (lout n (lfar RW k q))).toArray) ∧ Hid (w5.grownBy W (some w3.heap.size))) (fun _ j _ => ns - (intOf j).toNat)
          case atStart => exact ⟨0, by omega, rfl, HB1, HG1⟩
          case round =>
           obtain ⟨q, hq, rfl, HB2, HG2⟩ := hrel
           clear HB1 HG1
           by_cases hqt : q < ns
           ·have hqi : (0 : Int) ≤ (q : Int) ∧ (q : Int) < (ns : Int) := by omega
            have hqs : q < RW[k].syms.length := by rw [Hns.out]; exact hqt
            obtain ⟨bs, os, rfl, hcs⟩ := Hsy.out q hqs
            have hsc := hcs _ HG2.out
            have hsn := Hfk.out q hqs
            obtain ⟨d1, d2, d3⟩ := yfy HB2.out hkR hqs hsn
            have hbd := Hbnd.out q RW[k].syms[q]
            have HB3 := Lib.hid d3
            have hsi : (0 : Int) ≤ (RW[k].syms[q] : Int) ∧ (RW[k].syms[q] : Int) < (n : Int) := by omega
            clear d3 hcs
            generalize lfar RW k q RW[k].syms[q] = fv at *
            generalize RW[k].syms[q] = sy at *
            have hfv : (0 : Int) ≤ fv ∧ fv ≤ 400000000 := by omega
            go_wp2
            go_roundw
            case rel => exact ⟨q + 1, by omega, iv (by omega), HB3, Lib.hid (ybg HG2.out (Or.inl rfl) _)⟩
            case measure => simp only [intOf]; omega
           ·have hqi : ¬ (q : Int) < (ns : Int) := by omega
            obtain rfl : q = ns := by omega
            have hb4 := HB2.out
            rw [← Hns.out] at hb4
            have HB4 := Lib.hid (yen hkR hb4)
            clear hb4
            go_wp2
            go_roundw
            case rel => exact ⟨k + 1, by omega, iv (by omega), HB4, HG2⟩
            case measure => simp only [intOf]; omega
         ·have hki : ¬ (k : Int) < (t : Int) := by omega
          obtain rfl : k = t := by omega
          go_wp2
          go_ret2
          exact ydi RW n k BL F _ w3.heap.size w Htake.out Hf.out HB.out (yfg hW5.out HG.out hgw.out)

  ·have hga : ycE 1000000 counts = false := by
    cases h : ycE 1000000 counts with
    | false => rfl
    | true => exact absurd h hg
   have hf : (([], 2) : List Int × Int) = F := by
    rw [← hF]
    by_cases h2 : most < 1 ∨ 15 < most
    ·rw [if_pos h2]
    ·rw [if_neg h2, if_neg hg]
   rw [hga] at Hall
   have Hf := Lib.hid hf
   clear hF hf hg hga hr
   go_enter Tryz.func63, Tryz.ntmps63
   go_wp2_with (go_at_call 99; refine Hall.out.mono ?_; rintro e w1 ⟨rfl, hb1⟩; have Hb1 := Lib.hid hb1; clear hb1)
   go_ret2
   rw [← Hf.out]
   exact ⟨none, 0, rfl, Nat.le_refl _, Reads.none_, Hb1.out⟩
theorem lsingle {w1 : World} {A : Option Addr} {R : List LTh} {s0 : Nat} (hR : LHRow w1 w1.heap.size (fun _ => True) A 1 R) (h1 : R.length = 1) (hs : (R[0]'(by omega)).syms = [s0]) (o : Obj) :
  ∃ b0 off0 bs os cs0, A = some ⟨b0, off0, none⟩ ∧ (w1.alloc o).cell? ⟨b0, off0 + 1, none⟩ = some (.slice (some ⟨bs, os, none⟩) 1 cs0) ∧ (w1.alloc o).cell? ⟨bs, os, none⟩ = some (.int .i64 (s0 : Int)) := by
 have hR2 : LHRow w1 w1.heap.size (fun b => b ≠ w1.heap.size) A 1 R := hR.ok' fun b hb => by show b ≠ w1.heap.size; omega
 obtain ⟨b, off, As, cs, e, c1, c2⟩ := LHRow.cells hR2 0 (by omega)
 have hl : (R[0]'(by omega)).syms.length = 1 := by rw [hs]; rfl
 obtain ⟨bs, os, e2, c3⟩ := c2 0 (by omega)
 have hg : w1.grownBy (w1.alloc o) (some w1.heap.size) := ydP (ydq _ _) o
 have c1' := c1 _ hg
 have c3' := c3 _ hg
 rw [hl, Nat.zero_mul, Nat.add_zero] at c1'
 have e3 : (R[0]'(by omega)).syms[0]'(by omega) = s0 := by simp only [hs, List.getElem_cons_zero]
 rw [e3, Nat.add_zero] at c3'
 subst e2
 exact ⟨b, off, bs, os, cs, e, c1', c3'⟩
theorem lzero_cell (w1 : World) (k s0 : Nat) (h : s0 < k) : (w1.alloc (.cells (ints (lout k (fun _ => 0))).toArray 3)).cell? ⟨w1.heap.size, s0, none⟩ = some (.int .i64 0) ∧ (w1.alloc (.cells (ints (lout k (fun _ => 0))).toArray 3)).frozen? ⟨w1.heap.size, s0, none⟩ = false := by
 have hB := Blk.new w1 3 (ints (lout k (fun _ => 0))).toArray
 refine ⟨?_, hB.frozen _⟩
 rw [hB.cell, List.getElem?_toArray]
 unfold ints
 rw [List.getElem?_map, ye2 k _ _ h]
 rfl
theorem pbest_fin0 (n : Nat) (BL : List Int) (F : List Int × Int) (W : World) (g : Nat) (w : World) (hl : BL.length = n) (hF : (BL, (0 : Int)) = F) (hB : Blk W g 3 (ints BL).toArray) (hw : Below w.heap.size w W) :
  ∃ A' c', Ending.returned (.tuple #[.slice (some ⟨g, 0, none⟩) n n, .int .i64 0]) = Ending.returned (.tuple #[.slice A' F.1.length c', .int .i64 F.2]) ∧ F.1.length ≤ c' ∧ Reads W W.heap.size 1 A' F.1.length (ints F.1) ∧ Below w.heap.size w W := by
 subst hF
 refine ⟨some ⟨g, 0, none⟩, n, by rw [hl], by rw [hl]; exact Nat.le_refl _, ?_, hw⟩
 refine ⟨by rw [yab]; omega, fun _ => ⟨g, 0, rfl, hB.lt, fun j u hu => ?_⟩⟩
 rw [Nat.zero_add, hB.cell, List.getElem?_toArray]
 exact hu
set_option maxRecDepth 100000 in
set_option maxHeartbeats 40000000 in
theorem lref_best_any (counts : List Int) (most : Int) (A : Option Addr) (n c : Nat) (w : World) (hm : n ≤ 100000) (hr : Reads w w.heap.size 1 A n (ints counts)) :
  Calls Tryz.prog 73 #[.slice A n c, .int .i64 most] w fun e w' => ∃ A' c', e = .returned (.tuple #[.slice A' (ybD counts most).1.length c', .int .i64 (ybD counts most).2]) ∧ (ybD counts most).1.length ≤ c' ∧ Reads w' w'.heap.size 1 A' (ybD counts most).1.length (ints (ybD counts most).1) ∧ Below w.heap.size w w' := by
 have en : counts.length = n := by have := hr.1; rw [yab] at this; omega
 have Hcell : Hid (0 < n → ∃ b off, A = some ⟨b, off, none⟩ ∧ ∀ k, (hk : k < counts.length) → w.cell? ⟨b, off + k, none⟩ = some (.int .i64 counts[k])) := Lib.hid fun h => by
  obtain ⟨b, off, e, hb, hc⟩ := hr.2 h
  exact ⟨b, off, e, fun k hk => hc k _ (yai counts k hk)⟩
 have hni : (n : Int) ≤ 100000 := by omega
 have En := Lib.hid en
 have Hr := Lib.hid hr
 obtain ⟨F, hF⟩ : ∃ F, ybD counts most = F := ⟨_, rfl⟩
 rw [hF]
 unfold ybD at hF
 rw [en] at hF
 clear hr en
 by_cases h1 : 257 < n
 ·have h1i : (257 : Int) < n := by omega
  rw [if_pos h1] at hF
  have Hf := Lib.hid hF
  clear hF
  go_enter Tryz.func73, Tryz.ntmps73
  go_wp2
  go_ret2
  rw [← Hf.out]
  exact ⟨none, 0, rfl, Nat.le_refl _, Reads.none_, Below.refl _ _⟩
 ·have h1i : ¬ (257 : Int) < n := by omega
  rw [if_neg h1] at hF
  by_cases h2 : most < 1
  ·rw [if_pos (Or.inl h2)] at hF
   have Hf := Lib.hid hF
   clear hF
   go_enter Tryz.func73, Tryz.ntmps73
   go_wp2
   go_ret2
   rw [← Hf.out]
   exact ⟨none, 0, rfl, Nat.le_refl _, Reads.none_, Below.refl _ _⟩
  ·by_cases h3 : 15 < most
   ·rw [if_pos (Or.inr h3)] at hF
    have Hf := Lib.hid hF
    clear hF
    go_enter Tryz.func73, Tryz.ntmps73
    go_wp2
    go_ret2
    rw [← Hf.out]
    exact ⟨none, 0, rfl, Nat.le_refl _, Reads.none_, Below.refl _ _⟩
   ·rw [if_neg (by omega)] at hF
    obtain ⟨L, rfl⟩ : ∃ L : Nat, most = L := ⟨most.toNat, by omega⟩
    rw [Int.toNat_natCast] at hF
    have Hbad : Hid (∀ k (hk : k < counts.length), ¬(0 ≤ counts[k] ∧ counts[k] ≤ 1000000) → F = ([], 2)) := Lib.hid fun k hk hb => by
     rw [← hF, if_neg fun h => hb (yds h k hk)]
    have Hgood : Hid ((∀ k (hk : k < counts.length), 0 ≤ counts[k] ∧ counts[k] ≤ 1000000) → ye4 counts = true) := Lib.hid cgood_of
    have HF := Lib.hid hF
    have hL : 1 ≤ L ∧ L ≤ 15 := by omega
    clear hF
    go_enter Tryz.func73, Tryz.ntmps73
    go_wp2
    go_loop [6] (fun i => ∃ k : Nat, k ≤ n ∧ i = .int .i64 k ∧ Hid (∀ j (hj : j < counts.length), j < k → 0 ≤ counts[j] ∧ counts[j] ≤ 1000000)) (fun i => n - (intOf i).toNat)
    case atStart => exact ⟨0, by omega, rfl, fun j _ h => by omega⟩
    case round =>
     obtain ⟨k, hk, rfl, Hk⟩ := hrel
     by_cases hlt : k < n
     ·have hki : (0 : Int) ≤ (k : Int) ∧ (k : Int) < n := by omega
      have hkl : k < counts.length := by rw [En.out]; exact hlt
      obtain ⟨b, off, rfl, hcell⟩ := Hcell.out (by omega)
      have hx := hcell k hkl
      have Hb2 := Lib.hid (Hbad.out k hkl)
      have Hn : Hid (0 ≤ counts[k] ∧ counts[k] ≤ 1000000 → ∀ j (hj : j < counts.length), j < k + 1 → 0 ≤ counts[j] ∧ counts[j] ≤ 1000000) := Lib.hid fun h j hj h4 => by
       rcases Nat.lt_or_ge j k with h5 | h5
       ·exact Hk.out j hj h5
       ·obtain rfl : j = k := by omega
        exact h
      clear hcell Hbad Hgood HF
      generalize counts[k] = x at *
      by_cases hneg : x < 0
      ·have Hf := Lib.hid (Hb2.out (by omega))
       go_wp2
       go_ret2
       rw [Hf.out]
       exact ⟨none, 0, rfl, Nat.le_refl _, Reads.none_, Below.refl _ _⟩
      ·by_cases hbig : 1000000 < x
       ·have Hf := Lib.hid (Hb2.out (by omega))
        go_wp2
        go_ret2
        rw [Hf.out]
        exact ⟨none, 0, rfl, Nat.le_refl _, Reads.none_, Below.refl _ _⟩
       ·have Hn2 := Lib.hid (Hn.out (by omega))
        go_wp2
        go_round
        case rel => exact ⟨k + 1, by omega, iv (by omega), Hn2.out⟩
        case measure => simp only [intOf]; omega
     ·obtain rfl : k = n := by omega
      have hg : ye4 counts = true := Hgood.out fun j hj => Hk.out j hj (by have := En.out; omega)
      have hf := HF.out
      rw [if_pos hg] at hf
      have hml : (yaa counts).length ≤ k := by have := ycS counts; have := En.out; omega
      have Hfirst := Lib.hid fun ok hok => lref_first_any ok counts A k c w (by omega) hok Hr.out
      have Hpow := Lib.hid (yb7 L hL.2)
      have hp15 : (2 ^ L : Nat) ≤ 32768 := Nat.le_trans (Nat.pow_le_pow_right (by omega) hL.2) (by decide)
      have Hfits := Lib.hid (yeK counts hg)
      have HLl := Lib.hid (yaH counts)
      have Hlp := Lib.hid (yca counts)
      have Hone : Hid (∀ (h : (yaa counts).length = 1) s, ((yaa counts)[0]'(by omega)).syms = [s] → s < counts.length ∧ (lout counts.length (fun _ => 0)).set s 1 = yar counts L) := Lib.hid fun h s hs => lbestL_one counts L s h hs
      have Hmany : Hid ((yaa counts).length ≠ 1 → yar counts L = lout k (fun s => lsum (lhas s) ((lrow (yaa counts) (L - 1)).take (2 * (yaa counts).length - 2)))) := Lib.hid fun h => by rw [yeu counts L h, En.out]; rfl
      have Hsy : Hid (∀ x ∈ yaa counts, ∃ s, x.syms = [s]) := Lib.hid fun x hx => by
       obtain ⟨j, hj, _, rfl⟩ := (yan counts x).1 hx
       exact ⟨j, rfl⟩
      have hmk := fun W => lmk_ints (k : Int) k rfl (by omega) W
      rw [lout_zero] at hmk
      clear Hbad Hgood HF hg Hk Hr Hcell
      generalize yar counts L = BL at *
      by_cases hbig : 2 ^ L < (yaa counts).length
      ·rw [if_pos hbig] at hf
       have Hf := Lib.hid hf
       have hbi : ((2 ^ L : Nat) : Int) < ((yaa counts).length : Int) := by omega
       have Hft := Lib.hid (Hfirst.out (fun _ => True) (fun _ _ => trivial))
       clear hf Hfirst hbig Hfits
       generalize (2 ^ L : Nat) = PW at *
       go_wp2_with (first
        | (go_at_call 108; refine Hft.out.mono ?_; rintro e w1 ⟨Af, cf, rfl, hcf, hRf, hb1⟩; have Hb1 := Lib.hid hb1; clear hb1 hRf)
        | (go_at_call 109; refine (Hpow.out _).mono ?_; rintro e w2 ⟨rfl, rfl⟩))
       go_ret2
       rw [← Hf.out]
       exact ⟨none, 0, rfl, Nat.le_refl _, Reads.none_, Hb1.out⟩
      ·rw [if_neg hbig] at hf
       have Hf := Lib.hid hf
       have hbi : ¬ ((2 ^ L : Nat) : Int) < ((yaa counts).length : Int) := by omega
       have Hroom : Hid (2 ≤ (yaa counts).length → 2 * (yaa counts).length - 2 ≤ (lrow (yaa counts) (L - 1)).length) := Lib.hid fun h => yeR HLl.out Hlp.out (L - 1) h (by rw [show L - 1 + 1 = L from by omega]; omega)
       clear hf hbig
       have Hft := Lib.hid (Hfirst.out (fun _ => True) (fun _ _ => trivial))
       clear Hfirst
       have hmlk : (yaa counts).length ≤ 257 := by omega
       by_cases hm2 : 2 ≤ (yaa counts).length
       ·have hne1 : ((yaa counts).length : Int) ≠ 1 := by omega
        have hbe1 : (((yaa counts).length : Int) == 1) = false := by simpa using hne1
        have hlt2 : ¬ ((yaa counts).length : Int) < 2 := by omega
        have HBL := Lib.hid (Hmany.out (by omega))
        obtain ⟨m, hmm⟩ : ∃ m, (yaa counts).length = m := ⟨_, rfl⟩
        rw [hmm] at Hft HBL Hroom hmlk hm2 hne1 hbe1 hlt2 hbi
        have Hmm := Lib.hid hmm
        clear hmm Hone Hmany hml
        generalize (2 ^ L : Nat) = PW at *
        go_wp2_with (first
         | (go_at_call 108; refine Hft.out.mono ?_; rintro e w1 ⟨Af, cf, rfl, hcf, hRf, hb1⟩; have Hb1 := Lib.hid hb1; have HRf := Lib.hid hRf; have Hcf := Lib.hid hcf; clear hb1 hRf hcf)
         | (go_at_call 109; refine (Hpow.out _).mono ?_; rintro e w1 ⟨rfl, rfl⟩))
        have hgz : Hid (Blk (w1.alloc (.cells (ints (lout k (fun _ => 0))).toArray 3)) w1.heap.size 3 (ints (lout k (fun _ => 0))).toArray) := Lib.hid (Blk.new _ _ _)
        have Hw2 : Hid (Below w1.heap.size w1 (w1.alloc (.cells (ints (lout k (fun _ => 0))).toArray 3))) := Lib.hid ((Below.refl _ _).alloc (Nat.le_refl _) _)
        have hsz2 : (w1.alloc (.cells (ints (lout k (fun _ => 0))).toArray 3)).heap.size = w1.heap.size + 1 := by simp
        have HL1 : Hid (LHRow w1 w1.heap.size (fun b => b ≠ w1.heap.size) Af m (yaa counts)) := Lib.hid (HRf.out.ok' fun b hb => by omega)
        generalize w1.alloc (.cells (ints (lout k (fun _ => 0))).toArray 3) = w2 at *
        have HL2 : Hid (LHRow w2 w2.heap.size (fun b => b ≠ w1.heap.size) Af m (yaa counts)) := Lib.hid ((HL1.out.below Hw2.out).more Hw2.out.size)
        have Hsz2 := Lib.hid hsz2
        clear hsz2 hmk
        have hLi : (1 : Int) ≤ (L : Int) ∧ (L : Int) ≤ 15 := by omega
        have hd1 : decide (PW < m) = false := decide_eq_false (by omega)
        have hd2 : decide ((m : Int) < 2) = false := decide_eq_false (by omega)
        rw [hd1, hd2]
        go_loopw [9, 10] (fun v i W => ∃ (q pr cr : Nat) (Ar : Option Addr), q + 1 ≤ L ∧ pr ≤ cr ∧ v = .slice Ar pr cr ∧ i = .int .i64 ((q : Int) + 1) ∧ Hid (LHRow W W.heap.size (fun b => b ≠ w1.heap.size) Ar pr (lrow (yaa counts) q)) ∧ Hid (Below w2.heap.size w2 W)) (fun _ i _ => L - (intOf i).toNat)
        case atStart => exact ⟨0, m, cf, Af, by omega, Hcf.out, rfl, rfl, HL2.out, Below.refl _ _⟩
        case round =>
         obtain ⟨q, pr, cr, Ar, hq, hpr, rfl, rfl, HRr, HbW⟩ := hrel
         by_cases hql : q + 1 < L
         ·have hqi : (0 : Int) ≤ (q : Int) ∧ (q : Int) + 1 < (L : Int) := by omega
          have hprl : pr ≤ 514 := by
           have h1 := HRr.out.1
           have h2 := yd5 HLl.out q
           have h3 := Hmm.out
           omega
          have hq15 : (2 ^ q : Nat) ≤ 32768 := Nat.le_trans (Nat.pow_le_pow_right (by omega) (show q ≤ 15 by omega)) (by decide)
          have Hnext := Lib.hid (lref_next_any (fun b => b ≠ w1.heap.size) (lrow (yaa counts) q) (yaa counts) Ar Af pr cr m cf wr (by omega) hpr (by omega) Hcf.out (fun x hx => by
           obtain ⟨f1, f2, f3, _⟩ := Hfits.out q x hx
           refine ⟨by omega, f2, ?_⟩
           have : ((2 ^ q : Nat) : Int) * 1000000 ≤ 32768 * 1000000 := Int.mul_le_mul_of_nonneg_right (by omega) (by omega)
           omega) (fun b hb => by have := HbW.out.size; have := Hsz2.out; omega) HRr.out ((HL2.out.below HbW.out).more HbW.out.size))
          rw [show yhF (lrow (yaa counts) q) (yaa counts) = lrow (yaa counts) (q + 1) from rfl] at Hnext
          clear hq15
          go_wp2_with (go_at_call 110; refine Hnext.out.mono ?_; rintro e w5 ⟨A5, c5, rfl, hc5, hR5, hb5⟩; have Hc5 := Lib.hid hc5; have HR5 := Lib.hid hR5; have Hb5 := Lib.hid (HbW.out.trans (hb5.mono HbW.out.size)); clear hc5 hR5 hb5)
          go_roundw
          case rel => exact ⟨q + 1, _, c5, A5, by omega, Hc5.out, rfl, by rw [show (((q + 1 : Nat) : Int) + 1) = (q : Int) + 1 + 1 from by omega], HR5.out, Hb5.out⟩
          case measure => simp only [intOf]; omega
         ·obtain rfl : L = q + 1 := by omega
          have hql2 : ¬ (q : Int) + 1 < ((q + 1 : Nat) : Int) := by omega
          have hroom := Hroom.out hm2
          rw [show q + 1 - 1 = q from rfl] at hroom HBL
          have Hrow := Lib.hid fun i hi => LHRow.cells HRr.out i hi
          have Hsin : Hid (∀ i (hi : i < (lrow (yaa counts) q).length) t (ht : t < (lrow (yaa counts) q)[i].syms.length), (lrow (yaa counts) q)[i].syms[t] < k) := Lib.hid fun i hi t ht => by
           have := (Hfits.out q _ (List.getElem_mem hi)).2.2.2 _ (List.getElem_mem ht)
           rw [En.out] at this
           exact this
          have hprr := HRr.out.1
          have Hsl : Hid (∀ x ∈ lrow (yaa counts) q, x.syms.length ≤ 400000) := Lib.hid fun x hx => by
           have := (Hfits.out q x hx).1
           have h6 : (2 ^ q : Nat) ≤ 32768 := Nat.le_trans (Nat.pow_le_pow_right (by omega) (show q ≤ 15 by omega)) (by decide)
           omega
          have HbWw : Hid (Below w.heap.size w wr) := Lib.hid (Hb1.out.trans ((Hw2.out.trans (HbW.out.mono Hw2.out.size)).mono Hb1.out.size))
          have HzW : Hid (Blk wr w1.heap.size 3 (ints (lout k (fun s => lsum (lhas s) ((lrow (yaa counts) q).take 0)))).toArray) := Lib.hid (hgz.out.below HbW.out (by rw [Hsz2.out]; omega))
          have Hg1 : Hid (w.heap.size ≤ w1.heap.size) := Lib.hid Hb1.out.size
          clear HRr HbW hgz Hfits Hpow Hft HLl Hlp Hsy
          generalize lrow (yaa counts) q = RW at *
          obtain ⟨WR, rfl⟩ : ∃ W, W = wr := ⟨wr, rfl⟩
          obtain ⟨t, ht⟩ : ∃ t, 2 * m - 2 = t := ⟨_, rfl⟩
          rw [ht] at HBL hroom
          have zt : 2 * (m : Int) - 2 = (t : Int) := by omega
          have hti : (t : Int) ≤ 514 := by omega
          have hB0 : Hid (Blk WR w1.heap.size 3 (ints (lout k (lfar RW 0 0))).toArray) := Lib.hid (by
           rw [ybK k (lfar RW 0 0) (fun s => lsum (lhas s) (RW.take 0)) fun s _ => yeT RW 0 s]
           exact HzW.out)
          go_wp2
          go_loopw [11, 12, 13] (fun i j sy W => ∃ ki : Nat, ki ≤ t ∧ i = .int .i64 ki ∧ Hid (Blk W w1.heap.size 3 (ints (lout k (lfar RW ki 0))).toArray) ∧ Hid (WR.grownBy W (some w1.heap.size))) (fun i _ _ _ => t - (intOf i).toNat)
          case atStart => exact ⟨0, by omega, rfl, hB0, ydq _ _⟩
          case round =>
           obtain ⟨ki, hk1, rfl, HB, HG⟩ := hrel
           by_cases hlt : ki < t
           ·have hki : (0 : Int) ≤ (ki : Int) ∧ (ki : Int) < (t : Int) := by omega
            have hkR : ki < RW.length := by omega
            obtain ⟨b, off, As, cs, rfl, hc1, hc2⟩ := Hrow.out ki hkR
            have Hc1 := Lib.hid hc1
            have Hsy := Lib.hid hc2
            have Hfk := Lib.hid fun q2 hq2 => Hsin.out ki hkR q2 hq2
            have hns : RW[ki].syms.length ≤ 400000 := Hsl.out _ (List.getElem_mem hkR)
            have Hbnd : Hid (∀ q2 s, 0 ≤ lfar RW ki q2 s ∧ lfar RW ki q2 s ≤ 400000 * (ki + 1)) := Lib.hid fun q2 s => yfk RW ki q2 s hkR Hsl.out
            clear hc1 hc2
            obtain ⟨ns, hns2⟩ : ∃ ns, RW[ki].syms.length = ns := ⟨_, rfl⟩
            rw [hns2] at Hc1 hns
            have Hns := Lib.hid hns2
            have hkp : (ki : Int) < (pr : Int) := by omega
            clear hns2
            go_wp2
            go_loopw [12, 13] (fun j sy W => ∃ q2 : Nat, q2 ≤ ns ∧ j = .int .i64 q2 ∧ Hid (Blk W w1.heap.size 3 (ints (lout k (lfar RW ki q2))).toArray) ∧ Hid (WR.grownBy W (some w1.heap.size))) (fun j _ _ => ns - (intOf j).toNat)
            case atStart => exact ⟨0, by omega, rfl, HB, HG⟩
            case round =>
             obtain ⟨q2, hq2, rfl, HB2, HG2⟩ := hrel
             clear HB HG
             have hsl := Hc1.out _ HG2.out
             by_cases hqt : q2 < ns
             ·have hqi : (0 : Int) ≤ (q2 : Int) ∧ (q2 : Int) < (ns : Int) := by omega
              have hqs : q2 < RW[ki].syms.length := by rw [Hns.out]; exact hqt
              obtain ⟨bs, os, rfl, hcs⟩ := Hsy.out q2 hqs
              have hsc := hcs _ HG2.out
              have hsn := Hfk.out q2 hqs
              obtain ⟨d1, d2, d3⟩ := yfy HB2.out hkR hqs hsn
              have hbd := Hbnd.out q2 RW[ki].syms[q2]
              have HB3 := Lib.hid d3
              have hsi : (0 : Int) ≤ (RW[ki].syms[q2] : Int) ∧ (RW[ki].syms[q2] : Int) < (k : Int) := by omega
              clear d3 hcs
              generalize lfar RW ki q2 RW[ki].syms[q2] = fv at *
              generalize RW[ki].syms[q2] = sy at *
              have hfv : (0 : Int) ≤ fv ∧ fv ≤ 400000000 := by omega
              go_wp2
              go_roundw
              case rel => exact ⟨q2 + 1, by omega, iv (by omega), HB3, Lib.hid (ybg HG2.out (Or.inl rfl) _)⟩
              case measure => simp only [intOf]; omega
             ·have hqi : ¬ (q2 : Int) < (ns : Int) := by omega
              obtain rfl : q2 = ns := by omega
              have hb4 := HB2.out
              rw [← Hns.out] at hb4
              have HB4 := Lib.hid (yen hkR hb4)
              clear hb4
              go_wp2
              go_roundw
              case rel => exact ⟨ki + 1, by omega, iv (by omega), HB4, HG2⟩
              case measure => simp only [intOf]; omega
           ·have hki : ¬ (ki : Int) < (t : Int) := by omega
            obtain rfl : ki = t := by omega
            go_wp2
            go_ret2
            exact ydi RW k ki BL F _ w1.heap.size w HBL.out Hf.out HB.out (yfg HbWw.out HG.out Hg1.out)
       ·have hlt2 : ((yaa counts).length : Int) < 2 := by omega
        have hf0 : BL.length = k → (BL, (0 : Int)) = F := fun _ => Hf.out
        by_cases hm1 : (yaa counts).length = 1
        ·obtain ⟨s0, hs0⟩ := Hsy.out ((yaa counts)[0]'(by omega)) (List.getElem_mem _)
         obtain ⟨hsn, hset⟩ := Hone.out hm1 s0 hs0
         have hsn2 : s0 < k := by rw [← En.out]; exact hsn
         rw [En.out] at hset
         have Hset := Lib.hid hset
         have Hs0 := Lib.hid hs0
         have Hm1 := Lib.hid hm1
         have hlt3 : (0 : Int) ≤ (s0 : Int) ∧ (s0 : Int) < (k : Int) := by omega
         clear hset hs0 Hmany hsn hlt2
         generalize (2 ^ L : Nat) = PW at *
         obtain ⟨m, hmm⟩ : ∃ m, (yaa counts).length = m := ⟨_, rfl⟩
         rw [hmm] at Hft hbi hmlk hm2 hm1
         have Hmm := Lib.hid hmm
         clear hmm hml
         obtain rfl : m = 1 := hm1
         go_wp2_with (first
          | (go_at_call 108; refine Hft.out.mono ?_; rintro e w1 ⟨Af, cf, rfl, hcf, hRf, hb1⟩; have Hb1 := Lib.hid hb1; have HRf := Lib.hid hRf; obtain ⟨b0, off0, bs0, os0, cs0, e0, y1, y2⟩ := lsingle hRf Hmm.out Hs0.out (.cells (ints (lout k (fun _ => 0))).toArray 3); subst e0; obtain ⟨z1, z2⟩ := lzero_cell w1 k s0 hsn2; clear hb1 hRf hcf)
          | (go_at_call 109; refine (Hpow.out _).mono ?_; rintro e w1 ⟨rfl, rfl⟩))
         go_ret2
         have hset2 : (ints (lout k (fun _ => 0))).set s0 (.int .i64 1) = ints BL := by
          rw [← Hset.out]
          simp [ints, List.map_set]
         have hB2 : Blk (w1.alloc (.cells ((ints (lout k (fun _ => 0))).set s0 (.int .i64 1)).toArray 3)) w1.heap.size 3 (ints BL).toArray := by
          rw [hset2]
          exact Blk.new w1 _ _
         exact pbest_fin0 k BL F _ w1.heap.size w (by rw [← Hset.out, List.length_set, ydK]) Hf.out hB2 (Hb1.out.alloc Hb1.out.size _)
        ·have HBL := Lib.hid (Hmany.out hm1)
         generalize (2 ^ L : Nat) = PW at *
         obtain ⟨m, hmm⟩ : ∃ m, (yaa counts).length = m := ⟨_, rfl⟩
         rw [hmm] at Hft hbi hmlk hm2 hm1 HBL
         clear hmm hml Hmany Hone hlt2
         obtain rfl : m = 0 := by omega
         go_wp2_with (first
          | (go_at_call 108; refine Hft.out.mono ?_; rintro e w1 ⟨Af, cf, rfl, hcf, hRf, hb1⟩; have Hb1 := Lib.hid hb1; clear hb1 hRf hcf)
          | (go_at_call 109; refine (Hpow.out _).mono ?_; rintro e w1 ⟨rfl, rfl⟩))
         go_ret2
         have hB2 := Blk.new w1 3 (ints (lout k (fun _ => 0))).toArray
         have hBL : BL = lout k (fun _ => 0) := HBL.out
         rw [← hBL] at hB2 ⊢
         exact pbest_fin0 k BL F _ w1.heap.size w (by rw [hBL, ydK]) Hf.out hB2 (Hb1.out.alloc Hb1.out.size _)
end Go.Proofs.YtoinjdmlembgeaaGreat
