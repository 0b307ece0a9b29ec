/-
 What the law of the last of these texts stands on, part 18.
-/
import Derived.Test.YtanjhbkbpalnaaaGreatMc15
set_option maxRecDepth 100000
set_option maxHeartbeats 8000000
open Go.Proofs.Tryz
namespace Go.Proofs.YtanjhbkbpalnaaaGreat
set_option linter.unusedSimpArgs false
set_option linter.unusedVariables false
open Go.ChangeShapes Go.WideShapes Go.ChangeAt Go.RowKit Go.Joins Go.Deep
theorem lints_zero (n : Nat) : madeCells #[.int .i64 0] n = (ints (List.replicate n 0)).toArray := by
 unfold ints
 apply Array.ext'
 simp [madeCells, Nat.mod_one]
 rw [qc0, qaC]
theorem lmk_ints (n : Int) (N : Nat) (hN : (N : Int) = n) (h : N ≤ 17592186044416) (w : World) :
  (Instr.makeSlice 28 (.int .i64 n) (.int .i64 n)).run prog w = .ok (.slice (some ⟨w.heap.size, 0, none⟩) N N) (w.alloc (.cells (ints (List.replicate N 0)).toArray 3)) := by
 subst hN
 rw [← lints_zero]
 exact run_make_row' (P := prog) 28 3 (.int .i64 0) 8 underlying28 lint_info rfl .i64 .i64 N (by omega) (by omega) w
theorem lints_set (l : List Int) (k : Nat) (v : Int) : (ints l).toArray.setIfInBounds k (.int .i64 v) = (ints (l.set k v)).toArray := by
 rw [qab]
 simp [ints, qcs]
theorem lout_zero (n : Nat) : List.replicate n (0 : Int) = lout n (fun _ => 0) := by
 unfold lout
 rw [qc0, qaC]
theorem LOk.of {ok ok' : Nat → Prop} {W : World} {B size n : Nat} {A : Option Addr} {xs : List Value} (hr : Reads W B size A n xs) (h : ∀ b, b < B → ok' b) : LOk ok' A n := fun hn => by
 obtain ⟨b, off, e, hb, _⟩ := hr.2 hn
 exact ⟨b, off, e, h b hb⟩
theorem lhas_bound (s : Nat) (x : LTh) (h : x.syms.length ≤ 400000) : 0 ≤ lhas s x ∧ lhas s x ≤ 400000 := by
 unfold lhas
 have := List.count_le_length (a := s) (l := x.syms)
 omega
theorem lsum_bound (s : Nat) : ∀ (R : List LTh), (∀ x ∈ R, x.syms.length ≤ 400000) → 0 ≤ lsum (lhas s) R ∧ lsum (lhas s) R ≤ 400000 * R.length
 | [], _ => by simp [lsum]
 | x :: t, h => by
  have h1 := lhas_bound s x (h x (by simp))
  have h2 := lsum_bound s t fun y hy => h y (by simp [hy])
  simp only [lsum, qau]
  omega
theorem lfar_bound (R : List LTh) (i k s : Nat) (hi : i < R.length) (h : ∀ x ∈ R, x.syms.length ≤ 400000) : 0 ≤ lfar R i k s ∧ lfar R i k s ≤ 400000 * (i + 1) := by
 unfold lfar
 have h1 := lsum_bound s (R.take i) fun x hx => h x (qaV hx)
 rw [qao] at h1
 rw [qaj hi]
 simp only [qbN, qbW]
 have h2 := List.count_le_length (a := s) (l := R[i].syms.take k)
 rw [qao] at h2
 have h3 := h R[i] (qaq hi)
 omega
theorem lcount_one {W : World} {g n : Nat} {R : List LTh} {i k : Nat} (hB : Blk W g 3 (ints (lout n (lfar R i k))).toArray) (hi : i < R.length) (hk : k < R[i].syms.length) (hs : R[i].syms[k] < n) :
  W.cell? ⟨g, R[i].syms[k], none⟩ = some (.int .i64 (lfar R i k R[i].syms[k])) ∧ W.frozen? ⟨g, R[i].syms[k], none⟩ = false ∧
   Blk (W.setCell ⟨g, R[i].syms[k], none⟩ (.int .i64 (lfar R i k R[i].syms[k] + 1))) g 3 (ints (lout n (lfar R i (k + 1)))).toArray := by
 refine ⟨?_, hB.frozen _, ?_⟩
 ·rw [hB.cell]
  simp only [qan]
  unfold ints
  rw [List.getElem?_map, yfN n _ _ hs]
  rfl
 ·have h := hB.set_ R[i].syms[k] (.int .i64 (lfar R i k R[i].syms[k] + 1))
  rw [lints_set, lout_set n (lfar R i k) (lfar R i (k + 1)) _ _ (by rw [lfar_step R i k _ hi hk, qah rfl]) (fun t ht => by rw [lfar_step R i k t hi hk, qag ht]; omega)] at h
  exact h
theorem ygs {W : World} {g n : Nat} {R : List LTh} {i : Nat} (hi : i < R.length) (h : Blk W g 3 (ints (lout n (lfar R i R[i].syms.length))).toArray) : Blk W g 3 (ints (lout n (lfar R (i + 1) 0))).toArray := by
 rw [yck n (lfar R (i + 1) 0) (lfar R i R[i].syms.length) fun t _ => by rw [ygG, lfar_end R i t hi]]
 exact h
theorem ygo (x : LTh) : ∀ k, lrow [x] k = [x]
 | 0 => rfl
 | k + 1 => by
  show lnext (lrow [x] k) [x] = [x]
  rw [ygo x k]
  rfl
theorem lbest_taken (counts : List Int) (L : Nat) : ya0 counts L = lout counts.length (fun s => lsum (lhas s) ((lrow (yaa counts) (L - 1)).take (max (2 * (yaa counts).length - 2) (yaa counts).length))) := by
 by_cases h : (yaa counts).length = 1
 ·obtain ⟨x, hx⟩ := List.length_eq_one_iff.1 h
  obtain ⟨j, hj, hp, e⟩ := (yax counts x).1 (by rw [hx]; simp)
  obtain ⟨_, h2⟩ := lbestL_one counts L j h (by simp only [hx, List.getElem_cons_zero, e])
  rw [← h2, lout_set counts.length (fun _ => 0) (fun t => if t = j then 1 else 0) j 1 (by simp) (fun t ht => qag ht)]
  refine yck _ _ _ fun t _ => ?_
  rw [hx, ygo]
  simp only [lsum, lhas, e, qbA]
  by_cases ht : t = j
  ·subst ht; simp [lsum, lhas]
  ·rw [qag ht]
   simp [lsum, lhas, List.count_cons, Ne.symm ht]
 ·rw [ygD counts L h]
  refine yck _ _ _ fun t _ => ?_
  unfold ltaken
  rw [show max (2 * (yaa counts).length - 2) (yaa counts).length = 2 * (yaa counts).length - 2 from by omega]
theorem PRow.cells {W : World} {n g : Nat} {A : Option Addr} {E : List PEl} (h : PRow (fun b => b ≠ g) W W.heap.size A n E) (i : Nat) (hi : i < E.length) :
  ∃ b off, A = some ⟨b, off, none⟩ ∧ b ≠ g ∧ (∀ W', W.grownBy W' (some g) → W'.cell? ⟨b, off + i * 2, none⟩ = some (.int .i64 E[i].th.w) ∧ W'.cell? ⟨b, off + i * 2 + 1, none⟩ = some (.slice E[i].A E[i].th.syms.length E[i].c)) ∧
   ∀ q (hq : q < E[i].th.syms.length), ∃ bs os, E[i].A = some ⟨bs, os, none⟩ ∧ ∀ W', W.grownBy W' (some g) → W'.cell? ⟨bs, os + q, none⟩ = some (.int .i64 (E[i].th.syms[q] : Int)) := by
 obtain ⟨hn, hr, hok, ho⟩ := h
 obtain ⟨b, off, e, hb, hc⟩ := pcell_row hr hn (by omega)
 obtain ⟨b', off', e', hbg⟩ := ho (by omega)
 rw [e] at e'
 injection e' with e'
 injection e' with e1 e2
 subst e1
 obtain ⟨c1, c2⟩ := hc i hi
 refine ⟨b, off, e, hbg, fun W' hg => ⟨?_, ?_⟩, fun q hq => ?_⟩
 ·exact (qcb (a := ⟨b, off + i * 2, none⟩) (hg.block b hb (fun h => by injection h with h; exact hbg h))).trans c1
 ·exact (qcb (a := ⟨b, off + i * 2 + 1, none⟩) (hg.block b hb (fun h => by injection h with h; exact hbg h))).trans c2
 ·have hx := hok _ (qaq hi)
  obtain ⟨bs, os, es, hbs, hcs⟩ := hx.reads.2 (by omega)
  obtain ⟨bs', os', cs', es', _, hbsg⟩ := hx.ty (by omega)
  rw [es] at es'
  injection es' with es'
  injection es' with e3 e4
  subst e3
  refine ⟨bs, os, es, fun W' hg => ?_⟩
  refine (qcb (a := ⟨bs, os + q, none⟩) (hg.block bs hbs (fun h => by injection h with h; exact hbsg h))).trans (hcs q _ ?_)
  rw [yao _ q (by simpa [lsy] using hq)]
  simp [lsy]
theorem pplv_len : ∀ (l : List Int) (i : Nat), (plv i l).length ≤ l.length
 | [], _ => qaf _
 | c :: t, i => by
  have := pplv_len t (i + 1)
  by_cases h : 0 < c
  ·rw [plv_yes _ _ _ h, qau, qau]; omega
  ·rw [plv_no _ _ _ h, qau]; omega
theorem ybd {w w1 w2 w3 : World} {o : Obj} (h1 : Below w.heap.size w w1) (h2 : Below w1.heap.size w1 w2) (h3 : Below (w2.alloc o).heap.size (w2.alloc o) w3) : Below w.heap.size w w3 := by
 have h4 : Below w.heap.size w w2 := h1.trans (h2.mono h1.size)
 have h5 := h4.alloc h4.size o
 exact h5.trans (h3.mono h5.size)
theorem pbest_row {W : World} {A : Option Addr} {n : Nat} {E : List PEl} {o : Obj} (h : PRow (fun _ => True) W W.heap.size A n E) : PRow (fun b => b ≠ W.heap.size) (W.alloc o) (W.alloc o).heap.size A n E :=
 ((h.okto (fun b hb => by show b ≠ W.heap.size; omega)).below ((qam _ _).alloc (qaf _) o)).more (by rw [qay]; omega)
theorem pbest_new (W : World) (o : Obj) : ∀ b, (W.alloc o).heap.size ≤ b → b ≠ W.heap.size := fun b hb => by rw [qay] at hb; omega
theorem pbest_room {Z : List PEl} {R : List LTh} {c t : Nat} (h : pth Z = R) (hc : Z.length ≤ c) (ht : t ≤ R.length) : (t : Int) ≤ (c : Int) := by
 have : Z.length = R.length := by rw [← h]; simp [pth]
 omega
theorem ybZ {w w3 w5 : World} {o : Obj} (h1 : Below w.heap.size w w3) (h2 : Below (w3.alloc o).heap.size (w3.alloc o) w5) : Below w.heap.size w w5 := by
 have h5 := h1.alloc h1.size o
 exact h5.trans (h2.mono h5.size)
theorem pbest_none {Z : List PEl} {R : List LTh} {W : World} {t : Nat} {ok : Nat → Prop} (h : pth Z = R) (hq : PRow ok W W.heap.size none Z.length Z) (ht : t ≤ R.length) : t = 0 := by
 have : Z.length = R.length := by rw [← h]; simp [pth]
 rcases qba Z.length with e | e
 ·omega
 ·obtain ⟨b, off, e2, _⟩ := hq.2.1.2 e
  cases e2
theorem yek (n : Nat) (RW : List LTh) {w3 w5 : World} (h : Below (w3.alloc (.cells (ints (lout n (fun _ => 0))).toArray 3)).heap.size (w3.alloc (.cells (ints (lout n (fun _ => 0))).toArray 3)) w5) : Blk w5 w3.heap.size 3 (ints (lout n (lfar RW 0 0))).toArray := by
 have h1 := Blk.new w3 3 (ints (lout n (fun _ => 0))).toArray
 have h2 := h1.below h h1.lt
 rw [yck n (lfar RW 0 0) (fun _ => 0) fun t _ => by rw [ygG]; rfl]
 exact h2
theorem pbest_th {Z : List PEl} {R : List LTh} (h : pth Z = R) (k : Nat) (hk : k < R.length) : ∃ hz : k < Z.length, Z[k].th = R[k] := by
 subst h
 unfold pth at hk ⊢
 rw [qaM] at hk
 exact ⟨hk, by rw [qaY]⟩
theorem yeC (RW : List LTh) (n t : Nat) (BL : List Int) (F : List Int × Int) (W : World) (g : Nat) (w : World) (hBL : BL = lout n (fun s => lsum (lhas s) (RW.take t))) (hF : (BL, (0 : Int)) = F) (hB : Blk W g 3 (ints (lout n (lfar RW t 0))).toArray) (hw : Below w.heap.size w W) :
  ∃ A' c', Ending.returned (.tuple #[.slice (some ⟨g, 0, none⟩) n n, .int .i64 0]) = Ending.returned (.tuple #[.slice A' F.1.length c', .int .i64 F.2]) ∧ F.1.length ≤ c' ∧ Reads W W.heap.size 1 A' F.1.length (ints F.1) ∧ Below w.heap.size w W := by
 subst hF
 have hl : BL.length = n := by rw [hBL, yfI]
 refine ⟨some ⟨g, 0, none⟩, n, by rw [hl], by rw [hl]; exact qaf _, ?_, hw⟩
 refine ⟨by rw [yac]; omega, fun _ => ⟨g, 0, rfl, hB.lt, fun j u hu => ?_⟩⟩
 rw [qaL, hB.cell, qan, yck n (lfar RW t 0) (fun s => lsum (lhas s) (RW.take t)) fun s _ => ygG RW t s, ← hBL]
 exact hu
theorem pbest_grow {w w5 W : World} {g : Nat} (h : Below w.heap.size w w5) (hg : w5.grownBy W (some g)) (hgw : w.heap.size ≤ g) : Below w.heap.size w W := h.trans (below_grow hg hgw h.size)
theorem p_best_any (counts : List Int) (most : Int) (A : Option Addr) (n c : Nat) (w : World) (hm : n ≤ 100000) (hr : Reads w w.heap.size 1 A n (ints counts)) :
  Calls prog 103 #[.slice A n c, .int .i64 most] w fun e w' => ∃ A' c', e = .returned (.tuple #[.slice A' (yee counts most).1.length c', .int .i64 (yee counts most).2]) ∧ (yee counts most).1.length ≤ c' ∧ Reads w' w'.heap.size 1 A' (yee counts most).1.length (ints (yee counts most).1) ∧ Below w.heap.size w w' := by
 have en : counts.length = n := by have := hr.1; rw [yac] at this; omega
 have hni : (n : Int) ≤ 100000 := by omega
 have En := qaa en
 have Hall := qaa (a_all_any counts 1000000 A n c w (by omega) hr)
 obtain ⟨F, hF⟩ : ∃ F, yee counts most = F := ⟨_, rfl⟩
 rw [hF]
 unfold yee at hF
 rw [en] at hF
 by_cases h1 : 257 < n
 ·have h1i : (257 : Int) < n := by omega
  rw [qah h1] at hF
  have Hf := qaa hF
  clear hF hr
  go_enter func103, ntmps103
  go_wp2
  go_ret2
  rw [← Hf.out]
  exact ⟨none, 0, rfl, qaf _, Reads.none_, qam _ _⟩
 ·have h1i : ¬ (257 : Int) < n := by omega
  rw [qag h1] at hF
  by_cases hg : ygd counts = true
  ·have hga : yc9 1000000 counts = true := hg
   rw [hga] at Hall
   by_cases h2 : most < 1
   ·rw [qah (qas h2)] at hF
    have Hf := qaa hF
    clear hF hr hg hga
    go_enter func103, ntmps103
    go_wp2_with (go_at_call 143; refine Hall.out.mono ?_; rintro e w1 ⟨rfl, hb1⟩; have Hb1 := qaa hb1; clear hb1)
    go_ret2
    rw [← Hf.out]
    exact ⟨none, 0, rfl, qaf _, Reads.none_, Hb1.out⟩
   ·by_cases h3 : 15 < most
    ·rw [qah (qaK h3)] at hF
     have Hf := qaa hF
     clear hF hr hg hga
     go_enter func103, ntmps103
     go_wp2_with (go_at_call 143; refine Hall.out.mono ?_; rintro e w1 ⟨rfl, hb1⟩; have Hb1 := qaa hb1; clear hb1)
     go_ret2
     rw [← Hf.out]
     exact ⟨none, 0, rfl, qaf _, Reads.none_, Hb1.out⟩
    ·rw [qag (by omega), qah hg] at hF
     obtain ⟨L, rfl⟩ : ∃ L : Nat, most = L := ⟨most.toNat, by omega⟩
     rw [qav] at hF
     have hL : 1 ≤ L ∧ L ≤ 15 := by omega
     have hLi : (1 : Int) ≤ (L : Int) ∧ (L : Int) ≤ 15 := by omega
     have hllen : (yaa counts).length ≤ n := by have := ydH counts; omega
     have Hleaves := qaa fun (W : World) (hW : Below w.heap.size w W) => leaves_any (fun _ => True) counts A n c W (fun _ _ => trivial) ((hr.below hW).more hW.size) (by omega)
     have Hrow := qaa fun (W : World) (E : List PEl) (A2 : Option Addr) (c2 : Nat) (hp : PRow (fun _ => True) W W.heap.size A2 E.length E) (hpl : E.length ≤ 1000) =>
      row_any (fun _ => True) [⟨A2, E.length, c2, E⟩] (some ⟨W.heap.size, 0, none⟩) 1 1 (W.alloc (.cells #[.slice A2 E.length c2] 185)) rfl (by omega)
       (fun _ => ⟨W.heap.size, 0, rfl, by rw [qay]; omega, fun i hi => by
        have hi2 : i < 1 := hi
        obtain rfl : i = 0 := by omega
        exact (Blk.new W 185 #[.slice A2 E.length c2]).cell 0⟩)
       (fun _ _ => trivial)
       (fun s hs => by
        rw [qbZ.1 hs]
        have hba : Below W.heap.size W (W.alloc (.cells #[.slice A2 E.length c2] 185)) := (qam _ _).alloc (qaf _) _
        exact (hp.below hba).more hba.size)
       (by show (E ++ []).length ≤ _; rw [qa8]; omega)
     have Hfirst : Hid (∀ (E Z : List PEl), pth E = plv 0 counts → Z.Perm (yb2 0 (rall [(⟨none, 0, 0, E⟩ : RSrc)])) → Z.Pairwise (sord (ltOf pcf) (·.no)) → pth Z = yaa counts) := qaa fun E Z a1 a2 a3 => first_row counts E Z a1 (by simpa [rall] using a2) a3
     have Hlast := qaa fun (g : Nat) (E1 : List PEl) (A1 : Option Addr) (c1 : Nat) (W : World) (a1 : pth E1 = yaa counts) (a2 : PRow (fun b => b ≠ g) W W.heap.size A1 E1.length E1) (a3 : E1.length ≤ c1) (a4 : ∀ b, W.heap.size ≤ b → b ≠ g) => last_any (fun b => b ≠ g) counts E1 L A1 c1 W (by omega) hg a1 a4 a2 a3 hL
     have hElen : Hid (∀ E : List PEl, pth E = plv 0 counts → E.length ≤ 1000) := qaa fun E hE => by
      have h5 := qbD List.length hE
      have h6 := pplv_len counts 0
      unfold pth at h5
      rw [qaM] at h5
      omega
     have hZlen : Hid (∀ Z : List PEl, pth Z = yaa counts → Z.length = (yaa counts).length) := qaa fun Z hZ => by rw [← hZ]; simp [pth]
     have hroom : 2 ^ L < (yaa counts).length ∨ max (2 * (yaa counts).length - 2) (yaa counts).length ≤ (lrow (yaa counts) (L - 1)).length := by
      by_cases hb : 2 ^ L < (yaa counts).length
      ·exact qas hb
      ·refine qaK ?_
       by_cases hm2 : 2 ≤ (yaa counts).length
       ·have := ygn (yaV counts) (ydO counts) (L - 1) hm2 (by rw [show L - 1 + 1 = L from by omega]; omega)
        omega
       ·have : ∀ k, (yaa counts).length ≤ (lrow (yaa counts) k).length := fun k => by
         cases k with
         | zero => exact qaf _
         | succ k => rw [yfH (yaV counts)]; omega
        have := this (L - 1)
        omega
     have Hfits : Hid (∀ x ∈ lrow (yaa counts) (L - 1), x.syms.length ≤ 400000 ∧ ∀ s ∈ x.syms, s < n) := qaa fun x hx => by
      obtain ⟨f1, _, _, f4⟩ := ygy counts hg (L - 1) x hx
      have := lexp_le (show L - 1 ≤ 14 by omega)
      exact ⟨by omega, fun s hs => by have := f4 s hs; omega⟩
     have Hrl : Hid ((lrow (yaa counts) (L - 1)).length ≤ 600) := qaa (by have := yfh (yaV counts) (L - 1); omega)
     have Htake := qaa (lbest_taken counts L)
     rw [en] at Htake
     have hp15 : (2 ^ L : Nat) ≤ 32768 := qaG (qaH (by omega) hL.2) (by decide)
     have hmk := fun W => lmk_ints (n : Int) n rfl (by omega) W
     rw [lout_zero] at hmk
     have HF := qaa hF
     clear hr hg hga hF
     generalize ya0 counts L = BL at *
     generalize lrow (yaa counts) (L - 1) = RW at *
     generalize hm0 : yaa counts = LV at *
     clear hm0
     obtain ⟨m, hmm⟩ : ∃ m, LV.length = m := ⟨_, rfl⟩
     rw [hmm] at HF hZlen hroom Htake hllen
     clear hmm
     have hpw : ((2 : Int) ^ L) = ((2 ^ L : Nat) : Int) := by simp
     by_cases hbig : 2 ^ L < m
     ·have hf := HF.out
      rw [qah hbig] at hf
      have Hf := qaa hf
      have hbi : ((2 ^ L : Nat) : Int) < (m : Int) := by omega
      generalize (2 ^ L : Nat) = PW at *
      clear hf HF hroom Htake
      go_enter func103, ntmps103
      go_wp2_with (first
       | (go_at_call 143; refine Hall.out.mono ?_; rintro e w1 ⟨rfl, hb1⟩; have Hb1 := qaa hb1; clear hb1)
       | (go_at_call 145; refine (Hleaves.out _ Hb1.out).mono ?_; rintro e w2 ⟨E, A2, c2, rfl, hc2, hp2, hq2, hb2⟩; have HP2 := qaa hp2; have HQ2 := qaa hq2; have HB2 := qaa hb2; clear hp2 hq2 hb2)
       | (go_at_call 144; refine (Hrow.out _ _ _ _ HQ2.out (hElen.out E HP2.out)).mono ?_; rintro e w3 ⟨Z, A3, c3, rfl, hc3, hp3, ho3, hq3, hb3⟩; have HZ : Hid (pth Z = LV) := qaa (Hfirst.out E Z HP2.out hp3 ho3); have hzl : (Z.length : Int) = (m : Int) := qbD Nat.cast (hZlen.out Z HZ.out); have HQ3 := qaa hq3; have HB3 := qaa hb3; clear hp3 ho3 hq3 hb3))
      go_ret2
      rw [← Hf.out]
      exact ⟨none, 0, rfl, qaf _, Reads.none_, ybd Hb1.out HB2.out HB3.out⟩
     ·have hbi : ¬ ((2 ^ L : Nat) : Int) < (m : Int) := by omega
      have hf := HF.out
      rw [qag hbig] at hf
      have Hf := qaa hf
      obtain ⟨t, ht⟩ : ∃ t, max (2 * m - 2) m = t := ⟨_, rfl⟩
      have htR : t ≤ RW.length := by
       rcases hroom with h | h
       ·exact absurd h hbig
       ·omega
      have hrl := Hrl.out
      have hti : (t : Int) ≤ 600 := by omega
      rw [ht] at Htake
      generalize (2 ^ L : Nat) = PW at *
      clear hf HF hbig
      by_cases hm2 : 2 ≤ m
      ·skip
       have zt : 2 * (m : Int) - 2 = (t : Int) := by omega
       have zt2 : ¬ (t : Int) < (m : Int) := by omega
       have zt3 : (m : Int) ≤ (t : Int) := by omega
       clear hroom
       go_enter func103, ntmps103
       go_wp2_with (first
        | (go_at_call 143; refine Hall.out.mono ?_; rintro e w1 ⟨rfl, hb1⟩; have Hb1 := qaa hb1; clear hb1)
        | (go_at_call 145; refine (Hleaves.out _ Hb1.out).mono ?_; rintro e w2 ⟨E, A2, c2, rfl, hc2, hp2, hq2, hb2⟩; have HP2 := qaa hp2; have HQ2 := qaa hq2; have HB2 := qaa hb2; clear hp2 hq2 hb2)
        | (go_at_call 144; refine (Hrow.out _ _ _ _ HQ2.out (hElen.out E HP2.out)).mono ?_; rintro e w3 ⟨Z, A3, c3, rfl, hc3, hp3, ho3, hq3, hb3⟩; have HZ : Hid (pth Z = LV) := qaa (Hfirst.out E Z HP2.out hp3 ho3); have hzl : (Z.length : Int) = (m : Int) := qbD Nat.cast (hZlen.out Z HZ.out); have HQ3 := qaa hq3; have HB3 := qaa hb3; have Hc3 := qaa hc3; clear hp3 ho3 hq3 hb3 hc3)
        | (go_at_call 146; refine (Hlast.out w3.heap.size Z A3 c3 _ HZ.out (pbest_row HQ3.out) Hc3.out (pbest_new _ _)).mono ?_; rintro e w5 ⟨Z5, A5, c5, rfl, hc5, hp5, hq5, hb5⟩; have HP5 := qaa hp5; have HQ5 := qaa hq5; have HB5 := qaa hb5; have Hc5 := qaa hc5; have htc : (t : Int) ≤ (c5 : Int) := pbest_room hp5 hc5 htR; clear hp5 hq5 hb5 hc5; rcases A5 with _ | ⟨b5, off5, sp5⟩))
       ·-- no thing at all
        have ht0 : t = 0 := pbest_none HP5.out HQ5.out htR
        subst ht0
        have hBg : Hid (Blk w5 w3.heap.size 3 (ints (lout n (lfar RW 0 0))).toArray) := qaa (yek n RW HB5.out)
        have hW5 : Hid (Below w.heap.size w w5) := qaa (ybZ (ybd Hb1.out HB2.out HB3.out) HB5.out)
        go_loopw [10, 12, 50, 57] (fun bx sy i j wr => i = .int .i64 (0 : Int) ∧ Hid (wr = w5)) (fun _ _ i _ _ => 0)
        case atStart => exact ⟨rfl, rfl⟩
        case round =>
         obtain ⟨rfl, Hw⟩ := hrel
         have hw : w5 = wr := Hw.out.symm
         subst hw
         go_wp2
         all_goals (go_ret2; exact yeC RW n 0 BL F w5 w3.heap.size w Htake.out Hf.out hBg.out hW5.out)
       ·have Hcl := qaa fun i hi => PRow.cells HQ5.out i hi
        have hBg : Hid (Blk w5 w3.heap.size 3 (ints (lout n (lfar RW 0 0))).toArray) := qaa (yek n RW HB5.out)
        have hW5 : Hid (Below w.heap.size w w5) := qaa (ybZ (ybd Hb1.out HB2.out HB3.out) HB5.out)
        have hgw : Hid (w.heap.size ≤ w3.heap.size) := qaa (ybd Hb1.out HB2.out HB3.out).size
        have Hth : Hid (∀ k (hk : k < RW.length), ∃ hz : k < Z5.length, Z5[k].th = RW[k]) := qaa fun k hk => pbest_th HP5.out k hk
        clear HQ5 HB5 HP5 Hc5 hmk Hb1 HB2 HB3 Hall Hleaves Hrow Hlast Hfirst hElen hZlen HQ3 HQ2 HP2 Hc3 HZ
        go_loopw [10, 12, 50, 57] (fun bx sy i j wr => ∃ k : Nat, k ≤ t ∧ i = .int .i64 k ∧ Hid (Blk wr w3.heap.size 3 (ints (lout n (lfar RW k 0))).toArray) ∧ Hid (w5.grownBy wr (some w3.heap.size))) (fun _ _ i _ _ => t - (intOf i).toNat)
        case atStart => exact ⟨0, by omega, rfl, hBg, grow_refl _ _⟩
        case round =>
         obtain ⟨k, hk, rfl, HB, HG⟩ := hrel
         by_cases hlt : k < t
         ·have hki : (0 : Int) ≤ (k : Int) ∧ (k : Int) < (t : Int) := by omega
          have hkR : k < RW.length := by omega
          obtain ⟨hz, hth⟩ := Hth.out k hkR
          obtain ⟨b, off, e5, hbg, hc1, hc2⟩ := Hcl.out k hz
          injection e5 with e5
          injection e5 with e6 e7 e8
          subst e6 e7 e8
          obtain ⟨x1, x2⟩ := hc1 wr HG.out
          have Hsy : Hid (∀ q (hq : q < RW[k].syms.length), ∃ bs os, Z5[k].A = some ⟨bs, os, none⟩ ∧ ∀ W', w5.grownBy W' (some w3.heap.size) → W'.cell? ⟨bs, os + q, none⟩ = some (.int .i64 (RW[k].syms[q] : Int))) := qaa fun q hq => by
           rw [← hth] at hq
           obtain ⟨bs, os, f1, f2⟩ := hc2 q hq
           exact ⟨bs, os, f1, fun W' hW => by simp only [← hth]; exact f2 W' hW⟩
          have Hfk : Hid (∀ q (hq : q < RW[k].syms.length), RW[k].syms[q] < n) := qaa fun q hq => (Hfits.out _ (qaq hkR)).2 _ (qaq hq)
          have hns : RW[k].syms.length ≤ 400000 := (Hfits.out _ (qaq hkR)).1
          have Hbnd : Hid (∀ q s, 0 ≤ lfar RW k q s ∧ lfar RW k q s ≤ 400000 * (k + 1)) := qaa fun q s => lfar_bound RW k q s hkR fun x hx => (Hfits.out x hx).1
          rw [hth] at x2
          clear hc1 hc2
          obtain ⟨ns, hns2⟩ : ∃ ns, RW[k].syms.length = ns := ⟨_, rfl⟩
          rw [hns2] at x2 hns
          have Hns := qaa hns2
          clear hns2 hth
          generalize Z5[k].th.w = zw at *
          generalize Z5[k].c = zc at *
          generalize Z5[k].A = zA at *
          clear hz Hcl Hth
          go_wp2
          have HB1 : Hid (Blk (wr.alloc (.cells #[.int .i64 zw, .slice zA ns zc] 190)) w3.heap.size 3 (ints (lout n (lfar RW k 0))).toArray) := qaa (HB.out.alloc _)
          have HG1 : Hid (w5.grownBy (wr.alloc (.cells #[.int .i64 zw, .slice zA ns zc] 190)) (some w3.heap.size)) := qaa (grow_alloc HG.out _)
          clear HB HG
          generalize wr.alloc (.cells #[.int .i64 zw, .slice zA ns zc] 190) = wb at *
          go_loopw [12, 57] (fun sy j W => ∃ q : Nat, q ≤ ns ∧ j = .int .i64 q ∧ Hid (Blk W w3.heap.size 3 (ints (lout n (lfar RW k q))).toArray) ∧ Hid (w5.grownBy W (some w3.heap.size))) (fun _ j _ => ns - (intOf j).toNat)
          case atStart => exact ⟨0, by omega, rfl, HB1, HG1⟩
          case round =>
           obtain ⟨q, hq, rfl, HB2, HG2⟩ := hrel
           clear HB1 HG1
           by_cases hqt : q < ns
           ·have hqi : (0 : Int) ≤ (q : Int) ∧ (q : Int) < (ns : Int) := by omega
            have hqs : q < RW[k].syms.length := by rw [Hns.out]; exact hqt
            obtain ⟨bs, os, rfl, hcs⟩ := Hsy.out q hqs
            have hsc := hcs _ HG2.out
            have hsn := Hfk.out q hqs
            obtain ⟨d1, d2, d3⟩ := lcount_one HB2.out hkR hqs hsn
            have hbd := Hbnd.out q RW[k].syms[q]
            have HB3 := qaa d3
            have hsi : (0 : Int) ≤ (RW[k].syms[q] : Int) ∧ (RW[k].syms[q] : Int) < (n : Int) := by omega
            clear d3 hcs
            generalize lfar RW k q RW[k].syms[q] = fv at *
            generalize RW[k].syms[q] = sy at *
            have hfv : (0 : Int) ≤ fv ∧ fv ≤ 400000000 := by omega
            go_wp2
            go_roundw
            case rel => exact ⟨q + 1, by omega, iv (by omega), HB3, qaa (ybE HG2.out (qas rfl) _)⟩
            case measure => simp only [intOf]; omega
           ·have hqi : ¬ (q : Int) < (ns : Int) := by omega
            obtain rfl : q = ns := by omega
            have hb4 := HB2.out
            rw [← Hns.out] at hb4
            have HB4 := qaa (ygs hkR hb4)
            clear hb4
            go_wp2
            go_roundw
            case rel => exact ⟨k + 1, by omega, iv (by omega), HB4, HG2⟩
            case measure => simp only [intOf]; omega
         ·have hki : ¬ (k : Int) < (t : Int) := by omega
          obtain rfl : k = t := by omega
          go_wp2
          go_ret2
          exact yeC RW n k BL F _ w3.heap.size w Htake.out Hf.out HB.out (pbest_grow hW5.out HG.out hgw.out)

      ·skip
       have zt : 2 * (m : Int) - 2 < (m : Int) := by omega
       have zt1 : 2 * (m : Int) - 2 ≤ (m : Int) := by omega
       have zt3 : (m : Int) = (t : Int) := by omega
       clear hroom
       go_enter func103, ntmps103
       go_wp2_with (first
        | (go_at_call 143; refine Hall.out.mono ?_; rintro e w1 ⟨rfl, hb1⟩; have Hb1 := qaa hb1; clear hb1)
        | (go_at_call 145; refine (Hleaves.out _ Hb1.out).mono ?_; rintro e w2 ⟨E, A2, c2, rfl, hc2, hp2, hq2, hb2⟩; have HP2 := qaa hp2; have HQ2 := qaa hq2; have HB2 := qaa hb2; clear hp2 hq2 hb2)
        | (go_at_call 144; refine (Hrow.out _ _ _ _ HQ2.out (hElen.out E HP2.out)).mono ?_; rintro e w3 ⟨Z, A3, c3, rfl, hc3, hp3, ho3, hq3, hb3⟩; have HZ : Hid (pth Z = LV) := qaa (Hfirst.out E Z HP2.out hp3 ho3); have hzl : (Z.length : Int) = (m : Int) := qbD Nat.cast (hZlen.out Z HZ.out); have HQ3 := qaa hq3; have HB3 := qaa hb3; have Hc3 := qaa hc3; clear hp3 ho3 hq3 hb3 hc3)
        | (go_at_call 146; refine (Hlast.out w3.heap.size Z A3 c3 _ HZ.out (pbest_row HQ3.out) Hc3.out (pbest_new _ _)).mono ?_; rintro e w5 ⟨Z5, A5, c5, rfl, hc5, hp5, hq5, hb5⟩; have HP5 := qaa hp5; have HQ5 := qaa hq5; have HB5 := qaa hb5; have Hc5 := qaa hc5; have htc : (t : Int) ≤ (c5 : Int) := pbest_room hp5 hc5 htR; clear hp5 hq5 hb5 hc5; rcases A5 with _ | ⟨b5, off5, sp5⟩))
       ·-- no thing at all
        have ht0 : t = 0 := pbest_none HP5.out HQ5.out htR
        subst ht0
        have hBg : Hid (Blk w5 w3.heap.size 3 (ints (lout n (lfar RW 0 0))).toArray) := qaa (yek n RW HB5.out)
        have hW5 : Hid (Below w.heap.size w w5) := qaa (ybZ (ybd Hb1.out HB2.out HB3.out) HB5.out)
        go_loopw [10, 12, 50, 57] (fun bx sy i j wr => i = .int .i64 (0 : Int) ∧ Hid (wr = w5)) (fun _ _ i _ _ => 0)
        case atStart => exact ⟨rfl, rfl⟩
        case round =>
         obtain ⟨rfl, Hw⟩ := hrel
         have hw : w5 = wr := Hw.out.symm
         subst hw
         go_wp2
         all_goals (go_ret2; exact yeC RW n 0 BL F w5 w3.heap.size w Htake.out Hf.out hBg.out hW5.out)
       ·have Hcl := qaa fun i hi => PRow.cells HQ5.out i hi
        have hBg : Hid (Blk w5 w3.heap.size 3 (ints (lout n (lfar RW 0 0))).toArray) := qaa (yek n RW HB5.out)
        have hW5 : Hid (Below w.heap.size w w5) := qaa (ybZ (ybd Hb1.out HB2.out HB3.out) HB5.out)
        have hgw : Hid (w.heap.size ≤ w3.heap.size) := qaa (ybd Hb1.out HB2.out HB3.out).size
        have Hth : Hid (∀ k (hk : k < RW.length), ∃ hz : k < Z5.length, Z5[k].th = RW[k]) := qaa fun k hk => pbest_th HP5.out k hk
        clear HQ5 HB5 HP5 Hc5 hmk Hb1 HB2 HB3 Hall Hleaves Hrow Hlast Hfirst hElen hZlen HQ3 HQ2 HP2 Hc3 HZ
        go_loopw [10, 12, 50, 57] (fun bx sy i j wr => ∃ k : Nat, k ≤ t ∧ i = .int .i64 k ∧ Hid (Blk wr w3.heap.size 3 (ints (lout n (lfar RW k 0))).toArray) ∧ Hid (w5.grownBy wr (some w3.heap.size))) (fun _ _ i _ _ => t - (intOf i).toNat)
        case atStart => exact ⟨0, by omega, rfl, hBg, grow_refl _ _⟩
        case round =>
         obtain ⟨k, hk, rfl, HB, HG⟩ := hrel
         by_cases hlt : k < t
         ·have hki : (0 : Int) ≤ (k : Int) ∧ (k : Int) < (t : Int) := by omega
          have hkR : k < RW.length := by omega
          obtain ⟨hz, hth⟩ := Hth.out k hkR
          obtain ⟨b, off, e5, hbg, hc1, hc2⟩ := Hcl.out k hz
          injection e5 with e5
          injection e5 with e6 e7 e8
          subst e6 e7 e8
          obtain ⟨x1, x2⟩ := hc1 wr HG.out
          have Hsy : Hid (∀ q (hq : q < RW[k].syms.length), ∃ bs os, Z5[k].A = some ⟨bs, os, none⟩ ∧ ∀ W', w5.grownBy W' (some w3.heap.size) → W'.cell? ⟨bs, os + q, none⟩ = some (.int .i64 (RW[k].syms[q] : Int))) := qaa fun q hq => by
           rw [← hth] at hq
           obtain ⟨bs, os, f1, f2⟩ := hc2 q hq
           exact ⟨bs, os, f1, fun W' hW => by simp only [← hth]; exact f2 W' hW⟩
          have Hfk : Hid (∀ q (hq : q < RW[k].syms.length), RW[k].syms[q] < n) := qaa fun q hq => (Hfits.out _ (qaq hkR)).2 _ (qaq hq)
          have hns : RW[k].syms.length ≤ 400000 := (Hfits.out _ (qaq hkR)).1
          have Hbnd : Hid (∀ q s, 0 ≤ lfar RW k q s ∧ lfar RW k q s ≤ 400000 * (k + 1)) := qaa fun q s => lfar_bound RW k q s hkR fun x hx => (Hfits.out x hx).1
          rw [hth] at x2
          clear hc1 hc2
          obtain ⟨ns, hns2⟩ : ∃ ns, RW[k].syms.length = ns := ⟨_, rfl⟩
          rw [hns2] at x2 hns
          have Hns := qaa hns2
          clear hns2 hth
          generalize Z5[k].th.w = zw at *
          generalize Z5[k].c = zc at *
          generalize Z5[k].A = zA at *
          clear hz Hcl Hth
          go_wp2
          have HB1 : Hid (Blk (wr.alloc (.cells #[.int .i64 zw, .slice zA ns zc] 190)) w3.heap.size 3 (ints (lout n (lfar RW k 0))).toArray) := qaa (HB.out.alloc _)
          have HG1 : Hid (w5.grownBy (wr.alloc (.cells #[.int .i64 zw, .slice zA ns zc] 190)) (some w3.heap.size)) := qaa (grow_alloc HG.out _)
          clear HB HG
          generalize wr.alloc (.cells #[.int .i64 zw, .slice zA ns zc] 190) = wb at *
          go_loopw [12, 57] (fun sy j W => ∃ q : Nat, q ≤ ns ∧ j = .int .i64 q ∧ Hid (Blk W w3.heap.size 3 (ints (lout n (lfar RW k q))).toArray) ∧ Hid (w5.grownBy W (some w3.heap.size))) (fun _ j _ => ns - (intOf j).toNat)
          case atStart => exact ⟨0, by omega, rfl, HB1, HG1⟩
          case round =>
           obtain ⟨q, hq, rfl, HB2, HG2⟩ := hrel
           clear HB1 HG1
           by_cases hqt : q < ns
           ·have hqi : (0 : Int) ≤ (q : Int) ∧ (q : Int) < (ns : Int) := by omega
            have hqs : q < RW[k].syms.length := by rw [Hns.out]; exact hqt
            obtain ⟨bs, os, rfl, hcs⟩ := Hsy.out q hqs
            have hsc := hcs _ HG2.out
            have hsn := Hfk.out q hqs
            obtain ⟨d1, d2, d3⟩ := lcount_one HB2.out hkR hqs hsn
            have hbd := Hbnd.out q RW[k].syms[q]
            have HB3 := qaa d3
            have hsi : (0 : Int) ≤ (RW[k].syms[q] : Int) ∧ (RW[k].syms[q] : Int) < (n : Int) := by omega
            clear d3 hcs
            generalize lfar RW k q RW[k].syms[q] = fv at *
            generalize RW[k].syms[q] = sy at *
            have hfv : (0 : Int) ≤ fv ∧ fv ≤ 400000000 := by omega
            go_wp2
            go_roundw
            case rel => exact ⟨q + 1, by omega, iv (by omega), HB3, qaa (ybE HG2.out (qas rfl) _)⟩
            case measure => simp only [intOf]; omega
           ·have hqi : ¬ (q : Int) < (ns : Int) := by omega
            obtain rfl : q = ns := by omega
            have hb4 := HB2.out
            rw [← Hns.out] at hb4
            have HB4 := qaa (ygs hkR hb4)
            clear hb4
            go_wp2
            go_roundw
            case rel => exact ⟨k + 1, by omega, iv (by omega), HB4, HG2⟩
            case measure => simp only [intOf]; omega
         ·have hki : ¬ (k : Int) < (t : Int) := by omega
          obtain rfl : k = t := by omega
          go_wp2
          go_ret2
          exact yeC RW n k BL F _ w3.heap.size w Htake.out Hf.out HB.out (pbest_grow hW5.out HG.out hgw.out)

  ·have hga : yc9 1000000 counts = false := by
    cases h : yc9 1000000 counts with
    | false => rfl
    | true => exact absurd h hg
   have hf : (([], 2) : List Int × Int) = F := by
    rw [← hF]
    by_cases h2 : most < 1 ∨ 15 < most
    ·rw [qah h2]
    ·rw [qag h2, qag hg]
   rw [hga] at Hall
   have Hf := qaa hf
   clear hF hf hg hga hr
   go_enter func103, ntmps103
   go_wp2_with (go_at_call 143; refine Hall.out.mono ?_; rintro e w1 ⟨rfl, hb1⟩; have Hb1 := qaa hb1; clear hb1)
   go_ret2
   rw [← Hf.out]
   exact ⟨none, 0, rfl, qaf _, Reads.none_, Hb1.out⟩
end Go.Proofs.YtanjhbkbpalnaaaGreat
