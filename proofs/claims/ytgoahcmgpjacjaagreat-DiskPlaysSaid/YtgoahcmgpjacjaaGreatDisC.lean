/-
  Layer 20, the document's: Changed (ahead of the code's landing).
-/
import Derived.Test.YtgoahcmgpjacjaaGreatDisB
import Derived.Test.YtgoahcmgpjacjaaGreatGa
import Derived.Deep.DeepCutAuto
namespace Go.Proofs.YtgoahcmgpjacjaaGreat
set_option linter.unusedSimpArgs false
set_option linter.unusedVariables false
open Go.ChangeShapes Go.WideShapes Go.ChangeAt Go.RowKit Go.Joins Go.Deep
theorem d_slice_top {P : Program} {t e : TypeId} {i : TypeInfo} {size : Nat} (ht : P.underlying t = some (.slice e)) (hi : P.info? e = some i) (hs : i.size = size) (A : Option Addr) (n c k : Nat) (hk : k ≤ c) (w : World) :
    (Instr.slice t (.slice A n c) none (some (.int .i64 (k : Int))) none).run P w = .ok (.slice A k c) w := by
  have he : P.elem t = e := by simp [Program.elem, ht]
  rw [run_slice_h w t A n c (by rw [he]; exact ht) .i64 k (by omega) (by omega), he]
  simp [sizeOf, typeInfo, hi, hs, sliced]
  intro _
  cases A with
  | none => rfl
  | some a => simp [Addr.add]
theorem d_empty {N : Nat} (W : World) (h : N ≤ W.heap.size) : (W.alloc (.cells #[] 94)).ownsRow N 94 2 (.slice (some ⟨W.heap.size, 0, none⟩) 0 0) 0 (dcs efc []) :=
  ⟨rfl, Or.inr ⟨W.heap.size, 0, #[], rfl, h, Blk.new W _ _, Nat.le_refl _, by unfold maxLen; omega, rfl, rfl⟩⟩
def DNew (N : Nat) (W : World) (g : Nat) (x : List UInt8) (y : Int) : Prop := Blk W g 94 #[.string ⟨x.toArray⟩, .int .i64 y] ∧ N ≤ g
theorem DNew.alloc {N g : Nat} {W : World} {x : List UInt8} {y : Int} (h : DNew N W g x y) (o : Obj) : DNew N (W.alloc o) g x y := ⟨h.1.alloc o, h.2⟩
theorem d_new {N : Nat} (W : World) (x : List UInt8) (y : Int) (h : N ≤ W.heap.size) : DNew N (W.alloc (.cells #[.string ⟨x.toArray⟩, .int .i64 y] 94)) W.heap.size x y := ⟨Blk.new W _ _, h⟩
theorem d_reads {N g : Nat} {W : World} {x : List UInt8} {y : Int} (h : DNew N W g x y) : Reads W W.heap.size 2 (some ⟨g, 0, none⟩) 1 (dcs efc [(x, y)]) := by
  refine ⟨rfl, fun _ => ⟨g, 0, rfl, h.1.lt, fun j u hj => ?_⟩⟩
  rw [Nat.zero_add, h.1.cell j]
  simpa [dcs] using hj
theorem d_sepA {N g : Nat} {W : World} {x : List UInt8} {y : Int} (h : DNew N W g x y) (o : Obj) : (Value.slice (some ⟨W.heap.size, 0, none⟩) 0 0).ownBlock ≠ some g := fun e => by
  have := h.1.lt
  injection e with e
  simp only at e
  omega
theorem d_sepB {N n m : Nat} {t : TypeId} {W : World} {v : Value} {xs : List Value} (h : W.ownsRow N t m v n xs) : v.ownBlock ≠ some W.heap.size := fun e => by
  have := (h.lt _ e).2
  omega
theorem d_sepC {N g : Nat} {W : World} {x : List UInt8} {y : Int} {v v' : Value} (h : DNew N W g x y) (hv : v.ownBlock ≠ some g) (hs : Sep W v v') : v'.ownBlock ≠ some g := fun e => by
  have := h.1.lt
  rcases hs g e with e2 | e2
  · exact hv e2
  · omega
theorem d_keep {N g : Nat} {W W' : World} {x : List UInt8} {y : Int} {v : Value} (h : DNew N W g x y) (hv : v.ownBlock ≠ some g) (hg : W.grownBy W' v.ownBlock) : DNew N W' g x y := ⟨h.1.grow' hg hv, h.2⟩
theorem d_old {N n m b : Nat} {t : TypeId} {W : World} {v : Value} {xs : List Value} (h : W.ownsRow N t m v n xs) (hb : b < N) : v.ownBlock ≠ some b := fun e => by
  have := (h.lt _ e).1
  omega
theorem d_grown {w1 W W' : World} {n m : Nat} {t : TypeId} {v : Value} {xs : List Value} (hb : Below w1.heap.size w1 W) (h : W.ownsRow w1.heap.size t m v n xs) (hg : W.grownBy W' v.ownBlock) : Below w1.heap.size w1 W' := hb.grown hg hb.size fun b hb => (h.lt b hb).1
theorem d_base {N M n m : Nat} {t : TypeId} {W : World} {v : Value} {xs : List Value} (h : W.ownsRow N t m v n xs) (hm : M ≤ N) : W.ownsRow M t m v n xs := by
  refine ⟨h.1, ?_⟩
  rcases h.2 with h0 | ⟨g, cap, cur, a1, a2, rest⟩
  · exact Or.inl h0
  · exact Or.inr ⟨g, cap, cur, a1, Nat.le_trans hm a2, rest⟩
theorem dplace_less (s : List UInt8) : ∀ (l : List Ent) (i : Nat) (h : i < l.length), i < dplace s l → Op.bytesLess l[i].1 s = true
  | [], i, h, _ => by cases h
  | e :: t, i, h, hi => by
    unfold dplace at hi
    by_cases h1 : Op.bytesLess e.1 s = true
    · rw [if_pos h1] at hi
      cases i with
      | zero => exact h1
      | succ i => exact dplace_less s t i (by simpa using h) (by omega)
    · rw [if_neg h1] at hi
      omega
theorem dplace_stop (s : List UInt8) : ∀ (l : List Ent) (h : dplace s l < l.length), Op.bytesLess l[dplace s l].1 s = false
  | [], h => by cases h
  | e :: t, h => by
    by_cases h1 : Op.bytesLess e.1 s = true
    · have hd : dplace s (e :: t) = dplace s t + 1 := by show (if _ then _ else _) = _; rw [if_pos h1]
      have h2 : dplace s t < t.length := by rw [hd] at h; simpa using h
      simp only [hd, List.getElem_cons_succ]
      exact dplace_stop s t h2
    · have hd : dplace s (e :: t) = 0 := by show (if _ then _ else _) = _; rw [if_neg h1]
      simp only [hd, List.getElem_cons_zero]
      exact Bool.eq_false_iff.2 h1
structure DChg (w wr : World) (A : Option Addr) (l : List Ent) (z x : List UInt8) (y : Int) : Prop where
  row : Reads wr wr.heap.size 2 A l.length (dcs efc l)
  box : Blk wr w.heap.size 96 #[.string ⟨z.toArray⟩, .string ⟨x.toArray⟩, .int .i64 y]
  below : Below w.heap.size w wr
theorem DChg.drewN {w wr : World} {A : Option Addr} {l : List Ent} {z x : List UInt8} {y : Int} (h : DChg w wr A l z x y) (k : Nat) : DChg w (wr.drewN k) A l z x y := ⟨h.row, h.box, below_drewN h.below k⟩
theorem DChg.next {w wr w2 : World} {A A' : Option Addr} {l l' : List Ent} {z x : List UInt8} {y : Int} (h : DChg w wr A l z x y) (hr : Reads w2 w2.heap.size 2 A' l'.length (dcs efc l')) (hb : Below wr.heap.size wr w2) : DChg w w2 A' l' z x y := ⟨hr, h.box.below hb h.box.lt, h.below.trans (hb.mono h.below.size)⟩
theorem dless_sub_len (l : List Ent) (s : List UInt8) : (dless l s).length ≤ l.length := by
  unfold dless
  split
  · exact Nat.le_refl _
  · exact dwout_len l s
section
variable (l : List Ent) (z x : List UInt8) (y : Int) (A : Option Addr) (n c : Nat) (w : World) (hl : l.length = n) (hn : n ≤ 1000000) (hc : n ≤ c) (hr : Reads w w.heap.size 2 A n (dcs efc l))
include hl hn hc hr
set_option maxRecDepth 100000 in
set_option maxHeartbeats 4000000 in
theorem dref_chgd_none : Calls Tryz.prog 64 #[.slice A n c, .agg #[.string ⟨z.toArray⟩, .string ⟨[].toArray⟩, .int .i64 y]] w fun e w' => DRow A efc 2 w w' e (dless l z) := by
  obtain ⟨x, hx⟩ : ∃ x : List UInt8, x = [] := ⟨_, rfl⟩
  rw [← hx]
  have hxe : x.isEmpty = true := by simp [hx]
  clear hx
  obtain ⟨i0, hi, hz0, hz1, hz9⟩ := info_parts ent_info
  have H0 : Hid (DChg w (w.alloc (.cells #[.string ⟨z.toArray⟩, .string ⟨x.toArray⟩, .int .i64 y] 96)) A l z x y) := Lib.hid ⟨dReads_on (by rw [hl]; exact hr) ((Below.refl _ _).alloc (Nat.le_refl _) _), Blk.new w _ _, (Below.refl _ _).alloc (Nat.le_refl _) _⟩
  have hw1 := Lib.hid fun W hr => dref_wout_any l z A n c W hl hn hr
  unfold DRow at hw1
  have HL := Lib.hid hl
  have hll : (dless l z).length ≤ 1000000 := by have := (dless_sub_len l z); omega
  have hD1 : Hid (z = [] → dless l z = l) := Lib.hid fun h => if_pos h
  have hD2 : Hid (z ≠ [] → dless l z = dwout l z) := Lib.hid fun h => if_neg h
  clear hr hl
  go_enter Tryz.func64, Tryz.ntmps64
  go_upto_if 8 with fail
  go_cut [0] (fun v wx => ∃ A' c', v = .slice A' (dless l z).length c' ∧ (dless l z).length ≤ c' ∧ Hid (DChg w wx A' (dless l z) z x y) ∧ Hid (AN w wx A A'))
  case first =>
    by_cases hz : z = []
    · have e := hD1.out hz
      have hze : z.isEmpty = true := by simp [hz]
      have hzf : (!z.isEmpty) = false := by simp [hz]
      have HE := Lib.hid e
      clear hw1 e hD1 hD2 hz
      simp only [hze, Bool.not_true]
      go_wp2_with fail
      go_meet
      case rel => exact ⟨A, c, by rw [HE.out, HL.out], by rw [HE.out, HL.out]; exact hc, Lib.hid (by rw [HE.out]; exact H0.out), Lib.hid (.inl rfl)⟩
    · have e := hD2.out hz
      have hze : z.isEmpty = false := by simp [hz]
      have hzf : (!z.isEmpty) = true := by simp [hz]
      have HE := Lib.hid e
      clear e hD1 hD2 hz
      generalize dwout l z = M at *
      simp only [hze, Bool.not_false]
      go_wp2_with (go_at_call 77; (with_reducible refine (hw1.out _ (by rw [← HL.out]; exact H0.out.row)).mono ?_); rintro e w1 ⟨A1, c1, rfl, hc1, hr1, hb1, hn1⟩; have HN1 := Lib.hid (AN.any (A0 := A) (hn1.mono H0.out.below.size (Nat.le_refl _))); have H1 := Lib.hid (H0.out.next hr1 hb1); clear hr1 hb1 hw1 hn1)
      go_meet
      case rel => exact ⟨A1, c1, by rw [HE.out], by rw [HE.out]; exact hc1, Lib.hid (by rw [HE.out]; exact H1.out), HN1⟩
  case rest =>
    obtain ⟨A1, c1, rfl, hc1, H1, HN1⟩ := hcut
    have x0 := H1.out.box.cell 0; have x1 := H1.out.box.cell 1; have x2 := H1.out.box.cell 2; simp only [List.getElem?_toArray, List.getElem?_cons_zero, List.getElem?_cons_succ] at x0 x1 x2
    clear hw1 hD1 hD2 HL H0
    go_wp2
    go_ret
    exact ⟨A1, c1, rfl, hc1, H1.out.row, H1.out.below, HN1.out⟩
set_option maxRecDepth 100000 in
set_option maxHeartbeats 8000000 in
theorem dref_chgd_end (hx : x ≠ []) (he : (dwout (dless l z) x).length ≤ dplace x (dwout (dless l z) x)) : Calls Tryz.prog 64 #[.slice A n c, .agg #[.string ⟨z.toArray⟩, .string ⟨x.toArray⟩, .int .i64 y]] w fun e w' => DRow A efc 2 w w' e (dins (dwout (dless l z) x) (x, y)) := by
  obtain ⟨i0, hi, hz0, hz1, hz9⟩ := info_parts ent_info
  have H0 : Hid (DChg w (w.alloc (.cells #[.string ⟨z.toArray⟩, .string ⟨x.toArray⟩, .int .i64 y] 96)) A l z x y) := Lib.hid ⟨dReads_on (by rw [hl]; exact hr) ((Below.refl _ _).alloc (Nat.le_refl _) _), Blk.new w _ _, (Below.refl _ _).alloc (Nat.le_refl _) _⟩
  have hw1 := Lib.hid fun W hr => dref_wout_any l z A n c W hl hn hr
  unfold DRow at hw1
  have HL := Lib.hid hl
  have hll : (dless l z).length ≤ 1000000 := by have := (dless_sub_len l z); omega
  have hD1 : Hid (z = [] → dless l z = l) := Lib.hid fun h => if_pos h
  have hD2 : Hid (z ≠ [] → dless l z = dwout l z) := Lib.hid fun h => if_neg h
  have hw2 := Lib.hid fun A c W hr => dref_wout_any (dless l z) x A (dless l z).length c W rfl hll hr
  unfold DRow at hw2
  have hl2 : (dwout (dless l z) x).length ≤ 1000000 := by have := dwout_len (dless l z) x; omega
  have Hls := Lib.hid fun i h hi => dplace_less x (dwout (dless l z) x) i h hi
  have Hst := Lib.hid fun h => dplace_stop x (dwout (dless l z) x) h
  have Hq := dplace_le x (dwout (dless l z) x)
  have HD : Hid (dins (dwout (dless l z) x) (x, y) = (([] ++ (dwout (dless l z) x).take (dplace x (dwout (dless l z) x))) ++ [((x, y) : Ent)]) ++ (dwout (dless l z) x).drop (dplace x (dwout (dless l z) x))) := Lib.hid (by unfold dins; simp)
  generalize dins (dwout (dless l z) x) (x, y) = DD at *
  clear hr hl
  go_enter Tryz.func64, Tryz.ntmps64
  go_upto_if 8 with fail
  go_cut [0] (fun v wx => ∃ A' c', v = .slice A' (dless l z).length c' ∧ (dless l z).length ≤ c' ∧ Hid (DChg w wx A' (dless l z) z x y) ∧ Hid (AN w wx A A'))
  case first =>
    by_cases hz : z = []
    · have e := hD1.out hz
      have hze : z.isEmpty = true := by simp [hz]
      have hzf : (!z.isEmpty) = false := by simp [hz]
      have HE := Lib.hid e
      clear hw1 e hD1 hD2 hz
      simp only [hze, Bool.not_true]
      go_wp2_with fail
      go_meet
      case rel => exact ⟨A, c, by rw [HE.out, HL.out], by rw [HE.out, HL.out]; exact hc, Lib.hid (by rw [HE.out]; exact H0.out), Lib.hid (.inl rfl)⟩
    · have e := hD2.out hz
      have hze : z.isEmpty = false := by simp [hz]
      have hzf : (!z.isEmpty) = true := by simp [hz]
      have HE := Lib.hid e
      clear e hD1 hD2 hz
      generalize dwout l z = M at *
      simp only [hze, Bool.not_false]
      go_wp2_with (go_at_call 77; (with_reducible refine (hw1.out _ (by rw [← HL.out]; exact H0.out.row)).mono ?_); rintro e w1 ⟨A1, c1, rfl, hc1, hr1, hb1, hn1⟩; have HN1 := Lib.hid (AN.any (A0 := A) (hn1.mono H0.out.below.size (Nat.le_refl _))); have H1 := Lib.hid (H0.out.next hr1 hb1); clear hr1 hb1 hw1 hn1)
      go_meet
      case rel => exact ⟨A1, c1, by rw [HE.out], by rw [HE.out]; exact hc1, Lib.hid (by rw [HE.out]; exact H1.out), HN1⟩
  case rest =>
    obtain ⟨A1, c1, rfl, hc1, H1, -⟩ := hcut
    have hxe : x.isEmpty = false := by simp [hx]
    have x0 := H1.out.box.cell 0; have x1 := H1.out.box.cell 1; have x2 := H1.out.box.cell 2; simp only [List.getElem?_toArray, List.getElem?_cons_zero, List.getElem?_cons_succ] at x0 x1 x2
    clear hw1 hD1 hD2 HL H0 hll
    generalize dless l z = M at *
    generalize hqe : dplace x (dwout M x) = q at *
    have HQ := Lib.hid hqe
    clear hqe
    generalize hLe : dwout M x = L2 at *
    have HLe := Lib.hid hLe
    clear hLe
    obtain ⟨n2, hn2⟩ : ∃ n2, L2.length = n2 := ⟨_, rfl⟩
    have HN2 := Lib.hid hn2
    rw [hn2] at he Hq hl2 hw2
    clear hn2
    go_wp2_with (go_at_call 77; (with_reducible refine (hw2.out _ _ _ H1.out.row).mono ?_); rintro e w2 ⟨Av, cv, rfl, hcv, hr2, hb2, -⟩; have H2 := Lib.hid (H1.out.next (l' := L2) (by rw [HN2.out]; exact hr2) hb2); clear hr2 hb2 hw2 x0 x1 x2 H1)
    go_loopw [5] (fun i wr => ∃ k : Nat, k ≤ q ∧ i = .int .i64 (k : Int) ∧ Hid (DChg w wr Av L2 z x y)) (fun i _ => n2 - (intOf i).toNat)
    case atStart => exact ⟨0, by omega, rfl, H2⟩
    case round =>
      obtain ⟨k, hk, rfl, HI⟩ := hrel
      have x0 := HI.out.box.cell 0; have x1 := HI.out.box.cell 1; have x2 := HI.out.box.cell 2; simp only [List.getElem?_toArray, List.getElem?_cons_zero, List.getElem?_cons_succ] at x0 x1 x2
      by_cases hkq : k < q
      · have hkl : k < L2.length := by rw [HN2.out]; omega
        have hkn : k < n2 := by omega
        obtain ⟨b, off, rfl, hb, hcell⟩ := ent_cells (n := n2) (by have := HI.out.row; rw [HN2.out] at this; exact this) HN2.out (by omega)
        obtain ⟨d0, d1⟩ := hcell k hkl
        have hls := Hls.out k hkl hkq
        have hki : (0 : Int) ≤ (k : Int) ∧ (k : Int) < (n2 : Int) := by omega
        have hd1 : decide ((k : Int) < (n2 : Int)) = true := decide_eq_true hki.2
        have hd2 : decide (k < n2) = true := decide_eq_true hkn
        clear hcell d1 Hls Hst
        generalize L2[k].1 = u at *
        go_wp2
        go_quiet (fail)
        go_wp2
        go_roundw
        case rel => exact ⟨k + 1, by omega, iv (by omega), Lib.hid (HI.out.drewN _)⟩
        case measure => simp only [intOf]; omega
      · obtain rfl : k = q := by omega
        have hki : ¬ (k : Int) < (n2 : Int) := by omega
        have hd1 : decide ((k : Int) < (n2 : Int)) = false := decide_eq_false hki
        have hd2 : decide (k < n2) = false := decide_eq_false (by omega)
        clear Hls Hst
        have htop := fun W => d_slice_top (P := Tryz.prog) Tryz.underlying30 hi hz1 Av n2 cv k (by omega) W
        have hfrom := fun W => run_slice_from (P := Tryz.prog) Tryz.underlying30 hi hz1 Av n2 cv k (by omega) W
        have hrd := HI.out.row
        rw [HN2.out] at hrd
        have hcutr := hrd.cut (k := k) (cap := cv) (by omega) (by omega)
        rw [← dcs_drop efc 2 efc_len L2 k (by rw [HN2.out]; omega)] at hcutr
        obtain ⟨A5, hA5⟩ : ∃ A5, (if cv = k then Av else Option.map (·.add (k * 2)) Av) = A5 := ⟨_, rfl⟩
        rw [hA5] at hcutr hfrom
        obtain ⟨c5, hc5⟩ : ∃ c5, cv - k = c5 := ⟨_, rfl⟩
        rw [hc5] at hfrom
        obtain ⟨d3, hd3⟩ : ∃ d3, n2 - k = d3 := ⟨_, rfl⟩
        rw [hd3] at hcutr hfrom
        have Hd3 := Lib.hid (show k + d3 = n2 by omega)
        clear hd3
        have hfr := hrd.top efc 2 efc_len HN2.out (k := k) (by omega)
        clear hA5 hc5 hrd
        go_wp2
        go_quiet (fail)
        obtain ⟨wl, hwl⟩ : ∃ wl, wr.drewN nq = wl := ⟨_, rfl⟩
        have HX : Hid (Blk wl w.heap.size 96 #[.string ⟨z.toArray⟩, .string ⟨x.toArray⟩, .int .i64 y]) := Lib.hid (by rw [← hwl]; exact (HI.out.drewN nq).box)
        have HG0 : Hid (Below w.heap.size w wl) := Lib.hid (by rw [← hwl]; exact (HI.out.drewN nq).below)
        have HW0 : w.heap.size < wl.heap.size := HX.out.lt
        have HR1 : Hid (∀ W, Below wl.heap.size wl W → Reads W _ 2 Av k (dcs efc (L2.take k))) := Lib.hid fun W h => Reads.below (w := wl) (by rw [← hwl]; exact hfr) h
        have HR2 : Hid (∀ W, Below wl.heap.size wl W → Reads W _ 2 A5 d3 (dcs efc (L2.drop k))) := Lib.hid fun W h => Reads.below (w := wl) (by rw [← hwl]; exact hcutr) h
        clear hfr hcutr HI x0 x1 x2
        rw [hwl]
        clear hwl
        have HBw : Hid (Below wl.heap.size wl wl.drew) := Lib.hid (Below.refl _ _).drew
        replace HX := Lib.hid HX.out.drew
        go_wp2
        refine wp_region_held_drew (S := (fun W => Blk W w.heap.size 96 #[.string ⟨z.toArray⟩, .string ⟨x.toArray⟩, .int .i64 y])) (by kernel_rfl) (HX.out) (fun hHeld => ?_)
        refine wpAnyH_take (i := 1) (oi := _) (v := ?_) rfl (by kernel_rfl) (by kernel_rfl) (by kernel_rfl) (fun _ _ _ h => h) (Or.inl ⟨by rfl, ?_⟩) hHeld ?_
        rotate_left
        · (intro wz hSw; go_simp; try (with_reducible rfl))
        (try dsimp only [List.getElem_toArray, List.getElem_cons_zero, List.getElem_cons_succ]); (try simp only [Act.put, List.setIfInBounds_toArray, List.set_cons_zero, List.set_cons_succ])
        refine wpAnyH_take (i := 2) (oi := _) (v := ?_) rfl (by kernel_rfl) (by kernel_rfl) (by kernel_rfl) (fun _ _ _ h => h) (Or.inl ⟨by rfl, ?_⟩) hHeld ?_
        rotate_left
        · (intro wz hSw; go_simp; try (with_reducible rfl))
        (try dsimp only [List.getElem_toArray, List.getElem_cons_zero, List.getElem_cons_succ]); (try simp only [Act.put, List.setIfInBounds_toArray, List.set_cons_zero, List.set_cons_succ])
        refine wpAnyH_take (i := 3) (oi := _) (v := ?_) rfl (by kernel_rfl) (by kernel_rfl) (by kernel_rfl) (fun _ _ _ h => h) (Or.inl ⟨by rfl, ?_⟩) hHeld ?_
        rotate_left
        · (intro wz hSw; go_simp; try (with_reducible rfl))
        (try dsimp only [List.getElem_toArray, List.getElem_cons_zero, List.getElem_cons_succ]); (try simp only [Act.put, List.setIfInBounds_toArray, List.set_cons_zero, List.set_cons_succ])
        refine wpAnyH_take (i := 5) (oi := _) (v := ?_) rfl (by kernel_rfl) (by kernel_rfl) (by kernel_rfl) (fun _ _ _ h => h) (Or.inl ⟨by rfl, ?_⟩) hHeld ?_
        rotate_left
        · (intro wz hSw; go_simp; try (with_reducible rfl))
        (try dsimp only [List.getElem_toArray, List.getElem_cons_zero, List.getElem_cons_succ]); (try simp only [Act.put, List.setIfInBounds_toArray, List.set_cons_zero, List.set_cons_succ])
        refine wpAnyH_take (i := 6) (oi := _) (v := ?_) rfl (by kernel_rfl) (by kernel_rfl) (by kernel_rfl) (fun _ _ _ h => h) (Or.inl ⟨by rfl, ?_⟩) hHeld ?_
        rotate_left
        · (intro wz hSw; have k0 := hSw.cell 1; have k1 := hSw.cell 2; simp only [List.getElem?_toArray, List.getElem?_cons_zero, List.getElem?_cons_succ] at k0 k1; go_simp; try (with_reducible rfl))
        (try dsimp only [List.getElem_toArray, List.getElem_cons_zero, List.getElem_cons_succ]); (try simp only [Act.put, List.setIfInBounds_toArray, List.set_cons_zero, List.set_cons_succ])
        refine wpAnyH_take (i := 9) (oi := _) (v := ?_) rfl (by kernel_rfl) (by kernel_rfl) (by kernel_rfl) (fun _ _ _ h => h) (Or.inl ⟨by rfl, ?_⟩) hHeld ?_
        rotate_left
        · (intro wz hSw; go_simp; try (with_reducible rfl))
        (try dsimp only [List.getElem_toArray, List.getElem_cons_zero, List.getElem_cons_succ]); (try simp only [Act.put, List.setIfInBounds_toArray, List.set_cons_zero, List.set_cons_succ])
        refine wpAnyH_take (i := 10) (oi := _) (v := ?_) rfl (by kernel_rfl) (by kernel_rfl) (by kernel_rfl) (fun _ _ _ h => h) (Or.inl ⟨by rfl, ?_⟩) hHeld ?_
        rotate_left
        · (intro wz hSw; go_simp; try (with_reducible rfl))
        (try dsimp only [List.getElem_toArray, List.getElem_cons_zero, List.getElem_cons_succ]); (try simp only [Act.put, List.setIfInBounds_toArray, List.set_cons_zero, List.set_cons_succ])
        refine wpAnyH_take (i := 11) (oi := _) (v := ?_) rfl (by kernel_rfl) (by kernel_rfl) (by kernel_rfl) (fun _ _ _ h => h) (Or.inl ⟨by rfl, ?_⟩) hHeld ?_
        rotate_left
        · (intro wz hSw; go_simp; try (with_reducible rfl))
        (try dsimp only [List.getElem_toArray, List.getElem_cons_zero, List.getElem_cons_succ]); (try simp only [Act.put, List.setIfInBounds_toArray, List.set_cons_zero, List.set_cons_succ])
        refine wpAnyH_ready (rs := [0, 7]) (by kernel_rfl) (by simp) ?_
        refine AllReadyH.cons (o := _) rfl (fun K hK => ?_) ?_
        · skip
          go_simp
          refine hK.out _ _ (hHeld.alloc _) (fun hH => ?_)
          clear hK K hHeld
          have hHeld := hH
          clear hH
          have HA := Lib.hid (d_empty _ HBw.out.size)
          try (have HS := Lib.hid (d_sepA HO.out (.cells #[] 94)))
          try (replace HO := Lib.hid (HO.out.alloc (.cells #[] 94)))
          replace HBw := Lib.hid (HBw.out.alloc HBw.out.size (.cells #[] 94)); replace HX := Lib.hid (HX.out.alloc (.cells #[] 94))
          try rw [World.size_alloc] at HA
          try rw [World.size_alloc] at HS
          (try dsimp only [List.getElem_toArray, List.getElem_cons_zero, List.getElem_cons_succ]); (try simp only [Act.put, List.setIfInBounds_toArray, List.set_cons_zero, List.set_cons_succ])
          refine wpAnyH_ready (rs := [4, 7]) (by kernel_rfl) (by simp) ?_
          refine AllReadyH.cons (o := _) rfl (fun K hK => ?_) ?_
          · skip
            refine lstep_append (by rfl) (.tmp 40) (.tmp 43) 30 (by rfl) wl.heap.size 94 i0 (.agg #[.string ⟨#[]⟩, .int .i64 0]) 2 24 Tryz.underlying30 hi hz0 hz1 hz9 rfl (by decide) _ 0 (dcs efc ([])) (by rfl) HA.out Av k cv _ (dcs efc (L2.take k)) (by rfl) (HR1.out _ HBw.out) (efc_cell _) (by have := Hd3.out; unfold maxLen; omega) (by have := Hd3.out; omega) HBw.out.size (k) (Nat.zero_add k) ?_
            intro A_HA1 c_HA1 w_HA1 ho_ hg_ hs_
            refine hK.out _ _ (hHeld.grow' hg_ (d_old HA.out HW0)) (fun hH => ?_)
            clear hK K hHeld
            have hHeld := hH
            clear hH
            try (have HS2 := Lib.hid (d_sepC HO.out HS.out hs_))
            try (replace HO := Lib.hid (d_keep HO.out HS.out hg_))
            try (replace HS := HS2)
            have HA1 : Hid (w_HA1.ownsRow wl.heap.size 94 2 (.slice A_HA1 (k) c_HA1) (k) (dcs efc (([]) ++ (L2.take k)))) := Lib.hid (by rw [dcs_app]; exact ho_)
            replace HX := Lib.hid (HX.out.grow' hg_ (d_old HA.out HW0))
            replace HBw := Lib.hid (d_grown HBw.out HA.out hg_)
            clear ho_ hg_ hs_
            (try dsimp only [List.getElem_toArray, List.getElem_cons_zero, List.getElem_cons_succ]); (try simp only [Act.put, List.setIfInBounds_toArray, List.set_cons_zero, List.set_cons_succ])
            refine wpAnyH_ready (rs := [7]) (by kernel_rfl) (by simp) ?_
            refine AllReadyH.cons (o := _) rfl (fun K hK => ?_) AllReadyH.nil
            go_simp
            refine hK.out _ _ (hHeld.alloc _) (fun hH => ?_)
            clear hK K hHeld
            have hHeld := hH
            clear hH
            have HO := Lib.hid (d_new _ x y HBw.out.size)
            try (have HS := Lib.hid (d_sepB HA.out))
            try (have HS := Lib.hid (d_sepB HA1.out))
            try (replace HA := Lib.hid (HA.out.alloc (.cells #[.string ⟨x.toArray⟩, .int .i64 y] 94)))
            try (replace HA1 := Lib.hid (HA1.out.alloc (.cells #[.string ⟨x.toArray⟩, .int .i64 y] 94)))
            replace HBw := Lib.hid (HBw.out.alloc HBw.out.size (.cells #[.string ⟨x.toArray⟩, .int .i64 y] 94)); replace HX := Lib.hid (HX.out.alloc (.cells #[.string ⟨x.toArray⟩, .int .i64 y] 94))
            try rw [World.size_alloc] at HO
            try rw [World.size_alloc] at HS
            (try dsimp only [List.getElem_toArray, List.getElem_cons_zero, List.getElem_cons_succ]); (try simp only [Act.put, List.setIfInBounds_toArray, List.set_cons_zero, List.set_cons_succ])
            refine wpAnyH_ready (rs := [8]) (by kernel_rfl) (by simp) ?_
            refine AllReadyH.cons (o := _) rfl (fun K hK => ?_) AllReadyH.nil
            refine lstep_append (by rfl) (.tmp 44) (.tmp 47) 30 (by rfl) wl.heap.size 94 i0 (.agg #[.string ⟨#[]⟩, .int .i64 0]) 2 24 Tryz.underlying30 hi hz0 hz1 hz9 rfl (by decide) _ k (dcs efc ([] ++ L2.take k)) (by rfl) HA1.out _ 1 1 _ (dcs efc ([((x, y) : Ent)])) (by rfl) (d_reads HO.out) (efc_cell _) (by have := Hd3.out; unfold maxLen; omega) (by have := Hd3.out; omega) HBw.out.size (k + 1) rfl ?_
            intro A_HA2 c_HA2 w_HA2 ho_ hg_ hs_
            refine hK.out _ _ (hHeld.grow' hg_ (d_old HA1.out HW0)) (fun hH => ?_)
            clear hK K hHeld
            have hHeld := hH
            clear hH
            have HA2 : Hid (w_HA2.ownsRow wl.heap.size 94 2 (.slice A_HA2 (k + 1) c_HA2) (k + 1) (dcs efc (([] ++ L2.take k) ++ ([((x, y) : Ent)])))) := Lib.hid (by rw [dcs_app]; exact ho_)
            replace HX := Lib.hid (HX.out.grow' hg_ (d_old HA1.out HW0))
            replace HBw := Lib.hid (d_grown HBw.out HA1.out hg_)
            clear ho_ hg_ hs_
            (try dsimp only [List.getElem_toArray, List.getElem_cons_zero, List.getElem_cons_succ]); (try simp only [Act.put, List.setIfInBounds_toArray, List.set_cons_zero, List.set_cons_succ])
            refine wpAnyH_ready (rs := [12]) (by kernel_rfl) (by simp) ?_
            refine AllReadyH.cons (o := _) rfl (fun K hK => ?_) AllReadyH.nil
            refine lstep_append (by rfl) (.tmp 48) (.tmp 51) 30 (by rfl) wl.heap.size 94 i0 (.agg #[.string ⟨#[]⟩, .int .i64 0]) 2 24 Tryz.underlying30 hi hz0 hz1 hz9 rfl (by decide) _ (k + 1) (dcs efc (([] ++ L2.take k) ++ [((x, y) : Ent)])) (by rfl) HA2.out A5 d3 c5 _ (dcs efc (L2.drop k)) (by rfl) (HR2.out _ HBw.out) (efc_cell _) (by have := Hd3.out; unfold maxLen; omega) (by have := Hd3.out; omega) HBw.out.size (n2 + 1) (by have := Hd3.out; omega) ?_
            intro A_HA3 c_HA3 w_HA3 ho_ hg_ hs_
            refine hK.out _ _ (hHeld.grow' hg_ (d_old HA2.out HW0)) (fun hH => ?_)
            clear hK K hHeld
            have hHeld := hH
            clear hH
            have HA3 : Hid (w_HA3.ownsRow wl.heap.size 94 2 (.slice A_HA3 (n2 + 1) c_HA3) (n2 + 1) (dcs efc ((([] ++ L2.take k) ++ [((x, y) : Ent)]) ++ (L2.drop k)))) := Lib.hid (by rw [dcs_app]; exact ho_)
            replace HX := Lib.hid (HX.out.grow' hg_ (d_old HA2.out HW0))
            replace HBw := Lib.hid (d_grown HBw.out HA2.out hg_)
            clear ho_ hg_ hs_
            (try dsimp only [List.getElem_toArray, List.getElem_cons_zero, List.getElem_cons_succ]); (try simp only [Act.put, List.setIfInBounds_toArray, List.set_cons_zero, List.set_cons_succ])
            refine wpAnyH_take (i := 13) (oi := _) (v := ?_) rfl (by kernel_rfl) (by kernel_rfl) (by kernel_rfl) (fun _ _ _ h => h) (Or.inl ⟨by rfl, ?_⟩) hHeld ?_
            rotate_left
            · (intro wz hSw; go_simp; try (with_reducible rfl))
            (try dsimp only [List.getElem_toArray, List.getElem_cons_zero, List.getElem_cons_succ]); (try simp only [Act.put, List.setIfInBounds_toArray, List.set_cons_zero, List.set_cons_succ])
            refine wpAnyH_done (by kernel_rfl) ?_ _
            have HF : Hid (w_HA3.ownsRow w.heap.size 94 2 (.slice A_HA3 (n2 + 1) c_HA3) (n2 + 1) (dcs efc ((([] ++ L2.take k) ++ [((x, y) : Ent)]) ++ L2.drop k))) := Lib.hid (d_base HA3.out HG0.out.size)
            have HG := Lib.hid (HG0.out.trans (HBw.out.mono HG0.out.size))
            clear hHeld
            go_wp2
            go_ret
            have hAN : AN w w_HA3 none A_HA3 := owns_new HF.out (Nat.le_refl _)
            obtain ⟨A6, c6, h6, hc6, hr6⟩ := owns_cells HF.out
            injection h6 with h6 h7 h8
            subst h6
            subst h8
            have hlen : ((([] ++ L2.take k) ++ [((x, y) : Ent)]) ++ L2.drop k).length = n2 + 1 := by simp only [List.nil_append, List.length_append, List.length_take, List.length_singleton, List.length_drop, HN2.out]; omega
            rw [HD.out]
            refine ⟨_, _, ?_, by rw [hlen]; exact hc6, by rw [hlen]; exact hr6, HG.out, hAN.any⟩
            rw [hlen]
            rfl
          refine AllReadyH.cons (o := _) rfl (fun K hK => ?_) AllReadyH.nil
          go_simp
          refine hK.out _ _ (hHeld.alloc _) (fun hH => ?_)
          clear hK K hHeld
          have hHeld := hH
          clear hH
          have HO := Lib.hid (d_new _ x y HBw.out.size)
          try (have HS := Lib.hid (d_sepB HA.out))
          try (have HS := Lib.hid (d_sepB HA1.out))
          try (replace HA := Lib.hid (HA.out.alloc (.cells #[.string ⟨x.toArray⟩, .int .i64 y] 94)))
          try (replace HA1 := Lib.hid (HA1.out.alloc (.cells #[.string ⟨x.toArray⟩, .int .i64 y] 94)))
          replace HBw := Lib.hid (HBw.out.alloc HBw.out.size (.cells #[.string ⟨x.toArray⟩, .int .i64 y] 94)); replace HX := Lib.hid (HX.out.alloc (.cells #[.string ⟨x.toArray⟩, .int .i64 y] 94))
          try rw [World.size_alloc] at HO
          try rw [World.size_alloc] at HS
          (try dsimp only [List.getElem_toArray, List.getElem_cons_zero, List.getElem_cons_succ]); (try simp only [Act.put, List.setIfInBounds_toArray, List.set_cons_zero, List.set_cons_succ])
          refine wpAnyH_ready (rs := [4]) (by kernel_rfl) (by simp) ?_
          refine AllReadyH.cons (o := _) rfl (fun K hK => ?_) AllReadyH.nil
          refine lstep_append (by rfl) (.tmp 40) (.tmp 43) 30 (by rfl) wl.heap.size 94 i0 (.agg #[.string ⟨#[]⟩, .int .i64 0]) 2 24 Tryz.underlying30 hi hz0 hz1 hz9 rfl (by decide) _ 0 (dcs efc ([])) (by rfl) HA.out Av k cv _ (dcs efc (L2.take k)) (by rfl) (HR1.out _ HBw.out) (efc_cell _) (by have := Hd3.out; unfold maxLen; omega) (by have := Hd3.out; omega) HBw.out.size (k) (Nat.zero_add k) ?_
          intro A_HA1 c_HA1 w_HA1 ho_ hg_ hs_
          refine hK.out _ _ (hHeld.grow' hg_ (d_old HA.out HW0)) (fun hH => ?_)
          clear hK K hHeld
          have hHeld := hH
          clear hH
          try (have HS2 := Lib.hid (d_sepC HO.out HS.out hs_))
          try (replace HO := Lib.hid (d_keep HO.out HS.out hg_))
          try (replace HS := HS2)
          have HA1 : Hid (w_HA1.ownsRow wl.heap.size 94 2 (.slice A_HA1 (k) c_HA1) (k) (dcs efc (([]) ++ (L2.take k)))) := Lib.hid (by rw [dcs_app]; exact ho_)
          replace HX := Lib.hid (HX.out.grow' hg_ (d_old HA.out HW0))
          replace HBw := Lib.hid (d_grown HBw.out HA.out hg_)
          clear ho_ hg_ hs_
          (try dsimp only [List.getElem_toArray, List.getElem_cons_zero, List.getElem_cons_succ]); (try simp only [Act.put, List.setIfInBounds_toArray, List.set_cons_zero, List.set_cons_succ])
          refine wpAnyH_ready (rs := [8]) (by kernel_rfl) (by simp) ?_
          refine AllReadyH.cons (o := _) rfl (fun K hK => ?_) AllReadyH.nil
          refine lstep_append (by rfl) (.tmp 44) (.tmp 47) 30 (by rfl) wl.heap.size 94 i0 (.agg #[.string ⟨#[]⟩, .int .i64 0]) 2 24 Tryz.underlying30 hi hz0 hz1 hz9 rfl (by decide) _ k (dcs efc ([] ++ L2.take k)) (by rfl) HA1.out _ 1 1 _ (dcs efc ([((x, y) : Ent)])) (by rfl) (d_reads HO.out) (efc_cell _) (by have := Hd3.out; unfold maxLen; omega) (by have := Hd3.out; omega) HBw.out.size (k + 1) rfl ?_
          intro A_HA2 c_HA2 w_HA2 ho_ hg_ hs_
          refine hK.out _ _ (hHeld.grow' hg_ (d_old HA1.out HW0)) (fun hH => ?_)
          clear hK K hHeld
          have hHeld := hH
          clear hH
          have HA2 : Hid (w_HA2.ownsRow wl.heap.size 94 2 (.slice A_HA2 (k + 1) c_HA2) (k + 1) (dcs efc (([] ++ L2.take k) ++ ([((x, y) : Ent)])))) := Lib.hid (by rw [dcs_app]; exact ho_)
          replace HX := Lib.hid (HX.out.grow' hg_ (d_old HA1.out HW0))
          replace HBw := Lib.hid (d_grown HBw.out HA1.out hg_)
          clear ho_ hg_ hs_
          (try dsimp only [List.getElem_toArray, List.getElem_cons_zero, List.getElem_cons_succ]); (try simp only [Act.put, List.setIfInBounds_toArray, List.set_cons_zero, List.set_cons_succ])
          refine wpAnyH_ready (rs := [12]) (by kernel_rfl) (by simp) ?_
          refine AllReadyH.cons (o := _) rfl (fun K hK => ?_) AllReadyH.nil
          refine lstep_append (by rfl) (.tmp 48) (.tmp 51) 30 (by rfl) wl.heap.size 94 i0 (.agg #[.string ⟨#[]⟩, .int .i64 0]) 2 24 Tryz.underlying30 hi hz0 hz1 hz9 rfl (by decide) _ (k + 1) (dcs efc (([] ++ L2.take k) ++ [((x, y) : Ent)])) (by rfl) HA2.out A5 d3 c5 _ (dcs efc (L2.drop k)) (by rfl) (HR2.out _ HBw.out) (efc_cell _) (by have := Hd3.out; unfold maxLen; omega) (by have := Hd3.out; omega) HBw.out.size (n2 + 1) (by have := Hd3.out; omega) ?_
          intro A_HA3 c_HA3 w_HA3 ho_ hg_ hs_
          refine hK.out _ _ (hHeld.grow' hg_ (d_old HA2.out HW0)) (fun hH => ?_)
          clear hK K hHeld
          have hHeld := hH
          clear hH
          have HA3 : Hid (w_HA3.ownsRow wl.heap.size 94 2 (.slice A_HA3 (n2 + 1) c_HA3) (n2 + 1) (dcs efc ((([] ++ L2.take k) ++ [((x, y) : Ent)]) ++ (L2.drop k)))) := Lib.hid (by rw [dcs_app]; exact ho_)
          replace HX := Lib.hid (HX.out.grow' hg_ (d_old HA2.out HW0))
          replace HBw := Lib.hid (d_grown HBw.out HA2.out hg_)
          clear ho_ hg_ hs_
          (try dsimp only [List.getElem_toArray, List.getElem_cons_zero, List.getElem_cons_succ]); (try simp only [Act.put, List.setIfInBounds_toArray, List.set_cons_zero, List.set_cons_succ])
          refine wpAnyH_take (i := 13) (oi := _) (v := ?_) rfl (by kernel_rfl) (by kernel_rfl) (by kernel_rfl) (fun _ _ _ h => h) (Or.inl ⟨by rfl, ?_⟩) hHeld ?_
          rotate_left
          · (intro wz hSw; go_simp; try (with_reducible rfl))
          (try dsimp only [List.getElem_toArray, List.getElem_cons_zero, List.getElem_cons_succ]); (try simp only [Act.put, List.setIfInBounds_toArray, List.set_cons_zero, List.set_cons_succ])
          refine wpAnyH_done (by kernel_rfl) ?_ _
          have HF : Hid (w_HA3.ownsRow w.heap.size 94 2 (.slice A_HA3 (n2 + 1) c_HA3) (n2 + 1) (dcs efc ((([] ++ L2.take k) ++ [((x, y) : Ent)]) ++ L2.drop k))) := Lib.hid (d_base HA3.out HG0.out.size)
          have HG := Lib.hid (HG0.out.trans (HBw.out.mono HG0.out.size))
          clear hHeld
          go_wp2
          go_ret
          have hAN : AN w w_HA3 none A_HA3 := owns_new HF.out (Nat.le_refl _)
          obtain ⟨A6, c6, h6, hc6, hr6⟩ := owns_cells HF.out
          injection h6 with h6 h7 h8
          subst h6
          subst h8
          have hlen : ((([] ++ L2.take k) ++ [((x, y) : Ent)]) ++ L2.drop k).length = n2 + 1 := by simp only [List.nil_append, List.length_append, List.length_take, List.length_singleton, List.length_drop, HN2.out]; omega
          rw [HD.out]
          refine ⟨_, _, ?_, by rw [hlen]; exact hc6, by rw [hlen]; exact hr6, HG.out, hAN.any⟩
          rw [hlen]
          rfl
        refine AllReadyH.cons (o := _) rfl (fun K hK => ?_) AllReadyH.nil
        go_simp
        refine hK.out _ _ (hHeld.alloc _) (fun hH => ?_)
        clear hK K hHeld
        have hHeld := hH
        clear hH
        have HO := Lib.hid (d_new _ x y HBw.out.size)
        try (have HS := Lib.hid (d_sepB HA.out))
        try (have HS := Lib.hid (d_sepB HA1.out))
        try (replace HA := Lib.hid (HA.out.alloc (.cells #[.string ⟨x.toArray⟩, .int .i64 y] 94)))
        try (replace HA1 := Lib.hid (HA1.out.alloc (.cells #[.string ⟨x.toArray⟩, .int .i64 y] 94)))
        replace HBw := Lib.hid (HBw.out.alloc HBw.out.size (.cells #[.string ⟨x.toArray⟩, .int .i64 y] 94)); replace HX := Lib.hid (HX.out.alloc (.cells #[.string ⟨x.toArray⟩, .int .i64 y] 94))
        try rw [World.size_alloc] at HO
        try rw [World.size_alloc] at HS
        (try dsimp only [List.getElem_toArray, List.getElem_cons_zero, List.getElem_cons_succ]); (try simp only [Act.put, List.setIfInBounds_toArray, List.set_cons_zero, List.set_cons_succ])
        refine wpAnyH_ready (rs := [0]) (by kernel_rfl) (by simp) ?_
        refine AllReadyH.cons (o := _) rfl (fun K hK => ?_) AllReadyH.nil
        go_simp
        refine hK.out _ _ (hHeld.alloc _) (fun hH => ?_)
        clear hK K hHeld
        have hHeld := hH
        clear hH
        have HA := Lib.hid (d_empty _ HBw.out.size)
        try (have HS := Lib.hid (d_sepA HO.out (.cells #[] 94)))
        try (replace HO := Lib.hid (HO.out.alloc (.cells #[] 94)))
        replace HBw := Lib.hid (HBw.out.alloc HBw.out.size (.cells #[] 94)); replace HX := Lib.hid (HX.out.alloc (.cells #[] 94))
        try rw [World.size_alloc] at HA
        try rw [World.size_alloc] at HS
        (try dsimp only [List.getElem_toArray, List.getElem_cons_zero, List.getElem_cons_succ]); (try simp only [Act.put, List.setIfInBounds_toArray, List.set_cons_zero, List.set_cons_succ])
        refine wpAnyH_ready (rs := [4]) (by kernel_rfl) (by simp) ?_
        refine AllReadyH.cons (o := _) rfl (fun K hK => ?_) AllReadyH.nil
        refine lstep_append (by rfl) (.tmp 40) (.tmp 43) 30 (by rfl) wl.heap.size 94 i0 (.agg #[.string ⟨#[]⟩, .int .i64 0]) 2 24 Tryz.underlying30 hi hz0 hz1 hz9 rfl (by decide) _ 0 (dcs efc ([])) (by rfl) HA.out Av k cv _ (dcs efc (L2.take k)) (by rfl) (HR1.out _ HBw.out) (efc_cell _) (by have := Hd3.out; unfold maxLen; omega) (by have := Hd3.out; omega) HBw.out.size (k) (Nat.zero_add k) ?_
        intro A_HA1 c_HA1 w_HA1 ho_ hg_ hs_
        refine hK.out _ _ (hHeld.grow' hg_ (d_old HA.out HW0)) (fun hH => ?_)
        clear hK K hHeld
        have hHeld := hH
        clear hH
        try (have HS2 := Lib.hid (d_sepC HO.out HS.out hs_))
        try (replace HO := Lib.hid (d_keep HO.out HS.out hg_))
        try (replace HS := HS2)
        have HA1 : Hid (w_HA1.ownsRow wl.heap.size 94 2 (.slice A_HA1 (k) c_HA1) (k) (dcs efc (([]) ++ (L2.take k)))) := Lib.hid (by rw [dcs_app]; exact ho_)
        replace HX := Lib.hid (HX.out.grow' hg_ (d_old HA.out HW0))
        replace HBw := Lib.hid (d_grown HBw.out HA.out hg_)
        clear ho_ hg_ hs_
        (try dsimp only [List.getElem_toArray, List.getElem_cons_zero, List.getElem_cons_succ]); (try simp only [Act.put, List.setIfInBounds_toArray, List.set_cons_zero, List.set_cons_succ])
        refine wpAnyH_ready (rs := [8]) (by kernel_rfl) (by simp) ?_
        refine AllReadyH.cons (o := _) rfl (fun K hK => ?_) AllReadyH.nil
        refine lstep_append (by rfl) (.tmp 44) (.tmp 47) 30 (by rfl) wl.heap.size 94 i0 (.agg #[.string ⟨#[]⟩, .int .i64 0]) 2 24 Tryz.underlying30 hi hz0 hz1 hz9 rfl (by decide) _ k (dcs efc ([] ++ L2.take k)) (by rfl) HA1.out _ 1 1 _ (dcs efc ([((x, y) : Ent)])) (by rfl) (d_reads HO.out) (efc_cell _) (by have := Hd3.out; unfold maxLen; omega) (by have := Hd3.out; omega) HBw.out.size (k + 1) rfl ?_
        intro A_HA2 c_HA2 w_HA2 ho_ hg_ hs_
        refine hK.out _ _ (hHeld.grow' hg_ (d_old HA1.out HW0)) (fun hH => ?_)
        clear hK K hHeld
        have hHeld := hH
        clear hH
        have HA2 : Hid (w_HA2.ownsRow wl.heap.size 94 2 (.slice A_HA2 (k + 1) c_HA2) (k + 1) (dcs efc (([] ++ L2.take k) ++ ([((x, y) : Ent)])))) := Lib.hid (by rw [dcs_app]; exact ho_)
        replace HX := Lib.hid (HX.out.grow' hg_ (d_old HA1.out HW0))
        replace HBw := Lib.hid (d_grown HBw.out HA1.out hg_)
        clear ho_ hg_ hs_
        (try dsimp only [List.getElem_toArray, List.getElem_cons_zero, List.getElem_cons_succ]); (try simp only [Act.put, List.setIfInBounds_toArray, List.set_cons_zero, List.set_cons_succ])
        refine wpAnyH_ready (rs := [12]) (by kernel_rfl) (by simp) ?_
        refine AllReadyH.cons (o := _) rfl (fun K hK => ?_) AllReadyH.nil
        refine lstep_append (by rfl) (.tmp 48) (.tmp 51) 30 (by rfl) wl.heap.size 94 i0 (.agg #[.string ⟨#[]⟩, .int .i64 0]) 2 24 Tryz.underlying30 hi hz0 hz1 hz9 rfl (by decide) _ (k + 1) (dcs efc (([] ++ L2.take k) ++ [((x, y) : Ent)])) (by rfl) HA2.out A5 d3 c5 _ (dcs efc (L2.drop k)) (by rfl) (HR2.out _ HBw.out) (efc_cell _) (by have := Hd3.out; unfold maxLen; omega) (by have := Hd3.out; omega) HBw.out.size (n2 + 1) (by have := Hd3.out; omega) ?_
        intro A_HA3 c_HA3 w_HA3 ho_ hg_ hs_
        refine hK.out _ _ (hHeld.grow' hg_ (d_old HA2.out HW0)) (fun hH => ?_)
        clear hK K hHeld
        have hHeld := hH
        clear hH
        have HA3 : Hid (w_HA3.ownsRow wl.heap.size 94 2 (.slice A_HA3 (n2 + 1) c_HA3) (n2 + 1) (dcs efc ((([] ++ L2.take k) ++ [((x, y) : Ent)]) ++ (L2.drop k)))) := Lib.hid (by rw [dcs_app]; exact ho_)
        replace HX := Lib.hid (HX.out.grow' hg_ (d_old HA2.out HW0))
        replace HBw := Lib.hid (d_grown HBw.out HA2.out hg_)
        clear ho_ hg_ hs_
        (try dsimp only [List.getElem_toArray, List.getElem_cons_zero, List.getElem_cons_succ]); (try simp only [Act.put, List.setIfInBounds_toArray, List.set_cons_zero, List.set_cons_succ])
        refine wpAnyH_take (i := 13) (oi := _) (v := ?_) rfl (by kernel_rfl) (by kernel_rfl) (by kernel_rfl) (fun _ _ _ h => h) (Or.inl ⟨by rfl, ?_⟩) hHeld ?_
        rotate_left
        · (intro wz hSw; go_simp; try (with_reducible rfl))
        (try dsimp only [List.getElem_toArray, List.getElem_cons_zero, List.getElem_cons_succ]); (try simp only [Act.put, List.setIfInBounds_toArray, List.set_cons_zero, List.set_cons_succ])
        refine wpAnyH_done (by kernel_rfl) ?_ _
        have HF : Hid (w_HA3.ownsRow w.heap.size 94 2 (.slice A_HA3 (n2 + 1) c_HA3) (n2 + 1) (dcs efc ((([] ++ L2.take k) ++ [((x, y) : Ent)]) ++ L2.drop k))) := Lib.hid (d_base HA3.out HG0.out.size)
        have HG := Lib.hid (HG0.out.trans (HBw.out.mono HG0.out.size))
        clear hHeld
        go_wp2
        go_ret
        have hAN : AN w w_HA3 none A_HA3 := owns_new HF.out (Nat.le_refl _)
        obtain ⟨A6, c6, h6, hc6, hr6⟩ := owns_cells HF.out
        injection h6 with h6 h7 h8
        subst h6
        subst h8
        have hlen : ((([] ++ L2.take k) ++ [((x, y) : Ent)]) ++ L2.drop k).length = n2 + 1 := by simp only [List.nil_append, List.length_append, List.length_take, List.length_singleton, List.length_drop, HN2.out]; omega
        rw [HD.out]
        refine ⟨_, _, ?_, by rw [hlen]; exact hc6, by rw [hlen]; exact hr6, HG.out, hAN.any⟩
        rw [hlen]
        rfl
set_option maxRecDepth 100000 in
set_option maxHeartbeats 8000000 in
theorem dref_chgd_mid (hx : x ≠ []) (he : dplace x (dwout (dless l z) x) < (dwout (dless l z) x).length) : Calls Tryz.prog 64 #[.slice A n c, .agg #[.string ⟨z.toArray⟩, .string ⟨x.toArray⟩, .int .i64 y]] w fun e w' => DRow A efc 2 w w' e (dins (dwout (dless l z) x) (x, y)) := by
  obtain ⟨i0, hi, hz0, hz1, hz9⟩ := info_parts ent_info
  have H0 : Hid (DChg w (w.alloc (.cells #[.string ⟨z.toArray⟩, .string ⟨x.toArray⟩, .int .i64 y] 96)) A l z x y) := Lib.hid ⟨dReads_on (by rw [hl]; exact hr) ((Below.refl _ _).alloc (Nat.le_refl _) _), Blk.new w _ _, (Below.refl _ _).alloc (Nat.le_refl _) _⟩
  have hw1 := Lib.hid fun W hr => dref_wout_any l z A n c W hl hn hr
  unfold DRow at hw1
  have HL := Lib.hid hl
  have hll : (dless l z).length ≤ 1000000 := by have := (dless_sub_len l z); omega
  have hD1 : Hid (z = [] → dless l z = l) := Lib.hid fun h => if_pos h
  have hD2 : Hid (z ≠ [] → dless l z = dwout l z) := Lib.hid fun h => if_neg h
  have hw2 := Lib.hid fun A c W hr => dref_wout_any (dless l z) x A (dless l z).length c W rfl hll hr
  unfold DRow at hw2
  have hl2 : (dwout (dless l z) x).length ≤ 1000000 := by have := dwout_len (dless l z) x; omega
  have Hls := Lib.hid fun i h hi => dplace_less x (dwout (dless l z) x) i h hi
  have Hst := Lib.hid fun h => dplace_stop x (dwout (dless l z) x) h
  have Hq := dplace_le x (dwout (dless l z) x)
  have HD : Hid (dins (dwout (dless l z) x) (x, y) = (([] ++ (dwout (dless l z) x).take (dplace x (dwout (dless l z) x))) ++ [((x, y) : Ent)]) ++ (dwout (dless l z) x).drop (dplace x (dwout (dless l z) x))) := Lib.hid (by unfold dins; simp)
  generalize dins (dwout (dless l z) x) (x, y) = DD at *
  clear hr hl
  go_enter Tryz.func64, Tryz.ntmps64
  go_upto_if 8 with fail
  go_cut [0] (fun v wx => ∃ A' c', v = .slice A' (dless l z).length c' ∧ (dless l z).length ≤ c' ∧ Hid (DChg w wx A' (dless l z) z x y) ∧ Hid (AN w wx A A'))
  case first =>
    by_cases hz : z = []
    · have e := hD1.out hz
      have hze : z.isEmpty = true := by simp [hz]
      have hzf : (!z.isEmpty) = false := by simp [hz]
      have HE := Lib.hid e
      clear hw1 e hD1 hD2 hz
      simp only [hze, Bool.not_true]
      go_wp2_with fail
      go_meet
      case rel => exact ⟨A, c, by rw [HE.out, HL.out], by rw [HE.out, HL.out]; exact hc, Lib.hid (by rw [HE.out]; exact H0.out), Lib.hid (.inl rfl)⟩
    · have e := hD2.out hz
      have hze : z.isEmpty = false := by simp [hz]
      have hzf : (!z.isEmpty) = true := by simp [hz]
      have HE := Lib.hid e
      clear e hD1 hD2 hz
      generalize dwout l z = M at *
      simp only [hze, Bool.not_false]
      go_wp2_with (go_at_call 77; (with_reducible refine (hw1.out _ (by rw [← HL.out]; exact H0.out.row)).mono ?_); rintro e w1 ⟨A1, c1, rfl, hc1, hr1, hb1, hn1⟩; have HN1 := Lib.hid (AN.any (A0 := A) (hn1.mono H0.out.below.size (Nat.le_refl _))); have H1 := Lib.hid (H0.out.next hr1 hb1); clear hr1 hb1 hw1 hn1)
      go_meet
      case rel => exact ⟨A1, c1, by rw [HE.out], by rw [HE.out]; exact hc1, Lib.hid (by rw [HE.out]; exact H1.out), HN1⟩
  case rest =>
    obtain ⟨A1, c1, rfl, hc1, H1, -⟩ := hcut
    have hxe : x.isEmpty = false := by simp [hx]
    have x0 := H1.out.box.cell 0; have x1 := H1.out.box.cell 1; have x2 := H1.out.box.cell 2; simp only [List.getElem?_toArray, List.getElem?_cons_zero, List.getElem?_cons_succ] at x0 x1 x2
    clear hw1 hD1 hD2 HL H0 hll
    generalize dless l z = M at *
    generalize hqe : dplace x (dwout M x) = q at *
    have HQ := Lib.hid hqe
    clear hqe
    generalize hLe : dwout M x = L2 at *
    have HLe := Lib.hid hLe
    clear hLe
    obtain ⟨n2, hn2⟩ : ∃ n2, L2.length = n2 := ⟨_, rfl⟩
    have HN2 := Lib.hid hn2
    rw [hn2] at he Hq hl2 hw2
    clear hn2
    go_wp2_with (go_at_call 77; (with_reducible refine (hw2.out _ _ _ H1.out.row).mono ?_); rintro e w2 ⟨Av, cv, rfl, hcv, hr2, hb2, -⟩; have H2 := Lib.hid (H1.out.next (l' := L2) (by rw [HN2.out]; exact hr2) hb2); clear hr2 hb2 hw2 x0 x1 x2 H1)
    go_loopw [5] (fun i wr => ∃ k : Nat, k ≤ q ∧ i = .int .i64 (k : Int) ∧ Hid (DChg w wr Av L2 z x y)) (fun i _ => n2 - (intOf i).toNat)
    case atStart => exact ⟨0, by omega, rfl, H2⟩
    case round =>
      obtain ⟨k, hk, rfl, HI⟩ := hrel
      have x0 := HI.out.box.cell 0; have x1 := HI.out.box.cell 1; have x2 := HI.out.box.cell 2; simp only [List.getElem?_toArray, List.getElem?_cons_zero, List.getElem?_cons_succ] at x0 x1 x2
      by_cases hkq : k < q
      · have hkl : k < L2.length := by rw [HN2.out]; omega
        have hkn : k < n2 := by omega
        obtain ⟨b, off, rfl, hb, hcell⟩ := ent_cells (n := n2) (by have := HI.out.row; rw [HN2.out] at this; exact this) HN2.out (by omega)
        obtain ⟨d0, d1⟩ := hcell k hkl
        have hls := Hls.out k hkl hkq
        have hki : (0 : Int) ≤ (k : Int) ∧ (k : Int) < (n2 : Int) := by omega
        have hd1 : decide ((k : Int) < (n2 : Int)) = true := decide_eq_true hki.2
        have hd2 : decide (k < n2) = true := decide_eq_true hkn
        clear hcell d1 Hls Hst
        generalize L2[k].1 = u at *
        go_wp2
        go_quiet (fail)
        go_wp2
        go_roundw
        case rel => exact ⟨k + 1, by omega, iv (by omega), Lib.hid (HI.out.drewN _)⟩
        case measure => simp only [intOf]; omega
      · obtain rfl : k = q := by omega
        have hkl : k < L2.length := by rw [HN2.out]; omega
        have hkn : k < n2 := by omega
        have hrow := HI.out.row
        rw [HN2.out] at hrow
        obtain ⟨b, off, hAv, hb, hcell⟩ := ent_cells (n := n2) hrow HN2.out (by omega)
        obtain ⟨d0, d1⟩ := hcell k hkl
        have hls : Op.bytesLess L2[k].1 x = false := by
          have := Hst.out (by rw [HN2.out]; exact he)
          exact this
        have hki : (0 : Int) ≤ (k : Int) ∧ (k : Int) < (n2 : Int) := by omega
        have hd1 : decide ((k : Int) < (n2 : Int)) = true := decide_eq_true hki.2
        have hd2 : decide (k < n2) = true := decide_eq_true hkn
        clear hcell d1 hrow
        generalize L2[k].1 = u at *
        subst hAv
        clear Hls Hst
        have htop := fun W => d_slice_top (P := Tryz.prog) Tryz.underlying30 hi hz1 (some (⟨b, off, none⟩ : Addr)) n2 cv k (by omega) W
        have hfrom := fun W => run_slice_from (P := Tryz.prog) Tryz.underlying30 hi hz1 (some (⟨b, off, none⟩ : Addr)) n2 cv k (by omega) W
        have hrd := HI.out.row
        rw [HN2.out] at hrd
        have hcutr := hrd.cut (k := k) (cap := cv) (by omega) (by omega)
        rw [← dcs_drop efc 2 efc_len L2 k (by rw [HN2.out]; omega)] at hcutr
        obtain ⟨A5, hA5⟩ : ∃ A5, (if cv = k then (some (⟨b, off, none⟩ : Addr)) else Option.map (·.add (k * 2)) (some (⟨b, off, none⟩ : Addr))) = A5 := ⟨_, rfl⟩
        rw [hA5] at hcutr hfrom
        obtain ⟨c5, hc5⟩ : ∃ c5, cv - k = c5 := ⟨_, rfl⟩
        rw [hc5] at hfrom
        obtain ⟨d3, hd3⟩ : ∃ d3, n2 - k = d3 := ⟨_, rfl⟩
        rw [hd3] at hcutr hfrom
        have Hd3 := Lib.hid (show k + d3 = n2 by omega)
        clear hd3
        have hfr := hrd.top efc 2 efc_len HN2.out (k := k) (by omega)
        clear hA5 hc5 hrd
        go_wp2
        go_quiet (fail)
        obtain ⟨wl, hwl⟩ : ∃ wl, wr.drewN nq = wl := ⟨_, rfl⟩
        have HX : Hid (Blk wl w.heap.size 96 #[.string ⟨z.toArray⟩, .string ⟨x.toArray⟩, .int .i64 y]) := Lib.hid (by rw [← hwl]; exact (HI.out.drewN nq).box)
        have HG0 : Hid (Below w.heap.size w wl) := Lib.hid (by rw [← hwl]; exact (HI.out.drewN nq).below)
        have HW0 : w.heap.size < wl.heap.size := HX.out.lt
        have HR1 : Hid (∀ W, Below wl.heap.size wl W → Reads W _ 2 (some (⟨b, off, none⟩ : Addr)) k (dcs efc (L2.take k))) := Lib.hid fun W h => Reads.below (w := wl) (by rw [← hwl]; exact hfr) h
        have HR2 : Hid (∀ W, Below wl.heap.size wl W → Reads W _ 2 A5 d3 (dcs efc (L2.drop k))) := Lib.hid fun W h => Reads.below (w := wl) (by rw [← hwl]; exact hcutr) h
        clear hfr hcutr HI x0 x1 x2
        rw [hwl]
        clear hwl
        have HBw : Hid (Below wl.heap.size wl wl.drew) := Lib.hid (Below.refl _ _).drew
        replace HX := Lib.hid HX.out.drew
        go_wp2
        refine wp_region_held_drew (S := (fun W => Blk W w.heap.size 96 #[.string ⟨z.toArray⟩, .string ⟨x.toArray⟩, .int .i64 y])) (by kernel_rfl) (HX.out) (fun hHeld => ?_)
        refine wpAnyH_take (i := 1) (oi := _) (v := ?_) rfl (by kernel_rfl) (by kernel_rfl) (by kernel_rfl) (fun _ _ _ h => h) (Or.inl ⟨by rfl, ?_⟩) hHeld ?_
        rotate_left
        · (intro wz hSw; go_simp; try (with_reducible rfl))
        (try dsimp only [List.getElem_toArray, List.getElem_cons_zero, List.getElem_cons_succ]); (try simp only [Act.put, List.setIfInBounds_toArray, List.set_cons_zero, List.set_cons_succ])
        refine wpAnyH_take (i := 2) (oi := _) (v := ?_) rfl (by kernel_rfl) (by kernel_rfl) (by kernel_rfl) (fun _ _ _ h => h) (Or.inl ⟨by rfl, ?_⟩) hHeld ?_
        rotate_left
        · (intro wz hSw; go_simp; try (with_reducible rfl))
        (try dsimp only [List.getElem_toArray, List.getElem_cons_zero, List.getElem_cons_succ]); (try simp only [Act.put, List.setIfInBounds_toArray, List.set_cons_zero, List.set_cons_succ])
        refine wpAnyH_take (i := 3) (oi := _) (v := ?_) rfl (by kernel_rfl) (by kernel_rfl) (by kernel_rfl) (fun _ _ _ h => h) (Or.inl ⟨by rfl, ?_⟩) hHeld ?_
        rotate_left
        · (intro wz hSw; go_simp; try (with_reducible rfl))
        (try dsimp only [List.getElem_toArray, List.getElem_cons_zero, List.getElem_cons_succ]); (try simp only [Act.put, List.setIfInBounds_toArray, List.set_cons_zero, List.set_cons_succ])
        refine wpAnyH_take (i := 5) (oi := _) (v := ?_) rfl (by kernel_rfl) (by kernel_rfl) (by kernel_rfl) (fun _ _ _ h => h) (Or.inl ⟨by rfl, ?_⟩) hHeld ?_
        rotate_left
        · (intro wz hSw; go_simp; try (with_reducible rfl))
        (try dsimp only [List.getElem_toArray, List.getElem_cons_zero, List.getElem_cons_succ]); (try simp only [Act.put, List.setIfInBounds_toArray, List.set_cons_zero, List.set_cons_succ])
        refine wpAnyH_take (i := 6) (oi := _) (v := ?_) rfl (by kernel_rfl) (by kernel_rfl) (by kernel_rfl) (fun _ _ _ h => h) (Or.inl ⟨by rfl, ?_⟩) hHeld ?_
        rotate_left
        · (intro wz hSw; have k0 := hSw.cell 1; have k1 := hSw.cell 2; simp only [List.getElem?_toArray, List.getElem?_cons_zero, List.getElem?_cons_succ] at k0 k1; go_simp; try (with_reducible rfl))
        (try dsimp only [List.getElem_toArray, List.getElem_cons_zero, List.getElem_cons_succ]); (try simp only [Act.put, List.setIfInBounds_toArray, List.set_cons_zero, List.set_cons_succ])
        refine wpAnyH_take (i := 9) (oi := _) (v := ?_) rfl (by kernel_rfl) (by kernel_rfl) (by kernel_rfl) (fun _ _ _ h => h) (Or.inl ⟨by rfl, ?_⟩) hHeld ?_
        rotate_left
        · (intro wz hSw; go_simp; try (with_reducible rfl))
        (try dsimp only [List.getElem_toArray, List.getElem_cons_zero, List.getElem_cons_succ]); (try simp only [Act.put, List.setIfInBounds_toArray, List.set_cons_zero, List.set_cons_succ])
        refine wpAnyH_take (i := 10) (oi := _) (v := ?_) rfl (by kernel_rfl) (by kernel_rfl) (by kernel_rfl) (fun _ _ _ h => h) (Or.inl ⟨by rfl, ?_⟩) hHeld ?_
        rotate_left
        · (intro wz hSw; go_simp; try (with_reducible rfl))
        (try dsimp only [List.getElem_toArray, List.getElem_cons_zero, List.getElem_cons_succ]); (try simp only [Act.put, List.setIfInBounds_toArray, List.set_cons_zero, List.set_cons_succ])
        refine wpAnyH_take (i := 11) (oi := _) (v := ?_) rfl (by kernel_rfl) (by kernel_rfl) (by kernel_rfl) (fun _ _ _ h => h) (Or.inl ⟨by rfl, ?_⟩) hHeld ?_
        rotate_left
        · (intro wz hSw; go_simp; try (with_reducible rfl))
        (try dsimp only [List.getElem_toArray, List.getElem_cons_zero, List.getElem_cons_succ]); (try simp only [Act.put, List.setIfInBounds_toArray, List.set_cons_zero, List.set_cons_succ])
        refine wpAnyH_ready (rs := [0, 7]) (by kernel_rfl) (by simp) ?_
        refine AllReadyH.cons (o := _) rfl (fun K hK => ?_) ?_
        · skip
          go_simp
          refine hK.out _ _ (hHeld.alloc _) (fun hH => ?_)
          clear hK K hHeld
          have hHeld := hH
          clear hH
          have HA := Lib.hid (d_empty _ HBw.out.size)
          try (have HS := Lib.hid (d_sepA HO.out (.cells #[] 94)))
          try (replace HO := Lib.hid (HO.out.alloc (.cells #[] 94)))
          replace HBw := Lib.hid (HBw.out.alloc HBw.out.size (.cells #[] 94)); replace HX := Lib.hid (HX.out.alloc (.cells #[] 94))
          try rw [World.size_alloc] at HA
          try rw [World.size_alloc] at HS
          (try dsimp only [List.getElem_toArray, List.getElem_cons_zero, List.getElem_cons_succ]); (try simp only [Act.put, List.setIfInBounds_toArray, List.set_cons_zero, List.set_cons_succ])
          refine wpAnyH_ready (rs := [4, 7]) (by kernel_rfl) (by simp) ?_
          refine AllReadyH.cons (o := _) rfl (fun K hK => ?_) ?_
          · skip
            refine lstep_append (by rfl) (.tmp 40) (.tmp 43) 30 (by rfl) wl.heap.size 94 i0 (.agg #[.string ⟨#[]⟩, .int .i64 0]) 2 24 Tryz.underlying30 hi hz0 hz1 hz9 rfl (by decide) _ 0 (dcs efc ([])) (by rfl) HA.out (some (⟨b, off, none⟩ : Addr)) k cv _ (dcs efc (L2.take k)) (by rfl) (HR1.out _ HBw.out) (efc_cell _) (by have := Hd3.out; unfold maxLen; omega) (by have := Hd3.out; omega) HBw.out.size (k) (Nat.zero_add k) ?_
            intro A_HA1 c_HA1 w_HA1 ho_ hg_ hs_
            refine hK.out _ _ (hHeld.grow' hg_ (d_old HA.out HW0)) (fun hH => ?_)
            clear hK K hHeld
            have hHeld := hH
            clear hH
            try (have HS2 := Lib.hid (d_sepC HO.out HS.out hs_))
            try (replace HO := Lib.hid (d_keep HO.out HS.out hg_))
            try (replace HS := HS2)
            have HA1 : Hid (w_HA1.ownsRow wl.heap.size 94 2 (.slice A_HA1 (k) c_HA1) (k) (dcs efc (([]) ++ (L2.take k)))) := Lib.hid (by rw [dcs_app]; exact ho_)
            replace HX := Lib.hid (HX.out.grow' hg_ (d_old HA.out HW0))
            replace HBw := Lib.hid (d_grown HBw.out HA.out hg_)
            clear ho_ hg_ hs_
            (try dsimp only [List.getElem_toArray, List.getElem_cons_zero, List.getElem_cons_succ]); (try simp only [Act.put, List.setIfInBounds_toArray, List.set_cons_zero, List.set_cons_succ])
            refine wpAnyH_ready (rs := [7]) (by kernel_rfl) (by simp) ?_
            refine AllReadyH.cons (o := _) rfl (fun K hK => ?_) AllReadyH.nil
            go_simp
            refine hK.out _ _ (hHeld.alloc _) (fun hH => ?_)
            clear hK K hHeld
            have hHeld := hH
            clear hH
            have HO := Lib.hid (d_new _ x y HBw.out.size)
            try (have HS := Lib.hid (d_sepB HA.out))
            try (have HS := Lib.hid (d_sepB HA1.out))
            try (replace HA := Lib.hid (HA.out.alloc (.cells #[.string ⟨x.toArray⟩, .int .i64 y] 94)))
            try (replace HA1 := Lib.hid (HA1.out.alloc (.cells #[.string ⟨x.toArray⟩, .int .i64 y] 94)))
            replace HBw := Lib.hid (HBw.out.alloc HBw.out.size (.cells #[.string ⟨x.toArray⟩, .int .i64 y] 94)); replace HX := Lib.hid (HX.out.alloc (.cells #[.string ⟨x.toArray⟩, .int .i64 y] 94))
            try rw [World.size_alloc] at HO
            try rw [World.size_alloc] at HS
            (try dsimp only [List.getElem_toArray, List.getElem_cons_zero, List.getElem_cons_succ]); (try simp only [Act.put, List.setIfInBounds_toArray, List.set_cons_zero, List.set_cons_succ])
            refine wpAnyH_ready (rs := [8]) (by kernel_rfl) (by simp) ?_
            refine AllReadyH.cons (o := _) rfl (fun K hK => ?_) AllReadyH.nil
            refine lstep_append (by rfl) (.tmp 44) (.tmp 47) 30 (by rfl) wl.heap.size 94 i0 (.agg #[.string ⟨#[]⟩, .int .i64 0]) 2 24 Tryz.underlying30 hi hz0 hz1 hz9 rfl (by decide) _ k (dcs efc ([] ++ L2.take k)) (by rfl) HA1.out _ 1 1 _ (dcs efc ([((x, y) : Ent)])) (by rfl) (d_reads HO.out) (efc_cell _) (by have := Hd3.out; unfold maxLen; omega) (by have := Hd3.out; omega) HBw.out.size (k + 1) rfl ?_
            intro A_HA2 c_HA2 w_HA2 ho_ hg_ hs_
            refine hK.out _ _ (hHeld.grow' hg_ (d_old HA1.out HW0)) (fun hH => ?_)
            clear hK K hHeld
            have hHeld := hH
            clear hH
            have HA2 : Hid (w_HA2.ownsRow wl.heap.size 94 2 (.slice A_HA2 (k + 1) c_HA2) (k + 1) (dcs efc (([] ++ L2.take k) ++ ([((x, y) : Ent)])))) := Lib.hid (by rw [dcs_app]; exact ho_)
            replace HX := Lib.hid (HX.out.grow' hg_ (d_old HA1.out HW0))
            replace HBw := Lib.hid (d_grown HBw.out HA1.out hg_)
            clear ho_ hg_ hs_
            (try dsimp only [List.getElem_toArray, List.getElem_cons_zero, List.getElem_cons_succ]); (try simp only [Act.put, List.setIfInBounds_toArray, List.set_cons_zero, List.set_cons_succ])
            refine wpAnyH_ready (rs := [12]) (by kernel_rfl) (by simp) ?_
            refine AllReadyH.cons (o := _) rfl (fun K hK => ?_) AllReadyH.nil
            refine lstep_append (by rfl) (.tmp 48) (.tmp 51) 30 (by rfl) wl.heap.size 94 i0 (.agg #[.string ⟨#[]⟩, .int .i64 0]) 2 24 Tryz.underlying30 hi hz0 hz1 hz9 rfl (by decide) _ (k + 1) (dcs efc (([] ++ L2.take k) ++ [((x, y) : Ent)])) (by rfl) HA2.out A5 d3 c5 _ (dcs efc (L2.drop k)) (by rfl) (HR2.out _ HBw.out) (efc_cell _) (by have := Hd3.out; unfold maxLen; omega) (by have := Hd3.out; omega) HBw.out.size (n2 + 1) (by have := Hd3.out; omega) ?_
            intro A_HA3 c_HA3 w_HA3 ho_ hg_ hs_
            refine hK.out _ _ (hHeld.grow' hg_ (d_old HA2.out HW0)) (fun hH => ?_)
            clear hK K hHeld
            have hHeld := hH
            clear hH
            have HA3 : Hid (w_HA3.ownsRow wl.heap.size 94 2 (.slice A_HA3 (n2 + 1) c_HA3) (n2 + 1) (dcs efc ((([] ++ L2.take k) ++ [((x, y) : Ent)]) ++ (L2.drop k)))) := Lib.hid (by rw [dcs_app]; exact ho_)
            replace HX := Lib.hid (HX.out.grow' hg_ (d_old HA2.out HW0))
            replace HBw := Lib.hid (d_grown HBw.out HA2.out hg_)
            clear ho_ hg_ hs_
            (try dsimp only [List.getElem_toArray, List.getElem_cons_zero, List.getElem_cons_succ]); (try simp only [Act.put, List.setIfInBounds_toArray, List.set_cons_zero, List.set_cons_succ])
            refine wpAnyH_take (i := 13) (oi := _) (v := ?_) rfl (by kernel_rfl) (by kernel_rfl) (by kernel_rfl) (fun _ _ _ h => h) (Or.inl ⟨by rfl, ?_⟩) hHeld ?_
            rotate_left
            · (intro wz hSw; go_simp; try (with_reducible rfl))
            (try dsimp only [List.getElem_toArray, List.getElem_cons_zero, List.getElem_cons_succ]); (try simp only [Act.put, List.setIfInBounds_toArray, List.set_cons_zero, List.set_cons_succ])
            refine wpAnyH_done (by kernel_rfl) ?_ _
            have HF : Hid (w_HA3.ownsRow w.heap.size 94 2 (.slice A_HA3 (n2 + 1) c_HA3) (n2 + 1) (dcs efc ((([] ++ L2.take k) ++ [((x, y) : Ent)]) ++ L2.drop k))) := Lib.hid (d_base HA3.out HG0.out.size)
            have HG := Lib.hid (HG0.out.trans (HBw.out.mono HG0.out.size))
            clear hHeld
            go_wp2
            go_ret
            have hAN : AN w w_HA3 none A_HA3 := owns_new HF.out (Nat.le_refl _)
            obtain ⟨A6, c6, h6, hc6, hr6⟩ := owns_cells HF.out
            injection h6 with h6 h7 h8
            subst h6
            subst h8
            have hlen : ((([] ++ L2.take k) ++ [((x, y) : Ent)]) ++ L2.drop k).length = n2 + 1 := by simp only [List.nil_append, List.length_append, List.length_take, List.length_singleton, List.length_drop, HN2.out]; omega
            rw [HD.out]
            refine ⟨_, _, ?_, by rw [hlen]; exact hc6, by rw [hlen]; exact hr6, HG.out, hAN.any⟩
            rw [hlen]
            rfl
          refine AllReadyH.cons (o := _) rfl (fun K hK => ?_) AllReadyH.nil
          go_simp
          refine hK.out _ _ (hHeld.alloc _) (fun hH => ?_)
          clear hK K hHeld
          have hHeld := hH
          clear hH
          have HO := Lib.hid (d_new _ x y HBw.out.size)
          try (have HS := Lib.hid (d_sepB HA.out))
          try (have HS := Lib.hid (d_sepB HA1.out))
          try (replace HA := Lib.hid (HA.out.alloc (.cells #[.string ⟨x.toArray⟩, .int .i64 y] 94)))
          try (replace HA1 := Lib.hid (HA1.out.alloc (.cells #[.string ⟨x.toArray⟩, .int .i64 y] 94)))
          replace HBw := Lib.hid (HBw.out.alloc HBw.out.size (.cells #[.string ⟨x.toArray⟩, .int .i64 y] 94)); replace HX := Lib.hid (HX.out.alloc (.cells #[.string ⟨x.toArray⟩, .int .i64 y] 94))
          try rw [World.size_alloc] at HO
          try rw [World.size_alloc] at HS
          (try dsimp only [List.getElem_toArray, List.getElem_cons_zero, List.getElem_cons_succ]); (try simp only [Act.put, List.setIfInBounds_toArray, List.set_cons_zero, List.set_cons_succ])
          refine wpAnyH_ready (rs := [4]) (by kernel_rfl) (by simp) ?_
          refine AllReadyH.cons (o := _) rfl (fun K hK => ?_) AllReadyH.nil
          refine lstep_append (by rfl) (.tmp 40) (.tmp 43) 30 (by rfl) wl.heap.size 94 i0 (.agg #[.string ⟨#[]⟩, .int .i64 0]) 2 24 Tryz.underlying30 hi hz0 hz1 hz9 rfl (by decide) _ 0 (dcs efc ([])) (by rfl) HA.out (some (⟨b, off, none⟩ : Addr)) k cv _ (dcs efc (L2.take k)) (by rfl) (HR1.out _ HBw.out) (efc_cell _) (by have := Hd3.out; unfold maxLen; omega) (by have := Hd3.out; omega) HBw.out.size (k) (Nat.zero_add k) ?_
          intro A_HA1 c_HA1 w_HA1 ho_ hg_ hs_
          refine hK.out _ _ (hHeld.grow' hg_ (d_old HA.out HW0)) (fun hH => ?_)
          clear hK K hHeld
          have hHeld := hH
          clear hH
          try (have HS2 := Lib.hid (d_sepC HO.out HS.out hs_))
          try (replace HO := Lib.hid (d_keep HO.out HS.out hg_))
          try (replace HS := HS2)
          have HA1 : Hid (w_HA1.ownsRow wl.heap.size 94 2 (.slice A_HA1 (k) c_HA1) (k) (dcs efc (([]) ++ (L2.take k)))) := Lib.hid (by rw [dcs_app]; exact ho_)
          replace HX := Lib.hid (HX.out.grow' hg_ (d_old HA.out HW0))
          replace HBw := Lib.hid (d_grown HBw.out HA.out hg_)
          clear ho_ hg_ hs_
          (try dsimp only [List.getElem_toArray, List.getElem_cons_zero, List.getElem_cons_succ]); (try simp only [Act.put, List.setIfInBounds_toArray, List.set_cons_zero, List.set_cons_succ])
          refine wpAnyH_ready (rs := [8]) (by kernel_rfl) (by simp) ?_
          refine AllReadyH.cons (o := _) rfl (fun K hK => ?_) AllReadyH.nil
          refine lstep_append (by rfl) (.tmp 44) (.tmp 47) 30 (by rfl) wl.heap.size 94 i0 (.agg #[.string ⟨#[]⟩, .int .i64 0]) 2 24 Tryz.underlying30 hi hz0 hz1 hz9 rfl (by decide) _ k (dcs efc ([] ++ L2.take k)) (by rfl) HA1.out _ 1 1 _ (dcs efc ([((x, y) : Ent)])) (by rfl) (d_reads HO.out) (efc_cell _) (by have := Hd3.out; unfold maxLen; omega) (by have := Hd3.out; omega) HBw.out.size (k + 1) rfl ?_
          intro A_HA2 c_HA2 w_HA2 ho_ hg_ hs_
          refine hK.out _ _ (hHeld.grow' hg_ (d_old HA1.out HW0)) (fun hH => ?_)
          clear hK K hHeld
          have hHeld := hH
          clear hH
          have HA2 : Hid (w_HA2.ownsRow wl.heap.size 94 2 (.slice A_HA2 (k + 1) c_HA2) (k + 1) (dcs efc (([] ++ L2.take k) ++ ([((x, y) : Ent)])))) := Lib.hid (by rw [dcs_app]; exact ho_)
          replace HX := Lib.hid (HX.out.grow' hg_ (d_old HA1.out HW0))
          replace HBw := Lib.hid (d_grown HBw.out HA1.out hg_)
          clear ho_ hg_ hs_
          (try dsimp only [List.getElem_toArray, List.getElem_cons_zero, List.getElem_cons_succ]); (try simp only [Act.put, List.setIfInBounds_toArray, List.set_cons_zero, List.set_cons_succ])
          refine wpAnyH_ready (rs := [12]) (by kernel_rfl) (by simp) ?_
          refine AllReadyH.cons (o := _) rfl (fun K hK => ?_) AllReadyH.nil
          refine lstep_append (by rfl) (.tmp 48) (.tmp 51) 30 (by rfl) wl.heap.size 94 i0 (.agg #[.string ⟨#[]⟩, .int .i64 0]) 2 24 Tryz.underlying30 hi hz0 hz1 hz9 rfl (by decide) _ (k + 1) (dcs efc (([] ++ L2.take k) ++ [((x, y) : Ent)])) (by rfl) HA2.out A5 d3 c5 _ (dcs efc (L2.drop k)) (by rfl) (HR2.out _ HBw.out) (efc_cell _) (by have := Hd3.out; unfold maxLen; omega) (by have := Hd3.out; omega) HBw.out.size (n2 + 1) (by have := Hd3.out; omega) ?_
          intro A_HA3 c_HA3 w_HA3 ho_ hg_ hs_
          refine hK.out _ _ (hHeld.grow' hg_ (d_old HA2.out HW0)) (fun hH => ?_)
          clear hK K hHeld
          have hHeld := hH
          clear hH
          have HA3 : Hid (w_HA3.ownsRow wl.heap.size 94 2 (.slice A_HA3 (n2 + 1) c_HA3) (n2 + 1) (dcs efc ((([] ++ L2.take k) ++ [((x, y) : Ent)]) ++ (L2.drop k)))) := Lib.hid (by rw [dcs_app]; exact ho_)
          replace HX := Lib.hid (HX.out.grow' hg_ (d_old HA2.out HW0))
          replace HBw := Lib.hid (d_grown HBw.out HA2.out hg_)
          clear ho_ hg_ hs_
          (try dsimp only [List.getElem_toArray, List.getElem_cons_zero, List.getElem_cons_succ]); (try simp only [Act.put, List.setIfInBounds_toArray, List.set_cons_zero, List.set_cons_succ])
          refine wpAnyH_take (i := 13) (oi := _) (v := ?_) rfl (by kernel_rfl) (by kernel_rfl) (by kernel_rfl) (fun _ _ _ h => h) (Or.inl ⟨by rfl, ?_⟩) hHeld ?_
          rotate_left
          · (intro wz hSw; go_simp; try (with_reducible rfl))
          (try dsimp only [List.getElem_toArray, List.getElem_cons_zero, List.getElem_cons_succ]); (try simp only [Act.put, List.setIfInBounds_toArray, List.set_cons_zero, List.set_cons_succ])
          refine wpAnyH_done (by kernel_rfl) ?_ _
          have HF : Hid (w_HA3.ownsRow w.heap.size 94 2 (.slice A_HA3 (n2 + 1) c_HA3) (n2 + 1) (dcs efc ((([] ++ L2.take k) ++ [((x, y) : Ent)]) ++ L2.drop k))) := Lib.hid (d_base HA3.out HG0.out.size)
          have HG := Lib.hid (HG0.out.trans (HBw.out.mono HG0.out.size))
          clear hHeld
          go_wp2
          go_ret
          have hAN : AN w w_HA3 none A_HA3 := owns_new HF.out (Nat.le_refl _)
          obtain ⟨A6, c6, h6, hc6, hr6⟩ := owns_cells HF.out
          injection h6 with h6 h7 h8
          subst h6
          subst h8
          have hlen : ((([] ++ L2.take k) ++ [((x, y) : Ent)]) ++ L2.drop k).length = n2 + 1 := by simp only [List.nil_append, List.length_append, List.length_take, List.length_singleton, List.length_drop, HN2.out]; omega
          rw [HD.out]
          refine ⟨_, _, ?_, by rw [hlen]; exact hc6, by rw [hlen]; exact hr6, HG.out, hAN.any⟩
          rw [hlen]
          rfl
        refine AllReadyH.cons (o := _) rfl (fun K hK => ?_) AllReadyH.nil
        go_simp
        refine hK.out _ _ (hHeld.alloc _) (fun hH => ?_)
        clear hK K hHeld
        have hHeld := hH
        clear hH
        have HO := Lib.hid (d_new _ x y HBw.out.size)
        try (have HS := Lib.hid (d_sepB HA.out))
        try (have HS := Lib.hid (d_sepB HA1.out))
        try (replace HA := Lib.hid (HA.out.alloc (.cells #[.string ⟨x.toArray⟩, .int .i64 y] 94)))
        try (replace HA1 := Lib.hid (HA1.out.alloc (.cells #[.string ⟨x.toArray⟩, .int .i64 y] 94)))
        replace HBw := Lib.hid (HBw.out.alloc HBw.out.size (.cells #[.string ⟨x.toArray⟩, .int .i64 y] 94)); replace HX := Lib.hid (HX.out.alloc (.cells #[.string ⟨x.toArray⟩, .int .i64 y] 94))
        try rw [World.size_alloc] at HO
        try rw [World.size_alloc] at HS
        (try dsimp only [List.getElem_toArray, List.getElem_cons_zero, List.getElem_cons_succ]); (try simp only [Act.put, List.setIfInBounds_toArray, List.set_cons_zero, List.set_cons_succ])
        refine wpAnyH_ready (rs := [0]) (by kernel_rfl) (by simp) ?_
        refine AllReadyH.cons (o := _) rfl (fun K hK => ?_) AllReadyH.nil
        go_simp
        refine hK.out _ _ (hHeld.alloc _) (fun hH => ?_)
        clear hK K hHeld
        have hHeld := hH
        clear hH
        have HA := Lib.hid (d_empty _ HBw.out.size)
        try (have HS := Lib.hid (d_sepA HO.out (.cells #[] 94)))
        try (replace HO := Lib.hid (HO.out.alloc (.cells #[] 94)))
        replace HBw := Lib.hid (HBw.out.alloc HBw.out.size (.cells #[] 94)); replace HX := Lib.hid (HX.out.alloc (.cells #[] 94))
        try rw [World.size_alloc] at HA
        try rw [World.size_alloc] at HS
        (try dsimp only [List.getElem_toArray, List.getElem_cons_zero, List.getElem_cons_succ]); (try simp only [Act.put, List.setIfInBounds_toArray, List.set_cons_zero, List.set_cons_succ])
        refine wpAnyH_ready (rs := [4]) (by kernel_rfl) (by simp) ?_
        refine AllReadyH.cons (o := _) rfl (fun K hK => ?_) AllReadyH.nil
        refine lstep_append (by rfl) (.tmp 40) (.tmp 43) 30 (by rfl) wl.heap.size 94 i0 (.agg #[.string ⟨#[]⟩, .int .i64 0]) 2 24 Tryz.underlying30 hi hz0 hz1 hz9 rfl (by decide) _ 0 (dcs efc ([])) (by rfl) HA.out (some (⟨b, off, none⟩ : Addr)) k cv _ (dcs efc (L2.take k)) (by rfl) (HR1.out _ HBw.out) (efc_cell _) (by have := Hd3.out; unfold maxLen; omega) (by have := Hd3.out; omega) HBw.out.size (k) (Nat.zero_add k) ?_
        intro A_HA1 c_HA1 w_HA1 ho_ hg_ hs_
        refine hK.out _ _ (hHeld.grow' hg_ (d_old HA.out HW0)) (fun hH => ?_)
        clear hK K hHeld
        have hHeld := hH
        clear hH
        try (have HS2 := Lib.hid (d_sepC HO.out HS.out hs_))
        try (replace HO := Lib.hid (d_keep HO.out HS.out hg_))
        try (replace HS := HS2)
        have HA1 : Hid (w_HA1.ownsRow wl.heap.size 94 2 (.slice A_HA1 (k) c_HA1) (k) (dcs efc (([]) ++ (L2.take k)))) := Lib.hid (by rw [dcs_app]; exact ho_)
        replace HX := Lib.hid (HX.out.grow' hg_ (d_old HA.out HW0))
        replace HBw := Lib.hid (d_grown HBw.out HA.out hg_)
        clear ho_ hg_ hs_
        (try dsimp only [List.getElem_toArray, List.getElem_cons_zero, List.getElem_cons_succ]); (try simp only [Act.put, List.setIfInBounds_toArray, List.set_cons_zero, List.set_cons_succ])
        refine wpAnyH_ready (rs := [8]) (by kernel_rfl) (by simp) ?_
        refine AllReadyH.cons (o := _) rfl (fun K hK => ?_) AllReadyH.nil
        refine lstep_append (by rfl) (.tmp 44) (.tmp 47) 30 (by rfl) wl.heap.size 94 i0 (.agg #[.string ⟨#[]⟩, .int .i64 0]) 2 24 Tryz.underlying30 hi hz0 hz1 hz9 rfl (by decide) _ k (dcs efc ([] ++ L2.take k)) (by rfl) HA1.out _ 1 1 _ (dcs efc ([((x, y) : Ent)])) (by rfl) (d_reads HO.out) (efc_cell _) (by have := Hd3.out; unfold maxLen; omega) (by have := Hd3.out; omega) HBw.out.size (k + 1) rfl ?_
        intro A_HA2 c_HA2 w_HA2 ho_ hg_ hs_
        refine hK.out _ _ (hHeld.grow' hg_ (d_old HA1.out HW0)) (fun hH => ?_)
        clear hK K hHeld
        have hHeld := hH
        clear hH
        have HA2 : Hid (w_HA2.ownsRow wl.heap.size 94 2 (.slice A_HA2 (k + 1) c_HA2) (k + 1) (dcs efc (([] ++ L2.take k) ++ ([((x, y) : Ent)])))) := Lib.hid (by rw [dcs_app]; exact ho_)
        replace HX := Lib.hid (HX.out.grow' hg_ (d_old HA1.out HW0))
        replace HBw := Lib.hid (d_grown HBw.out HA1.out hg_)
        clear ho_ hg_ hs_
        (try dsimp only [List.getElem_toArray, List.getElem_cons_zero, List.getElem_cons_succ]); (try simp only [Act.put, List.setIfInBounds_toArray, List.set_cons_zero, List.set_cons_succ])
        refine wpAnyH_ready (rs := [12]) (by kernel_rfl) (by simp) ?_
        refine AllReadyH.cons (o := _) rfl (fun K hK => ?_) AllReadyH.nil
        refine lstep_append (by rfl) (.tmp 48) (.tmp 51) 30 (by rfl) wl.heap.size 94 i0 (.agg #[.string ⟨#[]⟩, .int .i64 0]) 2 24 Tryz.underlying30 hi hz0 hz1 hz9 rfl (by decide) _ (k + 1) (dcs efc (([] ++ L2.take k) ++ [((x, y) : Ent)])) (by rfl) HA2.out A5 d3 c5 _ (dcs efc (L2.drop k)) (by rfl) (HR2.out _ HBw.out) (efc_cell _) (by have := Hd3.out; unfold maxLen; omega) (by have := Hd3.out; omega) HBw.out.size (n2 + 1) (by have := Hd3.out; omega) ?_
        intro A_HA3 c_HA3 w_HA3 ho_ hg_ hs_
        refine hK.out _ _ (hHeld.grow' hg_ (d_old HA2.out HW0)) (fun hH => ?_)
        clear hK K hHeld
        have hHeld := hH
        clear hH
        have HA3 : Hid (w_HA3.ownsRow wl.heap.size 94 2 (.slice A_HA3 (n2 + 1) c_HA3) (n2 + 1) (dcs efc ((([] ++ L2.take k) ++ [((x, y) : Ent)]) ++ (L2.drop k)))) := Lib.hid (by rw [dcs_app]; exact ho_)
        replace HX := Lib.hid (HX.out.grow' hg_ (d_old HA2.out HW0))
        replace HBw := Lib.hid (d_grown HBw.out HA2.out hg_)
        clear ho_ hg_ hs_
        (try dsimp only [List.getElem_toArray, List.getElem_cons_zero, List.getElem_cons_succ]); (try simp only [Act.put, List.setIfInBounds_toArray, List.set_cons_zero, List.set_cons_succ])
        refine wpAnyH_take (i := 13) (oi := _) (v := ?_) rfl (by kernel_rfl) (by kernel_rfl) (by kernel_rfl) (fun _ _ _ h => h) (Or.inl ⟨by rfl, ?_⟩) hHeld ?_
        rotate_left
        · (intro wz hSw; go_simp; try (with_reducible rfl))
        (try dsimp only [List.getElem_toArray, List.getElem_cons_zero, List.getElem_cons_succ]); (try simp only [Act.put, List.setIfInBounds_toArray, List.set_cons_zero, List.set_cons_succ])
        refine wpAnyH_done (by kernel_rfl) ?_ _
        have HF : Hid (w_HA3.ownsRow w.heap.size 94 2 (.slice A_HA3 (n2 + 1) c_HA3) (n2 + 1) (dcs efc ((([] ++ L2.take k) ++ [((x, y) : Ent)]) ++ L2.drop k))) := Lib.hid (d_base HA3.out HG0.out.size)
        have HG := Lib.hid (HG0.out.trans (HBw.out.mono HG0.out.size))
        clear hHeld
        go_wp2
        go_ret
        have hAN : AN w w_HA3 none A_HA3 := owns_new HF.out (Nat.le_refl _)
        obtain ⟨A6, c6, h6, hc6, hr6⟩ := owns_cells HF.out
        injection h6 with h6 h7 h8
        subst h6
        subst h8
        have hlen : ((([] ++ L2.take k) ++ [((x, y) : Ent)]) ++ L2.drop k).length = n2 + 1 := by simp only [List.nil_append, List.length_append, List.length_take, List.length_singleton, List.length_drop, HN2.out]; omega
        rw [HD.out]
        refine ⟨_, _, ?_, by rw [hlen]; exact hc6, by rw [hlen]; exact hr6, HG.out, hAN.any⟩
        rw [hlen]
        rfl
theorem dref_chgd_any : Calls Tryz.prog 64 #[.slice A n c, .agg #[.string ⟨z.toArray⟩, .string ⟨x.toArray⟩, .int .i64 y]] w fun e w' => DRow A efc 2 w w' e (dchgd l (z, (x, y))) := by
  unfold dchgd
  dsimp only
  by_cases hx : x = []
  · rw [if_pos hx, hx]
    exact dref_chgd_none l z y A n c w hl hn hc hr
  · rw [if_neg hx]
    rcases Nat.lt_or_ge (dplace x (dwout (dless l z) x)) (dwout (dless l z) x).length with h | h
    · exact dref_chgd_mid l z x y A n c w hl hn hc hr hx h
    · exact dref_chgd_end l z x y A n c w hl hn hc hr hx h
end
end Go.Proofs.YtgoahcmgpjacjaaGreat
