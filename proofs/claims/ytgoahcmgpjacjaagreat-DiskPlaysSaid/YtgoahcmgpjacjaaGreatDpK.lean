/-
  Layer 20: Boot, where there is no change; Boot.
-/
import Derived.Test.YtgoahcmgpjacjaaGreatDpJ
namespace Go.Proofs.YtgoahcmgpjacjaaGreat
set_option linter.unusedSimpArgs false
set_option linter.unusedVariables false
open Go.ChangeShapes Go.WideShapes Go.ChangeAt Go.RowKit Go.Joins Go.Deep
set_option maxRecDepth 100000 in
set_option maxHeartbeats 8000000 in
theorem q_dboot_z {D : Dk} {fb : List Nat} {bn bs : Nat} {Mn Ms : DataW Unit} {A : Option Addr} {c g : Nat} {lf : Int} {S : Nat → Prop} (w : World) (h : DMm w g D fb bn bs Mn Ms A c lf) (hS : ∀ k, DSet g fb bn bs A k → S k) (hD : DSm 1000 D) (y : Ac) (hy : AcOk w w.heap.size y) (hfar : AcFar S y) (hm2 : ∀ m ∈ y.marks, m.length ≤ 100000) (hn0 : D.chg.length = 0) (hA : A = none) (hc0 : c = 0) :
    Calls Tryz.prog 17 #[.pointer (some ⟨g, 0, none⟩), .agg (chf y).toArray] w fun e w' => e = .returned (.int .i64 0) ∧ DTo w w' S g (dbootF D y.dir y.cuts y.marks) := by
  have hw0 := (Below.refl w.heap.size w).alloc (Nat.le_refl _) (.cells #[.int .i64 y.dir, .slice y.cA y.cuts.length y.cc, .slice y.mA y.marks.length y.mc] 41)
  have hm0 := h.on hw0
  have hgn : g ≠ bs := blk_map h.box h.syn
  have hback : (D.chg.take 0).foldl dchgd D.safe = dback D y.dir := by unfold dback; rw [List.length_eq_zero_iff.1 hn0]; simp
  have HR := Lib.hid (p_dmade _ hm0)
  have HSz : Hid (Maps.size Ms ≤ 1000000) := Lib.hid (by
    have h0 := hD.hist.back 0
    rw [List.take_zero] at h0
    rw [h.iss.size h.syn dlaw Tryz.underlying9 h0 (fun e he => (hD.wf.safe e he).1)]
    have := hD.safe
    omega)
  -- what a change does, at each place
  have HIn : Hid (∀ i (hi : i < D.chg.length) (wr : World) (w0 : World), DPt w0 wr fb bs D i → ∃ F rc, cfv fb D.chg[i] = .func (.func F) #[rc] #[] ∧ (∀ args w, (callFunc F args).run Tryz.prog w = .ok (.enter F args) w) ∧ Calls Tryz.prog F #[rc, .map (some bs)] wr fun e w' => e = .returned (.tuple #[]) ∧ DPt w0 w' fb bs D (i + 1)) := Lib.hid fun i hi wr w0 hb => by
    obtain ⟨⟨M, hM, hI⟩, ht⟩ := hb
    obtain ⟨F, rc, e1, e2, e3⟩ := cfv_is fb D.chg[i]
    have k1 := hD.hist.back i
    have k0 := h.gd.back i (by omega)
    have kok : dokL D.files.length ((D.chg.take i).foldl dchgd D.safe) := by
      have := dback_ok hD.wf (i : Int)
      unfold dback at this
      rwa [Int.toNat_natCast] at this
    have ksz : Maps.size M ≤ 1000000 := by
      rw [hI.size hM dlaw Tryz.underlying9 k1 (fun e he => (kok e he).1)]
      have := done_len k1 kok
      have := hD.files
      omega
    refine ⟨F, rc, e1, e2, (e3 wr bs _ M _ hM hI ksz k0.2 (h.gd.chg i hi)).mono fun e w' hx => ⟨hx.1, ?_, ht.trans hx.2.2⟩⟩
    rw [List.take_succ_eq_append_getElem hi, List.foldl_append]
    exact hx.2.1
  have HB0 : Hid (∀ o n, DPt (w.alloc o) ((w.alloc o).drewN n) fb bs D 0) := Lib.hid fun o n => ⟨⟨Ms, map_keep (h.syn.alloc o) rfl, by rw [List.take_zero]; exact h.iss⟩, (Touch.refl _ _).drewN n⟩
  have HFall : Hid (∀ (o : Obj) wr W, Touch (w.alloc o) wr (fun k => k = bs) → Below wr.heap.size wr W → ∀ M, wr.ownsMap Tryz.prog 9 ptE bs (Maps.size M) M → DIs fb M (dback D y.dir) → Calls Tryz.prog 52 #[.map (some bs), .slice y.cA y.cuts.length y.cc, .slice y.mA y.marks.length y.mc] W fun e w' => e = .returned (.tuple #[]) ∧ DFl w' fb (dfall y.cuts y.marks (dback D y.dir) 0 D) ∧ Touch W w' (DFs fb)) := Lib.hid fun o wr W ht hbW M hM hI => by
    have hok := dback_ok hD.wf y.dir
    have h1 : DOne (dback D y.dir) := by unfold dback; exact hD.hist.back _
    have hfs : ∀ k, DFs fb k → k ≠ bs := fun k ⟨n, a, b, e⟩ => by rw [e]; exact (h.fg a b).2.2
    have htw : Touch w W (fun k => k = bs) := ((Touch.refl w _).alloc o).trans (ht.trans (touch_below hbW (Nat.le_refl _)))
    have hln := done_len h1 hok
    have hff := hD.files
    have hSb : S bs := hS bs (.inr (.inr (.inl rfl)))
    have hSf : ∀ k, DFs fb k → S k := fun k hk => hS k (.inr (.inr (.inr (.inl hk))))
    have hsz : w.heap.size ≤ W.heap.size := htw.size
    refine p_dfall y.cuts y.marks W (h.files_.touch htw hfs) (map_touch hM (touch_below (S := fun _ => False) hbW (Nat.le_refl _)) (fun h => h)) hI hok h1 (h.gd.dback_ y.dir).1 (h.gd.dback_ y.dir).2 (by omega) hD.bnd hfs ?_ ?_ (fun hn => ?_) (fun hn => ?_) hm2
    · exact (cells_touch hy.cuts (Nat.le_refl _) htw (fun hn => by obtain ⟨b, off, e, hb⟩ := hfar.1 hn; exact ⟨b, off, e, fun e2 => hb (by rw [e2]; exact hSb)⟩)).more hsz
    · exact (cells_touch hy.marks (Nat.le_refl _) htw (fun hn => by obtain ⟨b, off, e, hb⟩ := hfar.2 hn; exact ⟨b, off, e, fun e2 => hb (by rw [e2]; exact hSb)⟩)).more hsz
    · obtain ⟨b, off, e, hb⟩ := hfar.1 hn
      exact ⟨b, off, e, fun hk => hb (hSf b hk)⟩
    · obtain ⟨b, off, e, hb⟩ := hfar.2 hn
      exact ⟨b, off, e, fun hk => hb (hSf b hk)⟩
  have HG := Lib.hid (dboot_gd h.gd y.dir y.cuts y.marks)
  have HM := Lib.hid h
  have HS := Lib.hid hS
  have HBk := Lib.hid hback
  have hb0 := hm0.box
  have HBx : Hid (Blk (w.alloc (.cells #[.int .i64 y.dir, .slice y.cA y.cuts.length y.cc, .slice y.mA y.marks.length y.mc] 41)) w.heap.size 41 #[.int .i64 y.dir, .slice y.cA y.cuts.length y.cc, .slice y.mA y.marks.length y.mc]) := Lib.hid (Blk.new _ _ _)
  have HBg := Lib.hid hb0
  unfold dbx at hb0 HBg
  have g4 := hb0.cell 4; simp only [List.getElem?_toArray, List.getElem?_cons_zero, List.getElem?_cons_succ] at g4
  have hgl := h.box.lt
  have hne : w.heap.size ≠ bs := by have := h.syn.lt; omega
  have hcb := hD.chg
  have hmx : max 0 (min y.dir 0) = 0 := by omega
  rw [hn0, hA, hc0] at g4
  dsimp only [chf]
  clear h hS hD hy hfar hm2 hm0 hb0 hw0 hback
  generalize hnc : y.cuts.length = nc at *
  generalize hnk : y.marks.length = nk at *
  go_enter Tryz.func17, Tryz.ntmps17
  go_wp2_with (first | (go_at_call 51; (with_reducible refine HR.out.mono ?_); rintro e w1 ⟨rfl, hw1⟩; obtain rfl := hw1) | fail)
  go_quiet (fail)
  go_wp2_with fail
  go_loopw [7, 27] (fun _ iv wr => ∃ i : Nat, i ≤ 0 ∧ iv = .int .i64 (i : Int) ∧ Hid (DPt (w.alloc (.cells #[.int .i64 y.dir, .slice y.cA nc y.cc, .slice y.mA nk y.mc] 41)) wr fb bs D i)) (fun _ iv _ => 0 - (intOf iv).toNat)
  case atStart => exact ⟨0, by omega, rfl, Lib.hid (HB0.out _ _)⟩
  case round =>
    clear HB0
    obtain ⟨i, hi, rfl, HT⟩ := hrel
    obtain rfl : i = 0 := by omega
    have hz : ¬ (0 : Int) < 0 := by omega
    obtain ⟨⟨M, hM, hI⟩, ht⟩ := HT.out
    rw [HBk.out] at hI
    have HMs := Lib.hid hM
    have HI := Lib.hid hI
    have HTt := Lib.hid ht
    have HFa := Lib.hid (HFall.out _ wr wr.drew ht (Below.refl _ _).drew M hM hI)
    have hbg := HBg.out.touch ht hgn
    have hbc := HBx.out.touch ht hne
    have HBr := Lib.hid hbg
    have hgr := hbg.lt
    have q1 := hbc.cell 1
    have q2 := hbc.cell 2
    have g3 := hbg.cell 3; simp only [List.getElem?_toArray, List.getElem?_cons_zero, List.getElem?_cons_succ] at g3
    simp only [List.getElem?_toArray, List.getElem?_cons_zero, List.getElem?_cons_succ] at q1 q2
    clear hM hI ht hbg hbc HFall HIn HT HBk HBx HBg g4
    go_wp2_with fail
    go_region_with (go_at_call 52; (with_reducible refine HFa.out.mono ?_); rintro e w7 ⟨rfl, hf7, ht7⟩; have HF7 := Lib.hid hf7; have HT7 := Lib.hid ht7; have hb7 := HBr.out.drew.touch ht7 (fun ⟨n, a, b, e⟩ => (HM.out.fg a b).1 e.symm); have HB7 := Lib.hid hb7; have g3 := hb7.cell 3; simp only [List.getElem?_toArray, List.getElem?_cons_zero, List.getElem?_cons_succ] at g3; have HM7 := Lib.hid (map_touch (w := wr.drew) HMs.out ht7 (fun ⟨n, a, b, e⟩ => (HM.out.fg a b).2.2 e.symm)); clear hf7 ht7 hb7)
    all_goals go_wp2_with (first
      | (go_at_call 50; (with_reducible refine (p_dclone _ HM7.out).mono ?_); rintro e w8 ⟨rfl, r1, r2, hb8⟩; have HR1 := Lib.hid r1; have HR2 := Lib.hid r2; have HB8 := Lib.hid hb8; have hc8 := HB7.out.below hb8 HB7.out.lt; have HC8 := Lib.hid hc8; have g1 := hc8.cell 1; have g2 := hc8.cell 2; have g4 := hc8.cell 4; have g6 := hc8.cell 6; simp only [List.getElem?_toArray, List.getElem?_cons_zero, List.getElem?_cons_succ] at g1 g2 g4 g6; have z1 := hc8.frozen 1; have z2 := hc8.frozen 2; have z4 := hc8.frozen 4; have z6 := hc8.frozen 6; clear r1 r2 hb8 hc8)
      | fail)
    all_goals go_ret
    all_goals exact boot_end HM.out HS.out HTt.out HT7.out HB8.out HC8.out HF7.out HR1.out HR2.out HI.out HM7.out.lt HG.out rfl
theorem q_dboot {D : Dk} {fb : List Nat} {bn bs : Nat} {Mn Ms : DataW Unit} {A : Option Addr} {c g : Nat} {lf : Int} {S : Nat → Prop} (w : World) (h : DMm w g D fb bn bs Mn Ms A c lf) (hS : ∀ k, DSet g fb bn bs A k → S k) (hD : DSm 1000 D) (y : Ac) (hy : AcOk w w.heap.size y) (hfar : AcFar S y) (hm2 : ∀ m ∈ y.marks, m.length ≤ 100000) :
    Calls Tryz.prog 17 #[.pointer (some ⟨g, 0, none⟩), .agg (chf y).toArray] w fun e w' => e = .returned (.int .i64 0) ∧ DTo w w' S g (dbootF D y.dir y.cuts y.marks) := by
  rcases h.row.2 with ⟨e, -⟩ | ⟨gb, cap, cur, e, -⟩
  · injection e with e1 e2 e3
    exact q_dboot_z w h hS hD y hy hfar hm2 e2 e1 e3
  · injection e with e1 e2 e3
    by_cases h1 : y.dir.toNat ≤ D.chg.length
    · exact q_dboot_s w h hS hD y hy hfar hm2 y.dir.toNat h1 (by omega) rfl gb 0 e1
    · exact q_dboot_s w h hS hD y hy hfar hm2 D.chg.length (Nat.le_refl _) (by omega) (by unfold dback; rw [List.take_of_length_le (Nat.le_refl _), List.take_of_length_le (by omega)]) gb 0 e1
end Go.Proofs.YtgoahcmgpjacjaaGreat
