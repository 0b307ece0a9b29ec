/-
  Layer 20: what is left of the loose files of a directory.
-/
import Derived.Test.YtgoahcmgpjacjaaGreatDpH
namespace Go.Proofs.YtgoahcmgpjacjaaGreat
set_option linter.unusedSimpArgs false
set_option linter.unusedVariables false
open Go.ChangeShapes Go.WideShapes Go.ChangeAt Go.RowKit Go.Joins Go.Deep
set_option maxRecDepth 100000 in
set_option maxHeartbeats 8000000 in
theorem p_ditem_int (l : List Int) (A : Option Addr) (c k B : Nat) (w : World) (hk : k ≤ 1000000) (hr : Reads w B 1 A l.length (ints l)) :
    Calls Tryz.prog 73 #[.slice A l.length c, .int .i64 (k : Int)] w fun e w' => e = .returned (.int .i64 (l.getD k 0)) ∧ w' = w := by
  by_cases h : k < l.length
  · obtain ⟨b, off, rfl, -, hc⟩ := hr.2 (by omega)
    have hg : l.getD k 0 = l[k] := by simp [List.getD_eq_getElem?_getD, h]
    have x := hc k (.int .i64 l[k]) (by simp [ints, h])
    rw [hg]
    have h1 : ¬ (l.length : Int) ≤ (k : Int) := by omega
    have h2 : (0 : Int) ≤ (k : Int) ∧ (k : Int) < (l.length : Int) := by omega
    generalize l[k] = v at *
    clear hr hc hg
    go_enter Tryz.func73, Tryz.ntmps73
    go_wp2
    go_ret
    exact ⟨rfl, rfl⟩
  · have hg : l.getD k 0 = 0 := by simp [List.getD_eq_getElem?_getD, Nat.le_of_not_lt h]
    rw [hg]
    have h1 : (l.length : Int) ≤ (k : Int) := by omega
    clear hr hg
    go_enter Tryz.func73, Tryz.ntmps73
    go_wp2
    go_ret
    exact ⟨rfl, rfl⟩
set_option maxRecDepth 100000 in
set_option maxHeartbeats 8000000 in
theorem p_ditem_str (l : List (List UInt8)) (A : Option Addr) (c k B : Nat) (w : World) (hk : k ≤ 1000000) (hr : Reads w B 1 A l.length (dcs sfc l)) :
    Calls Tryz.prog 74 #[.slice A l.length c, .int .i64 (k : Int)] w fun e w' => e = .returned (.string ⟨(l.getD k []).toArray⟩) ∧ w' = w := by
  by_cases h : k < l.length
  · obtain ⟨b, off, rfl, -, hc⟩ := hr.2 (by omega)
    have hg : l.getD k [] = l[k] := by simp [List.getD_eq_getElem?_getD, h]
    have x := hc k (.string ⟨l[k].toArray⟩) (by rw [← enc_cells]; simp [h, encStr])
    rw [hg]
    have h1 : ¬ (l.length : Int) ≤ (k : Int) := by omega
    have h2 : (0 : Int) ≤ (k : Int) ∧ (k : Int) < (l.length : Int) := by omega
    generalize l[k] = v at *
    clear hr hc hg
    go_enter Tryz.func74, Tryz.ntmps74
    go_wp2
    go_ret
    exact ⟨rfl, rfl⟩
  · have hg : l.getD k [] = [] := by simp [List.getD_eq_getElem?_getD, Nat.le_of_not_lt h]
    rw [hg]
    have h1 : (l.length : Int) ≤ (k : Int) := by omega
    clear hr hg
    go_enter Tryz.func74, Tryz.ntmps74
    go_wp2
    go_ret
    exact ⟨rfl, rfl⟩
structure DFl (W : World) (fb : List Nat) (D : Dk) : Prop where
  fln : fb.length = D.files.length
  fl : ∀ n : Int, 0 ≤ n → n < (fb.length : Int) → Blk W (fbk fb n) 78 (flv (D.file n))
  inj : ∀ n m : Int, 0 ≤ n → n < (fb.length : Int) → 0 ≤ m → m < (fb.length : Int) → fbk fb n = fbk fb m → n = m
def DFs (fb : List Nat) (k : Nat) : Prop := ∃ n : Int, 0 ≤ n ∧ n < (fb.length : Int) ∧ k = fbk fb n
section
variable {w w' : World} {fb : List Nat} {D : Dk}
theorem DFl.touch (h : DFl w fb D) {S : Nat → Prop} (ht : Touch w w' S) (hS : ∀ k, DFs fb k → ¬ S k) : DFl w' fb D :=
  ⟨h.fln, fun n h1 h2 => (h.fl n h1 h2).touch ht (hS _ ⟨n, h1, h2, rfl⟩), h.inj⟩
theorem DFl.on (h : DFl w fb D) (hb : Below w.heap.size w w') : DFl w' fb D := h.touch (S := fun _ => False) (touch_below hb (Nat.le_refl _)) (fun _ _ h => h)
theorem DFl.put_ (h : DFl w fb D) {n : Int} (h1 : 0 ≤ n) (h2 : n < (fb.length : Int)) (a b : List UInt8) :
    ∀ X, (w.setCell ⟨fbk fb n, 0, none⟩ (.string ⟨a.toArray⟩)).setCell ⟨fbk fb n, 1, none⟩ (.string ⟨b.toArray⟩) = X → DFl X fb (D.put n (a, b)) ∧ Touch w X (DFs fb) := fun X hX => by
  obtain ⟨k1, k2⟩ := file_set (h.fl n h1 h2) a b hX
  refine ⟨⟨?_, fun m h3 h4 => ?_, h.inj⟩, k2.mono fun k _ e => ⟨n, h1, h2, e⟩⟩
  · rw [h.fln]
    exact List.length_set.symm
  · rw [dput_file D n m (a, b) h1 (by rw [← h.fln]; exact h2) h3]
    by_cases he : m = n
    · rw [if_pos he, he]
      exact k1
    · rw [if_neg he]
      exact (h.fl m h3 h4).touch k2 (fun e => he (h.inj m n h3 h4 h1 h2 e))
end
theorem cells_touch {w w' : World} {B n m : Nat} {A : Option Addr} {xs : List Value} {S : Nat → Prop} (h : Reads w B m A n xs) (hB : B ≤ w.heap.size) (ht : Touch w w' S) (hf : 0 < n → ∃ b off, A = some ⟨b, off, none⟩ ∧ ¬ S b) : Reads w' B m A n xs := by
  refine ⟨h.1, fun hn => ?_⟩
  obtain ⟨b, off, e, hb, hc⟩ := h.2 hn
  obtain ⟨b2, off2, e2, hf2⟩ := hf hn
  rw [e] at e2
  injection e2 with e2
  injection e2 with e2 e3
  subst e2
  exact ⟨b, off, e, hb, fun j u hu => (World.cell?_of_block (w := w) (ht.block b (by omega) hf2)).trans (hc j u hu)⟩
theorem dfall_step {cuts : List Int} {marks : List (List UInt8)} {l : List Ent} {i k : Nat} {D : Dk} (h : i < l.length) :
    dfall cuts marks (l.drop i) k D = if (D.file l[i].2).1 = (D.file l[i].2).2 then dfall cuts marks (l.drop (i + 1)) k D
      else dfall cuts marks (l.drop (i + 1)) (k + 1) (D.put l[i].2 (flleft (D.file l[i].2) (cuts.getD k 0) (marks.getD k []), flleft (D.file l[i].2) (cuts.getD k 0) (marks.getD k []))) := by
  rw [List.drop_eq_getElem_cons h]
  rw [dfall]
set_option maxRecDepth 100000 in
set_option maxHeartbeats 8000000 in
theorem p_dfall {D : Dk} {fb : List Nat} {bs n cc mc : Nat} {M : DataW Unit} {l : List Ent} {cA mA : Option Addr} (cuts : List Int) (marks : List (List UInt8)) (w : World) (hF : DFl w fb D) (hm : w.ownsMap Tryz.prog 9 ptE bs n M) (hi : DIs fb M l) (hok : dokL D.files.length l)
    (h1 : DOne l) (hs : DSrt l) (hnm : DNm l) (hl : l.length ≤ 1000) (hb : DBnd D) (hfs : ∀ k, DFs fb k → k ≠ bs) (hc : Reads w w.heap.size 1 cA cuts.length (ints cuts)) (hmk : Reads w w.heap.size 1 mA marks.length (dcs sfc marks))
    (hcf : 0 < cuts.length → ∃ b off, cA = some ⟨b, off, none⟩ ∧ ¬ DFs fb b) (hmf : 0 < marks.length → ∃ b off, mA = some ⟨b, off, none⟩ ∧ ¬ DFs fb b) (hmb : ∀ m ∈ marks, m.length ≤ 100000) :
    Calls Tryz.prog 52 #[.map (some bs), .slice cA cuts.length cc, .slice mA marks.length mc] w fun e w' => e = .returned (.tuple #[]) ∧ DFl w' fb (dfall cuts marks l 0 D) ∧ Touch w w' (DFs fb) := by
  have HN := Lib.hid (p_dnames w hm hi h1 (fun e he => (hok e he).1) hs (by omega))
  have HI : Hid (∀ W (k : Nat), Touch w W (DFs fb) → k ≤ 1000 → Calls Tryz.prog 73 #[.slice cA cuts.length cc, .int .i64 (k : Int)] W fun e w' => e = .returned (.int .i64 (cuts.getD k 0)) ∧ w' = W) := Lib.hid fun W k ht hk => p_ditem_int cuts cA cc k w.heap.size W (by omega) (cells_touch hc (Nat.le_refl _) ht hcf)
  have HJ : Hid (∀ W (k : Nat), Touch w W (DFs fb) → k ≤ 1000 → Calls Tryz.prog 74 #[.slice mA marks.length mc, .int .i64 (k : Int)] W fun e w' => e = .returned (.string ⟨(marks.getD k []).toArray⟩) ∧ w' = W) := Lib.hid fun W k ht hk => p_ditem_str marks mA mc k w.heap.size W (by omega) (cells_touch hmk (Nat.le_refl _) ht hmf)
  have HMb : Hid (∀ k, (marks.getD k []).length ≤ 100000) := Lib.hid fun k => by
    rw [List.getD_eq_getElem?_getD]
    cases hg : marks[k]? with
    | none => simp
    | some m => exact hmb m (List.mem_of_getElem? hg)
  have HLk : Hid (∀ W, Touch w W (DFs fb) → ∀ i (hj : i < l.length), (Instr.lookup 57 (.map (some bs)) (.string ⟨l[i].1.toArray⟩) false).run Tryz.prog W = .ok (.pointer (some ⟨fbk fb l[i].2, 0, none⟩)) W) := Lib.hid fun W ht i hj => by
    have h2 := map_look (map_touch hm ht (fun e => hfs bs e rfl)) hi l[i].1 (by have := (hnm _ (List.getElem_mem hj)).2; unfold maxLen; omega)
    unfold fpt at h2
    rw [h1.find _ (List.getElem_mem hj), if_pos (hok _ (List.getElem_mem hj)).1] at h2
    exact h2
  have HFb : Hid (∀ k, DFs fb k → k < w.heap.size) := Lib.hid fun k ⟨n, a, b, e⟩ => by rw [e]; exact (hF.fl n a b).lt
  have HOk := Lib.hid hok
  have HB0 := Lib.hid hb
  have HF0 := Lib.hid hF
  obtain ⟨nc, hnc⟩ : ∃ x, cuts.length = x := ⟨_, rfl⟩
  obtain ⟨nk, hnk⟩ : ∃ x, marks.length = x := ⟨_, rfl⟩
  rw [hnc] at HI
  rw [hnk] at HJ
  rw [hnc, hnk]
  obtain ⟨F, hFF⟩ : ∃ F, dfall cuts marks l 0 D = F := ⟨_, rfl⟩
  rw [hFF]
  have HFF := Lib.hid hFF
  have hll : (l.map (·.1)).length = l.length := List.length_map ..
  clear hF hm hi hok h1 hs hnm hb hfs hc hmk hcf hmf hmb hnc hnk hFF
  go_enter Tryz.func52, Tryz.ntmps52
  go_wp2_with (first
    | (go_at_call 53; (with_reducible refine HN.out.mono ?_); rintro e w1 ⟨A, c, rfl, hx⟩; rw [hll]; have HX := Lib.hid hx; clear hx)
    | fail)
  obtain ⟨hAc, hRd, hNew, hB1⟩ := HX.out
  have HT1 : Hid (Touch w w1 (DFs fb)) := Lib.hid (touch_below hB1 (Nat.le_refl _))
  have HRow : Hid (∀ W, Touch w1 W (DFs fb) → ∀ i (hj : i < l.length), ∃ b off, A = some ⟨b, off, none⟩ ∧ W.cell? ⟨b, off + i, none⟩ = some (.string ⟨l[i].1.toArray⟩)) := Lib.hid fun W ht i hj => by
    obtain ⟨b2, o2, e2, hb2⟩ := hNew (by rw [hll]; omega)
    obtain ⟨b, off, e, -, h3⟩ := (cells_touch hRd (Nat.le_refl _) ht (fun _ => ⟨b2, o2, e2, fun hk => by have := HFb.out _ hk; omega⟩)).2 (by rw [hll]; omega)
    refine ⟨b, off, e, h3 i _ ?_⟩
    rw [← enc_cells]
    simp [hj, encStr]
  have HF1 : Hid (DFl w1 fb D) := Lib.hid (HF0.out.on hB1)
  clear HX hAc hRd hNew hB1 HN HF0
  obtain ⟨nl, hnl⟩ : ∃ x, l.length = x := ⟨_, rfl⟩
  have HL := Lib.hid hnl
  rw [hnl] at hl hll ⊢
  clear hnl hll
  go_loopw [6, 8, 9, 13] (fun av _ _ iv wr => ∃ (i k : Nat) (E : Dk), i ≤ nl ∧ k ≤ i ∧ iv = .int .i64 (i : Int) ∧ av = .int .i64 (k : Int) ∧ Hid (dfall cuts marks (l.drop i) k E = F) ∧ Hid (DFl wr fb E) ∧ Hid (DBnd E) ∧ Hid (Touch w1 wr (DFs fb))) (fun _ _ _ iv _ => nl - (intOf iv).toNat)
  case atStart => exact ⟨0, 0, D, by omega, by omega, rfl, rfl, by rw [List.drop_zero]; exact HFF, HF1, HB0, Lib.hid (Touch.refl _ _)⟩
  case round =>
    clear HF1 HB0
    obtain ⟨i, k, E, hi, hki, rfl, rfl, HE, HFl, HBd, HT⟩ := hrel
    by_cases hlt : i < nl
    · have hil : i < l.length := by rw [HL.out]; exact hlt
      obtain ⟨b, off, rfl, hcell⟩ := HRow.out wr HT.out i hil
      have hlk := HLk.out wr (HT1.out.trans HT.out) i hil
      have hst := HE.out
      rw [dfall_step hil] at hst
      have hf0 := (HOk.out _ (List.getElem_mem hil)).1
      have hf9 := (HOk.out _ (List.getElem_mem hil)).2
      have hfn : l[i].2 < (fb.length : Int) := by
        have e1 := HFl.out.fln
        have e2 : D.files.length = E.files.length := by
          have := HFF.out
          have e3 := dfall_files cuts marks l 0 D
          have e4 := dfall_files cuts marks (l.drop i) k E
          rw [HE.out] at e4
          rw [this] at e3
          omega
        omega
      have hfl := HFl.out.fl _ hf0 hfn
      have hbd := HBd.out.file l[i].2
      rw [dfile_eta] at hfl hst
      generalize l[i].1 = nm at *
      obtain ⟨q, hq⟩ : ∃ q, l[i].2 = q := ⟨_, rfl⟩
      rw [hq] at hf0 hfn hfl hbd hst hlk
      have HQ : Hid (∀ W (a b : List UInt8), DFl W fb E → ∀ X, (W.setCell ⟨fbk fb q, 0, none⟩ (.string ⟨a.toArray⟩)).setCell ⟨fbk fb q, 1, none⟩ (.string ⟨b.toArray⟩) = X → DFl X fb (E.put q (a, b)) ∧ Touch W X (DFs fb)) := Lib.hid fun W a b hW => hW.put_ hf0 hfn a b
      have HBp : Hid (∀ f : Fl, f.1.length ≤ 1000000 ∧ f.2.length ≤ 1000000 → DBnd (E.put q f)) := Lib.hid fun f hf => HBd.out.put_ q hf
      generalize (E.file q).1 = fa at *
      generalize (E.file q).2 = ft at *
      generalize hfq : fbk fb q = p at *
      have x0 := hfl.cell 0
      have x1 := hfl.cell 1
      unfold flv at x0 x1
      simp only [List.getElem?_toArray, List.getElem?_cons_zero, List.getElem?_cons_succ] at x0 x1
      have hii : (0 : Int) ≤ (i : Int) ∧ (i : Int) < (nl : Int) := by omega
      have HP := Lib.hid fun W => p_flloose_any fa ft W
      have HFd := Lib.hid hfl
      have hpl := hfl.lt
      have hwi : IntKind.i64.wrap ((i : Int) + 1) = (i : Int) + 1 := by rw [IntKind.wrap_i64]; omega
      by_cases hd : fa = ft
      · subst hd
        have hdd : decide (fa ≠ fa) = false := decide_eq_false (fun h => h rfl)
        rw [if_pos rfl] at hst
        rw [hdd] at HP
        have HE2 := Lib.hid hst
        clear hst hf0 hf9 hfn hbd hfl HE HQ HBp hq hfq hdd hil
        go_wp2_with (first
          | (go_at_call 71; (with_reducible refine (HP.out _).mono ?_); rintro e w2 ⟨rfl, hb2⟩; have HT2 := Lib.hid (HT.out.trans (touch_below hb2 (Nat.le_refl _))); have HF2 := Lib.hid (HFl.out.on hb2); clear hb2)
          | fail)
        go_roundw
        case rel => exact ⟨i + 1, k, E, by omega, by omega, iv (by omega), rfl, HE2, HF2, HBd, HT2⟩
        case measure => simp only [intOf]; omega
      · have hdd : decide (fa ≠ ft) = true := decide_eq_true hd
        rw [if_neg hd] at hst
        rw [hdd] at HP
        have hlf := flleft_max (fa, ft) (cuts.getD k 0) (marks.getD k []) hbd.1 hbd.2
        have HFa := Lib.hid fun W => p_flfall_any fa ft (marks.getD k []) (cuts.getD k 0) W (by omega) (by omega) (by have := HMb.out k; omega)
        unfold flc at HFa
        dsimp only at HFa
        have hk1 : k ≤ 1000 := by omega
        have HI1 : Hid (∀ W, Touch w1 W (DFs fb) → _) := Lib.hid fun W ht => HI.out W k (HT1.out.trans ht) hk1
        have HJ1 : Hid (∀ W, Touch w1 W (DFs fb) → _) := Lib.hid fun W ht => HJ.out W k (HT1.out.trans ht) hk1
        generalize cuts.getD k 0 = cut at *
        generalize marks.getD k [] = mark at *
        generalize flleft (fa, ft) cut mark = lf at *
        have HE2 := Lib.hid hst
        have HBd2 := Lib.hid (HBp.out (lf, lf) ⟨hlf, hlf⟩)
        have hwk : IntKind.i64.wrap ((k : Int) + 1) = (k : Int) + 1 := by rw [IntKind.wrap_i64]; omega
        clear hst hf0 hf9 hfn hbd hfl HE HBp hq hdd hlf hil
        go_wp2_with (first
          | (go_at_call 71; (with_reducible refine (HP.out _).mono ?_); rintro e w2 ⟨rfl, hb2⟩; have HT2 := Lib.hid (HT.out.trans (touch_below hb2 (Nat.le_refl _))); have HF2 := Lib.hid (HFl.out.on hb2); have hg2 := HFd.out.below hb2 hpl; have HG2 := Lib.hid hg2; have y0 := hg2.cell 0; have y1 := hg2.cell 1; unfold flv at y0 y1; simp only [List.getElem?_toArray, List.getElem?_cons_zero, List.getElem?_cons_succ] at y0 y1; have hp2 := hg2.lt; have HT2d := Lib.hid (HT2.out.trans (touch_below ((Below.refl w2.heap.size w2).drew) (Nat.le_refl _))); clear hb2 hg2 x0 x1)
          | fail)
        go_region_with (first
          | (go_at_call 73; (with_reducible refine (HI1.out _ HT2d.out).mono ?_); rintro e w9 ⟨rfl, hw9⟩; obtain rfl := hw9)
          | (go_at_call 74; (with_reducible refine (HJ1.out _ HT2d.out).mono ?_); rintro e w9 ⟨rfl, hw9⟩; obtain rfl := hw9)
          | (go_at_call 72; (with_reducible refine (HFa.out _).mono ?_); rintro e w4 ⟨rfl, hb4⟩; have HT4 := Lib.hid (HT2d.out.trans (touch_below hb4 (Nat.le_refl _))); have hg4 := HG2.out.drew.below hb4 hp2; have v0 := hg4.cell 0; have v1 := hg4.cell 1; have z0 := hg4.frozen 0; have z1 := hg4.frozen 1; unfold flv at v0 v1; simp only [List.getElem?_toArray, List.getElem?_cons_zero, List.getElem?_cons_succ] at v0 v1; have HX := Lib.hid (HQ.out w4 lf lf ((HF2.out.on ((Below.refl w2.heap.size w2).drew)).on hb4)); clear hb4 hg4))
        all_goals go_wp2_with fail
        all_goals go_roundw
        all_goals first | exact ⟨i + 1, k + 1, E.put q (lf, lf), by omega, by omega, iv (by omega), iv (by omega), HE2, Lib.hid (HX.out _ rfl).1, HBd2, Lib.hid (HT4.out.trans (HX.out _ rfl).2)⟩ | (simp only [intOf]; omega)
    · obtain rfl : i = nl := by omega
      have hz : ¬ (i : Int) < (i : Int) := by omega
      have he := HE.out
      rw [← HL.out, List.drop_length] at he
      have HE2 := Lib.hid he
      clear he
      go_wp2
      go_end0
      exact ⟨rfl, by rw [← HE2.out]; exact HFl.out, HT1.out.trans HT.out⟩
end Go.Proofs.YtgoahcmgpjacjaaGreat
