/-
  Layer 20, the document's: Boot (ahead of the code's landing).
-/
import Derived.Test.YtgoahcmgpjacjaaGreatDisU
namespace Go.Proofs.YtgoahcmgpjacjaaGreat
set_option linter.unusedSimpArgs false
set_option linter.unusedVariables false
open Go.ChangeShapes Go.WideShapes Go.ChangeAt Go.RowKit Go.Joins Go.Deep
set_option maxRecDepth 100000 in
set_option maxHeartbeats 8000000 in
theorem dref_boot_any (D : Dk) (a : DAd) (kd : Int) (cuts : List Int) (marks : List (List UInt8)) (cA mA : Option Addr) (cn cc mn mc : Nat) (w : World) (hM : DkMem w D a) (hw : D.wf) (hS : D.safe.length ≤ 100000) (hm : D.chg.length ≤ 100000) (hN : D.files.length ≤ 1000000) (hB : DBnd D) (hcu : cuts.length = cn) (hcR : Reads w w.heap.size 1 cA cn (ints cuts)) (hma : marks.length = mn) (hmR : Reads w w.heap.size 1 mA mn (dcs sfc marks)) (hmb : ∀ m ∈ marks, m.length ≤ 1000000) (hcb : cn ≤ 9223372036854775807 ∧ mn ≤ 9223372036854775807) :
    Calls Tryz.prog 30 #[.agg (dkc D a), .agg #[.int .i64 kd, .slice cA cn cc, .slice mA mn mc]] w fun e w' => ∃ a', e = .returned (.agg (dkc (dbootF D kd cuts marks) a')) ∧ DkMem w' (dbootF D kd cuts marks) a' ∧ Below w.heap.size w w' ∧ DkN w w' a a' := by
  have hbx := Blk.new w 33 (dkc D a)
  have hb1 := (Below.refl w.heap.size w).alloc (Nat.le_refl _) (.cells (dkc D a) 33)
  have hcx := Blk.new (w.alloc (.cells (dkc D a) 33)) 41 #[.int .i64 kd, .slice cA cn cc, .slice mA mn mc]
  have hb2 := hb1.alloc (by simp only [World.size_alloc]; omega) (.cells #[.int .i64 kd, .slice cA cn cc, .slice mA mn mc] 41)
  have hrx := Blk.new ((w.alloc (.cells (dkc D a) 33)).alloc (.cells #[.int .i64 kd, .slice cA cn cc, .slice mA mn mc] 41)) 33 #[.slice none 0 0, .slice none 0 0, .slice none 0 0, .slice none 0 0, .int .i64 0, .int .i64 0, .int .i64 0, .bool false]
  have hb3 := hb2.alloc (by simp only [World.size_alloc]; omega) (.cells #[.slice none 0 0, .slice none 0 0, .slice none 0 0, .slice none 0 0, .int .i64 0, .int .i64 0, .int .i64 0, .bool false] 33)
  simp only [World.size_alloc] at hcx hrx
  have hD0 : DBt w (((w.alloc (.cells (dkc D a) 33)).alloc (.cells #[.int .i64 kd, .slice cA cn cc, .slice mA mn mc] 41)).alloc (.cells #[.slice none 0 0, .slice none 0 0, .slice none 0 0, .slice none 0 0, .int .i64 0, .int .i64 0, .int .i64 0, .bool false] 33)) D a #[.int .i64 kd, .slice cA cn cc, .slice mA mn mc] a.a3 D.safe :=
    ⟨(hbx.alloc _).alloc _, hcx.alloc _, hrx, hM.on hb3, dReads_on hM.safe hb3, hb3⟩
  have HD0 := Lib.hid hD0
  clear hD0 hbx hcx hrx hb1 hb2 hb3
  -- the changes' row, and the directory by steps
  have HCg : Hid (0 < D.chg.length → ∃ b off, a.a4 = some ⟨b, off, none⟩ ∧ b < w.heap.size ∧ ∀ i (hi : i < D.chg.length), w.cell? ⟨b, off + i * 3, none⟩ = some (.string ⟨D.chg[i].1.toArray⟩) ∧ w.cell? ⟨b, off + i * 3 + 1, none⟩ = some (.string ⟨D.chg[i].2.1.toArray⟩) ∧ w.cell? ⟨b, off + i * 3 + 2, none⟩ = some (.int .i64 D.chg[i].2.2)) := Lib.hid fun h => chg_cells hM.chg rfl h
  obtain ⟨LF, hLF⟩ : ∃ LF : Nat → List Ent, ∀ k, LF k = (D.chg.take k).foldl dchgd D.safe := ⟨_, fun _ => rfl⟩
  have HL0 : Hid (LF 0 = D.safe) := Lib.hid (by rw [hLF, List.take_zero]; rfl)
  have HLS : Hid (∀ k (h : k < D.chg.length), LF (k + 1) = dchgd (LF k) D.chg[k]) := Lib.hid fun k h => by rw [hLF, hLF]; exact dfold_snoc _ _ k h
  have HLL : Hid (∀ k, (LF k).length ≤ 200000) := Lib.hid fun k => by
    rw [hLF]
    have := dfold_len (D.chg.take k) D.safe
    rw [List.length_take] at this
    omega
  have HLE : Hid (∀ k, k ≤ D.chg.length → ((k : Int) ≤ kd ∨ k = 0) → (k = D.chg.length ∨ ¬ (k : Int) < kd) → LF k = dback D kd) := Lib.hid fun k h1 h2 h3 => by
    rw [hLF]
    unfold dback
    rcases h3 with h3 | h3
    · rw [List.take_of_length_le (by omega : D.chg.length ≤ k), List.take_of_length_le (by omega)]
    · rw [show k = kd.toNat from by omega]
  have hk4 := hM.k4
  clear hLF
  have HMk := Lib.hid hM
  have HSk3 := Lib.hid hM.k3
  have HSm := Lib.hid hm
  obtain ⟨m, hmm⟩ : ∃ m, D.chg.length = m := ⟨_, rfl⟩
  go_enter Tryz.func30, Tryz.ntmps30
  go_upto_region 2 with fail
  go_step
  go_step
  go_step
  go_step
  go_step
  go_step
  go_step
  go_cut [5] (fun lv wx => ∃ (A : Option Addr) (c : Nat), lv = .slice A (dback D kd).length c ∧ (dback D kd).length ≤ c ∧ Hid (DBt w wx D a #[.int .i64 kd, .slice cA cn cc, .slice mA mn mc] A (dback D kd)) ∧ Hid (ANs w wx a A))
  case first =>
    go_wp2
    go_loopw [5, 6] (fun lv iv wr => ∃ (k : Nat) (A : Option Addr) (c : Nat), k ≤ m ∧ ((k : Int) ≤ kd ∨ k = 0) ∧ iv = .int .i64 (k : Int) ∧ lv = .slice A (LF k).length c ∧ (LF k).length ≤ c ∧ Hid (DBt w wr D a #[.int .i64 kd, .slice cA cn cc, .slice mA mn mc] A (LF k)) ∧ Hid (ANs w wr a A)) (fun _ iv _ => m - (intOf iv).toNat)
    case atStart => exact ⟨0, a.a3, a.c3, by omega, .inr rfl, rfl, by rw [HL0.out], by rw [HL0.out]; exact HSk3.out, by rw [HL0.out]; exact HD0, Lib.hid (.three w _ a)⟩
    case round =>
      obtain ⟨k, A, c, hk, hkd, rfl, rfl, hkc, HD, HAs⟩ := hrel
      have x3 := HD.out.box.cell 3; simp only [List.getElem?_toArray, List.getElem?_cons_zero, List.getElem?_cons_succ] at x3
      have y0 := HD.out.cho.cell 0; simp only [List.getElem?_toArray, List.getElem?_cons_zero, List.getElem?_cons_succ] at y0
      rw [hmm] at x3
      by_cases hlt : k < m
      · by_cases hlt2 : (k : Int) < kd
        · have hkl : k < D.chg.length := by omega
          obtain ⟨b, off, ha4, hb, hcell⟩ := HCg.out (by omega)
          obtain ⟨d0, d1, d2⟩ := hcell k hkl
          have c0 := (HD.out.below.cell (p := ⟨b, off + k * 3, none⟩) hb).trans d0
          have c1 := (HD.out.below.cell (p := ⟨b, off + k * 3 + 1, none⟩) hb).trans d1
          have c2 := (HD.out.below.cell (p := ⟨b, off + k * 3 + 2, none⟩) hb).trans d2
          have hS2 := HLS.out k hkl
          have hki : (0 : Int) ≤ (k : Int) ∧ (k : Int) < (m : Int) := by omega
          rw [ha4] at x3
          clear hcell d0 d1 d2 ha4
          generalize D.chg[k] = cg at *
          obtain ⟨z, x, y⟩ := cg
          dsimp only at c0 c1 c2
          have Hch := Lib.hid (dref_chgd_any (LF k) z x y A (LF k).length c wr rfl (by have := HLL.out k; omega) hkc HD.out.row)
          have HS2 := Lib.hid hS2
          clear hS2
          go_wp2_with (first | (go_at_call 64; (with_reducible refine Hch.out.mono ?_); rintro e w2 ⟨A2, c9, rfl, hc9, hr9, hb9, hn9⟩; have HN9 := Lib.hid (AN.mono (w := w) hn9 HD.out.below.size (Nat.le_refl _)); have HAt := Lib.hid (HAs.out.mono (Nat.le_refl _) hb9.size); clear hn9; have HD9 := Lib.hid (HD.out.next hb9 hr9); clear hr9 hb9) | fail)
          go_roundw
          case rel => exact ⟨k + 1, A2, c9, by omega, .inl (by omega), iv (by omega), by rw [HS2.out], by rw [HS2.out]; exact hc9, by rw [HS2.out]; exact HD9, Lib.hid (HN9.out.up HAt.out)⟩
          case measure => simp only [intOf]; omega
        · have hki : (k : Int) < (m : Int) := by omega
          have hE := HLE.out k (by omega) (by omega) (by omega)
          go_wp2_with fail
          go_meet
          case rel => exact ⟨A, c, by rw [← hE], by rw [← hE]; exact hkc, by rw [← hE]; exact HD, HAs⟩
      · have hki : ¬ (k : Int) < (m : Int) := by omega
        have hE := HLE.out k (by omega) (by omega) (by omega)
        go_wp2_with fail
        go_meet
        case rel => exact ⟨A, c, by rw [← hE], by rw [← hE]; exact hkc, by rw [← hE]; exact HD, HAs⟩
  case rest =>
    obtain ⟨A, c, rfl, hc, HD, HAs⟩ := hcut
    have HFin : Hid (dbootF D kd cuts marks = { dfall cuts marks (dback D kd) 0 D with dir := dback D kd, safe := dback D kd, chg := [], dead := false, armed := 0 }) := Lib.hid rfl
    have HOk := Lib.hid (dback_ok hw kd)
    have HNf : Hid (D.files.length ≤ 1000000) := Lib.hid hN
    have HBd := Lib.hid hB
    have HCu : Hid (∀ k, k < cn → ∃ bc oc, cA = some ⟨bc, oc, none⟩ ∧ bc < w.heap.size ∧ w.cell? ⟨bc, oc + k, none⟩ = some (.int .i64 (cuts.getD k 0))) := Lib.hid fun k hk => by
      obtain ⟨bc, oc, e, h1, h2⟩ := hcR.2 (by omega)
      refine ⟨bc, oc, e, h1, h2 k _ ?_⟩
      have : k < cuts.length := by omega
      simp [ints, List.getD_eq_getElem?_getD, List.getElem?_eq_getElem this]
    have HMa : Hid (∀ k, k < mn → ∃ bc oc, mA = some ⟨bc, oc, none⟩ ∧ bc < w.heap.size ∧ w.cell? ⟨bc, oc + k, none⟩ = some (.string ⟨(marks.getD k []).toArray⟩)) := Lib.hid fun k hk => by
      obtain ⟨bc, oc, e, h1, h2⟩ := hmR.2 (by omega)
      refine ⟨bc, oc, e, h1, h2 k _ ?_⟩
      have hk2 : k < marks.length := by omega
      have := dcs_at sfc 1 sfc_len marks k hk2 0 (by omega)
      rw [Nat.mul_one, Nat.add_zero] at this
      rw [this, List.getD_eq_getElem?_getD, List.getElem?_eq_getElem hk2]
      rfl
    have HCu0 : Hid (∀ k, ¬ k < cn → cuts.getD k 0 = 0) := Lib.hid fun k hk => by rw [List.getD_eq_getElem?_getD, List.getElem?_eq_none (by omega)]; rfl
    have HMa0 : Hid (∀ k, ¬ k < mn → marks.getD k [] = []) := Lib.hid fun k hk => by rw [List.getD_eq_getElem?_getD, List.getElem?_eq_none (by omega)]; rfl
    have HMb2 : Hid (∀ k, (marks.getD k []).length ≤ 1000000) := Lib.hid fun k => by
      by_cases hk : k < mn
      · have hk2 : k < marks.length := by omega
        rw [List.getD_eq_getElem?_getD, List.getElem?_eq_getElem hk2]
        exact hmb _ (List.getElem_mem hk2)
      · rw [HMa0.out k hk]
        simp
    have hcb1 := hcb.1
    have hcb2 := hcb.2
    have hnl : (dback D kd).length ≤ 1000000 := by
      unfold dback
      have := dfold_len (D.chg.take kd.toNat) D.safe
      rw [List.length_take] at this
      omega

    generalize dback D kd = l at *
    clear HCg HL0 HLS HLL HLE HMk hM hw hS hm hN hB hcR hmR hmb hk4 HSk3 HSm HD0 hmm LF hcu hma hcb
    obtain ⟨n, hn⟩ : ∃ n, l.length = n := ⟨_, rfl⟩
    obtain ⟨N, hNl⟩ : ∃ N, D.files.length = N := ⟨_, rfl⟩
    rw [hn] at hc hnl
    rw [hn]
    rw [hNl] at HNf
    have HN1 := Lib.hid hn
    have HN2 := Lib.hid hNl
    have H00 : Hid (dfall cuts marks (l.drop 0) 0 D = dfall cuts marks l 0 D) := Lib.hid rfl
    generalize dfall cuts marks l 0 D = FAL at *
    clear hn hNl
    go_wp2
    go_loopw [7, 8, 9, 10, 11] (fun kv iv fv v10 v11 wr => ∃ (i k : Nat) (E : Dk) (b : DAd), i ≤ n ∧ k ≤ i ∧ iv = .int .i64 (i : Int) ∧ kv = .int .i64 (k : Int) ∧ Hid (dfall cuts marks (l.drop i) k E = FAL) ∧ Hid (E.files.length = N) ∧ Hid (DBnd E) ∧ Hid (DBt w wr E b #[.int .i64 kd, .slice cA cn cc, .slice mA mn mc] A l) ∧ Hid (DkB w wr a b A)) (fun _ iv _ _ _ _ => n - (intOf iv).toNat)
    case atStart => exact ⟨0, 0, D, a, by omega, by omega, rfl, rfl, H00, HN2, HBd, HD, Lib.hid ⟨DkN.refl w _ a, HAs.out⟩⟩
    case round =>
      obtain ⟨i, k, E, b, hi, hki, rfl, rfl, HI, HN3, HB3, HD3, HKb⟩ := hrel
      by_cases hlt : i < n
      · have hil : i < l.length := by have := HN1.out; omega
        have hn0 : 0 < n := by omega
        obtain ⟨bl, ol, eA, hbl, hne, hrc⟩ := row_apart efc_text HD3.out.row rfl HD3.out.box (dkc_text E b) (by omega)
        have d1 : wr.cell? ⟨bl, ol + i * 2 + 1, none⟩ = some (.int .i64 l[i].2) := by
          have := hrc (i * 2 + 1) _ (dcs_at efc 2 efc_len l i hil 1 (by omega))
          rw [← Nat.add_assoc] at this
          exact this
        clear hrc
        subst eA
        have hv := HOk.out l[i] (List.getElem_mem hil)
        have hdr : dfall cuts marks (l.drop i) k E = if (E.file l[i].2).1 = (E.file l[i].2).2 then dfall cuts marks (l.drop (i + 1)) k E else dfall cuts marks (l.drop (i + 1)) (k + 1) (E.put l[i].2 (flleft (E.file l[i].2) (cuts.getD k 0) (marks.getD k []), flleft (E.file l[i].2) (cuts.getD k 0) (marks.getD k []))) := by
          rw [List.drop_eq_getElem_cons hil]
          rfl
        rw [HI.out] at hdr
        generalize l[i].2 = v at *
        obtain ⟨vn, rfl⟩ := Int.eq_ofNat_of_zero_le hv.1
        have hvN : vn < N := by have := HN2.out; omega
        have hvl : vn < E.files.length := by have := HN3.out; omega
        have hbnd := HB3.out.file (vn : Int)
        obtain ⟨bf, of, ef, hbf, hfc⟩ := fl_cells HD3.out.mem.files rfl (by omega)
        obtain ⟨e0, e1⟩ := hfc vn hvl
        rw [show E.files[vn] = E.file (vn : Int) from (dfile_at hvl).symm] at e0 e1
        clear hfc
        obtain ⟨⟨fa, fb⟩, hfile⟩ : ∃ x, E.file (vn : Int) = x := ⟨_, rfl⟩
        rw [hfile] at e0 e1 hdr hbnd
        dsimp only at e0 e1 hdr hbnd
        have x0 := HD3.out.box.cell 0
        simp only [List.getElem?_toArray, List.getElem?_cons_zero] at x0
        rw [HN3.out, ef] at x0
        have hgl : w.heap.size < wr.heap.size := HD3.out.box.lt
        have hii : (0 : Int) ≤ (i : Int) ∧ (i : Int) < (n : Int) := by omega
        have hvi : (0 : Int) ≤ (vn : Int) ∧ (vn : Int) < (N : Int) := by omega
        have HDR := Lib.hid hdr
        have HHv := Lib.hid hv
        clear hdr hv ef hfile hil
        go_wp2
        refine wp_region_held_drew (S := (fun W9 => Below wr.heap.size wr W9)) (by kernel_rfl) (((Below.refl wr.heap.size wr).drew)) (fun hHeld => ?_)
        refine wpAnyH_take (i := 0) (oi := _) (v := ?_) rfl (by kernel_rfl) (by kernel_rfl) (by kernel_rfl) (fun _ _ _ h => h) (Or.inl ⟨by rfl, ?_⟩) hHeld ?_
        rotate_left
        · (intro wz hSw; go_simp; try (with_reducible rfl))
        (try dsimp only [List.getElem_toArray, List.getElem_cons_zero, List.getElem_cons_succ]); (try simp only [Act.put, List.setIfInBounds_toArray, List.set_cons_zero, List.set_cons_succ])
        refine wpAnyH_take (i := 1) (oi := _) (v := ?_) rfl (by kernel_rfl) (by kernel_rfl) (by kernel_rfl) (fun _ _ _ h => h) (Or.inl ⟨by rfl, ?_⟩) hHeld ?_
        rotate_left
        · (intro wz hSw; have k0 := (hSw.cell (p := ⟨w.heap.size, 0, none⟩) hgl).trans x0; go_simp; try (with_reducible rfl))
        (try dsimp only [List.getElem_toArray, List.getElem_cons_zero, List.getElem_cons_succ]); (try simp only [Act.put, List.setIfInBounds_toArray, List.set_cons_zero, List.set_cons_succ])
        refine wpAnyH_take (i := 2) (oi := _) (v := ?_) rfl (by kernel_rfl) (by kernel_rfl) (by kernel_rfl) (fun _ _ _ h => h) (Or.inl ⟨by rfl, ?_⟩) hHeld ?_
        rotate_left
        · (intro wz hSw; go_simp; try (with_reducible rfl))
        (try dsimp only [List.getElem_toArray, List.getElem_cons_zero, List.getElem_cons_succ]); (try simp only [Act.put, List.setIfInBounds_toArray, List.set_cons_zero, List.set_cons_succ])
        refine wpAnyH_take (i := 3) (oi := _) (v := ?_) rfl (by kernel_rfl) (by kernel_rfl) (by kernel_rfl) (fun _ _ _ h => h) (Or.inl ⟨by rfl, ?_⟩) hHeld ?_
        rotate_left
        · (intro wz hSw; go_simp; try (with_reducible rfl))
        (try dsimp only [List.getElem_toArray, List.getElem_cons_zero, List.getElem_cons_succ]); (try simp only [Act.put, List.setIfInBounds_toArray, List.set_cons_zero, List.set_cons_succ])
        refine wpAnyH_take (i := 4) (oi := _) (v := ?_) rfl (by kernel_rfl) (by kernel_rfl) (by kernel_rfl) (fun _ _ _ h => h) (Or.inl ⟨by rfl, ?_⟩) hHeld ?_
        rotate_left
        · (intro wz hSw; go_simp; try (with_reducible rfl))
        (try dsimp only [List.getElem_toArray, List.getElem_cons_zero, List.getElem_cons_succ]); (try simp only [Act.put, List.setIfInBounds_toArray, List.set_cons_zero, List.set_cons_succ])
        refine wpAnyH_take (i := 5) (oi := _) (v := ?_) rfl (by kernel_rfl) (by kernel_rfl) (by kernel_rfl) (fun _ _ _ h => h) (Or.inl ⟨by rfl, ?_⟩) hHeld ?_
        rotate_left
        · (intro wz hSw; go_simp; try (with_reducible rfl))
        (try dsimp only [List.getElem_toArray, List.getElem_cons_zero, List.getElem_cons_succ]); (try simp only [Act.put, List.setIfInBounds_toArray, List.set_cons_zero, List.set_cons_succ])
        refine wpAnyH_take (i := 6) (oi := _) (v := ?_) rfl (by kernel_rfl) (by kernel_rfl) (by kernel_rfl) (fun _ _ _ h => h) (Or.inl ⟨by rfl, ?_⟩) hHeld ?_
        rotate_left
        · (intro wz hSw; have k1 := (hSw.cell (p := ⟨bl, ol + i * 2 + 1, none⟩) hbl).trans d1; go_simp; try (with_reducible rfl))
        (try dsimp only [List.getElem_toArray, List.getElem_cons_zero, List.getElem_cons_succ]); (try simp only [Act.put, List.setIfInBounds_toArray, List.set_cons_zero, List.set_cons_succ])
        refine wpAnyH_take (i := 7) (oi := _) (v := ?_) rfl (by kernel_rfl) (by kernel_rfl) (by kernel_rfl) (fun _ _ _ h => h) (Or.inl ⟨by rfl, ?_⟩) hHeld ?_
        rotate_left
        · (intro wz hSw; go_simp; try (with_reducible rfl))
        (try dsimp only [List.getElem_toArray, List.getElem_cons_zero, List.getElem_cons_succ]); (try simp only [Act.put, List.setIfInBounds_toArray, List.set_cons_zero, List.set_cons_succ])
        refine wpAnyH_take (i := 8) (oi := _) (v := ?_) rfl (by kernel_rfl) (by kernel_rfl) (by kernel_rfl) (fun _ _ _ h => h) (Or.inl ⟨by rfl, ?_⟩) hHeld ?_
        rotate_left
        · (intro wz hSw; have m0 := (hSw.cell (p := ⟨bf, of + vn * 2, none⟩) hbf).trans e0; have m1 := (hSw.cell (p := ⟨bf, of + vn * 2 + 1, none⟩) hbf).trans e1; go_simp; try (with_reducible rfl))
        (try dsimp only [List.getElem_toArray, List.getElem_cons_zero, List.getElem_cons_succ]); (try simp only [Act.put, List.setIfInBounds_toArray, List.set_cons_zero, List.set_cons_succ])
        refine wpAnyH_ready (rs := [9]) (by kernel_rfl) (by simp) ?_
        refine AllReadyH.cons (o := _) rfl (fun K hK => ?_) AllReadyH.nil
        go_simp
        refine hK.out _ _ ((hHeld.alloc hHeld.size _)) (fun hH => ?_)
        clear hK K hHeld
        have hHeld := hH
        clear hH
        (try dsimp only [List.getElem_toArray, List.getElem_cons_zero, List.getElem_cons_succ]); (try simp only [Act.put, List.setIfInBounds_toArray, List.set_cons_zero, List.set_cons_succ])
        refine wpAnyH_ready (rs := [10]) (by kernel_rfl) (by simp) ?_
        refine AllReadyH.cons (o := _) rfl (fun K hK => ?_) AllReadyH.nil
        go_simp
        refine hK.out _ _ ((by go_grown)) (fun hH => ?_)
        clear hK K hHeld
        have hHeld := hH
        clear hH
        (try dsimp only [List.getElem_toArray, List.getElem_cons_zero, List.getElem_cons_succ]); (try simp only [Act.put, List.setIfInBounds_toArray, List.set_cons_zero, List.set_cons_succ])
        refine wpAnyH_done (by kernel_rfl) ?_ _
        have HKc := Lib.hid (HKb.out.late hHeld.size)
        have hF : Blk (wr.alloc (.cells #[.string ⟨fa.toArray⟩, .string ⟨fb.toArray⟩] 91)).drew wr.heap.size 91 #[.string ⟨fa.toArray⟩, .string ⟨fb.toArray⟩] := (Blk.new wr _ _).drew
        have hD4 := HD3.out.on hHeld
        have d4 := (hHeld.cell (p := ⟨bl, ol + i * 2 + 1, none⟩) hbl).trans d1
        have hbl4 := Nat.lt_of_lt_of_le hbl hHeld.size
        have hge : wr.heap.size ≠ w.heap.size := by omega
        clear hHeld x0 d1 hbl hgl hbf e0 e1 hvi HD3
        generalize (wr.alloc (.cells #[.string ⟨fa.toArray⟩, .string ⟨fb.toArray⟩] 91)).drew = W4 at *
        generalize wr.heap.size = gf at *
        have hgf := hF.lt
        have f0 := hF.cell 0
        have f1 := hF.cell 1
        simp only [List.getElem?_toArray, List.getElem?_cons_zero, List.getElem?_cons_succ] at f0 f1
        have HD4 := Lib.hid hD4
        clear hF hD4
        by_cases hs : fa = fb
        · subst hs
          have q1 : (fa == fa) = true := beq_self_eq_true _
          have HI2 : Hid (dfall cuts marks (l.drop (i + 1)) k E = FAL) := Lib.hid (by rw [HDR.out, if_pos rfl])
          go_wp2
          go_roundw
          case rel => exact ⟨i + 1, k, E, b, by omega, by omega, iv (by omega), rfl, HI2, HN3, HB3, HD4, HKc⟩
          case measure => simp only [intOf]; omega
        · have q1 : (fa == fb) = false := by rw [beq_eq_false_iff_ne]; exact hs
          have hdr := HDR.out
          rw [if_neg hs] at hdr
          have hlf := flleft_max (fa, fb) (cuts.getD k 0) (marks.getD k []) hbnd.1 hbnd.2
          have Hfall := fun W => flref_fall_any fa fb (marks.getD k []) (cuts.getD k 0) W (by omega) (by omega) (by have := HMb2.out k; omega)
          dsimp only [flc] at Hfall
          generalize flleft (fa, fb) (cuts.getD k 0) (marks.getD k []) = x at *
          have hput := fun W (hm : DkMem W E b) => dref_put_any E b vn (x, x) W hm hvl (by have := HN3.out; have := HNf.out; omega)
          have HN5 : Hid ((E.put (vn : Int) (x, x)).files.length = N) := Lib.hid (by rw [← HN3.out]; exact List.length_set)
          have HB5 := Lib.hid (HB3.out.put_ (vn : Int) (f := (x, x)) ⟨hlf, hlf⟩)
          have HI5 : Hid (dfall cuts marks (l.drop (i + 1)) (k + 1) (E.put (vn : Int) (x, x)) = FAL) := Lib.hid hdr.symm
          generalize E.put (vn : Int) (x, x) = E5 at *
          unfold dkc at hput
          have Hput := Lib.hid hput
          have Hfall := Lib.hid Hfall
          have q1c := HD4.out.cho.cell 1
          have q2c := HD4.out.cho.cell 2
          simp only [List.getElem?_toArray, List.getElem?_cons_zero, List.getElem?_cons_succ] at q1c q2c
          clear hdr hlf hput HDR hbnd hvl HB3 HHv
          have HDc := HD4
          go_upto_if 58 with fail
          go_cut [10] (fun cv wx => cv = .int .i64 (cuts.getD k 0) ∧ wx = W4)
          case first =>
            by_cases h1 : k < cn
            · obtain ⟨bc, oc, eC, hbc, hcc⟩ := HCu.out k h1
              have u1 := (HD4.out.below.cell (p := ⟨bc, oc + k, none⟩) hbc).trans hcc
              have i1 : (0 : Int) ≤ (k : Int) ∧ (k : Int) < (cn : Int) := by omega
              rw [eC] at q1c
              clear hcc eC
              go_wp2_with fail
              go_meet
              case rel => exact ⟨rfl, rfl⟩
            · have i1 : ¬ (k : Int) < (cn : Int) := by omega
              have hcu0 := HCu0.out k h1
              go_wp2_with fail
              go_meet
              case rel => exact ⟨by rw [hcu0], rfl⟩
          case rest =>
            obtain ⟨rfl, rfl⟩ := hcut
            go_upto_if 68 with fail
            go_cut [11] (fun mv wx => mv = .string ⟨(marks.getD k []).toArray⟩ ∧ wx = wc)
            case first =>
              by_cases h2 : k < mn
              · obtain ⟨bm, om, eM, hbm, hmm⟩ := HMa.out k h2
                have u2 := (HD4.out.below.cell (p := ⟨bm, om + k, none⟩) hbm).trans hmm
                have i2 : (0 : Int) ≤ (k : Int) ∧ (k : Int) < (mn : Int) := by omega
                rw [eM] at q2c
                clear hmm eM
                go_wp2_with fail
                go_meet
                case rel => exact ⟨rfl, rfl⟩
              · have i2 : ¬ (k : Int) < (mn : Int) := by omega
                have hma0 := HMa0.out k h2
                go_wp2_with fail
                go_meet
                case rel => exact ⟨by rw [hma0], rfl⟩
            case rest =>
              obtain ⟨rfl, rfl⟩ := hcut
              clear q1c q2c HDc
              generalize cuts.getD k 0 = cu at *
              generalize marks.getD k [] = mk at *
              have HDt : Hid (DBt w wc.drew E b #[.int .i64 kd, .slice cA cn cc, .slice mA mn mc] _ l) := Lib.hid (HD4.out.on (Below.refl _ wc).drew)
              clear HD4
              go_wp2
              refine wp_region_held_drew (S := (fun W9 => Touch wc W9 (fun j => j = w.heap.size))) (by kernel_rfl) (⟨rfl, rfl, rfl, Nat.le_refl _, fun _ _ _ => rfl⟩) (fun hHeld => ?_)
              refine wpAnyH_take (i := 6) (oi := _) (v := ?_) rfl (by kernel_rfl) (by kernel_rfl) (by kernel_rfl) (fun _ _ _ h => h) (Or.inl ⟨by rfl, ?_⟩) hHeld ?_
              rotate_left
              · (intro wz hSw; have m0 := (World.cell?_of_block (w := wc) (hSw.block gf hgf hge)).trans f0; have m1 := (World.cell?_of_block (w := wc) (hSw.block gf hgf hge)).trans f1; go_simp; try (with_reducible rfl))
              (try dsimp only [List.getElem_toArray, List.getElem_cons_zero, List.getElem_cons_succ]); (try simp only [Act.put, List.setIfInBounds_toArray, List.set_cons_zero, List.set_cons_succ])
              refine wpAnyH_take (i := 1) (oi := _) (v := ?_) rfl (by kernel_rfl) (by kernel_rfl) (by kernel_rfl) (fun _ _ _ h => h) (Or.inl ⟨by rfl, ?_⟩) hHeld ?_
              rotate_left
              · (intro wz hSw; go_simp; try (with_reducible rfl))
              (try dsimp only [List.getElem_toArray, List.getElem_cons_zero, List.getElem_cons_succ]); (try simp only [Act.put, List.setIfInBounds_toArray, List.set_cons_zero, List.set_cons_succ])
              refine wpAnyH_take (i := 2) (oi := _) (v := ?_) rfl (by kernel_rfl) (by kernel_rfl) (by kernel_rfl) (fun _ _ _ h => h) (Or.inl ⟨by rfl, ?_⟩) hHeld ?_
              rotate_left
              · (intro wz hSw; go_simp; try (with_reducible rfl))
              (try dsimp only [List.getElem_toArray, List.getElem_cons_zero, List.getElem_cons_succ]); (try simp only [Act.put, List.setIfInBounds_toArray, List.set_cons_zero, List.set_cons_succ])
              refine wpAnyH_take (i := 3) (oi := _) (v := ?_) rfl (by kernel_rfl) (by kernel_rfl) (by kernel_rfl) (fun _ _ _ h => h) (Or.inl ⟨by rfl, ?_⟩) hHeld ?_
              rotate_left
              · (intro wz hSw; go_simp; try (with_reducible rfl))
              (try dsimp only [List.getElem_toArray, List.getElem_cons_zero, List.getElem_cons_succ]); (try simp only [Act.put, List.setIfInBounds_toArray, List.set_cons_zero, List.set_cons_succ])
              refine wpAnyH_take (i := 4) (oi := _) (v := ?_) rfl (by kernel_rfl) (by kernel_rfl) (by kernel_rfl) (fun _ _ _ h => h) (Or.inl ⟨by rfl, ?_⟩) hHeld ?_
              rotate_left
              · (intro wz hSw; go_simp; try (with_reducible rfl))
              (try dsimp only [List.getElem_toArray, List.getElem_cons_zero, List.getElem_cons_succ]); (try simp only [Act.put, List.setIfInBounds_toArray, List.set_cons_zero, List.set_cons_succ])
              refine wpAnyH_take (i := 5) (oi := _) (v := ?_) rfl (by kernel_rfl) (by kernel_rfl) (by kernel_rfl) (fun _ _ _ h => h) (Or.inl ⟨by rfl, ?_⟩) hHeld ?_
              rotate_left
              · (intro wz hSw; have k1 := (World.cell?_of_block (w := wc) (hSw.block bl hbl4 hne)).trans d4; go_simp; try (with_reducible rfl))
              (try dsimp only [List.getElem_toArray, List.getElem_cons_zero, List.getElem_cons_succ]); (try simp only [Act.put, List.setIfInBounds_toArray, List.set_cons_zero, List.set_cons_succ])
              refine wpAnyH_take (i := 7) (oi := _) (v := ?_) rfl (by kernel_rfl) (by kernel_rfl) (by kernel_rfl) (fun _ _ _ h => h) (Or.inl ⟨by rfl, ?_⟩) hHeld ?_
              rotate_left
              · (intro wz hSw; go_simp; try (with_reducible rfl))
              (try dsimp only [List.getElem_toArray, List.getElem_cons_zero, List.getElem_cons_succ]); (try simp only [Act.put, List.setIfInBounds_toArray, List.set_cons_zero, List.set_cons_succ])
              refine wpAnyH_take (i := 8) (oi := _) (v := ?_) rfl (by kernel_rfl) (by kernel_rfl) (by kernel_rfl) (fun _ _ _ h => h) (Or.inl ⟨by rfl, ?_⟩) hHeld ?_
              rotate_left
              · (intro wz hSw; go_simp; try (with_reducible rfl))
              (try dsimp only [List.getElem_toArray, List.getElem_cons_zero, List.getElem_cons_succ]); (try simp only [Act.put, List.setIfInBounds_toArray, List.set_cons_zero, List.set_cons_succ])
              refine wpAnyH_ready (rs := [0, 9]) (by kernel_rfl) (by simp) ?_
              refine AllReadyH.cons (o := _) rfl (fun K hK => ?_) ?_
              · skip
                have k0 := HDt.out.box.cell 0; have k1 := HDt.out.box.cell 1; have k2 := HDt.out.box.cell 2; have k3 := HDt.out.box.cell 3; have k4 := HDt.out.box.cell 4; have k5 := HDt.out.box.cell 5; have k6 := HDt.out.box.cell 6; have k7 := HDt.out.box.cell 7
                simp only [List.getElem?_toArray, List.getElem?_cons_zero, List.getElem?_cons_succ] at k0 k1 k2 k3 k4 k5 k6 k7
                go_simp
                refine hK.out _ _ (hHeld) (fun hH => ?_)
                clear hK K hHeld
                have hHeld := hH
                clear hH
                clear k0 k1 k2 k3 k4 k5 k6 k7
                (try dsimp only [List.getElem_toArray, List.getElem_cons_zero, List.getElem_cons_succ]); (try simp only [Act.put, List.setIfInBounds_toArray, List.set_cons_zero, List.set_cons_succ])
                refine wpAnyH_ready (rs := [9]) (by kernel_rfl) (by simp) ?_
                refine AllReadyH.cons (o := _) rfl (fun K hK => ?_) AllReadyH.nil
                go_simp
                go_at_call 65
                (with_reducible refine (Hfall.out _).mono ?_)
                rintro e w8 ⟨rfl, hb1⟩
                replace HKc := Lib.hid (HKc.out.late hb1.size)
                replace HDt := Lib.hid (HDt.out.on hb1)
                refine hK.out _ _ (hHeld.trans (touch_below hb1 (Nat.le_refl _))) (fun hH => ?_)
                clear hHeld hK K hb1
                have hHeld := hH
                clear hH
                (try dsimp only [List.getElem_toArray, List.getElem_cons_zero, List.getElem_cons_succ]); (try simp only [Act.put, List.setIfInBounds_toArray, List.set_cons_zero, List.set_cons_succ])
                refine wpAnyH_ready (rs := [10]) (by kernel_rfl) (by simp) ?_
                refine AllReadyH.cons (o := _) rfl (fun K hK => ?_) AllReadyH.nil
                go_simp
                go_at_call 60
                (with_reducible refine (Hput.out _ HDt.out.mem).mono ?_)
                rintro e w2 ⟨a5, rfl, hm5, hb1, hk5⟩
                have HM5 := Lib.hid hm5
                have HK5 := Lib.hid (HKc.out.next hb1.size (hk5.mono (w := w) HDt.out.below.size (Nat.le_refl _)))
                clear hm5 hk5
                replace HDt := Lib.hid (HDt.out.on hb1)
                refine hK.out _ _ (hHeld.trans (touch_below hb1 (Nat.le_refl _))) (fun hH => ?_)
                clear hHeld hK K hb1
                have hHeld := hH
                clear hH
                (try dsimp only [List.getElem_toArray, List.getElem_cons_zero, List.getElem_cons_succ]); (try simp only [Act.put, List.setIfInBounds_toArray, List.set_cons_zero, List.set_cons_succ])
                refine wpAnyH_ready (rs := [11]) (by kernel_rfl) (by simp) ?_
                refine AllReadyH.cons (o := _) rfl (fun K hK => ?_) AllReadyH.nil
                have k0 := HDt.out.box.cell 0; have k1 := HDt.out.box.cell 1; have k2 := HDt.out.box.cell 2; have k3 := HDt.out.box.cell 3; have k4 := HDt.out.box.cell 4; have k5 := HDt.out.box.cell 5; have k6 := HDt.out.box.cell 6; have k7 := HDt.out.box.cell 7
                have z0 := HDt.out.box.frozen 0; have z1 := HDt.out.box.frozen 1; have z2 := HDt.out.box.frozen 2; have z3 := HDt.out.box.frozen 3; have z4 := HDt.out.box.frozen 4; have z5 := HDt.out.box.frozen 5; have z6 := HDt.out.box.frozen 6; have z7 := HDt.out.box.frozen 7
                simp only [List.getElem?_toArray, List.getElem?_cons_zero, List.getElem?_cons_succ] at k0 k1 k2 k3 k4 k5 k6 k7
                go_simp
                refine hK.out _ _ ((hHeld.trans (oset8 HDt.out.box rfl).2)) (fun hH => ?_)
                clear hK K hHeld
                have hHeld := hH
                clear hH
                clear k0 k1 k2 k3 k4 k5 k6 k7 z0 z1 z2 z3 z4 z5 z6 z7
                (try dsimp only [List.getElem_toArray, List.getElem_cons_zero, List.getElem_cons_succ]); (try simp only [Act.put, List.setIfInBounds_toArray, List.set_cons_zero, List.set_cons_succ])
                refine wpAnyH_done (by kernel_rfl) ?_ _
                generalize hX9 : ((((((((w2.setCell ⟨w.heap.size, 0, none⟩ (.slice a5.a1 E5.files.length a5.c1)).setCell ⟨w.heap.size, 1, none⟩ (.slice a5.a2 E5.dir.length a5.c2)).setCell ⟨w.heap.size, 2, none⟩ (.slice a5.a3 E5.safe.length a5.c3)).setCell ⟨w.heap.size, 3, none⟩ (.slice a5.a4 E5.chg.length a5.c4)).setCell ⟨w.heap.size, 4, none⟩ (.int .i64 E5.cap)).setCell ⟨w.heap.size, 5, none⟩ (.int .i64 E5.ops)).setCell ⟨w.heap.size, 6, none⟩ (.int .i64 E5.armed)).setCell ⟨w.heap.size, 7, none⟩ (.bool E5.dead)) = X9
                obtain ⟨y1, y2⟩ := oset8 HDt.out.box hX9
                have HD9 := Lib.hid (HDt.out.put y2 y1 HM5.out)
                replace HK5 := Lib.hid (HK5.out.late y2.size)
                clear hHeld y1 y2 hX9 HM5 HDt Hput Hfall
                go_wp2
                go_roundw
                case rel => exact ⟨i + 1, k + 1, E5, a5, by omega, by omega, iv (by omega), iv (by omega), HI5, HN5, HB5, HD9, HK5⟩
                case measure => simp only [intOf]; omega
              refine AllReadyH.cons (o := _) rfl (fun K hK => ?_) AllReadyH.nil
              go_simp
              go_at_call 65
              (with_reducible refine (Hfall.out _).mono ?_)
              rintro e w8 ⟨rfl, hb1⟩
              replace HKc := Lib.hid (HKc.out.late hb1.size)
              replace HDt := Lib.hid (HDt.out.on hb1)
              refine hK.out _ _ (hHeld.trans (touch_below hb1 (Nat.le_refl _))) (fun hH => ?_)
              clear hHeld hK K hb1
              have hHeld := hH
              clear hH
              (try dsimp only [List.getElem_toArray, List.getElem_cons_zero, List.getElem_cons_succ]); (try simp only [Act.put, List.setIfInBounds_toArray, List.set_cons_zero, List.set_cons_succ])
              refine wpAnyH_ready (rs := [0]) (by kernel_rfl) (by simp) ?_
              refine AllReadyH.cons (o := _) rfl (fun K hK => ?_) AllReadyH.nil
              have k0 := HDt.out.box.cell 0; have k1 := HDt.out.box.cell 1; have k2 := HDt.out.box.cell 2; have k3 := HDt.out.box.cell 3; have k4 := HDt.out.box.cell 4; have k5 := HDt.out.box.cell 5; have k6 := HDt.out.box.cell 6; have k7 := HDt.out.box.cell 7
              simp only [List.getElem?_toArray, List.getElem?_cons_zero, List.getElem?_cons_succ] at k0 k1 k2 k3 k4 k5 k6 k7
              go_simp
              refine hK.out _ _ (hHeld) (fun hH => ?_)
              clear hK K hHeld
              have hHeld := hH
              clear hH
              clear k0 k1 k2 k3 k4 k5 k6 k7
              (try dsimp only [List.getElem_toArray, List.getElem_cons_zero, List.getElem_cons_succ]); (try simp only [Act.put, List.setIfInBounds_toArray, List.set_cons_zero, List.set_cons_succ])
              refine wpAnyH_ready (rs := [10]) (by kernel_rfl) (by simp) ?_
              refine AllReadyH.cons (o := _) rfl (fun K hK => ?_) AllReadyH.nil
              go_simp
              go_at_call 60
              (with_reducible refine (Hput.out _ HDt.out.mem).mono ?_)
              rintro e w2 ⟨a5, rfl, hm5, hb1, hk5⟩
              have HM5 := Lib.hid hm5
              have HK5 := Lib.hid (HKc.out.next hb1.size (hk5.mono (w := w) HDt.out.below.size (Nat.le_refl _)))
              clear hm5 hk5
              replace HDt := Lib.hid (HDt.out.on hb1)
              refine hK.out _ _ (hHeld.trans (touch_below hb1 (Nat.le_refl _))) (fun hH => ?_)
              clear hHeld hK K hb1
              have hHeld := hH
              clear hH
              (try dsimp only [List.getElem_toArray, List.getElem_cons_zero, List.getElem_cons_succ]); (try simp only [Act.put, List.setIfInBounds_toArray, List.set_cons_zero, List.set_cons_succ])
              refine wpAnyH_ready (rs := [11]) (by kernel_rfl) (by simp) ?_
              refine AllReadyH.cons (o := _) rfl (fun K hK => ?_) AllReadyH.nil
              have k0 := HDt.out.box.cell 0; have k1 := HDt.out.box.cell 1; have k2 := HDt.out.box.cell 2; have k3 := HDt.out.box.cell 3; have k4 := HDt.out.box.cell 4; have k5 := HDt.out.box.cell 5; have k6 := HDt.out.box.cell 6; have k7 := HDt.out.box.cell 7
              have z0 := HDt.out.box.frozen 0; have z1 := HDt.out.box.frozen 1; have z2 := HDt.out.box.frozen 2; have z3 := HDt.out.box.frozen 3; have z4 := HDt.out.box.frozen 4; have z5 := HDt.out.box.frozen 5; have z6 := HDt.out.box.frozen 6; have z7 := HDt.out.box.frozen 7
              simp only [List.getElem?_toArray, List.getElem?_cons_zero, List.getElem?_cons_succ] at k0 k1 k2 k3 k4 k5 k6 k7
              go_simp
              refine hK.out _ _ ((hHeld.trans (oset8 HDt.out.box rfl).2)) (fun hH => ?_)
              clear hK K hHeld
              have hHeld := hH
              clear hH
              clear k0 k1 k2 k3 k4 k5 k6 k7 z0 z1 z2 z3 z4 z5 z6 z7
              (try dsimp only [List.getElem_toArray, List.getElem_cons_zero, List.getElem_cons_succ]); (try simp only [Act.put, List.setIfInBounds_toArray, List.set_cons_zero, List.set_cons_succ])
              refine wpAnyH_done (by kernel_rfl) ?_ _
              generalize hX9 : ((((((((w2.setCell ⟨w.heap.size, 0, none⟩ (.slice a5.a1 E5.files.length a5.c1)).setCell ⟨w.heap.size, 1, none⟩ (.slice a5.a2 E5.dir.length a5.c2)).setCell ⟨w.heap.size, 2, none⟩ (.slice a5.a3 E5.safe.length a5.c3)).setCell ⟨w.heap.size, 3, none⟩ (.slice a5.a4 E5.chg.length a5.c4)).setCell ⟨w.heap.size, 4, none⟩ (.int .i64 E5.cap)).setCell ⟨w.heap.size, 5, none⟩ (.int .i64 E5.ops)).setCell ⟨w.heap.size, 6, none⟩ (.int .i64 E5.armed)).setCell ⟨w.heap.size, 7, none⟩ (.bool E5.dead)) = X9
              obtain ⟨y1, y2⟩ := oset8 HDt.out.box hX9
              have HD9 := Lib.hid (HDt.out.put y2 y1 HM5.out)
              replace HK5 := Lib.hid (HK5.out.late y2.size)
              clear hHeld y1 y2 hX9 HM5 HDt Hput Hfall
              go_wp2
              go_roundw
              case rel => exact ⟨i + 1, k + 1, E5, a5, by omega, by omega, iv (by omega), iv (by omega), HI5, HN5, HB5, HD9, HK5⟩
              case measure => simp only [intOf]; omega
      · obtain rfl : i = n := by omega
        have hE : E = FAL := by
          have := HI.out
          rw [List.drop_of_length_le (by rw [HN1.out]; omega)] at this
          exact this
        have hz : ¬ (i : Int) < (i : Int) := by omega
        subst hE
        clear HI
        have x0 := HD3.out.box.cell 0; have x1 := HD3.out.box.cell 1; have x2 := HD3.out.box.cell 2; have x3 := HD3.out.box.cell 3; have x4 := HD3.out.box.cell 4; have x5 := HD3.out.box.cell 5; have x6 := HD3.out.box.cell 6; have x7 := HD3.out.box.cell 7; simp only [List.getElem?_toArray, List.getElem?_cons_zero, List.getElem?_cons_succ] at x0 x1 x2 x3 x4 x5 x6 x7
        have z0 := HD3.out.box.frozen 0; have z1 := HD3.out.box.frozen 1; have z2 := HD3.out.box.frozen 2; have z3 := HD3.out.box.frozen 3; have z4 := HD3.out.box.frozen 4; have z5 := HD3.out.box.frozen 5; have z6 := HD3.out.box.frozen 6; have z7 := HD3.out.box.frozen 7
        go_upto_region 22 with fail
        generalize hX5 : (((((wr.setCell ⟨w.heap.size, 1, none⟩ (.slice A i c)).setCell ⟨w.heap.size, 2, none⟩ (.slice A i c)).setCell ⟨w.heap.size, 3, none⟩ (.slice none 0 0)).setCell ⟨w.heap.size, 7, none⟩ (.bool false)).setCell ⟨w.heap.size, 6, none⟩ (.int .i64 0)) = X5
        have y1 : Blk X5 w.heap.size 33 #[.slice b.a1 E.files.length b.c1, .slice A i c, .slice A i c, .slice none 0 0, .int .i64 E.cap, .int .i64 E.ops, .int .i64 0, .bool false] := by
          subst hX5
          simpa using (((((HD3.out.box.set_ 1 (.slice A i c)).set_ 2 (.slice A i c)).set_ 3 (.slice none 0 0)).set_ 7 (.bool false)).set_ 6 (.int .i64 0))
        have y2 : Touch wr X5 (fun k => k = w.heap.size) := by
          subst hX5
          exact ((((((Touch.refl wr (fun k => k = w.heap.size)).set (p := ⟨w.heap.size, 1, none⟩) (.inl rfl) _).set (p := ⟨w.heap.size, 2, none⟩) (.inl rfl) _).set (p := ⟨w.heap.size, 3, none⟩) (.inl rfl) _).set (p := ⟨w.heap.size, 7, none⟩) (.inl rfl) _).set (p := ⟨w.heap.size, 6, none⟩) (.inl rfl) _)
        have hrow := HD3.out.row
        have hD5 : DBt w X5 { E with dir := l, safe := l, chg := [], dead := false, armed := 0 } ⟨b.a1, A, A, none, b.c1, c, c, 0⟩ #[.int .i64 kd, .slice cA cn cc, .slice mA mn mc] A l := by
          refine HD3.out.put y2 ?_ ⟨HD3.out.mem.files, hrow, hrow, Reads.none_, HD3.out.mem.k1, ?_, ?_, Nat.le_refl _⟩
          · unfold dkc
            dsimp only
            rw [HN1.out]
            exact y1
          · dsimp only
            rw [HN1.out]
            exact hc
          · dsimp only
            rw [HN1.out]
            exact hc
        replace HKb := Lib.hid (HKb.out.late y2.size)
        clear x0 z0 x1 z1 x2 z2 x3 z3 x4 z4 x5 z5 x6 z6 x7 z7 hX5 hrow y2
        have HD5 := Lib.hid hD5
        clear hD5
        have p0 := y1.cell 0; have p1 := y1.cell 1; have p2 := y1.cell 2; have p3 := y1.cell 3; have p4 := y1.cell 4; have p5 := y1.cell 5; have p6 := y1.cell 6; have p7 := y1.cell 7; simp only [List.getElem?_toArray, List.getElem?_cons_zero, List.getElem?_cons_succ] at p0 p1 p2 p3 p4 p5 p6 p7
        have q0 := HD5.out.res.cell 0; have q1 := HD5.out.res.cell 1; have q2 := HD5.out.res.cell 2; have q3 := HD5.out.res.cell 3; have q4 := HD5.out.res.cell 4; have q5 := HD5.out.res.cell 5; have q6 := HD5.out.res.cell 6; have q7 := HD5.out.res.cell 7; simp only [List.getElem?_toArray, List.getElem?_cons_zero, List.getElem?_cons_succ] at q0 q1 q2 q3 q4 q5 q6 q7
        have v0 := HD5.out.res.frozen 0; have v1 := HD5.out.res.frozen 1; have v2 := HD5.out.res.frozen 2; have v3 := HD5.out.res.frozen 3; have v4 := HD5.out.res.frozen 4; have v5 := HD5.out.res.frozen 5; have v6 := HD5.out.res.frozen 6; have v7 := HD5.out.res.frozen 7
        go_wp2
        generalize hX9 : ((((((((X5.setCell ⟨w.heap.size + 2, 0, none⟩ (.slice b.a1 E.files.length b.c1)).setCell ⟨w.heap.size + 2, 1, none⟩ (.slice A i c)).setCell ⟨w.heap.size + 2, 2, none⟩ (.slice A i c)).setCell ⟨w.heap.size + 2, 3, none⟩ (.slice none 0 0)).setCell ⟨w.heap.size + 2, 4, none⟩ (.int .i64 E.cap)).setCell ⟨w.heap.size + 2, 5, none⟩ (.int .i64 E.ops)).setCell ⟨w.heap.size + 2, 6, none⟩ (.int .i64 0)).setCell ⟨w.heap.size + 2, 7, none⟩ (.bool false)) = X9
        obtain ⟨y3, y4⟩ := oset8 HD5.out.res hX9
        have hm9 := HD5.out.mem.touch HD5.out.res (fun j s => by
          match j with
          | 0 => intro h; cases h
          | 1 => intro h; cases h
          | 2 => intro h; cases h
          | 3 => intro h; cases h
          | 4 => intro h; cases h
          | 5 => intro h; cases h
          | 6 => intro h; cases h
          | 7 => intro h; cases h
          | j + 8 => intro h; cases h) y4
        have hb9 := HD5.out.below.trans (y4.below (fun k _ e => by show w.heap.size ≤ k; omega) HD5.out.below.size)
        clear p0 q0 v0 p1 q1 v1 p2 q2 v2 p3 q3 v3 p4 q4 v4 p5 q5 v5 p6 q6 v6 p7 q7 v7
        have r0 := y3.cell 0; have r1 := y3.cell 1; have r2 := y3.cell 2; have r3 := y3.cell 3; have r4 := y3.cell 4; have r5 := y3.cell 5; have r6 := y3.cell 6; have r7 := y3.cell 7; simp only [List.getElem?_toArray, List.getElem?_cons_zero, List.getElem?_cons_succ] at r0 r1 r2 r3 r4 r5 r6 r7
        refine bodyPost_ret (v := .agg #[.slice b.a1 E.files.length b.c1, .slice A i c, .slice A i c, .slice none 0 0, .int .i64 E.cap, .int .i64 E.ops, .int .i64 0, .bool false]) (by simp [results, Tryz.results30, go_sem, r0, r1, r2, r3, r4, r5, r6, r7]) rfl ⟨⟨b.a1, A, A, none, b.c1, c, c, 0⟩, ?_, ?_, hb9, ⟨(HKb.out.1.late y4.size).1, HKb.out.2.mono (Nat.le_refl _) y4.size, HKb.out.2.mono (Nat.le_refl _) y4.size, .inl rfl⟩⟩
        · rw [HFin.out]
          unfold dkc
          dsimp only
          rw [HN1.out]
          rfl
        · rw [HFin.out]
          exact hm9
end Go.Proofs.YtgoahcmgpjacjaaGreat
