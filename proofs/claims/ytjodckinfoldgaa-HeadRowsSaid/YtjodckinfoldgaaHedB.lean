/-
  Layer 21, the document's: Blocks (ahead of the code's landing).
-/
import Derived.Test.YtjodckinfoldgaaHedQ
namespace Go.Proofs.Ytjodckinfoldgaa
set_option linter.unusedSimpArgs false
set_option linter.unusedVariables false
open Go.ChangeShapes Go.WideShapes Go.ChangeAt Go.RowKit Go.Joins Go.Deep
set_option maxRecDepth 100000 in
set_option maxHeartbeats 16000000 in
theorem href_blk_any (l : List Mt) (A : Option Addr) (n c : Nat) (w : World) (hl : l.length = n) (hn : n ≤ 1000000) (hr : Reads w w.heap.size 7 A n (dcs mtc l)) :
    Calls Try.prog 21 #[.slice A n c] w fun e w' => e = .returned (.int .i64 (hblkF l)) ∧ Below w.heap.size w w' := by
  have HC : Hid (0 < n → ∃ b off, A = some ⟨b, off, none⟩ ∧ b < w.heap.size ∧ ∀ i (hi : i < l.length), ∀ j u, (mtc l[i])[j]? = some u → w.cell? ⟨b, off + i * 7 + j, none⟩ = some u) := Lib.hid fun h => mt_cells hr hl h
  have HL := Lib.hid hl
  clear hr
  by_cases hbig : 1000 < n
  · have HF : Hid (hblkF l = 211) := Lib.hid (if_neg fun h => by have := ((hrow_iff l).1 h).1; omega)
    clear HC HL hl
    have hi : (1000 : Int) < (n : Int) := by omega
    go_enter Try.func21, Try.ntmps21
    go_wp2
    go_ret
    exact ⟨by rw [HF.out]; rfl, Below.refl _ _⟩
  have hi : ¬ (1000 : Int) < (n : Int) := by omega
  have HS := Lib.hid hbig
  clear hl hbig
  go_enter Try.func21, Try.ntmps21
  go_wp2
  go_loopw [3, 4, 5, 6] (fun iv _ _ _ wr => ∃ k : Nat, k ≤ n ∧ iv = .int .i64 (k : Int) ∧ Hid (∀ j (hj : j < l.length), j < k → hat l j hj) ∧ Hid (Below w.heap.size w wr)) (fun iv _ _ _ _ => n - (intOf iv).toNat)
  case atStart => exact ⟨0, by omega, rfl, Lib.hid fun j _ h => absurd h (Nat.not_lt_zero _), Lib.hid (Below.refl _ _)⟩
  case round =>
    obtain ⟨k, hk, rfl, HI, HB⟩ := hrel
    by_cases hlt : k < n
    case pos =>
      have hkl : k < l.length := by have := HL.out; omega
      obtain ⟨b, off, rfl, hb, hcell⟩ := HC.out (by omega)
      have hct : ∀ j u, (mtc l[k])[j]? = some u → wr.cell? ⟨b, off + k * 7 + j, none⟩ = some u := fun j u hu => (HB.out.cell (p := ⟨b, off + k * 7 + j, none⟩) hb).trans (hcell k hkl j u hu)
      have hki : (0 : Int) ≤ (k : Int) ∧ (k : Int) < (n : Int) := by omega
      have HI2 : Hid (hat l k hkl → ∀ j (hj : j < l.length), j < k + 1 → hat l j hj) := Lib.hid fun h j hj hjk => by
        by_cases e : j = k
        · subst e; exact h
        · exact HI.out j hj (by omega)
      obtain ⟨m, hm⟩ : ∃ m, l[k] = m := ⟨_, rfl⟩
      rw [hm] at hct
      have HM := Lib.hid hm
      clear hm
      obtain ⟨at_, sz, raw, ct, fi, ea, la⟩ := m
      have c0 := hct 0 _ rfl; have c1 := hct 1 _ rfl; have c2 := hct 2 _ rfl; have c3 := hct 3 _ rfl; have c4 := hct 4 _ rfl; have c5 := hct 5 _ rfl; have c6 := hct 6 _ rfl
      dsimp only at c0 c1 c2 c3 c4 c5 c6
      rw [Nat.add_zero] at c0
      have HCell := Lib.hid hcell
      clear hct hcell
      by_cases t0 : (0 : Int) ≤ at_
      case neg =>
        have HF : Hid (hblkF l = 211) := Lib.hid (if_neg fun h => by have h2 := (hm1_iff _).1 (((hrow_iff l).1 h).2 k hkl).1; rw [HM.out] at h2; dsimp only at h2; omega)
        clear HI HC HL HM HI2
        go_wp2
        go_ret
        exact ⟨by rw [HF.out]; rfl, by first | exact HB.out.alloc HB.out.size _ | go_grown⟩
      by_cases t1 : at_ ≤ (1000000 : Int)
      case neg =>
        have HF : Hid (hblkF l = 211) := Lib.hid (if_neg fun h => by have h2 := (hm1_iff _).1 (((hrow_iff l).1 h).2 k hkl).1; rw [HM.out] at h2; dsimp only at h2; omega)
        clear HI HC HL HM HI2
        go_wp2
        go_ret
        exact ⟨by rw [HF.out]; rfl, by first | exact HB.out.alloc HB.out.size _ | go_grown⟩
      by_cases t2 : (10 : Int) ≤ sz
      case neg =>
        have HF : Hid (hblkF l = 211) := Lib.hid (if_neg fun h => by have h2 := (hm1_iff _).1 (((hrow_iff l).1 h).2 k hkl).1; rw [HM.out] at h2; dsimp only at h2; omega)
        clear HI HC HL HM HI2
        go_wp2
        go_ret
        exact ⟨by rw [HF.out]; rfl, by first | exact HB.out.alloc HB.out.size _ | go_grown⟩
      by_cases t3 : sz ≤ (60009 : Int)
      case neg =>
        have HF : Hid (hblkF l = 211) := Lib.hid (if_neg fun h => by have h2 := (hm1_iff _).1 (((hrow_iff l).1 h).2 k hkl).1; rw [HM.out] at h2; dsimp only at h2; omega)
        clear HI HC HL HM HI2
        go_wp2
        go_ret
        exact ⟨by rw [HF.out]; rfl, by first | exact HB.out.alloc HB.out.size _ | go_grown⟩
      by_cases t4 : (1 : Int) ≤ raw
      case neg =>
        have HF : Hid (hblkF l = 211) := Lib.hid (if_neg fun h => by have h2 := (hm1_iff _).1 (((hrow_iff l).1 h).2 k hkl).1; rw [HM.out] at h2; dsimp only at h2; omega)
        clear HI HC HL HM HI2
        go_wp2
        go_ret
        exact ⟨by rw [HF.out]; rfl, by first | exact HB.out.alloc HB.out.size _ | go_grown⟩
      by_cases t5 : raw ≤ (20000 : Int)
      case neg =>
        have HF : Hid (hblkF l = 211) := Lib.hid (if_neg fun h => by have h2 := (hm1_iff _).1 (((hrow_iff l).1 h).2 k hkl).1; rw [HM.out] at h2; dsimp only at h2; omega)
        clear HI HC HL HM HI2
        go_wp2
        go_ret
        exact ⟨by rw [HF.out]; rfl, by first | exact HB.out.alloc HB.out.size _ | go_grown⟩
      by_cases t6 : (1 : Int) ≤ ct
      case neg =>
        have HF : Hid (hblkF l = 211) := Lib.hid (if_neg fun h => by have h2 := (hm1_iff _).1 (((hrow_iff l).1 h).2 k hkl).1; rw [HM.out] at h2; dsimp only at h2; omega)
        clear HI HC HL HM HI2
        go_wp2
        go_ret
        exact ⟨by rw [HF.out]; rfl, by first | exact HB.out.alloc HB.out.size _ | go_grown⟩
      by_cases t7 : ct ≤ raw
      case neg =>
        have HF : Hid (hblkF l = 211) := Lib.hid (if_neg fun h => by have h2 := (hm1_iff _).1 (((hrow_iff l).1 h).2 k hkl).1; rw [HM.out] at h2; dsimp only at h2; omega)
        clear HI HC HL HM HI2
        go_wp2
        go_ret
        exact ⟨by rw [HF.out]; rfl, by first | exact HB.out.alloc HB.out.size _ | go_grown⟩
      by_cases t8 : (1 : Int) ≤ fi
      case neg =>
        have HF : Hid (hblkF l = 211) := Lib.hid (if_neg fun h => by have h2 := (hm1_iff _).1 (((hrow_iff l).1 h).2 k hkl).1; rw [HM.out] at h2; dsimp only at h2; omega)
        clear HI HC HL HM HI2
        go_wp2
        go_ret
        exact ⟨by rw [HF.out]; rfl, by first | exact HB.out.alloc HB.out.size _ | go_grown⟩
      have hwr : IntKind.i64.wrap (1000000001 - ct) = 1000000001 - ct := by rw [IntKind.wrap_i64]; omega
      by_cases t9 : fi ≤ 1000000001 - ct
      case neg =>
        have HF : Hid (hblkF l = 211) := Lib.hid (if_neg fun h => by have h2 := (hm1_iff _).1 (((hrow_iff l).1 h).2 k hkl).1; rw [HM.out] at h2; dsimp only at h2; omega)
        clear HI HC HL HM HI2
        go_wp2
        go_ret
        exact ⟨by rw [HF.out]; rfl, by first | exact HB.out.alloc HB.out.size _ | go_grown⟩
      by_cases t10 : (0 : Int) ≤ ea
      case neg =>
        have HF : Hid (hblkF l = 211) := Lib.hid (if_neg fun h => by have h2 := (hm1_iff _).1 (((hrow_iff l).1 h).2 k hkl).1; rw [HM.out] at h2; dsimp only at h2; omega)
        clear HI HC HL HM HI2
        go_wp2
        go_ret
        exact ⟨by rw [HF.out]; rfl, by first | exact HB.out.alloc HB.out.size _ | go_grown⟩
      by_cases t11 : ea ≤ la
      case neg =>
        have HF : Hid (hblkF l = 211) := Lib.hid (if_neg fun h => by have h2 := (hm1_iff _).1 (((hrow_iff l).1 h).2 k hkl).1; rw [HM.out] at h2; dsimp only at h2; omega)
        clear HI HC HL HM HI2
        go_wp2
        go_ret
        exact ⟨by rw [HF.out]; rfl, by first | exact HB.out.alloc HB.out.size _ | go_grown⟩
      by_cases t12 : la ≤ (1000000000 : Int)
      case neg =>
        have HF : Hid (hblkF l = 211) := Lib.hid (if_neg fun h => by have h2 := (hm1_iff _).1 (((hrow_iff l).1 h).2 k hkl).1; rw [HM.out] at h2; dsimp only at h2; omega)
        clear HI HC HL HM HI2
        go_wp2
        go_ret
        exact ⟨by rw [HF.out]; rfl, by first | exact HB.out.alloc HB.out.size _ | go_grown⟩
      have HG1 : Hid (hm1 (at_, sz, raw, ct, fi, ea, la) = true) := Lib.hid ((hm1_iff _).2 ⟨t0, t1, t2, t3, t4, t5, t6, t7, t8, t9, t10, t11, t12⟩)
      rcases Nat.eq_zero_or_pos k with hk0 | hk0
      · subst hk0
        have HI3 := Lib.hid (HI2.out ⟨by rw [HM.out]; exact HG1.out, fun j hj => by omega⟩)
        simp only [Nat.zero_mul, Nat.add_zero] at c0 c1 c2 c3 c4 c5 c6
        clear HI2 HI HM HG1 HCell HC
        go_wp2
        go_roundw
        case rel => exact ⟨1, by omega, rfl, HI3, Lib.hid (HB.out.alloc HB.out.size _)⟩
        case measure => simp only [intOf]; omega
      · obtain ⟨p, hp⟩ : ∃ p, p + 1 = k := ⟨k - 1, by omega⟩
        have hpl : p < l.length := by omega
        have hpt : ∀ j u, (mtc l[p])[j]? = some u → wr.cell? ⟨b, off + p * 7 + j, none⟩ = some u := fun j u hu => (HB.out.cell (p := ⟨b, off + p * 7 + j, none⟩) hb).trans (HCell.out p hpl j u hu)
        have hpg := (hm1_iff _).1 (HI.out p hpl (by omega)).1
        have HI3 : Hid (hm2 l[p] (at_, sz, raw, ct, fi, ea, la) = true → hat l k hkl) := Lib.hid fun h => ⟨by rw [HM.out]; exact HG1.out, fun j hj => by
          obtain rfl : j = p := by omega
          rw [HM.out]; exact h⟩
        have HI4 : Hid (hat l k hkl → hm2 l[p] (at_, sz, raw, ct, fi, ea, la) = true) := Lib.hid fun h => by
          have := h.2 p hp
          rwa [HM.out] at this
        have hsub : (k : Int) - 1 = (p : Int) := by omega
        have hsw : IntKind.i64.wrap ((k : Int) - 1) = (p : Int) := by rw [IntKind.wrap_i64]; omega
        have hpw : IntKind.i64.wrap (p : Int) = (p : Int) := by rw [IntKind.wrap_i64]; omega
        have hpi : (0 : Int) ≤ (p : Int) ∧ (p : Int) < (n : Int) := by omega
        have hk1 : (0 : Int) < (k : Int) := by omega
        obtain ⟨m2, hm2e⟩ : ∃ m2, l[p] = m2 := ⟨_, rfl⟩
        rw [hm2e] at hpt hpg HI3 HI4
        clear hm2e HCell HC HM HI HG1
        obtain ⟨at2, sz2, raw2, ct2, fi2, ea2, la2⟩ := m2
        have d0 := hpt 0 _ rfl; have d1 := hpt 1 _ rfl; have d2 := hpt 2 _ rfl; have d3 := hpt 3 _ rfl; have d4 := hpt 4 _ rfl; have d5 := hpt 5 _ rfl; have d6 := hpt 6 _ rfl
        dsimp only at d0 d1 d2 d3 d4 d5 d6 hpg
        rw [Nat.add_zero] at d0
        have w1 : IntKind.i64.wrap (at2 + sz2) = at2 + sz2 := by rw [IntKind.wrap_i64]; omega
        have w2 : IntKind.i64.wrap (fi2 + ct2) = fi2 + ct2 := by rw [IntKind.wrap_i64]; omega
        have hbw : b < wr.heap.size := Nat.lt_of_lt_of_le hb HB.out.size
        clear hpt hpg
        by_cases s0 : at_ = at2 + sz2
        case neg =>
          have HF : Hid (hblkF l = 211) := Lib.hid (if_neg fun h => by have h2 := (hm2_iff _ _).1 (HI4.out (((hrow_iff l).1 h).2 k hkl)); dsimp only at h2; omega)
          clear HI2 HI3 HI4 HL
          have hba := (Below.refl wr.heap.size wr).alloc (Nat.le_refl _) (.cells #[.int .i64 at_, .int .i64 sz, .int .i64 raw, .int .i64 ct, .int .i64 fi, .int .i64 ea, .int .i64 la] 55)
          have e0 := (hba.cell (p := ⟨b, off + p * 7, none⟩) hbw).trans d0
          have e1 := (hba.cell (p := ⟨b, off + p * 7 + 1, none⟩) hbw).trans d1
          have e2 := (hba.cell (p := ⟨b, off + p * 7 + 2, none⟩) hbw).trans d2
          have e3 := (hba.cell (p := ⟨b, off + p * 7 + 3, none⟩) hbw).trans d3
          have e4 := (hba.cell (p := ⟨b, off + p * 7 + 4, none⟩) hbw).trans d4
          have e5 := (hba.cell (p := ⟨b, off + p * 7 + 5, none⟩) hbw).trans d5
          have e6 := (hba.cell (p := ⟨b, off + p * 7 + 6, none⟩) hbw).trans d6
          clear hba
          go_wp2
          go_ret
          exact ⟨by rw [HF.out]; rfl, by first | exact (HB.out.alloc HB.out.size _).alloc (HB.out.alloc HB.out.size _).size _ | go_grown⟩
        subst s0
        by_cases s1 : fi = fi2 + ct2
        case neg =>
          have HF : Hid (hblkF l = 211) := Lib.hid (if_neg fun h => by have h2 := (hm2_iff _ _).1 (HI4.out (((hrow_iff l).1 h).2 k hkl)); dsimp only at h2; omega)
          clear HI2 HI3 HI4 HL
          have hba := (Below.refl wr.heap.size wr).alloc (Nat.le_refl _) (.cells #[.int .i64 (at2 + sz2), .int .i64 sz, .int .i64 raw, .int .i64 ct, .int .i64 fi, .int .i64 ea, .int .i64 la] 55)
          have e0 := (hba.cell (p := ⟨b, off + p * 7, none⟩) hbw).trans d0
          have e1 := (hba.cell (p := ⟨b, off + p * 7 + 1, none⟩) hbw).trans d1
          have e2 := (hba.cell (p := ⟨b, off + p * 7 + 2, none⟩) hbw).trans d2
          have e3 := (hba.cell (p := ⟨b, off + p * 7 + 3, none⟩) hbw).trans d3
          have e4 := (hba.cell (p := ⟨b, off + p * 7 + 4, none⟩) hbw).trans d4
          have e5 := (hba.cell (p := ⟨b, off + p * 7 + 5, none⟩) hbw).trans d5
          have e6 := (hba.cell (p := ⟨b, off + p * 7 + 6, none⟩) hbw).trans d6
          clear hba
          go_wp2
          go_ret
          exact ⟨by rw [HF.out]; rfl, by first | exact (HB.out.alloc HB.out.size _).alloc (HB.out.alloc HB.out.size _).size _ | go_grown⟩
        subst s1
        by_cases s2 : la2 ≤ ea
        case neg =>
          have HF : Hid (hblkF l = 211) := Lib.hid (if_neg fun h => by have h2 := (hm2_iff _ _).1 (HI4.out (((hrow_iff l).1 h).2 k hkl)); dsimp only at h2; omega)
          clear HI2 HI3 HI4 HL
          have hba := (Below.refl wr.heap.size wr).alloc (Nat.le_refl _) (.cells #[.int .i64 (at2 + sz2), .int .i64 sz, .int .i64 raw, .int .i64 ct, .int .i64 (fi2 + ct2), .int .i64 ea, .int .i64 la] 55)
          have e0 := (hba.cell (p := ⟨b, off + p * 7, none⟩) hbw).trans d0
          have e1 := (hba.cell (p := ⟨b, off + p * 7 + 1, none⟩) hbw).trans d1
          have e2 := (hba.cell (p := ⟨b, off + p * 7 + 2, none⟩) hbw).trans d2
          have e3 := (hba.cell (p := ⟨b, off + p * 7 + 3, none⟩) hbw).trans d3
          have e4 := (hba.cell (p := ⟨b, off + p * 7 + 4, none⟩) hbw).trans d4
          have e5 := (hba.cell (p := ⟨b, off + p * 7 + 5, none⟩) hbw).trans d5
          have e6 := (hba.cell (p := ⟨b, off + p * 7 + 6, none⟩) hbw).trans d6
          clear hba
          go_wp2
          go_ret
          exact ⟨by rw [HF.out]; rfl, by first | exact (HB.out.alloc HB.out.size _).alloc (HB.out.alloc HB.out.size _).size _ | go_grown⟩
        have HI5 := Lib.hid (HI2.out (HI3.out ((hm2_iff _ _).2 ⟨rfl, rfl, s2⟩)))
        clear HI2 HI3 HI4
        have hba := (Below.refl wr.heap.size wr).alloc (Nat.le_refl _) (.cells #[.int .i64 (at2 + sz2), .int .i64 sz, .int .i64 raw, .int .i64 ct, .int .i64 (fi2 + ct2), .int .i64 ea, .int .i64 la] 55)
        have e0 := (hba.cell (p := ⟨b, off + p * 7, none⟩) hbw).trans d0
        have e1 := (hba.cell (p := ⟨b, off + p * 7 + 1, none⟩) hbw).trans d1
        have e2 := (hba.cell (p := ⟨b, off + p * 7 + 2, none⟩) hbw).trans d2
        have e3 := (hba.cell (p := ⟨b, off + p * 7 + 3, none⟩) hbw).trans d3
        have e4 := (hba.cell (p := ⟨b, off + p * 7 + 4, none⟩) hbw).trans d4
        have e5 := (hba.cell (p := ⟨b, off + p * 7 + 5, none⟩) hbw).trans d5
        have e6 := (hba.cell (p := ⟨b, off + p * 7 + 6, none⟩) hbw).trans d6
        clear hba
        go_wp2
        go_roundw
        case rel => exact ⟨k + 1, by omega, iv (by omega), HI5, Lib.hid (by first | exact (HB.out.alloc HB.out.size _).alloc (HB.out.alloc HB.out.size _).size _ | go_grown)⟩
        case measure => simp only [intOf]; omega
    case neg =>
      obtain rfl : k = n := by omega
      have hz : ¬ (k : Int) < (k : Int) := by omega
      have HF : Hid (hblkF l = 0) := Lib.hid (if_pos ((hrow_iff l).2 ⟨by have := HS.out; have := HL.out; omega, fun i hi => HI.out i hi (by have := HL.out; omega)⟩))
      clear HC HI
      go_wp2
      go_ret
      exact ⟨by rw [HF.out]; rfl, HB.out⟩
end Go.Proofs.Ytjodckinfoldgaa
