/-
  Layer 13: Inverse.
-/
import Derived.Test.YtjdpogaaookoeaaBwtD
import Derived.Test.YtjdpogaaookoeaaBwtU
namespace Go.Proofs.Ytjdpogaaookoeaa
set_option linter.unusedSimpArgs false
set_option linter.unusedVariables false
open Go.ChangeShapes Go.WideShapes Go.ChangeAt Go.RowKit Go.Joins Go.Deep

/-- Behind as many steps as bytes only the primary is left. -/
theorem bok_late (l : List UInt8) (r : Nat) (h : r ≤ l.length) (hn : ∀ k, k < l.length → bro (bcol l r) k ≠ r) : bok l r = true := by
  rw [bok_iff]
  refine ⟨hn, ?_⟩
  have hp := (bro_perm l r h hn).mem_iff (a := r)
  obtain ⟨k, hk, e⟩ := List.mem_map.1 (hp.2 (List.mem_range.2 (by omega)))
  rw [List.mem_range] at hk
  by_cases h2 : k < l.length
  · exact absurd e (hn k h2)
  · rw [show l.length = k from by omega]
    exact e
theorem bstep_last (l : List UInt8) (r : Nat) (h : r ≤ l.length) (k : Nat) (hne : bro (bcol l r) k ≠ r) : ∃ (x y j : Nat) (b : UInt8) (h2 : x < (splc ((List.range (l.length + 1)).map (brk (bcol l r)))).length) (hj : j < l.length),
    bro (bcol l r) k = x ∧ bro (bcol l r) (k + 1) = y ∧ l[j] = b ∧ ((x < r ∧ x = j) ∨ (r < x ∧ x = j + 1)) ∧ (splc ((List.range (l.length + 1)).map (brk (bcol l r))))[x] = (y : Int) ∧ bout (bcol l r) (k + 1) = b :: bout (bcol l r) k ∧ x < l.length + 1 ∧ y < l.length + 1 := by
  obtain ⟨x, y, b, h1, h2, e1, e2, e3, e4, e5, hx, hy⟩ := bstep_at l r h k hne
  have e6 : (bcol l r).getD x 0 = (b.toNat : Int) := by
    rw [List.getD_eq_getElem?_getD, List.getElem?_eq_getElem h1]
    exact e3
  rw [e1] at hne
  have hj : ∀ j (hj : j < l.length), (bcol l r).getD x 0 = ((l.getD j 0).toNat : Int) → l[j] = b := fun j hj e => by
    rw [e6, List.getD_eq_getElem?_getD, List.getElem?_eq_getElem hj, Option.getD_some] at e
    exact UInt8.toNat_inj.1 (by omega)
  by_cases hlt : x < r
  · exact ⟨x, y, x, b, h2, by omega, e1, e2, hj x (by omega) (bcol_low l r x h hlt), Or.inl ⟨hlt, rfl⟩, e4, e5, hx, hy⟩
  · exact ⟨x, y, x - 1, b, h2, by omega, e1, e2, hj (x - 1) (by omega) (bcol_high l r x h (by omega) hx), Or.inr ⟨by omega, by omega⟩, e4, e5, hx, hy⟩
theorem btx_set (q : Nat) (L : List UInt8) (b : UInt8) : (bc (List.replicate (q + 1) 0 ++ L)).setIfInBounds q (.int .u8 (b.toNat : Int)) = bc (List.replicate q 0 ++ b :: L) := by
  have h := bc_set (List.replicate q 0) L 0 b
  rw [List.length_replicate] at h
  rw [← h, List.replicate_succ', List.append_assoc]
  rfl
theorem btx_get (q : Nat) (L : List UInt8) : (bc (List.replicate (q + 1) 0 ++ L))[q]? = some (.int .u8 0) := by
  rw [bc_get, List.getElem?_append_left (by rw [List.length_replicate]; omega), List.getElem?_replicate]
  simp

set_option maxRecDepth 100000 in
set_option maxHeartbeats 1000000 in
theorem p_binverse_no (l : List UInt8) (r : Int) (w : World) (hs : l.length ≤ 1000000) (h : bck l r ≠ 0) :
    Calls Try.prog 11 #[.string ⟨l.toArray⟩, .int .i64 r] w fun e w' => TPost w w' e (biF l r) := by
  have hp := p_bsteps_any l r w hs
  unfold LPost at hp
  rw [(bck_no h).1] at hp
  rw [(bck_no h).2.1]
  dsimp only at hp
  have Hp := Lib.hid hp
  clear hp
  obtain ⟨E, hE⟩ : ∃ E, bck l r = E := ⟨_, rfl⟩
  rw [hE] at h Hp ⊢
  have d1 : (E != 0) = true := by simpa using h
  clear hE
  go_enter Try.func11, Try.ntmps11
  go_wp2_with (go_at_call 13; refine Hp.out.mono ?_; rintro e w1 ⟨A1, c1, rfl, _, _, hb1⟩)
  go_ret2
  exact ⟨rfl, hb1⟩

set_option maxRecDepth 100000 in
set_option maxHeartbeats 2000000 in
theorem p_binverse_yes (l : List UInt8) (r : Nat) (w : World) (hs : l.length ≤ 20000) (hg : ¬ bbad l (r : Int)) :
    Calls Try.prog 11 #[.string ⟨l.toArray⟩, .int .i64 (r : Int)] w fun e w' => TPost w w' e (biF l (r : Int)) := by
  have hp := p_bsteps_any l (r : Int) w (by omega)
  rw [bsF_yes (by omega) hg] at hp
  unfold LPost at hp
  dsimp only at hp
  obtain ⟨r2, e2, hr, _⟩ := bgood hg
  obtain rfl : r = r2 := by omega
  clear e2
  have hn : (splc ((List.range (l.length + 1)).map (brk (bcol l r)))).length = l.length + 1 := by rw [splc_len, List.length_map, List.length_range]
  rw [hn] at hp
  have Hst := Lib.hid (bstep_last l r hr)
  have Hla := Lib.hid fun x j b hj hx hb W => p_lastof_any l r x j b W (by omega) hj hr hx hb
  have Hok : Hid ((∀ j, j < l.length → bro (bcol l r) j ≠ r) → biF l (r : Int) = (bout (bcol l r) l.length, 0)) := Lib.hid fun h2 => biF_ok (by omega) hg (bok_late l r hr h2)
  have Hno : Hid (∀ k, k < l.length → bro (bcol l r) k = r → biF l (r : Int) = ([], 130)) := Lib.hid fun k hk h1 => biF_cyc (by omega) hg fun h2 => ((bok_iff l r).1 h2).1 k hk h1
  have H0 : Hid (bro (bcol l r) 0 = 0 ∧ bout (bcol l r) 0 = []) := Lib.hid ⟨rfl, rfl⟩
  have Hol := Lib.hid (bout_len (bcol l r))
  have hn0 : 0 < l.length + 1 := by omega
  have hri : (r : Int) ≤ (l.length : Int) ∧ (0 : Int) ≤ (r : Int) ∧ (l.length : Int) ≤ 20000 := by omega
  have Hp := Lib.hid hp
  have hmk := fun w => mk_bytes (l.length : Int) l.length rfl (by omega) w
  rw [show List.replicate l.length (0 : UInt8) = List.replicate l.length 0 ++ bout (bcol l r) 0 from (List.append_nil _).symm] at hmk
  clear hp hn hg
  generalize splc ((List.range (l.length + 1)).map (brk (bcol l r))) = S at *
  generalize bcol l r = C at *
  generalize biF l (r : Int) = F at *
  obtain ⟨T0, hT0⟩ : ∃ T0, bc (List.replicate l.length 0 ++ bout C 0) = T0 := ⟨_, rfl⟩
  rw [hT0] at hmk
  have HT0 := Lib.hid hT0
  clear hT0
  go_enter Try.func11, Try.ntmps11
  go_wp2_with (go_at_call 13; refine Hp.out.mono ?_; rintro e w1 ⟨A1, c1, rfl, _, hr1, hb1⟩; obtain ⟨bA, oA, rfl, hbA, hcA⟩ := gcells_at hr1 hn0; have HcA := Lib.hid hcA; have HN := Lib.hid (Blk.new w1 5 T0); have HB0 := Lib.hid ((Below.refl w1.heap.size w1).alloc (Nat.le_refl _) (.cells T0 5)); have Hb := Lib.hid hb1; clear hb1 hr1 hbA hcA Hp; obtain ⟨g, hg1⟩ : ∃ g, w1.heap.size = g := ⟨_, rfl⟩; rw [hg1] at HcA HB0 HN; have Hg1 := Lib.hid hg1; simp only [hg1])
  clear hmk
  go_loopw [9, 10] (fun rv av wr => ∃ (k x m : Nat) (L : List UInt8), k + m = l.length ∧ av = .int .i64 ((m : Int) - 1) ∧ rv = .int .i64 (x : Int) ∧ Hid (bro C k = x ∧ bout C k = L ∧ ∀ j, j < k → bro C j ≠ r) ∧ Hid (Blk wr g 5 (bc (List.replicate m 0 ++ L))) ∧ Hid (Below g w1 wr)) (fun _ av _ => (intOf av + 1).toNat)
  case atStart => exact ⟨0, 0, l.length, [], by omega, rfl, rfl, Lib.hid ⟨H0.out.1, H0.out.2, fun j hj => absurd hj (Nat.not_lt_zero _)⟩, Lib.hid (by rw [← H0.out.2, HT0.out]; exact HN.out), HB0⟩
  case round =>
    obtain ⟨k, x, m, L, hk, rfl, rfl, HK, HB, HO⟩ := hrel
    clear HN HB0
    have Hfin : Hid (Below w.heap.size w wr) := Lib.hid (Hb.out.trans (HO.out.mono (by rw [← Hg1.out]; exact Hb.out.size)))
    cases m with
    | zero =>
      obtain rfl : k = l.length := by omega
      have hF := Hok.out HK.out.2.2
      have hll : L.length = l.length := by rw [← HK.out.2.1]; exact Hol.out _
      rw [HK.out.2.1] at hF
      subst hF
      have hcv := str_blk wr g l.length l.length 5 L hll HB.out
      go_wp2
      go_ret2
      exact ⟨rfl, Hfin.out⟩
    | succ q =>
      have hqi : (0 : Int) ≤ (q : Int) ∧ (q : Int) < (l.length : Int) := by omega
      by_cases hx : x = r
      · have hF := Hno.out k (by omega) (by rw [HK.out.1]; exact hx)
        subst hF
        have d1 : ((x : Int) == (r : Int)) = true := by rw [hx]; simp
        have d2 : (x == r) = true := by rw [hx]; simp
        clear hx
        go_wp2
        go_ret2
        exact ⟨rfl, Hfin.out⟩
      · have d1 : ((x : Int) == (r : Int)) = false := by rw [beq_eq_false_iff_ne]; omega
        have d2 : (x == r) = false := by rw [beq_eq_false_iff_ne]; omega
        obtain ⟨x2, y, j, b, h2, hj, e1, e2, e3, e4, e5, e6, hx2, hy2⟩ := Hst.out k (by rw [HK.out.1]; exact hx)
        have exx : x2 = x := by rw [← e1]; exact HK.out.1
        subst exx
        have HK2 : Hid (bro C (k + 1) = y ∧ bout C (k + 1) = b :: L ∧ ∀ j, j < k + 1 → bro C j ≠ r) := Lib.hid ⟨e2, by rw [e6, HK.out.2.1], fun j hj => by
          by_cases e : j = k
          · rw [e, HK.out.1]; exact hx
          · exact HK.out.2.2 j (by omega)⟩
        have HL := Lib.hid fun W => Hla.out x2 j b hj e4 e3 W
        have x3 := HB.out.cell q
        rw [btx_get] at x3
        have x4 := HB.out.frozen q
        have x5 := HB.out.lt
        have HB2 := Lib.hid (HB.out.set_ q (.int .u8 (b.toNat : Int)))
        rw [btx_set] at HB2
        have HO2 := Lib.hid (HO.out.setCell (p := ⟨g, q, none⟩) (Nat.le_refl _) (.int .u8 (b.toNat : Int)))
        have x6 := HcA.out _ HO2.out x2 h2
        rw [e5] at x6
        have hxi : (0 : Int) ≤ (x2 : Int) ∧ (x2 : Int) < (l.length : Int) + 1 := by omega
        clear e1 e2 e3 e4 e5 e6 h2 hj hx HK hx2 hy2 Hst Hla HB
        go_wp2_with (go_at_call 19; refine (HL.out _).mono ?_; rintro e wr ⟨rfl, rfl⟩)
        go_roundw
        case rel => exact ⟨k + 1, y, q, b :: L, by omega, rfl, rfl, HK2, HB2, HO2⟩
        case measure => simp only [intOf]; omega
theorem p_binverse_any (l : List UInt8) (r : Int) (w : World) (hs : l.length ≤ 1000000) :
    Calls Try.prog 11 #[.string ⟨l.toArray⟩, .int .i64 r] w fun e w' => TPost w w' e (biF l r) := by
  by_cases h : bck l r = 0
  · obtain ⟨h1, h2⟩ := bck_zero h
    obtain ⟨k, rfl, _⟩ := bgood h2
    exact p_binverse_yes l k w (by omega) h2
  · exact p_binverse_no l r w hs h
end Go.Proofs.Ytjdpogaaookoeaa
