/-
  Layer 13: the document's own Steps, for every text and primary (ahead of the code's landing).
-/
import Derived.Test.YtjdpogaaookoeaaBwtS
namespace Go.Proofs.Ytjdpogaaookoeaa
set_option linter.unusedSimpArgs false
set_option linter.unusedVariables false
open Go.ChangeShapes Go.WideShapes Go.ChangeAt Go.RowKit Go.Joins Go.Deep

theorem bsF_big {l : List UInt8} {r : Int} (h : 20000 < l.length) : bsF l r = ([], 3) := if_pos h
theorem bsF_bad {l : List UInt8} {r : Int} (h : ¬ 20000 < l.length) (k : bbad l r) : bsF l r = ([], 130) := by unfold bsF; rw [if_neg h, if_pos k]
theorem bsF_yes {l : List UInt8} {r : Nat} (h : ¬ 20000 < l.length) (k : ¬ bbad l (r : Int)) : bsF l (r : Int) = (splc ((List.range (l.length + 1)).map (brk (bcol l r))), 0) := by unfold bsF; rw [if_neg h, if_neg k, Int.toNat_natCast]
/-- The row of steps, as far as it has been told. -/
def bst (c : List Int) (N i : Nat) : List Int := (List.range N).map fun j => if j < i then ((brk c j : Nat) : Int) else 0
theorem bst_len (c : List Int) (N i : Nat) : (bst c N i).length = N := by simp [bst]
theorem bst_zero (c : List Int) (N : Nat) : bst c N 0 = List.replicate N 0 := by
  unfold bst
  apply List.ext_getElem
  · simp
  · intro j h1 h2
    simp
theorem bst_set (c : List Int) (N i : Nat) : (bst c N i).set i ((brk c i : Nat) : Int) = bst c N (i + 1) := by
  apply List.ext_getElem
  · simp [bst]
  · intro j h1 h2
    rw [List.getElem_set]
    simp only [bst, List.getElem_map, List.getElem_range]
    by_cases e : i = j
    · subst e
      rw [if_pos rfl, if_pos (by omega)]
    · rw [if_neg e]
      by_cases h : j < i
      · rw [if_pos h, if_pos (by omega)]
      · rw [if_neg h, if_neg (by omega)]
theorem bst_skip (c : List Int) (N i : Nat) (h : brk c i = 0) : bst c N i = bst c N (i + 1) := by
  apply List.ext_getElem
  · simp [bst]
  · intro j h1 h2
    simp only [bst, List.getElem_map, List.getElem_range]
    by_cases e : i = j
    · subst e
      rw [if_neg (by omega), if_pos (by omega), h]
      rfl
    · by_cases h : j < i
      · rw [if_pos h, if_pos (by omega)]
      · rw [if_neg h, if_neg (by omega)]
theorem bst_all (c : List Int) (N : Nat) : bst c N N = splc ((List.range N).map (brk c)) := by
  apply List.ext_getElem
  · simp [bst, splc]
  · intro j h1 h2
    rw [bst_len] at h1
    simp only [bst, splc, List.getElem_map, List.getElem_range]
    rw [if_pos h1]
/-- How many rows have been found less, and one. -/
def bcn (c : List Int) (r i k : Nat) : Nat := 1 + (List.range k).countP fun j => decide (j ≠ r) && klt c j i
theorem bcn_succ (c : List Int) (r i k : Nat) : bcn c r i (k + 1) = bcn c r i k + if k ≠ r ∧ klt c k i = true then 1 else 0 := by
  unfold bcn
  rw [List.range_succ, List.countP_append, List.countP_singleton, Nat.add_assoc]
  congr 2
  by_cases h : k ≠ r ∧ klt c k i = true
  · rw [if_pos h, if_pos (by rw [h.2, Bool.and_true]; exact decide_eq_true h.1)]
  · rw [if_neg h, if_neg fun h2 => h ⟨of_decide_eq_true (Bool.and_eq_true_iff.1 h2).1, (Bool.and_eq_true_iff.1 h2).2⟩]
theorem bcn_le (c : List Int) (r i k : Nat) : bcn c r i k ≤ k + 1 := by
  unfold bcn
  have := List.countP_le_length (p := fun j => decide (j ≠ r) && klt c j i) (l := List.range k)
  rw [List.length_range] at this
  omega
theorem bcn_count (c : List Int) (r i : Nat) (h : klt c r i = true) : ∀ k, (List.range k).countP (fun j => klt c j i) = (List.range k).countP (fun j => decide (j ≠ r) && klt c j i) + if r < k then 1 else 0
  | 0 => rfl
  | k + 1 => by
    rw [List.range_succ, List.countP_append, List.countP_append, List.countP_singleton, List.countP_singleton, bcn_count c r i h k]
    by_cases e : k = r
    · subst e
      simp [h]
    · cases hc : klt c k i with
      | true => simp [e]; by_cases h1 : r < k <;> simp [h1] <;> omega
      | false => simp; by_cases h1 : r < k <;> simp [h1] <;> omega
theorem bcn_all (l : List UInt8) (r i : Nat) (h : r ≤ l.length) (hi : i < l.length + 1) (hne : i ≠ r) : bcn (bcol l r) r i (l.length + 1) = brk (bcol l r) i := by
  unfold bcn brk
  rw [bcol_len l r h, bcn_count _ r i (bcol_least l r i h hi hne) (l.length + 1), if_pos (by omega)]
  omega
set_option maxRecDepth 100000 in
set_option maxHeartbeats 2000000 in
theorem bref_steps_no (l : List UInt8) (r : Int) (w : World) (hs : l.length ≤ 1000000) (h : 20000 < l.length ∨ bbad l r) :
    Calls Try.prog 14 #[.string ⟨l.toArray⟩, .int .i64 r] w fun e w' => LPost w w' e (bsF l r) := by
  by_cases hbig : 20000 < l.length
  · rw [bsF_big hbig]
    have d0 : decide ((20000 : Int) < (l.length : Int)) = true := by rw [decide_eq_true_iff]; omega
    have d1 : (20000 : Int) < (l.length : Int) := by omega
    go_enter Try.func14, Try.ntmps14
    go_wp2
    go_ret2
    exact lpost_none (Below.refl _ _)
  · have hb : bbad l r := h.resolve_left hbig
    rw [bsF_bad hbig hb]
    have d1 : ¬ (20000 : Int) < (l.length : Int) := by omega
    unfold bbad at hb
    rcases hb with ⟨h1, h2⟩ | ⟨h1, h2⟩
    · have e1 : l = [] := List.length_eq_zero_iff.1 h1
      subst e1
      have c2 : (r != 0) = true := by simpa using h2
      clear h h1 h2 hs hbig d1
      go_enter Try.func14, Try.ntmps14
      go_wp2
      go_ret2
      exact lpost_none (Below.refl _ _)
    · have c1 : ((l.length : Int) == 0) = false := by rw [beq_eq_false_iff_ne]; omega
      have c1n : (l.length == 0) = false := by rw [beq_eq_false_iff_ne]; omega
      have c3 : decide ((0 : Int) < (l.length : Int)) = true := by rw [decide_eq_true_iff]; omega
      have c3n : decide (0 < l.length) = true := decide_eq_true h1
      by_cases h4 : r < 1
      · have c4 : decide (r < 1) = true := decide_eq_true h4
        clear h h1 h2 hbig
        go_enter Try.func14, Try.ntmps14
        go_wp2
        go_ret2
        exact lpost_none (Below.refl _ _)
      · have c4 : decide (r < 1) = false := decide_eq_false h4
        have c5 : decide ((l.length : Int) < r) = true := by rw [decide_eq_true_iff]; omega
        clear h h1 h2 h4 hbig
        go_enter Try.func14, Try.ntmps14
        go_wp2
        go_ret2
        exact lpost_none (Below.refl _ _)
theorem blk_drewN {w : World} {g : Nat} {t : TypeId} {cs : Array Value} (h : Blk w g t cs) (n : Nat) : Blk (w.drewN n) g t cs := h.drewN n
set_option maxRecDepth 100000 in
set_option maxHeartbeats 8000000 in
theorem bref_steps_yes (l : List UInt8) (r : Nat) (w : World) (hs : l.length ≤ 20000) (hg : ¬ bbad l (r : Int)) :
    Calls Try.prog 14 #[.string ⟨l.toArray⟩, .int .i64 (r : Int)] w fun e w' => LPost w w' e (bsF l (r : Int)) := by
  rw [bsF_yes (by omega) hg, ← bst_all]
  obtain ⟨r2, e2, hr, hpos⟩ := bgood hg
  have e3 : r2 = r := by omega
  subst e3
  clear e2
  have hcol := fun W => bref_column_any l r2 W hr (by omega)
  unfold CPost at hcol
  have d1 : ¬ (20000 : Int) < (l.length : Int) := by omega
  have hd : (((l.length : Int) == 0) = true ∧ ((r2 : Int) != 0) = false ∧ (r2 != 0) = false ∧ decide ((0 : Int) < (l.length : Int)) = false ∧ decide (0 < l.length) = false ∧ (l.length == 0) = true) ∨
      (((l.length : Int) == 0) = false ∧ (l.length == 0) = false ∧ decide ((0 : Int) < (l.length : Int)) = true ∧ decide (0 < l.length) = true ∧ decide ((r2 : Int) < 1) = false ∧ decide (r2 < 1) = false ∧ decide ((l.length : Int) < (r2 : Int)) = false ∧ decide (l.length < r2) = false) := by
    by_cases h0 : l.length = 0
    · refine Or.inl ⟨by rw [beq_iff_eq]; omega, by simp; omega, by simp; omega, by rw [decide_eq_false_iff_not]; omega, by rw [decide_eq_false_iff_not]; omega, by rw [beq_iff_eq]; omega⟩
    · have := hpos (by omega)
      refine Or.inr ⟨by rw [beq_eq_false_iff_ne]; omega, by rw [beq_eq_false_iff_ne]; omega, by rw [decide_eq_true_iff]; omega, by rw [decide_eq_true_iff]; omega, by rw [decide_eq_false_iff_not]; omega, by rw [decide_eq_false_iff_not]; omega, by rw [decide_eq_false_iff_not]; omega, by rw [decide_eq_false_iff_not]; omega⟩
  have Hcol := Lib.hid hcol
  have Hskip : Hid (bst (bcol l r2) (l.length + 1) r2 = bst (bcol l r2) (l.length + 1) (r2 + 1)) := Lib.hid (bst_skip _ _ _ (brk_primary l r2 hr))
  have Hz : Hid (bst (bcol l r2) (l.length + 1) 0 = List.replicate (l.length + 1) 0) := Lib.hid (bst_zero _ _)
  have Hblen : Hid (∀ i, (bst (bcol l r2) (l.length + 1) i).length = l.length + 1) := Lib.hid (bst_len _ _)
  have Hset : Hid (∀ i, i < l.length + 1 → i ≠ r2 → ∀ n, n = bcn (bcol l r2) r2 i (l.length + 1) → (bst (bcol l r2) (l.length + 1) i).set i (n : Int) = bst (bcol l r2) (l.length + 1) (i + 1)) := Lib.hid fun i hi hne n hn => by rw [hn, bcn_all l r2 i hr hi hne]; exact bst_set _ _ _
  have Hbcn := Lib.hid fun i k => bcn_succ (bcol l r2) r2 i k
  have Hbcl := Lib.hid fun i k => bcn_le (bcol l r2) r2 i k
  have Hclen : Hid ((bcol l r2).length = l.length + 1) := Lib.hid (bcol_len l r2 hr)
  have Hone : Hid (∀ i, bcn (bcol l r2) r2 i 0 = 1) := Lib.hid fun i => rfl
  have hri : (r2 : Int) ≤ (l.length : Int) ∧ (0 : Int) ≤ (r2 : Int) ∧ (l.length : Int) ≤ 20000 := by omega
  obtain ⟨N, hN⟩ : ∃ N, l.length + 1 = N := ⟨_, rfl⟩
  have hNi : (N : Int) ≤ 20001 ∧ (r2 : Int) < (N : Int) := by omega
  have hn0 : 0 < N := by omega
  rw [hN] at Hcol Hskip Hz Hblen Hset Hclen ⊢
  have hmk := fun w => gmk_ints (N : Int) N rfl (by omega) w
  clear hcol hpos hg hr hN
  generalize bcol l r2 = C at *
  have Hd := Lib.hid hd
  clear hd
  suffices hgo : ∀ (_ : True), Calls Try.prog 14 #[.string ⟨l.toArray⟩, .int .i64 (r2 : Int)] w fun e w' => LPost w w' e (bst C N N, 0) from hgo trivial
  intro _
  rcases Hd.out with ⟨g1, g2, g3, g4, g5, g6⟩ | ⟨g1, g2, g3, g4, g5, g6, g7, g8⟩
  · clear Hd
    go_enter Try.func14, Try.ntmps14
    go_wp2_with (go_at_call 20; refine (Hcol.out _).mono ?_; rintro e w1 ⟨A1, c1, rfl, _, hr1, hb1⟩; obtain ⟨bA, oA, rfl, hbA, hcA⟩ := gcells_at hr1 hn0; have HcA := Lib.hid hcA; have Hb := Lib.hid hb1; clear hb1 hr1 hbA hcA Hcol)
    have HB0 : Hid (Blk (w1.alloc (.cells (ints (List.replicate N 0)).toArray 3)) w1.heap.size 3 (ints (bst C N 0)).toArray) := Lib.hid (by rw [Hz.out]; exact Blk.new _ _ _)
    have HO0 : Hid (Below w1.heap.size w1 (w1.alloc (.cells (ints (List.replicate N 0)).toArray 3))) := Lib.hid ((Below.refl _ _).alloc (Nat.le_refl _) _)
    clear hmk
    generalize w1.alloc (.cells (ints (List.replicate N 0)).toArray 3) = wz at *
    obtain ⟨g, hg⟩ : ∃ g, w1.heap.size = g := ⟨_, rfl⟩
    have Hg := Lib.hid hg
    rw [hg] at HO0 HB0 HcA ⊢
    clear hg
    go_loopw [8, 9, 10] (fun iv _ _ wr => ∃ i : Nat, i ≤ N ∧ iv = .int .i64 (i : Int) ∧ Hid (Blk wr g 3 (ints (bst C N i)).toArray) ∧ Hid (Below g w1 wr)) (fun iv _ _ _ => N - (intOf iv).toNat)
    case atStart => exact ⟨0, by omega, rfl, HB0, HO0⟩
    case round =>
      obtain ⟨i, hi, rfl, HB, HO⟩ := hrel
      clear HB0 HO0
      have hii0 : (0 : Int) ≤ (i : Int) ∧ (i : Int) ≤ 20001 := by omega
      by_cases hlt : i < N
      · have hii : (i : Int) < (N : Int) := by omega
        by_cases hir : i = r2
        · subst hir
          have HB2 : Hid (Blk wr g 3 (ints (bst C N (i + 1))).toArray) := Lib.hid (by rw [← Hskip.out]; exact HB.out)
          go_wp2
          go_roundw
          case rel => exact ⟨i + 1, by omega, iv (by omega), HB2, HO⟩
          case measure => simp only [intOf]; omega
        · have d2 : ((i : Int) == (r2 : Int)) = false := by rw [beq_eq_false_iff_ne]; omega
          have d3 : (i == r2) = false := by rw [beq_eq_false_iff_ne]; omega
          have hiC : i < C.length := by rw [Hclen.out]; exact hlt
          obtain ⟨Y, hY⟩ : ∃ Y, C[i] = Y := ⟨_, rfl⟩
          have HgY : Hid (C.getD i 0 = Y) := Lib.hid (by rw [List.getD_eq_getElem?_getD, List.getElem?_eq_getElem hiC]; exact hY)
          have HcY : Hid (∀ W, Below g w1 W → W.cell? ⟨bA, oA + i, none⟩ = some (.int .i64 Y)) := Lib.hid fun W hW => by rw [← hY]; exact HcA.out W hW i hiC
          have Hset2 := Lib.hid (Hset.out i hlt hir)
          have Hir := Lib.hid hir
          clear hY hiC hir
          obtain ⟨wi, rfl⟩ : ∃ wi, wi = wr := ⟨_, rfl⟩
          go_wp2
          go_loopw [9, 10] (fun nv kv W => ∃ k n : Nat, k ≤ N ∧ nv = .int .i64 (n : Int) ∧ kv = .int .i64 (k : Int) ∧ Hid (n = bcn C r2 i k ∧ n ≤ k + 1) ∧ Hid (Blk W g 3 (ints (bst C N i)).toArray) ∧ Hid (Below g w1 W)) (fun _ kv _ => N - (intOf kv).toNat)
          case atStart => exact ⟨0, 1, by omega, rfl, rfl, Lib.hid ⟨(Hone.out i).symm, by omega⟩, HB, HO⟩
          case round =>
            obtain ⟨k, n, hk, rfl, rfl, HN, HB3, HO3⟩ := hrel
            clear HB HO
            have hki0 : (0 : Int) ≤ (k : Int) ∧ (k : Int) ≤ 20001 ∧ (0 : Int) ≤ (n : Int) := by omega
            have hn2 : (n : Int) ≤ (k : Int) + 1 := by have := HN.out.2; omega
            by_cases hlk : k < N
            · have hki : (k : Int) < (N : Int) := by omega
              have hkC : k < C.length := by rw [Hclen.out]; exact hlk
              obtain ⟨X, hX⟩ : ∃ X, C[k] = X := ⟨_, rfl⟩
              have x1 := HcA.out wr HO3.out k hkC
              have x2 := HcY.out wr HO3.out
              rw [hX] at x1
              have hgX : C.getD k 0 = X := by rw [List.getD_eq_getElem?_getD, List.getElem?_eq_getElem hkC]; exact hX
              have hstep := Hbcn.out i k
              have hkl := klt_iff C k i
              rw [hgX, HgY.out] at hkl
              rw [← HN.out.1] at hstep
              clear hX hgX hkC
              by_cases hkr : k = r2
              · have f1 : ((k : Int) != (r2 : Int)) = false := by simp; omega
                have f2 : (k != r2) = false := by simp; omega
                rw [if_neg (fun h => h.1 hkr)] at hstep
                have HN2 : Hid (n = bcn C r2 i (k + 1) ∧ n ≤ k + 1 + 1) := Lib.hid ⟨hstep.symm, by have := HN.out.2; omega⟩
                subst hkr
                clear hstep HN hkl
                go_wp2
                go_quiet (fail)
                go_wp2
                go_roundw
                case rel => exact ⟨k + 1, n, by omega, rfl, iv (by omega), HN2, Lib.hid (HB3.out.drewN _), Lib.hid (below_drewN HO3.out _)⟩
                case measure => simp only [intOf]; omega
              · have f1 : ((k : Int) != (r2 : Int)) = true := by simp; omega
                have f2 : (k != r2) = true := by simp; omega
                by_cases h1 : X < Y
                · have f3 : decide (X < Y) = true := decide_eq_true h1
                  rw [if_pos ⟨hkr, hkl.2 (Or.inl h1)⟩] at hstep
                  have HN2 : Hid (n + 1 = bcn C r2 i (k + 1) ∧ n + 1 ≤ k + 1 + 1) := Lib.hid ⟨hstep.symm, by have := HN.out.2; omega⟩
                  clear hstep HN hkl hkr h1
                  go_wp2
                  go_quiet (fail)
                  go_wp2
                  go_roundw
                  case rel => exact ⟨k + 1, n + 1, by omega, iv (by omega), iv (by omega), HN2, Lib.hid (HB3.out.drewN _), Lib.hid (below_drewN HO3.out _)⟩
                  case measure => simp only [intOf]; omega
                · have f3 : decide (X < Y) = false := decide_eq_false h1
                  by_cases h2 : X = Y
                  · have f4 : (X == Y) = true := by rw [beq_iff_eq]; exact h2
                    by_cases h3 : k < i
                    · have f5 : decide ((k : Int) < (i : Int)) = true := by rw [decide_eq_true_iff]; omega
                      have f6 : decide (k < i) = true := decide_eq_true h3
                      rw [if_pos ⟨hkr, hkl.2 (Or.inr ⟨h2, h3⟩)⟩] at hstep
                      have HN2 : Hid (n + 1 = bcn C r2 i (k + 1) ∧ n + 1 ≤ k + 1 + 1) := Lib.hid ⟨hstep.symm, by have := HN.out.2; omega⟩
                      clear hstep HN hkl hkr h1 h2 h3
                      go_wp2
                      go_quiet (fail)
                      go_wp2
                      go_roundw
                      case rel => exact ⟨k + 1, n + 1, by omega, iv (by omega), iv (by omega), HN2, Lib.hid (HB3.out.drewN _), Lib.hid (below_drewN HO3.out _)⟩
                      case measure => simp only [intOf]; omega
                    · have f5 : decide ((k : Int) < (i : Int)) = false := by rw [decide_eq_false_iff_not]; omega
                      have f6 : decide (k < i) = false := decide_eq_false h3
                      rw [if_neg (fun h => (hkl.1 h.2).elim h1 fun h => h3 h.2)] at hstep
                      have HN2 : Hid (n = bcn C r2 i (k + 1) ∧ n ≤ k + 1 + 1) := Lib.hid ⟨hstep.symm, by have := HN.out.2; omega⟩
                      clear hstep HN hkl hkr h1 h2 h3
                      go_wp2
                      go_quiet (fail)
                      go_wp2
                      go_roundw
                      case rel => exact ⟨k + 1, n, by omega, rfl, iv (by omega), HN2, Lib.hid (HB3.out.drewN _), Lib.hid (below_drewN HO3.out _)⟩
                      case measure => simp only [intOf]; omega
                  · have f4 : (X == Y) = false := by rw [beq_eq_false_iff_ne]; exact h2
                    rw [if_neg (fun h => (hkl.1 h.2).elim h1 fun h => h2 h.1)] at hstep
                    have HN2 : Hid (n = bcn C r2 i (k + 1) ∧ n ≤ k + 1 + 1) := Lib.hid ⟨hstep.symm, by have := HN.out.2; omega⟩
                    clear hstep HN hkl hkr h1 h2
                    go_wp2
                    go_quiet (fail)
                    go_wp2
                    go_roundw
                    case rel => exact ⟨k + 1, n, by omega, rfl, iv (by omega), HN2, Lib.hid (HB3.out.drewN _), Lib.hid (below_drewN HO3.out _)⟩
                    case measure => simp only [intOf]; omega
            · obtain rfl : k = N := by omega
              have hki : ¬ (k : Int) < (k : Int) := by omega
              have x3 := HB3.out.frozen i
              have x4 := gblk_cell HB3.out i (by rw [Hblen.out]; exact hlt)
              have hgl := HB3.out.lt
              have Hs := Lib.hid (Hset2.out n HN.out.1)
              have HB4 : Hid (Blk (wr.setCell ⟨g, i, none⟩ (.int .i64 (n : Int))) g 3 (ints (bst C k (i + 1))).toArray) := Lib.hid (by rw [← Hs.out, ← gints_set]; exact HB3.out.set_ i _)
              have HO4 : Hid (Below g w1 (wr.setCell ⟨g, i, none⟩ (.int .i64 (n : Int)))) := Lib.hid (HO3.out.setCell (p := ⟨g, i, none⟩) (Nat.le_refl _) _)
              go_wp2
              go_roundw
              case rel => exact ⟨i + 1, by omega, iv (by omega), HB4, HO4⟩
              case measure => simp only [intOf]; omega
      · obtain rfl : i = N := by omega
        have hii : ¬ (i : Int) < (i : Int) := by omega
        go_wp2
        go_ret2
        exact lpost_blk (Hblen.out i) HB.out (Hb.out.trans (HO.out.mono (by rw [← Hg.out]; exact Hb.out.size)))
  · clear Hd
    go_enter Try.func14, Try.ntmps14
    go_wp2_with (go_at_call 20; refine (Hcol.out _).mono ?_; rintro e w1 ⟨A1, c1, rfl, _, hr1, hb1⟩; obtain ⟨bA, oA, rfl, hbA, hcA⟩ := gcells_at hr1 hn0; have HcA := Lib.hid hcA; have Hb := Lib.hid hb1; clear hb1 hr1 hbA hcA Hcol)
    have HB0 : Hid (Blk (w1.alloc (.cells (ints (List.replicate N 0)).toArray 3)) w1.heap.size 3 (ints (bst C N 0)).toArray) := Lib.hid (by rw [Hz.out]; exact Blk.new _ _ _)
    have HO0 : Hid (Below w1.heap.size w1 (w1.alloc (.cells (ints (List.replicate N 0)).toArray 3))) := Lib.hid ((Below.refl _ _).alloc (Nat.le_refl _) _)
    clear hmk
    generalize w1.alloc (.cells (ints (List.replicate N 0)).toArray 3) = wz at *
    obtain ⟨g, hg⟩ : ∃ g, w1.heap.size = g := ⟨_, rfl⟩
    have Hg := Lib.hid hg
    rw [hg] at HO0 HB0 HcA ⊢
    clear hg
    go_loopw [8, 9, 10] (fun iv _ _ wr => ∃ i : Nat, i ≤ N ∧ iv = .int .i64 (i : Int) ∧ Hid (Blk wr g 3 (ints (bst C N i)).toArray) ∧ Hid (Below g w1 wr)) (fun iv _ _ _ => N - (intOf iv).toNat)
    case atStart => exact ⟨0, by omega, rfl, HB0, HO0⟩
    case round =>
      obtain ⟨i, hi, rfl, HB, HO⟩ := hrel
      clear HB0 HO0
      have hii0 : (0 : Int) ≤ (i : Int) ∧ (i : Int) ≤ 20001 := by omega
      by_cases hlt : i < N
      · have hii : (i : Int) < (N : Int) := by omega
        by_cases hir : i = r2
        · subst hir
          have HB2 : Hid (Blk wr g 3 (ints (bst C N (i + 1))).toArray) := Lib.hid (by rw [← Hskip.out]; exact HB.out)
          go_wp2
          go_roundw
          case rel => exact ⟨i + 1, by omega, iv (by omega), HB2, HO⟩
          case measure => simp only [intOf]; omega
        · have d2 : ((i : Int) == (r2 : Int)) = false := by rw [beq_eq_false_iff_ne]; omega
          have d3 : (i == r2) = false := by rw [beq_eq_false_iff_ne]; omega
          have hiC : i < C.length := by rw [Hclen.out]; exact hlt
          obtain ⟨Y, hY⟩ : ∃ Y, C[i] = Y := ⟨_, rfl⟩
          have HgY : Hid (C.getD i 0 = Y) := Lib.hid (by rw [List.getD_eq_getElem?_getD, List.getElem?_eq_getElem hiC]; exact hY)
          have HcY : Hid (∀ W, Below g w1 W → W.cell? ⟨bA, oA + i, none⟩ = some (.int .i64 Y)) := Lib.hid fun W hW => by rw [← hY]; exact HcA.out W hW i hiC
          have Hset2 := Lib.hid (Hset.out i hlt hir)
          have Hir := Lib.hid hir
          clear hY hiC hir
          obtain ⟨wi, rfl⟩ : ∃ wi, wi = wr := ⟨_, rfl⟩
          go_wp2
          go_loopw [9, 10] (fun nv kv W => ∃ k n : Nat, k ≤ N ∧ nv = .int .i64 (n : Int) ∧ kv = .int .i64 (k : Int) ∧ Hid (n = bcn C r2 i k ∧ n ≤ k + 1) ∧ Hid (Blk W g 3 (ints (bst C N i)).toArray) ∧ Hid (Below g w1 W)) (fun _ kv _ => N - (intOf kv).toNat)
          case atStart => exact ⟨0, 1, by omega, rfl, rfl, Lib.hid ⟨(Hone.out i).symm, by omega⟩, HB, HO⟩
          case round =>
            obtain ⟨k, n, hk, rfl, rfl, HN, HB3, HO3⟩ := hrel
            clear HB HO
            have hki0 : (0 : Int) ≤ (k : Int) ∧ (k : Int) ≤ 20001 ∧ (0 : Int) ≤ (n : Int) := by omega
            have hn2 : (n : Int) ≤ (k : Int) + 1 := by have := HN.out.2; omega
            by_cases hlk : k < N
            · have hki : (k : Int) < (N : Int) := by omega
              have hkC : k < C.length := by rw [Hclen.out]; exact hlk
              obtain ⟨X, hX⟩ : ∃ X, C[k] = X := ⟨_, rfl⟩
              have x1 := HcA.out wr HO3.out k hkC
              have x2 := HcY.out wr HO3.out
              rw [hX] at x1
              have hgX : C.getD k 0 = X := by rw [List.getD_eq_getElem?_getD, List.getElem?_eq_getElem hkC]; exact hX
              have hstep := Hbcn.out i k
              have hkl := klt_iff C k i
              rw [hgX, HgY.out] at hkl
              rw [← HN.out.1] at hstep
              clear hX hgX hkC
              by_cases hkr : k = r2
              · have f1 : ((k : Int) != (r2 : Int)) = false := by simp; omega
                have f2 : (k != r2) = false := by simp; omega
                rw [if_neg (fun h => h.1 hkr)] at hstep
                have HN2 : Hid (n = bcn C r2 i (k + 1) ∧ n ≤ k + 1 + 1) := Lib.hid ⟨hstep.symm, by have := HN.out.2; omega⟩
                subst hkr
                clear hstep HN hkl
                go_wp2
                go_quiet (fail)
                go_wp2
                go_roundw
                case rel => exact ⟨k + 1, n, by omega, rfl, iv (by omega), HN2, Lib.hid (HB3.out.drewN _), Lib.hid (below_drewN HO3.out _)⟩
                case measure => simp only [intOf]; omega
              · have f1 : ((k : Int) != (r2 : Int)) = true := by simp; omega
                have f2 : (k != r2) = true := by simp; omega
                by_cases h1 : X < Y
                · have f3 : decide (X < Y) = true := decide_eq_true h1
                  rw [if_pos ⟨hkr, hkl.2 (Or.inl h1)⟩] at hstep
                  have HN2 : Hid (n + 1 = bcn C r2 i (k + 1) ∧ n + 1 ≤ k + 1 + 1) := Lib.hid ⟨hstep.symm, by have := HN.out.2; omega⟩
                  clear hstep HN hkl hkr h1
                  go_wp2
                  go_quiet (fail)
                  go_wp2
                  go_roundw
                  case rel => exact ⟨k + 1, n + 1, by omega, iv (by omega), iv (by omega), HN2, Lib.hid (HB3.out.drewN _), Lib.hid (below_drewN HO3.out _)⟩
                  case measure => simp only [intOf]; omega
                · have f3 : decide (X < Y) = false := decide_eq_false h1
                  by_cases h2 : X = Y
                  · have f4 : (X == Y) = true := by rw [beq_iff_eq]; exact h2
                    by_cases h3 : k < i
                    · have f5 : decide ((k : Int) < (i : Int)) = true := by rw [decide_eq_true_iff]; omega
                      have f6 : decide (k < i) = true := decide_eq_true h3
                      rw [if_pos ⟨hkr, hkl.2 (Or.inr ⟨h2, h3⟩)⟩] at hstep
                      have HN2 : Hid (n + 1 = bcn C r2 i (k + 1) ∧ n + 1 ≤ k + 1 + 1) := Lib.hid ⟨hstep.symm, by have := HN.out.2; omega⟩
                      clear hstep HN hkl hkr h1 h2 h3
                      go_wp2
                      go_quiet (fail)
                      go_wp2
                      go_roundw
                      case rel => exact ⟨k + 1, n + 1, by omega, iv (by omega), iv (by omega), HN2, Lib.hid (HB3.out.drewN _), Lib.hid (below_drewN HO3.out _)⟩
                      case measure => simp only [intOf]; omega
                    · have f5 : decide ((k : Int) < (i : Int)) = false := by rw [decide_eq_false_iff_not]; omega
                      have f6 : decide (k < i) = false := decide_eq_false h3
                      rw [if_neg (fun h => (hkl.1 h.2).elim h1 fun h => h3 h.2)] at hstep
                      have HN2 : Hid (n = bcn C r2 i (k + 1) ∧ n ≤ k + 1 + 1) := Lib.hid ⟨hstep.symm, by have := HN.out.2; omega⟩
                      clear hstep HN hkl hkr h1 h2 h3
                      go_wp2
                      go_quiet (fail)
                      go_wp2
                      go_roundw
                      case rel => exact ⟨k + 1, n, by omega, rfl, iv (by omega), HN2, Lib.hid (HB3.out.drewN _), Lib.hid (below_drewN HO3.out _)⟩
                      case measure => simp only [intOf]; omega
                  · have f4 : (X == Y) = false := by rw [beq_eq_false_iff_ne]; exact h2
                    rw [if_neg (fun h => (hkl.1 h.2).elim h1 fun h => h2 h.1)] at hstep
                    have HN2 : Hid (n = bcn C r2 i (k + 1) ∧ n ≤ k + 1 + 1) := Lib.hid ⟨hstep.symm, by have := HN.out.2; omega⟩
                    clear hstep HN hkl hkr h1 h2
                    go_wp2
                    go_quiet (fail)
                    go_wp2
                    go_roundw
                    case rel => exact ⟨k + 1, n, by omega, rfl, iv (by omega), HN2, Lib.hid (HB3.out.drewN _), Lib.hid (below_drewN HO3.out _)⟩
                    case measure => simp only [intOf]; omega
            · obtain rfl : k = N := by omega
              have hki : ¬ (k : Int) < (k : Int) := by omega
              have x3 := HB3.out.frozen i
              have x4 := gblk_cell HB3.out i (by rw [Hblen.out]; exact hlt)
              have hgl := HB3.out.lt
              have Hs := Lib.hid (Hset2.out n HN.out.1)
              have HB4 : Hid (Blk (wr.setCell ⟨g, i, none⟩ (.int .i64 (n : Int))) g 3 (ints (bst C k (i + 1))).toArray) := Lib.hid (by rw [← Hs.out, ← gints_set]; exact HB3.out.set_ i _)
              have HO4 : Hid (Below g w1 (wr.setCell ⟨g, i, none⟩ (.int .i64 (n : Int)))) := Lib.hid (HO3.out.setCell (p := ⟨g, i, none⟩) (Nat.le_refl _) _)
              go_wp2
              go_roundw
              case rel => exact ⟨i + 1, by omega, iv (by omega), HB4, HO4⟩
              case measure => simp only [intOf]; omega
      · obtain rfl : i = N := by omega
        have hii : ¬ (i : Int) < (i : Int) := by omega
        go_wp2
        go_ret2
        exact lpost_blk (Hblen.out i) HB.out (Hb.out.trans (HO.out.mono (by rw [← Hg.out]; exact Hb.out.size)))
theorem bref_steps_any (l : List UInt8) (r : Int) (w : World) (hs : l.length ≤ 1000000) :
    Calls Try.prog 14 #[.string ⟨l.toArray⟩, .int .i64 r] w fun e w' => LPost w w' e (bsF l r) := by
  by_cases h : 20000 < l.length ∨ bbad l r
  · exact bref_steps_no l r w hs h
  · obtain ⟨k, rfl, _⟩ := bgood (fun h2 => h (Or.inr h2))
    exact bref_steps_yes l k w (by omega) fun h2 => h (Or.inr h2)
end Go.Proofs.Ytjdpogaaookoeaa
