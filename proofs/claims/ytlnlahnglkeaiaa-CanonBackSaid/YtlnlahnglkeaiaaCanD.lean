/-
  Layer 9: a code's none and Word, and what hands a word to what puts it.
-/
import Derived.Test.YtlnlahnglkeaiaaCanC
import Derived.Laws.EntriesVeiled
namespace Go.Proofs.Ytlnlahnglkeaiaa
set_option linter.unusedSimpArgs false
set_option linter.unusedVariables false
open Go.ChangeShapes Go.WideShapes Go.ChangeAt Go.RowKit Go.Joins Go.Deep

/-- What tells that no call made a code. -/
def CNone (w : World) (v : Value) : Prop := ∀ W, Below w.heap.size w W → Calls Try.prog 33 #[v] W fun e w' => e = .returned (.bool true) ∧ W = w'
theorem c_none_nil (w : World) : CNone w (.pointer none) := fun W _ => by
  go_enter Try.func33, Try.ntmps33
  go_wp2
  go_ret
  exact ⟨rfl, rfl⟩
theorem c_none_plain (w : World) (g : Nat) (h : w.cell? ⟨g, 0, none⟩ = some (.bool false)) : CNone w (.pointer (some ⟨g, 0, none⟩)) := fun W hW => by
  have hg := cell_lt h
  have x := (hW.cell (p := ⟨g, 0, none⟩) hg).trans h
  have hg2 := cell_lt x
  clear h hg hW
  go_enter Try.func33, Try.ntmps33
  go_wp2
  go_ret
  exact ⟨rfl, rfl⟩
theorem c_none_no (g : Nat) (w : World) (x : w.cell? ⟨g, 0, none⟩ = some (.bool true)) : Calls Try.prog 33 #[.pointer (some ⟨g, 0, none⟩)] w fun e w' => e = .returned (.bool false) ∧ w = w' := by
  have hg := cell_lt x
  go_enter Try.func33, Try.ntmps33
  go_wp2
  go_ret
  exact ⟨rfl, rfl⟩

/-! ### Word -/
/-- A symbol's field, and the error. -/
def pwordF (ws : List (Int × Int)) (s : Int) : (Int × Int) × Int := if 0 ≤ s ∧ s < ws.length ∧ (ws.getD s.toNat (0, 0)).2 ≠ 0 then (ws.getD s.toNat (0, 0), 0) else ((0, 0), 70)
theorem pword_ref (ws : List (Int × Int)) (s : Int) : (pwordF ws s).2 = (cwordF ws s).2 ∧ ((pwordF ws s).2 = 0 → (cwordF ws s).1 = digI (pwordF ws s).1.1 (pwordF ws s).1.2 ∧ (pwordF ws s).1 ∈ ws) := by
  unfold pwordF cwordF
  by_cases h : 0 ≤ s ∧ s < ws.length ∧ (ws.getD s.toNat (0, 0)).2 ≠ 0
  · rw [if_pos h, if_pos h]
    refine ⟨rfl, fun _ => ⟨rfl, ?_⟩⟩
    have hl : s.toNat < ws.length := by omega
    show ws.getD s.toNat (0, 0) ∈ ws
    rw [List.getD_eq_getElem?_getD, List.getElem?_eq_getElem hl]
    exact List.getElem_mem hl
  · rw [if_neg h, if_neg h]
    exact ⟨rfl, fun h => absurd h (by decide)⟩
/-- What Word answers. -/
def wordV (F : (Int × Int) × Int) : Value := .tuple #[.agg #[.int .i64 F.1.1, .int .i64 F.1.2], .int .i64 F.2]

set_option maxRecDepth 100000 in
theorem c_word_nil (v : Value) (s : Int) (w : World) (h : CNone w v) : Calls Try.prog 18 #[v, .int .i64 s] w fun e w' => e = .returned (wordV ((0, 0), 1)) ∧ Below w.heap.size w w' := by
  have Hn : Hid (CNone w v) := h
  clear h
  go_enter Try.func18, Try.ntmps18
  go_wp2_with (go_at_call 33; refine (Hn.out _ ((Below.refl _ _).alloc (Nat.le_refl _) _)).mono ?_; rintro e w1 ⟨rfl, rfl⟩)
  refine bodyPost_ret (v := .tuple #[.agg #[.int .i64 0, .int .i64 0], .int .i64 1]) (by simp [results, Try.results18, go_sem]) rfl ⟨rfl, by go_grown⟩

set_option maxRecDepth 100000 in
set_option maxHeartbeats 1000000 in
theorem c_word_any (ls : List Nat) (B g : Nat) (s : Int) (w : World) (h : CCode w B g ls) (hl : ls.length ≤ 1000000) : Calls Try.prog 18 #[.pointer (some ⟨g, 0, none⟩), .int .i64 s] w fun e w' => e = .returned (wordV (pwordF (wat ls 16 0) s)) ∧ Below w.heap.size w w' := by
  have Hn : Hid (∀ W, Below w.heap.size w W → Calls Try.prog 33 #[.pointer (some ⟨g, 0, none⟩)] W fun e w' => e = .returned (.bool false) ∧ W = w') := Lib.hid fun W hW => c_none_no g W ((hW.cell (p := ⟨g, 0, none⟩) h.at.2).trans h.made)
  obtain ⟨b, hb, x1, hB⟩ := h.words
  have hg := h.at.2
  have hbl := hB.lt
  have hwl := wat_len ls 16 0
  obtain ⟨F, hF⟩ : ∃ F, pwordF (wat ls 16 0) s = F := ⟨_, rfl⟩
  rw [hF]
  unfold pwordF at hF
  rw [hwl] at hF
  obtain ⟨n, hn⟩ : ∃ n, ls.length = n := ⟨_, rfl⟩
  rw [hn] at hF x1 hl hwl
  have hni : (n : Int) ≤ 1000000 := by omega
  clear h
  by_cases h0 : s < 0
  · rw [if_neg (by omega)] at hF
    subst hF
    clear hB
    go_enter Try.func18, Try.ntmps18
    go_wp2_with (go_at_call 33; refine (Hn.out _ ((Below.refl _ _).alloc (Nat.le_refl _) _)).mono ?_; rintro e w1 ⟨rfl, rfl⟩)
    refine bodyPost_ret (v := .tuple #[.agg #[.int .i64 0, .int .i64 0], .int .i64 70]) (by simp [results, Try.results18, go_sem]) rfl ⟨rfl, by go_grown⟩
  · by_cases h1 : (n : Int) ≤ s
    · rw [if_neg (by omega)] at hF
      subst hF
      clear hB
      go_enter Try.func18, Try.ntmps18
      go_wp2_with (go_at_call 33; refine (Hn.out _ ((Below.refl _ _).alloc (Nat.le_refl _) _)).mono ?_; rintro e w1 ⟨rfl, rfl⟩)
      refine bodyPost_ret (v := .tuple #[.agg #[.int .i64 0, .int .i64 0], .int .i64 70]) (by simp [results, Try.results18, go_sem]) rfl ⟨rfl, by go_grown⟩
    · obtain ⟨k, rfl⟩ := Int.eq_ofNat_of_zero_le (by omega : 0 ≤ s)
      have hk : k < n := by omega
      have hki : (0 : Int) ≤ (k : Int) ∧ (k : Int) < (n : Int) := by omega
      have hkw : k < (wat ls 16 0).length := by rw [hwl]; exact hk
      rw [Int.toNat_natCast, List.getD_eq_getElem?_getD, List.getElem?_eq_getElem hkw, Option.getD_some] at hF
      have y1 := hB.cell (k * 2)
      rw [List.getElem?_toArray, pairs_fst .i64 _ k hkw] at y1
      have y2 := hB.cell (k * 2 + 1)
      rw [List.getElem?_toArray, pairs_snd .i64 _ k hkw] at y2
      clear hB
      generalize (wat ls 16 0)[k] = f at *
      obtain ⟨fn, fw⟩ := f
      dsimp only at y1 y2 hF
      by_cases hz : fw = 0
      · rw [if_neg (fun h => h.2.2 hz)] at hF
        subst hF
        subst hz
        clear hkw hwl h0 h1
        go_enter Try.func18, Try.ntmps18
        go_wp2_with (go_at_call 33; refine (Hn.out _ ((Below.refl _ _).alloc (Nat.le_refl _) _)).mono ?_; rintro e w1 ⟨rfl, rfl⟩)
        refine bodyPost_ret (v := .tuple #[.agg #[.int .i64 0, .int .i64 0], .int .i64 70]) (by simp [results, Try.results18, go_sem]) rfl ⟨rfl, by go_grown⟩
      · rw [if_pos ⟨by omega, by omega, hz⟩] at hF
        subst hF
        have hz2 : (fw == (0 : Int)) = false := by simpa using hz
        clear hkw hwl h0 h1
        go_enter Try.func18, Try.ntmps18
        go_wp2_with (go_at_call 33; refine (Hn.out _ ((Below.refl _ _).alloc (Nat.le_refl _) _)).mono ?_; rintro e w1 ⟨rfl, rfl⟩)
        refine bodyPost_ret (v := .tuple #[.agg #[.int .i64 fn, .int .i64 fw], .int .i64 0]) (by simp [results, Try.results18, go_sem]) rfl ⟨rfl, by go_grown⟩
end Go.Proofs.Ytlnlahnglkeaiaa
