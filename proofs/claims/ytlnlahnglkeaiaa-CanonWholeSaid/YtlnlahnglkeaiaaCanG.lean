/-
  Layer 9: the document's own Word, for every row of words (ahead of the code's landing).
-/
import Derived.Test.YtlnlahnglkeaiaaCanB
namespace Go.Proofs.Ytlnlahnglkeaiaa
set_option linter.unusedSimpArgs false
set_option linter.unusedVariables false
open Go.ChangeShapes Go.WideShapes Go.ChangeAt Go.RowKit Go.Joins Go.Deep

/-- The bits of a symbol's code word; or that it has none. -/
def cwordF (ws : List (Int × Int)) (s : Int) : List Nat × Int := if 0 ≤ s ∧ s < ws.length ∧ (ws.getD s.toNat (0, 0)).2 ≠ 0 then (digI (ws.getD s.toNat (0, 0)).1 (ws.getD s.toNat (0, 0)).2, 0) else ([], 70)
theorem cfields_at {w : World} {B n : Nat} {A : Option Addr} {l : List (Int × Int)} (hr : Reads w B 2 A n (pairs .i64 l)) (hn : 0 < n) : ∃ b off, A = some ⟨b, off, none⟩ ∧ b < B ∧ ∀ k, (hk : k < l.length) → w.cell? ⟨b, off + k * 2, none⟩ = some (.int .i64 l[k].1) ∧ w.cell? ⟨b, off + k * 2 + 1, none⟩ = some (.int .i64 l[k].2) := by
  obtain ⟨b, off, e, hb, hc⟩ := hr.2 hn
  exact ⟨b, off, e, hb, fun k hk => ⟨hc _ _ (pairs_fst .i64 l k hk), hc _ _ (pairs_snd .i64 l k hk)⟩⟩
theorem cheld_next {w' w1 : World} {b o1 o2 : Nat} {x y : Value} (h : w'.cell? ⟨b, o1, none⟩ = some x ∧ w'.cell? ⟨b, o2, none⟩ = some y ∧ b < w'.heap.size) (hb : Below w'.heap.size w' w1) : w1.cell? ⟨b, o1, none⟩ = some x ∧ w1.cell? ⟨b, o2, none⟩ = some y ∧ b < w1.heap.size :=
  ⟨(hb.cell (p := ⟨b, o1, none⟩) h.2.2).trans h.1, (hb.cell (p := ⟨b, o2, none⟩) h.2.2).trans h.2.1, Nat.lt_of_lt_of_le h.2.2 hb.size⟩
/-- What Word returns. -/
def CWordPost (w w' : World) (e : Ending) (F : List Nat × Int) : Prop := ∃ D m cd, e = .returned (.tuple #[.slice D m cd, .int .i64 F.2]) ∧ F.1.length = m ∧ Reads w' w'.heap.size 1 D m (bcs F.1) ∧ Below w.heap.size w w'

set_option maxRecDepth 100000 in
set_option maxHeartbeats 4000000 in
theorem cref_word_any (ws : List (Int × Int)) (A : Option Addr) (n c : Nat) (s : Int) (w : World) (hn : ws.length = n) (hl : n ≤ 1000) (hr : Reads w w.heap.size 2 A n (pairs .i64 ws)) (hf : ∀ f ∈ ws, fits f.1 f.2) :
    Calls Try.prog 28 #[.slice A n c, .int .i64 s] w fun e w' => CWordPost w w' e (cwordF ws s) := by
  have hni : (n : Int) ≤ 1000 := by omega
  by_cases h0 : s < 0
  · have hF : cwordF ws s = ([], 70) := by unfold cwordF; rw [if_neg (by omega)]
    rw [hF]
    clear hr hf hF hn
    go_enter Try.func28, Try.ntmps28
    go_wp2
    go_ret2
    exact ⟨none, 0, 0, rfl, rfl, Reads.none_, by go_grown⟩
  by_cases h1 : (n : Int) ≤ s
  · have hF : cwordF ws s = ([], 70) := by unfold cwordF; rw [if_neg (by omega)]
    rw [hF]
    clear hr hf hF hn
    go_enter Try.func28, Try.ntmps28
    go_wp2
    go_ret2
    exact ⟨none, 0, 0, rfl, rfl, Reads.none_, by go_grown⟩
  obtain ⟨k, rfl⟩ := Int.eq_ofNat_of_zero_le (by omega : 0 ≤ s)
  have hkl : k < ws.length := by omega
  have hkn : k < n := by omega
  obtain ⟨b, off, rfl, hb, hc⟩ := cfields_at hr (by omega)
  obtain ⟨x1, x2⟩ := hc k hkl
  have hki : (0 : Int) ≤ (k : Int) ∧ (k : Int) < (n : Int) := by omega
  have hgd : ws.getD k (0, 0) = ws[k] := by rw [List.getD_eq_getElem?_getD, List.getElem?_eq_getElem hkl]; rfl
  have hfit := hf _ (List.getElem_mem hkl)
  have hFF : cwordF ws (k : Int) = if ws[k].2 ≠ 0 then (digI ws[k].1 ws[k].2, 0) else ([], 70) := by
    unfold cwordF
    rw [Int.toNat_natCast, hgd]
    by_cases hz : ws[k].2 ≠ 0
    · rw [if_pos hz, if_pos ⟨by omega, by omega, hz⟩]
    · rw [if_neg hz, if_neg (fun h => hz h.2.2)]
  rw [hFF]
  clear hFF hgd hc hf hr hn
  generalize ws[k].1 = fn at *
  generalize ws[k].2 = fw at *
  by_cases hz : fw = 0
  · subst hz
    rw [if_neg (by simp)]
    clear hfit
    go_enter Try.func28, Try.ntmps28
    go_wp2
    try go_quiet (fail)
    go_wp2
    go_ret2
    exact ⟨none, 0, 0, rfl, rfl, Reads.none_, by go_grown <;> refine below_drewN ?_ _ <;> go_grown⟩
  · rw [if_pos hz]
    have hdg := fun W => refDig_yes fn fw W hfit
    have hdl : (digI fn fw).length = fw.toNat := dig_length _ _
    have hzb : (fw == (0 : Int)) = false := by simpa using hz
    clear hfit
    generalize digI fn fw = D at *
    generalize fw.toNat = m at *
    go_enter Try.func28, Try.ntmps28
    go_wp2
    try go_quiet (fail)
    go_wp2
    go_region_held3 (fun w' => w'.cell? ⟨b, off + k * 2, none⟩ = some (.int .i64 fn) ∧ w'.cell? ⟨b, off + k * 2 + 1, none⟩ = some (.int .i64 fw) ∧ b < w'.heap.size)
      (first | exact cheld_next (by assumption) hb1 | exact ⟨x1, x2, hb⟩)
      (first | (go_at_call 39; (with_reducible refine (hdg _).mono ?_); rintro e w1 ⟨g, rfl, hB1, hg1, hb1⟩))
    rename_i hS
    have hb1' : Below w.heap.size w w1 := ⟨hb1.os, hb1.tape, hb1.output, hb1.size, hb1.block⟩
    go_wp2
    go_ret2
    exact ⟨some ⟨g, 0, none⟩, m, m, rfl, hdl, blk_reads _ hB1 m (by rw [bcs_length]; exact hdl), hb1'⟩
end Go.Proofs.Ytlnlahnglkeaiaa
