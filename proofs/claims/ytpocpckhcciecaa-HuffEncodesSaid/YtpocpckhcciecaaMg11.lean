/-
  What the law of the last of these texts stands on, part 11.
-/
import Derived.Test.YtpocpckhcciecaaRows
import Derived.Test.YtpocpckhcciecaaMg01
import Derived.Test.YtpocpckhcciecaaMg02
import Derived.Test.YtpocpckhcciecaaMg03
import Derived.Test.YtpocpckhcciecaaMg04
import Derived.Test.YtpocpckhcciecaaMg05
import Derived.Test.YtpocpckhcciecaaMg10
import Derived.WalkKit
import Derived.WalkSpells
import Derived.WalkLawsBesides
import Derived.ProofKit
import Derived.OpenShut
import Derived.Handy
import Derived.SizedLaws
import Derived.JoinedOf
import Derived.KernelRfl
import Derived.Lib.Hide
import Derived.Lib.SmallJoins
import Derived.Deep.Slices
import Derived.Deep.Fields
import Derived.Deep.SlicePairs
import Derived.Deep.Draws
import Derived.Deep.AppendLies
import Derived.Deep.QuietTactic
import Derived.BigQuiet
import Derived.Deep.RegionHeld3
import Derived.StillTailTactics
import Derived.Laws.OwnMore
import Derived.Laws.Rows
import Derived.Below
import Derived.Carry
import Derived.WalkMore
import Derived.Laws.BytesString
import Derived.Laws.BitsLemmas
import Derived.Laws.Concat
import Derived.Deep.Upon
namespace Go.Proofs.Ytpocpckhcciecaa
set_option linter.unusedSimpArgs false
set_option linter.unusedVariables false
open Go.ChangeShapes Go.WideShapes Go.ChangeAt Go.RowKit Go.Joins Go.Deep
def cat1 (ls : List Nat) (n s j : Nat) : Int × Int :=
  if 0 < ls.getD j 0 ∧ (ls.getD j 0 < n ∨ (ls.getD j 0 = n ∧ j < s)) then ((cword ls (ls.getD j 0) j : Nat), (ls.getD j 0 : Nat)) else (0, 0)
/-- The words that are told up to length n, symbol s. -/
def wat (ls : List Nat) (n s : Nat) : List (Int × Int) := (List.range ls.length).map (cat1 ls n s)
theorem wat_len (ls : List Nat) (n s : Nat) : (wat ls n s).length = ls.length := by simp [wat]
theorem wat_get (ls : List Nat) (n s j : Nat) (h : j < ls.length) : (wat ls n s)[j]? = some (cat1 ls n s j) := by simp [wat, h]
theorem wat_congr (ls : List Nat) (n s n' s' : Nat) (h : ∀ j, j < ls.length → cat1 ls n s j = cat1 ls n' s' j) : wat ls n s = wat ls n' s' := List.map_congr_left fun j hj => h j (List.mem_range.1 hj)
theorem wat_zero (ls : List Nat) : wat ls 1 0 = List.replicate ls.length (0, 0) := by
  apply List.ext_getElem?
  intro j
  by_cases h : j < ls.length
  · rw [wat_get ls 1 0 j h, List.getElem?_replicate, if_pos h]
    unfold cat1
    rw [if_neg (by omega)]
  · rw [List.getElem?_eq_none (by rw [wat_len]; omega), List.getElem?_eq_none (by simp; omega)]
theorem wat_next (ls : List Nat) (n s : Nat) (h : ls.length ≤ s) : wat ls n s = wat ls (n + 1) 0 := wat_congr ls _ _ _ _ fun j hj => by
  unfold cat1
  by_cases h1 : 0 < ls.getD j 0 ∧ (ls.getD j 0 < n ∨ (ls.getD j 0 = n ∧ j < s))
  · rw [if_pos h1, if_pos (by omega)]
  · rw [if_neg h1, if_neg (by omega)]
theorem wat_skip (ls : List Nat) (n s : Nat) (h : ls.getD s 0 ≠ n) : wat ls n (s + 1) = wat ls n s := wat_congr ls _ _ _ _ fun j hj => by
  unfold cat1
  by_cases e : j = s
  · subst e
    by_cases h1 : 0 < ls.getD j 0 ∧ ls.getD j 0 < n
    · rw [if_pos (by omega), if_pos (by omega)]
    · rw [if_neg (by omega), if_neg (by omega)]
  · by_cases h1 : 0 < ls.getD j 0 ∧ (ls.getD j 0 < n ∨ (ls.getD j 0 = n ∧ j < s))
    · rw [if_pos h1, if_pos (by omega)]
    · rw [if_neg h1, if_neg (by omega)]
theorem wat_set (ls : List Nat) (n s : Nat) (hs : s < ls.length) (h : ls.getD s 0 = n) (hn : 0 < n) : (wat ls n s).set s ((cword ls n s : Nat), (n : Nat)) = wat ls n (s + 1) := by
  apply List.ext_getElem?
  intro j
  by_cases hj : j < ls.length
  · rw [List.getElem?_set, wat_get ls n (s + 1) j hj, wat_len, wat_get ls n s j hj]
    by_cases e : s = j
    · subst e
      rw [if_pos rfl, if_pos hs]
      unfold cat1
      rw [if_pos (by omega), h]
    · rw [if_neg e]
      unfold cat1
      by_cases h1 : 0 < ls.getD j 0 ∧ (ls.getD j 0 < n ∨ (ls.getD j 0 = n ∧ j < s))
      · rw [if_pos h1, if_pos (by omega)]
      · rw [if_neg h1, if_neg (by omega)]
  · rw [List.getElem?_eq_none (by rw [List.length_set, wat_len]; omega), List.getElem?_eq_none (by rw [wat_len]; omega)]
/-- The code words of lengths, or none: their error. -/
def cwordsF (l : List Int) : List (Int × Int) × Int := if checkF l = 0 then (wat (l.map Int.toNat) 16 0, 0) else ([], checkF l)
theorem pairs_set2 (k : IntKind) (a b : Int) : ∀ (L : List (Int × Int)) (s : Nat), s < L.length → ((pairs k L).set (s * 2) (.int k a)).set (s * 2 + 1) (.int k b) = pairs k (L.set s (a, b))
  | r :: t, 0, _ => rfl
  | r :: t, s + 1, h => by
    have ih := pairs_set2 k a b t s (by simpa using h)
    rw [show (s + 1) * 2 = s * 2 + 1 + 1 from by omega, pairs_cons, List.set_cons_succ, List.set_cons_succ, List.set_cons_succ, List.set_cons_succ, ih, List.set_cons_succ, pairs_cons]
theorem pairs_zero (n : Nat) : madeCells #[.int .i64 0, .int .i64 0] (n * 2) = (pairs .i64 (List.replicate n (0, 0))).toArray := by
  have h : pairs .i64 (List.replicate n (0, 0)) = List.replicate (n * 2) (.int .i64 0) := by
    induction n with
    | zero => rfl
    | succ n ih =>
      rw [List.replicate_succ, pairs_cons, ih, show (n + 1) * 2 = n * 2 + 1 + 1 from by omega, List.replicate_succ, List.replicate_succ]
  rw [h]
  apply Array.ext'
  apply List.ext_getElem?
  intro j
  by_cases hj : j < n * 2
  · rcases Nat.mod_two_eq_zero_or_one j with e | e <;> simp [madeCells, hj, e]
  · simp [madeCells, hj]
theorem field_info : (Try.prog.info? 75).map (fun i => (i.zero, i.size, i.bytes)) = some (some (.agg #[.int .i64 0, .int .i64 0]), 2, 16) := by kernel_rfl
theorem mk_fields (n : Nat) (h : n ≤ 1000000) (w : World) : (Instr.makeSlice 69 (.int .i64 (n : Int)) (.int .i64 (n : Int))).run Try.prog w = .ok (.slice (some ⟨w.heap.size, 0, none⟩) n n) (w.alloc (.cells (pairs .i64 (List.replicate n (0, 0))).toArray 75)) := by
  obtain ⟨i0, hi, hz0, hz1, hz2⟩ : ∃ i0, Try.prog.info? 75 = some i0 ∧ i0.zero = some (.agg #[.int .i64 0, .int .i64 0]) ∧ i0.size = 2 ∧ i0.bytes = 16 := by
    have h := field_info
    cases hi : Try.prog.info? 75 with
    | none => rw [hi] at h; cases h
    | some i0 =>
      rw [hi] at h
      simp only [Option.map_some, Option.some.injEq, Prod.mk.injEq] at h
      exact ⟨i0, rfl, h.1, h.2.1, h.2.2⟩
  have hr := run_make (P := Try.prog) w 69 75 i0 _ Try.underlying69 hi hz0 .i64 .i64 n n (by omega) (Int.le_refl _) (by rw [hz2]; omega) (by omega)
  simp only [Int.toNat_natCast, hz1] at hr
  rw [hr]
  show Result.ok _ (w.alloc (.cells (madeCells #[.int .i64 0, .int .i64 0] (n * 2)) 75)) = _
  rw [pairs_zero]
/-- The row of words while it is written. -/
theorem wat_store {W : World} {g : Nat} {ls : List Nat} {n s : Nat} (hB : Blk W g 75 (pairs .i64 (wat ls n s)).toArray) (hs : s < ls.length) (h : ls.getD s 0 = n) (hn : 0 < n) :
    (∃ a b, W.cell? ⟨g, s * 2, none⟩ = some (.int .i64 a) ∧ W.cell? ⟨g, s * 2 + 1, none⟩ = some (.int .i64 b)) ∧ W.frozen? ⟨g, s * 2, none⟩ = false ∧ W.frozen? ⟨g, s * 2 + 1, none⟩ = false ∧
      Blk ((W.setCell ⟨g, s * 2, none⟩ (.int .i64 ((cword ls n s : Nat) : Int))).setCell ⟨g, s * 2 + 1, none⟩ (.int .i64 (n : Int))) g 75 (pairs .i64 (wat ls n (s + 1))).toArray := by
  have hl : s < (wat ls n s).length := by rw [wat_len]; exact hs
  refine ⟨⟨(wat ls n s)[s].1, (wat ls n s)[s].2, ?_, ?_⟩, hB.frozen _, hB.frozen _, ?_⟩
  · rw [hB.cell, List.getElem?_toArray]
    exact pairs_fst .i64 _ s hl
  · rw [hB.cell, List.getElem?_toArray]
    exact pairs_snd .i64 _ s hl
  · have h2 := (hB.set_ (s * 2) (.int .i64 ((cword ls n s : Nat) : Int))).set_ (s * 2 + 1) (.int .i64 (n : Int))
    rw [List.setIfInBounds_toArray, List.setIfInBounds_toArray, pairs_set2 .i64 _ _ _ s hl, wat_set ls n s hs h hn] at h2
    exact h2
theorem cpos_le {ls : List Nat} (n s : Nat) : cpos ls n s ≤ call ls := wsum_le ls 0 fun j hj hp => by
  simp only [Bool.and_eq_true] at hp
  exact hp.1
theorem call_part : ∀ (l : List Int), call (l.map Int.toNat) = partF l := by
  have h : ∀ (l : List Int) (i : Nat), wsum (fun _ x => decide (0 < x)) i (l.map Int.toNat) = partF l := by
    intro l
    induction l with
    | nil => intro i; rfl
    | cons x t ih =>
      intro i
      show (if decide (0 < x.toNat) = true then 2 ^ (15 - x.toNat) else 0) + wsum _ (i + 1) (t.map Int.toNat) = (if 0 < x then 2 ^ (15 - x.toNat) else 0) + partF t
      rw [ih (i + 1)]
      congr 1
      by_cases h : 0 < x
      · rw [if_pos h, if_pos (by simp; omega)]
      · rw [if_neg h, if_neg (by simp; omega)]
  exact fun l => h l 0
theorem check_ok {l : List Int} (h : checkF l = 0) : l.length ≤ 257 ∧ lgood l = true ∧ call (l.map Int.toNat) ≤ 32768 := by
  unfold checkF at h
  by_cases h1 : 257 < l.length
  · rw [if_pos h1] at h; cases h
  · rw [if_neg h1] at h
    by_cases h2 : sumF l = 0 ∨ sumF l = 32768 ∨ ((usedF l : Int) = 1 ∧ sumF l = 16384)
    · unfold sumF at h2
      by_cases hg : lgood l = true
      · rw [if_pos hg] at h2
        refine ⟨by omega, hg, ?_⟩
        rw [call_part]
        omega
      · rw [if_neg hg] at h2
        omega
    · rw [if_neg h2] at h; cases h
set_option maxRecDepth 100000 in
set_option maxHeartbeats 16000000 in
theorem cref_words_any (l : List Int) (A : Option Addr) (n c : Nat) (w : World) (hm : n ≤ 1000000) (hr : Reads w w.heap.size 1 A n (ints l)) :
    Calls Try.prog 48 #[.slice A n c] w fun e w' => ∃ A' c', e = .returned (.tuple #[.slice A' (cwordsF l).1.length c', .int .i64 (cwordsF l).2]) ∧ (cwordsF l).1.length ≤ c' ∧ Reads w' w'.heap.size 2 A' (cwordsF l).1.length (pairs .i64 (cwordsF l).1) ∧ Below w.heap.size w w' := by
  have el : l.length = n := by have := hr.1; rw [ints_length] at this; omega
  have Hchk := Lib.hid (lref_check_any l A n c w hm hr)
  obtain ⟨F, hF⟩ : ∃ F, cwordsF l = F := ⟨_, rfl⟩
  rw [hF]
  unfold cwordsF at hF
  by_cases h0 : checkF l = 0
  · rw [if_pos h0] at hF
    rw [h0] at Hchk
    obtain ⟨hl, hg, hca⟩ := check_ok h0
    have Hc1 : Hid (0 < n → ∃ b off, A = some ⟨b, off, none⟩ ∧ ∀ wr, Below w.heap.size w wr → ∀ k, (hk : k < l.length) → wr.cell? ⟨b, off + k, none⟩ = some (.int .i64 l[k])) := Lib.hid fun h => by
      obtain ⟨b, off, e, hb, hc⟩ := hr.2 h
      exact ⟨b, off, e, fun wr hw k hk => (hw.cell (p := ⟨b, off + k, none⟩) hb).trans (hc k _ (ints_get l k hk))⟩
    obtain ⟨ls, hls⟩ : ∃ ls, l.map Int.toNat = ls := ⟨_, rfl⟩
    have hlsn : ls.length = n := by rw [← hls, List.length_map, el]
    have Hls : Hid (∀ k (hk : k < l.length) (hk2 : k < ls.length), (ls[k] : Int) = l[k] ∧ ls[k] ≤ 15) := Lib.hid fun k hk hk2 => by
      have := lgood_get hg k hk
      subst hls
      rw [List.getElem_map]
      omega
    rw [hls] at hF hca
    have Hca := Lib.hid hca
    have Hel := Lib.hid el
    have Hln := Lib.hid hlsn
    have hmk := fun W => mk_fields n hm W
    rw [← hlsn, ← wat_zero] at hmk
    rw [hlsn] at hmk
    have Hf := Lib.hid hF
    have hni : (n : Int) ≤ 257 := by omega
    have Hz : Hid (cpos ls 1 0 = 0) := Lib.hid (by rw [← cpos_next 0 ls.length (Nat.le_refl _)]; exact cpos_none _)
    clear hr hF h0 hg hca hls el hl hlsn
    go_enter Try.func48, Try.ntmps48
    go_wp2_with (go_at_call 15; refine Hchk.out.mono ?_; rintro e w1 ⟨rfl, rfl⟩)
    have HB0 : Hid (Blk (w1.alloc (.cells (pairs .i64 (wat ls 1 0)).toArray 75)) w1.heap.size 75 (pairs .i64 (wat ls 1 0)).toArray) := Lib.hid (Blk.new _ _ _)
    have HG0 : Hid (w1.grownBy (w1.alloc (.cells (pairs .i64 (wat ls 1 0)).toArray 75)) (some w1.heap.size)) := Lib.hid (grow_alloc (grow_refl _ _) _)
    have Hpb : Hid (∀ X Y N s : Nat, Y ≤ 15 → X * 2 ^ (15 - Y) = cpos ls N s → X ≤ 32768) := Lib.hid fun X Y N s hY h => by
      have h1 := cpos_le (ls := ls) N s
      have h2 := Hca.out
      have h3 : 0 < (2 : Nat) ^ (15 - Y) := Nat.pow_pos (by omega)
      have h4 : X * 1 ≤ X * 2 ^ (15 - Y) := Nat.mul_le_mul_left X h3
      omega
    generalize w1.alloc (.cells (pairs .i64 (wat ls 1 0)).toArray 75) = wz at *
    clear hmk
    go_loopw [6, 7, 8, 9] (fun nx la nn ss wr => ∃ (N X Y : Nat), 1 ≤ N ∧ N ≤ 16 ∧ Y < N ∧ nx = .int .i64 X ∧ la = .int .i64 Y ∧ nn = .int .i64 N ∧ Hid (X * 2 ^ (15 - Y) = cpos ls N 0) ∧ Hid (Blk wr w1.heap.size 75 (pairs .i64 (wat ls N 0)).toArray) ∧ Hid (w1.grownBy wr (some w1.heap.size))) (fun _ _ nn _ _ => 17 - (intOf nn).toNat)
    case atStart => exact ⟨1, 0, 0, by omega, by omega, by omega, rfl, rfl, rfl, Lib.hid (by simp [Hz.out]), HB0, HG0⟩
    case round =>
      obtain ⟨N, X, Y, hN1, hN2, hY, rfl, rfl, rfl, HX, HB, HG⟩ := hrel
      clear HB0 HG0
      by_cases hlt : N ≤ 15
      · have hNz : (N : Int) ≤ 15 := by omega
        go_wp2
        go_loopw [6, 7, 9] (fun nx la ss wr => ∃ (s X Y : Nat), s ≤ n ∧ Y ≤ N ∧ nx = .int .i64 X ∧ la = .int .i64 Y ∧ ss = .int .i64 s ∧ Hid (X * 2 ^ (15 - Y) = cpos ls N s) ∧ Hid (Blk wr w1.heap.size 75 (pairs .i64 (wat ls N s)).toArray) ∧ Hid (w1.grownBy wr (some w1.heap.size))) (fun _ _ ss _ => n - (intOf ss).toNat)
        case atStart => exact ⟨0, X, Y, by omega, by omega, rfl, rfl, rfl, HX, HB, HG⟩
        case round =>
          obtain ⟨s, X, Y, hs, hY2, rfl, rfl, rfl, HX2, HB2, HG2⟩ := hrel
          clear HX HB HG
          by_cases hst : s < n
          · have hsz : (0 : Int) ≤ (s : Int) ∧ (s : Int) < (n : Int) := by omega
            have hsl : s < l.length := by rw [Hel.out]; exact hst
            have hsn : s < ls.length := by rw [Hln.out]; exact hst
            obtain ⟨b1, o1, rfl, hcell⟩ := Hc1.out (by omega)
            have x1 := hcell wr (below_grow HG2.out (Nat.le_refl _) (Nat.le_refl _)) s hsl
            obtain ⟨hv, hv2⟩ := Hls.out s hsl hsn
            clear hcell
            rw [← hv] at x1
            have hgd : ls.getD s 0 = ls[s] := by rw [List.getD_eq_getElem?_getD, List.getElem?_eq_getElem hsn]; rfl
            by_cases hne : ls[s] = N
            · have hbe : ((ls[s] : Int) == (N : Int)) = true := by simp; omega
              have hbn : ((ls[s] : Int) != (N : Int)) = false := by simp; omega
              have hie : (ls[s] : Int) = (N : Int) := by omega
              rw [hie] at x1
              have hgN : ls.getD s 0 = N := by rw [hgd, hne]
              have Hstep := Lib.hid (cpos_step N s hsn hne (by omega))
              have Hw := Lib.hid fun W hB => wat_store (W := W) (g := w1.heap.size) hB hsn hgN (by omega)
              clear hbe hbn hie hgd hne hv hv2
              go_wp2
              go_loopw [6, 7] (fun nx la W => ∃ X Y : Nat, Y ≤ N ∧ nx = .int .i64 X ∧ la = .int .i64 Y ∧ Hid (X * 2 ^ (15 - Y) = cpos ls N s) ∧ Hid (Blk W w1.heap.size 75 (pairs .i64 (wat ls N s)).toArray) ∧ Hid (w1.grownBy W (some w1.heap.size))) (fun _ la _ => N - (intOf la).toNat)
              case atStart => exact ⟨X, Y, hY2, rfl, rfl, HX2, HB2, HG2⟩
              case round =>
                obtain ⟨X, Y, hY3, rfl, rfl, HX3, HB3, HG3⟩ := hrel
                clear HX2 HB2 HG2
                have hxb := Hpb.out X Y N s (by omega) HX3.out
                by_cases hYN : Y < N
                · have hYz : (Y : Int) < (N : Int) := by omega
                  have HX4 : Hid (2 * X * 2 ^ (15 - (Y + 1)) = cpos ls N s) := Lib.hid (by
                    rw [← HX3.out, show 15 - Y = 15 - (Y + 1) + 1 from by omega, Nat.pow_succ, Nat.mul_comm 2 X, Nat.mul_assoc, Nat.mul_comm 2])
                  go_wp2
                  go_roundw
                  case rel => exact ⟨2 * X, Y + 1, by omega, iv (by omega), iv (by omega), HX4, HB3, HG3⟩
                  case measure => simp only [intOf]; omega
                · have hYz : ¬ (Y : Int) < (N : Int) := by omega
                  obtain rfl : Y = N := by omega
                  have hX5 : cword ls Y s = X := by
                    unfold cword
                    rw [← HX3.out, Nat.mul_div_cancel _ (Nat.pow_pos (by omega))]
                  obtain ⟨⟨a, b, d1, d2⟩, d3, d4, d5⟩ := Hw.out wr HB3.out
                  rw [hX5] at d5
                  have HB5 := Lib.hid d5
                  have HX6 : Hid ((X + 1) * 2 ^ (15 - Y) = cpos ls Y (s + 1)) := Lib.hid (by rw [Hstep.out, ← HX3.out, Nat.add_mul, Nat.one_mul])
                  clear d5 hX5 Hw Hstep
                  go_wp2
                  go_roundw
                  case rel => exact ⟨s + 1, X + 1, Y, by omega, by omega, iv (by omega), rfl, iv (by omega), HX6, HB5, Lib.hid (grow_set (grow_set HG3.out (Or.inl rfl) _) (Or.inl rfl) _)⟩
                  case measure => simp only [intOf]; omega
            · have hbe : ((ls[s] : Int) == (N : Int)) = false := by simp; omega
              have hbn : ((ls[s] : Int) != (N : Int)) = true := by simp; omega
              have hie : ¬ (ls[s] : Int) = (N : Int) := by omega
              have HX6 : Hid (X * 2 ^ (15 - Y) = cpos ls N (s + 1)) := Lib.hid (by rw [cpos_skip N s fun _ => hne]; exact HX2.out)
              have HB5 : Hid (Blk wr w1.heap.size 75 (pairs .i64 (wat ls N (s + 1))).toArray) := Lib.hid (by rw [wat_skip ls N s (by rw [hgd]; exact hne)]; exact HB2.out)
              clear HX2 HB2 hgd hne hv hv2
              generalize ls[s] = lv at *
              go_wp2
              go_roundw
              case rel => exact ⟨s + 1, X, Y, by omega, hY2, rfl, rfl, iv (by omega), HX6, HB5, HG2⟩
              case measure => simp only [intOf]; omega
          · obtain rfl : s = n := by omega
            have hsz : ¬ (s : Int) < (s : Int) := by omega
            have HX6 : Hid (X * 2 ^ (15 - Y) = cpos ls (N + 1) 0) := Lib.hid (by rw [← cpos_next N s (by rw [Hln.out]; exact Nat.le_refl _)]; exact HX2.out)
            have HB5 : Hid (Blk wr w1.heap.size 75 (pairs .i64 (wat ls (N + 1) 0)).toArray) := Lib.hid (by rw [← wat_next ls N s (by rw [Hln.out]; exact Nat.le_refl _)]; exact HB2.out)
            clear HX2 HB2
            go_wp2
            go_roundw
            case rel => exact ⟨N + 1, X, Y, by omega, by omega, by omega, rfl, rfl, iv (by omega), HX6, HB5, HG2⟩
            case measure => simp only [intOf]; omega
      · obtain rfl : N = 16 := by omega
        go_wp2
        go_ret2
        rw [← Hf.out]
        refine ⟨some ⟨w1.heap.size, 0, none⟩, n, ?_, ?_, ?_, below_grow HG.out (Nat.le_refl _) (Nat.le_refl _)⟩
        · show _ = Ending.returned (.tuple #[.slice (some ⟨w1.heap.size, 0, none⟩) (wat ls 16 0).length n, .int .i64 0])
          rw [wat_len, Hln.out]
          rfl
        · show (wat ls 16 0).length ≤ n
          rw [wat_len, Hln.out]
          exact Nat.le_refl _
        · refine ⟨by rw [pairs_length], fun _ => ⟨w1.heap.size, 0, rfl, HB.out.lt, fun j u hu => ?_⟩⟩
          rw [Nat.zero_add, HB.out.cell, List.getElem?_toArray]
          exact hu
  · rw [if_neg h0] at hF
    have Hf := Lib.hid hF
    have hb0 : (checkF l == 0) = false := by simpa using h0
    clear hr hF
    generalize checkF l = E at *
    go_enter Try.func48, Try.ntmps48
    go_wp2_with (go_at_call 15; refine Hchk.out.mono ?_; rintro e w1 ⟨rfl, rfl⟩)
    go_ret2
    rw [← Hf.out]
    exact ⟨none, 0, rfl, Nat.le_refl _, Reads.none_, Below.refl _ _⟩
end Go.Proofs.Ytpocpckhcciecaa
