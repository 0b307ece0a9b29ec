/-
  Layer 21, the document's: Check, put, Put, get (ahead of the code's landing).
-/
import Derived.Test.YtjodckinfoldgaaHedM
import Derived.Test.YtjodckinfoldgaaVarR
import Derived.Test.YtjodckinfoldgaaVarS
import Derived.Test.YtjodckinfoldgaaMore
import Derived.Test.YtjodckinfoldgaaRows
import Derived.Deep.OwnRows
import Derived.Laws.EntriesVeiled
namespace Go.Proofs.Ytjodckinfoldgaa
set_option linter.unusedSimpArgs false
set_option linter.unusedVariables false
open Go.ChangeShapes Go.WideShapes Go.ChangeAt Go.RowKit Go.Joins Go.Deep
abbrev hdc (h : Hd) : Array Value := #[.int .i64 h.1, .int .i64 h.2.1, .int .i64 h.2.2]
set_option maxRecDepth 100000 in
set_option maxHeartbeats 4000000 in
theorem href_chk_any (h : Hd) (w : World) : Calls Try.prog 13 #[.agg (hdc h)] w fun e w' => e = .returned (.int .i64 (hchkF h)) ∧ Below w.heap.size w w' := by
  have HB : Hid (∀ o, Below w.heap.size w (w.alloc o)) := Lib.hid fun o => (Below.refl w.heap.size w).alloc (Nat.le_refl _) o
  obtain ⟨a, b, c⟩ := h
  unfold hdc
  dsimp only
  go_enter Try.func13, Try.ntmps13
  go_wp2
  all_goals
    go_ret
    refine ⟨?_, HB.out _⟩
    unfold hchkF
    simp only [hdok_iff]
    first
      | (rw [if_pos (by omega)]; rfl)
      | (rw [if_neg (by omega)]; rfl)
theorem hreads_new (w : World) (t : TypeId) (xs : List Value) : Reads (w.alloc (.cells xs.toArray t)) (w.alloc (.cells xs.toArray t)).heap.size 1 (some ⟨w.heap.size, 0, none⟩) xs.length xs :=
  ⟨(Nat.mul_one _).symm, fun _ => ⟨w.heap.size, 0, rfl, by rw [World.size_alloc]; exact Nat.lt_succ_self _, fun j u hj => by rw [Nat.zero_add, (Blk.new w t xs.toArray).cell j, List.getElem?_toArray]; exact hj⟩⟩
theorem hflat_le (l : List Int) : (l.flatMap putB).length ≤ l.length * 9 := by
  induction l with
  | nil => simp
  | cons n l ih =>
    rw [List.flatMap_cons, List.length_append, List.length_cons]
    have := rput_len n
    omega
theorem hflat_snoc (l : List Int) (k : Nat) (h : k < l.length) : (l.take (k + 1)).flatMap putB = (l.take k).flatMap putB ++ putB l[k] := by
  rw [List.take_succ_eq_append_getElem h, List.flatMap_append]
  simp
set_option maxRecDepth 100000 in
set_option maxHeartbeats 4000000 in
theorem href_puts_any (l : List Int) (A : Option Addr) (n c : Nat) (w : World) (hl : l.length = n) (hn : n ≤ 1000000) (hr : Reads w w.heap.size 1 A n (ints l)) (hs : ∀ x ∈ l, x < 9223372036854775808) :
    Calls Try.prog 27 #[.slice A n c] w fun e w' => e = .returned (.string ⟨(l.flatMap putB).toArray⟩) ∧ Below w.heap.size w w' := by
  have HC : Hid (0 < n → ∃ b off, A = some ⟨b, off, none⟩ ∧ b < w.heap.size ∧ ∀ i (hi : i < l.length), w.cell? ⟨b, off + i, none⟩ = some (.int .i64 l[i])) := Lib.hid fun h => by
    obtain ⟨b, off, e, hb, hc⟩ := hr.2 h
    exact ⟨b, off, e, hb, fun i hi => hc i _ (by simp [ints, hi])⟩
  have HL := Lib.hid hl
  have HS : Hid (∀ i (hi : i < l.length), l[i] < 9223372036854775808) := Lib.hid fun i hi => hs _ (List.getElem_mem hi)
  have H0 : (l.take 0).flatMap putB = [] := rfl
  clear hr hl hs
  go_enter Try.func27, Try.ntmps27
  go_wp2
  go_loopw [3, 4, 5, 6] (fun ov iv _ _ wr => ∃ k : Nat, k ≤ n ∧ iv = .int .i64 (k : Int) ∧ ov = .string ⟨((l.take k).flatMap putB).toArray⟩ ∧ Hid (Below w.heap.size w wr)) (fun _ iv _ _ _ => n - (intOf iv).toNat)
  case atStart => exact ⟨0, by omega, rfl, rfl, Lib.hid (Below.refl _ _)⟩
  case round =>
    obtain ⟨k, hk, rfl, rfl, HB⟩ := hrel
    by_cases hlt : k < n
    · have hkl : k < l.length := by have := HL.out; omega
      obtain ⟨b, off, rfl, hb, hcell⟩ := HC.out (by omega)
      have y0 := (HB.out.cell (p := ⟨b, off + k, none⟩) hb).trans (hcell k hkl)
      have hki : (0 : Int) ≤ (k : Int) ∧ (k : Int) < (n : Int) := by omega
      have HX := Lib.hid (hflat_snoc l k hkl)
      have hle := hflat_le (l.take k)
      rw [List.length_take] at hle
      have hP := refPut_any l[k] wr (HS.out k hkl)
      have hle2 := rput_len l[k]
      clear hcell HC HS
      generalize (l.take k).flatMap putB = T at *
      unfold strInt at hP
      generalize putE l[k] = pe at *
      generalize putB l[k] = P at *
      generalize l[k] = x at *
      have hadd := fun W => add_bytes T P (by omega) W
      have HP := Lib.hid hP
      clear hP hle hle2
      go_wp2_with (first | (go_at_call 40; (with_reducible refine HP.out.mono ?_); rintro e w1 ⟨rfl, hb1⟩; replace HB := Lib.hid (HB.out.trans (hb1.mono HB.out.size)); clear hb1) | fail)
      go_roundw
      case rel => exact ⟨k + 1, by omega, iv (by omega), by rw [HX.out], HB⟩
      case measure => simp only [intOf]; omega
    · obtain rfl : k = n := by omega
      have e : l.take k = l := List.take_of_length_le (by have := HL.out; omega)
      rw [e]
      clear HC HS
      have hz : ¬ (k : Int) < (k : Int) := by omega
      clear hlt e H0
      have HT := Lib.hid (rfl : l.flatMap putB = l.flatMap putB)
      go_wp2
      go_ret
      exact ⟨rfl, HB.out⟩
set_option maxRecDepth 100000 in
set_option maxHeartbeats 4000000 in
theorem href_put_any (h : Hd) (w : World) : Calls Try.prog 9 #[.agg (hdc h)] w fun e w' => e = .returned (.tuple #[.string ⟨(hputF h).1.toArray⟩, .int .i64 (hputF h).2]) ∧ Below w.heap.size w w' := by
  have C := Lib.hid fun W => href_chk_any h W
  unfold hchkF hdc at C
  unfold hputF hdc
  by_cases hk : hdok h = true
  · rw [if_pos hk] at C ⊢
    have hk2 := (hdok_iff h).1 hk
    have P := Lib.hid (fun W A (hr : Reads W W.heap.size 1 A 3 (ints (hl3 h))) => href_puts_any (hl3 h) A 3 3 W rfl (by omega) hr (fun n hn => by
      unfold hl3 at hn
      simp only [List.mem_cons, List.not_mem_nil, or_false] at hn
      rcases hn with rfl | rfl | rfl <;> omega))
    have Hf := Lib.hid (Blk.new w 23 #[.int .i64 h.1, .int .i64 h.2.1, .int .i64 h.2.2])
    have HB := Lib.hid ((Below.refl w.heap.size w).alloc (Nat.le_refl _) (.cells #[.int .i64 h.1, .int .i64 h.2.1, .int .i64 h.2.2] 23))
    have hl3e : ints (hl3 h) = [.int .i64 h.1, .int .i64 h.2.1, .int .i64 h.2.2] := rfl
    rw [hl3e] at P
    generalize (hl3 h).flatMap putB = T at *
    obtain ⟨a, b, c⟩ := h
    dsimp only at *
    clear hk hk2
    go_enter Try.func9, Try.ntmps9
    go_wp2_with (first
      | (go_at_call 13; (with_reducible refine (C.out _).mono ?_); rintro e w1 ⟨rfl, hb1⟩; replace Hf := Lib.hid (Hf.out.below hb1 Hf.out.lt); replace HB := Lib.hid (HB.out.trans (hb1.mono HB.out.size)); clear hb1; have xf0 := Hf.out.cell 0; have xf1 := Hf.out.cell 1; have xf2 := Hf.out.cell 2; simp only [List.getElem?_toArray, List.getElem?_cons_zero, List.getElem?_cons_succ] at xf0 xf1 xf2)
      | (go_at_call 27; (with_reducible refine (P.out _ _ (hreads_new w1 _ _)).mono ?_); rintro e w2 ⟨rfl, hb2⟩; replace HB := Lib.hid ((HB.out.alloc HB.out.size _).trans (hb2.mono (HB.out.alloc HB.out.size _).size)); clear hb2)
      | fail)
    go_ret2
    exact ⟨rfl, HB.out⟩
  · rw [if_neg hk] at C ⊢
    have Hf := Lib.hid ((Below.refl w.heap.size w).alloc (Nat.le_refl _) (.cells #[.int .i64 h.1, .int .i64 h.2.1, .int .i64 h.2.2] 23))
    obtain ⟨a, b, c⟩ := h
    dsimp only at *
    clear hk
    go_enter Try.func9, Try.ntmps9
    go_wp2_with (first | (go_at_call 13; (with_reducible refine (C.out _).mono ?_); rintro e w1 ⟨rfl, hb1⟩; replace Hf := Lib.hid (Hf.out.trans (hb1.mono Hf.out.size)); clear hb1) | fail)
    go_ret2
    exact ⟨rfl, Hf.out⟩
end Go.Proofs.Ytjodckinfoldgaa
