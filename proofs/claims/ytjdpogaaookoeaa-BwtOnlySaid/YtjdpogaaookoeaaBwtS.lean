/-
  Layer 13: the document's own Column, for every text and primary (ahead of the code's landing).
-/
import Derived.Test.YtjdpogaaookoeaaBwtR
namespace Go.Proofs.Ytjdpogaaookoeaa
set_option linter.unusedSimpArgs false
set_option linter.unusedVariables false
open Go.ChangeShapes Go.WideShapes Go.ChangeAt Go.RowKit Go.Joins Go.Deep

/-- A call that returns a list. -/
def CPost (w w' : World) (e : Ending) (L : List Int) (n : Nat) : Prop := ∃ A c, e = .returned (.slice A n c) ∧ n ≤ c ∧ Reads w' w'.heap.size 1 A n (ints L) ∧ Below w.heap.size w w'
theorem btake (c : List Int) (m : Nat) (x : Int) (h : m < c.length) (e : c.getD m 0 = x) : ints (c.take (m + 1)) = ints (c.take m) ++ [.int .i64 x] := by
  rw [List.take_succ_eq_append_getElem h, gints_app]
  rw [List.getD_eq_getElem?_getD, List.getElem?_eq_getElem h] at e
  have e2 : c[m] = x := e
  rw [e2]
  rfl
set_option maxRecDepth 100000 in
set_option maxHeartbeats 2000000 in
theorem bref_column_any (l : List UInt8) (r : Nat) (w : World) (h : r ≤ l.length) (hs : l.length ≤ 1000000) :
    Calls Try.prog 20 #[.string ⟨l.toArray⟩, .int .i64 (r : Int)] w fun e w' => CPost w w' e (bcol l r) (l.length + 1) := by
  obtain ⟨i0, hi, hz0, hz1, hz9⟩ := info_parts gint_info
  have hlen := bcol_len l r h
  have Hlow : Hid (∀ k (hk : k < l.length), k < r → ints ((bcol l r).take (k + 1)) = ints ((bcol l r).take k) ++ [.int .i64 (l[k].toNat : Int)]) := Lib.hid fun k hk hr => btake _ _ _ (by omega) (by rw [bcol_low l r k h hr, List.getD_eq_getElem?_getD, List.getElem?_eq_getElem hk]; rfl)
  have Hat : Hid (ints ((bcol l r).take (r + 1)) = ints ((bcol l r).take r) ++ [.int .i64 (-1)]) := Lib.hid (btake _ _ _ (by omega) (bcol_at l r h))
  have Hhigh : Hid (∀ k (hk : k < l.length), r ≤ k → ints ((bcol l r).take (k + 1 + 1)) = ints ((bcol l r).take (k + 1)) ++ [.int .i64 (l[k].toNat : Int)]) := Lib.hid fun k hk hr => btake _ _ _ (by omega) (by rw [bcol_high l r (k + 1) h (by omega) (by omega), Nat.add_sub_cancel, List.getD_eq_getElem?_getD, List.getElem?_eq_getElem hk]; rfl)
  have Hall : Hid ((bcol l r).take (l.length + 1) = bcol l r) := Lib.hid (List.take_of_length_le (by omega))
  have hli : (l.length : Int) ≤ 1000000 ∧ (0 : Int) ≤ (r : Int) ∧ (r : Int) ≤ (l.length : Int) := by omega
  clear hlen
  generalize bcol l r = C at *
  go_enter Try.func20, Try.ntmps20
  go_wp2
  go_loopw [5, 6] (fun v iv wr => ∃ (k m : Nat) (Av : Option Addr) (cv : Nat), k ≤ l.length ∧ v = .slice Av m cv ∧ iv = .int .i64 (k : Int) ∧ Hid (m = if k ≤ r then k else k + 1) ∧ Hid (wr.ownsRow w.heap.size 3 1 (.slice Av m cv) m (ints (C.take m))) ∧ Hid (Below w.heap.size w wr)) (fun _ iv _ => l.length - (intOf iv).toNat)
  case atStart => exact ⟨0, 0, none, 0, by omega, rfl, rfl, Lib.hid (by rw [if_pos (by omega)]), Lib.hid (World.ownsRow_nil _ _ _ _), Lib.hid (Below.refl _ _)⟩
  case round =>
    obtain ⟨k, m, Av, cv, hk, rfl, rfl, Hm, HO, HB⟩ := hrel
    have hki0 : (0 : Int) ≤ (k : Int) ∧ (k : Int) ≤ (l.length : Int) := by omega
    by_cases hlt : k < l.length
    · have hki : (k : Int) < (l.length : Int) := by omega
      obtain ⟨b, hb⟩ : ∃ b, l[k] = b := ⟨_, rfl⟩
      have b1 : ∀ h, ((⟨l.toArray⟩ : ByteArray)[k]'h) = b := fun _ => hb
      have b2 := b.toNat_lt
      obtain ⟨X, hX⟩ : ∃ X, (b.toNat : Int) = X := ⟨_, rfl⟩
      have b3 : (0 : Int) ≤ X ∧ X < 256 := by omega
      rcases Nat.lt_trichotomy k r with h1 | h1 | h1
      · have d1 : ((k : Int) == (r : Int)) = false := by rw [beq_eq_false_iff_ne]; omega
        have d2 : (k == r) = false := by rw [beq_eq_false_iff_ne]; omega
        have hmk : m = k := by rw [Hm.out, if_pos (by omega)]
        subst hmk
        have Hnext : Hid (ints (C.take (m + 1)) = ints (C.take m) ++ [.int .i64 X]) := Lib.hid (by rw [← hX, ← hb]; exact Hlow.out m hlt h1)
        have Hm2 : Hid (m + 1 = if m + 1 ≤ r then m + 1 else m + 1 + 1) := Lib.hid (by rw [if_pos (by omega)])
        clear hb b2 Hm
        go_wp2_with (at_builtin; refine wpList_append_sep _ rfl _ _ 33 rfl w.heap.size 3 i0 (.int .i64 0) 1 8 Try.underlying33 hi hz0 hz1 hz9 rfl (by decide) _ _ _ rfl (HO.out.alloc _) _ 1 1 _ _ rfl (reads_new wr 3 #[.int .i64 X] 1 1 rfl) ?c1 ?c2 ?c3 ?c4 ?_)
        case c1 => exact rfl
        case c2 => unfold maxLen; omega
        case c3 => omega
        case c4 => first | omega | (have := HB.out.size; simp; omega)
        intro v2 w2 hown2 hgrow hsep
        have HB2 : Hid (Below w.heap.size w w2) := Lib.hid ((HB.out.trans ((Below.refl _ _).alloc HB.out.size _)).grown hgrow (by have := HB.out.size; simp; omega) (fun g hg => (HO.out.lt g hg).1))
        have HO2 : Hid (w2.ownsRow w.heap.size 3 1 v2 (m + 1) (ints (C.take (m + 1)))) := Lib.hid (by
          rw [Hnext.out]
          exact hown2)
        clear hown2 hgrow hsep
        obtain ⟨A2, c2, rfl, _, _⟩ := owns_cells HO2.out
        go_wp2
        go_roundw
        case rel => exact ⟨m + 1, m + 1, A2, c2, by omega, rfl, iv (by omega), Hm2, HO2, HB2⟩
        case measure => simp only [intOf]; omega
      · have hmk : m = k := by rw [Hm.out, if_pos (by omega)]
        subst hmk
        subst h1
        have Hnext1 : Hid (ints (C.take (m + 1)) = ints (C.take m) ++ [.int .i64 (-1)]) := Lib.hid (by exact Hat.out)
        have Hnext : Hid (ints (C.take (m + 1 + 1)) = ints (C.take (m + 1)) ++ [.int .i64 X]) := Lib.hid (by rw [← hX, ← hb]; exact Hhigh.out m hlt (by omega))
        have Hm2 : Hid (m + 1 + 1 = if m + 1 ≤ m then m + 1 else m + 1 + 1) := Lib.hid (by rw [if_neg (by omega)])
        clear hb b2 Hm
        go_wp2_with (at_builtin; refine wpList_append_sep _ rfl _ _ 33 rfl w.heap.size 3 i0 (.int .i64 0) 1 8 Try.underlying33 hi hz0 hz1 hz9 rfl (by decide) _ _ _ rfl (HO.out.alloc _) _ 1 1 _ _ rfl (reads_new wr 3 #[.int .i64 (-1)] 1 1 rfl) ?d1 ?d2 ?d3 ?d4 ?_)
        case d1 => exact rfl
        case d2 => unfold maxLen; omega
        case d3 => omega
        case d4 => first | omega | (have := HB.out.size; simp; omega)
        intro v2 w2 hown2 hgrow hsep
        have HB2 : Hid (Below w.heap.size w w2) := Lib.hid ((HB.out.trans ((Below.refl _ _).alloc HB.out.size _)).grown hgrow (by have := HB.out.size; simp; omega) (fun g hg => (HO.out.lt g hg).1))
        have HO2 : Hid (w2.ownsRow w.heap.size 3 1 v2 (m + 1) (ints (C.take (m + 1)))) := Lib.hid (by
          rw [Hnext1.out]
          exact hown2)
        clear hown2 hgrow hsep
        obtain ⟨A2, c2, rfl, _, _⟩ := owns_cells HO2.out
        go_wp2_with (at_builtin; refine wpList_append_sep _ rfl _ _ 33 rfl w.heap.size 3 i0 (.int .i64 0) 1 8 Try.underlying33 hi hz0 hz1 hz9 rfl (by decide) _ _ _ rfl (HO2.out.alloc _) _ 1 1 _ _ rfl (reads_new w2 3 #[.int .i64 X] 1 1 rfl) ?e1 ?e2 ?e3 ?e4 ?_)
        case e1 => exact rfl
        case e2 => unfold maxLen; omega
        case e3 => omega
        case e4 => first | omega | (have := HB2.out.size; simp; omega)
        intro v3 w3 hown2 hgrow hsep
        have HB3 : Hid (Below w.heap.size w w3) := Lib.hid ((HB2.out.trans ((Below.refl _ _).alloc HB2.out.size _)).grown hgrow (by have := HB2.out.size; simp; omega) (fun g hg => (HO2.out.lt g hg).1))
        have HO3 : Hid (w3.ownsRow w.heap.size 3 1 v3 ((m + 1) + 1) (ints (C.take (m + 1 + 1)))) := Lib.hid (by
          rw [Hnext.out]
          exact hown2)
        clear hown2 hgrow hsep
        obtain ⟨A3, c3, rfl, _, _⟩ := owns_cells HO3.out
        go_wp2
        go_roundw
        case rel => exact ⟨m + 1, m + 1 + 1, A3, c3, by omega, rfl, iv (by omega), Hm2, HO3, HB3⟩
        case measure => simp only [intOf]; omega
      · have d1 : ((k : Int) == (r : Int)) = false := by rw [beq_eq_false_iff_ne]; omega
        have d2 : (k == r) = false := by rw [beq_eq_false_iff_ne]; omega
        have hmk : m = k + 1 := by rw [Hm.out, if_neg (by omega)]
        have Hnext : Hid (ints (C.take (m + 1)) = ints (C.take m) ++ [.int .i64 X]) := Lib.hid (by rw [hmk, ← hX, ← hb]; exact Hhigh.out k hlt (by omega))
        have Hm2 : Hid (m + 1 = if k + 1 ≤ r then k + 1 else k + 1 + 1) := Lib.hid (by rw [if_neg (by omega)]; omega)
        have hm9 : m ≤ 1000001 := by omega
        clear hb b2 Hm hmk
        go_wp2_with (at_builtin; refine wpList_append_sep _ rfl _ _ 33 rfl w.heap.size 3 i0 (.int .i64 0) 1 8 Try.underlying33 hi hz0 hz1 hz9 rfl (by decide) _ _ _ rfl (HO.out.alloc _) _ 1 1 _ _ rfl (reads_new wr 3 #[.int .i64 X] 1 1 rfl) ?f1 ?f2 ?f3 ?f4 ?_)
        case f1 => exact rfl
        case f2 => unfold maxLen; omega
        case f3 => omega
        case f4 => first | omega | (have := HB.out.size; simp; omega)
        intro v2 w2 hown2 hgrow hsep
        have HB2 : Hid (Below w.heap.size w w2) := Lib.hid ((HB.out.trans ((Below.refl _ _).alloc HB.out.size _)).grown hgrow (by have := HB.out.size; simp; omega) (fun g hg => (HO.out.lt g hg).1))
        have HO2 : Hid (w2.ownsRow w.heap.size 3 1 v2 (m + 1) (ints (C.take (m + 1)))) := Lib.hid (by
          rw [Hnext.out]
          exact hown2)
        clear hown2 hgrow hsep
        obtain ⟨A2, c2, rfl, _, _⟩ := owns_cells HO2.out
        go_wp2
        go_roundw
        case rel => exact ⟨k + 1, m + 1, A2, c2, by omega, rfl, iv (by omega), Hm2, HO2, HB2⟩
        case measure => simp only [intOf]; omega
    · obtain rfl : k = l.length := by omega
      have hki : ¬ ((l.length : Nat) : Int) < (l.length : Int) := by omega
      by_cases h1 : r = l.length
      · have d1 : ((r : Int) == (l.length : Int)) = true := by rw [beq_iff_eq]; omega
        have d2 : (r == l.length) = true := by rw [beq_iff_eq]; omega
        have hmk : m = l.length := by rw [Hm.out, if_pos (by omega)]
        have Hnext1 : Hid (ints (C.take (m + 1)) = ints (C.take m) ++ [.int .i64 (-1)]) := Lib.hid (by rw [hmk, ← h1]; exact Hat.out)
        have Hmk := Lib.hid hmk
        have hm9 : m ≤ 1000001 := by omega
        clear Hm hmk
        go_wp2_with (at_builtin; refine wpList_append_sep _ rfl _ _ 33 rfl w.heap.size 3 i0 (.int .i64 0) 1 8 Try.underlying33 hi hz0 hz1 hz9 rfl (by decide) _ _ _ rfl (HO.out.alloc _) _ 1 1 _ _ rfl (reads_new wr 3 #[.int .i64 (-1)] 1 1 rfl) ?g1 ?g2 ?g3 ?g4 ?_)
        case g1 => exact rfl
        case g2 => unfold maxLen; omega
        case g3 => omega
        case g4 => first | omega | (have := HB.out.size; simp; omega)
        intro v2 w2 hown2 hgrow hsep
        have HB2 : Hid (Below w.heap.size w w2) := Lib.hid ((HB.out.trans ((Below.refl _ _).alloc HB.out.size _)).grown hgrow (by have := HB.out.size; simp; omega) (fun g hg => (HO.out.lt g hg).1))
        have HO2 : Hid (w2.ownsRow w.heap.size 3 1 v2 (m + 1) (ints (C.take (m + 1)))) := Lib.hid (by
          rw [Hnext1.out]
          exact hown2)
        clear hown2 hgrow hsep
        obtain ⟨A2, c2, rfl, hc2, hr2⟩ := owns_cells HO2.out
        rw [Hmk.out, Hall.out] at hr2
        rw [Hmk.out] at hc2
        have Hc2 := Lib.hid hc2
        have Hr2 := Lib.hid hr2
        clear hc2 hr2
        go_wp2
        go_ret
        exact ⟨A2, c2, congrArg (fun z => Ending.returned (Value.slice A2 (z + 1) c2)) Hmk.out, Hc2.out, Hr2.out, HB2.out⟩
      · have d1 : ((r : Int) == (l.length : Int)) = false := by rw [beq_eq_false_iff_ne]; omega
        have d2 : (r == l.length) = false := by rw [beq_eq_false_iff_ne]; omega
        have hmk : m = l.length + 1 := by rw [Hm.out, if_neg (by omega)]
        obtain ⟨A2, c2, e2, hc2, hr2⟩ := owns_cells HO.out
        injection e2 with e3 _ e4
        subst e3 e4
        rw [hmk, Hall.out] at hr2
        rw [hmk] at hc2
        have Hmk := Lib.hid hmk
        have Hc2 := Lib.hid hc2
        have Hr2 := Lib.hid hr2
        clear hc2 hr2 Hm hmk
        go_wp2
        go_ret
        exact ⟨_, _, congrArg (fun z => Ending.returned (Value.slice _ z _)) Hmk.out, Hc2.out, Hr2.out, HB.out⟩
end Go.Proofs.Ytjdpogaaookoeaa
