/-
  Layer 21, the program's: a block's seven numbers are taken.
-/
import Derived.Test.YtjodckinfoldgaaHdD
import Derived.Test.YtjodckinfoldgaaHedQ
namespace Go.Proofs.Ytjodckinfoldgaa
set_option linter.unusedSimpArgs false
set_option linter.unusedVariables false
open Go.ChangeShapes Go.WideShapes Go.ChangeAt Go.RowKit Go.Joins Go.Deep
def hqk (s : List UInt8) (p : Int) : Nat → Int
  | 0 => p
  | k + 1 => (getF s (hqk s p k)).2.1
def hxk (s : List UInt8) (p : Int) (k : Nat) : Int := (getF s (hqk s p k)).1
def hek (s : List UInt8) (p : Int) (k : Nat) : Int := (getF s (hqk s p k)).2.2
theorem gets_zero (s : List UInt8) (p : Int) (acc : List Int) : gets s 0 p acc = (acc, p, 0) := rfl
theorem gets_step (s : List UInt8) (p : Int) (j k : Nat) (acc : List Int) : gets s (k + 1) (hqk s p j) acc = if hek s p j = 0 then gets s k (hqk s p (j + 1)) (acc ++ [hxk s p j]) else ([], 0, hek s p j) := rfl
theorem gets7 (s : List UInt8) (p : Int) : gets s 7 p [] = if hek s p 0 = 0 then (if hek s p 1 = 0 then (if hek s p 2 = 0 then (if hek s p 3 = 0 then (if hek s p 4 = 0 then (if hek s p 5 = 0 then (if hek s p 6 = 0 then ([hxk s p 0, hxk s p 1, hxk s p 2, hxk s p 3, hxk s p 4, hxk s p 5, hxk s p 6], hqk s p 7, 0) else ([], 0, hek s p 6)) else ([], 0, hek s p 5)) else ([], 0, hek s p 4)) else ([], 0, hek s p 3)) else ([], 0, hek s p 2)) else ([], 0, hek s p 1)) else ([], 0, hek s p 0) := by
  show gets s 7 (hqk s p 0) [] = _
  rw [gets_step, gets_step s p 1, gets_step s p 2, gets_step s p 3, gets_step s p 4, gets_step s p 5, gets_step s p 6, gets_zero]
  simp only [List.nil_append, List.cons_append, Nat.zero_add, Nat.reduceAdd]
theorem hset7 {W X : World} {g : Nat} {t : TypeId} {x0 x1 x2 x3 x4 x5 x6 : Value} (h : Blk W g t #[x0, x1, x2, x3, x4, x5, x6]) {a0 a1 a2 a3 a4 a5 a6 : Value}
    (hX : ((((((W.setCell ⟨g, 0, none⟩ a0).setCell ⟨g, 1, none⟩ a1).setCell ⟨g, 2, none⟩ a2).setCell ⟨g, 3, none⟩ a3).setCell ⟨g, 4, none⟩ a4).setCell ⟨g, 5, none⟩ a5).setCell ⟨g, 6, none⟩ a6 = X) :
    Blk X g t #[a0, a1, a2, a3, a4, a5, a6] ∧ Touch W X (fun k => k = g) := by
  subst hX
  exact ⟨by simpa using ((((((h.set_ 0 a0).set_ 1 a1).set_ 2 a2).set_ 3 a3).set_ 4 a4).set_ 5 a5).set_ 6 a6,
    (((((((Touch.refl W (fun k => k = g)).set (p := ⟨g, 0, none⟩) (.inl rfl) _).set (p := ⟨g, 1, none⟩) (.inl rfl) _).set (p := ⟨g, 2, none⟩) (.inl rfl) _).set (p := ⟨g, 3, none⟩) (.inl rfl) _).set (p := ⟨g, 4, none⟩) (.inl rfl) _).set (p := ⟨g, 5, none⟩) (.inl rfl) _).set (p := ⟨g, 6, none⟩) (.inl rfl) _⟩
theorem hmin_is (x y : Int) : (if y ≤ 9223372036854775807 - x then x + y else 9223372036854775807) = x + min y (9223372036854775807 - x) := by
  by_cases h : y ≤ 9223372036854775807 - x
  · rw [if_pos h]; omega
  · rw [if_neg h]; omega
set_option maxRecDepth 100000 in
set_option maxHeartbeats 16000000 in
theorem p_htaken (W w : World) (l : List UInt8) (g : Nat) (p : Int) (hl : l.length ≤ 4611686018427387904) (h : TAt W w l g p) :
    Calls Try.prog 35 #[.func (.func 30) #[.pointer (some ⟨g, 0, none⟩)] #[]] w fun r w' => TEnd W w' r l g (.agg (mtc (hmof (gets l 7 p []).1)).toArray) (gets l 7 p []).2.1 (gets l 7 p []).2.2 := by
  have HWs : Hid (W.heap.size ≤ w.heap.size) := Lib.hid h.touch.size
  have HgW := h.blk.lt
  have T1 : Hid (Touch W (w.alloc (.cells #[.int .i64 0, .int .i64 0, .int .i64 0, .int .i64 0, .int .i64 0, .int .i64 0, .int .i64 0] 55)) (fun k => k = g)) := Lib.hid (h.touch.alloc _)
  have HT : Hid (TAt (w.alloc (.cells #[.int .i64 0, .int .i64 0, .int .i64 0, .int .i64 0, .int .i64 0, .int .i64 0, .int .i64 0] 55)) (w.alloc (.cells #[.int .i64 0, .int .i64 0, .int .i64 0, .int .i64 0, .int .i64 0, .int .i64 0, .int .i64 0] 55)) l g p) := Lib.hid ⟨h.blk.alloc _, Touch.refl _ _, h.low, h.high⟩
  have HR0 : Hid (Blk (w.alloc (.cells #[.int .i64 0, .int .i64 0, .int .i64 0, .int .i64 0, .int .i64 0, .int .i64 0, .int .i64 0] 55)) w.heap.size 55 #[.int .i64 0, .int .i64 0, .int .i64 0, .int .i64 0, .int .i64 0, .int .i64 0, .int .i64 0]) := Lib.hid (Blk.new w _ _)
  have hg0 : w.heap.size ≠ g := by omega
  have Hg0 := Lib.hid hg0
  have N0 : Hid (∀ X w, TAt X w l g (hqk l p 0) → Calls Try.prog 30 #[.pointer (some ⟨g, 0, none⟩)] w fun r w' => TEnd X w' r l g (.int .i64 (hxk l p 0)) (hqk l p 1) (hek l p 0)) := Lib.hid fun X w h => pt_num X w l g (hqk l p 0) hl h
  have N1 : Hid (∀ X w, TAt X w l g (hqk l p 1) → Calls Try.prog 30 #[.pointer (some ⟨g, 0, none⟩)] w fun r w' => TEnd X w' r l g (.int .i64 (hxk l p 1)) (hqk l p 2) (hek l p 1)) := Lib.hid fun X w h => pt_num X w l g (hqk l p 1) hl h
  have N2 : Hid (∀ X w, TAt X w l g (hqk l p 2) → Calls Try.prog 30 #[.pointer (some ⟨g, 0, none⟩)] w fun r w' => TEnd X w' r l g (.int .i64 (hxk l p 2)) (hqk l p 3) (hek l p 2)) := Lib.hid fun X w h => pt_num X w l g (hqk l p 2) hl h
  have N3 : Hid (∀ X w, TAt X w l g (hqk l p 3) → Calls Try.prog 30 #[.pointer (some ⟨g, 0, none⟩)] w fun r w' => TEnd X w' r l g (.int .i64 (hxk l p 3)) (hqk l p 4) (hek l p 3)) := Lib.hid fun X w h => pt_num X w l g (hqk l p 3) hl h
  have N4 : Hid (∀ X w, TAt X w l g (hqk l p 4) → Calls Try.prog 30 #[.pointer (some ⟨g, 0, none⟩)] w fun r w' => TEnd X w' r l g (.int .i64 (hxk l p 4)) (hqk l p 5) (hek l p 4)) := Lib.hid fun X w h => pt_num X w l g (hqk l p 4) hl h
  have N5 : Hid (∀ X w, TAt X w l g (hqk l p 5) → Calls Try.prog 30 #[.pointer (some ⟨g, 0, none⟩)] w fun r w' => TEnd X w' r l g (.int .i64 (hxk l p 5)) (hqk l p 6) (hek l p 5)) := Lib.hid fun X w h => pt_num X w l g (hqk l p 5) hl h
  have N6 : Hid (∀ X w, TAt X w l g (hqk l p 6) → Calls Try.prog 30 #[.pointer (some ⟨g, 0, none⟩)] w fun r w' => TEnd X w' r l g (.int .i64 (hxk l p 6)) (hqk l p 7) (hek l p 6)) := Lib.hid fun X w h => pt_num X w l g (hqk l p 6) hl h
  have HN5 : Hid (hek l p 5 = 0 → 0 ≤ hxk l p 5 ∧ hxk l p 5 < 9223372036854775808) := Lib.hid fun h => (rnum_ok h).2.2.imp_right And.left
  have HN6 : Hid (hek l p 6 = 0 → 0 ≤ hxk l p 6 ∧ hxk l p 6 < 9223372036854775808) := Lib.hid fun h => (rnum_ok h).2.2.imp_right And.left
  have G7 := gets7 l p
  have F0 : Hid (hek l p 0 ≠ 0 → gets l 7 p [] = ([], 0, hek l p 0)) := Lib.hid fun  h => by rw [G7, if_neg h]
  have F1 : Hid (hek l p 0 = 0 → hek l p 1 ≠ 0 → gets l 7 p [] = ([], 0, hek l p 1)) := Lib.hid fun h0 h => by rw [G7, if_pos h0, if_neg h]
  have F2 : Hid (hek l p 0 = 0 → hek l p 1 = 0 → hek l p 2 ≠ 0 → gets l 7 p [] = ([], 0, hek l p 2)) := Lib.hid fun h0 h1 h => by rw [G7, if_pos h0, if_pos h1, if_neg h]
  have F3 : Hid (hek l p 0 = 0 → hek l p 1 = 0 → hek l p 2 = 0 → hek l p 3 ≠ 0 → gets l 7 p [] = ([], 0, hek l p 3)) := Lib.hid fun h0 h1 h2 h => by rw [G7, if_pos h0, if_pos h1, if_pos h2, if_neg h]
  have F4 : Hid (hek l p 0 = 0 → hek l p 1 = 0 → hek l p 2 = 0 → hek l p 3 = 0 → hek l p 4 ≠ 0 → gets l 7 p [] = ([], 0, hek l p 4)) := Lib.hid fun h0 h1 h2 h3 h => by rw [G7, if_pos h0, if_pos h1, if_pos h2, if_pos h3, if_neg h]
  have F5 : Hid (hek l p 0 = 0 → hek l p 1 = 0 → hek l p 2 = 0 → hek l p 3 = 0 → hek l p 4 = 0 → hek l p 5 ≠ 0 → gets l 7 p [] = ([], 0, hek l p 5)) := Lib.hid fun h0 h1 h2 h3 h4 h => by rw [G7, if_pos h0, if_pos h1, if_pos h2, if_pos h3, if_pos h4, if_neg h]
  have F6 : Hid (hek l p 0 = 0 → hek l p 1 = 0 → hek l p 2 = 0 → hek l p 3 = 0 → hek l p 4 = 0 → hek l p 5 = 0 → hek l p 6 ≠ 0 → gets l 7 p [] = ([], 0, hek l p 6)) := Lib.hid fun h0 h1 h2 h3 h4 h5 h => by rw [G7, if_pos h0, if_pos h1, if_pos h2, if_pos h3, if_pos h4, if_pos h5, if_neg h]
  have F7 : Hid (hek l p 0 = 0 → hek l p 1 = 0 → hek l p 2 = 0 → hek l p 3 = 0 → hek l p 4 = 0 → hek l p 5 = 0 → hek l p 6 = 0 → gets l 7 p [] = ([hxk l p 0, hxk l p 1, hxk l p 2, hxk l p 3, hxk l p 4, hxk l p 5, hxk l p 6], hqk l p 7, 0)) := Lib.hid fun h0 h1 h2 h3 h4 h5 h6 => by rw [G7, if_pos h0, if_pos h1, if_pos h2, if_pos h3, if_pos h4, if_pos h5, if_pos h6]
  have hp0 : hqk l p 0 = p := rfl
  rw [hp0] at N0
  clear h hl G7 hp0 hg0
  generalize gets l 7 p [] = G at *
  generalize hxk l p 0 = x0 at *
  generalize hek l p 0 = e0 at *
  generalize hqk l p 1 = q1 at *
  generalize hxk l p 1 = x1 at *
  generalize hek l p 1 = e1 at *
  generalize hqk l p 2 = q2 at *
  generalize hxk l p 2 = x2 at *
  generalize hek l p 2 = e2 at *
  generalize hqk l p 3 = q3 at *
  generalize hxk l p 3 = x3 at *
  generalize hek l p 3 = e3 at *
  generalize hqk l p 4 = q4 at *
  generalize hxk l p 4 = x4 at *
  generalize hek l p 4 = e4 at *
  generalize hqk l p 5 = q5 at *
  generalize hxk l p 5 = x5 at *
  generalize hek l p 5 = e5 at *
  generalize hqk l p 6 = q6 at *
  generalize hxk l p 6 = x6 at *
  generalize hek l p 6 = e6 at *
  generalize hqk l p 7 = q7 at *
  have hmf : ∀ (fn : Fn) (first cap : Array Value) (w : World), (Instr.makeFunc fn first cap).run Try.prog w = .ok (.func fn first cap) w := fun _ _ _ _ => rfl
  go_enter Try.func35, Try.ntmps35
  go_wp2_with (first
    | (go_at_call 30; (with_reducible refine (N0.out _ _ HT.out).mono ?_); rintro e w1 (⟨hE, rfl, hT⟩ | ⟨hE, ⟨q, rfl⟩, hT⟩); replace HT := Lib.hid hT; have E0 := Lib.hid hE; clear hE hT)
    | (go_at_call 30; (with_reducible refine (N1.out _ _ HT.out).mono ?_); rintro e w2 (⟨hE, rfl, hT⟩ | ⟨hE, ⟨q, rfl⟩, hT⟩); replace HT := Lib.hid hT; have E1 := Lib.hid hE; clear hE hT)
    | (go_at_call 30; (with_reducible refine (N2.out _ _ HT.out).mono ?_); rintro e w3 (⟨hE, rfl, hT⟩ | ⟨hE, ⟨q, rfl⟩, hT⟩); replace HT := Lib.hid hT; have E2 := Lib.hid hE; clear hE hT)
    | (go_at_call 30; (with_reducible refine (N3.out _ _ HT.out).mono ?_); rintro e w4 (⟨hE, rfl, hT⟩ | ⟨hE, ⟨q, rfl⟩, hT⟩); replace HT := Lib.hid hT; have E3 := Lib.hid hE; clear hE hT)
    | (go_at_call 30; (with_reducible refine (N4.out _ _ HT.out).mono ?_); rintro e w5 (⟨hE, rfl, hT⟩ | ⟨hE, ⟨q, rfl⟩, hT⟩); replace HT := Lib.hid hT; have E4 := Lib.hid hE; clear hE hT)
    | (go_at_call 30; (with_reducible refine (N5.out _ _ HT.out).mono ?_); rintro e w6 (⟨hE, rfl, hT⟩ | ⟨hE, ⟨q, rfl⟩, hT⟩); replace HT := Lib.hid hT; have E5 := Lib.hid hE; clear hE hT)
    | fail)
  · have hx5 := HN5.out E5.out
    have T2 : Hid (Touch W ((w6.alloc (.cells #[.int .i64 x0, .int .i64 x1, .int .i64 x2, .int .i64 x3, .int .i64 x4, .int .i64 x5, .int .i64 0] 55)).drew) (fun k => k = g)) := Lib.hid (((T1.out.next HT.out.touch (fun _ _ e => e)).alloc _).drewN 1)
    have HTd : Hid (TAt (w6.alloc (.cells #[.int .i64 x0, .int .i64 x1, .int .i64 x2, .int .i64 x3, .int .i64 x4, .int .i64 x5, .int .i64 0] 55)).drew (w6.alloc (.cells #[.int .i64 x0, .int .i64 x1, .int .i64 x2, .int .i64 x3, .int .i64 x4, .int .i64 x5, .int .i64 0] 55)).drew l g q6) := Lib.hid ⟨(HT.out.blk.alloc _).drew, Touch.refl _ _, HT.out.low, HT.out.high⟩
    have HBd : Hid (Blk (w6.alloc (.cells #[.int .i64 x0, .int .i64 x1, .int .i64 x2, .int .i64 x3, .int .i64 x4, .int .i64 x5, .int .i64 0] 55)).drew w6.heap.size 55 #[.int .i64 x0, .int .i64 x1, .int .i64 x2, .int .i64 x3, .int .i64 x4, .int .i64 x5, .int .i64 0]) := Lib.hid (Blk.new w6 _ _).drew
    have HRd : Hid (Blk (w6.alloc (.cells #[.int .i64 x0, .int .i64 x1, .int .i64 x2, .int .i64 x3, .int .i64 x4, .int .i64 x5, .int .i64 0] 55)).drew w.heap.size 55 #[.int .i64 0, .int .i64 0, .int .i64 0, .int .i64 0, .int .i64 0, .int .i64 0, .int .i64 0]) := Lib.hid ((HT.out.keep HR0.out Hg0.out).alloc _).drew
    have Hgb : Hid (w6.heap.size ≠ g) := Lib.hid (by have := HT.out.blk.lt; omega)
    have Hn0 : Hid (w.heap.size ≠ w6.heap.size) := Lib.hid (by have := HT.out.touch.size; rw [World.size_alloc] at this; omega)
    have HWg : Hid (W.heap.size ≤ w6.heap.size) := Lib.hid (by have := HT.out.touch.size; have := HWs.out; rw [World.size_alloc] at *; omega)
    have HWn : Hid (W.heap.size ≤ w.heap.size) := HWs
    clear T1 HT HR0 HgW HWs
    have hdw : (w6.alloc (.cells #[.int .i64 x0, .int .i64 x1, .int .i64 x2, .int .i64 x3, .int .i64 x4, .int .i64 x5, .int .i64 0] 55)).drew = (w6.alloc (.cells #[.int .i64 x0, .int .i64 x1, .int .i64 x2, .int .i64 x3, .int .i64 x4, .int .i64 x5, .int .i64 0] 55)).drew := rfl
    generalize w.heap.size = n0 at *
    by_cases hE6 : e6 = 0
    case neg =>
      replace N6 : Hid (∀ X w, TAt X w l g q6 → Calls Try.prog 30 #[.pointer (some ⟨g, 0, none⟩)] w fun r w' => (∃ p : Int, r = .panicked [{ v := .iface 69 (.agg #[.int .i64 e6, .int .i64 p]), recovered := false }]) ∧ Touch X w' (fun k => k = g)) := Lib.hid fun X w h => (N6.out X w h).mono fun r w' k => k.elim (fun k => absurd k.1 hE6) (fun k => k.2)
      generalize hgb : w6.heap.size = gb at *
      refine wp_region_held_drew (S := (fun W9 => W9.cell? ⟨gb, 5, none⟩ = some (.int .i64 x5))) (by kernel_rfl) (HBd.out.cell 5) (fun hHeld => ?_)
      refine wpAnyH_take (i := 0) (oi := _) (v := ?_) rfl (by kernel_rfl) (by kernel_rfl) (by kernel_rfl) (fun _ _ _ h => h) (Or.inl ⟨by rfl, ?_⟩) hHeld ?_
      rotate_left
      · (intro wz hSw; go_simp; try (with_reducible rfl))
      (try dsimp only [List.getElem_toArray, List.getElem_cons_zero, List.getElem_cons_succ]); (try simp only [Act.put, List.setIfInBounds_toArray, List.set_cons_zero, List.set_cons_succ])
      refine wpAnyH_take (i := 1) (oi := _) (v := ?_) rfl (by kernel_rfl) (by kernel_rfl) (by kernel_rfl) (fun _ _ _ h => h) (Or.inl ⟨by rfl, ?_⟩) hHeld ?_
      rotate_left
      · (intro wz hSw; have k5 := hSw; go_simp; try (with_reducible rfl))
      (try dsimp only [List.getElem_toArray, List.getElem_cons_zero, List.getElem_cons_succ]); (try simp only [Act.put, List.setIfInBounds_toArray, List.set_cons_zero, List.set_cons_succ])
      refine wpAnyH_take (i := 2) (oi := _) (v := ?_) rfl (by kernel_rfl) (by kernel_rfl) (by kernel_rfl) (fun _ _ _ h => h) (Or.inl ⟨by rfl, ?_⟩) hHeld ?_
      rotate_left
      · (intro wz hSw; go_simp; try (with_reducible rfl))
      (try dsimp only [List.getElem_toArray, List.getElem_cons_zero, List.getElem_cons_succ]); (try simp only [Act.put, List.setIfInBounds_toArray, List.set_cons_zero, List.set_cons_succ])
      refine wpAnyH_take (i := 4) (oi := _) (v := ?_) rfl (by kernel_rfl) (by kernel_rfl) (by kernel_rfl) (fun _ _ _ h => h) (Or.inl ⟨by rfl, ?_⟩) hHeld ?_
      rotate_left
      · (intro wz hSw; go_simp; try (with_reducible rfl))
      (try dsimp only [List.getElem_toArray, List.getElem_cons_zero, List.getElem_cons_succ]); (try simp only [Act.put, List.setIfInBounds_toArray, List.set_cons_zero, List.set_cons_succ])
      refine wpAnyH_take (i := 5) (oi := _) (v := ?_) rfl (by kernel_rfl) (by kernel_rfl) (by kernel_rfl) (fun _ _ _ h => h) (Or.inl ⟨by rfl, ?_⟩) hHeld ?_
      rotate_left
      · (intro wz hSw; have k5 := hSw; go_simp; try (with_reducible rfl))
      (try dsimp only [List.getElem_toArray, List.getElem_cons_zero, List.getElem_cons_succ]); (try simp only [Act.put, List.setIfInBounds_toArray, List.set_cons_zero, List.set_cons_succ])
      refine wpAnyH_take (i := 6) (oi := _) (v := ?_) rfl (by kernel_rfl) (by kernel_rfl) (by kernel_rfl) (fun _ _ _ h => h) (Or.inl ⟨by rfl, ?_⟩) hHeld ?_
      rotate_left
      · (intro wz hSw; go_simp; try (with_reducible rfl))
      (try dsimp only [List.getElem_toArray, List.getElem_cons_zero, List.getElem_cons_succ]); (try simp only [Act.put, List.setIfInBounds_toArray, List.set_cons_zero, List.set_cons_succ])
      refine wpAnyH_ready (rs := [3]) (by kernel_rfl) (by simp) ?_
      refine AllReadyH.cons (o := _) rfl (fun K hK => ?_) AllReadyH.nil
      go_simp
      go_at_call 30
      (with_reducible refine (N6.out _ _ HTd.out).mono ?_)
      rintro e w7 ⟨⟨q, rfl⟩, hT⟩
      exact pt_panic rfl (by rw [F6.out E0.out E1.out E2.out E3.out E4.out E5.out hE6]; exact .inr ⟨hE6, ⟨q, rfl⟩, (T2.out.next hT (fun _ _ e => e))⟩)
    case pos =>
      have hx6 := HN6.out hE6
      replace N6 : Hid (∀ X w, TAt X w l g q6 → Calls Try.prog 30 #[.pointer (some ⟨g, 0, none⟩)] w fun r w' => r = .returned (.int .i64 x6) ∧ TAt X w' l g q7) := Lib.hid fun X w h => (N6.out X w h).mono fun r w' k => k.elim (fun k => k.2) (fun k => absurd hE6 k.1)
      have hw1 : IntKind.i64.wrap (9223372036854775807 - x5) = 9223372036854775807 - x5 := by rw [IntKind.wrap_i64]; omega
      obtain ⟨z, hz⟩ : ∃ z, min x6 (9223372036854775807 - x5) = z := ⟨_, rfl⟩
      have hw2 : IntKind.i64.wrap (x5 + z) = x5 + z := by rw [IntKind.wrap_i64]; omega
      have hz2 : (if 9223372036854775807 - x5 < x6 then 9223372036854775807 - x5 else x6) = z := by split <;> omega
      have HV : Hid ((mtc (hmof [x0, x1, x2, x3, x4, x5, x6])).toArray = #[.int .i64 x0, .int .i64 x1, .int .i64 x2, .int .i64 x3, .int .i64 x4, .int .i64 x5, .int .i64 (x5 + z)]) := Lib.hid (by
        show (mtc (x0, x1, x2, x3, x4, x5, if x6 ≤ 9223372036854775807 - x5 then x5 + x6 else 9223372036854775807)).toArray = _
        rw [hmin_is, hz])
      clear hx5 hx6
      generalize hgb : w6.heap.size = gb at *
      refine wp_region_held_drew (S := (fun W9 => W9.cell? ⟨gb, 5, none⟩ = some (.int .i64 x5))) (by kernel_rfl) (HBd.out.cell 5) (fun hHeld => ?_)
      refine wpAnyH_take (i := 0) (oi := _) (v := ?_) rfl (by kernel_rfl) (by kernel_rfl) (by kernel_rfl) (fun _ _ _ h => h) (Or.inl ⟨by rfl, ?_⟩) hHeld ?_
      rotate_left
      · (intro wz hSw; go_simp; try (with_reducible rfl))
      (try dsimp only [List.getElem_toArray, List.getElem_cons_zero, List.getElem_cons_succ]); (try simp only [Act.put, List.setIfInBounds_toArray, List.set_cons_zero, List.set_cons_succ])
      refine wpAnyH_take (i := 1) (oi := _) (v := ?_) rfl (by kernel_rfl) (by kernel_rfl) (by kernel_rfl) (fun _ _ _ h => h) (Or.inl ⟨by rfl, ?_⟩) hHeld ?_
      rotate_left
      · (intro wz hSw; have k5 := hSw; go_simp; try (with_reducible rfl))
      (try dsimp only [List.getElem_toArray, List.getElem_cons_zero, List.getElem_cons_succ]); (try simp only [Act.put, List.setIfInBounds_toArray, List.set_cons_zero, List.set_cons_succ])
      refine wpAnyH_take (i := 2) (oi := _) (v := ?_) rfl (by kernel_rfl) (by kernel_rfl) (by kernel_rfl) (fun _ _ _ h => h) (Or.inl ⟨by rfl, ?_⟩) hHeld ?_
      rotate_left
      · (intro wz hSw; go_simp; try (with_reducible rfl))
      (try dsimp only [List.getElem_toArray, List.getElem_cons_zero, List.getElem_cons_succ]); (try simp only [Act.put, List.setIfInBounds_toArray, List.set_cons_zero, List.set_cons_succ])
      refine wpAnyH_take (i := 4) (oi := _) (v := ?_) rfl (by kernel_rfl) (by kernel_rfl) (by kernel_rfl) (fun _ _ _ h => h) (Or.inl ⟨by rfl, ?_⟩) hHeld ?_
      rotate_left
      · (intro wz hSw; go_simp; try (with_reducible rfl))
      (try dsimp only [List.getElem_toArray, List.getElem_cons_zero, List.getElem_cons_succ]); (try simp only [Act.put, List.setIfInBounds_toArray, List.set_cons_zero, List.set_cons_succ])
      refine wpAnyH_take (i := 5) (oi := _) (v := ?_) rfl (by kernel_rfl) (by kernel_rfl) (by kernel_rfl) (fun _ _ _ h => h) (Or.inl ⟨by rfl, ?_⟩) hHeld ?_
      rotate_left
      · (intro wz hSw; have k5 := hSw; go_simp; try (with_reducible rfl))
      (try dsimp only [List.getElem_toArray, List.getElem_cons_zero, List.getElem_cons_succ]); (try simp only [Act.put, List.setIfInBounds_toArray, List.set_cons_zero, List.set_cons_succ])
      refine wpAnyH_take (i := 6) (oi := _) (v := ?_) rfl (by kernel_rfl) (by kernel_rfl) (by kernel_rfl) (fun _ _ _ h => h) (Or.inl ⟨by rfl, ?_⟩) hHeld ?_
      rotate_left
      · (intro wz hSw; go_simp; try (with_reducible rfl))
      (try dsimp only [List.getElem_toArray, List.getElem_cons_zero, List.getElem_cons_succ]); (try simp only [Act.put, List.setIfInBounds_toArray, List.set_cons_zero, List.set_cons_succ])
      refine wpAnyH_ready (rs := [3]) (by kernel_rfl) (by simp) ?_
      refine AllReadyH.cons (o := _) rfl (fun K hK => ?_) AllReadyH.nil
      go_simp
      go_at_call 30
      (with_reducible refine (N6.out _ _ HTd.out).mono ?_)
      rintro e w7 ⟨rfl, hT⟩
      have HT7 := Lib.hid hT
      clear hT
      have hb1 : True := trivial
      have HB7 := Lib.hid (HBd.out.touch HT7.out.touch Hgb.out)
      have y6 := HB7.out.cell 6
      have z6 := HB7.out.frozen 6
      simp only [List.getElem?_toArray, List.getElem?_cons_zero, List.getElem?_cons_succ] at y6
      refine hK.out _ _ ((HB7.out.cell 5)) (fun hH => ?_)
      clear hHeld hK K hb1
      have hHeld := hH
      clear hH
      (try dsimp only [List.getElem_toArray, List.getElem_cons_zero, List.getElem_cons_succ]); (try simp only [Act.put, List.setIfInBounds_toArray, List.set_cons_zero, List.set_cons_succ])
      refine wpAnyH_take (i := 7) (oi := _) (v := ?_) rfl (by kernel_rfl) (by kernel_rfl) (by kernel_rfl) (fun _ _ _ h => h) (Or.inl ⟨by rfl, ?_⟩) hHeld ?_
      rotate_left
      · (intro wz hSw; go_simp; try (with_reducible rfl))
      (try dsimp only [List.getElem_toArray, List.getElem_cons_zero, List.getElem_cons_succ]); (try simp only [Act.put, List.setIfInBounds_toArray, List.set_cons_zero, List.set_cons_succ])
      refine wpAnyH_take (i := 8) (oi := _) (v := ?_) rfl (by kernel_rfl) (by kernel_rfl) (by kernel_rfl) (fun _ _ _ h => h) (Or.inl ⟨by rfl, ?_⟩) hHeld ?_
      rotate_left
      · (intro wz hSw; go_simp; try (with_reducible rfl))
      (try dsimp only [List.getElem_toArray, List.getElem_cons_zero, List.getElem_cons_succ]); (try simp only [Act.put, List.setIfInBounds_toArray, List.set_cons_zero, List.set_cons_succ])
      refine wpAnyH_take (i := 9) (oi := _) (v := ?_) rfl (by kernel_rfl) (by kernel_rfl) (by kernel_rfl) (fun _ _ _ h => h) (Or.inl ⟨by rfl, ?_⟩) hHeld ?_
      rotate_left
      · (intro wz hSw; go_simp; try (with_reducible rfl))
      (try dsimp only [List.getElem_toArray, List.getElem_cons_zero, List.getElem_cons_succ]); (try simp only [Act.put, List.setIfInBounds_toArray, List.set_cons_zero, List.set_cons_succ])
      refine wpAnyH_ready (rs := [10]) (by kernel_rfl) (by simp) ?_
      refine AllReadyH.cons (o := _) rfl (fun K hK => ?_) AllReadyH.nil
      go_simp
      refine hK.out _ _ ((by simpa using (HB7.out.set_ 6 (.int .i64 (x5 + z))).cell 5)) (fun hH => ?_)
      clear hK K hHeld
      have hHeld := hH
      clear hH
      (try dsimp only [List.getElem_toArray, List.getElem_cons_zero, List.getElem_cons_succ]); (try simp only [Act.put, List.setIfInBounds_toArray, List.set_cons_zero, List.set_cons_succ])
      refine wpAnyH_done (by kernel_rfl) ?_ _
      have HB8 : Hid (Blk (w7.setCell ⟨gb, 6, none⟩ (.int .i64 (x5 + z))) gb 55 #[.int .i64 x0, .int .i64 x1, .int .i64 x2, .int .i64 x3, .int .i64 x4, .int .i64 x5, .int .i64 (x5 + z)]) := Lib.hid (by simpa using HB7.out.set_ 6 (.int .i64 (x5 + z)))
      have HR8 : Hid (Blk (w7.setCell ⟨gb, 6, none⟩ (.int .i64 (x5 + z))) n0 55 #[.int .i64 0, .int .i64 0, .int .i64 0, .int .i64 0, .int .i64 0, .int .i64 0, .int .i64 0]) := Lib.hid ((HRd.out.touch HT7.out.touch Hg0.out).far Hn0.out _)
      have HG8 : Hid (Blk (w7.setCell ⟨gb, 6, none⟩ (.int .i64 (x5 + z))) g 88 #[.string ⟨l.toArray⟩, .int .i64 q7]) := Lib.hid (HT7.out.blk.far (fun e => Hgb.out e.symm) _)
      have T8 : Hid (Touch W (w7.setCell ⟨gb, 6, none⟩ (.int .i64 (x5 + z))) (fun k => k = g)) := Lib.hid ((T2.out.next HT7.out.touch (fun _ _ e => e)).set (p := ⟨gb, 6, none⟩) (.inr HWg.out) _)
      have HL8 : Hid (0 ≤ q7 ∧ q7 ≤ l.length) := Lib.hid ⟨HT7.out.low, HT7.out.high⟩
      generalize w7.setCell ⟨gb, 6, none⟩ (.int .i64 (x5 + z)) = w8 at *
      have c0 := HB8.out.cell 0; have c1 := HB8.out.cell 1; have c2 := HB8.out.cell 2; have c3 := HB8.out.cell 3; have c4 := HB8.out.cell 4; have c5 := HB8.out.cell 5; have c6 := HB8.out.cell 6
      have r0 := HR8.out.cell 0; have r1 := HR8.out.cell 1; have r2 := HR8.out.cell 2; have r3 := HR8.out.cell 3; have r4 := HR8.out.cell 4; have r5 := HR8.out.cell 5; have r6 := HR8.out.cell 6
      have z0 := HR8.out.frozen 0; have z1 := HR8.out.frozen 1; have z2 := HR8.out.frozen 2; have z3 := HR8.out.frozen 3; have z4 := HR8.out.frozen 4; have z5 := HR8.out.frozen 5; have z7 := HR8.out.frozen 6
      simp only [List.getElem?_toArray, List.getElem?_cons_zero, List.getElem?_cons_succ] at c0 c1 c2 c3 c4 c5 c6 r0 r1 r2 r3 r4 r5 r6
      clear y6 z6 hHeld
      go_wp2
      generalize hX : ((((((w8.setCell ⟨n0, 0, none⟩ (.int .i64 x0)).setCell ⟨n0, 1, none⟩ (.int .i64 x1)).setCell ⟨n0, 2, none⟩ (.int .i64 x2)).setCell ⟨n0, 3, none⟩ (.int .i64 x3)).setCell ⟨n0, 4, none⟩ (.int .i64 x4)).setCell ⟨n0, 5, none⟩ (.int .i64 x5)).setCell ⟨n0, 6, none⟩ (.int .i64 (x5 + z)) = X
      obtain ⟨j1, j2⟩ := hset7 HR8.out hX
      have TX : Touch W X (fun k => k = g) := T8.out.next j2 (fun k hk e => absurd hk (by have := HWn.out; omega))
      have HGX := HG8.out.touch j2 (fun e => Hg0.out e.symm)
      have x0_ := j1.cell 0; have x1_ := j1.cell 1; have x2_ := j1.cell 2; have x3_ := j1.cell 3; have x4_ := j1.cell 4; have x5_ := j1.cell 5; have x6_ := j1.cell 6
      simp only [List.getElem?_toArray, List.getElem?_cons_zero, List.getElem?_cons_succ] at x0_ x1_ x2_ x3_ x4_ x5_ x6_
      refine bodyPost_ret (v := .agg #[.int .i64 x0, .int .i64 x1, .int .i64 x2, .int .i64 x3, .int .i64 x4, .int .i64 x5, .int .i64 (x5 + z)]) (by simp [results, Try.results35, go_sem, x0_, x1_, x2_, x3_, x4_, x5_, x6_]) rfl ?_
      rw [F7.out E0.out E1.out E2.out E3.out E4.out E5.out hE6]
      exact .inl ⟨rfl, by rw [HV.out], HGX, TX, HL8.out.1, HL8.out.2⟩
  · exact pt_panic rfl (by rw [F5.out E0.out E1.out E2.out E3.out E4.out hE]; exact .inr ⟨hE, ⟨q, rfl⟩, T1.out.next hT (fun _ _ e => e)⟩)
  · exact pt_panic rfl (by rw [F4.out E0.out E1.out E2.out E3.out hE]; exact .inr ⟨hE, ⟨q, rfl⟩, T1.out.next hT (fun _ _ e => e)⟩)
  · exact pt_panic rfl (by rw [F3.out E0.out E1.out E2.out hE]; exact .inr ⟨hE, ⟨q, rfl⟩, T1.out.next hT (fun _ _ e => e)⟩)
  · exact pt_panic rfl (by rw [F2.out E0.out E1.out hE]; exact .inr ⟨hE, ⟨q, rfl⟩, T1.out.next hT (fun _ _ e => e)⟩)
  · exact pt_panic rfl (by rw [F1.out E0.out hE]; exact .inr ⟨hE, ⟨q, rfl⟩, T1.out.next hT (fun _ _ e => e)⟩)
  · exact pt_panic rfl (by rw [F0.out hE]; exact .inr ⟨hE, ⟨q, rfl⟩, T1.out.next hT (fun _ _ e => e)⟩)
end Go.Proofs.Ytjodckinfoldgaa
