/-
  Layer 21, the program's: a taker's end; Get.
-/
import Derived.Test.YtjodckinfoldgaaHdA
import Derived.Test.YtjodckinfoldgaaPcT
namespace Go.Proofs.Ytjodckinfoldgaa
set_option linter.unusedSimpArgs false
set_option linter.unusedVariables false
open Go.ChangeShapes Go.WideShapes Go.ChangeAt Go.RowKit Go.Joins Go.Deep
theorem pt_end (W w : World) (l : List UInt8) (g : Nat) (p : Int) (hl : l.length ≤ 4611686018427387904) (h : TAt W w l g p) :
    Calls Try.prog 31 #[.pointer (some ⟨g, 0, none⟩)] w fun r w' => TEnd W w' r l g (.tuple #[]) p (if p < l.length then 6 else 0) := by
  have hT := Lib.hid h.touch
  by_cases hp : p < l.length
  · rw [if_pos hp]
    have ht := Lib.hid fun w hB => take_no l p 6 0 g w hl h.low h.high hB 0 [] 0 6 (by simp [pieceF, hp]) (by decide)
    have hB := h.blk
    clear hp h
    go_enter Try.func31, Try.ntmps31
    go_wp2_with (refine (ht.out _ hB).mono ?_; rintro e w1 ⟨rfl, h1⟩)
    exact ⟨rfl, .inr ⟨by decide, ⟨p, rfl⟩, hT.out.next (touch_below h1 (Nat.le_refl _)) (fun i _ e => e)⟩⟩
  · rw [if_neg hp]
    refine (end_ok l p g w hl h.low h.high h.blk 0 [] p (by simp [pieceF, hp])).mono ?_
    rintro r w' ⟨rfl, hg, hB⟩
    exact .inl ⟨rfl, rfl, hB, hT.out.next (touch_grow hg) (fun i _ e => by injection e), h.low, h.high⟩
def hq1 (s : List UInt8) : Int := (getF s 0).2.1
def hq2 (s : List UInt8) : Int := (getF s (hq1 s)).2.1
def hq3 (s : List UInt8) : Int := (getF s (hq2 s)).2.1
def hqe (s : List UInt8) : Int := if hq3 s < s.length then 6 else 0
def hE3 (s : List UInt8) : Int := if (getF s 0).2.2 ≠ 0 then (getF s 0).2.2 else if (getF s (hq1 s)).2.2 ≠ 0 then (getF s (hq1 s)).2.2 else if (getF s (hq2 s)).2.2 ≠ 0 then (getF s (hq2 s)).2.2 else hqe s
def hn3 (s : List UInt8) : Hd := ((getF s 0).1, (getF s (hq1 s)).1, (getF s (hq2 s)).1)
theorem hget_is (s : List UInt8) : hgetF s = if hE3 s ≠ 0 then ((0, 0, 0), hE3 s) else if hdok (hn3 s) = true then (hn3 s, 0) else ((0, 0, 0), 210) := by
  have hg : gets s 3 0 [] = if (getF s 0).2.2 = 0 then (if (getF s (hq1 s)).2.2 = 0 then (if (getF s (hq2 s)).2.2 = 0 then ([(getF s 0).1, (getF s (hq1 s)).1, (getF s (hq2 s)).1], hq3 s, 0) else ([], 0, (getF s (hq2 s)).2.2)) else ([], 0, (getF s (hq1 s)).2.2)) else ([], 0, (getF s 0).2.2) := rfl
  unfold hgetF hE3
  rw [hg]
  by_cases h0 : (getF s 0).2.2 = 0
  case neg => simp [h0]
  by_cases h1 : (getF s (hq1 s)).2.2 = 0
  case neg => simp [h0, h1]
  by_cases h2 : (getF s (hq2 s)).2.2 = 0
  case neg => simp [h0, h1, h2]
  by_cases h3 : hq3 s < s.length
  · simp [h0, h1, h2, h3, hqe]
  · simp [h0, h1, h2, h3, hqe, hof, hn3]
    rfl
theorem hset3 {W X : World} {g : Nat} {t : TypeId} {x0 x1 x2 : Value} (h : Blk W g t #[x0, x1, x2]) {a0 a1 a2 : Value}
    (hX : ((W.setCell ⟨g, 0, none⟩ a0).setCell ⟨g, 1, none⟩ a1).setCell ⟨g, 2, none⟩ a2 = X) :
    Blk X g t #[a0, a1, a2] ∧ Touch W X (fun k => k = g) := by
  subst hX
  exact ⟨by simpa using ((h.set_ 0 a0).set_ 1 a1).set_ 2 a2,
    (((Touch.refl W (fun k => k = g)).set (p := ⟨g, 0, none⟩) (.inl rfl) _).set (p := ⟨g, 1, none⟩) (.inl rfl) _).set (p := ⟨g, 2, none⟩) (.inl rfl) _⟩
def HTook (W w' : World) (r : Ending) (hb g : Nat) (C : Array Value) (E : Int) : Prop :=
  PEnd r E ∧ Touch W w' (fun k => k = g ∨ k = hb) ∧ (E = 0 → Blk w' hb 23 C)
theorem htook_no {W w' : World} {hb g : Nat} {C : Array Value} {E E5 q : Int} (h5 : E5 = E) (hE : E ≠ 0) (hT : Touch W w' (fun k => k = g ∨ k = hb)) : HTook W w' (.panicked [{ v := .iface 69 (.agg #[.int .i64 E, .int .i64 q]), recovered := false }]) hb g C E5 := by
  subst h5
  exact ⟨.inr ⟨q, rfl⟩, hT, fun e => absurd e hE⟩
set_option maxRecDepth 100000 in
set_option maxHeartbeats 4000000 in
theorem h_took (l : List UInt8) (W : World) (hb g : Nat) (hl : l.length ≤ 4611686018427387904) (hp : hb ≠ g)
    (hP : Blk W hb 23 #[.int .i64 0, .int .i64 0, .int .i64 0]) (hB : Blk W g 88 #[.string ⟨l.toArray⟩, .int .i64 0]) :
    Calls Try.prog 29 #[.pointer (some ⟨g, 0, none⟩), .pointer (some ⟨hb, 0, none⟩)] W fun r w' => HTook W w' r hb g (hdc (hn3 l)) (hE3 l) := by
  have hmf : ∀ (fn : Fn) (first cap : Array Value) (w : World), (Instr.makeFunc fn first cap).run Try.prog w = .ok (.func fn first cap) w := fun _ _ _ _ => rfl
  have HT : Hid (TAt W W l g 0) := Lib.hid ⟨hB, Touch.refl _ _, Int.le_refl _, by omega⟩
  have HP := Lib.hid hP
  have N0 : Hid (∀ w, TAt W w l g 0 → Calls Try.prog 30 #[.pointer (some ⟨g, 0, none⟩)] w fun r w' => TEnd W w' r l g (.int .i64 (getF l 0).1) (hq1 l) (getF l 0).2.2) := Lib.hid fun w h => pt_num W w l g 0 hl h
  have N1 : Hid (∀ w, TAt W w l g (hq1 l) → Calls Try.prog 30 #[.pointer (some ⟨g, 0, none⟩)] w fun r w' => TEnd W w' r l g (.int .i64 (getF l (hq1 l)).1) (hq2 l) (getF l (hq1 l)).2.2) := Lib.hid fun w h => pt_num W w l g (hq1 l) hl h
  have N2 : Hid (∀ w, TAt W w l g (hq2 l) → Calls Try.prog 30 #[.pointer (some ⟨g, 0, none⟩)] w fun r w' => TEnd W w' r l g (.int .i64 (getF l (hq2 l)).1) (hq3 l) (getF l (hq2 l)).2.2) := Lib.hid fun w h => pt_num W w l g (hq2 l) hl h
  have NE : Hid (∀ X w, TAt X w l g (hq3 l) → Calls Try.prog 31 #[.pointer (some ⟨g, 0, none⟩)] w fun r w' => TEnd X w' r l g (.tuple #[]) (hq3 l) (hqe l)) := Lib.hid fun X w h => pt_end X w l g (hq3 l) hl h
  have F0 : Hid ((getF l 0).2.2 ≠ 0 → hE3 l = (getF l 0).2.2) := Lib.hid fun h => if_pos h
  have F1 : Hid ((getF l 0).2.2 = 0 → (getF l (hq1 l)).2.2 ≠ 0 → hE3 l = (getF l (hq1 l)).2.2) := Lib.hid fun h0 h => by unfold hE3; rw [if_neg (by simpa using h0), if_pos h]
  have F2 : Hid ((getF l 0).2.2 = 0 → (getF l (hq1 l)).2.2 = 0 → (getF l (hq2 l)).2.2 ≠ 0 → hE3 l = (getF l (hq2 l)).2.2) := Lib.hid fun h0 h1 h => by unfold hE3; rw [if_neg (by simpa using h0), if_neg (by simpa using h1), if_pos h]
  have F3 : Hid ((getF l 0).2.2 = 0 → (getF l (hq1 l)).2.2 = 0 → (getF l (hq2 l)).2.2 = 0 → hE3 l = hqe l) := Lib.hid fun h0 h1 h => by unfold hE3; rw [if_neg (by simpa using h0), if_neg (by simpa using h1), if_neg (by simpa using h)]
  show Calls Try.prog 29 #[.pointer (some ⟨g, 0, none⟩), .pointer (some ⟨hb, 0, none⟩)] W fun r w' => HTook W w' r hb g #[.int .i64 (getF l 0).1, .int .i64 (getF l (hq1 l)).1, .int .i64 (getF l (hq2 l)).1] (hE3 l)
  clear hP hB hl
  generalize hE3 l = E5 at *
  generalize hqe l = e3 at *
  generalize (getF l 0).1 = x0 at *
  generalize (getF l 0).2.2 = e0 at *
  generalize (getF l (hq1 l)).1 = x1 at *
  generalize (getF l (hq1 l)).2.2 = e1 at *
  generalize (getF l (hq2 l)).1 = x2 at *
  generalize (getF l (hq2 l)).2.2 = e2 at *
  generalize hq1 l = q1 at *
  generalize hq2 l = q2 at *
  generalize hq3 l = q3 at *
  go_enter Try.func29, Try.ntmps29
  go_wp2_with (first
    | (go_at_call 30; (with_reducible refine (N0.out _ HT.out).mono ?_); rintro e w1 (⟨hE, rfl, hT⟩ | ⟨hE, ⟨q, rfl⟩, hT⟩); replace HT := Lib.hid hT; have E0 := Lib.hid hE; clear hE hT)
    | (go_at_call 30; (with_reducible refine (N1.out _ HT.out).mono ?_); rintro e w2 (⟨hE, rfl, hT⟩ | ⟨hE, ⟨q, rfl⟩, hT⟩); replace HT := Lib.hid hT; have E1 := Lib.hid hE; clear hE hT)
    | (go_at_call 30; (with_reducible refine (N2.out _ HT.out).mono ?_); rintro e w3 (⟨hE, rfl, hT⟩ | ⟨hE, ⟨q, rfl⟩, hT⟩); replace HT := Lib.hid hT; have E2 := Lib.hid hE; clear hE hT; (try (have HP3 := Lib.hid (HT.out.keep HP.out hp); have k0 := HP3.out.cell 0; have z0 := HP3.out.frozen 0; have k1 := HP3.out.cell 1; have z1 := HP3.out.frozen 1; have k2 := HP3.out.cell 2; have z2 := HP3.out.frozen 2; simp only [List.getElem?_toArray, List.getElem?_cons_zero, List.getElem?_cons_succ] at k0 k1 k2)))
    | fail)
  · generalize hX : ((w3.setCell ⟨hb, 0, none⟩ (.int .i64 x0)).setCell ⟨hb, 1, none⟩ (.int .i64 x1)).setCell ⟨hb, 2, none⟩ (.int .i64 x2) = X
    obtain ⟨y1, y2⟩ := hset3 HP3.out hX
    have HY := Lib.hid y1
    have HT7 : Hid (Touch W X (fun k => k = g ∨ k = hb)) := Lib.hid ((HT.out.touch.mono (S' := fun k => k = g ∨ k = hb) (fun _ _ e => Or.inl e)).next y2 (fun _ _ e => Or.inr e))
    have HTX : Hid (TAt X X l g q3) := Lib.hid ⟨HT.out.blk.touch y2 (fun e => hp e.symm), Touch.refl _ _, HT.out.low, HT.out.high⟩
    clear hX y1 y2 k0 k1 k2 z0 z1 z2 HP3 HT
    go_wp2_with (first | (go_at_call 31; (with_reducible refine (NE.out _ _ HTX.out).mono ?_); rintro e w4 (⟨hE, rfl, hT⟩ | ⟨hE, ⟨q, rfl⟩, hT⟩)) | fail)
    · go_end0
      have h5 := F3.out E0.out E1.out E2.out
      rw [hE] at h5
      subst h5
      exact ⟨.inl ⟨rfl, _, rfl⟩, HT7.out.next hT.touch (fun _ _ e => Or.inl e), fun _ => HY.out.touch hT.touch hp⟩
    · exact pt_panic rfl (htook_no (F3.out E0.out E1.out E2.out) hE (HT7.out.next hT (fun _ _ e => Or.inl e)))
  · exact pt_panic rfl (htook_no (F2.out E0.out E1.out hE) hE (hT.mono (fun _ _ e => Or.inl e)))
  · exact pt_panic rfl (htook_no (F1.out E0.out hE) hE (hT.mono (fun _ _ e => Or.inl e)))
  · exact pt_panic rfl (htook_no (F0.out hE) hE (hT.mono (fun _ _ e => Or.inl e)))
theorem h_take3 (l : List UInt8) (w : World) (hl : l.length ≤ 4611686018427387904) :
    Calls Try.prog 28 #[.string ⟨l.toArray⟩, .func (.func 29) #[] #[.pointer (some ⟨w.heap.size + 1, 0, none⟩)]] ((w.alloc (.cells #[.int .i64 0, .int .i64 0, .int .i64 0] 23)).alloc (.cells #[.int .i64 0, .int .i64 0, .int .i64 0] 23)) fun r w' =>
      r = .returned (.int .i64 (hE3 l)) ∧ Blk w' w.heap.size 23 #[.int .i64 0, .int .i64 0, .int .i64 0] ∧ (hE3 l = 0 → Blk w' (w.heap.size + 1) 23 (hdc (hn3 l))) ∧ Below w.heap.size w w' := by
  have hs : ((w.alloc (.cells #[.int .i64 0, .int .i64 0, .int .i64 0] 23)).alloc (.cells #[.int .i64 0, .int .i64 0, .int .i64 0] 23)).heap.size = w.heap.size + 2 := by simp only [World.size_alloc]
  have b0 : Blk ((w.alloc (.cells #[.int .i64 0, .int .i64 0, .int .i64 0] 23)).alloc (.cells #[.int .i64 0, .int .i64 0, .int .i64 0] 23)) w.heap.size 23 #[.int .i64 0, .int .i64 0, .int .i64 0] := (Blk.new w _ _).alloc _
  have b1 : Blk ((w.alloc (.cells #[.int .i64 0, .int .i64 0, .int .i64 0] 23)).alloc (.cells #[.int .i64 0, .int .i64 0, .int .i64 0] 23)) (w.heap.size + 1) 23 #[.int .i64 0, .int .i64 0, .int .i64 0] := by
    have := Blk.new (w.alloc (.cells #[.int .i64 0, .int .i64 0, .int .i64 0] 23)) 23 #[.int .i64 0, .int .i64 0, .int .i64 0]
    rwa [World.size_alloc] at this
  have hb : Below w.heap.size w ((w.alloc (.cells #[.int .i64 0, .int .i64 0, .int .i64 0] 23)).alloc (.cells #[.int .i64 0, .int .i64 0, .int .i64 0] 23)) := ((Below.refl _ _).alloc (Nat.le_refl _) _).alloc (by rw [World.size_alloc]; omega) _
  generalize (w.alloc (.cells #[.int .i64 0, .int .i64 0, .int .i64 0] 23)).alloc (.cells #[.int .i64 0, .int .i64 0, .int .i64 0] 23) = W at *
  have b3 := Blk.new W 25 #[.int .i64 0]
  have b4 : Blk ((W.alloc (.cells #[.int .i64 0] 25)).alloc (.cells #[.string ⟨l.toArray⟩, .int .i64 0] 88)) (W.heap.size + 1) 88 #[.string ⟨l.toArray⟩, .int .i64 0] := by
    have := Blk.new (W.alloc (.cells #[.int .i64 0] 25)) 88 #[.string ⟨l.toArray⟩, .int .i64 0]
    rwa [World.size_alloc] at this
  refine (p_ptake 29 #[.pointer (some ⟨w.heap.size + 1, 0, none⟩)] ⟨l.toArray⟩ (hE3 l) W
    (fun w1 => Blk w1 w.heap.size 23 #[.int .i64 0, .int .i64 0, .int .i64 0] ∧ (hE3 l = 0 → Blk w1 (w.heap.size + 1) 23 (hdc (hn3 l))) ∧ Below w.heap.size w w1) (pt_enters Try.func29 (by kernel_rfl) rfl) ?_).mono ?_
  · have hb2 : Below w.heap.size w ((W.alloc (.cells #[.int .i64 0] 25)).alloc (.cells #[.string ⟨l.toArray⟩, .int .i64 0] 88)) := (hb.alloc (by omega) _).alloc (by rw [World.size_alloc]; omega) _
    have hs2 : w.heap.size ≤ ((W.alloc (.cells #[.int .i64 0] 25)).alloc (.cells #[.string ⟨l.toArray⟩, .int .i64 0] 88)).heap.size := hb2.size
    refine (h_took l _ (w.heap.size + 1) (W.heap.size + 1) hl (by omega) ((b1.alloc _).alloc _) b4).mono ?_
    rintro r w' ⟨h1, h2, h3⟩
    exact ⟨h1, (b3.alloc _).touch h2 (by omega), ((b0.alloc _).alloc _).touch h2 (by omega), h3, hb2.trans (h2.below (fun k _ e => by omega) hs2)⟩
  · rintro r w' ⟨rfl, w1, ⟨h0, h1, h2⟩, rfl⟩
    exact ⟨rfl, h0.far (by show w.heap.size ≠ W.heap.size; omega) _, fun e => (h1 e).far (by show w.heap.size + 1 ≠ W.heap.size; omega) _, h2.setCell (p := ⟨W.heap.size, 0, none⟩) (by show w.heap.size ≤ W.heap.size; omega) _⟩
set_option maxRecDepth 100000 in
set_option maxHeartbeats 4000000 in
theorem p_hget_any (s : List UInt8) (w : World) (hs : s.length ≤ 1000000) : Calls Try.prog 10 #[.string ⟨s.toArray⟩] w fun e w' => e = .returned (.tuple #[.agg (hdc (hgetF s).1), .int .i64 (hgetF s).2]) ∧ Below w.heap.size w w' := by
  have hmf : ∀ (fn : Fn) (first cap : Array Value) (w : World), (Instr.makeFunc fn first cap).run Try.prog w = .ok (.func fn first cap) w := fun _ _ _ _ => rfl
  have Hc := Lib.hid (h_take3 s w (by omega))
  rw [hget_is]
  clear hs
  by_cases hE : hE3 s ≠ 0
  case pos =>
    rw [if_pos hE]
    have hq : (hE3 s == 0) = false := by rw [beq_eq_false_iff_ne]; exact hE
    show Calls Try.prog 10 #[.string ⟨s.toArray⟩] w fun e w' => e = .returned (.tuple #[.agg #[.int .i64 0, .int .i64 0, .int .i64 0], .int .i64 (hE3 s)]) ∧ Below w.heap.size w w'
    generalize hE3 s = E at *
    go_enter Try.func10, Try.ntmps10
    go_wp2_with (first | (go_at_call 28; (with_reducible refine Hc.out.mono ?_); rintro r w2 ⟨rfl, h0, h1, h2⟩; have HR := Lib.hid h0; have HW := Lib.hid h2; have k0 := h0.cell 0; have z0 := h0.frozen 0; have k1 := h0.cell 1; have z1 := h0.frozen 1; have k2 := h0.cell 2; have z2 := h0.frozen 2; simp only [List.getElem?_toArray, List.getElem?_cons_zero, List.getElem?_cons_succ] at k0 k1 k2; clear h0 h1 h2 Hc) | fail)
    generalize hX : ((w2.setCell ⟨w.heap.size, 0, none⟩ (.int .i64 0)).setCell ⟨w.heap.size, 1, none⟩ (.int .i64 0)).setCell ⟨w.heap.size, 2, none⟩ (.int .i64 0) = X
    obtain ⟨j1, j2⟩ := hset3 HR.out hX
    have hBX : Below w.heap.size w X := HW.out.trans (j2.below (fun k _ e => by omega) HW.out.size)
    have x0 := j1.cell 0
    have x1 := j1.cell 1
    have x2 := j1.cell 2
    simp only [List.getElem?_toArray, List.getElem?_cons_zero, List.getElem?_cons_succ] at x0 x1 x2
    refine bodyPost_ret (v := .tuple #[.agg #[.int .i64 0, .int .i64 0, .int .i64 0], .int .i64 E]) (by simp [results, Try.results10, go_sem, x0, x1, x2]) rfl ⟨rfl, hBX⟩
  case neg =>
    have hE0 : hE3 s = 0 := by simpa using hE
    rw [if_neg hE]
    rw [hE0] at Hc
    have C := Lib.hid fun W => p_hchk_any (hn3 s) W
    unfold hchkF at C
    generalize hn3 s = H at *
    obtain ⟨a, b, c⟩ := H
    replace Hc : Hid (Calls Try.prog 28 #[.string ⟨s.toArray⟩, .func (.func 29) #[] #[.pointer (some ⟨w.heap.size + 1, 0, none⟩)]] ((w.alloc (.cells #[.int .i64 0, .int .i64 0, .int .i64 0] 23)).alloc (.cells #[.int .i64 0, .int .i64 0, .int .i64 0] 23)) fun r w' => r = .returned (.int .i64 0) ∧ Blk w' w.heap.size 23 #[.int .i64 0, .int .i64 0, .int .i64 0] ∧ ((0 : Int) = 0 → Blk w' (w.heap.size + 1) 23 #[.int .i64 a, .int .i64 b, .int .i64 c]) ∧ Below w.heap.size w w') := Hc
    clear hE hE0
    by_cases hk : hdok (a, b, c) = true
    case pos =>
      rw [if_pos hk] at C ⊢
      replace C : Hid (∀ W, Calls Try.prog 12 #[.agg #[.int .i64 a, .int .i64 b, .int .i64 c]] W fun e w' => e = .returned (.int .i64 0) ∧ Below W.heap.size W w') := C
      show Calls Try.prog 10 #[.string ⟨s.toArray⟩] w fun e w' => e = .returned (.tuple #[.agg #[.int .i64 a, .int .i64 b, .int .i64 c], .int .i64 0]) ∧ Below w.heap.size w w'
      clear hk
      go_enter Try.func10, Try.ntmps10
      go_wp2_with (first | (go_at_call 28; (with_reducible refine Hc.out.mono ?_); rintro r w2 ⟨rfl, h0, h1, h2⟩; have HR := Lib.hid h0; have HW := Lib.hid h2; have HX := Lib.hid (h1 rfl); have y0 := HX.out.cell 0; have y1 := HX.out.cell 1; have y2 := HX.out.cell 2; simp only [List.getElem?_toArray, List.getElem?_cons_zero, List.getElem?_cons_succ] at y0 y1 y2; clear h0 h1 h2 Hc) | (go_at_call 12; (with_reducible refine (C.out _).mono ?_); rintro e w3 ⟨rfl, hb⟩; replace HW := Lib.hid (HW.out.trans (hb.mono HW.out.size)); replace HR := Lib.hid (HR.out.below hb HR.out.lt); replace HX := Lib.hid (HX.out.below hb HX.out.lt); clear hb C y0 y1 y2; have y0 := HX.out.cell 0; have y1 := HX.out.cell 1; have y2 := HX.out.cell 2; simp only [List.getElem?_toArray, List.getElem?_cons_zero, List.getElem?_cons_succ] at y0 y1 y2; have k0 := HR.out.cell 0; have z0 := HR.out.frozen 0; have k1 := HR.out.cell 1; have z1 := HR.out.frozen 1; have k2 := HR.out.cell 2; have z2 := HR.out.frozen 2; simp only [List.getElem?_toArray, List.getElem?_cons_zero, List.getElem?_cons_succ] at k0 k1 k2) | fail)
      generalize hX : ((w3.setCell ⟨w.heap.size, 0, none⟩ (.int .i64 a)).setCell ⟨w.heap.size, 1, none⟩ (.int .i64 b)).setCell ⟨w.heap.size, 2, none⟩ (.int .i64 c) = X
      obtain ⟨j1, j2⟩ := hset3 HR.out hX
      have hBX : Below w.heap.size w X := HW.out.trans (j2.below (fun k _ e => by omega) HW.out.size)
      have x0 := j1.cell 0
      have x1 := j1.cell 1
      have x2 := j1.cell 2
      simp only [List.getElem?_toArray, List.getElem?_cons_zero, List.getElem?_cons_succ] at x0 x1 x2
      refine bodyPost_ret (v := .tuple #[.agg #[.int .i64 a, .int .i64 b, .int .i64 c], .int .i64 0]) (by simp [results, Try.results10, go_sem, x0, x1, x2]) rfl ⟨rfl, hBX⟩
    case neg =>
      rw [if_neg hk] at C ⊢
      replace C : Hid (∀ W, Calls Try.prog 12 #[.agg #[.int .i64 a, .int .i64 b, .int .i64 c]] W fun e w' => e = .returned (.int .i64 210) ∧ Below W.heap.size W w') := C
      show Calls Try.prog 10 #[.string ⟨s.toArray⟩] w fun e w' => e = .returned (.tuple #[.agg #[.int .i64 0, .int .i64 0, .int .i64 0], .int .i64 210]) ∧ Below w.heap.size w w'
      clear hk
      go_enter Try.func10, Try.ntmps10
      go_wp2_with (first | (go_at_call 28; (with_reducible refine Hc.out.mono ?_); rintro r w2 ⟨rfl, h0, h1, h2⟩; have HR := Lib.hid h0; have HW := Lib.hid h2; have HX := Lib.hid (h1 rfl); have y0 := HX.out.cell 0; have y1 := HX.out.cell 1; have y2 := HX.out.cell 2; simp only [List.getElem?_toArray, List.getElem?_cons_zero, List.getElem?_cons_succ] at y0 y1 y2; clear h0 h1 h2 Hc) | (go_at_call 12; (with_reducible refine (C.out _).mono ?_); rintro e w3 ⟨rfl, hb⟩; replace HW := Lib.hid (HW.out.trans (hb.mono HW.out.size)); replace HR := Lib.hid (HR.out.below hb HR.out.lt); replace HX := Lib.hid (HX.out.below hb HX.out.lt); clear hb C y0 y1 y2; have y0 := HX.out.cell 0; have y1 := HX.out.cell 1; have y2 := HX.out.cell 2; simp only [List.getElem?_toArray, List.getElem?_cons_zero, List.getElem?_cons_succ] at y0 y1 y2; have k0 := HR.out.cell 0; have z0 := HR.out.frozen 0; have k1 := HR.out.cell 1; have z1 := HR.out.frozen 1; have k2 := HR.out.cell 2; have z2 := HR.out.frozen 2; simp only [List.getElem?_toArray, List.getElem?_cons_zero, List.getElem?_cons_succ] at k0 k1 k2) | fail)
      generalize hX : ((w3.setCell ⟨w.heap.size, 0, none⟩ (.int .i64 0)).setCell ⟨w.heap.size, 1, none⟩ (.int .i64 0)).setCell ⟨w.heap.size, 2, none⟩ (.int .i64 0) = X
      obtain ⟨j1, j2⟩ := hset3 HR.out hX
      have hBX : Below w.heap.size w X := HW.out.trans (j2.below (fun k _ e => by omega) HW.out.size)
      have x0 := j1.cell 0
      have x1 := j1.cell 1
      have x2 := j1.cell 2
      simp only [List.getElem?_toArray, List.getElem?_cons_zero, List.getElem?_cons_succ] at x0 x1 x2
      refine bodyPost_ret (v := .tuple #[.agg #[.int .i64 0, .int .i64 0, .int .i64 0], .int .i64 210]) (by simp [results, Try.results10, go_sem, x0, x1, x2]) rfl ⟨rfl, hBX⟩
end Go.Proofs.Ytjodckinfoldgaa
