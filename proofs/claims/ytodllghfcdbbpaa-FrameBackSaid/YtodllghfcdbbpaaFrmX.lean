/-
  Layer 16, the program's: Scan of bytes, for all bytes and places.
-/
import Derived.Test.YtodllghfcdbbpaaFrmD
import Derived.Test.YtodllghfcdbbpaaSufF
import Derived.Test.YtodllghfcdbbpaaStep
namespace Go.Proofs.Ytodllghfcdbbpaa
set_option linter.unusedSimpArgs false
set_option linter.unusedVariables false
open Go.ChangeShapes Go.WideShapes Go.ChangeAt Go.RowKit Go.Joins Go.Deep Go.Shelf
attribute [local go_sem] Oper.semAt_some
theorem p_frames_any (s : List UInt8) (p : Int) (w : World) :
    Calls Try.prog 26 #[.string ⟨s.toArray⟩, .int .i64 p] w fun e w' => e = .returned (.func (.func 35) #[] #[.pointer (some ⟨w.heap.size, 0, none⟩), .pointer (some ⟨w.heap.size + 1, 0, none⟩)]) ∧ w' = (w.alloc (.cells #[.string ⟨s.toArray⟩] 9)).alloc (.cells #[.int .i64 p] 3) := by
  have hmf : ∀ (fn : Fn) (first cap : Array Value) (w : World), (Instr.makeFunc fn first cap).run Try.prog w = .ok (.func fn first cap) w := fun _ _ _ _ => rfl
  go_enter Try.func26, Try.ntmps26
  go_wp2
  go_ret
  exact ⟨rfl, rfl⟩
theorem frames_mine {sb ab : Nat} (s : List UInt8) (p : Int) (hs : s.length ≤ 1000000) (w : World) (hsb : Blk w sb 9 #[.string ⟨s.toArray⟩]) (hab : Blk w ab 3 #[.int .i64 p]) :
    SeqMine Fence.wide 8 Try.prog 35 #[.pointer (some ⟨sb, 0, none⟩), .pointer (some ⟨ab, 0, none⟩)] (fun x => #[fag x]) (FKp sb ab) (fun ys => ys = (fscanF s p).1) (fun _ => True) s.length w :=
  fun l J Jx W hW hJ hJx h0 hY => frames1_in (n := 8) (by omega) l sb ab s p hs J Jx W hJ hJx h0 hY (hsb.below hW hsb.lt) (hab.below hW hab.lt)
def flast (p : Int) (l : List Fr) : Int := l.foldl (fun _ f => f.2.2.2) p
theorem flast_snoc (p : Int) (l : List Fr) (x : Fr) : flast p (l ++ [x]) = x.2.2.2 := by simp [flast]
theorem flast_scan {s : List UInt8} {m : Nat} {L : List Fr} {e : Nat} (h : FScan s m L e) : flast (m : Int) L = (e : Int) := by
  induction h with
  | stop p _ => rfl
  | more p L e h0 _ ih =>
    show flast ((p : Int) + ((fgR (s.drop p)).2.2.1 : Int)) L = (e : Int)
    rw [← ih]
    congr 1
theorem flast_all (s : List UInt8) (p : Int) : flast p (fscanF s p).1 = (fscanF s p).2 := by
  by_cases hp : 0 ≤ p ∧ p ≤ s.length
  · obtain ⟨m, rfl⟩ : ∃ m : Nat, p = (m : Int) := ⟨p.toNat, by omega⟩
    obtain ⟨e, h1, h2⟩ := fscan_is s m (by omega)
    rw [h2, flast_scan h1]
  · rw [show fscanF s p = ([], p) from if_neg hp]
    rfl
structure FSI (w : World) (p : Int) (Pv : Nat → Prop) (pre : List Fr) (W : World) : Prop where
  row : ∃ v, Boxed W (w.heap.size + 1) 36 v ∧ W.ownsRow (w.heap.size + 4) 31 4 v pre.length (fcs pre) ∧ ∀ g, v.ownBlock = some g → ¬ Pv g
  at_ : Boxed W w.heap.size 3 (.int .i64 (flast p pre))
  below : Below w.heap.size w W
  mine : ∀ b, Pv b → w.heap.size + 4 ≤ b ∧ b < W.heap.size
  low : w.heap.size + 4 ≤ W.heap.size
theorem FSI.touch {w : World} {p : Int} {Pv : Nat → Prop} {pre : List Fr} {A B : World} (h : FSI w p Pv pre A) (ht : Touch A B Pv) : FSI w p Pv pre B := by
  obtain ⟨v, h1, h2, h3⟩ := h.row
  have hs := h.below.size
  have bt : ∀ {b : Nat} {t : TypeId} {u : Value}, Boxed A b t u → b < w.heap.size + 4 → Boxed B b t u := fun hb hlt => (ht.block _ hb.lt (fun hp => by have := h.mine _ hp; omega)).trans hb
  exact ⟨⟨v, bt h1 (by omega), owns_touch h2 ht h3, h3⟩, bt h.at_ (by omega), h.below.trans (ht.below (fun k _ hp => by have := h.mine k hp; omega) hs), fun b hb => by have := h.mine b hb; have := ht.size; omega, Nat.le_trans h.low ht.size⟩
theorem FSI.put {w : World} {p : Int} {Pv : Nat → Prop} {pre : List Fr} {A : World} {l : Nat} {o : Obj} (o' : Obj) (hl : w.heap.size + 4 ≤ l) (h : FSI w p Pv pre A) (ho : A.heap[l]? = some o) (hc : o.isCells = false) : FSI w p Pv pre (A.putObj l o') := by
  obtain ⟨v, h1, h2, h3⟩ := h.row
  exact ⟨⟨v, (World.putObj_heap_other (by omega)).trans h1, ownsRow_putObj h2 o' ho hc, h3⟩, (World.putObj_heap_other (by omega)).trans h.at_, h.below.trans ((touch_grow (grownBy_putObj' A l o')).below (fun k _ e => by injection e with e; omega) h.below.size), fun b hb => by rw [World.putObj_size]; exact h.mine b hb, by rw [World.putObj_size]; exact h.low⟩
def FAx (w : World) (x : Fr) (T : Array Value) (a' : Act) (W : World) : Prop := ∃ Bx, Blk W Bx 31 (fbl x) ∧ w.heap.size + 4 ≤ Bx ∧ (∀ v, Boxed W (w.heap.size + 1) 36 v → v.ownBlock ≠ some Bx) ∧ a' = { tmps := T.setIfInBounds 7 (.pointer (some ⟨Bx, 0, none⟩)), defers := [] }
theorem FAx.put {w : World} {x : Fr} {T : Array Value} {a' : Act} {A : World} {l : Nat} {o : Obj} (o' : Obj) (hl : w.heap.size + 4 ≤ l) (h : FAx w x T a' A) (ho : A.heap[l]? = some o) (hc : o.isCells = false) : FAx w x T a' (A.putObj l o') := by
  obtain ⟨Bx, h1, h2, h3, h4⟩ := h
  refine ⟨Bx, (World.putObj_heap_other (fun e => ?_)).trans h1, h2, fun v hv => h3 v ((World.putObj_heap_other (by omega)).symm.trans hv), h4⟩
  subst e
  rw [show A.heap[Bx]? = _ from h1] at ho
  injection ho with ho
  subst ho
  cases hc
theorem fbl_one (x : Fr) : ∀ u ∈ (fbl x).toList, u.oneCell' = true := by
  intro u hu
  simp at hu
  rcases hu with rfl | rfl | rfl | rfl <;> rfl
theorem fsi_step {w W w4 : World} {p : Int} {Pv : Nat → Prop} {pre : List Fr} {x : Fr} {v v' : Value} {m : Nat} (hI : FSI w p Pv pre W) (bL : Boxed W (w.heap.size + 1) 36 v) (hown : W.ownsRow (w.heap.size + 4) 31 4 v pre.length (fcs pre)) (hpv : ∀ g, v.ownBlock = some g → ¬ Pv g)
    (hm : m = pre.length + 1) (hown4 : w4.ownsRow (w.heap.size + 4) 31 4 v' m (fcs pre ++ (fbl x).toList)) (hg : (W.alloc (.cells (fbl x) 31)).drew.grownBy w4 v.ownBlock) (hsep : Sep (W.alloc (.cells (fbl x) 31)).drew v v') :
    Boxed w4 (w.heap.size + 1) 36 v ∧ Boxed w4 w.heap.size 3 (.int .i64 (flast p pre)) ∧ KeepsFrom (w.heap.size + 4) W ((w4.setCell ⟨w.heap.size + 1, 0, none⟩ v').setCell ⟨w.heap.size, 0, none⟩ (.int .i64 x.2.2.2)) ∧
      FKp (w.heap.size + 2) (w.heap.size + 3) Pv W ((w4.setCell ⟨w.heap.size + 1, 0, none⟩ v').setCell ⟨w.heap.size, 0, none⟩ (.int .i64 x.2.2.2)) ∧ FSI w p Pv (pre ++ [x]) ((w4.setCell ⟨w.heap.size + 1, 0, none⟩ v').setCell ⟨w.heap.size, 0, none⟩ (.int .i64 x.2.2.2)) := by
  subst hm
  have hg' : (W.alloc (.cells (fbl x) 31)).grownBy w4 v.ownBlock := ⟨hg.os, hg.tape, hg.output, hg.size, hg.block⟩
  have hs0 := hI.below.size
  have hsz := hg'.size
  rw [World.size_alloc] at hsz
  have hb : ∀ b, v.ownBlock = some b → w.heap.size + 4 ≤ b := fun b e => (hown.lt b e).1
  have bA := hI.at_
  have bL4 : Boxed w4 (w.heap.size + 1) 36 v := (bL.alloc _).kept hg' (bL.not_row (by decide) hown)
  have bA4 : Boxed w4 w.heap.size 3 (.int .i64 (flast p pre)) := (bA.alloc _).kept hg' (bA.not_row (by decide) hown)
  refine ⟨bL4, bA4, ?_, ?_, ?_⟩
  · have hc : ∀ (j : Nat) (o : Obj), v.ownBlock = some j → (W.alloc (.cells (fbl x) 31)).heap[j]? = some o → o.isCells = true := by
      intro j o ej hj
      rcases (hown.alloc (.cells (fbl x) 31)).2 with ⟨rfl, _⟩ | ⟨g, cap, cur, rfl, _, hgb, _⟩
      · simp [Value.ownBlock] at ej
      · obtain rfl : g = j := by simpa [Value.ownBlock] using ej
        rw [hgb] at hj
        cases hj
        rfl
    exact ((((KeepsOthers.alloc W _).trans (KeepsOthers.of_grownBy hg' hc)).trans (KeepsOthers.setCell _ _ _)).trans (KeepsOthers.setCell _ _ _)).from _
  · refine ⟨by simp only [World.size_setCell]; omega, fun g t cs hP hB => ?_⟩
    have hne : v.ownBlock ≠ some g := fun e => by
      rcases hP with h | rfl | rfl
      · exact hpv g e h
      · have := hb _ e; omega
      · have := hb _ e; omega
    have hlo : w.heap.size + 1 < g := by
      rcases hP with h | rfl | rfl
      · have := hI.mine g h; omega
      · omega
      · omega
    exact ((Blk.grow' (hB.alloc _) hg' hne).far (p := ⟨w.heap.size + 1, 0, none⟩) (by show g ≠ w.heap.size + 1; omega) _).far (p := ⟨w.heap.size, 0, none⟩) (by show g ≠ w.heap.size; omega) _
  · have h5 := hown4.kept (grownBy_setCell' w4 (w.heap.size + 1) v') (.inr (bL4.not_row (by decide) hown4).symm)
    have bA5 : Boxed (w4.setCell ⟨w.heap.size + 1, 0, none⟩ v') w.heap.size 3 (.int .i64 (flast p pre)) := bA4.other (by omega) _
    have h6 := h5.kept (grownBy_setCell' (w4.setCell ⟨w.heap.size + 1, 0, none⟩ v') w.heap.size (.int .i64 x.2.2.2)) (.inr (bA5.not_row (by decide) h5).symm)
    refine ⟨⟨v', (bL4.set v').other (by omega) _, ?_, fun g e hP => ?_⟩, by rw [flast_snoc]; exact bA5.set _, ?_, fun b hP => ?_, by have := hI.low; simp only [World.size_setCell]; omega⟩
    · rw [List.length_append, List.length_singleton, fcs_app]
      exact h6
    · rcases hsep g e with h | h
      · exact hpv g h hP
      · have := hI.mine g hP
        have e9 : (W.alloc (.cells (fbl x) 31)).drew.heap.size = W.heap.size + 1 := World.size_alloc _ _
        omega
    · have hb2 : Below w.heap.size W w4 := ((Below.refl w.heap.size W).alloc hs0 _).grown hg' (by rw [World.size_alloc]; omega) fun b e => by have := hb b e; omega
      exact hI.below.trans ((hb2.setCell (p := ⟨w.heap.size + 1, 0, none⟩) (by show w.heap.size ≤ w.heap.size + 1; omega) _).setCell (p := ⟨w.heap.size, 0, none⟩) (Nat.le_refl _) _)
    · have := hI.mine b hP
      simp only [World.size_setCell]
      omega
set_option maxRecDepth 100000 in
set_option maxHeartbeats 4000000 in
theorem p_fscan_any (s : List UInt8) (p : Int) (w : World) (hs : s.length ≤ 1000000) :
    Calls Try.prog 14 #[.string ⟨s.toArray⟩, .int .i64 p] w fun e w' => FSPost w w' e (fscanF s p) := by
  obtain ⟨i0, hi0, hz0, hz1, hz9⟩ := info_parts frm_info
  unfold FSPost
  have hgf := Lib.hid fun W => p_frames_any s p W
  refine (callsIn_wide (n := 9)).1 ?_
  refine callsIn_of_wp_marks Try.func14 rfl trivial ?_ rfl
  simp only [Try.ntmps14, List.size_toArray, List.length_cons, List.length_nil, Nat.reduceAdd, Nat.reduceSub, Array.replicate_succ, Array.replicate_zero, List.push_toArray, List.append_toArray, List.nil_append, List.cons_append]
  gi_wp2_with (refine ⟨trivial, ?_⟩; gi_at_call 26; refine (callsIn_wide.2 (hgf.out _)).mono ?_; rintro e w' ⟨rfl, rfl⟩)
  have bA : Boxed ((((w.alloc (.cells #[.int .i64 p] 3)).alloc (.cells #[.slice none 0 0] 36)).alloc (.cells #[.string ⟨s.toArray⟩] 9)).alloc (.cells #[.int .i64 p] 3)) w.heap.size 3 (.int .i64 p) := (((Boxed.new w 3 (.int .i64 p)).alloc _).alloc _).alloc _
  have bL := ((Boxed.new (w.alloc (.cells #[.int .i64 p] 3)) 36 (.slice none 0 0)).alloc (.cells #[.string ⟨s.toArray⟩] 9)).alloc (.cells #[.int .i64 p] 3)
  have bS := (Blk.new ((w.alloc (.cells #[.int .i64 p] 3)).alloc (.cells #[.slice none 0 0] 36)) 9 #[.string ⟨s.toArray⟩]).alloc (.cells #[.int .i64 p] 3)
  have bP := Blk.new (((w.alloc (.cells #[.int .i64 p] 3)).alloc (.cells #[.slice none 0 0] 36)).alloc (.cells #[.string ⟨s.toArray⟩] 9)) 3 #[.int .i64 p]
  simp only [World.size_alloc] at bL bS bP
  have hB0 : Below w.heap.size w ((((w.alloc (.cells #[.int .i64 p] 3)).alloc (.cells #[.slice none 0 0] 36)).alloc (.cells #[.string ⟨s.toArray⟩] 9)).alloc (.cells #[.int .i64 p] 3)) := ((((Below.refl _ w).alloc (Nat.le_refl _) _).alloc (by simp) _).alloc (by simp; omega) _).alloc (by simp; omega) _
  have hsz : ((((w.alloc (.cells #[.int .i64 p] 3)).alloc (.cells #[.slice none 0 0] 36)).alloc (.cells #[.string ⟨s.toArray⟩] 9)).alloc (.cells #[.int .i64 p] 3)).heap.size = w.heap.size + 4 := by simp
  obtain ⟨W0, hW0⟩ : ∃ W0, (((w.alloc (.cells #[.int .i64 p] 3)).alloc (.cells #[.slice none 0 0] 36)).alloc (.cells #[.string ⟨s.toArray⟩] 9)).alloc (.cells #[.int .i64 p] 3) = W0 := ⟨_, rfl⟩
  rw [hW0] at bA bL bS bP hB0 hsz ⊢
  clear hW0
  refine wpIn_rangeFunc_mine rfl (by omega) (gf := 35) (lb := #[.pointer (some ⟨w.heap.size + 2, 0, none⟩), .pointer (some ⟨w.heap.size + 3, 0, none⟩)]) rfl trivial (enters_of Try.func35 (by kernel_rfl) rfl)
    (frames_mine s p hs W0 bS bP) (fun h k => h.trans k) (fun Pv W l o o' _ hl ho => fkp_put Pv W l o o' hl ho) (Below.refl _ _) (fun _ => rfl)
    (fun Pv pre W => FSI w p Pv pre W) (fun _ _ _ _ => False)
    (fun Pv pre A B _ h ht => h.touch ht) (fun _ _ _ _ _ _ h _ => h) (fun Pv pre A l o o' hl h ho hc => h.put o' (by omega) ho hc) (fun _ _ _ _ _ _ _ _ h _ _ => h)
    (fun Pv A hA hP => ?start)
    (fun x a' W => FAx w x #[.string ⟨s.toArray⟩, .int .i64 p, undef, .pointer (some ⟨w.heap.size, 0, none⟩), .slice none 0 0, .int .i64 0, .pointer (some ⟨w.heap.size + 1, 0, none⟩), undef, .string ⟨s.toArray⟩, .int .i64 p, .func (.func 35) #[] #[.pointer (some ⟨w.heap.size + 2, 0, none⟩), .pointer (some ⟨w.heap.size + 3, 0, none⟩)], fag x, undef, undef, undef, undef, undef, undef, undef, undef] a' W)
    (fun x a' A l o o' hl h ho hc => h.put o' (by omega) ho hc)
    ?assign ?body ?done ?stop
  case start =>
    have hb4 : Below (w.heap.size + 4) W0 A := hsz ▸ hA
    exact ⟨⟨_, (hA.block _ bL.lt).trans bL, World.ownsRow_nil _ _ _ _, fun g e => by cases e⟩, (hA.block _ bA.lt).trans bA, hB0.trans (hA.mono hB0.size), fun b hb => by have := hP b hb; omega, by have := hA.size; omega⟩
  case assign =>
    rintro l Pv pre x W K hI hK
    gi_wp2
    obtain ⟨v, bL1, hown, hpv⟩ := hI.row
    refine hK _ _ ((KeepsOthers.alloc _ _).from _) ⟨by rw [World.size_alloc]; omega, fun g t cs _ hB => hB.alloc _⟩ (hI.touch ((Touch.refl _ _).alloc _)) ⟨W.heap.size, Blk.new W _ _, hI.low, fun v' hv' e => ?_, rfl⟩
    have e1 := (bL1.alloc (.cells (fbl x) 31)).symm.trans hv'
    injection e1 with e1
    injection e1 with e1 _ _
    have e2 : v = v' := by simpa using e1
    subst e2
    exact absurd (hown.lt _ e).2 (Nat.lt_irrefl _)
  case body =>
    rintro l Pv pre x a' W hl ⟨r, hr⟩ hI ⟨Bx, bX, hBx, hnb, rfl⟩ hlen
    obtain ⟨v, bL1, hown, hpv⟩ := hI.row
    have Hown : Hid ((W.alloc (.cells (fbl x) 31)).drew.ownsRow (w.heap.size + 4) 31 4 v pre.length (fcs pre)) := Lib.hid (hown.alloc _)
    have Hsrc : Hid (Reads (W.alloc (.cells (fbl x) 31)).drew (W.heap.size + 1) 4 (some ⟨W.heap.size, 0, none⟩) 1 (fbl x).toList) := Lib.hid (reads_new W 31 (fbl x) 4 1 rfl)
    have Hone := Lib.hid (fbl_one x)
    have Hws : Hid (w.heap.size + 4 ≤ (W.alloc (.cells (fbl x) 31)).drew.heap.size) := Lib.hid (by
      have := hI.below.size
      have := bX.lt
      have e9 : (W.alloc (.cells (fbl x) 31)).drew.heap.size = W.heap.size + 1 := World.size_alloc _ _
      omega)
    have Hnb : Hid (v.ownBlock ≠ some Bx) := Lib.hid (hnb v bL1)
    have Hfar : Hid (Bx ≠ w.heap.size + 1 ∧ Bx ≠ w.heap.size) := Lib.hid ⟨by omega, by omega⟩
    have Hafter := Lib.hid fun (w4 : World) A4 c4 h4 hg4 hs4 => fsi_step (w4 := w4) (v' := .slice A4 (pre.length + 1) c4) (x := x) hI bL1 hown hpv rfl h4 hg4 hs4
    have cL : W.cell? ⟨w.heap.size + 1, 0, none⟩ = some v := bL1.cell
    have cL2 : ∀ o, (W.alloc o).cell? ⟨w.heap.size + 1, 0, none⟩ = some v := fun o => (bL1.alloc o).cell
    clear hI bL1 hown hpv hnb hr
    try dsimp only
    simp only [List.setIfInBounds_toArray, List.set_cons_zero, List.set_cons_succ]
    rw [hsz]
    gi_wp2
    refine round_held_drew (S := fun W' => Blk W' Bx 31 (fbl x)) (by kernel_rfl) (by kernel_rfl) (by rintro ⟨_, _, h⟩; exact h) bX ?_
    intro hHeld
    refine wpAnyH_take (i := 1) (oi := _) (v := ?_) rfl (by kernel_rfl) (by kernel_rfl) (by kernel_rfl) (fun _ _ _ h => h) (Or.inl ⟨by rfl, ?_⟩) hHeld ?_
    rotate_left
    · (intro wz hSw; have y0 := hSw.cell 0; have y1 := hSw.cell 1; have y2 := hSw.cell 2; have y3 := hSw.cell 3; simp only [fbl, List.getElem?_toArray, List.getElem?_cons_zero, List.getElem?_cons_succ] at y0 y1 y2 y3; go_simp; try (with_reducible rfl))
    (try dsimp only [List.getElem_toArray, List.getElem_cons_zero, List.getElem_cons_succ]); (try simp only [Act.put, List.setIfInBounds_toArray, List.set_cons_zero, List.set_cons_succ])
    refine wpAnyH_take (i := 4) (oi := _) (v := ?_) rfl (by kernel_rfl) (by kernel_rfl) (by kernel_rfl) (fun _ _ _ h => h) (Or.inl ⟨by rfl, ?_⟩) hHeld ?_
    rotate_left
    · (intro wz hSw; go_simp; try (with_reducible rfl))
    (try dsimp only [List.getElem_toArray, List.getElem_cons_zero, List.getElem_cons_succ]); (try simp only [Act.put, List.setIfInBounds_toArray, List.set_cons_zero, List.set_cons_succ])
    refine wpAnyH_take (i := 5) (oi := _) (v := ?_) rfl (by kernel_rfl) (by kernel_rfl) (by kernel_rfl) (fun _ _ _ h => h) (Or.inl ⟨by rfl, ?_⟩) hHeld ?_
    rotate_left
    · (intro wz hSw; have y0 := hSw.cell 0; have y1 := hSw.cell 1; have y2 := hSw.cell 2; have y3 := hSw.cell 3; simp only [fbl, List.getElem?_toArray, List.getElem?_cons_zero, List.getElem?_cons_succ] at y0 y1 y2 y3; go_simp; try (with_reducible rfl))
    (try dsimp only [List.getElem_toArray, List.getElem_cons_zero, List.getElem_cons_succ]); (try simp only [Act.put, List.setIfInBounds_toArray, List.set_cons_zero, List.set_cons_succ])
    refine wpAnyH_ready (rs := [0, 2]) (by kernel_rfl) (by simp) ?_
    refine AllReadyH.cons (o := _) rfl (fun K hK => ?_) ?_
    · skip
      go_simp
      refine hK.out _ _ (hHeld) (fun hH => ?_)
      clear hK K hHeld
      have hHeld := hH
      clear hH
      (try dsimp only [List.getElem_toArray, List.getElem_cons_zero, List.getElem_cons_succ]); (try simp only [Act.put, List.setIfInBounds_toArray, List.set_cons_zero, List.set_cons_succ])
      refine wpAnyH_ready (rs := [2]) (by kernel_rfl) (by simp) ?_
      refine AllReadyH.cons (o := _) rfl (fun K hK => ?_) AllReadyH.nil
      go_simp
      refine hK.out _ _ ((Blk.alloc hHeld _)) (fun hH => ?_)
      clear hK K hHeld
      have hHeld := hH
      clear hH
      (try dsimp only [List.getElem_toArray, List.getElem_cons_zero, List.getElem_cons_succ]); (try simp only [Act.put, List.setIfInBounds_toArray, List.set_cons_zero, List.set_cons_succ])
      refine wpAnyH_ready (rs := [3]) (by kernel_rfl) (by simp) ?_
      refine AllReadyH.cons (o := _) rfl (fun K hK => ?_) AllReadyH.nil
      refine lstep_append (by rfl) _ _ 36 (by rfl) (w.heap.size + 4) 31 i0 (.agg #[.int .i64 0, .string ⟨#[]⟩, .int .i64 0, .int .i64 0]) 4 40 Try.underlying36 hi0 hz0 hz1 hz9 rfl (by decide) v pre.length (fcs pre) (by rfl) Hown.out (some ⟨W.heap.size, 0, none⟩) 1 1 _ (fbl x).toList (by rfl) Hsrc.out Hone.out (by unfold maxLen; omega) (by omega) Hws.out (pre.length + 1) rfl ?_
      intro A4 c4 w4 hown4 hgrow4 hsep4
      refine hK.out _ _ ((Blk.grow' hHeld hgrow4 Hnb.out)) (fun hH => ?_)
      clear hK K hHeld
      have hHeld := hH
      clear hH
      have H4 := Lib.hid (Hafter.out w4 A4 c4 hown4 hgrow4 hsep4)
      have cL4 := H4.out.1.cell
      have zL4 := H4.out.1.frozen
      have cA4 := (H4.out.2.1.other (B' := w.heap.size + 1) (by omega) (.slice A4 (pre.length + 1) c4)).cell
      have zA4 := (H4.out.2.1.other (B' := w.heap.size + 1) (by omega) (.slice A4 (pre.length + 1) c4)).frozen
      clear hown4 hgrow4 hsep4
      (try dsimp only [List.getElem_toArray, List.getElem_cons_zero, List.getElem_cons_succ]); (try simp only [Act.put, List.setIfInBounds_toArray, List.set_cons_zero, List.set_cons_succ])
      refine wpAnyH_ready (rs := [6]) (by kernel_rfl) (by simp) ?_
      refine AllReadyH.cons (o := _) rfl (fun K hK => ?_) AllReadyH.nil
      go_simp
      refine hK.out _ _ ((Blk.far hHeld Hfar.out.1 _)) (fun hH => ?_)
      clear hK K hHeld
      have hHeld := hH
      clear hH
      (try dsimp only [List.getElem_toArray, List.getElem_cons_zero, List.getElem_cons_succ]); (try simp only [Act.put, List.setIfInBounds_toArray, List.set_cons_zero, List.set_cons_succ])
      refine wpAnyH_ready (rs := [7]) (by kernel_rfl) (by simp) ?_
      refine AllReadyH.cons (o := _) rfl (fun K hK => ?_) AllReadyH.nil
      go_simp
      refine hK.out _ _ ((Blk.far hHeld Hfar.out.2 _)) (fun hH => ?_)
      clear hK K hHeld
      have hHeld := hH
      clear hH
      (try dsimp only [List.getElem_toArray, List.getElem_cons_zero, List.getElem_cons_succ]); (try simp only [Act.put, List.setIfInBounds_toArray, List.set_cons_zero, List.set_cons_succ])
      refine wpAnyH_done (by kernel_rfl) ?_ _
      clear hHeld
      exact ⟨H4.out.2.2.1, H4.out.2.2.2.1, H4.out.2.2.2.2⟩
    refine AllReadyH.cons (o := _) rfl (fun K hK => ?_) AllReadyH.nil
    go_simp
    refine hK.out _ _ ((Blk.alloc hHeld _)) (fun hH => ?_)
    clear hK K hHeld
    have hHeld := hH
    clear hH
    (try dsimp only [List.getElem_toArray, List.getElem_cons_zero, List.getElem_cons_succ]); (try simp only [Act.put, List.setIfInBounds_toArray, List.set_cons_zero, List.set_cons_succ])
    refine wpAnyH_ready (rs := [0]) (by kernel_rfl) (by simp) ?_
    refine AllReadyH.cons (o := _) rfl (fun K hK => ?_) AllReadyH.nil
    go_simp
    refine hK.out _ _ (hHeld) (fun hH => ?_)
    clear hK K hHeld
    have hHeld := hH
    clear hH
    (try dsimp only [List.getElem_toArray, List.getElem_cons_zero, List.getElem_cons_succ]); (try simp only [Act.put, List.setIfInBounds_toArray, List.set_cons_zero, List.set_cons_succ])
    refine wpAnyH_ready (rs := [3]) (by kernel_rfl) (by simp) ?_
    refine AllReadyH.cons (o := _) rfl (fun K hK => ?_) AllReadyH.nil
    refine lstep_append (by rfl) _ _ 36 (by rfl) (w.heap.size + 4) 31 i0 (.agg #[.int .i64 0, .string ⟨#[]⟩, .int .i64 0, .int .i64 0]) 4 40 Try.underlying36 hi0 hz0 hz1 hz9 rfl (by decide) v pre.length (fcs pre) (by rfl) Hown.out (some ⟨W.heap.size, 0, none⟩) 1 1 _ (fbl x).toList (by rfl) Hsrc.out Hone.out (by unfold maxLen; omega) (by omega) Hws.out (pre.length + 1) rfl ?_
    intro A4 c4 w4 hown4 hgrow4 hsep4
    refine hK.out _ _ ((Blk.grow' hHeld hgrow4 Hnb.out)) (fun hH => ?_)
    clear hK K hHeld
    have hHeld := hH
    clear hH
    have H4 := Lib.hid (Hafter.out w4 A4 c4 hown4 hgrow4 hsep4)
    have cL4 := H4.out.1.cell
    have zL4 := H4.out.1.frozen
    have cA4 := (H4.out.2.1.other (B' := w.heap.size + 1) (by omega) (.slice A4 (pre.length + 1) c4)).cell
    have zA4 := (H4.out.2.1.other (B' := w.heap.size + 1) (by omega) (.slice A4 (pre.length + 1) c4)).frozen
    clear hown4 hgrow4 hsep4
    (try dsimp only [List.getElem_toArray, List.getElem_cons_zero, List.getElem_cons_succ]); (try simp only [Act.put, List.setIfInBounds_toArray, List.set_cons_zero, List.set_cons_succ])
    refine wpAnyH_ready (rs := [6]) (by kernel_rfl) (by simp) ?_
    refine AllReadyH.cons (o := _) rfl (fun K hK => ?_) AllReadyH.nil
    go_simp
    refine hK.out _ _ ((Blk.far hHeld Hfar.out.1 _)) (fun hH => ?_)
    clear hK K hHeld
    have hHeld := hH
    clear hH
    (try dsimp only [List.getElem_toArray, List.getElem_cons_zero, List.getElem_cons_succ]); (try simp only [Act.put, List.setIfInBounds_toArray, List.set_cons_zero, List.set_cons_succ])
    refine wpAnyH_ready (rs := [7]) (by kernel_rfl) (by simp) ?_
    refine AllReadyH.cons (o := _) rfl (fun K hK => ?_) AllReadyH.nil
    go_simp
    refine hK.out _ _ ((Blk.far hHeld Hfar.out.2 _)) (fun hH => ?_)
    clear hK K hHeld
    have hHeld := hH
    clear hH
    (try dsimp only [List.getElem_toArray, List.getElem_cons_zero, List.getElem_cons_succ]); (try simp only [Act.put, List.setIfInBounds_toArray, List.set_cons_zero, List.set_cons_succ])
    refine wpAnyH_done (by kernel_rfl) ?_ _
    clear hHeld
    exact ⟨H4.out.2.2.1, H4.out.2.2.2.1, H4.out.2.2.2.2⟩
  case done =>
    rintro D Pv ys W hD rfl hI hK
    obtain ⟨v, bL1, hown, hpv⟩ := hI.row
    have bA1 := hI.at_
    rw [flast_all] at bA1
    obtain ⟨A, c, rfl, hc, hrd⟩ := owns_cells hown
    have cL := bL1.cell
    have cA := bA1.cell
    gi_wp2
    refine wpIn_wide.2 ?_
    go_region
    all_goals
      gi_wp2
      have hK2 : W.drew.heap[D]? = some (.deferred (some [])) := hK
      have hown2 : W.drew.ownsRow (w.heap.size + 4) 31 4 (.slice A (fscanF s p).1.length c) (fscanF s p).1.length (fcs (fscanF s p).1) := hown
      refine ⟨by simp, .inl ⟨_, _, rfl, run_takeDeferred hK2, ?_⟩⟩
      obtain ⟨A2, c2, e2, _, hrd2⟩ := owns_cells (ownsRow_putObj hown2 (.deferred none) hK2 rfl)
      injection e2 with e3 _ e4
      subst e3
      subst e4
      have hb2 : Below w.heap.size W.drew (W.drew.putObj D (.deferred none)) := (touch_grow (grownBy_putObj' W.drew D (.deferred none))).below (fun k _ e => by injection e with e; omega) hI.below.size
      refine ⟨.tuple #[.slice A (fscanF s p).1.length c, .int .i64 (fscanF s p).2], by simp [results, Try.results14, go_sem], A, c, rfl, hc, hrd2, hI.below.drew.trans hb2⟩
  case stop =>
    rintro D c Pv pre W _ _ h _
    exact h.elim
end Go.Proofs.Ytodllghfcdbbpaa
