/-
  Layer 16, the program's: the frames from a place on, one behind the other, for every loop body that keeps what the iterator holds.
-/
import Derived.Test.YtodllghfcdbbpaaFrmC
import Derived.Test.YtodllghfcdbbpaaFrmT
import Derived.Test.YtodllghfcdbbpaaRng
import Derived.Shelf.Abstract
import Derived.WalkKit
import Derived.OwnWalkIn
import Derived.TacticsInMore
import Derived.LoopNIn
import Derived.LoopIn
namespace Go.Proofs.Ytodllghfcdbbpaa
set_option linter.unusedSimpArgs false
set_option linter.unusedVariables false
open Go.ChangeShapes Go.WideShapes Go.ChangeAt Go.RowKit Go.Joins Go.Deep Go.Shelf
attribute [local go_sem] Oper.semAt_some
def FAt (s : List UInt8) (p : Int) (pre : List Fr) (r : Fr × Int) : Prop :=
  (r.2 ≠ 0 → pre = (fscanF s p).1) ∧ (r.2 = 0 → ∃ q z : Nat, r.1.2.2.1 = (q : Int) ∧ r.1.2.2.2 = (q : Int) + z ∧ 1 ≤ z ∧ q + z ≤ s.length ∧ pre.length ≤ q ∧ 0 ≤ p ∧ p ≤ s.length ∧ ∀ L e, FScan s (q + z) L e → FScan s p.toNat (pre ++ r.1 :: L) e)
theorem fat_at {s : List UInt8} {p : Int} {pre : List Fr} {q : Nat} (hp : 0 ≤ p ∧ p ≤ s.length) (hq : q ≤ s.length) (hl : pre.length ≤ q) (h : ∀ L e, FScan s q L e → FScan s p.toNat (pre ++ L) e) : FAt s p pre (fgetF s (q : Int)) := by
  by_cases hE : (fgR (s.drop q)).2.2.2 ≠ 0
  · rw [fgetF_no hq hE]
    refine ⟨fun _ => ?_, fun h0 => absurd h0 hE⟩
    obtain ⟨m, rfl⟩ : ∃ m : Nat, p = (m : Int) := ⟨p.toNat, by omega⟩
    obtain ⟨e, h1, h2⟩ := fscan_is s m (by omega)
    have h3 := h [] q (.stop q hE)
    rw [List.append_nil, Int.toNat_natCast] at h3
    exact (h3.only h1).1.symm
  · have hE0 : (fgR (s.drop q)).2.2.2 = 0 := Classical.not_not.1 hE
    rw [fgetF_yes hq hE0]
    have hz := fgR_size hE0
    refine ⟨fun h0 => absurd rfl h0, fun _ => ⟨q, (fgR (s.drop q)).2.2.1, rfl, rfl, by omega, by omega, hl, hp.1, hp.2, fun L e hL => h _ e (.more q L e hE0 hL)⟩⟩
theorem fat_start (s : List UInt8) (p : Int) : FAt s p [] (fgetF s p) := by
  by_cases hp : 0 ≤ p ∧ p ≤ s.length
  · obtain ⟨m, rfl⟩ : ∃ m : Nat, p = (m : Int) := ⟨p.toNat, by omega⟩
    refine fat_at hp (by omega) (Nat.zero_le _) fun L e h => ?_
    rwa [Int.toNat_natCast]
  · rw [show fgetF s p = (fnone, 2) from if_neg hp]
    exact ⟨fun _ => by rw [show fscanF s p = ([], p) from if_neg hp], fun h0 => by cases h0⟩
theorem fat_next {s : List UInt8} {p : Int} {pre : List Fr} {f : Fr} (h : FAt s p pre (f, 0)) : FAt s p (pre ++ [f]) (fgetF s f.2.2.2) := by
  obtain ⟨q, z, h1, h2, h3, h4, h5, h6, h7, h8⟩ := h.2 rfl
  have e : f.2.2.2 = ((q + z : Nat) : Int) := by show (f, (0 : Int)).1.2.2.2 = _; rw [h2]; omega
  rw [e]
  refine fat_at ⟨h6, h7⟩ h4 (by rw [List.length_append, List.length_singleton]; omega) fun L e hL => ?_
  rw [List.append_assoc]
  exact h8 L e hL
theorem fat_few {s : List UInt8} {p : Int} {pre : List Fr} {f : Fr} (h : FAt s p pre (f, 0)) : pre.length < s.length ∧ 0 ≤ f.2.2.1 ∧ f.2.2.1 < f.2.2.2 ∧ f.2.2.2 ≤ s.length := by
  obtain ⟨q, z, h1, h2, h3, h4, h5, _⟩ := h.2 rfl
  have e1 : f.2.2.1 = (q : Int) := h1
  have e2 : f.2.2.2 = (q : Int) + z := h2
  omega
def fto (g : Nat) (wr : World) : Nat := match wr.cell? ⟨g, 3, none⟩ with
  | some (.int _ x) => x.toNat
  | _ => 0
theorem fto_is {g : Nat} {wr : World} {x : Int} {a b c : Value} (h : Blk wr g 31 #[a, b, c, .int .i64 x]) : fto g wr = x.toNat := by
  unfold fto
  rw [h.cell 3]
  rfl
def fmu (e : Int) (n t : Nat) : Nat := if e = 0 then n + 2 - t else 0
theorem fmu_lt {e : Int} {n : Nat} {x y : Int} (hy : y ≤ n) (h0 : 0 ≤ y) (h : e = 0 → y < x ∧ x ≤ n) : fmu e n x.toNat < fmu 0 n y.toNat := by
  unfold fmu
  rw [if_pos rfl]
  by_cases he : e = 0
  · have := h he
    rw [if_pos he]
    omega
  · rw [if_neg he]
    omega
theorem fgetF_pl (s : List UInt8) (p : Int) : (fgetF s p).2 = 0 → (fgetF s p).1.2.2.1 = p := by
  unfold fgetF
  by_cases h : 0 ≤ p ∧ p ≤ s.length
  · rw [if_pos h]
    by_cases hE : (fgR (s.drop p.toNat)).2.2.2 ≠ 0
    · rw [if_pos hE]
      exact fun h => absurd h hE
    · rw [if_neg hE]
      exact fun _ => rfl
  · rw [if_neg h]
    intro h
    cases h
theorem fstored_blk {W : World} {g : Nat} {x0 x1 x2 x3 : Value} (h : Blk W g 31 #[x0, x1, x2, x3]) (a b c d : Value) : Blk ((((W.setCell ⟨g, 0, none⟩ a).setCell ⟨g, 1, none⟩ b).setCell ⟨g, 2, none⟩ c).setCell ⟨g, 3, none⟩ d) g 31 #[a, b, c, d] :=
  (((h.set_ 0 a).set_ 1 b).set_ 2 c).set_ 3 d
def FKp (sb ab : Nat) (Pv : Nat → Prop) (A B : World) : Prop := A.heap.size ≤ B.heap.size ∧ ∀ g t cs, (Pv g ∨ g = sb ∨ g = ab) → Blk A g t cs → Blk B g t cs
theorem FKp.trans {sb ab : Nat} {Pv : Nat → Prop} {A B C : World} (h : FKp sb ab Pv A B) (k : FKp sb ab Pv B C) : FKp sb ab Pv A C := ⟨Nat.le_trans h.1 k.1, fun g t cs hg hB => k.2 g t cs hg (h.2 g t cs hg hB)⟩
theorem fkp_put {sb ab : Nat} (Pv : Nat → Prop) (W : World) (l : Nat) (o o' : Obj) (hl : W.heap[l]? = some o) (ho : o.isCells = false) : FKp sb ab Pv W (W.putObj l o') :=
  ⟨by simp, fun g t cs _ hB => (World.putObj_heap_other (fun e => by subst e; rw [show W.heap[g]? = _ from hB] at hl; injection hl with hl; subst hl; cases ho)).trans hB⟩
abbrev fag (f : Fr) : Value := .agg #[.int .i64 f.1, .string ⟨f.2.1.toArray⟩, .int .i64 f.2.2.1, .int .i64 f.2.2.2]
abbrev fbl (f : Fr) : Array Value := #[.int .i64 f.1, .string ⟨f.2.1.toArray⟩, .int .i64 f.2.2.1, .int .i64 f.2.2.2]
set_option maxRecDepth 100000 in
set_option maxHeartbeats 4000000 in
theorem frames1_in {n : Nat} (hn : 1 ≤ n) (l sb ab : Nat) (s : List UInt8) (p : Int) (hs : s.length ≤ 1000000) (J Jx : (Nat → Prop) → List Fr → World → Prop) (W : World)
    (hJ : ∀ Pv pre A B, J Pv pre A → Touch A B Pv → J Pv pre B) (hJx : ∀ Pv pre A B, Jx Pv pre A → Touch A B Pv → Jx Pv pre B)
    (h0 : ∀ Pv A, Below W.heap.size W A → (∀ b, Pv b → W.heap.size ≤ b ∧ b < A.heap.size) → J Pv [] A)
    (hY : ∀ Pv pre x A, J Pv pre A → pre.length < s.length → YieldAt Fence.wide (n - 1) Try.prog l #[fag x] A fun e B =>
      (e = .returned (.bool true) ∧ J Pv (pre ++ [x]) B ∧ FKp sb ab Pv A B) ∨ (e = .returned (.bool false) ∧ Jx Pv (pre ++ [x]) B))
    (hsb : Blk W sb 9 #[.string ⟨s.toArray⟩]) (hab : Blk W ab 3 #[.int .i64 p]) :
    CallsIn Fence.wide n Try.prog 35 #[.func (.yield l) #[] #[], .pointer (some ⟨sb, 0, none⟩), .pointer (some ⟨ab, 0, none⟩)] W fun e W' => (∃ v, e = .returned v) ∧
      ((∃ Pv ys, ys = (fscanF s p).1 ∧ J Pv ys W') ∨ (∃ Pv pre, True ∧ Jx Pv pre W')) := by
  have ht := Lib.hid fun W => table_any W
  have hg := Lib.hid fun q W => p_fget0_any s q W hs
  have hu := Try.underlying49
  have hi := Lib.hid (hi_tab (tab_256 T0_len))
  have hlen := tab_256 T0_len
  obtain ⟨Z, hZl, hz⟩ := zero_tab'
  have Hsz := Lib.hid (size_eq hZl hlen)
  have Hia := Lib.hid (info_arr hlen)
  have Hone := Lib.hid (tab_one T0)
  clear hlen hZl
  generalize tab T0 = C at *
  refine callsIn_of_wp Try.func35 rfl trivial ?_ rfl
  simp only [Try.ntmps35, List.size_toArray, List.length_cons, List.length_nil, Nat.reduceAdd, Nat.reduceSub, Array.replicate_succ, Array.replicate_zero, List.push_toArray, List.append_toArray, List.nil_append, List.cons_append]
  have hs0 : ∀ (X Y : World), Below W.heap.size W X → X.cell? ⟨sb, 0, none⟩ = some (.string ⟨s.toArray⟩) ∧ X.cell? ⟨ab, 0, none⟩ = some (.int .i64 p) := fun X _ hb => ⟨(hb.cell (p := ⟨sb, 0, none⟩) hsb.lt).trans (hsb.cell 0), (hb.cell (p := ⟨ab, 0, none⟩) hab.lt).trans (hab.cell 0)⟩
  have HA0 := Lib.hid (fat_start s p)
  have hg0 := hg.out p
  unfold FGPost at hg0
  replace hg0 := Lib.hid hg0
  obtain ⟨F0, hF0⟩ : ∃ F0, fgetF s p = F0 := ⟨_, rfl⟩
  rw [hF0] at hg0 HA0
  clear hF0
  obtain ⟨⟨k0, b0, a0, t0⟩, e0⟩ := F0
  dsimp only at hg0
  gi_wp2_with (first
    | (refine ⟨trivial, ?_⟩; gi_at_call 20; refine (callsIn_wide.2 (ht.out _)).mono ?_; rintro e w1 ⟨rfl, hb1⟩; have HB1 := Lib.hid hb1; have cs1 := (hs0 _ w1 (hb1.alloc hb1.size (.cells C.toArray 49))).1; have ca1 := (hs0 _ w1 (hb1.alloc hb1.size (.cells C.toArray 49))).2; clear hb1 ht)
    | (refine wpListIn_store_new rfl 49 _ _ rfl _ Z.toArray C.toArray rfl rfl Hia.out Hsz.out Hone.out ?_)
    | (refine wpListIn_load_mid rfl 49 _ rfl _ 0 rfl C _ (range_new _ _ _) hu rfl hi.out ?_)
    | (refine ⟨trivial, ?_⟩; gi_at_call 24; refine (callsIn_wide.2 (hg0.out _)).mono ?_; rintro e w2 ⟨rfl, hb2⟩; have HB2 := Lib.hid hb2; clear hb2 hg0))
  have hsz2 := HB2.out.size
  rw [World.size_alloc] at hsz2
  have hsz1 := HB1.out.size
  obtain ⟨tb, htb⟩ : ∃ tb, w1.heap.size = tb := ⟨_, rfl⟩
  obtain ⟨fb, hfb⟩ : ∃ fb, w2.heap.size = fb := ⟨_, rfl⟩
  obtain ⟨Wn, hWn⟩ : ∃ Wn, w2.alloc (.cells (fbl (k0, b0, a0, t0)) 31) = Wn := ⟨_, rfl⟩
  have HBn : Hid (Below W.heap.size W Wn) := Lib.hid (by
    rw [← hWn]
    exact (((HB1.out.alloc hsz1 _).trans (HB2.out.mono (by rw [World.size_alloc]; omega))).alloc (by omega) _))
  have HI0 : Hid (J (fun b => b = tb ∨ b = fb) [] Wn ∧ Blk Wn tb 49 C.toArray ∧ Blk Wn fb 31 (fbl (k0, b0, a0, t0)) ∧ Blk Wn sb 9 #[.string ⟨s.toArray⟩] ∧ FAt s p [] ((k0, b0, a0, t0), e0)) := Lib.hid ⟨h0 _ Wn HBn.out (fun b hb => by
      rw [← hWn, World.size_alloc]
      rcases hb with rfl | rfl <;> omega), by
      rw [← hWn, ← htb]
      exact (Blk.below (Blk.new w1 49 C.toArray) HB2.out (by rw [World.size_alloc]; omega)).alloc _, by
      rw [← hWn, ← hfb]
      exact Blk.new w2 _ _, hsb.below HBn.out hsb.lt, HA0.out⟩
  have hne : tb ≠ fb := by omega
  clear HB1 HB2 HBn HA0 cs1 ca1 hs0 hab h0 hsb hz Hia Hsz Hone
  unfold fbl at hWn
  dsimp only at hWn
  rw [hWn, htb, hfb]
  clear hWn htb hfb hsz2 hsz1
  have HY := Lib.hid hY
  have HJ := Lib.hid hJ
  clear hY hJ
  gi_loopw [6] (fun ev wr => ∃ (pre : List Fr) (f : Fr) (E : Int), ev = .int .i64 E ∧ Hid (J (fun b => b = tb ∨ b = fb) pre wr ∧ Blk wr tb 49 C.toArray ∧ Blk wr fb 31 (fbl f) ∧ Blk wr sb 9 #[.string ⟨s.toArray⟩] ∧ FAt s p pre (f, E)))
    (fun ev wr => fmu (intOf ev) s.length (fto fb wr))
  case atStart => exact ⟨[], _, e0, rfl, HI0⟩
  case round =>
    obtain ⟨pre, f, E, rfl, HI⟩ := hrel
    have HT := Lib.hid HI.out.2.1
    have HF := Lib.hid HI.out.2.2.1
    have HS := Lib.hid HI.out.2.2.2.1
    have HA := Lib.hid HI.out.2.2.2.2
    by_cases hE : E = 0
    · subst hE
      have hfew := fat_few HA.out
      have Hmu := Lib.hid (fto_is HF.out)
      obtain ⟨fn, tmps, assign, body, hy, hR⟩ := HY.out _ pre f wr HI.out.1 hfew.1
      have HR := Lib.hid hR
      have HN := Lib.hid (fat_next HA.out)
      have Hfew := Lib.hid hfew
      have hg1 := hg.out f.2.2.2
      unfold FGPost at hg1
      have y0 := HF.out.cell 0
      have y1 := HF.out.cell 1
      have y2 := HF.out.cell 2
      have y3 := HF.out.cell 3
      obtain ⟨R1, hR1⟩ : ∃ R1, fgetF s f.2.2.2 = R1 := ⟨_, rfl⟩
      have Hpl := Lib.hid (fgetF_pl s f.2.2.2)
      rw [hR1] at hg1 HN Hpl
      clear hR1
      obtain ⟨⟨k1, b1, a1, t1⟩, e1⟩ := R1
      replace hg1 := Lib.hid hg1
      unfold fbl at y0 y1 y2 y3
      unfold fag at hy
      clear hR hfew
      obtain ⟨fk, fd, fa, ft⟩ := f
      dsimp only at y0 y1 y2 y3 hy
      simp only [List.getElem?_toArray, List.getElem?_cons_zero, List.getElem?_cons_succ] at y0 y1 y2 y3
      gi_wp2
      refine HR.out.mono ?_
      clear HR
      rintro e W3 (⟨rfl, hJ3, hk3⟩ | ⟨rfl, hJx3⟩)
      · have HT3 := Lib.hid (hk3.2 _ _ _ (.inl (.inl rfl)) HT.out)
        have HF3 := Lib.hid (hk3.2 _ _ _ (.inl (.inr rfl)) HF.out)
        have HS3 := Lib.hid (hk3.2 _ _ _ (.inr (.inl rfl)) HS.out)
        have HJ3 := Lib.hid hJ3
        have v0 : W3.cell? ⟨sb, 0, none⟩ = some (.string ⟨s.toArray⟩) := HS3.out.cell 0
        have v3 : W3.cell? ⟨fb, 3, none⟩ = some (.int .i64 ft) := HF3.out.cell 3
        clear hJ3 hk3 y0 y1 y2 y3 HT HF HS HI hy
        gi_wp2_with (first
          | (refine wpListIn_load_mid rfl 49 _ rfl _ 0 rfl C _ (blk_range HT3.out) hu rfl hi.out ?_)
          | (refine ⟨trivial, ?_⟩; gi_at_call 24; refine (callsIn_wide.2 (hg1.out _)).mono ?_; rintro e w4 ⟨rfl, hb4⟩; have HB4 := Lib.hid hb4; have HF4 := Lib.hid (HF3.out.below hb4 HF3.out.lt); have z0 := HF4.out.frozen 0; have z1 := HF4.out.frozen 1; have z2 := HF4.out.frozen 2; have z3 := HF4.out.frozen 3; have y0 : w4.cell? ⟨fb, 0, none⟩ = some (.int .i64 fk) := HF4.out.cell 0; have y1 : w4.cell? ⟨fb, 1, none⟩ = some (.string ⟨fd.toArray⟩) := HF4.out.cell 1; have y2 : w4.cell? ⟨fb, 2, none⟩ = some (.int .i64 fa) := HF4.out.cell 2; have y3 : w4.cell? ⟨fb, 3, none⟩ = some (.int .i64 ft) := HF4.out.cell 3; clear hb4 hg1))
        have HF5 := Lib.hid (fstored_blk HF4.out (.int .i64 k1) (.string ⟨b1.toArray⟩) (.int .i64 a1) (.int .i64 t1))
        have HT4 := HT3.out.below HB4.out HT3.out.lt
        have HS4 := HS3.out.below HB4.out HS3.out.lt
        have hsf : sb ≠ fb := fun e => by
          have h1 := HS3.out
          rw [e] at h1
          have h2 := h1.symm.trans HF3.out
          injection h2 with h2
          injection h2 with _ h2 _
          exact absurd h2 (by decide)
        go_roundw
        case rel => exact ⟨pre ++ [(fk, fd, fa, ft)], (k1, b1, a1, t1), e1, rfl, Lib.hid ⟨HJ.out _ _ _ _ HJ3.out (((((touch_below HB4.out (Nat.le_refl _)).set (p := ⟨fb, 0, none⟩) (.inl (.inr rfl)) _).set (p := ⟨fb, 1, none⟩) (.inl (.inr rfl)) _).set (p := ⟨fb, 2, none⟩) (.inl (.inr rfl)) _).set (p := ⟨fb, 3, none⟩) (.inl (.inr rfl)) _),
          (((HT4.far hne _).far hne _).far hne _).far hne _, HF5.out, (((HS4.far hsf _).far hsf _).far hsf _).far hsf _, HN.out⟩⟩
        case measure =>
          have hm := Hmu.out
          have hf := Hfew.out
          have h5 := fto_is HF5.out
          show fmu e1 _ _ < fmu 0 _ _
          rw [hm, h5]
          refine fmu_lt hf.2.2.2 (by omega) fun he => ?_
          have hf2 := fat_few (he ▸ HN.out)
          have hf3 := Hpl.out he
          dsimp only at hf2 hf3
          omega
      · gi_wp2
        go_end0
        exact ⟨⟨_, rfl⟩, .inr ⟨_, _, trivial, hJx3⟩⟩
    · have hne2 : (E == 0) = false := by simpa using hE
      have hne3 : decide (E = 0) = false := decide_eq_false hE
      have Hd := Lib.hid (HA.out.1 hE)
      have HJ3 := Lib.hid HI.out.1
      gi_wp2
      refine ⟨fun _ h => (by cases h), ?_⟩
      gi_wp2
      go_end0
      exact ⟨⟨_, rfl⟩, .inl ⟨_, _, Hd.out, HJ3.out⟩⟩
end Go.Proofs.Ytodllghfcdbbpaa
