/-
  Layer 15, the document's: Split of bytes into records, for all bytes (ahead of the code's landing).
-/
import Derived.Test.YtckengcphaaohaaRecS
import Derived.Test.YtckengcphaaohaaRecT
namespace Go.Proofs.Ytckengcphaaohaa
set_option linter.unusedSimpArgs false
set_option linter.unusedVariables false
open Go.ChangeShapes Go.WideShapes Go.ChangeAt Go.RowKit Go.Joins Go.Deep
theorem rec_info : (Try.prog.info? 23).map (fun i => (i.zero, i.size, i.bytes)) = some (some (.agg #[.int .i64 0, .int .i64 0, .string ⟨#[]⟩]), 3, 32) := by kernel_rfl
def RSPost (w w' : World) (e : Ending) (F : List Rc × Int) : Prop := ∃ A c, e = .returned (.tuple #[.slice A F.1.length c, .int .i64 F.2]) ∧ F.1.length ≤ c ∧ Reads w' w'.heap.size 3 A F.1.length (rcs F.1) ∧ Below w.heap.size w w'
theorem rspost_none {w w' : World} {E : Int} (hb : Below w.heap.size w w') : RSPost w w' (.returned (.tuple #[.slice none 0 0, .int .i64 E])) ([], E) := ⟨none, 0, rfl, Nat.le_refl _, Reads.none_, hb⟩
theorem rgrown {B n : Nat} {w1 W W' : World} {v : Value} {xs : List Value} {o : Obj} (hb : Below B w1 W) (hB : B ≤ W.heap.size) (h : W.ownsRow B 23 3 v n xs) (hg : (W.alloc o).grownBy W' v.ownBlock) : Below B w1 W' :=
  (hb.alloc hB o).grown hg (by rw [World.size_alloc]; omega) fun b hb => (h.lt b hb).1
theorem rsp_end (s : List UInt8) (f : Nat) (p : Int) (acc : List Rc) (h : ¬ p < s.length) : rsp s f p acc = (acc, 0) := by
  cases f with
  | zero => rfl
  | succ f =>
    unfold rsp
    rw [if_neg h]
theorem rsp_bad (s : List UInt8) (f : Nat) (p : Int) (acc : List Rc) (h : p < s.length) (hf : (s.length : Int) - p ≤ f) (hE : (rgetF s p).2.2 ≠ 0) : rsp s f p acc = ([], (rgetF s p).2.2) := by
  cases f with
  | zero => omega
  | succ f =>
    unfold rsp
    rw [if_pos h, if_pos hE]
theorem rsp_more (s : List UInt8) (f : Nat) (p : Int) (acc : List Rc) (h : p < s.length) (hf : (s.length : Int) - p ≤ f) (hE : (rgetF s p).2.2 = 0) : ∃ f2 : Nat, (s.length : Int) - (rgetF s p).2.1 ≤ f2 ∧ rsp s f p acc = rsp s f2 (rgetF s p).2.1 (acc ++ [(rgetF s p).1]) := by
  have h2 := (rget_ok hE).2.1
  cases f with
  | zero => omega
  | succ f =>
    refine ⟨f, by omega, ?_⟩
    show (if p < s.length then (if (rgetF s p).2.2 ≠ 0 then ([], (rgetF s p).2.2) else rsp s f (rgetF s p).2.1 (acc ++ [(rgetF s p).1])) else (acc, 0)) = _
    rw [if_pos h, if_neg (by omega)]
structure RInv (w wr : World) (s : List UInt8) (R0 : List Rc × Int) (v : Value) (p : Int) (acc : List Rc) (f : Nat) : Prop where
  lo : 0 ≤ p
  hi : p ≤ s.length
  few : (acc.length : Int) ≤ p
  fuel : (s.length : Int) - p ≤ f
  rest : rsp s f p acc = R0
  own : wr.ownsRow w.heap.size 23 3 v acc.length (rcs acc)
  below : Below w.heap.size w wr
set_option maxRecDepth 100000 in
set_option maxHeartbeats 4000000 in
theorem rref_split_any (s : List UInt8) (w : World) (hs : s.length ≤ 1000000) :
    Calls Try.prog 20 #[.string ⟨s.toArray⟩] w fun e w' => RSPost w w' e (rsplitF s) := by
  obtain ⟨i0, hi, hz0, hz1, hz9⟩ := info_parts rec_info
  by_cases hbig : 20000 < s.length
  · have fin : rsplitF s = ([], 3) := if_pos hbig
    rw [fin]
    have hsi : (20000 : Int) < (s.length : Int) := by omega
    clear fin hi hz0 hz1 hz9
    go_enter Try.func20, Try.ntmps20
    go_wp2
    go_ret2
    exact rspost_none (Below.refl _ _)
  have hsi : ¬ (20000 : Int) < (s.length : Int) := by omega
  obtain ⟨R0, hR0⟩ : ∃ R0, rsp s s.length 0 [] = R0 := ⟨_, rfl⟩
  have Hbad : Hid (R0.2 ≠ 0 → rsplitF s = ([], R0.2)) := Lib.hid fun h => by unfold rsplitF; rw [if_neg hbig, hR0, if_pos h]
  have Hrow : Hid (R0.2 = 0 → rrowF R0.1 ≠ 0 → rsplitF s = ([], rrowF R0.1)) := Lib.hid fun h h2 => by unfold rsplitF; rw [if_neg hbig, hR0, if_neg (by omega), if_pos h2]
  have Hok : Hid (R0.2 = 0 → rrowF R0.1 = 0 → rsplitF s = (R0.1, 0)) := Lib.hid fun h h2 => by unfold rsplitF; rw [if_neg hbig, hR0, if_neg (by omega), if_neg (by omega)]
  have HI0 : Hid (RInv w w s R0 (.slice none 0 0) 0 [] s.length) := Lib.hid ⟨Int.le_refl _, by omega, by simp, by omega, hR0, World.ownsRow_nil _ _ _ _, Below.refl _ _⟩
  have Hs := Lib.hid hs
  clear hR0 hs hbig
  go_enter Try.func20, Try.ntmps20
  go_wp2
  go_loopw [4, 5] (fun v i wr => ∃ (p : Int) (acc : List Rc) (f : Nat), i = .int .i64 p ∧ Hid (RInv w wr s R0 v p acc f)) (fun _ i _ => ((s.length : Int) - intOf i).toNat)
  case atStart => exact ⟨0, [], s.length, rfl, HI0⟩
  case round =>
    obtain ⟨p, acc, f, rfl, HI⟩ := hrel
    have hpi : 0 ≤ p ∧ p ≤ (s.length : Int) := ⟨HI.out.lo, HI.out.hi⟩
    by_cases hlt : p < (s.length : Int)
    · have hget := fun W => rref_get_any s p W (by have := Hs.out; omega)
      unfold RGPost at hget
      by_cases hE : (rgetF s p).2.2 ≠ 0
      · have h1 := rsp_bad s f p acc hlt HI.out.fuel hE
        rw [HI.out.rest] at h1
        have HF := Lib.hid (Hbad.out (by rw [h1]; exact hE))
        rw [h1] at HF
        have Hget := Lib.hid hget
        have HB := Lib.hid HI.out.below
        clear hget h1 HI HI0 Hbad Hrow Hok
        generalize (rgetF s p).2.2 = E at *
        generalize (rgetF s p).2.1 = q at *
        generalize (rgetF s p).1 = r at *
        go_wp2_with (go_at_call 12; (with_reducible refine (Hget.out _).mono ?_); rintro e w1 ⟨rfl, hb1⟩; have HB1 := Lib.hid (HB.out.trans (hb1.mono HB.out.size)); clear hb1 Hget)
        go_ret2
        rw [HF.out]
        exact rspost_none (HB1.out.alloc HB1.out.size _)
      · have hE0 : (rgetF s p).2.2 = 0 := by omega
        obtain ⟨f2, k1, k2⟩ := rsp_more s f p acc hlt HI.out.fuel hE0
        rw [HI.out.rest] at k2
        have k3 := rget_ok hE0
        rw [hE0] at hget
        have Hget := Lib.hid hget
        have Hk : Hid (0 ≤ (rgetF s p).2.1 ∧ p < (rgetF s p).2.1 ∧ (rgetF s p).2.1 ≤ s.length ∧ (s.length : Int) - (rgetF s p).2.1 ≤ f2 ∧ rsp s f2 (rgetF s p).2.1 (acc ++ [(rgetF s p).1]) = R0) := Lib.hid ⟨by omega, k3.2.1, k3.2.2.1, k1, k2.symm⟩
        have hfew : (acc.length : Int) ≤ 1000000 := by have := HI.out.few; have := Hs.out; omega
        clear hget hE hE0 k1 k2 k3 HI0 Hbad Hrow Hok
        generalize (rgetF s p).2.1 = q at *
        generalize (rgetF s p).1 = r at *
        obtain ⟨x, y, d⟩ := r
        dsimp only at Hget
        go_wp2_with (first
          | (go_at_call 12; (with_reducible refine (Hget.out _).mono ?_); rintro e w1 ⟨rfl, hb1⟩; have HB1 := Lib.hid (HI.out.below.trans (hb1.mono HI.out.below.size)); have HO1 := Lib.hid (owns_below HI.out.own hb1 (Nat.le_refl _)); clear hb1 Hget)
          | (refine wpList_append_own _ rfl _ _ 25 rfl w.heap.size 23 i0 (.agg #[.int .i64 0, .int .i64 0, .string ⟨#[]⟩]) 3 32 Try.underlying25 hi hz0 hz1 hz9 rfl (by decide) _ _ _ rfl ((HO1.out.alloc _).alloc _) ⟨w1.heap.size + 1, 0, none⟩ 1 1 [.int .i64 x, .int .i64 y, .string ⟨d.toArray⟩] rfl rfl ?c1 ?c2 ?c3 ?c4 ?c5 ?_))
        case c1 =>
          intro j u hj
          match j, hj with
          | 0, hj => simp at hj; subst hj; simp [Addr.add]
          | 1, hj => simp at hj; subst hj; simp [Addr.add]
          | 2, hj => simp at hj; subst hj; simp [Addr.add]
        case c2 =>
          intro u hu
          simp at hu
          rcases hu with rfl | rfl | rfl <;> rfl
        case c3 => unfold maxLen; omega
        case c4 => omega
        case c5 =>
          have h4 := HB1.out.size
          simp only [World.size_alloc]
          omega
        · intro v' w2 hown' hgrow _
          have HI2 : Hid (RInv w w2 s R0 v' q (acc ++ [(x, y, d)]) f2) := Lib.hid ⟨Hk.out.1, Hk.out.2.2.1, by rw [List.length_append, List.length_singleton]; have := HI.out.few; have := Hk.out.2.1; omega, Hk.out.2.2.2.1, Hk.out.2.2.2.2, by
            rw [List.length_append, rcs_app]
            exact hown', rgrown (HB1.out.alloc HB1.out.size _) (by rw [World.size_alloc]; have := HB1.out.size; omega) (HO1.out.alloc _) hgrow⟩
          have hqi : p < q ∧ q ≤ (s.length : Int) := ⟨Hk.out.2.1, Hk.out.2.2.1⟩
          clear hown' hgrow
          go_wp2
          go_roundw
          case rel => exact ⟨q, _, f2, rfl, HI2⟩
          case measure => simp only [intOf]; omega
    · have h1 := rsp_end s f p acc (by omega)
      rw [HI.out.rest] at h1
      obtain ⟨A, c, hv, hc, hr⟩ := owns_cells HI.out.own
      have hrow := rref_row_any acc A acc.length c wr rfl (by have := HI.out.few; have := Hs.out; omega) hr
      subst h1
      by_cases hE : rrowF acc ≠ 0
      · have HF := Lib.hid (Hrow.out rfl hE)
        have Hr := Lib.hid hrow
        have HB := Lib.hid HI.out.below
        subst hv
        clear hrow hr HI HI0 Hbad Hrow Hok
        dsimp only at HF hE
        generalize rrowF acc = E at *
        go_wp2_with (go_at_call 22; (with_reducible refine Hr.out.mono ?_); rintro e w1 ⟨rfl, hb1⟩; have HB1 := Lib.hid (HB.out.trans (hb1.mono HB.out.size)); clear hb1 Hr)
        go_ret2
        rw [HF.out]
        exact rspost_none HB1.out
      · have hE0 : rrowF acc = 0 := by omega
        have HF := Lib.hid (Hok.out rfl hE0)
        rw [hE0] at hrow
        have Hr := Lib.hid hrow
        have HB := Lib.hid HI.out.below
        have HRd := Lib.hid hr
        subst hv
        clear hrow hr HI HI0 Hbad Hrow Hok hE hE0
        go_wp2_with (go_at_call 22; (with_reducible refine Hr.out.mono ?_); rintro e w1 ⟨rfl, hb1⟩; have HB1 := Lib.hid (HB.out.trans (hb1.mono HB.out.size)); have HR1 := Lib.hid ((HRd.out.below hb1).more hb1.size); clear hb1 Hr)
        go_ret2
        rw [HF.out]
        exact ⟨A, c, rfl, hc, HR1.out, HB1.out⟩
end Go.Proofs.Ytckengcphaaohaa
