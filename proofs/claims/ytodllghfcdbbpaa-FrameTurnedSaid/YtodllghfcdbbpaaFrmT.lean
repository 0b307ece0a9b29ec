/-
  Layer 16, the document's: Scan of bytes, for all bytes and places (ahead of the code's landing).
-/
import Derived.Test.YtodllghfcdbbpaaFrmS
import Derived.Test.YtodllghfcdbbpaaCrcAw
namespace Go.Proofs.Ytodllghfcdbbpaa
set_option linter.unusedSimpArgs false
set_option linter.unusedVariables false
open Go.ChangeShapes Go.WideShapes Go.ChangeAt Go.RowKit Go.Joins Go.Deep
theorem frm_info : (Try.prog.info? 31).map (fun i => (i.zero, i.size, i.bytes)) = some (some (.agg #[.int .i64 0, .string ⟨#[]⟩, .int .i64 0, .int .i64 0]), 4, 40) := by kernel_rfl
def FSPost (w w' : World) (e : Ending) (F : List Fr × Int) : Prop := ∃ A c, e = .returned (.tuple #[.slice A F.1.length c, .int .i64 F.2]) ∧ F.1.length ≤ c ∧ Reads w' w'.heap.size 4 A F.1.length (fcs F.1) ∧ Below w.heap.size w w'
theorem fgetF_no {s : List UInt8} {q : Nat} (hq : q ≤ s.length) (h : (fgR (s.drop q)).2.2.2 ≠ 0) : fgetF s (q : Int) = (fnone, (fgR (s.drop q)).2.2.2) := by
  unfold fgetF
  rw [if_pos (by omega), Int.toNat_natCast, if_pos h]
theorem fgetF_yes {s : List UInt8} {q : Nat} (hq : q ≤ s.length) (h : (fgR (s.drop q)).2.2.2 = 0) : fgetF s (q : Int) = ((((fgR (s.drop q)).1 : Int), (fgR (s.drop q)).2.1, (q : Int), (q : Int) + (fgR (s.drop q)).2.2.1), 0) := by
  unfold fgetF
  rw [if_pos (by omega), Int.toNat_natCast, if_neg (by omega)]
theorem blk_range {w : World} {g : Nat} {t : TypeId} {C : List Value} (h : Blk w g t C.toArray) : w.rangeAt g 0 C := fun j v hv => by
  rw [Nat.zero_add, h.cell j]
  simpa using hv
structure FInv (w wr : World) (s : List UInt8) (m tb : Nat) (C : List Value) (v : Value) (q : Nat) (acc : List Fr) : Prop where
  own : wr.ownsRow w.heap.size 31 4 v acc.length (fcs acc)
  tab : Blk wr tb 49 C.toArray
  below : Below w.heap.size w wr
  hi : q ≤ s.length
  few : acc.length ≤ q
  rest : ∀ L e, FScan s q L e → FScan s m (acc ++ L) e
theorem fscan_end {w wr : World} {s : List UInt8} {m tb : Nat} {C : List Value} {v : Value} {q : Nat} {acc : List Fr} (h : FInv w wr s m tb C v q acc) (hm : m ≤ s.length) (hE : (fgR (s.drop q)).2.2.2 ≠ 0) : fscanF s (m : Int) = (acc, (q : Int)) := by
  have h1 := h.rest [] q (.stop q hE)
  rw [List.append_nil] at h1
  obtain ⟨e, h2, h3⟩ := fscan_is s m hm
  obtain ⟨rfl, rfl⟩ := h2.only h1
  exact Prod.ext rfl h3
theorem fscan_step {w wr w4 : World} {s : List UInt8} {m tb : Nat} {C : List Value} {v v' : Value} {q : Nat} {acc : List Fr} (h : FInv w wr s m tb C v q acc) (hE : (fgR (s.drop q)).2.2.2 = 0) {w1 : World} (hb1 : Below wr.heap.size wr w1) (hg : ∃ o, (w1.alloc o).grownBy w4 v.ownBlock) {r : Fr} (hr : r = (((fgR (s.drop q)).1 : Int), (fgR (s.drop q)).2.1, (q : Int), (q : Int) + (fgR (s.drop q)).2.2.1)) {n : Nat} (hn : n = acc.length + 1) (ho : w4.ownsRow w.heap.size 31 4 v' n (fcs acc ++ [.int .i64 r.1, .string ⟨r.2.1.toArray⟩, .int .i64 r.2.2.1, .int .i64 r.2.2.2])) : FInv w w4 s m tb C v' (q + (fgR (s.drop q)).2.2.1) (acc ++ [r]) := by
  obtain ⟨o, hg⟩ := hg
  have hz := fgR_size hE
  have hB1 : Below w.heap.size w w1 := h.below.trans (hb1.mono h.below.size)
  have ht := (h.tab.below hb1 h.tab.lt).alloc o
  have hown1 := (owns_below h.own hb1 (Nat.le_refl _)).alloc o
  refine ⟨?_, Blk.grow' ht hg (owns_apart hown1 ht (by decide)), (hB1.alloc hB1.size o).grown hg (by rw [World.size_alloc]; have := hB1.size; omega) (fun b hb => (hown1.lt b hb).1), by omega, ?_, ?_⟩
  · rw [List.length_append, fcs_app]
    rw [hn] at ho
    exact ho
  · rw [List.length_append, List.length_singleton]
    have := h.few
    omega
  · intro L e hL
    have := h.rest _ _ (.more q L e hE hL)
    rw [List.append_assoc, hr]
    exact this
set_option maxRecDepth 100000 in
set_option maxHeartbeats 4000000 in
theorem fref_scan_any (s : List UInt8) (p : Int) (w : World) (hs : s.length ≤ 1000000) :
    Calls Try.prog 15 #[.string ⟨s.toArray⟩, .int .i64 p] w fun e w' => FSPost w w' e (fscanF s p) := by
  obtain ⟨i0, hi0, hz0, hz1, hz9⟩ := info_parts frm_info
  have ht := Lib.hid fun W => refTable_any W
  have hg := fun q W => fref_get0_any s q W hs
  unfold FGPost at hg
  have hu := Try.underlying49
  have hi := Lib.hid (hi_tab (tab_256 T0_len))
  by_cases hp : 0 ≤ p ∧ p ≤ s.length
  · obtain ⟨m, rfl⟩ : ∃ m : Nat, p = (m : Int) := ⟨p.toNat, by omega⟩
    have hm : m ≤ s.length := by omega
    have Hs := Lib.hid hs
    have Hm := Lib.hid hm
    have Hend := Lib.hid fun wr tb C v q acc h hE => fscan_end (w := w) (wr := wr) (m := m) (tb := tb) (C := C) (v := v) (q := q) (acc := acc) (s := s) h hm hE
    generalize fscanF s (m : Int) = R at *
    clear hp hm hs
    have hlen := tab_256 T0_len
    obtain ⟨Z, hZl, hz⟩ := zero_tab'
    have Hsz := Lib.hid (size_eq hZl hlen)
    have Hia := Lib.hid (info_arr hlen)
    have Hone := Lib.hid (tab_one T0)
    clear hlen hZl
    generalize tab T0 = C at *
    replace hg := Lib.hid hg
    go_enter Try.func15, Try.ntmps15
    go_wp2_with (first
      | (go_at_call 23; (with_reducible refine (ht.out _).mono ?_); rintro e w1 ⟨rfl, hb1⟩; have HI0 : Hid (FInv w (w1.alloc (.cells C.toArray 49)) s m w1.heap.size C (.slice none 0 0) m []) := Lib.hid ⟨World.ownsRow_nil _ _ _ _, Blk.new w1 _ _, hb1.alloc hb1.size _, Hm.out, Nat.zero_le _, fun L e h => h⟩; clear hb1 ht)
      | (refine wpList_store_new rfl 49 _ _ rfl _ Z.toArray C.toArray rfl rfl Hia.out Hsz.out Hone.out ?_))
    generalize w1.heap.size = tb at *
    clear hz Hsz Hia Hone
    go_loopw [1, 7] (fun av v wr => ∃ (q : Nat) (acc : List Fr), av = .int .i64 (q : Int) ∧ Hid (FInv w wr s m tb C v q acc)) (fun av _ _ => s.length + 1 - (intOf av).toNat)
    case atStart => exact ⟨m, [], rfl, HI0⟩
    case round =>
      obtain ⟨q, acc, rfl, HI⟩ := hrel
      have Hgq := Lib.hid (hg.out (q : Int))
      by_cases hE : (fgR (s.drop q)).2.2.2 ≠ 0
      · have HF := Lib.hid (Hend.out _ _ _ _ _ _ HI.out hE)
        have e1 := fgetF_no HI.out.hi hE
        simp only [e1] at Hgq
        have hne : ((fgR (s.drop q)).2.2.2 != 0) = true := by simpa using hE
        obtain ⟨A, c, hv, hc, hr⟩ := owns_cells HI.out.own
        subst hv
        clear e1 hg Hend HI0
        dsimp only [fnone] at Hgq
        generalize (fgR (s.drop q)).2.2.2 = E at *
        go_wp2_with (first
          | (refine wpList_load_mid rfl 49 _ rfl _ 0 rfl C _ (blk_range HI.out.tab) hu rfl hi.out ?_)
          | (go_at_call 25; (with_reducible refine (Hgq.out _).mono ?_); rintro e w2 ⟨rfl, hb2⟩; have HB2 := Lib.hid (HI.out.below.trans (hb2.mono HI.out.below.size)); have HR2 := Lib.hid ((hr.below hb2).more hb2.size); clear hb2 Hgq hr))
        go_ret2
        rw [HF.out]
        exact ⟨A, c, rfl, hc, (HR2.out.alloc (Nat.le_refl _) _).more (by rw [World.size_alloc]; omega), HB2.out.alloc HB2.out.size _⟩
      · have hE0 : (fgR (s.drop q)).2.2.2 = 0 := Classical.not_not.1 hE
        have e1 := fgetF_yes HI.out.hi hE0
        simp only [e1] at Hgq
        have hz := fgR_size hE0
        have hsl := Hs.out
        have Hst := Lib.hid fun (w4 w1 : World) (v' : Value) (n : Nat) (r : Fr) (hb1 : Below _ _ w1) (hg : ∃ o, (w1.alloc o).grownBy w4 _) hr hn ho => fscan_step (w4 := w4) (v' := v') HI.out hE0 (w1 := w1) hb1 hg (r := r) hr (n := n) hn ho
        have hqi : (q : Int) + ((fgR (s.drop q)).2.2.1 : Int) ≤ (s.length : Int) ∧ (0 : Int) < ((fgR (s.drop q)).2.2.1 : Int) := by omega
        have hfew : (acc.length : Int) ≤ 1000000 := by have := HI.out.few; have := HI.out.hi; omega
        clear e1 hg Hend HI0 hE hE0 hz hsl
        generalize (fgR (s.drop q)).1 = k at *
        generalize (fgR (s.drop q)).2.1 = b at *
        generalize (fgR (s.drop q)).2.2.1 = z at *
        have HO := Lib.hid HI.out.own.lt
        go_wp2_with (first
          | (refine wpList_load_mid rfl 49 _ rfl _ 0 rfl C _ (blk_range HI.out.tab) hu rfl hi.out ?_)
          | (go_at_call 25; (with_reducible refine (Hgq.out _).mono ?_); rintro e w2 ⟨rfl, hb2⟩; have HW2 := Lib.hid hb2; have HO2 := Lib.hid (owns_below HI.out.own hb2 (Nat.le_refl _)); clear hb2 Hgq)
          | (refine wpList_append_own _ rfl _ _ 36 rfl w.heap.size 31 i0 (.agg #[.int .i64 0, .string ⟨#[]⟩, .int .i64 0, .int .i64 0]) 4 40 Try.underlying36 hi0 hz0 hz1 hz9 rfl (by decide) _ _ _ rfl ((HO2.out.alloc _).alloc _) ⟨w2.heap.size + 1, 0, none⟩ 1 1 [.int .i64 (k : Int), .string ⟨b.toArray⟩, .int .i64 (q : Int), .int .i64 ((q : Int) + (z : Int))] rfl rfl ?c1 ?c2 ?c3 ?c4 ?c5 ?_))
        case c1 =>
          intro j u hj
          match j, hj with
          | 0, hj => simp at hj; subst hj; simp [Addr.add]
          | 1, hj => simp at hj; subst hj; simp [Addr.add]
          | 2, hj => simp at hj; subst hj; simp [Addr.add]
          | 3, hj => simp at hj; subst hj; simp [Addr.add]
        case c2 =>
          intro u hu
          simp at hu
          rcases hu with rfl | rfl | rfl | rfl <;> rfl
        case c3 => unfold maxLen; omega
        case c4 => omega
        case c5 =>
          have h4 := HW2.out.size
          have h5 := HI.out.below.size
          simp only [World.size_alloc]
          omega
        · intro v' w4 hown' hgrow _
          have HI2 : Hid (FInv w w4 s m tb C v' (q + z) (acc ++ [((k : Int), b, (q : Int), (q : Int) + (z : Int))])) := Lib.hid (Hst.out w4 (w2.alloc (.cells #[.int .i64 (k : Int), .string ⟨b.toArray⟩, .int .i64 (q : Int), .int .i64 ((q : Int) + (z : Int))] 31)) v' _ _ (HW2.out.alloc HW2.out.size _) ⟨_, hgrow⟩ rfl rfl hown')
          have hX := (Blk.new w2 31 #[.int .i64 (k : Int), .string ⟨b.toArray⟩, .int .i64 (q : Int), .int .i64 ((q : Int) + (z : Int))]).alloc (.cells #[.int .i64 (k : Int), .string ⟨b.toArray⟩, .int .i64 (q : Int), .int .i64 ((q : Int) + (z : Int))] 31)
          have hX2 := Blk.grow' hX hgrow (fun e => by have := (HO.out _ e).2; have := HW2.out.size; omega)
          have x3 : w4.cell? ⟨w2.heap.size, 3, none⟩ = some (.int .i64 ((q : Int) + (z : Int))) := hX2.cell 3
          clear hown' hgrow hX hX2 Hst
          go_wp2
          go_roundw
          case rel => exact ⟨q + z, _, iv (by omega), HI2⟩
          case measure => simp only [intOf]; omega
  · have HF : Hid (fscanF s p = ([], p)) := Lib.hid (if_neg hp)
    have hlen := tab_256 T0_len
    obtain ⟨Z, hZl, hz⟩ := zero_tab'
    have Hsz := Lib.hid (size_eq hZl hlen)
    have Hia := Lib.hid (info_arr hlen)
    have Hone := Lib.hid (tab_one T0)
    have e1 : fgetF s p = (fnone, 2) := if_neg hp
    replace hg := hg p
    simp only [e1] at hg
    dsimp only [fnone] at hg
    clear hlen hZl e1 hp
    generalize tab T0 = C at *
    generalize fscanF s p = R at *
    replace hg := Lib.hid hg
    go_enter Try.func15, Try.ntmps15
    go_wp2_with (first
      | (go_at_call 23; (with_reducible refine (ht.out _).mono ?_); rintro e w1 ⟨rfl, hb1⟩; have HT : Hid (Blk (w1.alloc (.cells C.toArray 49)) w1.heap.size 49 C.toArray ∧ Below w.heap.size w (w1.alloc (.cells C.toArray 49))) := Lib.hid ⟨Blk.new w1 _ _, hb1.alloc hb1.size _⟩; clear hb1 ht)
      | (refine wpList_store_new rfl 49 _ _ rfl _ Z.toArray C.toArray rfl rfl Hia.out Hsz.out Hone.out ?_))
    generalize w1.heap.size = tb at *
    clear hz Hsz Hia Hone
    go_loopw [1, 7] (fun av v wr => av = .int .i64 p ∧ v = .slice none 0 0 ∧ Hid (Blk wr tb 49 C.toArray ∧ Below w.heap.size w wr)) (fun _ _ _ => 0)
    case atStart => exact ⟨rfl, rfl, HT⟩
    case round =>
      obtain ⟨rfl, rfl, HI⟩ := hrel
      go_wp2_with (first
        | (refine wpList_load_mid rfl 49 _ rfl _ 0 rfl C _ (blk_range HI.out.1) hu rfl hi.out ?_)
        | (go_at_call 25; (with_reducible refine (hg.out _).mono ?_); rintro e w2 ⟨rfl, hb2⟩; have HB2 := Lib.hid (HI.out.2.trans (hb2.mono HI.out.2.size)); clear hb2 hg))
      go_ret2
      rw [HF.out]
      exact ⟨none, 0, rfl, Nat.le_refl _, Reads.none_, HB2.out.alloc HB2.out.size _⟩
end Go.Proofs.Ytodllghfcdbbpaa
