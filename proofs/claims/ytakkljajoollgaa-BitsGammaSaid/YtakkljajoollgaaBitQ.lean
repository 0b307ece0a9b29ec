/-
  Layer 4: what Unpack of package bits does, for every text and widths.
-/
import Derived.Test.YtakkljajoollgaaBitF
namespace Go.Proofs.Ytakkljajoollgaa
set_option linter.unusedSimpArgs false
set_option linter.unusedVariables false
open Go.ChangeShapes Go.WideShapes Go.ChangeAt Go.RowKit Go.Joins Go.Deep

theorem getF_bd {L : List Nat} {p : Nat} {width : Int} : (getF L p width).2 = 0 ∨ (getF L p width).2 = 2 ∨ (getF L p width).2 = 4 := by
  unfold getF
  split
  · exact Or.inr (Or.inl rfl)
  · split
    · exact Or.inr (Or.inr rfl)
    · exact Or.inl rfl

theorem touch_us {w w1 w2 : World} {g lb : Nat} {v v1 : Value} (h : Touch w w1 (US g lb v)) (k : Touch w1 w2 (US g lb v1)) (hs : Sep w v v1) : Touch w w2 (US g lb v) :=
  h.next k fun i hi e => by
    rcases e with e | e | e
    · exact Or.inl e
    · exact Or.inr (Or.inl e)
    · rcases hs i e with e | e
      · exact Or.inr (Or.inr e)
      · omega
theorem sep_trans {w w1 : World} {v v1 v2 : Value} (h : Sep w v v1) (k : Sep w1 v1 v2) (hs : w.heap.size ≤ w1.heap.size) : Sep w v v2 := fun i hi => by
  rcases k i hi with e | e
  · exact h i e
  · exact Or.inr (by omega)

/-- What 'each' answers over the widths. -/
def EachU (w w' : World) (B g gb lb : Nat) (l : List UInt8) (v : Value) (e : Ending) (R : List Int × Int × Int) : Prop :=
  Touch w w' (US g lb v) ∧ e = .returned (.int .i64 R.2.2) ∧ ∃ (v' : Value) (p : Nat), R.2.1 = p ∧ UHold w' B g gb lb l p v' R.1

set_option maxRecDepth 100000 in
set_option maxHeartbeats 2000000 in
theorem eachI_any (l : List UInt8) (ws : List Int) (A : Option Addr) (n c B N0 g gb lb : Nat) (v : Value) (w : World) (hl : l.length ≤ 1099511627776) (hn : ws.length = n) (hn1 : n ≤ 1000) (hr : Reads w N0 1 A n (ints ws)) (hN1 : N0 ≤ g) (hN2 : N0 ≤ B) (hN3 : N0 ≤ lb) (hB : B ≤ w.heap.size)
    (hU : UHold w B g gb lb l 0 v []) (R : List Int × Int × Int) (hR : unpackF (rowOf l) 0 ws = R) :
    Calls Try.prog 27 #[.slice A n c, unpackC gb lb] w fun e w' => EachU w w' B g gb lb l v e R := by
  have hni : (n : Int) ≤ 1000 := by omega
  have Hcell : Hid (0 < n → ∃ b off, A = some ⟨b, off, none⟩ ∧ b < N0 ∧ ∀ k, (hk : k < ws.length) → w.cell? ⟨b, off + k, none⟩ = some (.int .i64 ws[k])) := Lib.hid fun h => by
    obtain ⟨b, off, e, hb, hc⟩ := hr.2 h
    exact ⟨b, off, e, hb, fun k hk => hc k _ (ints_get ws k hk)⟩
  have Hn := Lib.hid hn
  have Hl := Lib.hid hl
  have HB := Lib.hid hB
  have HU := Lib.hid hU
  have HR : Hid (glueU [] (unpackF (rowOf l) 0 ws) = R) := Lib.hid (by rw [glueU_nil]; exact hR)
  have Hvb : Hid (∀ b, b < N0 → ¬ US g lb v b) := Lib.hid fun b hb h => by
    rcases h with h | h | h
    · omega
    · omega
    · have := (hU.own.lt b h).1
      omega
  have hmf : ∀ (fn : Fn) (first cap : Array Value) (w : World), (Instr.makeFunc fn first cap).run Try.prog w = .ok (.func fn first cap) w := fun _ _ _ _ => rfl
  clear hn hr hl hB hU hR
  unfold unpackC
  go_enter Try.func27, Try.ntmps27
  go_wp2
  go_loopw [10] (fun i wr => ∃ (k p : Nat) (acc : List Int) (v' : Value), k ≤ n ∧ i = .int .i64 k ∧ Hid (acc.length = k) ∧ Hid (p ≤ 8 * l.length) ∧ Hid (glueU acc (unpackF (rowOf l) p (ws.drop k)) = R) ∧ Hid (UHold wr B g gb lb l p v' acc) ∧ Hid (Touch w wr (US g lb v)) ∧ Hid (Sep w v v')) (fun i _ => n - (intOf i).toNat)
  case atStart => exact ⟨0, 0, [], v, by omega, rfl, Lib.hid rfl, Lib.hid (by omega), HR.out, HU.out, Lib.hid (Touch.refl _ _), Lib.hid fun k hk => Or.inl hk⟩
  case round =>
    obtain ⟨k, p, acc, v', hk, rfl, Hacc, Hp, Hg, HUr, Ht, Hs⟩ := hrel
    by_cases hlt : k < n
    · have hkl : k < ws.length := by rw [Hn.out]; exact hlt
      obtain ⟨b, off, rfl, hb, hc⟩ := Hcell.out (by omega)
      have y1 := hc k hkl
      have hbw : b < w.heap.size := World.block_lt_of_cell? w _ y1
      have hbk := Ht.out.block b hbw (Hvb.out b hb)
      have x1 : wr.cell? ⟨b, off + k, none⟩ = some (.int .i64 ws[k]) := (World.cell?_of_block (a := ⟨b, off + k, none⟩) hbk).trans y1
      have hdrop : ws.drop k = ws[k] :: ws.drop (k + 1) := List.drop_eq_getElem_cons hkl
      have hki : 0 ≤ (k : Int) ∧ (k : Int) < n := by omega
      have hszr := Ht.out.size
      have hg := Hg.out
      rw [hdrop] at hg
      obtain ⟨nv, e, hq⟩ : ∃ nv e, getF (rowOf l) p ws[k] = (nv, e) := ⟨_, _, rfl⟩
      by_cases he : e = 0
      · subst he
        rw [glueU_yes hq] at hg
        obtain ⟨W, hW, hW32, hpW, rfl⟩ := getF_ok hq
        rw [row_length] at hpW
        have hcl := unpack1_yes l B p W g gb lb v' acc wr Hl.out hpW hW32 (by have := HB.out; omega) (by have := Hacc.out; omega) HUr.out
        rw [hW] at x1 hg
        rw [show (p : Int) + (W : Int) = ((p + W : Nat) : Int) from by omega] at hg
        have Hg2 := Lib.hid hg
        have HpW := Lib.hid hpW
        have Hcl := Lib.hid hcl
        clear hg hc hdrop y1 hq hbk hcl hpW hW hkl
        generalize (num (((rowOf l).drop p).take W) : Int) = nv at *
        go_wp2_with (go_at_call 28; refine Hcl.out.mono ?_; rintro e w1 ⟨rfl, v1, hU1, ht1, hs1⟩; have HU1 := Lib.hid hU1; have Ht1 := Lib.hid ht1; have Hs1 := Lib.hid hs1; clear hU1 ht1 hs1)
        go_roundw
        case rel => exact ⟨k + 1, p + W, acc ++ [nv], v1, by omega, iv (by omega), Lib.hid (by rw [List.length_append, Hacc.out]; rfl), Lib.hid HpW.out, Hg2.out, HU1.out, Lib.hid (touch_us Ht.out Ht1.out Hs.out), Lib.hid (sep_trans Hs.out Hs1.out hszr)⟩
        case measure => simp only [intOf]; omega
      · rw [glueU_no hq he] at hg
        have hcl := unpack1_no l B p g gb lb ws[k] e v' acc wr Hl.out Hp.out (by rw [hq]) he HUr.out
        have Hcl := Lib.hid hcl
        have Hfin := Lib.hid hg
        have hen : ¬ e = 0 := he
        clear hg hc hdrop y1 hq hbk hcl he
        generalize ws[k] = width at *
        clear hkl
        go_wp2_with (go_at_call 28; refine Hcl.out.mono ?_; rintro r w1 ⟨rfl, hb1⟩)
        go_ret
        refine ⟨Ht.out.trans (touch_below hb1 (Nat.le_refl _)), by rw [← Hfin.out]; rfl, v', p, by rw [← Hfin.out], ?_⟩
        rw [← Hfin.out]
        have hu := HUr.out
        exact ⟨Blk.below hu.rd hb1 (Blk.lt hu.rd), hu.gbox.below hb1 hu.gbox.lt, hu.lbox.below hb1 hu.lbox.lt, owns_below hu.own hb1 (Nat.le_refl _)⟩
    · obtain rfl : k = n := by omega
      have hg := Hg.out
      rw [List.drop_of_length_le (by rw [Hn.out]; omega), glueU_end] at hg
      have Hfin := Lib.hid hg
      clear hg
      go_wp2
      go_ret
      refine ⟨Ht.out, by rw [← Hfin.out]; rfl, v', p, by rw [← Hfin.out], ?_⟩
      rw [← Hfin.out]
      exact HUr.out
end Go.Proofs.Ytakkljajoollgaa
