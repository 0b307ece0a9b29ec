/-
  Layer 4: what the document's own Unpack returns, for every argument.
-/
import Derived.Test.YtakkljajoollgaaBitR
import Derived.Test.YtakkljajoollgaaBitQ
namespace Go.Proofs.Ytakkljajoollgaa
set_option linter.unusedSimpArgs false
set_option linter.unusedVariables false
open Go.ChangeShapes Go.WideShapes Go.ChangeAt Go.RowKit Go.Joins Go.Deep

theorem refGet_is {L : List Nat} {A : Option Addr} {n c p : Nat} {width x e : Int} (h : getF L p width = (x, e)) (w : World) (hn : L.length = n) (hl : n ≤ 1099511627776) (hp : p ≤ n) (hr : Reads w w.heap.size 1 A n (bcs L)) (hbin : Bin L) :
    Calls Try.prog 30 #[.slice A n c, .int .i64 p, .int .i64 width] w fun r w' => r = .returned (.tuple #[.int .i64 x, .int .i64 e]) ∧ w = w' := by
  have := refGet_any L A n c p width w hn hl hp hr hbin
  rw [h] at this
  exact this

set_option maxRecDepth 100000 in
set_option maxHeartbeats 2000000 in
theorem refUnpack_any (l : List UInt8) (ws : List Int) (A : Option Addr) (n c : Nat) (w : World) (hl : l.length ≤ 1000000) (hn : ws.length = n) (hn1 : n ≤ 1000) (hr : Reads w w.heap.size 1 A n (ints ws)) (R : List Int × Int × Int) (hR : unpackF (rowOf l) 0 ws = R) :
    Calls Try.prog 11 #[.string ⟨l.toArray⟩, .slice A n c] w fun e w' => ∃ A' c', e = .returned (.tuple #[.slice A' R.1.length c', .int .i64 R.2.1, .int .i64 R.2.2]) ∧ Reads w' w'.heap.size 1 A' R.1.length (ints R.1) ∧ Below w.heap.size w w' := by
  obtain ⟨i0, hi, hz0, hz1, hz2⟩ := info_parts int_info
  have hni : (n : Int) ≤ 1000 := by omega
  have hbits := refBits_any l w (by omega)
  have Hcell : Hid (0 < n → ∃ b off, A = some ⟨b, off, none⟩ ∧ b < w.heap.size ∧ ∀ k, (hk : k < ws.length) → w.cell? ⟨b, off + k, none⟩ = some (.int .i64 ws[k])) := Lib.hid fun h => by
    obtain ⟨b, off, e, hb, hc⟩ := hr.2 h
    exact ⟨b, off, e, hb, fun k hk => hc k _ (ints_get ws k hk)⟩
  have Hn := Lib.hid hn
  have Hl := Lib.hid hl
  have Hrl := Lib.hid (row_length l)
  have Hbin := Lib.hid (row_bin l)
  have HR : Hid (glueU [] (unpackF (rowOf l) 0 ws) = R) := Lib.hid (by rw [glueU_nil]; exact hR)
  have hN : 8 * l.length ≤ 8000000 := by omega
  clear hn hr hl hR
  generalize rowOf l = L at *
  generalize 8 * l.length = N at *
  have Hbits := Lib.hid hbits
  have HN := Lib.hid hN
  clear hbits hN
  go_enter Try.func11, Try.ntmps11
  go_wp2_with (go_at_call 29; refine Hbits.out.mono ?_; rintro e w0 ⟨AL, cL, rfl, hrL, hb0⟩)
  have Hb0 := Lib.hid hb0
  have HrL := Lib.hid hrL
  clear hb0 hrL Hbits
  go_loopw [8, 9, 10] (fun v q i wr => ∃ (k p : Nat) (acc : List Int), k ≤ n ∧ i = .int .i64 k ∧ q = .int .i64 p ∧ Hid (acc.length = k) ∧ Hid (p ≤ N) ∧ Hid (glueU acc (unpackF L p (ws.drop k)) = R) ∧ Hid (wr.ownsRow w0.heap.size 3 1 v acc.length (ints acc)) ∧ Hid (Below w0.heap.size w0 wr)) (fun _ _ i _ => n - (intOf i).toNat)
  case atStart => exact ⟨0, 0, [], by omega, rfl, rfl, Lib.hid rfl, Lib.hid (by omega), HR.out, Lib.hid (World.ownsRow_nil _ _ _ _), Lib.hid (Below.refl _ _)⟩
  case round =>
    obtain ⟨k, p, acc, hk, rfl, rfl, Hacc, Hp, Hg, Hown, Hb⟩ := hrel
    by_cases hlt : k < n
    · have hkl : k < ws.length := by rw [Hn.out]; exact hlt
      obtain ⟨b, off, rfl, hb, hc⟩ := Hcell.out (by omega)
      have hb0s := Hb0.out.size
      have hszr := Hb.out.size
      have x1 : wr.cell? ⟨b, off + k, none⟩ = some (.int .i64 ws[k]) := (Hb.out.cell (p := ⟨b, off + k, none⟩) (by simp only; omega)).trans ((Hb0.out.cell (p := ⟨b, off + k, none⟩) hb).trans (hc k hkl))
      have hdrop : ws.drop k = ws[k] :: ws.drop (k + 1) := List.drop_eq_getElem_cons hkl
      have hki : 0 ≤ (k : Int) ∧ (k : Int) < n := by omega
      have hg := Hg.out
      rw [hdrop] at hg
      obtain ⟨nv, e, hq⟩ : ∃ nv e, getF L p ws[k] = (nv, e) := ⟨_, _, rfl⟩
      have hget := fun W hr => refGet_is (A := AL) (c := cL) hq W Hrl.out (by have := HN.out; omega) Hp.out hr Hbin.out
      have HrLr : Hid (Reads wr wr.heap.size 1 AL N (bcs L)) := Lib.hid ((HrL.out.below Hb.out).more hszr)
      by_cases he : e = 0
      · subst he
        rw [glueU_yes hq] at hg
        obtain ⟨W, hW, hW32, hpW, rfl⟩ := getF_ok hq
        rw [hW] at x1 hg hget
        rw [show (p : Int) + (W : Int) = ((p + W : Nat) : Int) from by omega] at hg
        have Hg2 := Lib.hid hg
        have HpW : Hid (p + W ≤ N) := Lib.hid (by rw [← Hrl.out]; exact hpW)
        have Hget := Lib.hid hget
        have hpi : (p : Int) ≤ 8000000 := by have := Hp.out; have := HN.out; omega
        have hWi : (W : Int) ≤ 32 := by omega
        clear hg hc hdrop hq hget hpW hW hkl
        generalize (num ((L.drop p).take W) : Int) = nv at *
        go_wp2_with (first
          | (go_at_call 30; refine (Hget.out _ HrLr.out).mono ?_; rintro e w1 ⟨rfl, rfl⟩)
          | (at_builtin; refine wpList_append_sep _ rfl _ _ 23 rfl w0.heap.size 3 i0 (.int .i64 0) 1 8 Try.underlying23 hi hz0 hz1 hz2 rfl (by decide) _ _ _ rfl (Hown.out.alloc _) _ 1 1 _ _ rfl (reads_new wr 3 #[.int .i64 nv] 1 1 rfl) ?c1 ?c2 ?c3 ?c4 ?_))
        case c1 => exact rfl
        case c2 => have := Hacc.out; unfold maxLen; omega
        case c3 => have := Hacc.out; omega
        case c4 => simp; omega
        intro v2 w2 hown2 hgrow hsep
        have hb2 : Below w0.heap.size w0 w2 := (Hb.out.trans ((Below.refl _ _).alloc hszr _)).grown hgrow (by simp; omega) (fun g hg => (Hown.out.lt g hg).1)
        have hown3 : w2.ownsRow w0.heap.size 3 1 v2 (acc ++ [nv]).length (ints (acc ++ [nv])) := by
          rw [List.length_append]
          simpa [ints] using hown2
        have y1 : w2.cell? ⟨b, off + k, none⟩ = some (.int .i64 W) := by
          have h5 : b ≠ wr.heap.size := by omega
          rw [← x1]
          refine (World.cell?_of_block (hgrow.block b (by simp; omega) (fun e => ?_))).trans (World.cell?_alloc_lt wr _ _ (by simp only; omega))
          have := (Hown.out.lt b e.symm).1
          omega
        have Hb2 := Lib.hid hb2
        have Hown3 := Lib.hid hown3
        clear hb2 hown3 hown2 hgrow hsep x1
        go_wp2
        go_roundw
        case rel => exact ⟨k + 1, p + W, acc ++ [nv], by omega, iv (by omega), iv (by omega), Lib.hid (by rw [List.length_append, Hacc.out]; rfl), HpW.out, Hg2.out, Hown3.out, Hb2.out⟩
        case measure => simp only [intOf]; omega
      · rw [glueU_no hq he] at hg
        have Hget := Lib.hid hget
        have Hfin := Lib.hid hg
        have hen : ¬ e = 0 := he
        obtain ⟨A', c', rfl, _, hr'⟩ := owns_cells Hown.out
        have Hr' := Lib.hid hr'
        clear hg hc hdrop hq hget he hr'
        generalize ws[k] = width at *
        clear hkl
        go_wp2_with (go_at_call 30; refine (Hget.out _ HrLr.out).mono ?_; rintro r w1 ⟨rfl, rfl⟩)
        go_ret3
        refine ⟨A', c', ?_, ?_, Hb0.out.trans (Hb.out.mono Hb0.out.size)⟩
        · rw [← Hfin.out]; rfl
        · rw [← Hfin.out]; exact Hr'.out
    · obtain rfl : k = n := by omega
      have hg := Hg.out
      rw [List.drop_of_length_le (by rw [Hn.out]; omega), glueU_end] at hg
      have Hfin := Lib.hid hg
      obtain ⟨A', c', rfl, _, hr'⟩ := owns_cells Hown.out
      have Hr' := Lib.hid hr'
      clear hg hr'
      go_wp2
      go_ret3
      refine ⟨A', c', ?_, ?_, Hb0.out.trans (Hb.out.mono Hb0.out.size)⟩
      · rw [← Hfin.out]; rfl
      · rw [← Hfin.out]; exact Hr'.out
end Go.Proofs.Ytakkljajoollgaa
