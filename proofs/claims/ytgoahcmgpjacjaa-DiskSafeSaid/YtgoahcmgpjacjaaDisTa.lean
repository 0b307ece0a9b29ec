/-
  Layer 20: the law's all, over the contracts (ahead of the code's landing).
-/
import Derived.Test.YtgoahcmgpjacjaaDisX
import Derived.Test.YtgoahcmgpjacjaaDisTa0
namespace Go.Proofs.Ytgoahcmgpjacjaa
set_option linter.unusedSimpArgs false
set_option linter.unusedVariables false
open Go.ChangeShapes Go.WideShapes Go.ChangeAt Go.RowKit Go.Joins Go.Deep
def DTwo (w w' : World) (e : Ending) (l m : List (List UInt8)) : Prop := ∃ A c A2 c2, e = .returned (.tuple #[.slice A l.length c, .slice A2 m.length c2]) ∧ Reads w' w'.heap.size 1 A l.length (dcs sfc l) ∧ Reads w' w'.heap.size 1 A2 m.length (dcs sfc m) ∧
  (0 < l.length → ∃ b off, A = some ⟨b, off, none⟩ ∧ w.heap.size ≤ b) ∧ (0 < m.length → ∃ b off, A2 = some ⟨b, off, none⟩ ∧ w.heap.size ≤ b) ∧ Below w.heap.size w w'
set_option maxRecDepth 100000 in
set_option maxHeartbeats 4000000 in
theorem law_all_any {D : Dk} {S : Nat → Prop} {g : Nat} (w : World) (h : DR w S g D) (hD : DSm 1000 D) :
    Calls Try.prog 13 #[.pointer (some ⟨g, 0, none⟩)] w fun e w' => DTwo w w' e (dlistF D) (dtextsF D) := by
  have hlen : (dlistF D).length ≤ 1000 := by
    have := hD.dir
    unfold dlistF
    split
    · simp
    · rw [List.length_map]; omega
  have HL1 := Lib.hid (p_dlist_any w h hD)
  have HRd : Hid (∀ W, Below w.heap.size w W → ∀ j (hj : j < (dlistF D).length), Calls Try.prog 16 #[.pointer (some ⟨g, 0, none⟩), .string ⟨(dlistF D)[j].toArray⟩] W fun e w' => e = .returned (.tuple #[.string ⟨(dreadF D (dlistF D)[j]).1.toArray⟩, .int .i64 (dreadF D (dlistF D)[j]).2]) ∧ Below W.heap.size W w') :=
    Lib.hid fun W hb j hj => p_dread_any W (h.keep fun k hk => hb.block k (h.lt k hk)) hD _ (h.listed hD _ (List.getElem_mem hj))
  unfold dtextsF
  obtain ⟨i0, hi, hz0, hz1, hz9⟩ := info_parts str_info
  clear h hD
  generalize dlistF D = L at *
  obtain ⟨rd, hrd⟩ : ∃ rd : List UInt8 → List UInt8 × Int, ∀ s, dreadF D s = rd s := ⟨_, fun _ => rfl⟩
  simp only [hrd] at HRd ⊢
  clear hrd
  go_enter Try.func13, Try.ntmps13
  go_wp2_with (first | (go_at_call 10; (with_reducible refine HL1.out.mono ?_); rintro e w1 ⟨A, c, rfl, hc1, hr1, hn1, hb1⟩; have HB1 := Lib.hid hb1; have HR1 := Lib.hid hr1; have HN1 := Lib.hid hn1; clear hb1 hr1 hn1 HL1) | fail)
  have H0 : Hid (DOwn 9 sfc 1 w1 w1 (.slice none 0 0) ((L.take 0).map fun s => (rd s).1)) := Lib.hid ⟨World.ownsRow_nil _ _ _ _, Below.refl _ _⟩
  have HC : Hid (0 < L.length → ∃ b off, A = some ⟨b, off, none⟩ ∧ b < w1.heap.size ∧ ∀ i (hi : i < L.length), w1.cell? ⟨b, off + i, none⟩ = some (.string ⟨L[i].toArray⟩)) := Lib.hid fun h => txt_cells HR1.out rfl h
  obtain ⟨n, hn⟩ : ∃ n, L.length = n := ⟨_, rfl⟩
  have HL := Lib.hid hn
  rw [hn] at hlen
  simp only [hn]
  clear hn
  go_loopw [5, 6, 7, 8] (fun ov iv _ _ wr => ∃ k : Nat, k ≤ n ∧ iv = .int .i64 (k : Int) ∧ Hid (DOwn 9 sfc 1 w1 wr ov ((L.take k).map fun s => (rd s).1))) (fun _ iv _ _ _ => n - (intOf iv).toNat)
  case atStart => exact ⟨0, by omega, rfl, H0⟩
  case round =>
    obtain ⟨k, hk, rfl, HI⟩ := hrel
    by_cases hlt : k < n
    · have hkl : k < L.length := by have := HL.out; omega
      obtain ⟨b, off, rfl, hb, hcell⟩ := HC.out (by omega)
      have y0 := (HI.out.below.cell (p := ⟨b, off + k, none⟩) hb).trans (hcell k hkl)
      have hki : (0 : Int) ≤ (k : Int) ∧ (k : Int) < (n : Int) := by omega
      have hnx : Hid ((L.take (k + 1)).map (fun s => (rd s).1) = (L.take k).map (fun s => (rd s).1) ++ [(rd L[k]).1]) := Lib.hid (by rw [List.take_succ_eq_append_getElem hkl, List.map_append]; rfl)
      have hlen2 : ((L.take k).map fun s => (rd s).1).length ≤ 1000 := by rw [List.length_map, List.length_take]; omega
      have hrd := HRd.out wr (HB1.out.trans (HI.out.below.mono HB1.out.size)) k hkl
      clear hcell HC
      generalize rd L[k] = p at *
      obtain ⟨x, e2⟩ := p
      dsimp only at hrd hnx
      generalize L[k] = y at *
      generalize (L.take k).map (fun s => (rd s).1) = M at *
      have Hrd := Lib.hid hrd
      clear hrd
      go_wp2_with (first | (go_at_call 16; (with_reducible refine Hrd.out.mono ?_); rintro e w2 ⟨rfl, hb2⟩; have HI2 := Lib.hid (HI.out.on hb2); clear hb2 Hrd) | (refine wpList_append_own _ rfl _ _ 24 rfl w1.heap.size 9 i0 (.string ⟨#[]⟩) 1 16 Try.underlying24 hi hz0 hz1 hz9 rfl (by decide) _ _ _ rfl (HI2.out.own.alloc _) ⟨w2.heap.size, 0, none⟩ 1 1 [.string ⟨x.toArray⟩] rfl rfl ?c1 ?c2 ?c3 ?c4 ?c5 ?_))
      case c1 =>
        intro j u hj
        match j, hj with
        | 0, hj => simp at hj; subst hj; simp [Addr.add]
      case c2 =>
        intro u hu
        simp at hu
        subst hu
        rfl
      case c3 => unfold maxLen; omega
      case c4 => omega
      case c5 => have := HI2.out.below.size; simp only [World.size_alloc]; omega
      · intro v' w3 hown' hgrow _
        have HI3 : Hid (DOwn 9 sfc 1 w1 w3 v' (M ++ [x])) := Lib.hid ((HI2.out.on ((Below.refl _ _).alloc (Nat.le_refl _) _)).add rfl hown' hgrow)
        clear hown' hgrow
        go_wp2
        go_roundw
        case rel => exact ⟨k + 1, by omega, iv (by omega), Lib.hid (by rw [hnx.out]; exact HI3.out)⟩
        case measure => simp only [intOf]; omega
    · obtain rfl : k = n := by omega
      have e : L.take k = L := List.take_of_length_le (by have := HL.out; omega)
      rw [e] at HI
      have hz : ¬ (k : Int) < (k : Int) := by omega
      obtain ⟨A2, c2, hov, hc2, hr2⟩ := owns_cells HI.out.own
      have hnew : 0 < (L.map fun s => (rd s).1).length → ∃ b off, A2 = some ⟨b, off, none⟩ ∧ w.heap.size ≤ b := fun h => by
        have ho := HI.out.own
        rw [hov] at ho
        obtain ⟨b, cur, e1, e2, _⟩ := owns_blk ho h
        exact ⟨b, 0, e1, Nat.le_trans HB1.out.size e2⟩
      have HNew := Lib.hid hnew
      subst hov
      have HR2 := Lib.hid hr2
      have HBw := Lib.hid (HB1.out.trans (HI.out.below.mono HB1.out.size))
      have HR3 := Lib.hid (dReads_on HR1.out HI.out.below)
      have hl2 : (L.map fun s => (rd s).1).length = k := by rw [List.length_map, HL.out]
      rw [hl2]
      clear hr2 hnew HC HRd
      go_wp2
      go_ret2
      refine ⟨A, c, A2, c2, ?_, HR3.out, HR2.out, HN1.out, HNew.out, HBw.out⟩
      rw [HL.out, hl2]
      rfl
end Go.Proofs.Ytgoahcmgpjacjaa
