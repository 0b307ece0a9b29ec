/-
  Layer 20: the law's Few (ahead of the code's landing).
-/
import Derived.Test.YtgoahcmgpjacjaaGreatDisDm
import Derived.Test.YtgoahcmgpjacjaaGreatDisW
namespace Go.Proofs.YtgoahcmgpjacjaaGreat
set_option linter.unusedSimpArgs false
set_option linter.unusedVariables false
open Go.ChangeShapes Go.WideShapes Go.ChangeAt Go.RowKit Go.Joins Go.Deep
theorem act_cells {w : World} {B n : Nat} {A : Option Addr} {l : List Ac} (hr : Reads w B 7 A n (dcs acf l)) (hl : l.length = n) (hn : 0 < n) :
    ∃ b off, A = some ⟨b, off, none⟩ ∧ b < B ∧ ∀ i (hi : i < l.length), ∀ j u, (acf l[i])[j]? = some u → w.cell? ⟨b, off + i * 7 + j, none⟩ = some u := by
  obtain ⟨b, off, e, hb, hc⟩ := hr.2 hn
  refine ⟨b, off, e, hb, fun i hi j u hu => ?_⟩
  have hj : j < 7 := by
    have := (List.getElem?_eq_some_iff.1 hu).1
    rw [acf_len] at this
    exact this
  have := hc (i * 7 + j) u (by rw [dcs_at acf 7 acf_len l i hi j hj]; exact hu)
  rw [← Nat.add_assoc] at this
  exact this
set_option maxRecDepth 100000 in
set_option maxHeartbeats 8000000 in
theorem law_few_any (l : List Ac) (A : Option Addr) (c : Nat) (R : Bool) (w : World) (hl : l.length ≤ maxLen) (hr : Reads w w.heap.size 7 A l.length (dcs acf l)) (hx : ∀ x ∈ l, AcOk w w.heap.size x) (hy : Few20 l → R = true) (hn : ¬ Few20 l → R = false) :
    Calls Tryz.prog 4 #[.slice A l.length c] w fun e w' => e = .returned (.bool R) ∧ w' = w := by
  by_cases h60 : 60 < l.length
  · have hR : Hid (R = false) := Lib.hid (hn fun h => by have := h.1; omega)
    have hi : (60 : Int) < (l.length : Int) := by omega
    clear hr hx hy hn
    go_enter Tryz.func4, Tryz.ntmps4
    go_wp2
    go_ret
    exact ⟨by rw [hR.out]; rfl, rfl⟩
  have hi : ¬ (60 : Int) < (l.length : Int) := by omega
  have HY : Hid ((∀ j (hj : j < l.length), AcFew l[j]) → R = true) := Lib.hid fun h => hy ⟨by omega, fun x hx => by
    obtain ⟨j, hj, rfl⟩ := List.getElem_of_mem hx
    exact h j hj⟩
  have HN : Hid (∀ j (hj : j < l.length), ¬ AcFew l[j] → R = false) := Lib.hid fun j hj h => hn fun hf => h (hf.2 _ (List.getElem_mem hj))
  have HX : Hid (∀ j (hj : j < l.length), AcOk w w.heap.size l[j]) := Lib.hid fun j hj => hx _ (List.getElem_mem hj)
  have HC : Hid (0 < l.length → ∃ b off, A = some ⟨b, off, none⟩ ∧ b < w.heap.size ∧ ∀ i (hi : i < l.length), ∀ j u, (acf l[i])[j]? = some u → w.cell? ⟨b, off + i * 7 + j, none⟩ = some u) := Lib.hid fun h => act_cells hr rfl h
  obtain ⟨n, hln⟩ : ∃ n, l.length = n := ⟨_, rfl⟩
  have HL := Lib.hid hln
  rw [hln] at hi h60 ⊢
  clear hr hx hy hn hl hln
  go_enter Tryz.func4, Tryz.ntmps4
  go_wp2
  go_loopw [3, 4] (fun iv kv wr => ∃ i : Nat, i ≤ n ∧ iv = .int .i64 (i : Int) ∧ Hid (∀ j (hj : j < l.length), j < i → AcFew l[j]) ∧ wr = w) (fun iv _ _ => n - (intOf iv).toNat)
  case atStart => exact ⟨0, by omega, rfl, Lib.hid fun j _ h => absurd h (Nat.not_lt_zero _), rfl⟩
  case round =>
    obtain ⟨i, hin, rfl, HI, hw⟩ := hrel
    subst hw
    by_cases hlt : i < n
    · have hil : i < l.length := by have := HL.out; omega
      obtain ⟨b, off, rfl, hb, hcell⟩ := HC.out (by omega)
      have hc := hcell i hil
      have hok := HX.out i hil
      have hno := HN.out i hil
      have HI2 : Hid (AcFew l[i] → ∀ j (hj : j < l.length), j < i + 1 → AcFew l[j]) := Lib.hid fun h j hj hji => by
        by_cases hjk : j = i
        · subst hjk; exact h
        · exact HI.out j hj (by omega)
      have hii : (0 : Int) ≤ (i : Int) ∧ (i : Int) < (n : Int) := by omega
      generalize l[i] = x at *
      obtain ⟨kind, nn, s, t, dir, cuts, marks, cA, cc, mA, mc⟩ := x
      have c2 := hc 2 _ rfl
      have c3 := hc 3 _ rfl
      have c6 := hc 6 _ rfl
      have hmk := hok.marks
      dsimp only at hmk
      have HCM : Hid (0 < marks.length → ∃ bm om, mA = some ⟨bm, om, none⟩ ∧ ∀ k (hk : k < marks.length), wr.cell? ⟨bm, om + k, none⟩ = some (.string ⟨marks[k].toArray⟩)) := Lib.hid fun h => by
        obtain ⟨bm, om, e, _, hcm⟩ := hmk.2 h
        refine ⟨bm, om, e, fun k hk => hcm k _ ?_⟩
        have := dcs_at sfc 1 sfc_len marks k hk 0 (by omega)
        rw [Nat.mul_one, Nat.add_zero] at this
        rw [this]
        rfl
      unfold AcFew at hno HI2
      dsimp only at hno HI2
      clear hc hcell hok hmk HC HX HN
      dsimp only at c2 c3 c6
      have c7 : wr.cell? ⟨b, off + i * 7 + 4 + 2, none⟩ = some (.slice mA marks.length mc) := c6
      by_cases h1 : 100 < s.length
      · have hR : Hid (R = false) := Lib.hid (hno fun h => by have := h.1; omega)
        have i1 : (100 : Int) < (s.length : Int) := by omega
        clear hno HI2 HCM
        go_wp2
        go_ret
        exact ⟨by rw [hR.out]; rfl, rfl⟩
      have i1 : ¬ (100 : Int) < (s.length : Int) := by omega
      by_cases h2 : 2000 < t.length
      · have hR : Hid (R = false) := Lib.hid (hno fun h => by have := h.2.1; omega)
        have i2 : (2000 : Int) < (t.length : Int) := by omega
        clear hno HI2 HCM
        go_wp2
        go_ret
        exact ⟨by rw [hR.out]; rfl, rfl⟩
      have i2 : ¬ (2000 : Int) < (t.length : Int) := by omega
      by_cases h3 : 100 < marks.length
      · have hR : Hid (R = false) := Lib.hid (hno fun h => by have := h.2.2.1; omega)
        have i3 : (100 : Int) < (marks.length : Int) := by omega
        clear hno HI2 HCM
        go_wp2
        go_ret
        exact ⟨by rw [hR.out]; rfl, rfl⟩
      have i3 : ¬ (100 : Int) < (marks.length : Int) := by omega
      have HNo : Hid (∀ k (hk : k < marks.length), 500 < marks[k].length → R = false) := Lib.hid fun k hk h => hno fun hf => by
        have := hf.2.2.2 _ (List.getElem_mem hk)
        omega
      have HYe : Hid ((∀ k (hk : k < marks.length), marks[k].length ≤ 500) → ∀ j (hj : j < l.length), j < i + 1 → AcFew l[j]) := Lib.hid fun h => HI2.out ⟨by omega, by omega, by omega, fun m hm => by
        obtain ⟨k, hk, rfl⟩ := List.getElem_of_mem hm
        exact h k hk⟩
      clear hno HI2
      obtain ⟨M, hM⟩ : ∃ M, marks.length = M := ⟨_, rfl⟩
      have HM := Lib.hid hM
      rw [hM] at c6 c7 i3 h3
      clear hM
      go_wp2
      go_loopw [4] (fun kv w2 => ∃ k : Nat, k ≤ M ∧ kv = .int .i64 (k : Int) ∧ Hid (∀ j (hj : j < marks.length), j < k → marks[j].length ≤ 500) ∧ w2 = wr) (fun kv _ => M - (intOf kv).toNat)
      case atStart => exact ⟨0, by omega, rfl, Lib.hid fun j _ h => absurd h (Nat.not_lt_zero _), rfl⟩
      case round =>
        obtain ⟨k, hkm, rfl, HK, hw2⟩ := hrel
        subst hw2
        by_cases hkt : k < M
        · have hkl : k < marks.length := by have := HM.out; omega
          obtain ⟨bm, om, rfl, hcm⟩ := HCM.out (by omega)
          have cm := hcm k hkl
          have hnk := HNo.out k hkl
          have hki : (0 : Int) ≤ (k : Int) ∧ (k : Int) < (M : Int) := by omega
          have HK2 : Hid (marks[k].length ≤ 500 → ∀ j (hj : j < marks.length), j < k + 1 → marks[j].length ≤ 500) := Lib.hid fun h j hj hji => by
            by_cases hjk : j = k
            · subst hjk; exact h
            · exact HK.out j hj (by omega)
          clear hcm HCM HNo
          generalize marks[k] = m at *
          by_cases h5 : 500 < m.length
          · have hR : Hid (R = false) := Lib.hid (hnk h5)
            have i5 : (500 : Int) < (m.length : Int) := by omega
            clear hnk HK2
            go_wp2
            go_ret
            exact ⟨by rw [hR.out]; rfl, rfl⟩
          · have i5 : ¬ (500 : Int) < (m.length : Int) := by omega
            have HK3 := Lib.hid (HK2.out (by omega))
            clear hnk HK2
            go_wp2
            go_roundw
            case rel => exact ⟨k + 1, by omega, iv (by omega), HK3, by first | rfl | trivial⟩
            case measure => simp only [intOf]; omega
        · have hz : ¬ (k : Int) < (M : Int) := by omega
          have HI3 := Lib.hid (HYe.out fun j hj => HK.out j hj (by have := HM.out; omega))
          clear HCM HNo HYe
          go_wp2
          go_roundw
          case rel => exact ⟨i + 1, by omega, iv (by omega), HI3, by first | rfl | trivial⟩
          case measure => simp only [intOf]; omega
    · have hz : ¬ (i : Int) < (n : Int) := by omega
      have hR : Hid (R = true) := Lib.hid (HY.out fun j hj => HI.out j hj (by have := HL.out; omega))
      clear HC HX HN HY
      go_wp2
      go_ret
      exact ⟨by rw [hR.out]; rfl, rfl⟩
end Go.Proofs.YtgoahcmgpjacjaaGreat
