/-
  Layer 2: what the document's own List and Unlist, and its comparison of two lists, return, for every argument.
-/
import Derived.Test.YtpkjlgjnnfmnfaaVarR
import Derived.Test.YtpkjlgjnnfmnfaaVarS
namespace Go.Proofs.Ytpkjlgjnnfmnfaa
set_option linter.unusedSimpArgs false
set_option linter.unusedVariables false
open Go.ChangeShapes Go.WideShapes Go.ChangeAt Go.RowKit Go.Joins Go.Deep

theorem refGet_is {l : List UInt8} {p n t e : Int} (h : getF l p = (n, t, e)) (w : World) (hl : l.length ≤ 4611686018427387904) :
    Calls Try.prog 16 #[.string ⟨l.toArray⟩, .int .i64 p] w fun r w' => r = .returned (.tuple #[.int .i64 n, .int .i64 t, .int .i64 e]) ∧ w = w' := by
  have := refGet_any l p w hl
  rw [h] at this
  exact this

/-- Two lists are the same. -/
theorem same_any (A1 A2 : Option Addr) (n1 n2 c1 c2 : Nat) (xs ys : List Int) (w : World) (h1 : Reads w w.heap.size 1 A1 n1 (ints xs)) (h2 : Reads w w.heap.size 1 A2 n2 (ints ys)) (m1 : n1 ≤ 4611686018427387904) (m2 : n2 ≤ 4611686018427387904) :
    Calls Try.prog 23 #[.slice A1 n1 c1, .slice A2 n2 c2] w fun e w' => e = .returned (.bool (decide (xs = ys))) ∧ Below w.heap.size w w' := by
  have e1 : xs.length = n1 := by have := h1.1; rw [ints_length] at this; omega
  have e2 : ys.length = n2 := by have := h2.1; rw [ints_length] at this; omega
  by_cases hn : n1 = n2
  · have g1 : 0 < n1 → ∃ b off, A1 = some ⟨b, off, none⟩ ∧ b < w.heap.size ∧ ∀ k, (hk : k < xs.length) → w.cell? ⟨b, off + k, none⟩ = some (.int .i64 xs[k]) := by
      intro h
      obtain ⟨b, off, e, hb, hc⟩ := h1.2 h
      exact ⟨b, off, e, hb, fun k hk => hc k _ (ints_get xs k hk)⟩
    have g2 : 0 < n2 → ∃ b off, A2 = some ⟨b, off, none⟩ ∧ b < w.heap.size ∧ ∀ k, (hk : k < ys.length) → w.cell? ⟨b, off + k, none⟩ = some (.int .i64 ys[k]) := by
      intro h
      obtain ⟨b, off, e, hb, hc⟩ := h2.2 h
      exact ⟨b, off, e, hb, fun k hk => hc k _ (ints_get ys k hk)⟩
    subst hn
    have G1 := Lib.hid g1
    have G2 := Lib.hid g2
    have E1 := Lib.hid e1
    have E2 := Lib.hid e2
    clear g1 g2 e1 e2 h1 h2
    generalize hr : decide (xs = ys) = r
    have Hr := Lib.hid hr
    clear hr
    go_enter Try.func23, Try.ntmps23
    go_wp2
    go_loopw [5] (fun i wr => ∃ k : Nat, k ≤ n1 ∧ i = .int .i64 k ∧ Hid (xs.take k = ys.take k) ∧ Hid (Below w.heap.size w wr)) (fun i _ => n1 - (intOf i).toNat)
    case atStart => exact ⟨0, by omega, rfl, rfl, Below.refl _ _⟩
    case round =>
      obtain ⟨k, hk, rfl, Hk, Hb⟩ := hrel
      by_cases hlt : k < n1
      · have k1 : k < xs.length := by have := E1.out; omega
        have k2 : k < ys.length := by have := E2.out; omega
        obtain ⟨b1, o1, rfl, hb1, hc1⟩ := G1.out (by omega)
        obtain ⟨b2, o2, rfl, hb2, hc2⟩ := G2.out (by omega)
        have x1 := (Hb.out.cell (p := ⟨b1, o1 + k, none⟩) hb1).trans (hc1 k k1)
        have x2 := (Hb.out.cell (p := ⟨b2, o2 + k, none⟩) hb2).trans (hc2 k k2)
        have hnext : xs[k] = ys[k] → xs.take (k + 1) = ys.take (k + 1) := fun h => by
          rw [List.take_succ_eq_append_getElem k1, List.take_succ_eq_append_getElem k2, Hk.out, h]
        have hdiff : xs[k] ≠ ys[k] → r = false := fun h => by
          rw [← Hr.out]
          refine decide_eq_false fun e => h ?_
          subst e
          rfl
        have Hnext : Hid (xs[k] = ys[k] → xs.take (k + 1) = ys.take (k + 1)) := Lib.hid hnext
        have Hdiff := Lib.hid hdiff
        clear hnext hdiff hc1 hc2
        generalize xs[k] = x at *
        generalize ys[k] = y at *
        by_cases hxy : x = y
        · subst hxy
          have Hnext2 : Hid (xs.take (k + 1) = ys.take (k + 1)) := Lib.hid (Hnext.out rfl)
          go_wp2
          go_quiet (fail)
          go_wp2
          go_roundw
          case rel => exact ⟨k + 1, by omega, iv (by omega), Hnext2.out, below_drewN Hb.out _⟩
          case measure => simp [intOf]; omega
        · go_wp2
          go_quiet (fail)
          go_wp2
          go_ret
          exact ⟨by rw [Hdiff.out hxy]; rfl, below_drewN Hb.out _⟩
      · obtain rfl : k = n1 := by omega
        have hrt : r = true := by
          rw [← Hr.out]
          have h := Hk.out
          rw [List.take_of_length_le (by have := E1.out; omega), List.take_of_length_le (by have := E2.out; omega)] at h
          simp [h]
        have Hrt := Lib.hid hrt
        clear hrt
        go_wp2
        go_ret
        exact ⟨by rw [Hrt.out]; rfl, Hb.out⟩
  · have hr : decide (xs = ys) = false := decide_eq_false fun e => hn (by rw [← e1, ← e2, e])
    rw [hr]
    clear hr h1 h2 e1 e2
    go_enter Try.func23, Try.ntmps23
    go_wp2
    go_ret
    exact ⟨rfl, by go_grown⟩

set_option maxRecDepth 100000 in
set_option maxHeartbeats 1000000 in
theorem refList_any (A : Option Addr) (n c : Nat) (l : List Int) (w : World) (hn : l.length = n) (hlen : n ≤ 17592186044416) (hr : Reads w w.heap.size 1 A n (ints l)) (hbd : ∀ x ∈ l, x < 9223372036854775808) :
    Calls Try.prog 20 #[.slice A n c] w fun e w' => e = .returned (strInt (listB l) (listE l)) ∧ Below w.heap.size w w' := by
  have hcell : 0 < n → ∃ b off, A = some ⟨b, off, none⟩ ∧ b < w.heap.size ∧ ∀ k, (hk : k < l.length) → w.cell? ⟨b, off + k, none⟩ = some (.int .i64 l[k]) := by
    intro h
    obtain ⟨b, off, e, hb, hc⟩ := hr.2 h
    exact ⟨b, off, e, hb, fun k hk => hc k _ (ints_get l k hk)⟩
  have hput : Calls Try.prog 9 #[.int .i64 n] w fun e w' => e = .returned (.tuple #[.string ⟨(laid l 0).toArray⟩, .int .i64 (putE n)]) ∧ Below w.heap.size w w' := by
    have := refPut_any (n : Int) w (by omega)
    have e : laid l 0 = putB (n : Int) := by unfold laid; rw [← hn]; simp
    rw [e]
    exact this
  have HN := Lib.hid hn
  have HC := Lib.hid hcell
  have HB := Lib.hid hbd
  have Hput := Lib.hid hput
  clear hr hcell hn hbd hput
  go_enter Try.func20, Try.ntmps20
  go_wp2_with (refine Hput.out.mono ?_; rintro e w1 ⟨rfl, hb1⟩)
  go_loopw [4, 6] (fun s i wr => ∃ k : Nat, k ≤ n ∧ i = .int .i64 k ∧ s = .string ⟨(laid l k).toArray⟩ ∧ Hid (∀ j, (h : j < l.length) → j < k → 0 ≤ l[j]) ∧ Hid (Below w.heap.size w wr)) (fun _ i _ => n - (intOf i).toNat)
  case atStart => exact ⟨0, by omega, rfl, rfl, (fun j _ h => by omega), hb1⟩
  case round =>
    obtain ⟨k, hk, rfl, rfl, Hpos, Hb⟩ := hrel
    by_cases hlt : k < n
    · have hkl : k < l.length := by have := HN.out; omega
      obtain ⟨b, off, rfl, hb, hc⟩ := HC.out (by omega)
      have hcell : wr.cell? ⟨b, off + k, none⟩ = some (.int .i64 l[k]) := (Hb.out.cell (p := ⟨b, off + k, none⟩) hb).trans (hc k hkl)
      have hput : Calls Try.prog 9 #[.int .i64 l[k]] wr fun e w' => e = .returned (.tuple #[.string ⟨(putB l[k]).toArray⟩, .int .i64 (putE l[k])]) ∧ Below wr.heap.size wr w' := refPut_any l[k] wr (HB.out _ (List.getElem_mem hkl))
      have Hput2 := Lib.hid hput
      have hsz := Hb.out.size
      have had := add_bytes (laid l k) (putB l[k]) (by have := laid_le l k (by omega); have := putB_le l[k]; omega)
      rw [← laid_succ l k hkl] at had
      clear hput hc HC Hput
      by_cases hneg : l[k] < 0
      · have hany : l.any (fun n => decide (n < 0)) = true := List.any_eq_true.2 ⟨l[k], List.getElem_mem hkl, by simpa using hneg⟩
        have e1 : listB l = [] := by unfold listB; rw [if_pos hany]
        have e2 : listE l = 2 := by unfold listE; rw [if_pos hany]
        have E1 := Lib.hid e1
        have E2 := Lib.hid e2
        have e3 : putE l[k] = 2 := by unfold putE; rw [if_pos hneg]
        rw [e3] at Hput2
        clear e1 e2 e3 hany had
        generalize l[k] = x at *
        go_wp2_with (refine Hput2.out.mono ?_; rintro e w2 ⟨rfl, hb2⟩)
        go_ret2
        exact ⟨by rw [E1.out, E2.out]; rfl, Below.trans Hb.out (hb2.mono (by omega))⟩
      · have e3 : putE l[k] = 0 := by unfold putE; rw [if_neg hneg]
        rw [e3] at Hput2
        have hpos' : Hid (∀ j, (h : j < l.length) → j < k + 1 → 0 ≤ l[j]) := Lib.hid fun j hj hjk => by
          rcases Nat.lt_or_ge j k with h | h
          · exact Hpos.out j hj h
          · obtain rfl : j = k := by omega
            omega
        clear e3 hneg
        generalize l[k] = x at *
        go_wp2_with (refine Hput2.out.mono ?_; rintro e w2 ⟨rfl, hb2⟩)
        have hb2' := Below.trans Hb.out (hb2.mono (by omega))
        go_roundw
        case rel => exact ⟨k + 1, by omega, iv (by omega), rfl, hpos'.out, hb2'⟩
        case measure => simp [intOf]; omega
    · obtain rfl : k = n := by omega
      have hany : l.any (fun n => decide (n < 0)) = false := by
        rw [List.any_eq_false]
        intro x hx
        obtain ⟨j, hj, rfl⟩ := List.getElem_of_mem hx
        have := Hpos.out j hj (by have := HN.out; omega)
        simpa using this
      have e1 : listB l = laid l k := by unfold listB laid; rw [hany, ← HN.out, List.take_length]; simp
      have e2 : listE l = 0 := by unfold listE; rw [hany]; simp
      have E1 := Lib.hid e1
      have E2 := Lib.hid e2
      clear e1 e2 hany HC Hput
      go_wp2
      go_ret2
      exact ⟨by rw [E1.out, E2.out]; rfl, Hb.out⟩

set_option maxRecDepth 100000 in
set_option maxHeartbeats 1000000 in
theorem refUnlist_any (l : List UInt8) (p most : Int) (w : World) (hl : l.length ≤ 17592186044416) (r : List Int × Int × Int) (hr : unlistF l p most = r) :
    Calls Try.prog 22 #[.string ⟨l.toArray⟩, .int .i64 p, .int .i64 most] w fun e w' => ∃ A c, e = .returned (.tuple #[.slice A r.1.length c, .int .i64 r.2.1, .int .i64 r.2.2]) ∧ Reads w' w'.heap.size 1 A r.1.length (ints r.1) ∧ Below w.heap.size w w' := by
  obtain ⟨i0, hi, hz0, hz1, hz2⟩ := info_parts int_info
  obtain ⟨K, t, e, hq⟩ : ∃ K t e, getF l p = (K, t, e) := ⟨_, _, _, rfl⟩
  have hget := refGet_is hq w (by omega)
  by_cases he : e = 0
  · subst he
    obtain ⟨hp0, hpt, htl, hK0, hK1⟩ := getF_good hq
    by_cases hbig : most < K
    · have fin : r = ([], 0, 3) := by rw [← hr]; unfold unlistF; rw [hq]; simp [hbig]
      have Fin := Lib.hid fin
      clear fin hr hq hi hz0 hz1 hz2
      go_enter Try.func22, Try.ntmps22
      go_wp2_with (refine hget.mono ?_; rintro e w1 ⟨rfl, rfl⟩)
      go_ret3
      refine ⟨none, 0, ?_, ?_, by go_grown⟩
      · rw [Fin.out]; rfl
      · rw [Fin.out]; exact Reads.none_
    · obtain ⟨M, hM⟩ := Int.eq_ofNat_of_zero_le hK0
      have start : gets l M t [] = r := by rw [← hr]; unfold unlistF; rw [hq, hM]; rw [hM] at hbig; simp [hbig]
      have Start := Lib.hid start
      have HK := Lib.hid hK1
      have Ht : Hid (0 ≤ t ∧ t ≤ l.length) := Lib.hid ⟨by omega, htl⟩
      have HM : K ≤ most := by omega
      have HKM := Lib.hid hM
      have Hl := Lib.hid hl
      clear start hr hq hK1 hp0 hpt hbig hl hM hK0 htl
      go_enter Try.func22, Try.ntmps22
      go_wp2_with (refine hget.mono ?_; rintro e w1 ⟨rfl, rfl⟩)
      clear hget
      go_loopw [10, 12, 13] (fun s v i wr => ∃ (k : Nat) (q : Int) (acc : List Int), k ≤ M ∧ i = .int .i64 k ∧ s = .int .i64 q ∧ Hid (k ≤ q ∧ q ≤ l.length) ∧ Hid (acc.length = k) ∧ Hid (wr.ownsRow w.heap.size 3 1 v acc.length (ints acc)) ∧ Hid (Below w.heap.size w wr) ∧ Hid (gets l (M - k) q acc = r)) (fun _ _ i _ => M - (intOf i).toNat)
      case atStart => exact ⟨0, t, [], by omega, rfl, rfl, Ht.out, rfl, World.ownsRow_nil _ _ _ _, Below.refl _ _, Start.out⟩
      case round =>
        obtain ⟨k, q, acc, hk, rfl, rfl, Hkq, Hacc, Hown, Hb, Hg⟩ := hrel
        by_cases hlt : k < M
        · obtain ⟨n', t', e', hq'⟩ : ∃ n' t' e', getF l q = (n', t', e') := ⟨_, _, _, rfl⟩
          have hget := refGet_is hq' wr (by have := Hl.out; omega)
          have hstep : gets l (M - k) q acc = if e' = 0 then gets l (M - (k + 1)) t' (acc ++ [n']) else ([], 0, e') := by
            rw [show M - k = (M - (k + 1)) + 1 from by omega, gets, hq']
          have hkK : (k : Int) < K := by have := HKM.out; omega
          have hszr := Hb.out.size
          by_cases he' : e' = 0
          · subst he'
            obtain ⟨hq0, hqt, htl', hn0, hn1⟩ := getF_good hq'
            have Hn : Hid ((k : Int) + 1 ≤ t' ∧ t' ≤ l.length) := Lib.hid ⟨by have := Hkq.out; omega, htl'⟩
            have hbk : Hid (k + 1 ≤ 17592186044416) := Lib.hid (by have := Hl.out; have := Hkq.out; omega)
            have Hnext : Hid (gets l (M - (k + 1)) t' (acc ++ [n']) = r) := Lib.hid (by rw [← Hg.out, hstep]; rfl)
            have hk63 : k < 4611686018427387904 := by have := hbk.out; omega
            clear hq' hq0 hqt htl' hn0 hn1 hstep Hg
            go_wp2_with (first
              | (go_at_call 16; refine hget.mono ?_; rintro e w1 ⟨rfl, rfl⟩)
              | (at_builtin; refine wpList_append_own _ rfl _ _ 39 rfl w.heap.size 3 i0 (.int .i64 0) 1 8 Try.underlying39 hi hz0 hz1 hz2 rfl (by decide) _ _ _ rfl (Hown.out.alloc _) ⟨wr.heap.size, 0, none⟩ 1 1 [.int .i64 n'] rfl rfl ?c1 ?c2 ?c3 ?c4 ?c5 ?_))
            case c1 =>
              intro j u hj
              match j, hj with
              | 0, hj => simp at hj; subst hj; simp [Addr.add]
            case c2 => intro u hu; simp at hu; subst hu; rfl
            case c3 => have := Hacc.out; have := hbk.out; unfold maxLen; omega
            case c4 => have := Hacc.out; have := hbk.out; omega
            case c5 => simp; omega
            · intro v' w1 hown' hgrow _
              have hb' : Below w.heap.size w w1 := (Below.trans Hb.out (by go_grown)).grown hgrow (by simp; omega) (fun g hg => (Hown.out.lt g hg).1)
              have Hb' := Lib.hid hb'
              have hown2 : w1.ownsRow w.heap.size 3 1 v' (acc ++ [n']).length (ints (acc ++ [n'])) := by
                have e1 : (acc ++ [n']).length = acc.length + 1 := by simp
                have e2 : ints (acc ++ [n']) = ints acc ++ [.int .i64 n'] := by simp [ints]
                rw [e1, e2]
                exact hown'
              have Hown' := Lib.hid hown2
              clear hown' hgrow hb' hown2
              go_wp2
              go_roundw
              case rel => exact ⟨k + 1, t', acc ++ [n'], by omega, iv (by omega), rfl, ⟨by have := Hn.out.1; omega, Hn.out.2⟩, by show (acc ++ [n']).length = k + 1; rw [List.length_append, Hacc.out]; rfl, Hown'.out, Hb'.out, Hnext.out⟩
              case measure => simp [intOf]; omega
          · have hbad := getF_bad hq' he'
            have fin : r = ([], 0, e') := by rw [← Hg.out, hstep, if_neg he']
            have Fin := Lib.hid fin
            clear hq' hstep Hg fin hbad
            go_wp2_with (refine hget.mono ?_; rintro e w1 ⟨rfl, rfl⟩)
            go_ret3
            refine ⟨none, 0, ?_, ?_, Hb.out⟩
            · rw [Fin.out]; rfl
            · rw [Fin.out]; exact Reads.none_
        · obtain rfl : k = M := by omega
          have hkK : ¬ (k : Int) < K := by have := HKM.out; omega
          have fin : r = (acc, q, 0) := by have := Hg.out; rw [Nat.sub_self] at this; exact this.symm
          obtain ⟨A, c, rfl, hR⟩ := owns_reads Hown.out
          have Fin := Lib.hid fin
          have HR := Lib.hid hR
          clear fin hR
          go_wp2
          go_ret3
          refine ⟨A, ⟨c, ?_⟩, ?_, Hb.out⟩
          · rw [Fin.out]; rfl
          · rw [Fin.out]; exact HR.out
  · have hbad := getF_bad hq he
    have fin : r = ([], 0, e) := by rw [← hr]; unfold unlistF; rw [hq]; simp [he]
    have Fin := Lib.hid fin
    clear fin hr hq hi hz0 hz1 hz2 hbad
    go_enter Try.func22, Try.ntmps22
    go_wp2_with (refine hget.mono ?_; rintro e w1 ⟨rfl, rfl⟩)
    go_ret3
    refine ⟨none, 0, ?_, ?_, by go_grown⟩
    · rw [Fin.out]; rfl
    · rw [Fin.out]; exact Reads.none_
end Go.Proofs.Ytpkjlgjnnfmnfaa
