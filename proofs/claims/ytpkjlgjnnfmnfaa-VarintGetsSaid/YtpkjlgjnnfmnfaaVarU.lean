/-
  Layer 2: what Unlist of package varint returns, for every argument.
-/
import Derived.Test.YtpkjlgjnnfmnfaaVarL
namespace Go.Proofs.Ytpkjlgjnnfmnfaa
set_option linter.unusedSimpArgs false
set_option linter.unusedVariables false
open Go.ChangeShapes Go.WideShapes Go.ChangeAt Go.RowKit Go.Joins Go.Deep

theorem getF_good {l : List UInt8} {p n t : Int} (h : getF l p = (n, t, 0)) : 0 ≤ p ∧ p < t ∧ t ≤ l.length ∧ 0 ≤ n ∧ n < 9223372036854775808 := by
  unfold getF at h
  by_cases hp : 0 ≤ p ∧ p ≤ l.length
  · rw [if_pos hp] at h
    by_cases h2 : (getR (l.drop p.toNat)).2.2 = 0
    · rw [if_pos h2] at h
      obtain ⟨m, hm, e1, e2, e3, _⟩ := getR_ok _ h2
      rw [List.length_drop] at e3
      simp only [Prod.mk.injEq] at h
      omega
    · rw [if_neg h2] at h
      simp only [Prod.mk.injEq] at h
      exact absurd h.2.2 h2
  · rw [if_neg hp] at h
    simp at h
theorem getF_bad {l : List UInt8} {p n t e : Int} (h : getF l p = (n, t, e)) (he : e ≠ 0) : n = 0 ∧ t = 0 := by
  unfold getF at h
  by_cases hp : 0 ≤ p ∧ p ≤ l.length
  · rw [if_pos hp] at h
    by_cases h2 : (getR (l.drop p.toNat)).2.2 = 0
    · rw [if_pos h2] at h
      simp only [Prod.mk.injEq] at h
      exact absurd h.2.2.symm he
    · rw [if_neg h2] at h
      simp only [Prod.mk.injEq] at h
      exact ⟨h.1.symm, h.2.1.symm⟩
  · rw [if_neg hp] at h
    simp only [Prod.mk.injEq] at h
    exact ⟨h.1.symm, h.2.1.symm⟩
theorem get_is {l : List UInt8} {p n t e : Int} (h : getF l p = (n, t, e)) (w : World) (hl : l.length ≤ 4611686018427387904) :
    Calls Try.prog 15 #[.string ⟨l.toArray⟩, .int .i64 p] w fun r w' => r = .returned (.tuple #[.int .i64 n, .int .i64 t, .int .i64 e]) ∧ w = w' := by
  have := get_any l p w hl
  rw [h] at this
  exact this

/-- What is owned reads as cells. -/
theorem owns_reads {w : World} {base : Nat} {e : TypeId} {v : Value} {xs : List Int} (h : w.ownsRow base e 1 v xs.length (ints xs)) : ∃ A c, v = .slice A xs.length c ∧ Reads w w.heap.size 1 A xs.length (ints xs) := by
  obtain ⟨hl, ⟨rfl, h0⟩ | ⟨g, cap, cur, rfl, hb, hheap, hcap, hm, hcs, htk⟩⟩ := h
  · cases xs with
    | nil => exact ⟨none, 0, rfl, Reads.none_⟩
    | cons a t => simp at h0
  · refine ⟨_, _, rfl, by rw [ints_length]; omega, fun _ => ⟨g, 0, rfl, ?_, fun j u hu => ?_⟩⟩
    · rcases Nat.lt_or_ge g w.heap.size with hlt | hge
      · exact hlt
      · rw [Array.getElem?_eq_none hge] at hheap; cases hheap
    · rw [cell_of_row w g _ cur e (0, 0) hheap, Nat.zero_add, ← htk] at *
      rw [List.getElem?_take] at hu
      split at hu
      · simpa using hu
      · cases hu

theorem int_info : (Try.prog.info? 3).map (fun i => (i.zero, i.size, i.bytes)) = some (some (.int .i64 0), 1, 8) := by kernel_rfl

set_option maxRecDepth 100000 in
set_option maxHeartbeats 1000000 in
theorem unlist_any (l : List UInt8) (p most : Int) (w : World) (hl : l.length ≤ 17592186044416) (r : List Int × Int × Int) (hr : unlistF l p most = r) :
    Calls Try.prog 21 #[.string ⟨l.toArray⟩, .int .i64 p, .int .i64 most] w fun e w' => ∃ A c, e = .returned (.tuple #[.slice A r.1.length c, .int .i64 r.2.1, .int .i64 r.2.2]) ∧ Reads w' w'.heap.size 1 A r.1.length (ints r.1) ∧ Below w.heap.size w w' := by
  obtain ⟨i0, hi, hz0, hz1, hz2⟩ := info_parts int_info
  obtain ⟨K, t, e, hq⟩ : ∃ K t e, getF l p = (K, t, e) := ⟨_, _, _, rfl⟩
  have hget := get_is hq w (by omega)
  by_cases he : e = 0
  · subst he
    obtain ⟨hp0, hpt, htl, hK0, hK1⟩ := getF_good hq
    by_cases hbig : most < K
    · have fin : r = ([], 0, 3) := by rw [← hr]; unfold unlistF; rw [hq]; simp [hbig]
      have Fin := Lib.hid fin
      clear fin hr hq hi hz0 hz1 hz2
      go_enter Try.func21, Try.ntmps21
      go_wp2_with (refine hget.mono ?_; rintro e w1 ⟨rfl, rfl⟩)
      go_ret3
      refine ⟨none, 0, ?_, ?_, by go_grown⟩
      · rw [Fin.out]; rfl
      · rw [Fin.out]; exact Reads.none_
    · obtain ⟨M, hM⟩ := Int.eq_ofNat_of_zero_le hK0
      have start : gets l M t [] = r := by rw [← hr]; unfold unlistF; rw [hq, hM]; rw [hM] at hbig; simp [hbig]
      have Start := Lib.hid start
      have HK := Lib.hid hK1
      have Ht : Hid (0 ≤ t ∧ t ≤ l.length) := Lib.hid ⟨by omega, htl⟩
      have HM : K ≤ most := by omega
      have HKM := Lib.hid hM
      have Hl := Lib.hid hl
      clear start hr hq hK1 hp0 hpt hbig hl hM hK0 htl
      go_enter Try.func21, Try.ntmps21
      go_wp2_with (refine hget.mono ?_; rintro e w1 ⟨rfl, rfl⟩)
      clear hget
      go_loopw [6, 7, 25] (fun v s i wr => ∃ (k : Nat) (q : Int) (acc : List Int), k ≤ M ∧ i = .int .i64 k ∧ s = .int .i64 q ∧ Hid (k ≤ q ∧ q ≤ l.length) ∧ Hid (acc.length = k) ∧ Hid (wr.ownsRow w.heap.size 3 1 v acc.length (ints acc)) ∧ Hid (Below w.heap.size w wr) ∧ Hid (gets l (M - k) q acc = r)) (fun _ _ i _ => M - (intOf i).toNat)
      case atStart => exact ⟨0, t, [], by omega, rfl, rfl, Ht.out, rfl, World.ownsRow_nil _ _ _ _, Below.refl _ _, Start.out⟩
      case round =>
        obtain ⟨k, q, acc, hk, rfl, rfl, Hkq, Hacc, Hown, Hb, Hg⟩ := hrel
        by_cases hlt : k < M
        · obtain ⟨n', t', e', hq'⟩ : ∃ n' t' e', getF l q = (n', t', e') := ⟨_, _, _, rfl⟩
          have hget := get_is hq' wr (by have := Hl.out; omega)
          have hstep : gets l (M - k) q acc = if e' = 0 then gets l (M - (k + 1)) t' (acc ++ [n']) else ([], 0, e') := by
            rw [show M - k = (M - (k + 1)) + 1 from by omega, gets, hq']
          have hkK : (k : Int) < K := by have := HKM.out; omega
          have hszr := Hb.out.size
          by_cases he' : e' = 0
          · subst he'
            obtain ⟨hq0, hqt, htl', hn0, hn1⟩ := getF_good hq'
            have Hn : Hid ((k : Int) + 1 ≤ t' ∧ t' ≤ l.length) := Lib.hid ⟨by have := Hkq.out; omega, htl'⟩
            have hbk : Hid (k + 1 ≤ 17592186044416) := Lib.hid (by have := Hl.out; have := Hkq.out; omega)
            have Hnext : Hid (gets l (M - (k + 1)) t' (acc ++ [n']) = r) := Lib.hid (by rw [← Hg.out, hstep]; rfl)
            have hk63 : k < 4611686018427387904 := by have := hbk.out; omega
            clear hq' hq0 hqt htl' hn0 hn1 hstep Hg
            go_wp2_with (first
              | (go_at_call 15; refine hget.mono ?_; rintro e w1 ⟨rfl, rfl⟩)
              | (at_builtin; refine wpList_append_own _ rfl _ _ 39 rfl w.heap.size 3 i0 (.int .i64 0) 1 8 Try.underlying39 hi hz0 hz1 hz2 rfl (by decide) _ _ _ rfl (Hown.out.alloc _) ⟨wr.heap.size, 0, none⟩ 1 1 [.int .i64 n'] rfl rfl ?c1 ?c2 ?c3 ?c4 ?c5 ?_))
            case c1 =>
              intro j u hj
              match j, hj with
              | 0, hj => simp at hj; subst hj; simp [Addr.add]
            case c2 => intro u hu; simp at hu; subst hu; rfl
            case c3 => have := Hacc.out; have := hbk.out; unfold maxLen; omega
            case c4 => have := Hacc.out; have := hbk.out; omega
            case c5 => simp; omega
            · intro v' w1 hown' hgrow _
              have hb' : Below w.heap.size w w1 := (Below.trans Hb.out (by go_grown)).grown hgrow (by simp; omega) (fun g hg => (Hown.out.lt g hg).1)
              have Hb' := Lib.hid hb'
              have hown2 : w1.ownsRow w.heap.size 3 1 v' (acc ++ [n']).length (ints (acc ++ [n'])) := by
                have e1 : (acc ++ [n']).length = acc.length + 1 := by simp
                have e2 : ints (acc ++ [n']) = ints acc ++ [.int .i64 n'] := by simp [ints]
                rw [e1, e2]
                exact hown'
              have Hown' := Lib.hid hown2
              clear hown' hgrow hb' hown2
              go_wp2
              go_roundw
              case rel => exact ⟨k + 1, t', acc ++ [n'], by omega, iv (by omega), rfl, ⟨by have := Hn.out.1; omega, Hn.out.2⟩, by show (acc ++ [n']).length = k + 1; rw [List.length_append, Hacc.out]; rfl, Hown'.out, Hb'.out, Hnext.out⟩
              case measure => simp [intOf]; omega
          · have hbad := getF_bad hq' he'
            have fin : r = ([], 0, e') := by rw [← Hg.out, hstep, if_neg he']
            have Fin := Lib.hid fin
            clear hq' hstep Hg fin hbad
            go_wp2_with (refine hget.mono ?_; rintro e w1 ⟨rfl, rfl⟩)
            go_ret3
            refine ⟨none, 0, ?_, ?_, Hb.out⟩
            · rw [Fin.out]; rfl
            · rw [Fin.out]; exact Reads.none_
        · obtain rfl : k = M := by omega
          have hkK : ¬ (k : Int) < K := by have := HKM.out; omega
          have fin : r = (acc, q, 0) := by have := Hg.out; rw [Nat.sub_self] at this; exact this.symm
          obtain ⟨A, c, rfl, hR⟩ := owns_reads Hown.out
          have Fin := Lib.hid fin
          have HR := Lib.hid hR
          clear fin hR
          go_wp2
          go_ret3
          refine ⟨A, ⟨c, ?_⟩, ?_, Hb.out⟩
          · rw [Fin.out]; rfl
          · rw [Fin.out]; exact HR.out
  · have hbad := getF_bad hq he
    have fin : r = ([], 0, e) := by rw [← hr]; unfold unlistF; rw [hq]; simp [he]
    have Fin := Lib.hid fin
    clear fin hr hq hi hz0 hz1 hz2 hbad
    go_enter Try.func21, Try.ntmps21
    go_wp2_with (refine hget.mono ?_; rintro e w1 ⟨rfl, rfl⟩)
    go_ret3
    refine ⟨none, 0, ?_, ?_, by go_grown⟩
    · rw [Fin.out]; rfl
    · rw [Fin.out]; exact Reads.none_
end Go.Proofs.Ytpkjlgjnnfmnfaa
