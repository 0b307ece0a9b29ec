/-
  Layer 3: what the document's own Run and Same return, for every argument.
-/
import Derived.Test.YtbibjcgnaibhlaaTakeS
namespace Go.Proofs.Ytbibjcgnaibhlaa
set_option linter.unusedSimpArgs false
set_option linter.unusedVariables false
open Go.ChangeShapes Go.WideShapes Go.ChangeAt Go.RowKit Go.Joins Go.Deep

/-- What the loop of the document's Run holds on to. -/
structure RefInv (w wr : World) (l : List UInt8) (ws : List (Int × Int)) (R : List (Int × List UInt8) × Int × Int) (k : Nat) (q : Int) (acc : List (Int × List UInt8)) (v : Value) : Prop where
  below : Below w.heap.size w wr
  lo : 0 ≤ q
  hi : q ≤ l.length
  len : acc.length = k
  own : wr.ownsRow w.heap.size 44 2 v acc.length (gots acc)
  rest : glue acc (runF l q (ws.drop k)) = R

section
variable {w wr w1 w2 : World} {l : List UInt8} {ws : List (Int × Int)} {R : List (Int × List UInt8) × Int × Int} {k : Nat} {q q' x e : Int} {acc : List (Int × List UInt8)} {v v' : Value} {s : List UInt8} {o o2 : Obj}
theorem RefInv.owned (h : RefInv w wr l ws R k q acc v) (h1 : Below wr.heap.size wr w1) : w1.ownsRow w.heap.size 44 2 v acc.length (gots acc) :=
  h.own.kept (grow_below h1 (Nat.le_refl _) (row := none)) (by cases hv : v.ownBlock <;> simp)
theorem RefInv.next (h : RefInv w wr l ws R k q acc v) (h1 : Below wr.heap.size wr w1)
    (hown : w2.ownsRow w.heap.size 44 2 v' (acc.length + 1) (gots acc ++ [.int .i64 x, .string ⟨s.toArray⟩])) (hg : ((w1.alloc o).alloc o2).grownBy w2 v.ownBlock)
    (hq : 0 ≤ q' ∧ q' ≤ l.length) (hr : glue (acc ++ [(x, s)]) (runF l q' (ws.drop (k + 1))) = R) : RefInv w w2 l ws R (k + 1) q' (acc ++ [(x, s)]) v' := by
  have s0 := h.below.size
  have s1 := h1.size
  refine ⟨?_, hq.1, hq.2, by rw [List.length_append, h.len]; rfl, ?_, hr⟩
  · have hb : Below w.heap.size w ((w1.alloc o).alloc o2) := ((h.below.trans (h1.mono s0)).alloc (by omega) o).alloc (by simp; omega) o2
    exact hb.grown hg (by simp; omega) (fun g hg => (h.own.lt g hg).1)
  · rw [List.length_append, gots_append]
    exact hown
end

set_option maxRecDepth 100000 in
set_option maxHeartbeats 4000000 in
theorem refRun_any (l : List UInt8) (A : Option Addr) (n c : Nat) (ws : List (Int × Int)) (w : World) (hl : l.length ≤ 4611686018427387904) (hn : ws.length = n) (hlen : n ≤ 100000) (hr : Reads w w.heap.size 2 A n (pairs .i64 ws))
    (R : List (Int × List UInt8) × Int × Int) (hR : runF l 0 ws = R) :
    Calls Try.prog 10 #[.string ⟨l.toArray⟩, .slice A n c] w fun e w' => ∃ A' c', e = .returned (.tuple #[.slice A' R.1.length c', .int .i64 R.2.1, .int .i64 R.2.2]) ∧ Reads w' w'.heap.size 2 A' R.1.length (gots R.1) ∧ Below w.heap.size w w' := by
  obtain ⟨i0, hi, hz0, hz1, hz2⟩ := info_parts got_info
  have Hn := Lib.hid hn
  have Hr := Lib.hid hr
  have HR : Hid (glue [] (runF l 0 ws) = R) := Lib.hid hR
  have Hl := Lib.hid hl
  clear hn hr hR
  go_enter Try.func10, Try.ntmps10
  go_wp2
  go_loopw [7, 8, 9] (fun v s i wr => ∃ (k : Nat) (q : Int) (acc : List (Int × List UInt8)), k ≤ n ∧ i = .int .i64 k ∧ s = .int .i64 q ∧ Hid (RefInv w wr l ws R k q acc v)) (fun _ _ i _ => n - (intOf i).toNat)
  case atStart => exact ⟨0, 0, [], by omega, rfl, rfl, ⟨Below.refl _ _, Int.le_refl _, by omega, rfl, World.ownsRow_nil _ _ _ _, HR.out⟩⟩
  case round =>
    obtain ⟨k, q, acc, hk, rfl, rfl, HI⟩ := hrel
    by_cases hlt : k < n
    · have hkw : k < ws.length := by have := Hn.out; omega
      obtain ⟨b, off, rfl, hb, hc⟩ := Hr.out.2 (by omega)
      have x1 : wr.cell? ⟨b, off + k * 2, none⟩ = some (.int .i64 ws[k].1) := (HI.out.below.cell (p := ⟨b, off + k * 2, none⟩) hb).trans (hc _ _ (pairs_fst .i64 ws k hkw))
      have x2 : wr.cell? ⟨b, off + k * 2 + 1, none⟩ = some (.int .i64 ws[k].2) := (HI.out.below.cell (p := ⟨b, off + (k * 2 + 1), none⟩) hb).trans (hc _ _ (pairs_snd .i64 ws k hkw))
      have hdrop : ws.drop k = ws[k] :: ws.drop (k + 1) := List.drop_eq_getElem_cons hkw
      obtain ⟨x, s, q', e, hpc⟩ : ∃ x s q' e, pieceF l q ws[k].1 ws[k].2 = ((x, s), q', e) := ⟨_, _, _, _, rfl⟩
      have hnk : (k : Int) < n := by omega
      by_cases he : e = 0
      · subst he
        have hto := fun w' => refOne_any l q ws[k].1 ws[k].2 w' Hl.out HI.out.lo HI.out.hi ((x, s), q', 0) (by unfold oneF; rw [hpc, if_pos rfl])
        have hq := pieceF_ok (l := l) (p := q) (k := ws[k].1) (n := ws[k].2) (by rw [hpc]) HI.out.lo HI.out.hi
        rw [hpc] at hq
        have Hq : Hid (0 ≤ q' ∧ q' ≤ l.length) := Lib.hid ⟨by have := HI.out.lo; have := hq.1; simp only at this; omega, hq.2⟩
        have Hnext : Hid (glue (acc ++ [(x, s)]) (runF l q' (ws.drop (k + 1))) = R) := Lib.hid (by
          have h1 := HI.out.rest
          rw [hdrop, glue_step (by rw [hpc]), hpc] at h1
          exact h1)
        have Hacc : Hid (acc.length ≤ 100000) := Lib.hid (by have := HI.out.len; omega)
        clear hq hdrop hpc
        go_wp2_with (first
          | (go_at_call 23; refine (hto _).mono ?_; rintro e w1 ⟨rfl, h1⟩)
          | (at_builtin; refine wpList_append_own _ rfl _ _ 25 rfl w.heap.size 44 i0 (.agg #[.int .i64 0, .string ⟨#[]⟩]) 2 24 Try.underlying25 hi hz0 hz1 hz2 rfl (by decide) _ _ _ rfl (((HI.out.owned h1).alloc _).alloc _) ⟨w1.heap.size + 1, 0, none⟩ 1 1 [.int .i64 x, .string ⟨s.toArray⟩] rfl rfl ?c1 ?c2 ?c3 ?c4 ?c5 ?_))
        case c1 =>
          intro j u hj
          match j, hj with
          | 0, hj => simp at hj; subst hj; simp [Addr.add]
          | 1, hj => simp at hj; subst hj; simp [Addr.add]
        case c2 =>
          intro u hu
          simp at hu
          rcases hu with rfl | rfl <;> rfl
        case c3 => have := Hacc.out; unfold maxLen; omega
        case c4 => have := Hacc.out; omega
        case c5 =>
          have h3 := h1.size
          have h4 := HI.out.below.size
          simp only [World.size_alloc]
          omega
        · intro v' w2 hown' hgrow _
          have hI := HI.out.next h1 hown' hgrow Hq.out Hnext.out
          have HI' := Lib.hid hI
          clear hown' hgrow hI h1 hto x1 x2
          go_wp2
          go_roundw
          case rel => exact ⟨k + 1, q', acc ++ [(x, s)], by omega, iv (by omega), rfl, HI'.out⟩
          case measure => simp [intOf]; omega
      · have hto := fun w' => refOne_any l q ws[k].1 ws[k].2 w' Hl.out HI.out.lo HI.out.hi ((0, []), q, e) (by unfold oneF; rw [hpc, if_neg he])
        have hen : ¬ e = 0 := he
        have fin : R = (acc, q, e) := by
          have h1 := HI.out.rest
          rw [hdrop, runF_no (by rw [hpc]; exact he), hpc] at h1
          rw [← h1]
          simp [glue]
        have Fin := Lib.hid fin
        clear hdrop hpc fin
        go_wp2_with (go_at_call 23; refine (hto _).mono ?_; rintro e w1 ⟨rfl, h1⟩)
        obtain ⟨A', c', rfl, hR⟩ := owns_reads (HI.out.owned h1)
        go_ret3
        rw [Fin.out]
        exact ⟨A', c', rfl, hR.alloc (Nat.le_refl _) _ |>.more (by simp), (HI.out.below.trans (h1.mono HI.out.below.size)).alloc (by have := h1.size; have := HI.out.below.size; omega) _⟩
    · obtain rfl : k = n := by omega
      have hnk : ¬ (k : Int) < k := by omega
      have fin : R = (acc, q, 0) := by
        have h1 := HI.out.rest
        rw [List.drop_of_length_le (by have := Hn.out; omega)] at h1
        rw [← h1]
        simp [glue, runF]
      have Fin := Lib.hid fin
      clear fin
      obtain ⟨A', c', rfl, hR⟩ := owns_reads HI.out.own
      go_wp2
      go_ret3
      rw [Fin.out]
      exact ⟨A', ⟨c', rfl⟩, hR, HI.out.below⟩
end Go.Proofs.Ytbibjcgnaibhlaa
