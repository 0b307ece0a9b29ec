/-
  Layer 3: what Run of package take returns, for every text and row of wants.
-/
import Derived.Test.YtbibjcgnaibhlaaTakeC
namespace Go.Proofs.Ytbibjcgnaibhlaa
set_option linter.unusedSimpArgs false
set_option linter.unusedVariables false
open Go.ChangeShapes Go.WideShapes Go.ChangeAt Go.RowKit Go.Joins Go.Deep

/-- The cells of a row of what was got. -/
def gots (l : List (Int × List UInt8)) : List Value := l.flatMap fun g => [.int .i64 g.1, .string ⟨g.2.toArray⟩]
theorem gots_cons (g : Int × List UInt8) (l : List (Int × List UInt8)) : gots (g :: l) = .int .i64 g.1 :: .string ⟨g.2.toArray⟩ :: gots l := rfl
theorem gots_length (l : List (Int × List UInt8)) : (gots l).length = l.length * 2 := by
  induction l with
  | nil => rfl
  | cons r l ih => rw [gots_cons]; simp [ih]; omega
theorem gots_append (a b : List (Int × List UInt8)) : gots (a ++ b) = gots a ++ gots b := by simp [gots]
theorem gots_fst : ∀ (l : List (Int × List UInt8)) (i : Nat) (h : i < l.length), (gots l)[i * 2]? = some (.int .i64 l[i].1)
  | _ :: _, 0, _ => rfl
  | r :: l, i + 1, h => by
    rw [gots_cons, show (i + 1) * 2 = i * 2 + 1 + 1 from by omega]
    simpa using gots_fst l i (by simpa using h)
theorem gots_snd : ∀ (l : List (Int × List UInt8)) (i : Nat) (h : i < l.length), (gots l)[i * 2 + 1]? = some (.string ⟨l[i].2.toArray⟩)
  | _ :: _, 0, _ => rfl
  | r :: l, i + 1, h => by
    rw [gots_cons, show (i + 1) * 2 + 1 = i * 2 + 1 + 1 + 1 from by omega]
    simpa using gots_snd l i (by simpa using h)

/-- What is owned reads as cells. -/
theorem owns_reads {w : World} {base size n : Nat} {e : TypeId} {v : Value} {xs : List Value} (h : w.ownsRow base e size v n xs) : ∃ A c, v = .slice A n c ∧ Reads w w.heap.size size A n xs := by
  obtain ⟨hl, ⟨rfl, h0⟩ | ⟨g, cap, cur, rfl, hb, hheap, hcap, hm, hcs, htk⟩⟩ := h
  · subst h0
    refine ⟨none, 0, rfl, hl, fun hn => absurd hn (by omega)⟩
  · refine ⟨_, _, rfl, hl, fun _ => ⟨g, 0, rfl, ?_, fun j u hu => ?_⟩⟩
    · rcases Nat.lt_or_ge g w.heap.size with hlt | hge
      · exact hlt
      · rw [Array.getElem?_eq_none hge] at hheap; cases hheap
    · rw [cell_of_row w g _ cur e (0, 0) hheap, Nat.zero_add, ← htk] at *
      rw [List.getElem?_take] at hu
      split at hu
      · simpa using hu
      · cases hu

theorem got_info : (Try.prog.info? 44).map (fun i => (i.zero, i.size, i.bytes)) = some (some (.agg #[.int .i64 0, .string ⟨#[]⟩]), 2, 24) := by kernel_rfl

/-- What was got so far, and what the pieces that are left give. -/
def glue (acc : List (Int × List UInt8)) (r : List (Int × List UInt8) × Int × Int) : List (Int × List UInt8) × Int × Int := (acc ++ r.1, r.2)
theorem glue_nil (r : List (Int × List UInt8) × Int × Int) : glue [] r = r := rfl
theorem glue_step {l : List UInt8} {p : Int} {w : Int × Int} (h : (pieceF l p w.1 w.2).2.2 = 0) (acc : List (Int × List UInt8)) (ws : List (Int × Int)) : glue acc (runF l p (w :: ws)) = glue (acc ++ [(pieceF l p w.1 w.2).1]) (runF l (pieceF l p w.1 w.2).2.1 ws) := by
  rw [runF_ok h]
  simp [glue]

/-- What the loop of Run holds on to. -/
structure RunInv (w wr : World) (l : List UInt8) (ws : List (Int × Int)) (R : List (Int × List UInt8) × Int × Int) (k : Nat) (q : Int) (acc : List (Int × List UInt8)) (v : Value) : Prop where
  below : Below w.heap.size w wr
  size : w.heap.size + 3 ≤ wr.heap.size
  bAt : Blk wr w.heap.size 3 #[.int .i64 0]
  bErr : Blk wr (w.heap.size + 1) 26 #[.int .i64 0]
  bTak : Blk wr (w.heap.size + 1 + 1) 53 #[.string ⟨l.toArray⟩, .int .i64 q]
  lo : 0 ≤ q
  hi : q ≤ l.length
  len : acc.length = k
  own : wr.ownsRow (w.heap.size + 3) 44 2 v acc.length (gots acc)
  rest : glue acc (runF l q (ws.drop k)) = R
section
variable {w wr w1 w2 : World} {l : List UInt8} {ws : List (Int × Int)} {R : List (Int × List UInt8) × Int × Int} {k : Nat} {q q' x e : Int} {acc : List (Int × List UInt8)} {v v' : Value} {s : List UInt8} {o o2 : Obj}
theorem owns_not {v : Value} {B n : Nat} {e : TypeId} {size : Nat} {xs : List Value} {wr : World} (h : wr.ownsRow B e size v n xs) {b : Nat} (hb : b < B) : some b ≠ v.ownBlock := fun hv => by
  have := (h.lt b hv.symm).1
  omega
theorem RunInv.start (hR : glue [] (runF l 0 ws) = R) : RunInv w (((w.alloc (.cells #[.int .i64 0] 3)).alloc (.cells #[.int .i64 0] 26)).alloc (.cells #[.string ⟨l.toArray⟩, .int .i64 0] 53)) l ws R 0 0 [] (.slice none 0 0) :=
  ⟨by go_grown, by simp, ((Blk.new _ _ _).alloc _).alloc _, by simpa using (Blk.new (w.alloc _) _ _).alloc _, by simpa using Blk.new ((w.alloc _).alloc _) _ _, Int.le_refl _, by omega, rfl, World.ownsRow_nil _ _ _ _, hR⟩
/-- Behind the call of 'take' the row is owned as ahead of it. -/
theorem RunInv.owned (h : RunInv w wr l ws R k q acc v) (h1 : (wr.alloc o).grownBy w1 (some (w.heap.size + 1 + 1))) : w1.ownsRow (w.heap.size + 3) 44 2 v acc.length (gots acc) :=
  (h.own.alloc o).kept h1 (by
    by_cases hv : v.ownBlock = none
    · exact Or.inl hv
    · exact Or.inr fun e => owns_not (h.own.alloc o) (b := w.heap.size + 1 + 1) (by omega) e.symm)
theorem RunInv.next (h : RunInv w wr l ws R k q acc v) (h1 : (wr.alloc o).grownBy w1 (some (w.heap.size + 1 + 1))) (hB : Blk w1 (w.heap.size + 1 + 1) 53 #[.string ⟨l.toArray⟩, .int .i64 q'])
    (hown : w2.ownsRow (w.heap.size + 3) 44 2 v' (acc.length + 1) (gots acc ++ [.int .i64 x, .string ⟨s.toArray⟩])) (hg : (w1.alloc o2).grownBy w2 v.ownBlock)
    (hq : 0 ≤ q' ∧ q' ≤ l.length) (hr : glue (acc ++ [(x, s)]) (runF l q' (ws.drop (k + 1))) = R) : RunInv w w2 l ws R (k + 1) q' (acc ++ [(x, s)]) v' := by
  have s0 := h.size
  have s1 := h1.size
  have s2 := hg.size
  simp only [World.size_alloc] at s1 s2
  have hne : ∀ b, b < w.heap.size + 3 → some b ≠ v.ownBlock := fun b hb => owns_not h.own hb
  have hk : ∀ b, b < w.heap.size + 2 → w2.heap[b]? = wr.heap[b]? := fun b hb =>
    (hg.block b (by simp only [World.size_alloc]; omega) (hne b (by omega))).trans ((Below.heap_alloc w1 o2 b (by omega)).trans ((h1.block b (by simp only [World.size_alloc]; omega) (fun e => by injection e with e; omega)).trans (Below.heap_alloc wr o b (by omega))))
  refine ⟨⟨?_, ?_, ?_, by have := h.below.size; omega, fun b hb => (hk b (by omega)).trans (h.below.block b hb)⟩, by omega, (hk _ (by omega)).trans h.bAt, (hk _ (by omega)).trans h.bErr, ?_, hq.1, hq.2, by rw [List.length_append, h.len]; rfl, ?_, hr⟩
  · exact hg.os.trans (h1.os.trans h.below.os)
  · exact hg.tape.trans (h1.tape.trans h.below.tape)
  · exact hg.output.trans (h1.output.trans h.below.output)
  · exact (hg.block _ (by have := hB.lt; simp only [World.size_alloc]; omega) (hne _ (by omega))).trans (hB.alloc o2)
  · rw [List.length_append, gots_append]
    exact hown
end

set_option maxRecDepth 100000 in
set_option maxHeartbeats 4000000 in
theorem run_any (l : List UInt8) (A : Option Addr) (n c : Nat) (ws : List (Int × Int)) (w : World) (hl : l.length ≤ 4611686018427387904) (hn : ws.length = n) (hlen : n ≤ 100000) (hr : Reads w w.heap.size 2 A n (pairs .i64 ws))
    (R : List (Int × List UInt8) × Int × Int) (hR : runF l 0 ws = R) :
    Calls Try.prog 9 #[.string ⟨l.toArray⟩, .slice A n c] w fun e w' => ∃ A' c', e = .returned (.tuple #[.slice A' R.1.length c', .int .i64 R.2.1, .int .i64 R.2.2]) ∧ Reads w' w'.heap.size 2 A' R.1.length (gots R.1) ∧ Below w.heap.size w w' := by
  obtain ⟨i0, hi, hz0, hz1, hz2⟩ := info_parts got_info
  have hmf : ∀ (fn : Fn) (first cap : Array Value) (w : World), (Instr.makeFunc fn first cap).run Try.prog w = .ok (.func fn first cap) w := fun _ _ _ _ => rfl
  have Hn := Lib.hid hn
  have Hr := Lib.hid hr
  have HR : Hid (glue [] (runF l 0 ws) = R) := Lib.hid hR
  have Hl := Lib.hid hl
  clear hn hr hR
  go_enter_defers Try.func9, Try.ntmps9
  go_wp2_with (first | (go_at_call 12; refine (new_any _ _).mono ?_; rintro e w1 ⟨rfl, rfl⟩))
  go_loopw [4, 15] (fun v i wr => ∃ (k : Nat) (q : Int) (acc : List (Int × List UInt8)), k ≤ n ∧ i = .int .i64 k ∧ Hid (RunInv w wr l ws R k q acc v)) (fun _ i _ => n - (intOf i).toNat)
  case atStart => exact ⟨0, 0, [], by omega, rfl, RunInv.start HR.out⟩
  case round =>
    obtain ⟨k, q, acc, hk, rfl, HI⟩ := hrel
    by_cases hlt : k < n
    · have hkw : k < ws.length := by have := Hn.out; omega
      obtain ⟨b, off, rfl, hb, hc⟩ := Hr.out.2 (by omega)
      have x1 : wr.cell? ⟨b, off + k * 2, none⟩ = some (.int .i64 ws[k].1) := (HI.out.below.cell (p := ⟨b, off + k * 2, none⟩) hb).trans (hc _ _ (pairs_fst .i64 ws k hkw))
      have x2 : wr.cell? ⟨b, off + k * 2 + 1, none⟩ = some (.int .i64 ws[k].2) := (HI.out.below.cell (p := ⟨b, off + (k * 2 + 1), none⟩) hb).trans (hc _ _ (pairs_snd .i64 ws k hkw))
      have hdrop : ws.drop k = ws[k] :: ws.drop (k + 1) := List.drop_eq_getElem_cons hkw
      obtain ⟨x, s, q', e, hpc⟩ : ∃ x s q' e, pieceF l q ws[k].1 ws[k].2 = ((x, s), q', e) := ⟨_, _, _, _, rfl⟩
      have hnk : (k : Int) < n := by omega
      by_cases he : e = 0
      · subst he
        have hto := fun w' hB => take_ok l q ws[k].1 ws[k].2 (w.heap.size + 1 + 1) w' Hl.out HI.out.lo HI.out.hi hB x s q' hpc
        have hq := pieceF_ok (l := l) (p := q) (k := ws[k].1) (n := ws[k].2) (by rw [hpc]) HI.out.lo HI.out.hi
        rw [hpc] at hq
        have Hq : Hid (0 ≤ q' ∧ q' ≤ l.length) := Lib.hid ⟨by have := HI.out.lo; have := hq.1; simp only at this; omega, hq.2⟩
        have Hnext : Hid (glue (acc ++ [(x, s)]) (runF l q' (ws.drop (k + 1))) = R) := Lib.hid (by
          have h1 := HI.out.rest
          rw [hdrop, glue_step (by rw [hpc]), hpc] at h1
          exact h1)
        have Hacc : Hid (acc.length ≤ 100000) := Lib.hid (by have := HI.out.len; omega)
        clear hq hdrop hpc
        go_wp2_with (first
          | (go_at_call 22; refine (hto _ (HI.out.bTak.alloc _)).mono ?_; rintro e w1 ⟨rfl, h1, h2⟩)
          | (at_builtin; refine wpList_append_own _ rfl _ _ 25 rfl (w.heap.size + 3) 44 i0 (.agg #[.int .i64 0, .string ⟨#[]⟩]) 2 24 Try.underlying25 hi hz0 hz1 hz2 rfl (by decide) _ _ _ rfl ((HI.out.owned h1).alloc _) ⟨w1.heap.size, 0, none⟩ 1 1 [.int .i64 x, .string ⟨s.toArray⟩] rfl rfl ?c1 ?c2 ?c3 ?c4 ?c5 ?_))
        case c1 =>
          intro j u hj
          match j, hj with
          | 0, hj => simp at hj; subst hj; simp [Addr.add]
          | 1, hj => simp at hj; subst hj; simp [Addr.add]
        case c2 =>
          intro u hu
          simp at hu
          rcases hu with rfl | rfl <;> rfl
        case c3 => have := Hacc.out; unfold maxLen; omega
        case c4 => have := Hacc.out; omega
        case c5 =>
          have h3 := h1.size
          have h4 := HI.out.size
          simp only [World.size_alloc] at h3 ⊢
          omega
        · intro v' w2 hown' hgrow _
          have hI := HI.out.next h1 h2 hown' hgrow Hq.out Hnext.out
          have HI' := Lib.hid hI
          clear hown' hgrow hI h1 h2 hto x1 x2
          go_wp2
          go_roundw
          case rel => exact ⟨k + 1, q', acc ++ [(x, s)], by omega, iv (by omega), HI'.out⟩
          case measure => simp [intOf]; omega
      · have htn := fun w' hB => take_no l q ws[k].1 ws[k].2 (w.heap.size + 1 + 1) w' Hl.out HI.out.lo HI.out.hi hB x s q' e hpc he
        have fin : R = (acc, q, e) := by
          have h1 := HI.out.rest
          rw [hdrop, runF_no (by rw [hpc]; exact he), hpc] at h1
          rw [← h1]
          simp [glue]
        have Fin := Lib.hid fin
        clear hdrop hpc fin
        go_wp2_with (go_at_call 22; refine (htn _ (HI.out.bTak.alloc _)).mono ?_; rintro e w1 ⟨rfl, h1⟩)
        have hbA := (HI.out.bAt.alloc (.cells #[.int .i64 ws[k].1, .int .i64 ws[k].2] 36)).below h1 (HI.out.bAt.alloc _).lt
        have hbE := (HI.out.bErr.alloc (.cells #[.int .i64 ws[k].1, .int .i64 ws[k].2] 36)).below h1 (HI.out.bErr.alloc _).lt
        refine leaves_cons (f := 21) (args := #[.pointer (some ⟨w.heap.size, 0, none⟩), .pointer (some ⟨w.heap.size + 1, 0, none⟩)]) (by simp) (by simp [go_sem]) ?_
        refine (catch_fault w.heap.size (w.heap.size + 1) 0 0 e q [] _ (by omega) hbA hbE).mono ?_
        rintro e' u' w3 ⟨rfl, rfl, hc1, hc2, w2, hg1, hg2⟩
        have hown := (HI.out.own.alloc (.cells #[.int .i64 ws[k].1, .int .i64 ws[k].2] 36)).kept (grow_below h1 (Nat.le_refl _) (row := none)) (by cases hv : u4.ownBlock <;> simp)
        have hown3 := (hown.kept hg1 (Or.inr fun e => owns_not hown (b := w.heap.size) (by omega) e.symm))
        have hown4 := (hown3.kept hg2 (Or.inr fun e => owns_not hown3 (b := w.heap.size + 1) (by omega) e.symm))
        obtain ⟨A', c', rfl, hR⟩ := owns_reads hown4
        have hbl : Below w.heap.size w w3 := ((((HI.out.below.alloc HI.out.below.size (.cells #[.int .i64 ws[k].1, .int .i64 ws[k].2] 36)).trans (h1.mono (by have := HI.out.below.size; simp; omega))).trans (below_grow hg1 (Nat.le_refl _) (by have := hbA.lt; omega))).trans (below_grow hg2 (by omega) (by have := hbA.lt; have := hg1.size; omega)))
        rw [Fin.out]
        refine ⟨.tuple #[.slice A' acc.length c', .int .i64 q, .int .i64 e], ?_, A', c', rfl, hR, hbl⟩
        simp [results, Try.results9, go_sem, hc1, hc2]
    · obtain rfl : k = n := by omega
      have hnk : ¬ (k : Int) < k := by omega
      have fin : R = (acc, q, 0) := by
        have h1 := HI.out.rest
        rw [List.drop_of_length_le (by have := Hn.out; omega)] at h1
        rw [← h1]
        simp [glue, runF]
      have Fin := Lib.hid fin
      have c1 : wr.cell? ⟨w.heap.size, 0, none⟩ = some (.int .i64 0) := HI.out.bAt.cell 0
      have c2 : wr.cell? ⟨w.heap.size + 1, 0, none⟩ = some (.int .i64 0) := HI.out.bErr.cell 0
      have z1 := HI.out.bAt.frozen 0
      have z2 := HI.out.bErr.frozen 0
      clear fin
      go_wp2_with (go_at_call 19; refine (at_any l q _ _ HI.out.bTak).mono ?_; rintro e w1 ⟨rfl, rfl⟩)
      refine leaves_cons (f := 21) (args := #[.pointer (some ⟨w.heap.size, 0, none⟩), .pointer (some ⟨w.heap.size + 1, 0, none⟩)]) (by simp) (by simp [go_sem]) ?_
      refine (catch_idle _ _ _).mono ?_
      rintro e' u' w3 ⟨rfl, rfl, rfl⟩
      have hown := ownsRow_setCell_below (ownsRow_setCell_below HI.out.own (a := ⟨w.heap.size, 0, none⟩) (by simp only; omega) (.int .i64 q)) (a := ⟨w.heap.size + 1, 0, none⟩) (by simp only; omega) (.int .i64 0)
      obtain ⟨A', c', rfl, hR⟩ := owns_reads hown
      rw [Fin.out]
      refine ⟨.tuple #[.slice A' acc.length c', .int .i64 q, .int .i64 0], ?_, A', c', rfl, hR, (HI.out.below.setCell (Nat.le_refl _) _).setCell (Nat.le_succ _) _⟩
      have d1 : ((wr.setCell ⟨w.heap.size, 0, none⟩ (.int .i64 q)).setCell ⟨w.heap.size + 1, 0, none⟩ (.int .i64 0)).cell? ⟨w.heap.size, 0, none⟩ = some (.int .i64 q) := by go_simp
      have d2 : ((wr.setCell ⟨w.heap.size, 0, none⟩ (.int .i64 q)).setCell ⟨w.heap.size + 1, 0, none⟩ (.int .i64 0)).cell? ⟨w.heap.size + 1, 0, none⟩ = some (.int .i64 0) := by go_simp
      simp only [results, Try.results9]
      generalize (wr.setCell ⟨w.heap.size, 0, none⟩ (.int .i64 q)).setCell ⟨w.heap.size + 1, 0, none⟩ (.int .i64 0) = X at d1 d2 ⊢
      simp [go_sem, d1, d2]
end Go.Proofs.Ytbibjcgnaibhlaa
