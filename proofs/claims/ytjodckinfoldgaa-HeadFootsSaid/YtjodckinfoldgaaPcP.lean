/-
  Package pieces, the program's: the bytes of numbers, one behind the other.
-/
import Derived.Test.YtjodckinfoldgaaVarP
import Derived.Lib.AppendStr
namespace Go.Proofs.Ytjodckinfoldgaa
set_option linter.unusedSimpArgs false
set_option linter.unusedVariables false
open Go.ChangeShapes Go.WideShapes Go.ChangeAt Go.RowKit Go.Joins Go.Deep
def ppB (l : List Int) : List UInt8 := l.flatMap putB
theorem ppB_take (l : List Int) (k : Nat) (h : k < l.length) : ppB (l.take (k + 1)) = ppB (l.take k) ++ putB l[k] := by
  unfold ppB
  rw [List.take_succ_eq_append_getElem h, List.flatMap_append]
  simp
theorem pput_len (n : Int) : (putB n).length ≤ 9 := by
  unfold putB
  split
  · exact Nat.zero_le _
  · exact dg_le 9 _
theorem ppB_len (l : List Int) : ∀ k, k ≤ l.length → (ppB (l.take k)).length ≤ 9 * k
  | 0, _ => Nat.le_refl _
  | k + 1, h => by
    have := ppB_len l k (by omega)
    have := pput_len l[k]
    rw [ppB_take l k (by omega), List.length_append]
    omega
structure PLay (w wr : World) (v : Value) (L : List UInt8) : Prop where
  own : wr.ownsRow w.heap.size 5 1 v L.length (bc L).toList
  below : Below w.heap.size w wr
theorem PLay.on {w w1 w2 : World} {v : Value} {L : List UInt8} (h : PLay w w1 v L) (hb : Below w1.heap.size w1 w2) : PLay w w2 v L :=
  ⟨owns_below h.own hb (Nat.le_refl _), h.below.trans (hb.mono h.below.size)⟩
theorem PLay.add {w w1 w2 : World} {v v' : Value} {L X : List UInt8} (h : PLay w w1 v L) {n : Nat} (hn : n = (L ++ X).length) (ho : w2.ownsRow w.heap.size 5 1 v' n ((bc L).toList ++ Lib.strCells ⟨X.toArray⟩)) (hg : w1.grownBy w2 v.ownBlock) : PLay w w2 v' (L ++ X) := by
  refine ⟨?_, h.below.grown hg h.below.size fun b hb => (h.own.lt b hb).1⟩
  rw [show Lib.strCells ⟨X.toArray⟩ = (bc X).toList by simp [Lib.strCells, bc], show (bc L).toList ++ (bc X).toList = (bc (L ++ X)).toList by simp [bc], hn] at ho
  exact ho
set_option maxRecDepth 100000 in
set_option maxHeartbeats 2000000 in
theorem p_pput_any (l : List Int) (A : Option Addr) (n c : Nat) (w : World) (hl : l.length = n) (hn : n ≤ 100000) (hr : Reads w w.heap.size 1 A n (ints l)) (hbd : ∀ x ∈ l, x < 9223372036854775808) :
    Calls Try.prog 26 #[.slice A n c] w fun e w' => e = .returned (.string ⟨(ppB l).toArray⟩) ∧ Below w.heap.size w w' := by
  obtain ⟨i0, hi, hz0, hz1, hz9⟩ := info_parts byte_info
  have hcell : 0 < n → ∃ b off, A = some ⟨b, off, none⟩ ∧ b < w.heap.size ∧ ∀ k, (hk : k < l.length) → w.cell? ⟨b, off + k, none⟩ = some (.int .i64 l[k]) := by
    intro h
    obtain ⟨b, off, e, hb, hc⟩ := hr.2 h
    exact ⟨b, off, e, hb, fun k hk => hc k _ (ints_get l k hk)⟩
  have HL := Lib.hid hl
  have HC := Lib.hid hcell
  have HBd := Lib.hid hbd
  have H0 : Hid (PLay w w (.slice none 0 0) []) := Lib.hid ⟨World.ownsRow_nil _ _ _ _, Below.refl _ _⟩
  have H00 : Hid (ppB (l.take 0) = []) := Lib.hid rfl
  have Hln : Hid (∀ k, k ≤ n → (ppB (l.take k)).length ≤ 9 * k) := Lib.hid fun k hk => ppB_len l k (by omega)
  clear hr hcell hbd hl
  go_enter Try.func26, Try.ntmps26
  go_wp2
  go_loopw [3, 10] (fun o i wr => ∃ k : Nat, k ≤ n ∧ i = .int .i64 (k : Int) ∧ Hid (PLay w wr o (ppB (l.take k)))) (fun _ i _ => n - (intOf i).toNat)
  case atStart => exact ⟨0, by omega, rfl, Lib.hid (by rw [H00.out]; exact H0.out)⟩
  case round =>
    obtain ⟨k, hk, rfl, HI⟩ := hrel
    by_cases hlt : k < n
    · have hkl : k < l.length := by have := HL.out; omega
      obtain ⟨b, off, rfl, hb, hcell⟩ := HC.out (by omega)
      have c0 := (HI.out.below.cell (p := ⟨b, off + k, none⟩) hb).trans (hcell k hkl)
      have hki : (0 : Int) ≤ (k : Int) ∧ (k : Int) < (n : Int) := by omega
      have hp := Lib.hid fun W => put_any l[k] W (HBd.out _ (List.getElem_mem hkl))
      unfold strInt at hp
      have hnx : Hid (ppB (l.take (k + 1)) = ppB (l.take k) ++ putB l[k]) := Lib.hid (ppB_take l k hkl)
      have l1 := pput_len l[k]
      have l2 := Hln.out k hk
      have l3 : (ppB (l.take k)).length ≤ 900000 := by omega
      clear l2 hcell HBd
      generalize l[k] = z at *
      generalize putB z = Z at *
      generalize putE z = E at *
      go_wp2_with (first
        | (go_at_call 39; (with_reducible refine (hp.out _).mono ?_); rintro e w3 ⟨rfl, hb3⟩; have HI3 := Lib.hid (HI.out.on hb3); clear hb3 hp)
        | (refine Lib.wpList_append_own_string _ rfl _ _ 74 9 rfl w.heap.size 5 i0 Try.underlying74 Try.underlying9 hi hz0 hz1 hz9 _ _ _ rfl HI3.out.own _ rfl ?c1 ?c2 HI3.out.below.size ?_))
      case c1 => rw [ByteArray.size_mk', List.size_toArray]; unfold maxLen; omega
      case c2 => rw [ByteArray.size_mk', List.size_toArray]; omega
      · intro v' w4 ho4 hg4 _
        have HI4 := Lib.hid (HI3.out.add (X := Z) (by simp only [List.length_append]) ho4 hg4)
        clear ho4 hg4
        go_wp2
        go_roundw
        case rel => exact ⟨k + 1, by omega, iv (by omega), Lib.hid (by rw [hnx.out]; exact HI4.out)⟩
        case measure => simp only [intOf]; omega
    · obtain rfl : k = n := by omega
      have e : ppB l = ppB (l.take k) := by rw [List.take_of_length_le (by have := HL.out; omega)]
      obtain ⟨A2, cc2, hv2, hc2, hr2⟩ := owns_cells HI.out.own
      have hst := run_str_any Try.underlying74 Try.underlying5 Try.underlying9 _ A2 cc2 _ hr2
      have HE := Lib.hid e
      subst hv2
      clear hr2 hc2 e
      go_wp2
      go_ret
      refine ⟨?_, HI.out.below⟩
      rw [HE.out]
      rfl
end Go.Proofs.Ytjodckinfoldgaa
