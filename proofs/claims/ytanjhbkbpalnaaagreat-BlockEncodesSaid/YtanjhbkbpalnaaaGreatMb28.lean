/-
 What the law of the last of these texts stands on, part 28.
-/
import Derived.Test.YtanjhbkbpalnaaaGreatMb27
import Derived.RangeFuncBox
import Derived.RangeFuncLeaves
import Derived.RangeFuncNested
import Derived.OwnWalkIn
import Derived.TacticsInMore
import Derived.LoopNIn
import Derived.LoopIn
set_option maxRecDepth 100000
set_option maxHeartbeats 8000000
open Go.Proofs.Tryz
namespace Go.Proofs.YtanjhbkbpalnaaaGreat
set_option linter.unusedSimpArgs false
set_option linter.unusedVariables false
open Go.ChangeShapes Go.WideShapes Go.ChangeAt Go.RowKit Go.Joins Go.Deep Go.Shelf
theorem zhalf (p : Nat) (h : (p : Int) + 1 < 9223372036854775808) : wrap64 ((wrap64 ((p : Int) + 1 - (2 - ((p : Int) + 1) % 2))).tdiv 2) = ((p / 2 : Nat) : Int) := by
 have e1 : wrap64 ((p : Int) + 1 - (2 - ((p : Int) + 1) % 2)) = (p : Int) + 1 - (2 - ((p : Int) + 1) % 2) := by
  generalize hy : (p : Int) + 1 - (2 - ((p : Int) + 1) % 2) = y
  have : -1 ≤ y ∧ y < 9223372036854775808 := by omega
  unfold wrap64
  omega
 rw [e1, Int.tdiv_eq_ediv_of_nonneg (by omega), show ((p : Int) + 1 - (2 - ((p : Int) + 1) % 2)) / 2 = ((p / 2 : Nat) : Int) from by omega]
 have : p / 2 ≤ p := Nat.div_le_self _ _
 generalize p / 2 = q at *
 unfold wrap64
 omega
theorem ygj (n : Int) (hn : n < 9223372036854775808) (w : World) :
  Calls prog 78 #[.int .i64 n] w fun e w' => ∃ A c, e = .returned (.slice A (yaJ n).length c) ∧ (yaJ n).length ≤ c ∧ w'.ownsRow w.heap.size 3 1 (.slice A (yaJ n).length c) (yaJ n).length (ints (yaJ n)) ∧ Below w.heap.size w w' := by
 obtain ⟨i0, hi, hz0, hz1, hz2⟩ := qbn yc5
 have hl63 := zdigF_len n hn
 by_cases h0 : n ≤ 0
 ·have e0 : yaJ n = [] := by unfold yaJ; rw [show n.toNat = 0 from by omega, yaU]; rfl
  rw [e0]
  clear e0 hl63
  go_enter func78, ntmps78
  go_wp2
  go_loopw [0, 3] (fun i v wr => i = .int .i64 n ∧ v = .slice none 0 0 ∧ wr = w) (fun _ _ _ => 0)
  case atStart => exact ⟨rfl, rfl, rfl⟩
  case round =>
   obtain ⟨rfl, rfl, rfl⟩ := hrel
   go_wp2
   go_ret
   exact ⟨none, 0, rfl, qaf _, qbg _ _ _ _, qaj _ _⟩
 ·obtain ⟨N, rfl⟩ : ∃ N : Nat, n = N := ⟨n.toNat, by omega⟩
  have hD : yaJ (N : Int) = (zd N).map (· + 1) := by unfold yaJ; rw [qap]
  have Hstart : Hid ([] ++ (zd N).map (· + 1) = yaJ (N : Int)) := qaa (by rw [hD]; rfl)
  clear hD h0
  generalize yaJ (N : Int) = D at *
  go_enter func78, ntmps78
  go_wp2
  go_loopw [0, 3] (fun i v wr => ∃ (m : Nat) (acc : List Int), i = .int .i64 m ∧ (m : Int) < 9223372036854775808 ∧ Hid (acc ++ (zd m).map (· + 1) = D) ∧ Hid (wr.ownsRow w.heap.size 3 1 v acc.length (ints acc)) ∧ Hid (Below w.heap.size w wr)) (fun i _ _ => (intOf i).toNat)
  case atStart => exact ⟨N, [], rfl, hn, Hstart.out, qbg _ _ _ _, qaj _ _⟩
  case round =>
   obtain ⟨m, acc, rfl, hm, Hacc, Hown, Hb⟩ := hrel
   cases m with
   | zero =>
    have hf := Hacc.out
    rw [yaU] at hf
    simp at hf
    subst hf
    obtain ⟨A2, c2, rfl, hc2, hr2⟩ := yad Hown.out
    clear hr2
    go_wp2
    go_ret
    exact ⟨A2, c2, rfl, hc2, Hown.out, Hb.out⟩
   | succ p =>
    have hf := Hacc.out
    rw [ygt _ (by omega), show p + 1 - 1 = p from by omega, qcn] at hf
    have hle : acc.length ≤ 62 := by
     have := qbJ List.length hf
     rw [qae, qau] at this
     omega
    have hx : ((p % 2 : Nat) : Int) + 1 = 2 - ((p : Int) + 1) % 2 := by omega
    rw [hx] at hf
    have Hn : Hid ((acc ++ [2 - ((p : Int) + 1) % 2]) ++ (zd (p / 2)).map (· + 1) = D) := qaa (by rw [← hf]; simp)
    have hlast : wrap64 ((wrap64 ((p : Int) + 1 - (2 - ((p : Int) + 1) % 2))).tdiv 2) = ((p / 2 : Nat) : Int) := zhalf p (by omega)
    have Hlast := qaa hlast
    have Hm := qaa hm
    have Hle := qaa hle
    have Hszr := qaa Hb.out.size
    clear hm hle hl63 hn hf hx hlast
    go_wp2_with (at_builtin; refine wpList_append_own _ rfl _ _ 28 rfl w.heap.size 3 i0 (.int .i64 0) 1 8 underlying28 hi hz0 hz1 hz2 rfl (by decide) _ _ _ rfl (Hown.out.alloc _) ⟨wr.heap.size, 0, none⟩ 1 1 [.int .i64 (2 - ((p : Int) + 1) % 2)] rfl rfl ?c1 ?c2 ?c3 ?c4 ?c5 ?_)
    case c1 =>
     intro j u hj
     match j, hj with
     | 0, hj => simp at hj; subst hj; simp [Addr.add]
    case c2 => intro u hu; simp at hu; subst hu; rfl
    case c3 => have := Hle.out; unfold maxLen; omega
    case c4 => have := Hle.out; omega
    case c5 => have := Hszr.out; simp; omega
    intro v' w1 hown' hgrow _
    have Hb' : Hid (Below w.heap.size w w1) := qaa ((Below.trans Hb.out (Below.alloc (qaj _ _) Hszr.out _)).grown hgrow (by have := Hszr.out; simp; omega) (fun g hg => (Hown.out.lt g hg).1))
    have Hown' : Hid (w1.ownsRow w.heap.size 3 1 v' (acc ++ [2 - ((p : Int) + 1) % 2]).length (ints (acc ++ [2 - ((p : Int) + 1) % 2]))) := qaa (by
     have e1 : (acc ++ [2 - ((p : Int) + 1) % 2]).length = acc.length + 1 := by simp
     have e2 : ints (acc ++ [2 - ((p : Int) + 1) % 2]) = ints acc ++ [.int .i64 (2 - ((p : Int) + 1) % 2)] := by simp [ints]
     rw [e1, e2]
     exact hown')
    clear hown' hgrow
    go_wp2
    go_roundw
    case rel => exact ⟨p / 2, _, iv Hlast.out, by have := Hm.out; omega, Hn.out, Hown'.out, Hb'.out⟩
    case measure =>
     simp only [intOf]
     rw [Hlast.out]
     omega
end Go.Proofs.YtanjhbkbpalnaaaGreat
