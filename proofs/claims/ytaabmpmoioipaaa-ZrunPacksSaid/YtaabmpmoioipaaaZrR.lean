/-
  Layer 7: what the document's own Digits, value and Count return.
-/
import Derived.Test.YtaabmpmoioipaaaZrV
namespace Go.Proofs.Ytaabmpmoioipaaa
set_option linter.unusedSimpArgs false
set_option linter.unusedVariables false
open Go.ChangeShapes Go.WideShapes Go.ChangeAt Go.RowKit Go.Joins Go.Deep Go.Shelf

theorem zhalf (p : Nat) (h : (p : Int) + 1 < 9223372036854775808) : wrap64 ((wrap64 ((p : Int) + 1 - (2 - ((p : Int) + 1) % 2))).tdiv 2) = ((p / 2 : Nat) : Int) := by
  have e1 : wrap64 ((p : Int) + 1 - (2 - ((p : Int) + 1) % 2)) = (p : Int) + 1 - (2 - ((p : Int) + 1) % 2) := by
    generalize hy : (p : Int) + 1 - (2 - ((p : Int) + 1) % 2) = y
    have : -1 ≤ y ∧ y < 9223372036854775808 := by omega
    unfold wrap64
    omega
  rw [e1, Int.tdiv_eq_ediv_of_nonneg (by omega), show ((p : Int) + 1 - (2 - ((p : Int) + 1) % 2)) / 2 = ((p / 2 : Nat) : Int) from by omega]
  have : p / 2 ≤ p := Nat.div_le_self _ _
  generalize p / 2 = q at *
  unfold wrap64
  omega
set_option maxRecDepth 100000 in
set_option maxHeartbeats 1000000 in
theorem zref_digits_any (n : Int) (hn : n < 9223372036854775808) (w : World) :
    Calls Try.prog 12 #[.int .i64 n] w fun e w' => ∃ A c, e = .returned (.slice A (zdigF n).length c) ∧ (zdigF n).length ≤ c ∧ w'.ownsRow w.heap.size 3 1 (.slice A (zdigF n).length c) (zdigF n).length (ints (zdigF n)) ∧ Below w.heap.size w w' := by
  obtain ⟨i0, hi, hz0, hz1, hz2⟩ := info_parts zint_info
  have hl63 := zdigF_len n hn
  by_cases h0 : n ≤ 0
  · have e0 : zdigF n = [] := by unfold zdigF; rw [show n.toNat = 0 from by omega, zd_zero]; rfl
    rw [e0]
    clear e0 hl63
    go_enter Try.func12, Try.ntmps12
    go_wp2
    go_loopw [0, 3] (fun i v wr => i = .int .i64 n ∧ v = .slice none 0 0 ∧ wr = w) (fun _ _ _ => 0)
    case atStart => exact ⟨rfl, rfl, rfl⟩
    case round =>
      obtain ⟨rfl, rfl, rfl⟩ := hrel
      go_wp2
      go_ret
      exact ⟨none, 0, rfl, Nat.le_refl _, World.ownsRow_nil _ _ _ _, Below.refl _ _⟩
  · obtain ⟨N, rfl⟩ : ∃ N : Nat, n = N := ⟨n.toNat, by omega⟩
    have hD : zdigF (N : Int) = (zd N).map (· + 1) := by unfold zdigF; rw [Int.toNat_natCast]
    have Hstart : Hid ([] ++ (zd N).map (· + 1) = zdigF (N : Int)) := Lib.hid (by rw [hD]; rfl)
    clear hD h0
    generalize zdigF (N : Int) = D at *
    go_enter Try.func12, Try.ntmps12
    go_wp2
    go_loopw [0, 3] (fun i v wr => ∃ (m : Nat) (acc : List Int), i = .int .i64 m ∧ (m : Int) < 9223372036854775808 ∧ Hid (acc ++ (zd m).map (· + 1) = D) ∧ Hid (wr.ownsRow w.heap.size 3 1 v acc.length (ints acc)) ∧ Hid (Below w.heap.size w wr)) (fun i _ _ => (intOf i).toNat)
    case atStart => exact ⟨N, [], rfl, hn, Hstart.out, World.ownsRow_nil _ _ _ _, Below.refl _ _⟩
    case round =>
      obtain ⟨m, acc, rfl, hm, Hacc, Hown, Hb⟩ := hrel
      cases m with
      | zero =>
        have hf := Hacc.out
        rw [zd_zero] at hf
        simp at hf
        subst hf
        obtain ⟨A2, c2, rfl, hc2, hr2⟩ := owns_cells Hown.out
        clear hr2
        go_wp2
        go_ret
        exact ⟨A2, c2, rfl, hc2, Hown.out, Hb.out⟩
      | succ p =>
        have hf := Hacc.out
        rw [zd_pos _ (by omega), show p + 1 - 1 = p from by omega, List.map_cons] at hf
        have hle : acc.length ≤ 62 := by
          have := congrArg List.length hf
          rw [List.length_append, List.length_cons] at this
          omega
        have hx : ((p % 2 : Nat) : Int) + 1 = 2 - ((p : Int) + 1) % 2 := by omega
        rw [hx] at hf
        have Hn : Hid ((acc ++ [2 - ((p : Int) + 1) % 2]) ++ (zd (p / 2)).map (· + 1) = D) := Lib.hid (by rw [← hf]; simp)
        have hlast : wrap64 ((wrap64 ((p : Int) + 1 - (2 - ((p : Int) + 1) % 2))).tdiv 2) = ((p / 2 : Nat) : Int) := zhalf p (by omega)
        have Hlast := Lib.hid hlast
        have Hm := Lib.hid hm
        have Hle := Lib.hid hle
        have Hszr := Lib.hid Hb.out.size
        clear hm hle hl63 hn hf hx hlast
        go_wp2_with (at_builtin; refine wpList_append_own _ rfl _ _ 22 rfl w.heap.size 3 i0 (.int .i64 0) 1 8 Try.underlying22 hi hz0 hz1 hz2 rfl (by decide) _ _ _ rfl (Hown.out.alloc _) ⟨wr.heap.size, 0, none⟩ 1 1 [.int .i64 (2 - ((p : Int) + 1) % 2)] rfl rfl ?c1 ?c2 ?c3 ?c4 ?c5 ?_)
        case c1 =>
          intro j u hj
          match j, hj with
          | 0, hj => simp at hj; subst hj; simp [Addr.add]
        case c2 => intro u hu; simp at hu; subst hu; rfl
        case c3 => have := Hle.out; unfold maxLen; omega
        case c4 => have := Hle.out; omega
        case c5 => have := Hszr.out; simp; omega
        intro v' w1 hown' hgrow _
        have Hb' : Hid (Below w.heap.size w w1) := Lib.hid ((Below.trans Hb.out (Below.alloc (Below.refl _ _) Hszr.out _)).grown hgrow (by have := Hszr.out; simp; omega) (fun g hg => (Hown.out.lt g hg).1))
        have Hown' : Hid (w1.ownsRow w.heap.size 3 1 v' (acc ++ [2 - ((p : Int) + 1) % 2]).length (ints (acc ++ [2 - ((p : Int) + 1) % 2]))) := Lib.hid (by
          have e1 : (acc ++ [2 - ((p : Int) + 1) % 2]).length = acc.length + 1 := by simp
          have e2 : ints (acc ++ [2 - ((p : Int) + 1) % 2]) = ints acc ++ [.int .i64 (2 - ((p : Int) + 1) % 2)] := by simp [ints]
          rw [e1, e2]
          exact hown')
        clear hown' hgrow
        go_wp2
        go_roundw
        case rel => exact ⟨p / 2, _, iv Hlast.out, by have := Hm.out; omega, Hn.out, Hown'.out, Hb'.out⟩
        case measure =>
          simp only [intOf]
          rw [Hlast.out]
          omega

/-! ### value -/
theorem zv_app (a b : List Int) : zv (a ++ b) = zv a + 2 ^ a.length * zv b := by
  induction a with
  | nil => simp [zv]
  | cons s t ih =>
    simp only [List.cons_append, zv, ih, List.length_cons, Nat.pow_succ]
    rw [Nat.mul_comm (2 ^ t.length) 2, Nat.mul_assoc, Nat.mul_add]
    omega
theorem zv_more (d : List Int) (k : Nat) : zv (d.take k) ≤ zv d := by
  conv => rhs; rw [← List.take_append_drop k d]
  rw [zv_app]
  omega
theorem zv_pow (d : List Int) : ∀ k, k ≤ d.length → 2 ^ k ≤ zv (d.take k) + 1
  | 0, _ => by simp
  | k + 1, h => by
    have ih := zv_pow d k (by omega)
    rw [zv_take d k (by omega), Nat.pow_succ, Nat.mul_add]
    omega

set_option maxRecDepth 100000 in
set_option maxHeartbeats 1000000 in
theorem zref_value_any (d : List Int) (hg : zgood 1 d = true) (A : Option Addr) (n c : Nat) (w : World) (hm : n ≤ 4611686018427387904) (hr : Reads w w.heap.size 1 A n (ints (d.map (· + 1)))) :
    Calls Try.prog 25 #[.slice A n c] w fun e w' => e = .returned (.int .i64 (zval d : Int)) ∧ w' = w := by
  have en : d.length = n := by have := hr.1; rw [ints_length, List.length_map] at this; omega
  have Hcell : Hid (0 < n → ∃ b off, A = some ⟨b, off, none⟩ ∧ ∀ k, (hk : k < d.length) → w.cell? ⟨b, off + k, none⟩ = some (.int .i64 (d[k] + 1))) := Lib.hid fun h => by
    obtain ⟨b, off, e, hb, hc⟩ := hr.2 h
    refine ⟨b, off, e, fun k hk => hc k _ ?_⟩
    rw [ints_get _ k (by simpa using hk)]
    simp
  have Hgood : Hid (∀ k (hk : k < d.length), 0 ≤ d[k] ∧ d[k] ≤ 1) := Lib.hid (zgood_get hg)
  have Htake : Hid (∀ k (hk : k < d.length), zv (d.take (k + 1)) = zv (d.take k) + 2 ^ k * (d[k].toNat + 1)) := Lib.hid (zv_take d)
  have Hpow : Hid (∀ k, k ≤ d.length → 2 ^ k ≤ zv (d.take k) + 1) := Lib.hid (zv_pow d)
  have Hmore : Hid (∀ k, zv (d.take k) ≤ zv d) := Lib.hid (zv_more d)
  have Hall : Hid (zv (d.take n) = zv d) := Lib.hid (by rw [List.take_of_length_le (by omega)])
  have En := Lib.hid en
  obtain ⟨z, hz0⟩ : ∃ z : Int, (zval d : Int) = z := ⟨_, rfl⟩
  have Hval : Hid (z = ((min (zv d) 100001 : Nat) : Int)) := Lib.hid (by rw [← hz0]; rfl)
  rw [hz0]
  clear hr hg en hz0
  go_enter Try.func25, Try.ntmps25
  go_wp2
  go_loop [3, 4, 5] (fun a p i => ∃ k N P : Nat, k ≤ n ∧ a = .int .i64 N ∧ p = .int .i64 P ∧ i = .int .i64 k ∧ N ≤ 100001 ∧ P ≤ N + 1 ∧ Hid (N = zv (d.take k) ∧ P = 2 ^ k)) (fun _ _ i => n - (intOf i).toNat)
  case atStart => exact ⟨0, 0, 1, by omega, rfl, rfl, rfl, by omega, by omega, Lib.hid ⟨rfl, rfl⟩⟩
  case round =>
    obtain ⟨k, N, P, hk, rfl, rfl, rfl, hN, hP, Hd⟩ := hrel
    by_cases hlt : k < n
    · have hki : (0 : Int) ≤ (k : Int) ∧ (k : Int) < n := by omega
      have hkl : k < d.length := by rw [En.out]; exact hlt
      obtain ⟨b, off, rfl, hc⟩ := Hcell.out (by omega)
      have hcell := hc k hkl
      have hs := Hgood.out k hkl
      have ht := Htake.out k hkl
      have hp1 := Hpow.out (k + 1) hkl
      have hm1 := Hmore.out (k + 1)
      rw [← Hd.out.1, ← Hd.out.2] at ht
      obtain ⟨Q, hQ⟩ : ∃ Q : Nat, P * (d[k].toNat + 1) = Q := ⟨_, rfl⟩
      have hmul : (d[k] + 1) * (P : Int) = (Q : Int) := by
        rw [← hQ]
        obtain ⟨s, hs2⟩ : ∃ s : Nat, d[k] = s := ⟨d[k].toNat, by omega⟩
        rw [hs2, Int.toNat_natCast]
        push_cast
        exact Int.mul_comm _ _
      rw [hQ] at ht
      have hP2 : Hid (2 * P = 2 ^ (k + 1)) := Lib.hid (by rw [Nat.pow_succ, ← Hd.out.2]; omega)
      have hQP : P ≤ Q ∧ Q ≤ 2 * P := by
        have h2 : d[k].toNat = 0 ∨ d[k].toNat = 1 := by omega
        rcases h2 with h2 | h2 <;> rw [h2] at hQ <;> omega
      have hz : z = 100001 ∨ N + Q ≤ 100001 := by
        have := Hval.out
        omega
      have Hd2 : Hid (N + Q = zv (d.take (k + 1)) ∧ 2 * P = 2 ^ (k + 1)) := Lib.hid ⟨ht.symm, hP2.out⟩
      have hmax : N + Q ≤ zv d := by omega
      clear hc Hd ht hp1 hm1 hP2 hQ
      by_cases hbig : 100001 - (N : Int) < Q
      · have Hzv : Hid (z = 100001) := Lib.hid (by omega)
        clear hz Hd2 hmax Hval
        generalize d[k] + 1 = x at *
        go_wp2
        go_ret
        exact ⟨by rw [Hzv.out]; rfl, rfl⟩
      · have hp6 : (P : Int) < 1000000 := by omega
        have hQ6 : (Q : Int) ≤ 100001 ∧ 0 ≤ (Q : Int) := by omega
        clear hz hmax Hval
        generalize d[k] + 1 = x at *
        go_wp2
        go_round
        case rel => exact ⟨k + 1, N + Q, 2 * P, by omega, iv (by omega), iv (by omega), iv (by omega), by omega, by omega, Hd2⟩
        case measure => simp only [intOf]; omega
    · obtain rfl : k = n := by omega
      have Hv : Hid (z = N) := Lib.hid (by
        have h1 := Hval.out
        have h2 := Hall.out
        have h3 := Hd.out.1
        omega)
      clear Hd
      go_wp2
      go_ret
      exact ⟨by rw [Hv.out]; rfl, rfl⟩
end Go.Proofs.Ytaabmpmoioipaaa
