/-
  Layer 7: within, all (slices.ContainsFunc over its closure), Digits, for every argument.
-/
import Derived.Test.YtaabmpmoioipaaaZrM
import Derived.Test.YtaabmpmoioipaaaRows
import Derived.Laws.EntriesVeiled
namespace Go.Proofs.Ytaabmpmoioipaaa
set_option linter.unusedSimpArgs false
set_option linter.unusedVariables false
open Go.ChangeShapes Go.WideShapes Go.ChangeAt Go.RowKit Go.Joins Go.Deep

theorem zint_info : (Try.prog.info? 3).map (fun i => (i.zero, i.size, i.bytes)) = some (some (.int .i64 0), 1, 8) := by kernel_rfl
theorem zr_mkfunc (fn : Fn) (first cap : Array Value) (w : World) : (Instr.makeFunc fn first cap).run Try.prog w = .ok (.func fn first cap) w := rfl
/-- Is a number from 0 to top? -/
def zin (top n : Int) : Bool := decide (0 ≤ n) && decide (n ≤ top)
theorem zin_iff (top n : Int) : zin top n = true ↔ 0 ≤ n ∧ n ≤ top := by simp [zin]
theorem zin_no (top n : Int) (h : ¬(0 ≤ n ∧ n ≤ top)) : zin top n = false := by
  cases h2 : zin top n with
  | false => rfl
  | true => exact absurd ((zin_iff top n).1 h2) h

theorem zr_within_any (n top : Int) (w : World) : Calls Try.prog 29 #[.int .i64 n, .int .i64 top] w fun e w' => e = .returned (.bool (zin top n)) ∧ w' = w := by
  by_cases h0 : 0 ≤ n
  · by_cases h1 : n ≤ top
    · have fin : zin top n = true := (zin_iff _ _).2 ⟨h0, h1⟩
      rw [fin]
      clear fin
      go_enter Try.func29, Try.ntmps29
      go_wp2
      go_ret
      exact ⟨rfl, rfl⟩
    · have fin : zin top n = false := zin_no _ _ fun h => h1 h.2
      rw [fin]
      clear fin
      go_enter Try.func29, Try.ntmps29
      go_wp2
      go_ret
      exact ⟨rfl, rfl⟩
  · have fin : zin top n = false := zin_no _ _ fun h => h0 h.1
    rw [fin]
    clear fin
    go_enter Try.func29, Try.ntmps29
    go_wp2
    go_ret
    exact ⟨rfl, rfl⟩

theorem zr_not_any (n top : Int) (pb : Nat) (w : World) (hP : Blk w pb 3 #[.int .i64 top]) : Calls Try.prog 31 #[.int .i64 n, .pointer (some ⟨pb, 0, none⟩)] w fun e w' => e = .returned (.bool (!zin top n)) ∧ w' = w := by
  have c1 : w.cell? ⟨pb, 0, none⟩ = some (.int .i64 top) := hP.cell 0
  clear hP
  go_enter Try.func31, Try.ntmps31
  go_wp2_with (go_at_call 29; refine (zr_within_any n top _).mono ?_; rintro e w1 ⟨rfl, rfl⟩)
  go_ret
  exact ⟨rfl, rfl⟩

set_option maxRecDepth 100000 in
theorem zr_index_any (l : List Int) (top : Int) (A : Option Addr) (n c pb : Nat) (w : World) (hm : n ≤ 4611686018427387904) (hr : Reads w w.heap.size 1 A n (ints l)) (hP : Blk w pb 3 #[.int .i64 top]) :
    Calls Try.prog 33 #[.slice A n c, .func (.func 31) #[] #[.pointer (some ⟨pb, 0, none⟩)]] w fun e w' => ∃ r : Int, e = .returned (.int .i64 r) ∧ (decide (0 ≤ r)) = !zgood top l ∧ w' = w := by
  have en : l.length = n := by have := hr.1; rw [ints_length] at this; omega
  have Hcell : Hid (0 < n → ∃ b off, A = some ⟨b, off, none⟩ ∧ ∀ k, (hk : k < l.length) → w.cell? ⟨b, off + k, none⟩ = some (.int .i64 l[k])) := Lib.hid fun h => by
    obtain ⟨b, off, e, hb, hc⟩ := hr.2 h
    exact ⟨b, off, e, fun k hk => hc k _ (ints_get l k hk)⟩
  have Hcl := Lib.hid fun n => zr_not_any n top pb w hP
  have Hbad : Hid (∀ k (hk : k < l.length), zin top l[k] = false → zgood top l = false) := Lib.hid fun k hk h => zgood_bad k hk fun h2 => by rw [(zin_iff _ _).2 h2] at h; cases h
  have Hgood : Hid ((∀ k (hk : k < l.length), zin top l[k] = true) → zgood top l = true) := Lib.hid fun h => zgood_of fun k hk => (zin_iff _ _).1 (h k hk)
  have En := Lib.hid en
  clear hr hP en
  go_enter Try.func33, Try.ntmps33
  go_wp2
  go_loop [8] (fun i => ∃ k : Nat, k ≤ n ∧ i = .int .i64 k ∧ Hid (∀ j (hj : j < l.length), j < k → zin top l[j] = true)) (fun i => n - (intOf i).toNat)
  case atStart => exact ⟨0, by omega, rfl, fun j _ h => by omega⟩
  case round =>
    obtain ⟨k, hk, rfl, Hk⟩ := hrel
    by_cases hlt : k < n
    · have hkl : k < l.length := by rw [En.out]; exact hlt
      obtain ⟨b, off, rfl, hc⟩ := Hcell.out (by omega)
      have hcell := hc k hkl
      have hki : (0 : Int) ≤ (k : Int) ∧ (k : Int) < n := by omega
      have Hc2 := Lib.hid (Hcl.out l[k])
      clear hc
      cases hz : zin top l[k] with
      | true =>
        have Hn : Hid (∀ j (hj : j < l.length), j < k + 1 → zin top l[j] = true) := Lib.hid fun j hj h => by
          rcases Nat.lt_or_ge j k with h1 | h1
          · exact Hk.out j hj h1
          · obtain rfl : j = k := by omega
            exact hz
        rw [hz] at Hc2
        clear hz Hbad Hgood
        generalize l[k] = x at *
        go_wp2_with (go_at_call 31; refine Hc2.out.mono ?_; rintro e w1 ⟨rfl, rfl⟩)
        go_round
        case rel => exact ⟨k + 1, by omega, iv (by omega), Hn.out⟩
        case measure => simp only [intOf]; omega
      | false =>
        have Hf := Lib.hid (Hbad.out k hkl hz)
        rw [hz] at Hc2
        clear hz Hbad Hgood
        generalize l[k] = x at *
        go_wp2_with (go_at_call 31; refine Hc2.out.mono ?_; rintro e w1 ⟨rfl, rfl⟩)
        go_ret
        exact ⟨_, rfl, by rw [Hf.out]; simp, rfl⟩
    · obtain rfl : k = n := by omega
      have Hg := Lib.hid (Hgood.out fun j hj => Hk.out j hj (by have := En.out; omega))
      clear Hbad Hgood
      go_wp2
      go_ret
      exact ⟨_, rfl, by rw [Hg.out]; rfl, rfl⟩

theorem zr_contains_any (l : List Int) (top : Int) (A : Option Addr) (n c pb : Nat) (w : World) (hm : n ≤ 4611686018427387904) (hr : Reads w w.heap.size 1 A n (ints l)) (hP : Blk w pb 3 #[.int .i64 top]) :
    Calls Try.prog 30 #[.slice A n c, .func (.func 31) #[] #[.pointer (some ⟨pb, 0, none⟩)]] w fun e w' => e = .returned (.bool (!zgood top l)) ∧ w' = w := by
  have Hi := Lib.hid (zr_index_any l top A n c pb w hm hr hP)
  clear hr hP
  generalize zgood top l = g at *
  go_enter Try.func30, Try.ntmps30
  go_wp2_with (go_at_call 33; refine Hi.out.mono ?_; rintro e w1 ⟨r, rfl, hd, rfl⟩; have Hd := Lib.hid hd; clear hd)
  go_ret
  exact ⟨by rw [← Hd.out]; rfl, rfl⟩

theorem zr_all_any (l : List Int) (top : Int) (A : Option Addr) (n c : Nat) (w : World) (hm : n ≤ 4611686018427387904) (hr : Reads w w.heap.size 1 A n (ints l)) :
    Calls Try.prog 17 #[.slice A n c, .int .i64 top] w fun e w' => e = .returned (.bool (zgood top l)) ∧ Below w.heap.size w w' := by
  have hmf := zr_mkfunc
  have hb : Below w.heap.size w (w.alloc (.cells #[.int .i64 top] 3)) := (Below.refl _ _).alloc (Nat.le_refl _) _
  have Hc := Lib.hid (zr_contains_any l top A n c w.heap.size (w.alloc (.cells #[.int .i64 top] 3)) hm ((hr.below hb).more hb.size) (Blk.new w _ _))
  have Hb := Lib.hid hb
  clear hr hb
  generalize zgood top l = g at *
  go_enter Try.func17, Try.ntmps17
  go_wp2_with (go_at_call 30; refine Hc.out.mono ?_; rintro e w1 ⟨rfl, rfl⟩)
  go_ret
  exact ⟨by cases g <;> rfl, Hb.out⟩

/-! ### Digits -/
/-- The digits of any number. -/
def zdigF (n : Int) : List Int := (zd n.toNat).map (· + 1)
theorem zdigF_len (n : Int) (h : n < 9223372036854775808) : (zdigF n).length ≤ 63 := by
  unfold zdigF
  rw [List.length_map, zd_log]
  exact zlog_lt 63 _ (by simp; omega)

set_option maxRecDepth 100000 in
set_option maxHeartbeats 1000000 in
theorem zr_digits_any (n : Int) (hn : n < 9223372036854775808) (w : World) :
    Calls Try.prog 11 #[.int .i64 n] w fun e w' => ∃ A c, e = .returned (.slice A (zdigF n).length c) ∧ (zdigF n).length ≤ c ∧ w'.ownsRow w.heap.size 3 1 (.slice A (zdigF n).length c) (zdigF n).length (ints (zdigF n)) ∧ Below w.heap.size w w' := by
  obtain ⟨i0, hi, hz0, hz1, hz2⟩ := info_parts zint_info
  have hl63 := zdigF_len n hn
  by_cases h0 : n ≤ 0
  · have e0 : zdigF n = [] := by unfold zdigF; rw [show n.toNat = 0 from by omega, zd_zero]; rfl
    rw [e0]
    clear e0 hl63
    go_enter Try.func11, Try.ntmps11
    go_wp2
    go_loopw [0, 3] (fun i v wr => i = .int .i64 n ∧ v = .slice none 0 0 ∧ wr = w) (fun _ _ _ => 0)
    case atStart => exact ⟨rfl, rfl, rfl⟩
    case round =>
      obtain ⟨rfl, rfl, rfl⟩ := hrel
      go_wp2
      go_ret
      exact ⟨none, 0, rfl, Nat.le_refl _, World.ownsRow_nil _ _ _ _, Below.refl _ _⟩
  · obtain ⟨N, rfl⟩ : ∃ N : Nat, n = N := ⟨n.toNat, by omega⟩
    have hD : zdigF (N : Int) = (zd N).map (· + 1) := by unfold zdigF; rw [Int.toNat_natCast]
    have Hstart : Hid ([] ++ (zd N).map (· + 1) = zdigF (N : Int)) := Lib.hid (by rw [hD]; rfl)
    clear hD h0
    generalize zdigF (N : Int) = D at *
    go_enter Try.func11, Try.ntmps11
    go_wp2
    go_loopw [0, 3] (fun i v wr => ∃ (m : Nat) (acc : List Int), i = .int .i64 m ∧ (m : Int) < 9223372036854775808 ∧ Hid (acc ++ (zd m).map (· + 1) = D) ∧ Hid (wr.ownsRow w.heap.size 3 1 v acc.length (ints acc)) ∧ Hid (Below w.heap.size w wr)) (fun i _ _ => (intOf i).toNat)
    case atStart => exact ⟨N, [], rfl, hn, Hstart.out, World.ownsRow_nil _ _ _ _, Below.refl _ _⟩
    case round =>
      obtain ⟨m, acc, rfl, hm, Hacc, Hown, Hb⟩ := hrel
      cases m with
      | zero =>
        have hf := Hacc.out
        rw [zd_zero] at hf
        simp at hf
        subst hf
        obtain ⟨A2, c2, rfl, hc2, hr2⟩ := owns_cells Hown.out
        go_wp2
        go_ret
        exact ⟨A2, c2, rfl, hc2, Hown.out, Hb.out⟩
      | succ p =>
        have hf := Hacc.out
        rw [zd_pos _ (by omega), show p + 1 - 1 = p from by omega, List.map_cons] at hf
        have hle : acc.length ≤ 62 := by
          have := congrArg List.length hf
          rw [List.length_append, List.length_cons] at this
          omega
        have hsub : ((p + 1 : Nat) : Int) - 1 = (p : Int) := by omega
        have hw1 : IntKind.i64.wrap (((p + 1 : Nat) : Int) - 1) = (p : Int) := by rw [IntKind.wrap_i64]; omega
        have hmod : Int.tmod (p : Int) 2 = ((p % 2 : Nat) : Int) := by rw [Int.tmod_eq_emod_of_nonneg (by omega)]; omega
        have hdiv : Int.tdiv (p : Int) 2 = ((p / 2 : Nat) : Int) := by rw [Int.tdiv_eq_ediv_of_nonneg (by omega)]; omega
        have Hn : Hid ((acc ++ [((p % 2 : Nat) : Int) + 1]) ++ (zd (p / 2)).map (· + 1) = D) := Lib.hid (by rw [← hf]; simp)
        have hp2 : p % 2 < 2 := Nat.mod_lt _ (by omega)
        have hszr := Hb.out.size
        have hpp : p / 2 ≤ p := by omega
        clear hf Hacc
        generalize p % 2 = q at *
        generalize p / 2 = m2 at *
        go_wp2_with (at_builtin; refine wpList_append_own _ rfl _ _ 22 rfl w.heap.size 3 i0 (.int .i64 0) 1 8 Try.underlying22 hi hz0 hz1 hz2 rfl (by decide) _ _ _ rfl (Hown.out.alloc _) ⟨wr.heap.size, 0, none⟩ 1 1 [.int .i64 ((q : Int) + 1)] rfl rfl ?c1 ?c2 ?c3 ?c4 ?c5 ?_)
        case c1 =>
          intro j u hj
          match j, hj with
          | 0, hj => simp at hj; subst hj; simp [Addr.add]
        case c2 => intro u hu; simp at hu; subst hu; rfl
        case c3 => unfold maxLen; omega
        case c4 => omega
        case c5 => simp; omega
        intro v' w1 hown' hgrow _
        have Hb' : Hid (Below w.heap.size w w1) := Lib.hid ((Below.trans Hb.out (by go_grown)).grown hgrow (by simp; omega) (fun g hg => (Hown.out.lt g hg).1))
        have Hown' : Hid (w1.ownsRow w.heap.size 3 1 v' (acc ++ [(q : Int) + 1]).length (ints (acc ++ [(q : Int) + 1]))) := Lib.hid (by
          have e1 : (acc ++ [(q : Int) + 1]).length = acc.length + 1 := by simp
          have e2 : ints (acc ++ [(q : Int) + 1]) = ints acc ++ [.int .i64 ((q : Int) + 1)] := by simp [ints]
          rw [e1, e2]
          exact hown')
        clear hown' hgrow
        go_wp2
        go_roundw
        case rel => exact ⟨m2, _, rfl, by omega, Hn.out, Hown'.out, Hb'.out⟩
        case measure => simp only [intOf]; omega
end Go.Proofs.Ytaabmpmoioipaaa
