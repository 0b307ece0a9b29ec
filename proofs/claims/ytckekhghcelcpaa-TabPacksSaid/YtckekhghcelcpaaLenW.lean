/-
  Layer 8, the program's: within, all (slices.ContainsFunc over its closure), for every argument.
-/
import Derived.Test.YtckekhghcelcpaaMore
import Derived.Test.YtckekhghcelcpaaRows
import Derived.Laws.EntriesVeiled
namespace Go.Proofs.Ytckekhghcelcpaa
set_option linter.unusedSimpArgs false
set_option linter.unusedVariables false
open Go.ChangeShapes Go.WideShapes Go.ChangeAt Go.RowKit Go.Joins Go.Deep

/-- All are from 0 to top. -/
def agood (top : Int) (l : List Int) : Bool := l.all fun k => decide (0 ≤ k) && decide (k ≤ top)
theorem agood_get {top : Int} {l : List Int} (h : agood top l = true) (i : Nat) (hi : i < l.length) : 0 ≤ l[i] ∧ l[i] ≤ top := by
  unfold agood at h
  rw [List.all_eq_true] at h
  have := h l[i] (List.getElem_mem hi)
  simpa using this
theorem agood_of {top : Int} {l : List Int} (h : ∀ i (hi : i < l.length), 0 ≤ l[i] ∧ l[i] ≤ top) : agood top l = true := by
  unfold agood
  rw [List.all_eq_true]
  intro x hx
  obtain ⟨i, hi, rfl⟩ := List.getElem_of_mem hx
  simpa using h i hi
theorem agood_bad {top : Int} {l : List Int} (i : Nat) (hi : i < l.length) (hb : ¬(0 ≤ l[i] ∧ l[i] ≤ top)) : agood top l = false := by
  cases h : agood top l with
  | false => rfl
  | true => exact absurd (agood_get h i hi) hb
theorem aint_info : (Try.prog.info? 3).map (fun i => (i.zero, i.size, i.bytes)) = some (some (.int .i64 0), 1, 8) := by kernel_rfl
theorem a_mkfunc (fn : Fn) (first cap : Array Value) (w : World) : (Instr.makeFunc fn first cap).run Try.prog w = .ok (.func fn first cap) w := rfl
/-- Is a number from 0 to top? -/
def ain (top n : Int) : Bool := decide (0 ≤ n) && decide (n ≤ top)
theorem ain_iff (top n : Int) : ain top n = true ↔ 0 ≤ n ∧ n ≤ top := by simp [ain]
theorem ain_no (top n : Int) (h : ¬(0 ≤ n ∧ n ≤ top)) : ain top n = false := by
  cases h2 : ain top n with
  | false => rfl
  | true => exact absurd ((ain_iff top n).1 h2) h

theorem a_within_any (n top : Int) (w : World) : Calls Try.prog 45 #[.int .i64 n, .int .i64 top] w fun e w' => e = .returned (.bool (ain top n)) ∧ w' = w := by
  by_cases h0 : 0 ≤ n
  · by_cases h1 : n ≤ top
    · have fin : ain top n = true := (ain_iff _ _).2 ⟨h0, h1⟩
      rw [fin]
      clear fin
      go_enter Try.func45, Try.ntmps45
      go_wp2
      go_ret
      exact ⟨rfl, rfl⟩
    · have fin : ain top n = false := ain_no _ _ fun h => h1 h.2
      rw [fin]
      clear fin
      go_enter Try.func45, Try.ntmps45
      go_wp2
      go_ret
      exact ⟨rfl, rfl⟩
  · have fin : ain top n = false := ain_no _ _ fun h => h0 h.1
    rw [fin]
    clear fin
    go_enter Try.func45, Try.ntmps45
    go_wp2
    go_ret
    exact ⟨rfl, rfl⟩

theorem a_not_any (n top : Int) (pb : Nat) (w : World) (hP : Blk w pb 3 #[.int .i64 top]) : Calls Try.prog 44 #[.int .i64 n, .pointer (some ⟨pb, 0, none⟩)] w fun e w' => e = .returned (.bool (!ain top n)) ∧ w' = w := by
  have c1 : w.cell? ⟨pb, 0, none⟩ = some (.int .i64 top) := hP.cell 0
  clear hP
  go_enter Try.func44, Try.ntmps44
  go_wp2_with (go_at_call 45; refine (a_within_any n top _).mono ?_; rintro e w1 ⟨rfl, rfl⟩)
  go_ret
  exact ⟨rfl, rfl⟩

set_option maxRecDepth 100000 in
theorem a_index_any (l : List Int) (top : Int) (A : Option Addr) (n c pb : Nat) (w : World) (hm : n ≤ 4611686018427387904) (hr : Reads w w.heap.size 1 A n (ints l)) (hP : Blk w pb 3 #[.int .i64 top]) :
    Calls Try.prog 51 #[.slice A n c, .func (.func 44) #[] #[.pointer (some ⟨pb, 0, none⟩)]] w fun e w' => ∃ r : Int, e = .returned (.int .i64 r) ∧ (decide (0 ≤ r)) = !agood top l ∧ w' = w := by
  have en : l.length = n := by have := hr.1; rw [ints_length] at this; omega
  have Hcell : Hid (0 < n → ∃ b off, A = some ⟨b, off, none⟩ ∧ ∀ k, (hk : k < l.length) → w.cell? ⟨b, off + k, none⟩ = some (.int .i64 l[k])) := Lib.hid fun h => by
    obtain ⟨b, off, e, hb, hc⟩ := hr.2 h
    exact ⟨b, off, e, fun k hk => hc k _ (ints_get l k hk)⟩
  have Hcl := Lib.hid fun n => a_not_any n top pb w hP
  have Hbad : Hid (∀ k (hk : k < l.length), ain top l[k] = false → agood top l = false) := Lib.hid fun k hk h => agood_bad k hk fun h2 => by rw [(ain_iff _ _).2 h2] at h; cases h
  have Hgood : Hid ((∀ k (hk : k < l.length), ain top l[k] = true) → agood top l = true) := Lib.hid fun h => agood_of fun k hk => (ain_iff _ _).1 (h k hk)
  have En := Lib.hid en
  clear hr hP en
  go_enter Try.func51, Try.ntmps51
  go_wp2
  go_loop [8] (fun i => ∃ k : Nat, k ≤ n ∧ i = .int .i64 k ∧ Hid (∀ j (hj : j < l.length), j < k → ain top l[j] = true)) (fun i => n - (intOf i).toNat)
  case atStart => exact ⟨0, by omega, rfl, fun j _ h => by omega⟩
  case round =>
    obtain ⟨k, hk, rfl, Hk⟩ := hrel
    by_cases hlt : k < n
    · have hkl : k < l.length := by rw [En.out]; exact hlt
      obtain ⟨b, off, rfl, hc⟩ := Hcell.out (by omega)
      have hcell := hc k hkl
      have hki : (0 : Int) ≤ (k : Int) ∧ (k : Int) < n := by omega
      have Hc2 := Lib.hid (Hcl.out l[k])
      clear hc
      cases hz : ain top l[k] with
      | true =>
        have Hn : Hid (∀ j (hj : j < l.length), j < k + 1 → ain top l[j] = true) := Lib.hid fun j hj h => by
          rcases Nat.lt_or_ge j k with h1 | h1
          · exact Hk.out j hj h1
          · obtain rfl : j = k := by omega
            exact hz
        rw [hz] at Hc2
        clear hz Hbad Hgood
        generalize l[k] = x at *
        go_wp2_with (go_at_call 44; refine Hc2.out.mono ?_; rintro e w1 ⟨rfl, rfl⟩)
        go_round
        case rel => exact ⟨k + 1, by omega, iv (by omega), Hn.out⟩
        case measure => simp only [intOf]; omega
      | false =>
        have Hf := Lib.hid (Hbad.out k hkl hz)
        rw [hz] at Hc2
        clear hz Hbad Hgood
        generalize l[k] = x at *
        go_wp2_with (go_at_call 44; refine Hc2.out.mono ?_; rintro e w1 ⟨rfl, rfl⟩)
        go_ret
        exact ⟨_, rfl, by rw [Hf.out]; simp, rfl⟩
    · obtain rfl : k = n := by omega
      have Hg := Lib.hid (Hgood.out fun j hj => Hk.out j hj (by have := En.out; omega))
      clear Hbad Hgood
      go_wp2
      go_ret
      exact ⟨_, rfl, by rw [Hg.out]; rfl, rfl⟩

theorem a_contains_any (l : List Int) (top : Int) (A : Option Addr) (n c pb : Nat) (w : World) (hm : n ≤ 4611686018427387904) (hr : Reads w w.heap.size 1 A n (ints l)) (hP : Blk w pb 3 #[.int .i64 top]) :
    Calls Try.prog 43 #[.slice A n c, .func (.func 44) #[] #[.pointer (some ⟨pb, 0, none⟩)]] w fun e w' => e = .returned (.bool (!agood top l)) ∧ w' = w := by
  have Hi := Lib.hid (a_index_any l top A n c pb w hm hr hP)
  clear hr hP
  generalize agood top l = g at *
  go_enter Try.func43, Try.ntmps43
  go_wp2_with (go_at_call 51; refine Hi.out.mono ?_; rintro e w1 ⟨r, rfl, hd, rfl⟩; have Hd := Lib.hid hd; clear hd)
  go_ret
  exact ⟨by rw [← Hd.out]; rfl, rfl⟩

theorem a_all_any (l : List Int) (top : Int) (A : Option Addr) (n c : Nat) (w : World) (hm : n ≤ 4611686018427387904) (hr : Reads w w.heap.size 1 A n (ints l)) :
    Calls Try.prog 35 #[.slice A n c, .int .i64 top] w fun e w' => e = .returned (.bool (agood top l)) ∧ Below w.heap.size w w' := by
  have hmf := a_mkfunc
  have hb : Below w.heap.size w (w.alloc (.cells #[.int .i64 top] 3)) := (Below.refl _ _).alloc (Nat.le_refl _) _
  have Hc := Lib.hid (a_contains_any l top A n c w.heap.size (w.alloc (.cells #[.int .i64 top] 3)) hm ((hr.below hb).more hb.size) (Blk.new w _ _))
  have Hb := Lib.hid hb
  clear hr hb
  generalize agood top l = g at *
  go_enter Try.func35, Try.ntmps35
  go_wp2_with (go_at_call 43; refine Hc.out.mono ?_; rintro e w1 ⟨rfl, rfl⟩)
  go_ret
  exact ⟨by cases g <;> rfl, Hb.out⟩

end Go.Proofs.Ytckekhghcelcpaa
