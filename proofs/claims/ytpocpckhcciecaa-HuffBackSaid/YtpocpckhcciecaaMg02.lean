/-
  What the law of the last of these texts stands on, part 2.
-/
import Derived.Test.YtpocpckhcciecaaRows
import Derived.Test.YtpocpckhcciecaaMg01
import Derived.Laws.EntriesVeiled
import Derived.WalkKit
import Derived.WalkSpells
import Derived.WalkLawsBesides
import Derived.ProofKit
import Derived.OpenShut
import Derived.Handy
import Derived.SizedLaws
import Derived.JoinedOf
import Derived.KernelRfl
import Derived.Lib.Hide
import Derived.Lib.SmallJoins
import Derived.Deep.Slices
import Derived.Deep.Fields
import Derived.Deep.SlicePairs
import Derived.Deep.Draws
import Derived.Deep.AppendLies
import Derived.Deep.QuietTactic
import Derived.BigQuiet
import Derived.Deep.RegionHeld3
import Derived.StillTailTactics
import Derived.Laws.OwnMore
import Derived.Laws.Rows
import Derived.Below
import Derived.Carry
import Derived.WalkMore
import Derived.Laws.BytesString
import Derived.Laws.BitsLemmas
import Derived.Laws.Concat
import Derived.Deep.Upon
namespace Go.Proofs.Ytpocpckhcciecaa
set_option linter.unusedSimpArgs false
set_option linter.unusedVariables false
open Go.ChangeShapes Go.WideShapes Go.ChangeAt Go.RowKit Go.Joins Go.Deep
/-- All are from 0 to top. -/
def agood (top : Int) (l : List Int) : Bool := l.all fun k => decide (0 ≤ k) && decide (k ≤ top)
theorem agood_get {top : Int} {l : List Int} (h : agood top l = true) (i : Nat) (hi : i < l.length) : 0 ≤ l[i] ∧ l[i] ≤ top := by
  unfold agood at h
  rw [List.all_eq_true] at h
  have := h l[i] (List.getElem_mem hi)
  simpa using this
theorem agood_of {top : Int} {l : List Int} (h : ∀ i (hi : i < l.length), 0 ≤ l[i] ∧ l[i] ≤ top) : agood top l = true := by
  unfold agood
  rw [List.all_eq_true]
  intro x hx
  obtain ⟨i, hi, rfl⟩ := List.getElem_of_mem hx
  simpa using h i hi
theorem agood_bad {top : Int} {l : List Int} (i : Nat) (hi : i < l.length) (hb : ¬(0 ≤ l[i] ∧ l[i] ≤ top)) : agood top l = false := by
  cases h : agood top l with
  | false => rfl
  | true => exact absurd (agood_get h i hi) hb
theorem aint_info : (Try.prog.info? 3).map (fun i => (i.zero, i.size, i.bytes)) = some (some (.int .i64 0), 1, 8) := by kernel_rfl
theorem a_mkfunc (fn : Fn) (first cap : Array Value) (w : World) : (Instr.makeFunc fn first cap).run Try.prog w = .ok (.func fn first cap) w := rfl
/-- Is a number from 0 to top? -/
def ain (top n : Int) : Bool := decide (0 ≤ n) && decide (n ≤ top)
theorem ain_iff (top n : Int) : ain top n = true ↔ 0 ≤ n ∧ n ≤ top := by simp [ain]
theorem ain_no (top n : Int) (h : ¬(0 ≤ n ∧ n ≤ top)) : ain top n = false := by
  cases h2 : ain top n with
  | false => rfl
  | true => exact absurd ((ain_iff top n).1 h2) h
theorem a_within_any (n top : Int) (w : World) : Calls Try.prog 40 #[.int .i64 n, .int .i64 top] w fun e w' => e = .returned (.bool (ain top n)) ∧ w' = w := by
  by_cases h0 : 0 ≤ n
  · by_cases h1 : n ≤ top
    · have fin : ain top n = true := (ain_iff _ _).2 ⟨h0, h1⟩
      rw [fin]
      clear fin
      go_enter Try.func40, Try.ntmps40
      go_wp2
      go_ret
      exact ⟨rfl, rfl⟩
    · have fin : ain top n = false := ain_no _ _ fun h => h1 h.2
      rw [fin]
      clear fin
      go_enter Try.func40, Try.ntmps40
      go_wp2
      go_ret
      exact ⟨rfl, rfl⟩
  · have fin : ain top n = false := ain_no _ _ fun h => h0 h.1
    rw [fin]
    clear fin
    go_enter Try.func40, Try.ntmps40
    go_wp2
    go_ret
    exact ⟨rfl, rfl⟩
theorem a_not_any (n top : Int) (pb : Nat) (w : World) (hP : Blk w pb 3 #[.int .i64 top]) : Calls Try.prog 58 #[.int .i64 n, .pointer (some ⟨pb, 0, none⟩)] w fun e w' => e = .returned (.bool (!ain top n)) ∧ w' = w := by
  have c1 : w.cell? ⟨pb, 0, none⟩ = some (.int .i64 top) := hP.cell 0
  clear hP
  go_enter Try.func58, Try.ntmps58
  go_wp2_with (go_at_call 40; refine (a_within_any n top _).mono ?_; rintro e w1 ⟨rfl, rfl⟩)
  go_ret
  exact ⟨rfl, rfl⟩
set_option maxRecDepth 100000 in
theorem a_index_any (l : List Int) (top : Int) (A : Option Addr) (n c pb : Nat) (w : World) (hm : n ≤ 4611686018427387904) (hr : Reads w w.heap.size 1 A n (ints l)) (hP : Blk w pb 3 #[.int .i64 top]) :
    Calls Try.prog 77 #[.slice A n c, .func (.func 58) #[] #[.pointer (some ⟨pb, 0, none⟩)]] w fun e w' => ∃ r : Int, e = .returned (.int .i64 r) ∧ (decide (0 ≤ r)) = !agood top l ∧ w' = w := by
  have en : l.length = n := by have := hr.1; rw [ints_length] at this; omega
  have Hcell : Hid (0 < n → ∃ b off, A = some ⟨b, off, none⟩ ∧ ∀ k, (hk : k < l.length) → w.cell? ⟨b, off + k, none⟩ = some (.int .i64 l[k])) := Lib.hid fun h => by
    obtain ⟨b, off, e, hb, hc⟩ := hr.2 h
    exact ⟨b, off, e, fun k hk => hc k _ (ints_get l k hk)⟩
  have Hcl := Lib.hid fun n => a_not_any n top pb w hP
  have Hbad : Hid (∀ k (hk : k < l.length), ain top l[k] = false → agood top l = false) := Lib.hid fun k hk h => agood_bad k hk fun h2 => by rw [(ain_iff _ _).2 h2] at h; cases h
  have Hgood : Hid ((∀ k (hk : k < l.length), ain top l[k] = true) → agood top l = true) := Lib.hid fun h => agood_of fun k hk => (ain_iff _ _).1 (h k hk)
  have En := Lib.hid en
  clear hr hP en
  go_enter Try.func77, Try.ntmps77
  go_wp2
  go_loop [8] (fun i => ∃ k : Nat, k ≤ n ∧ i = .int .i64 k ∧ Hid (∀ j (hj : j < l.length), j < k → ain top l[j] = true)) (fun i => n - (intOf i).toNat)
  case atStart => exact ⟨0, by omega, rfl, fun j _ h => by omega⟩
  case round =>
    obtain ⟨k, hk, rfl, Hk⟩ := hrel
    by_cases hlt : k < n
    · have hkl : k < l.length := by rw [En.out]; exact hlt
      obtain ⟨b, off, rfl, hc⟩ := Hcell.out (by omega)
      have hcell := hc k hkl
      have hki : (0 : Int) ≤ (k : Int) ∧ (k : Int) < n := by omega
      have Hc2 := Lib.hid (Hcl.out l[k])
      clear hc
      cases hz : ain top l[k] with
      | true =>
        have Hn : Hid (∀ j (hj : j < l.length), j < k + 1 → ain top l[j] = true) := Lib.hid fun j hj h => by
          rcases Nat.lt_or_ge j k with h1 | h1
          · exact Hk.out j hj h1
          · obtain rfl : j = k := by omega
            exact hz
        rw [hz] at Hc2
        clear hz Hbad Hgood
        generalize l[k] = x at *
        go_wp2_with (go_at_call 58; refine Hc2.out.mono ?_; rintro e w1 ⟨rfl, rfl⟩)
        go_round
        case rel => exact ⟨k + 1, by omega, iv (by omega), Hn.out⟩
        case measure => simp only [intOf]; omega
      | false =>
        have Hf := Lib.hid (Hbad.out k hkl hz)
        rw [hz] at Hc2
        clear hz Hbad Hgood
        generalize l[k] = x at *
        go_wp2_with (go_at_call 58; refine Hc2.out.mono ?_; rintro e w1 ⟨rfl, rfl⟩)
        go_ret
        exact ⟨_, rfl, by rw [Hf.out]; simp, rfl⟩
    · obtain rfl : k = n := by omega
      have Hg := Lib.hid (Hgood.out fun j hj => Hk.out j hj (by have := En.out; omega))
      clear Hbad Hgood
      go_wp2
      go_ret
      exact ⟨_, rfl, by rw [Hg.out]; rfl, rfl⟩
theorem a_contains_any (l : List Int) (top : Int) (A : Option Addr) (n c pb : Nat) (w : World) (hm : n ≤ 4611686018427387904) (hr : Reads w w.heap.size 1 A n (ints l)) (hP : Blk w pb 3 #[.int .i64 top]) :
    Calls Try.prog 57 #[.slice A n c, .func (.func 58) #[] #[.pointer (some ⟨pb, 0, none⟩)]] w fun e w' => e = .returned (.bool (!agood top l)) ∧ w' = w := by
  have Hi := Lib.hid (a_index_any l top A n c pb w hm hr hP)
  clear hr hP
  generalize agood top l = g at *
  go_enter Try.func57, Try.ntmps57
  go_wp2_with (go_at_call 77; refine Hi.out.mono ?_; rintro e w1 ⟨r, rfl, hd, rfl⟩; have Hd := Lib.hid hd; clear hd)
  go_ret
  exact ⟨by rw [← Hd.out]; rfl, rfl⟩
theorem a_all_any (l : List Int) (top : Int) (A : Option Addr) (n c : Nat) (w : World) (hm : n ≤ 4611686018427387904) (hr : Reads w w.heap.size 1 A n (ints l)) :
    Calls Try.prog 35 #[.slice A n c, .int .i64 top] w fun e w' => e = .returned (.bool (agood top l)) ∧ Below w.heap.size w w' := by
  have hmf := a_mkfunc
  have hb : Below w.heap.size w (w.alloc (.cells #[.int .i64 top] 3)) := (Below.refl _ _).alloc (Nat.le_refl _) _
  have Hc := Lib.hid (a_contains_any l top A n c w.heap.size (w.alloc (.cells #[.int .i64 top] 3)) hm ((hr.below hb).more hb.size) (Blk.new w _ _))
  have Hb := Lib.hid hb
  clear hr hb
  generalize agood top l = g at *
  go_enter Try.func35, Try.ntmps35
  go_wp2_with (go_at_call 57; refine Hc.out.mono ?_; rintro e w1 ⟨rfl, rfl⟩)
  go_ret
  exact ⟨by cases g <;> rfl, Hb.out⟩
end Go.Proofs.Ytpocpckhcciecaa
namespace Go.Proofs.Ytpocpckhcciecaa
set_option linter.unusedSimpArgs false
set_option linter.unusedVariables false
open Go.ChangeShapes Go.WideShapes Go.ChangeAt Go.RowKit Go.Joins Go.Deep
/-- A thing weighs something, and has symbols. -/
structure LTh where
  w : Int
  syms : List Nat
  leaf : Bool
/-- One thing may stand ahead of another one. -/
def lle (a b : LTh) : Bool := decide (a.w < b.w) || (decide (a.w = b.w) && (a.leaf || !b.leaf))
/-- A thing is put into a row, behind all that may stand ahead of it. -/
def lput : List LTh → LTh → List LTh
  | [], x => [x]
  | y :: t, x => if lle y x = true then y :: lput t x else x :: y :: t
def lpack (a b : LTh) : LTh := ⟨a.w + b.w, a.syms ++ b.syms, false⟩
def lpacks : List LTh → List LTh
  | a :: b :: t => lpack a b :: lpacks t
  | _ => []
def lnext (row leaves : List LTh) : List LTh := leaves.foldl lput ((lpacks row).foldl lput [])
/-- The rows, the first one under 0. -/
def lrow (leaves : List LTh) : Nat → List LTh
  | 0 => leaves
  | k + 1 => lnext (lrow leaves k) leaves
theorem lle_iff (a b : LTh) : lle a b = true ↔ a.w < b.w ∨ (a.w = b.w ∧ (a.leaf = true ∨ b.leaf = false)) := by simp [lle]
theorem lle_w {a b : LTh} (h : lle a b = true) : a.w ≤ b.w := by rw [lle_iff] at h; omega
theorem lle_trans {a b c : LTh} (h : lle a b = true) (k : lle b c = true) : lle a c = true := by
  rw [lle_iff] at *
  rcases h with h | ⟨h, h2⟩ <;> rcases k with k | ⟨k, k2⟩
  · exact Or.inl (by omega)
  · exact Or.inl (by omega)
  · exact Or.inl (by omega)
  · refine Or.inr ⟨by omega, ?_⟩
    rcases h2 with h2 | h2
    · exact Or.inl h2
    · rcases k2 with k2 | k2
      · rw [k2] at h2; cases h2
      · exact Or.inr k2
theorem lle_total {a b : LTh} (h : lle a b = false) : lle b a = true := by
  have h' : ¬ lle a b = true := by rw [h]; decide
  rw [lle_iff] at *
  rcases Int.lt_trichotomy a.w b.w with h1 | h1 | h1
  · exact absurd (Or.inl h1) h'
  · refine Or.inr ⟨h1.symm, ?_⟩
    cases hb : b.leaf with
    | true => exact Or.inl rfl
    | false => exact absurd (Or.inr ⟨h1, Or.inr hb⟩) h'
  · exact Or.inl h1
theorem lle_refl (a : LTh) : lle a a = true := by
  rw [lle_iff]
  refine Or.inr ⟨rfl, ?_⟩
  cases a.leaf <;> simp
/-- How a row is parted by what is put into it. -/
theorem lput_split (x : LTh) : ∀ row : List LTh, ∃ r1 r2, row = r1 ++ r2 ∧ lput row x = r1 ++ x :: r2 ∧ (∀ y ∈ r1, lle y x = true) ∧ ∀ y t, r2 = y :: t → lle y x = false
  | [] => ⟨[], [], rfl, rfl, by simp, by simp⟩
  | y :: t => by
    obtain ⟨r1, r2, h1, h2, h3, h4⟩ := lput_split x t
    by_cases h : lle y x = true
    · refine ⟨y :: r1, r2, by rw [h1]; rfl, by unfold lput; rw [if_pos h, h2]; rfl, ?_, h4⟩
      intro z hz
      rcases List.mem_cons.1 hz with rfl | hz
      · exact h
      · exact h3 z hz
    · refine ⟨[], y :: t, rfl, by unfold lput; rw [if_neg h]; rfl, by simp, ?_⟩
      intro z u e
      injection e with e _
      subst e
      simpa using h
/-- A row: in order, its leaves and its packages in theirs. -/
structure LRow (leaves packs R : List LTh) : Prop where
  order : R.Pairwise (fun a b => lle a b = true)
  lv : R.filter (fun x => x.leaf) = leaves
  pk : R.filter (fun x => !x.leaf) = packs
theorem lput_end (x : LTh) : ∀ row : List LTh, (∀ y ∈ row, lle y x = true) → lput row x = row ++ [x]
  | [], _ => rfl
  | y :: t, h => by
    unfold lput
    rw [if_pos (h y (List.mem_cons_self ..)), lput_end x t fun z hz => h z (List.mem_cons_of_mem _ hz)]
    rfl
/-- Things that are in order already are put as they stand. -/
theorem lput_all : ∀ (xs acc : List LTh), (acc ++ xs).Pairwise (fun a b => lle a b = true) → xs.foldl lput acc = acc ++ xs
  | [], acc, _ => by simp
  | x :: t, acc, h => by
    rw [List.foldl_cons, lput_end x acc fun y hy => (List.pairwise_append.1 h).2.2 y hy x (List.mem_cons_self ..)]
    rw [lput_all t (acc ++ [x]) (by rw [List.append_assoc]; exact h), List.append_assoc]
    rfl
/-- A leaf that weighs no less than all that are there is put behind them, and the packages stay as they are. -/
theorem lput_leaf {leaves packs R : List LTh} (h : LRow leaves packs R) (x : LTh) (hx : x.leaf = true) (hle : ∀ y ∈ leaves, y.w ≤ x.w) : LRow (leaves ++ [x]) packs (lput R x) := by
  obtain ⟨r1, r2, h1, h2, h3, h4⟩ := lput_split x R
  have ho := h.order
  rw [h1] at ho
  obtain ⟨o1, o2, o3⟩ := List.pairwise_append.1 ho
  have hx2 : ∀ z ∈ r2, lle x z = true := by
    intro z hz
    cases hr : r2 with
    | nil => rw [hr] at hz; cases hz
    | cons y t =>
      have hy := lle_total (h4 y t hr)
      rw [hr] at hz o2
      rcases List.mem_cons.1 hz with rfl | hz
      · exact hy
      · exact lle_trans hy ((List.pairwise_cons.1 o2).1 z hz)
  have hnl : ∀ z ∈ r2, z.leaf = false := by
    intro z hz
    cases hzl : z.leaf with
    | false => rfl
    | true =>
      exfalso
      have hzw : z.w ≤ x.w := hle z (by rw [← h.lv, h1]; exact List.mem_filter.2 ⟨List.mem_append_right _ hz, hzl⟩)
      cases hr : r2 with
      | nil => rw [hr] at hz; cases hz
      | cons y t =>
        have hy := h4 y t hr
        have hyz : lle y z = true := by
          rw [hr] at hz o2
          rcases List.mem_cons.1 hz with rfl | hz
          · exact lle_refl _
          · exact (List.pairwise_cons.1 o2).1 z hz
        have hzx : lle z x = true := by
          rw [lle_iff]
          rcases Int.lt_or_eq_of_le hzw with h5 | h5
          · exact Or.inl h5
          · exact Or.inr ⟨h5, Or.inl hzl⟩
        rw [lle_trans hyz hzx] at hy
        cases hy
  have hf2 : r2.filter (fun x => x.leaf) = [] := List.filter_eq_nil_iff.2 fun z hz => by rw [hnl z hz]; decide
  refine ⟨?_, ?_, ?_⟩
  · rw [h2, List.pairwise_append]
    refine ⟨o1, List.pairwise_cons.2 ⟨hx2, o2⟩, ?_⟩
    intro a ha b hb
    rcases List.mem_cons.1 hb with rfl | hb
    · exact h3 a ha
    · exact o3 a ha b hb
  · rw [h2, ← h.lv, h1, List.filter_append, List.filter_append, List.filter_cons, hf2, if_pos (by simpa using hx), List.append_nil]
  · rw [h2, ← h.pk, h1, List.filter_append, List.filter_append, List.filter_cons, if_neg (by simp [hx])]
/-- Leaves in order. -/
structure LLeaves (leaves : List LTh) : Prop where
  all : ∀ x ∈ leaves, x.leaf = true
  order : leaves.Pairwise (fun a b => a.w ≤ b.w)
theorem lputs_leaves : ∀ (xs leaves packs R : List LTh), LRow leaves packs R → (∀ x ∈ xs, x.leaf = true) → (leaves ++ xs).Pairwise (fun a b => a.w ≤ b.w) → LRow (leaves ++ xs) packs (xs.foldl lput R)
  | [], leaves, packs, R, h, _, _ => by simpa using h
  | x :: t, leaves, packs, R, h, ha, ho => by
    have h1 := lput_leaf h x (ha x (List.mem_cons_self ..)) fun y hy => (List.pairwise_append.1 ho).2.2 y hy x (List.mem_cons_self ..)
    have := lputs_leaves t (leaves ++ [x]) packs (lput R x) h1 (fun z hz => ha z (List.mem_cons_of_mem _ hz)) (by rw [List.append_assoc]; exact ho)
    rw [List.append_assoc] at this
    exact this
theorem lpacks_leaf : ∀ (R : List LTh), ∀ x ∈ lpacks R, x.leaf = false
  | [], x, h => by cases h
  | [_], x, h => by cases h
  | a :: b :: t, x, h => by
    rcases List.mem_cons.1 h with rfl | h
    · rfl
    · exact lpacks_leaf t x h
theorem lpacks_ge : ∀ (R : List LTh) (c : Int), (∀ x ∈ R, c ≤ x.w) → ∀ x ∈ lpacks R, c + c ≤ x.w
  | [], c, _, x, h => by cases h
  | [_], c, _, x, h => by cases h
  | a :: b :: t, c, hc, x, h => by
    rcases List.mem_cons.1 h with rfl | h
    · have h1 := hc a (by simp)
      have h2 := hc b (by simp)
      show c + c ≤ a.w + b.w
      omega
    · exact lpacks_ge t c (fun y hy => hc y (by simp [hy])) x h
theorem lpacks_order : ∀ (R : List LTh), R.Pairwise (fun a b => a.w ≤ b.w) → (lpacks R).Pairwise (fun a b => lle a b = true)
  | [], _ => List.Pairwise.nil
  | [_], _ => List.Pairwise.nil
  | a :: b :: t, h => by
    obtain ⟨h1, h2⟩ := List.pairwise_cons.1 h
    obtain ⟨h3, h4⟩ := List.pairwise_cons.1 h2
    refine List.pairwise_cons.2 ⟨?_, lpacks_order t h4⟩
    intro x hx
    have hb := lpacks_ge t b.w h3 x hx
    have hab := h1 b (List.mem_cons_self ..)
    rw [lle_iff]
    have hw : (lpack a b).w ≤ x.w := by show a.w + b.w ≤ x.w; omega
    rcases Int.lt_or_eq_of_le hw with h5 | h5
    · exact Or.inl h5
    · exact Or.inr ⟨h5, Or.inr (lpacks_leaf t x hx)⟩
theorem lpacks_len : ∀ (R : List LTh), (lpacks R).length = R.length / 2
  | [] => rfl
  | [_] => by simp [lpacks]
  | a :: b :: t => by
    show (lpacks t).length + 1 = (t.length + 1 + 1) / 2
    rw [lpacks_len t]
    omega
theorem lorder_w {R : List LTh} (h : R.Pairwise (fun a b => lle a b = true)) : R.Pairwise (fun a b => a.w ≤ b.w) := h.imp lle_w
theorem lnext_row {leaves row : List LTh} (hl : LLeaves leaves) (hr : row.Pairwise (fun a b => a.w ≤ b.w)) : LRow leaves (lpacks row) (lnext row leaves) := by
  have hp := lpacks_order row hr
  have h0 : LRow [] (lpacks row) ((lpacks row).foldl lput []) := by
    rw [lput_all (lpacks row) [] (by simpa using hp), List.nil_append]
    exact ⟨hp, List.filter_eq_nil_iff.2 fun z hz => by rw [lpacks_leaf row z hz]; decide, List.filter_eq_self.2 fun z hz => by rw [lpacks_leaf row z hz]; rfl⟩
  have := lputs_leaves leaves [] (lpacks row) _ h0 hl.all (by simpa using hl.order)
  simpa [lnext] using this
theorem lrow_order {leaves : List LTh} (hl : LLeaves leaves) : ∀ k, (lrow leaves k).Pairwise (fun a b => a.w ≤ b.w)
  | 0 => hl.order
  | k + 1 => lorder_w (lnext_row hl (lrow_order hl k)).order
theorem lrow_row {leaves : List LTh} (hl : LLeaves leaves) (k : Nat) : LRow leaves (lpacks (lrow leaves k)) (lrow leaves (k + 1)) := lnext_row hl (lrow_order hl k)
theorem lfilters_len (R : List LTh) : R.length = (R.filter (fun x => x.leaf)).length + (R.filter (fun x => !x.leaf)).length := by
  induction R with
  | nil => rfl
  | cons a t ih =>
    rw [List.filter_cons, List.filter_cons]
    cases a.leaf <;> simp <;> omega
theorem lrow_len {leaves : List LTh} (hl : LLeaves leaves) (k : Nat) : (lrow leaves (k + 1)).length = leaves.length + (lrow leaves k).length / 2 := by
  have h := lrow_row hl k
  rw [lfilters_len, h.lv, h.pk, lpacks_len]
def lsum (f : LTh → Int) : List LTh → Int
  | [] => 0
  | x :: t => f x + lsum f t
theorem lsum_app (f : LTh → Int) : ∀ a b : List LTh, lsum f (a ++ b) = lsum f a + lsum f b
  | [], b => by simp [lsum]
  | x :: t, b => by
    show f x + lsum f (t ++ b) = f x + lsum f t + lsum f b
    rw [lsum_app f t b]
    omega
theorem lsum_parts (f : LTh → Int) (R : List LTh) : lsum f R = lsum f (R.filter (fun x => x.leaf)) + lsum f (R.filter (fun x => !x.leaf)) := by
  induction R with
  | nil => rfl
  | cons a t ih =>
    rw [List.filter_cons, List.filter_cons]
    cases a.leaf <;> simp [lsum] <;> omega
/-- What adds up over packages. -/
def LAdds (f : LTh → Int) : Prop := ∀ a b, f (lpack a b) = f a + f b
theorem lsum_packs {f : LTh → Int} (hf : LAdds f) : ∀ (R : List LTh) (b : Nat), 2 * b ≤ R.length → lsum f ((lpacks R).take b) = lsum f (R.take (2 * b))
  | R, 0, _ => by simp [lsum]
  | [], b + 1, h => by simp at h
  | [_], b + 1, h => by simp at h; omega
  | x :: y :: t, b + 1, h => by
    have ih := lsum_packs hf t b (by simp at h; omega)
    rw [show 2 * (b + 1) = 2 * b + 1 + 1 from by omega]
    show lsum f (lpack x y :: (lpacks t).take b) = lsum f (x :: y :: t.take (2 * b))
    simp only [lsum, ih, hf x y]
    omega
/-- How many leaves stand among the first t things. -/
def lcnt (R : List LTh) (t : Nat) : Nat := ((R.take t).filter (fun x => x.leaf)).length
section
variable {leaves packs R : List LTh}
theorem LRow.take_lv (h : LRow leaves packs R) (t : Nat) : (R.take t).filter (fun x => x.leaf) = leaves.take (lcnt R t) := by
  have e : R.filter (fun x => x.leaf) = (R.take t).filter (fun x => x.leaf) ++ (R.drop t).filter (fun x => x.leaf) := by rw [← List.filter_append, List.take_append_drop]
  rw [h.lv] at e
  rw [e]
  unfold lcnt
  rw [List.take_left' rfl]
theorem LRow.take_pk (h : LRow leaves packs R) (t : Nat) (ht : t ≤ R.length) : (R.take t).filter (fun x => !x.leaf) = packs.take (t - lcnt R t) := by
  have e : R.filter (fun x => !x.leaf) = (R.take t).filter (fun x => !x.leaf) ++ (R.drop t).filter (fun x => !x.leaf) := by rw [← List.filter_append, List.take_append_drop]
  rw [h.pk] at e
  have hl := lfilters_len (R.take t)
  rw [List.length_take, Nat.min_eq_left ht] at hl
  rw [e, List.take_left' (by unfold lcnt; omega)]
theorem lcnt_le (R : List LTh) (t : Nat) : lcnt R t ≤ t := by
  unfold lcnt
  have := List.length_filter_le (fun x : LTh => x.leaf) (R.take t)
  rw [List.length_take] at this
  omega
theorem LRow.cnt_leaves (h : LRow leaves packs R) (t : Nat) : lcnt R t ≤ leaves.length := by
  have := congrArg List.length (h.take_lv t)
  rw [List.length_take] at this
  unfold lcnt at *
  omega
theorem LRow.cnt_packs (h : LRow leaves packs R) (t : Nat) (ht : t ≤ R.length) : t - lcnt R t ≤ packs.length := by
  have h1 := congrArg List.length (h.take_pk t ht)
  have hl := lfilters_len (R.take t)
  rw [List.length_take, Nat.min_eq_left ht] at hl
  rw [List.length_take] at h1
  unfold lcnt at *
  omega
theorem LRow.take_sum (h : LRow leaves packs R) (f : LTh → Int) (t : Nat) (ht : t ≤ R.length) : lsum f (R.take t) = lsum f (leaves.take (lcnt R t)) + lsum f (packs.take (t - lcnt R t)) := by
  rw [lsum_parts, h.take_lv t, h.take_pk t ht]
end
/-- How many leaves come of each row, the last row first. -/
def lprof (leaves : List LTh) : Nat → Nat → List Nat
  | 0, t => [t]
  | k + 1, t => lcnt (lrow leaves (k + 1)) t :: lprof leaves k (2 * (t - lcnt (lrow leaves (k + 1)) t))
theorem lprof_next {leaves : List LTh} (hl : LLeaves leaves) (k t : Nat) (ht : t ≤ (lrow leaves (k + 1)).length) : 2 * (t - lcnt (lrow leaves (k + 1)) t) ≤ (lrow leaves k).length := by
  have := (lrow_row hl k).cnt_packs t ht
  rw [lpacks_len] at this
  omega
def nsum (g : Nat → Int) : List Nat → Int
  | [] => 0
  | x :: t => g x + nsum g t
theorem lprof_sum {leaves : List LTh} (hl : LLeaves leaves) {f : LTh → Int} (hf : LAdds f) : ∀ k t, t ≤ (lrow leaves k).length → lsum f ((lrow leaves k).take t) = nsum (fun a => lsum f (leaves.take a)) (lprof leaves k t)
  | 0, t, _ => by simp [lprof, nsum, lrow]
  | k + 1, t, ht => by
    have hn := lprof_next hl k t ht
    rw [(lrow_row hl k).take_sum f t ht, lsum_packs hf _ _ hn, lprof_sum hl hf k _ hn]
    rfl
theorem lprof_len (leaves : List LTh) : ∀ k t, (lprof leaves k t).length = k + 1
  | 0, t => rfl
  | k + 1, t => by
    show (lprof leaves k _).length + 1 = _
    rw [lprof_len leaves k]
theorem lprof_le {leaves : List LTh} (hl : LLeaves leaves) : ∀ k t, t ≤ (lrow leaves k).length → ∀ a ∈ lprof leaves k t, a ≤ leaves.length
  | 0, t, ht, a, ha => by
    simp [lprof] at ha
    subst ha
    exact ht
  | k + 1, t, ht, a, ha => by
    rcases List.mem_cons.1 ha with rfl | ha
    · exact (lrow_row hl k).cnt_leaves t
    · exact lprof_le hl k _ (lprof_next hl k t ht) a ha
/-- The width of a profile. -/
def lwid : List Nat → Nat
  | [] => 0
  | a :: t => 2 ^ t.length * a + lwid t
theorem lprof_wid {leaves : List LTh} : ∀ k t, lwid (lprof leaves k t) = 2 ^ k * t
  | 0, t => by simp [lprof, lwid]
  | k + 1, t => by
    show 2 ^ (lprof leaves k _).length * _ + lwid (lprof leaves k _) = _
    have hc := lcnt_le (lrow leaves (k + 1)) t
    rw [lprof_len, lprof_wid k]
    generalize lcnt (lrow leaves (k + 1)) t = c at *
    obtain ⟨d, rfl⟩ : ∃ d, t = c + d := ⟨t - c, by omega⟩
    rw [show c + d - c = d from by omega, Nat.pow_succ, Nat.mul_add, Nat.mul_assoc, Nat.mul_assoc]
theorem LRow.drop_lv {leaves packs R : List LTh} (h : LRow leaves packs R) (t : Nat) : (R.drop t).filter (fun x => x.leaf) = leaves.drop (lcnt R t) := by
  have e : R.filter (fun x => x.leaf) = (R.take t).filter (fun x => x.leaf) ++ (R.drop t).filter (fun x => x.leaf) := by rw [← List.filter_append, List.take_append_drop]
  rw [h.lv] at e
  rw [e]
  unfold lcnt
  rw [List.drop_left' rfl]
theorem lpacks_pos : ∀ (R : List LTh), (∀ x ∈ R, 0 < x.w) → ∀ p ∈ lpacks R, 0 < p.w
  | [], _, p, h => by cases h
  | [_], _, p, h => by cases h
  | a :: b :: t, hp, p, h => by
    rcases List.mem_cons.1 h with rfl | h
    · have h1 := hp a (by simp)
      have h2 := hp b (by simp)
      show 0 < a.w + b.w
      omega
    · exact lpacks_pos t (fun y hy => hp y (by simp [hy])) p h
theorem lrow_pos {leaves : List LTh} (hl : LLeaves leaves) (hp : ∀ x ∈ leaves, 0 < x.w) : ∀ k, ∀ x ∈ lrow leaves k, 0 < x.w
  | 0, x, h => hp x h
  | k + 1, x, h => by
    have hr := lrow_row hl k
    cases hx : x.leaf with
    | true => exact hp x (by rw [← hr.lv]; exact List.mem_filter.2 ⟨h, hx⟩)
    | false => exact lpacks_pos _ (lrow_pos hl hp k) x (by rw [← hr.pk]; exact List.mem_filter.2 ⟨h, by simp [hx]⟩)
theorem lpacks_has : ∀ (R : List LTh) (b : Nat), 2 * b ≤ R.length → (∀ x ∈ R, 0 < x.w) → ∀ x ∈ R.take (2 * b), ∃ p ∈ (lpacks R).take b, x.w < p.w
  | R, 0, _, _, x, h => by simp at h
  | [], b + 1, h, _, x, hx => by simp at h
  | [_], b + 1, h, _, x, hx => by simp at h; omega
  | y :: z :: t, b + 1, h, hp, x, hx => by
    rw [show 2 * (b + 1) = 2 * b + 1 + 1 from by omega] at hx
    have h1 := hp y (by simp)
    have h2 := hp z (by simp)
    rcases List.mem_cons.1 hx with rfl | hx
    · exact ⟨lpack x z, List.mem_cons_self .., by show x.w < x.w + z.w; omega⟩
    · rcases List.mem_cons.1 hx with rfl | hx
      · exact ⟨lpack y x, List.mem_cons_self .., by show x.w < y.w + x.w; omega⟩
      · obtain ⟨p, hp1, hp2⟩ := lpacks_has t b (by simp at h; omega) (fun u hu => hp u (by simp [hu])) x hx
        exact ⟨p, List.mem_cons_of_mem _ hp1, hp2⟩
theorem lrow_lv {leaves : List LTh} (hl : LLeaves leaves) (k s : Nat) : ((lrow leaves k).take s).filter (fun x => x.leaf) = leaves.take (lcnt (lrow leaves k) s) := by
  cases k with
  | zero =>
    have h1 : ∀ x ∈ leaves.take s, x.leaf = true := fun x hx => hl.all x (List.mem_of_mem_take hx)
    show (leaves.take s).filter _ = leaves.take ((leaves.take s).filter _).length
    rw [List.filter_eq_self.2 h1, List.length_take]
    rcases Nat.le_total s leaves.length with h | h
    · rw [Nat.min_eq_left h]
    · rw [Nat.min_eq_right h, List.take_length, List.take_of_length_le h]
  | succ k => exact (lrow_row hl k).take_lv s
/-- A row has among its first things all leaves of the packages among them. -/
theorem lcnt_nest {leaves : List LTh} (hl : LLeaves leaves) (hp : ∀ x ∈ leaves, 0 < x.w) (k t : Nat) (ht : t ≤ (lrow leaves (k + 1)).length) :
    lcnt (lrow leaves k) (2 * (t - lcnt (lrow leaves (k + 1)) t)) ≤ lcnt (lrow leaves (k + 1)) t := by
  have hr := lrow_row hl k
  have hn := lprof_next hl k t ht
  have hlv := lrow_lv hl k (2 * (t - lcnt (lrow leaves (k + 1)) t))
  have hpk := hr.take_pk t ht
  have hdl := hr.drop_lv t
  generalize hc : lcnt (lrow leaves (k + 1)) t = c at *
  generalize hc2 : lcnt (lrow leaves k) (2 * (t - c)) = c2 at *
  rcases Nat.lt_or_ge c c2 with hlt | hge
  · exfalso
    have hlen : c2 ≤ leaves.length := by
      have h1 := congrArg List.length hlv
      rw [List.length_take] at h1
      have h2 : ((List.take (2 * (t - c)) (lrow leaves k)).filter (fun x => x.leaf)).length = c2 := hc2
      omega
    have hcl : c < leaves.length := by omega
    have hm1 : leaves[c] ∈ leaves.take c2 := List.mem_iff_getElem.2 ⟨c, by rw [List.length_take]; omega, by simp⟩
    rw [← hlv] at hm1
    obtain ⟨p, hp1, hp2⟩ := lpacks_has (lrow leaves k) (t - c) hn (lrow_pos hl hp k) leaves[c] (List.mem_filter.1 hm1).1
    rw [← hpk] at hp1
    have hpt := (List.mem_filter.1 hp1).1
    have hm2 : leaves[c] ∈ leaves.drop c := List.mem_iff_getElem.2 ⟨0, by rw [List.length_drop]; omega, by simp⟩
    rw [← hdl] at hm2
    have hxd := (List.mem_filter.1 hm2).1
    have ho := lorder_w hr.order
    rw [← List.take_append_drop t (lrow leaves (k + 1))] at ho
    have := (List.pairwise_append.1 ho).2.2 p hpt _ hxd
    omega
  · exact hge
theorem lprof_head {leaves : List LTh} (hl : LLeaves leaves) : ∀ k t, t ≤ (lrow leaves k).length → ∃ l, lprof leaves k t = lcnt (lrow leaves k) t :: l
  | 0, t, ht => by
    refine ⟨[], ?_⟩
    have h1 : ∀ x ∈ leaves.take t, x.leaf = true := fun x hx => hl.all x (List.mem_of_mem_take hx)
    show [t] = [((leaves.take t).filter _).length]
    rw [List.filter_eq_self.2 h1, List.length_take, Nat.min_eq_left (show t ≤ leaves.length from ht)]
  | k + 1, t, _ => ⟨_, rfl⟩
/-- The last row has the most leaves, the first one the fewest. -/
theorem lprof_first {leaves : List LTh} (hl : LLeaves leaves) (hp : ∀ x ∈ leaves, 0 < x.w) : ∀ k t, t ≤ (lrow leaves k).length → (lprof leaves k t).Pairwise (fun a b => b ≤ a)
  | 0, t, _ => by simp [lprof]
  | k + 1, t, ht => by
    have hn := lprof_next hl k t ht
    have ih := lprof_first hl hp k _ hn
    refine List.pairwise_cons.2 ⟨?_, ih⟩
    have hnest := lcnt_nest hl hp k t ht
    obtain ⟨l, hl2⟩ := lprof_head hl k _ hn
    rw [hl2] at ih ⊢
    intro a ha
    rcases List.mem_cons.1 ha with rfl | ha
    · exact hnest
    · exact Nat.le_trans ((List.pairwise_cons.1 ih).1 a ha) hnest
end Go.Proofs.Ytpocpckhcciecaa
