/-
 What the law of the last of these texts stands on, part 12.
-/
import Derived.Test.YtoinjdmlembgeaaGreatMg08
import Derived.Lib.BitFns
namespace Go.Proofs.YtoinjdmlembgeaaGreat
set_option linter.unusedSimpArgs false
set_option linter.unusedVariables false
open Go.ChangeShapes Go.WideShapes Go.ChangeAt Go.RowKit Go.Joins Go.Deep
def ycE (top : Int) (l : List Int) : Bool := l.all fun k => decide (0 ≤ k) && decide (k ≤ top)
theorem agood_get {top : Int} {l : List Int} (h : ycE top l = true) (i : Nat) (hi : i < l.length) : 0 ≤ l[i] ∧ l[i] ≤ top := by
 unfold ycE at h
 rw [List.all_eq_true] at h
 have := h l[i] (List.getElem_mem hi)
 simpa using this
theorem agood_of {top : Int} {l : List Int} (h : ∀ i (hi : i < l.length), 0 ≤ l[i] ∧ l[i] ≤ top) : ycE top l = true := by
 unfold ycE
 rw [List.all_eq_true]
 intro x hx
 obtain ⟨i, hi, rfl⟩ := List.getElem_of_mem hx
 simpa using h i hi
theorem agood_bad {top : Int} {l : List Int} (i : Nat) (hi : i < l.length) (hb : ¬(0 ≤ l[i] ∧ l[i] ≤ top)) : ycE top l = false := by
 cases h : ycE top l with
 | false => rfl
 | true => exact absurd (agood_get h i hi) hb
theorem aint_info : (Tryz.prog.info? 3).map (fun i => (i.zero, i.size, i.bytes)) = some (some (.int .i64 0), 1, 8) := by kernel_rfl
theorem a_mkfunc (fn : Fn) (first cap : Array Value) (w : World) : (Instr.makeFunc fn first cap).run Tryz.prog w = .ok (.func fn first cap) w := rfl
def ain (top n : Int) : Bool := decide (0 ≤ n) && decide (n ≤ top)
theorem ain_iff (top n : Int) : ain top n = true ↔ 0 ≤ n ∧ n ≤ top := by simp [ain]
theorem ain_no (top n : Int) (h : ¬(0 ≤ n ∧ n ≤ top)) : ain top n = false := by
 cases h2 : ain top n with
 | false => rfl
 | true => exact absurd ((ain_iff top n).1 h2) h
theorem a_within_any (n top : Int) (w : World) : Calls Tryz.prog 135 #[.int .i64 n, .int .i64 top] w fun e w' => e = .returned (.bool (ain top n)) ∧ w' = w := by
 by_cases h0 : 0 ≤ n
 ·by_cases h1 : n ≤ top
  ·have fin : ain top n = true := (ain_iff _ _).2 ⟨h0, h1⟩
   rw [fin]
   clear fin
   go_enter Tryz.func135, Tryz.ntmps135
   go_wp2
   go_ret
   exact ⟨rfl, rfl⟩
  ·have fin : ain top n = false := ain_no _ _ fun h => h1 h.2
   rw [fin]
   clear fin
   go_enter Tryz.func135, Tryz.ntmps135
   go_wp2
   go_ret
   exact ⟨rfl, rfl⟩
 ·have fin : ain top n = false := ain_no _ _ fun h => h0 h.1
  rw [fin]
  clear fin
  go_enter Tryz.func135, Tryz.ntmps135
  go_wp2
  go_ret
  exact ⟨rfl, rfl⟩
theorem a_not_any (n top : Int) (pb : Nat) (w : World) (hP : Blk w pb 3 #[.int .i64 top]) : Calls Tryz.prog 134 #[.int .i64 n, .pointer (some ⟨pb, 0, none⟩)] w fun e w' => e = .returned (.bool (!ain top n)) ∧ w' = w := by
 have c1 : w.cell? ⟨pb, 0, none⟩ = some (.int .i64 top) := hP.cell 0
 clear hP
 go_enter Tryz.func134, Tryz.ntmps134
 go_wp2_with (go_at_call 135; refine (a_within_any n top _).mono ?_; rintro e w1 ⟨rfl, rfl⟩)
 go_ret
 exact ⟨rfl, rfl⟩
set_option maxRecDepth 100000 in
theorem a_index_any (l : List Int) (top : Int) (A : Option Addr) (n c pb : Nat) (w : World) (hm : n ≤ 4611686018427387904) (hr : Reads w w.heap.size 1 A n (ints l)) (hP : Blk w pb 3 #[.int .i64 top]) :
  Calls Tryz.prog 120 #[.slice A n c, .func (.func 134) #[] #[.pointer (some ⟨pb, 0, none⟩)]] w fun e w' => ∃ r : Int, e = .returned (.int .i64 r) ∧ (decide (0 ≤ r)) = !ycE top l ∧ w' = w := by
 have en : l.length = n := by have := hr.1; rw [yab] at this; omega
 have Hcell : Hid (0 < n → ∃ b off, A = some ⟨b, off, none⟩ ∧ ∀ k, (hk : k < l.length) → w.cell? ⟨b, off + k, none⟩ = some (.int .i64 l[k])) := Lib.hid fun h => by
  obtain ⟨b, off, e, hb, hc⟩ := hr.2 h
  exact ⟨b, off, e, fun k hk => hc k _ (yai l k hk)⟩
 have Hcl := Lib.hid fun n => a_not_any n top pb w hP
 have Hbad : Hid (∀ k (hk : k < l.length), ain top l[k] = false → ycE top l = false) := Lib.hid fun k hk h => agood_bad k hk fun h2 => by rw [(ain_iff _ _).2 h2] at h; cases h
 have Hgood : Hid ((∀ k (hk : k < l.length), ain top l[k] = true) → ycE top l = true) := Lib.hid fun h => agood_of fun k hk => (ain_iff _ _).1 (h k hk)
 have En := Lib.hid en
 clear hr hP en
 go_enter Tryz.func120, Tryz.ntmps120
 go_wp2
 go_loop [8] (fun i => ∃ k : Nat, k ≤ n ∧ i = .int .i64 k ∧ Hid (∀ j (hj : j < l.length), j < k → ain top l[j] = true)) (fun i => n - (intOf i).toNat)
 case atStart => exact ⟨0, by omega, rfl, fun j _ h => by omega⟩
 case round =>
  obtain ⟨k, hk, rfl, Hk⟩ := hrel
  by_cases hlt : k < n
  ·have hkl : k < l.length := by rw [En.out]; exact hlt
   obtain ⟨b, off, rfl, hc⟩ := Hcell.out (by omega)
   have hcell := hc k hkl
   have hki : (0 : Int) ≤ (k : Int) ∧ (k : Int) < n := by omega
   have Hc2 := Lib.hid (Hcl.out l[k])
   clear hc
   cases hz : ain top l[k] with
   | true =>
    have Hn : Hid (∀ j (hj : j < l.length), j < k + 1 → ain top l[j] = true) := Lib.hid fun j hj h => by
     rcases Nat.lt_or_ge j k with h1 | h1
     ·exact Hk.out j hj h1
     ·obtain rfl : j = k := by omega
      exact hz
    rw [hz] at Hc2
    clear hz Hbad Hgood
    generalize l[k] = x at *
    go_wp2_with (go_at_call 134; refine Hc2.out.mono ?_; rintro e w1 ⟨rfl, rfl⟩)
    go_round
    case rel => exact ⟨k + 1, by omega, iv (by omega), Hn.out⟩
    case measure => simp only [intOf]; omega
   | false =>
    have Hf := Lib.hid (Hbad.out k hkl hz)
    rw [hz] at Hc2
    clear hz Hbad Hgood
    generalize l[k] = x at *
    go_wp2_with (go_at_call 134; refine Hc2.out.mono ?_; rintro e w1 ⟨rfl, rfl⟩)
    go_ret
    exact ⟨_, rfl, by rw [Hf.out]; simp, rfl⟩
  ·obtain rfl : k = n := by omega
   have Hg := Lib.hid (Hgood.out fun j hj => Hk.out j hj (by have := En.out; omega))
   clear Hbad Hgood
   go_wp2
   go_ret
   exact ⟨_, rfl, by rw [Hg.out]; rfl, rfl⟩
theorem a_contains_any (l : List Int) (top : Int) (A : Option Addr) (n c pb : Nat) (w : World) (hm : n ≤ 4611686018427387904) (hr : Reads w w.heap.size 1 A n (ints l)) (hP : Blk w pb 3 #[.int .i64 top]) :
  Calls Tryz.prog 80 #[.slice A n c, .func (.func 134) #[] #[.pointer (some ⟨pb, 0, none⟩)]] w fun e w' => e = .returned (.bool (!ycE top l)) ∧ w' = w := by
 have Hi := Lib.hid (a_index_any l top A n c pb w hm hr hP)
 clear hr hP
 generalize ycE top l = g at *
 go_enter Tryz.func80, Tryz.ntmps80
 go_wp2_with (go_at_call 120; refine Hi.out.mono ?_; rintro e w1 ⟨r, rfl, hd, rfl⟩; have Hd := Lib.hid hd; clear hd)
 go_ret
 exact ⟨by rw [← Hd.out]; rfl, rfl⟩
theorem a_all_any (l : List Int) (top : Int) (A : Option Addr) (n c : Nat) (w : World) (hm : n ≤ 4611686018427387904) (hr : Reads w w.heap.size 1 A n (ints l)) :
  Calls Tryz.prog 99 #[.slice A n c, .int .i64 top] w fun e w' => e = .returned (.bool (ycE top l)) ∧ Below w.heap.size w w' := by
 have hmf := a_mkfunc
 have hb : Below w.heap.size w (w.alloc (.cells #[.int .i64 top] 3)) := (Below.refl _ _).alloc (Nat.le_refl _) _
 have Hc := Lib.hid (a_contains_any l top A n c w.heap.size (w.alloc (.cells #[.int .i64 top] 3)) hm ((hr.below hb).more hb.size) (Blk.new w _ _))
 have Hb := Lib.hid hb
 clear hr hb
 generalize ycE top l = g at *
 go_enter Tryz.func99, Tryz.ntmps99
 go_wp2_with (go_at_call 80; refine Hc.out.mono ?_; rintro e w1 ⟨rfl, rfl⟩)
 go_ret
 exact ⟨by cases g <;> rfl, Hb.out⟩
theorem LHRow.nil (W : World) (B : Nat) (ok : Nat → Prop) : LHRow W B ok none 0 [] := ⟨rfl, fun h => absurd h (by omega), [], Reads.none_, rfl⟩
theorem yfv (i : Nat) (c : Int) (t : List Int) (R : List LTh) (h : 0 < c) : ybe i (c :: t) R = ybe (i + 1) t (lput R ⟨c, [i], true⟩) := by
 conv => lhs; unfold ybe
 rw [if_pos h]
theorem yhd (i : Nat) (c : Int) (t : List Int) (R : List LTh) (h : ¬ 0 < c) : ybe i (c :: t) R = ybe (i + 1) t R := by
 conv => lhs; unfold ybe
 rw [if_neg h]
theorem lone_reads (W : World) (s : Nat) : Reads (W.alloc (.cells #[.int .i64 (s : Int)] 3)) (W.alloc (.cells #[.int .i64 (s : Int)] 3)).heap.size 1 (some ⟨W.heap.size, 0, none⟩) 1 (ints (lsy [s])) := by
 have := ya1 W 3 #[.int .i64 (s : Int)] 1 1 rfl
 exact this.more (by simp)
set_option maxRecDepth 100000 in
set_option maxHeartbeats 4000000 in
theorem lref_first_any (ok : Nat → Prop) (counts : List Int) (A : Option Addr) (n c : Nat) (w : World) (hm : n ≤ 100000) (hok : ∀ b, w.heap.size ≤ b → ok b) (hr : Reads w w.heap.size 1 A n (ints counts)) :
  Calls Tryz.prog 108 #[.slice A n c] w fun e w' => ∃ A' c', e = .returned (.slice A' (yaa counts).length c') ∧ (yaa counts).length ≤ c' ∧ LHRow w' w'.heap.size ok A' (yaa counts).length (yaa counts) ∧ Below w.heap.size w w' := by
 have en : counts.length = n := by have := hr.1; rw [yab] at this; omega
 have Hcell : Hid (0 < n → ∃ b off, A = some ⟨b, off, none⟩ ∧ ∀ wr, Below w.heap.size w wr → ∀ k, (hk : k < counts.length) → wr.cell? ⟨b, off + k, none⟩ = some (.int .i64 counts[k])) := Lib.hid fun h => by
  obtain ⟨b, off, e, hb, hc⟩ := hr.2 h
  exact ⟨b, off, e, fun wr hw k hk => (hw.cell (p := ⟨b, off + k, none⟩) hb).trans (hc k _ (yai counts k hk))⟩
 have Hstart : Hid (ybe 0 (counts.drop 0) [] = yaa counts) := Lib.hid rfl
 have En := Lib.hid en
 have hnn : (n : Int) ≤ 100000 := by omega
 clear hr en
 generalize yaa counts = T at *
 go_enter Tryz.func108, Tryz.ntmps108
 go_wp2
 go_loopw [3, 4] (fun v i wr => ∃ (k m cm : Nat) (Am : Option Addr) (R : List LTh), k ≤ n ∧ m ≤ k ∧ m ≤ cm ∧ v = .slice Am m cm ∧ i = .int .i64 k ∧ Hid (ybe k (counts.drop k) R = T) ∧ Hid (LHRow wr wr.heap.size ok Am m R) ∧ Hid (Below w.heap.size w wr)) (fun _ i _ => n - (intOf i).toNat)
 case atStart => exact ⟨0, 0, 0, none, [], by omega, by omega, by omega, rfl, rfl, Hstart.out, LHRow.nil _ _ _, Below.refl _ _⟩
 case round =>
  obtain ⟨k, m, cm, Am, R, hk, hmk, hmc, rfl, rfl, Hf, HR, Hb⟩ := hrel
  by_cases hlt : k < n
  ·have hki : (0 : Int) ≤ (k : Int) ∧ (k : Int) < n := by omega
   have hkl : k < counts.length := by rw [En.out]; exact hlt
   obtain ⟨b, off, rfl, hcell⟩ := Hcell.out (by omega)
   have hx := hcell wr Hb.out k hkl
   have hf := Hf.out
   rw [List.drop_eq_getElem_cons hkl] at hf
   clear hcell Hf
   generalize counts[k] = x at *
   by_cases hx0 : 0 < x
   ·rw [yfv _ _ _ _ hx0] at hf
    have Hf2 := Lib.hid hf
    have Hput : Hid (Calls Tryz.prog 142 #[.slice Am m cm, .agg #[.int .i64 x, .slice (some ⟨wr.heap.size, 0, none⟩) 1 1, .bool true]] (wr.alloc (.cells #[.int .i64 (k : Int)] 3)) fun e w' => ∃ A' c', e = .returned (.slice A' (m + 1) c') ∧ m + 1 ≤ c' ∧ LHRow w' w'.heap.size ok A' (m + 1) (lput R ⟨x, [k], true⟩) ∧ Below (wr.alloc (.cells #[.int .i64 (k : Int)] 3)).heap.size (wr.alloc (.cells #[.int .i64 (k : Int)] 3)) w') := Lib.hid (by
     have hba : Below wr.heap.size wr (wr.alloc (.cells #[.int .i64 (k : Int)] 3)) := (Below.refl _ _).alloc (Nat.le_refl _) _
     exact ydg ok R ⟨x, [k], true⟩ Am (some ⟨wr.heap.size, 0, none⟩) m cm 1 (wr.alloc (.cells #[.int .i64 (k : Int)] 3)) (by omega) hmc (fun b hb2 => hok b (Nat.le_trans (Nat.le_trans Hb.out.size hba.size) hb2)) ((HR.out.below hba).more hba.size) (Nat.le_refl _) ⟨lone_reads wr k, fun _ => ⟨_, _, rfl, hok _ Hb.out.size⟩⟩)
    clear hf
    go_wp2_with (go_at_call 142; refine Hput.out.mono ?_; rintro e w2 ⟨A2, c2, rfl, hc2, hR2, hb2⟩; have HR2 := Lib.hid hR2; have Hc2 := Lib.hid hc2; have Hb2 := Lib.hid (Hb.out.trans ((((Below.refl wr.heap.size wr).alloc (Nat.le_refl _) (.cells #[.int .i64 (k : Int)] 3)).trans (hb2.mono (by simp))).mono Hb.out.size)); clear hR2 hc2 hb2)
    go_roundw
    case rel => exact ⟨k + 1, m + 1, c2, A2, _, by omega, by omega, Hc2.out, rfl, iv (by omega), Hf2.out, HR2.out, Hb2.out⟩
    case measure => simp only [intOf]; omega
   ·rw [yhd _ _ _ _ hx0] at hf
    have Hf2 := Lib.hid hf
    clear hf
    go_wp2
    go_roundw
    case rel => exact ⟨k + 1, m, cm, Am, R, by omega, by omega, hmc, rfl, iv (by omega), Hf2.out, HR.out, Hb.out⟩
    case measure => simp only [intOf]; omega
  ·obtain rfl : k = n := by omega
   have hf := Hf.out
   rw [List.drop_of_length_le (by rw [En.out]; exact Nat.le_refl _)] at hf
   have hf2 : R = T := hf
   subst hf2
   have hlen := HR.out.1
   subst hlen
   clear hf Hf
   go_wp2
   go_ret
   exact ⟨Am, cm, rfl, hmc, HR.out, Hb.out⟩
def bl (n : Nat) : Nat := Lib.bitLen n
theorem ycW : ∀ (f n : Nat), n ≠ 0 → n < 2 ^ f → f ≤ 64 → 1 ≤ bl n ∧ 2 ^ (bl n - 1) ≤ n ∧ n < 2 ^ bl n
 | 0, n, h0, h, _ => by simp at h; omega
 | f + 1, n, h0, h, hf => by
  have h64 : n < 2 ^ 64 := Nat.lt_of_lt_of_le h (Nat.pow_le_pow_right (by omega) hf)
  have e : bl n = 1 + bl (n / 2) := Lib.bitLen_half n h0 h64
  by_cases h1 : n / 2 = 0
  ·have hb : bl (n / 2) = 0 := by rw [h1]; rfl
   rw [e, hb]
   simp
   omega
  ·obtain ⟨a, b, c⟩ := ycW f (n / 2) h1 (by rw [Nat.pow_succ] at h; omega) (by omega)
   rw [e]
   refine ⟨by omega, ?_, ?_⟩
   ·rw [show 1 + bl (n / 2) - 1 = bl (n / 2) - 1 + 1 from by omega, Nat.pow_succ]
    omega
   ·rw [Nat.add_comm, Nat.pow_succ]
    omega
theorem bl_of {n k : Nat} (h1 : 2 ^ k ≤ n) (h2 : n < 2 ^ (k + 1)) (h : n < 4294967296) : bl n = k + 1 := by
 have hp : 0 < 2 ^ k := Nat.pow_pos (by omega)
 obtain ⟨a, b, c⟩ := ycW 32 n (by omega) (by rw [show (2 : Nat) ^ 32 = 4294967296 from by decide]; exact h) (by omega)
 rcases Nat.lt_trichotomy (bl n) (k + 1) with hlt | he | hgt
 ·have := Nat.pow_le_pow_right (n := 2) (by omega) (show bl n ≤ k by omega)
  omega
 ·exact he
 ·have := Nat.pow_le_pow_right (n := 2) (by omega) (show k + 1 ≤ bl n - 1 by omega)
  omega
theorem bl_le {n : Nat} (h0 : n ≠ 0) (h : n < 4294967296) : 1 ≤ bl n ∧ bl n ≤ 32 := by
 obtain ⟨a, b, c⟩ := ycW 32 n h0 (by rw [show (2 : Nat) ^ 32 = 4294967296 from by decide]; exact h) (by omega)
 refine ⟨a, Nat.le_of_not_lt fun hgt => ?_⟩
 have := Nat.pow_le_pow_right (n := 2) (by omega) (show 32 ≤ bl n - 1 by omega)
 rw [show (2 : Nat) ^ 32 = 4294967296 from by decide] at this
 omega
def hasG (n : Int) : Prop := 1 ≤ n ∧ n ≤ 4294967295
instance (n : Int) : Decidable (hasG n) := by unfold hasG; infer_instance
def gam (n : Nat) : List Nat := List.replicate (bl n - 1) 0 ++ dig (bl n) n
theorem gam_is {n k : Nat} (h1 : 2 ^ k ≤ n) (h2 : n < 2 ^ (k + 1)) (h : n < 4294967296) : gam n = List.replicate k 0 ++ dig (k + 1) n := by
 unfold gam
 rw [bl_of h1 h2 h, Nat.add_sub_cancel]
theorem gam_bin (n : Nat) : Bin (gam n) := Bin.app (fun d hd => by rw [List.eq_of_mem_replicate hd]; omega) (ycF _ _)
def lz : List Nat → Nat
 | [] => 0
 | d :: t => if d = 0 then lz t + 1 else 0
theorem lz_le : ∀ l, lz l ≤ l.length
 | [] => Nat.le_refl _
 | d :: t => by
  have := lz_le t
  unfold lz
  split <;> simp <;> omega
theorem ygu (k : Nat) (l : List Nat) : lz (List.replicate k 0 ++ l) = k + lz l := by
 induction k with
 | zero => simp
 | succ k ih => rw [List.replicate_succ, List.cons_append, lz, if_pos rfl, ih]; omega
theorem lz_one (l : List Nat) : lz (1 :: l) = 0 := rfl
theorem lz_cut (l : List Nat) (k : Nat) (hk : k ≤ l.length) (h : l.take k = List.replicate k 0) : lz l = k + lz (l.drop k) := by
 have h1 := List.take_append_drop k l
 rw [h] at h1
 rw [← h1, ygu]
 congr 2
 rw [List.drop_left' (by simp)]
def ybt (l : List Nat) : Int × Nat × Int :=
 if lz l = l.length then (0, 0, 4) else if 32 ≤ lz l then (0, 0, 40) else if l.length < 2 * lz l + 1 then (0, 0, 4) else ((num ((l.drop (lz l)).take (lz l + 1)) : Int), 2 * lz l + 1, 0)
theorem yhg {k n : Nat} (h1 : 2 ^ k ≤ n) (h2 : n < 2 ^ (k + 1)) : dig (k + 1) n = 1 :: dig k n := by
 have h : n / 2 ^ k = 1 := Nat.div_eq_of_lt_le (by omega) (by rw [Nat.pow_succ] at h2; omega)
 rw [Nat.add_comm, ycu 1 k, h]
 rfl
theorem yhx (n : Nat) (l : List Nat) (h0 : n ≠ 0) (h : n < 4294967296) : ybt (gam n ++ l) = ((n : Int), 2 * (bl n - 1) + 1, 0) ∧ (gam n).length = 2 * (bl n - 1) + 1 := by
 obtain ⟨a, b, c⟩ := ycW 32 n h0 (by rw [show (2 : Nat) ^ 32 = 4294967296 from by decide]; exact h) (by omega)
 have hle := bl_le h0 h
 obtain ⟨k, hk⟩ : ∃ k, bl n = k + 1 := ⟨bl n - 1, by omega⟩
 rw [hk] at b c hle ⊢
 rw [Nat.add_sub_cancel] at b ⊢
 have hg := gam_is b c h
 have htop := yhg b c
 have hlz : lz (gam n ++ l) = k := by rw [hg, htop, List.append_assoc, ygu, List.cons_append, lz_one]; rfl
 have hlen : (gam n).length = 2 * k + 1 := by rw [hg, List.length_append, List.length_replicate, yad]; omega
 refine ⟨?_, hlen⟩
 unfold ybt
 rw [hlz, List.length_append, hlen, if_neg (by omega), if_neg (by omega), if_neg (by omega), hg, List.append_assoc, List.drop_left' (by simp), List.take_left' (by rw [yad]), ycK, Nat.mod_eq_of_lt c]
theorem tbyte_info : (Tryz.prog.info? 5).map (fun i => (i.zero, i.size, i.bytes)) = some (some (.int .u8 0), 1, 1) := by kernel_rfl
def ydQ (l : List Nat) (i : Nat) : List Nat := (l.drop i).take 8 ++ List.replicate (8 - ((l.drop i).take 8).length) 0
theorem ycj (l : List Nat) (i : Nat) : (ydQ l i).length = 8 := by
 unfold ydQ
 rw [List.length_append, List.length_replicate]
 have : ((l.drop i).take 8).length ≤ 8 := by simp; omega
 omega
theorem eight_in (l : List Nat) (i k : Nat) (hk : k < 8) (h : i + k < l.length) : (ydQ l i)[k]'(by rw [ycj]; exact hk) = l[i + k] := by
 unfold ydQ
 rw [List.getElem_append_left (by simp; omega), List.getElem_take, List.getElem_drop]
theorem eight_out (l : List Nat) (i k : Nat) (hk : k < 8) (h : l.length ≤ i + k) : (ydQ l i)[k]'(by rw [ycj]; exact hk) = 0 := by
 unfold ydQ
 rw [List.getElem_append_right (by simp; omega)]
 simp
theorem eight_bin {l : List Nat} (h : Bin l) (i : Nat) : Bin (ydQ l i) := Bin.app (fun d hd => h d (List.mem_of_mem_drop (List.mem_of_mem_take hd))) (fun d hd => by rw [List.eq_of_mem_replicate hd]; omega)
theorem num_zeros (l : List Nat) (k : Nat) : num (l ++ List.replicate k 0) = num l * 2 ^ k := by
 rw [ybP, List.length_replicate]
 have : num (List.replicate k 0) = 0 := by rw [← ydA, ycK]; exact Nat.zero_mod _
 omega
theorem text_next (l : List Nat) (q : Nat) (h : 8 * q < l.length) : text (l.take (8 * (q + 1))) = text (l.take (8 * q)) ++ [UInt8.ofNat (num (ydQ l (8 * q)))] := by
 have e : l.take (8 * (q + 1)) = l.take (8 * q) ++ (l.drop (8 * q)).take 8 := by rw [show 8 * (q + 1) = 8 * q + 8 from by omega, List.take_add]
 rw [e, ybz q _ _ (by simp; omega), yb0 ((l.drop (8 * q)).take 8) (by simp; omega) (by simp; omega)]
 unfold ydQ
 rw [num_zeros]
theorem num_next (D : List Nat) (k : Nat) (h : k < D.length) : num (D.take (k + 1)) = 2 * num (D.take k) + D[k] := by
 rw [List.take_succ_eq_append_getElem h, ygt]
theorem num_small {D : List Nat} (h : Bin D) (k : Nat) (hk : k ≤ 8) : num (D.take k) < 256 := by
 have h5 := ydV (l := D.take k) (fun d hd => h d (List.mem_of_mem_take hd))
 have h6 : 2 ^ (D.take k).length ≤ 2 ^ 8 := Nat.pow_le_pow_right (by omega) (by simp; omega)
 rw [show (2 : Nat) ^ 8 = 256 from by decide] at h6
 omega
set_option maxRecDepth 100000 in
set_option maxHeartbeats 2000000 in
theorem refText_any (l : List Nat) (A : Option Addr) (n c : Nat) (w : World) (hn : l.length = n) (hl : n ≤ 1099511627776) (hr : Reads w w.heap.size 1 A n (bcs l)) (hbin : Bin l) :
  Calls Tryz.prog 34 #[.slice A n c] w fun e w' => e = .returned (.string ⟨(text l).toArray⟩) ∧ Below w.heap.size w w' := by
 obtain ⟨i0, hi, hz0, hz1, hz2⟩ := info_parts tbyte_info
 have hni : (n : Int) ≤ 1099511627776 := by omega
 have Hcell : Hid (0 < n → ∃ b off, A = some ⟨b, off, none⟩ ∧ b < w.heap.size ∧ ∀ k, (hk : k < l.length) → w.cell? ⟨b, off + k, none⟩ = some (.int .i64 (l[k] : Int))) := Lib.hid fun h => reads_at hr h
 have Hn := Lib.hid hn
 have Hbin := Lib.hid hbin
 have Hsmall : Hid (∀ i k, k ≤ 8 → num ((ydQ l i).take k) < 256) := Lib.hid fun i k hk => num_small (eight_bin hbin i) k hk
 have Hlen : Hid (∀ k, (text (l.take k)).length ≤ 1099511627780) := Lib.hid fun k => by rw [yaW, List.length_take]; omega
 clear hn hbin hr hl
 go_enter Tryz.func34, Tryz.ntmps34
 go_wp2
 go_loopw [3, 4] (fun v i wr => ∃ q : Nat, 8 * q ≤ n + 7 ∧ i = .int .i64 ((8 * q : Nat) : Int) ∧ Hid (wr.ownsRow w.heap.size 5 1 v (text (l.take (8 * q))).length (bc (text (l.take (8 * q)))).toList) ∧ Hid (Below w.heap.size w wr)) (fun _ i _ => n + 8 - (intOf i).toNat)
 case atStart => exact ⟨0, by omega, rfl, Lib.hid (by simpa [yck, bc] using World.ownsRow_nil w w.heap.size 5 1), Lib.hid (Below.refl _ _)⟩
 case round =>
  obtain ⟨q, hq, rfl, Hown, Hb⟩ := hrel
  by_cases hlt : 8 * q < n
  ·have hqi : ((8 * q : Nat) : Int) < n := by omega
   have hqb : ((8 * q : Nat) : Int) ≤ 1099511627776 := by omega
   have hnext := text_next l q (by rw [Hn.out]; exact hlt)
   have Hnext := Lib.hid hnext
   have Hq := Lib.hid hq
   clear hnext hq
   generalize hi8 : 8 * q = i at *
   have Hi8 := Lib.hid hi8
   clear hi8
   obtain ⟨b, off, rfl, hb, hc⟩ := Hcell.out (by omega)
   have Hc := Lib.hid hc
   clear hc
   go_wp2
   go_loop [5, 6] (fun x j => ∃ k X : Nat, k ≤ 8 ∧ j = .int .i64 k ∧ x = .int .i64 X ∧ Hid (X = num ((ydQ l i).take k))) (fun _ j => 8 - (intOf j).toNat)
   case atStart => exact ⟨0, 0, by omega, rfl, rfl, rfl⟩
   case round =>
    obtain ⟨k, X, hk, rfl, rfl, HX⟩ := hrel
    by_cases hk8 : k < 8
    ·have hki : (k : Int) < 8 := by omega
     have hX : (X : Int) ≤ 255 := by have h7 := Hsmall.out i k hk; have h8 := HX.out; omega
     have Hnum := Lib.hid (num_next (ydQ l i) k (by rw [ycj]; exact hk8))
     by_cases hin : i + k < n
     ·have hkl : i + k < l.length := by rw [Hn.out]; exact hin
      have x1 := (Hb.out.cell (p := ⟨b, off + (i + k), none⟩) hb).trans (Hc.out (i + k) hkl)
      have hkn : 0 ≤ (i : Int) + k ∧ (i : Int) + k < n := by omega
      have He := Lib.hid (eight_in l i k hk8 hkl)
      have hd1 : (l[i + k] : Int) ≤ 1 := by have := Hbin.out _ (List.getElem_mem hkl); omega
      generalize l[i + k] = d at *
      clear hkl hin
      go_wp2
      go_round
      case rel =>
       have h7 := Hnum.out
       rw [← HX.out, He.out] at h7
       exact ⟨k + 1, 2 * X + d, by omega, iv (by omega), iv (by omega), Lib.hid h7.symm⟩
      case measure => simp only [intOf]; omega
     ·have hkn : ¬ (i : Int) + k < n := by omega
      have He := Lib.hid (eight_out l i k hk8 (by rw [Hn.out]; omega))
      clear hin
      go_wp2
      go_round
      case rel =>
       have h7 := Hnum.out
       rw [← HX.out, He.out] at h7
       exact ⟨k + 1, 2 * X, by omega, iv (by omega), iv (by omega), Lib.hid h7.symm⟩
      case measure => simp only [intOf]; omega
    ·obtain rfl : k = 8 := by omega
     have hX : (X : Int) ≤ 255 := by have h7 := Hsmall.out i 8 hk; have h8 := HX.out; omega
     have hXe : X = num (ydQ l i) := by have := HX.out; rwa [List.take_of_length_le (by rw [ycj]; omega)] at this
     have HXe := Lib.hid hXe
     clear hXe
     have hszr := Hb.out.size
     go_wp2_with (at_builtin; refine yaf _ rfl _ _ 36 rfl w.heap.size 5 i0 (.int .u8 0) 1 1 Tryz.underlying36 hi hz0 hz1 hz2 rfl (by decide) _ _ _ rfl (Hown.out.alloc _) _ 1 1 _ _ rfl (ya1 wr 5 _ 1 1 rfl) ?c1 ?c2 ?c3 ?c4 ?_)
     case c1 => exact rfl
     case c2 => have := Hlen.out i; unfold maxLen; omega
     case c3 => have := Hlen.out i; omega
     case c4 => first | omega | (simp; omega)
     intro v2 w2 hown2 hgrow hsep
     have hb2 : Below w.heap.size w w2 := (Hb.out.trans ((Below.refl _ _).alloc hszr _)).grown hgrow (by simp; omega) (fun g hg => (Hown.out.lt g hg).1)
     have hx8 : ((UInt8.ofNat (num (ydQ l i))).toNat : Int) = X := by rw [ya0 _ (by have := hX; have := HXe.out; omega), HXe.out]
     have hown3 : w2.ownsRow w.heap.size 5 1 v2 (text (l.take (8 * (q + 1)))).length (bc (text (l.take (8 * (q + 1))))).toList := by
      rw [Hnext.out, List.length_append, show bc (text (l.take i) ++ [UInt8.ofNat (num (ydQ l i))]) = (((bc (text (l.take i))).toList ++ [Value.int .u8 ((UInt8.ofNat (num (ydQ l i))).toNat : Int)]).toArray) from by simp [bc], hx8]
      exact hown2
     have Hown3 := Lib.hid hown3
     have Hb2 := Lib.hid hb2
     clear hown3 hb2 hown2 hgrow hsep hx8
     go_wp2
     go_roundw
     case rel => exact ⟨q + 1, by have := Hi8.out; omega, iv (by have := Hi8.out; omega), Hown3.out, Hb2.out⟩
     case measure => simp only [intOf]; omega
  ·have hfin : l.take (8 * q) = l := List.take_of_length_le (by have := Hn.out; omega)
   have hown := Hown.out
   rw [hfin] at hown
   obtain ⟨A', c', rfl, hc', hr'⟩ := yae hown
   have hcv : (convert 36 9 (.slice A' (text l).length c')).run Tryz.prog wr = .ok (.string ⟨(text l).toArray⟩) wr := ycV Tryz.underlying36 Tryz.underlying5 Tryz.underlying9 wr A' c' _ hr'
   have hlti : ¬ ((8 * q : Nat) : Int) < n := by omega
   clear Hown hown hr' hfin
   generalize (text l).length = m at *
   generalize 8 * q = i at *
   generalize hta : (text l).toArray = ta at *
   have Hta := Lib.hid hta
   clear hta
   go_wp2
   go_ret
   exact ⟨by rw [Hta.out]; rfl, Hb.out⟩
set_option maxRecDepth 100000 in
set_option maxHeartbeats 4000000 in
theorem yaL (row : List Nat) (key : Nat → Nat) (A B : Option Addr) (n c m d : Nat) (w : World) (hn : row.length = n) (hm : n ≤ 1000001) (hkey : ∀ p ∈ row, key p ≤ 255) (hr : Reads w w.heap.size 1 A n (ints (splc row))) (hk : KRow w .u8 key B m row) :
  Calls Tryz.prog 114 #[.slice A n c, .slice B m d] w fun e w' => ∃ g M, e = .returned (.slice (some ⟨g, 0, none⟩) n n) ∧ w.heap.size ≤ g ∧ (∀ p ∈ row, key p < M) ∧ Blk w' g 3 (ints (splc (bks key row M))).toArray ∧ Below w.heap.size w w' := by
 have hni : (n : Int) ≤ 1000001 := by omega
 have Hrow := Lib.hid (ydO hn hr)
 have Hkey := Lib.hid (hk.at fun p hp => Nat.le_trans (hkey p hp) (by omega))
 have Hmx := Lib.hid (bmax_le key row 255 hkey)
 have Hall := Lib.hid (ygq key row)
 have Hstep := Lib.hid (bmax_step key row)
 have Hn := Lib.hid hn
 have HB0 := Lib.hid (Below.refl w.heap.size w)
 have Hg0 : Hid (∀ W : World, Below w.heap.size w W → w.heap.size ≤ W.heap.size) := Lib.hid fun W h => h.size
 clear hr hk hkey hn
 go_enter Tryz.func114, Tryz.ntmps114
 go_wp2
 go_loop [5, 18] (fun mx i => ∃ k : Nat, k ≤ n ∧ i = .int .i64 k ∧ mx = .int .u8 (bmax key row k : Nat)) (fun _ i => n - (intOf i).toNat)
 case atStart => exact ⟨0, by omega, rfl, rfl⟩
 case round =>
  obtain ⟨k, hk, rfl, rfl⟩ := hrel
  by_cases hlt : k < n
  ·have hki : (0 : Int) ≤ (k : Int) ∧ (k : Int) < (n : Int) := by omega
   have hkl : k < row.length := by rw [Hn.out]; exact hlt
   obtain ⟨b, off, rfl, hbl, x1⟩ := Hrow.out w HB0.out k hkl
   obtain ⟨hp, hx, _, b2, off2, rfl, hbl2, x2⟩ := Hkey.out w HB0.out k hkl
   have Hs := Lib.hid (Hstep.out k hkl)
   generalize row[k] = p at *
   generalize key p = x at *
   generalize bmax key row k = mx at *
   have hpi : (0 : Int) ≤ (p : Int) ∧ (p : Int) < (m : Int) := by omega
   by_cases hgt : mx < x
   ·have hgi : (mx : Int) < (x : Int) := by omega
    go_wp2
    go_round
    case rel => exact ⟨k + 1, by omega, iv (by omega), iv (by rw [Hs.out]; omega)⟩
    case measure => simp only [intOf]; omega
   ·have hgi : ¬ (mx : Int) < (x : Int) := by omega
    go_wp2
    go_round
    case rel => exact ⟨k + 1, by omega, iv (by omega), iv (by rw [Hs.out]; omega)⟩
    case measure => simp only [intOf]; omega
  ·obtain rfl : k = n := by omega
   have hmx := Hmx.out k (by rw [Hn.out]; exact Nat.le_refl _)
   have Hmxn : Hid (bmax key row row.length = bmax key row k) := Lib.hid (by rw [Hn.out])
   generalize hMX : bmax key row k = mx at *
   have hmk := fun w => ycU ((mx : Int) + 2) (mx + 2) (by omega) (by omega) w
   rw [← bn1_zero key row mx] at hmk
   have hmxi : (0 : Int) ≤ (mx : Int) ∧ (mx : Int) ≤ 255 := by omega
   have HB1 := Lib.hid (Blk.new w 3 (ints (bn1 key row mx 0)).toArray)
   have HO1 := Lib.hid ((Below.refl w.heap.size w).alloc (Nat.le_refl _) (.cells (ints (bn1 key row mx 0)).toArray 3))
   have hii : ¬ (k : Int) < (k : Int) := by omega
   generalize hg : w.heap.size = g at *
   go_wp2
   clear hmk
   go_loopw [35] (fun i wr => ∃ j : Nat, j ≤ k ∧ i = .int .i64 j ∧ Hid (Blk wr g 3 (ints (bn1 key row mx j)).toArray) ∧ Hid (Below g w wr)) (fun i _ => k - (intOf i).toNat)
   case atStart => exact ⟨0, by omega, rfl, HB1, HO1⟩
   case round =>
    obtain ⟨j, hj, rfl, HB, HO⟩ := hrel
    clear HB1 HO1
    by_cases hlt : j < k
    ·have hki : (0 : Int) ≤ (j : Int) ∧ (j : Int) < (k : Int) := by omega
     have hkl : j < row.length := by rw [Hn.out]; exact hlt
     obtain ⟨b, off, rfl, hbl, x1⟩ := Hrow.out wr HO.out j hkl
     obtain ⟨hp, hx, hxm, b2, off2, rfl, hbl2, x2⟩ := Hkey.out wr HO.out j hkl
     rw [Hmxn.out] at hxm
     have hlen : key row[j] + 1 < (bn1 key row mx j).length := by rw [bn1_len]; omega
     have x3 := yaN HB.out (key row[j] + 1) hlen
     rw [bn1_get] at x3
     have x4 := HB.out.frozen (key row[j] + 1)
     have hc := Nat.le_trans (ycm key row j (key row[j])) (bcnt_le key row (key row[j]))
     rw [Hn.out] at hc
     have Hs := Lib.hid (bn1_step key row mx j hkl)
     have hgl := HB.out.lt
     clear hlen
     generalize bcnt key (row.take j) (key row[j]) = cc at *
     generalize hpp : row[j] = p at *
     generalize key p = x at *
     have hpi : (0 : Int) ≤ (p : Int) ∧ (p : Int) < (m : Int) := by omega
     have hci : (0 : Int) ≤ (cc : Int) ∧ (cc : Int) ≤ 1000001 := by omega
     have hxi : (0 : Int) ≤ (x : Int) ∧ (x : Int) ≤ (mx : Int) := by omega
     clear hpp
     go_wp2
     go_roundw
     case rel => exact ⟨j + 1, by omega, iv (by omega), Lib.hid (by rw [← Hs.out, ← yaM]; exact HB.out.set_ (x + 1) _), Lib.hid (HO.out.setCell (p := ⟨g, x + 1, none⟩) (Nat.le_refl _) _)⟩
     case measure => simp only [intOf]; omega
    ·obtain rfl : j = k := by omega
     have hii : ¬ (j : Int) < (j : Int) := by omega
     have HB2 : Hid (Blk wr g 3 (ints (bn2 key row mx 0)).toArray) := Lib.hid (by rw [← bn1_all, Hn.out]; exact HB.out)
     have HO2 := Lib.hid HO.out
     clear HB HO
     go_wp2
     go_loopw [53] (fun i W => ∃ q : Nat, q ≤ mx ∧ i = .int .i64 q ∧ Hid (Blk W g 3 (ints (bn2 key row mx q)).toArray) ∧ Hid (Below g w W)) (fun i _ => mx - (intOf i).toNat)
     case atStart => exact ⟨0, by omega, rfl, HB2, HO2⟩
     case round =>
      obtain ⟨q, hq, rfl, HB, HO⟩ := hrel
      clear HB2 HO2
      by_cases hlt : q < mx
      ·have hki : (0 : Int) ≤ (q : Int) ∧ (q : Int) < (mx : Int) := by omega
       have x1 := yaN HB.out (q + 1) (by rw [bn2_len]; omega)
       have x2 := yaN HB.out q (by rw [bn2_len]; omega)
       rw [bn2_get1] at x1
       rw [bn2_get0] at x2
       have x4 := HB.out.frozen (q + 1)
       have hc := bcnt_le key row q
       have hc2 := bsum_le key row q
       rw [Hn.out] at hc hc2
       have Hs := Lib.hid (bn2_step key row mx q)
       have hgl := HB.out.lt
       generalize bcnt key row q = cc at *
       generalize bsum key row q = cs at *
       have hci : (0 : Int) ≤ (cc : Int) ∧ (cc : Int) ≤ 1000001 ∧ (0 : Int) ≤ (cs : Int) ∧ (cs : Int) ≤ 1000001 := by omega
       go_wp2
       have hw1 : IntKind.i64.wrap ((q : Int) + 1) = (q : Int) + 1 := by rw [IntKind.wrap_i64]; omega
       have hw2 : IntKind.i64.wrap ((cc : Int) + (cs : Int)) = (cc : Int) + (cs : Int) := by rw [IntKind.wrap_i64]; omega
       have hb1 : 0 ≤ (q : Int) + 1 ∧ (q : Int) + 1 < (mx : Int) + 2 := by omega
       have hb0 : 0 ≤ (q : Int) ∧ (q : Int) < (mx : Int) + 2 := by omega
       refine wp_region_still_tail 11 (by kernel_rfl) (by kernel_rfl) ?_
       simp only [List.take_succ_cons, List.take_zero, List.drop_succ_cons, List.drop_zero]
       change wpStill _ _ (World.drew _) (fun a' => wpList _ _ _ _ a' (World.drew _)) _ _
       repeat still_step
       refine wpStill_nil ?_
       go_wp2
       go_roundw
       case rel => exact ⟨q + 1, by omega, iv (by omega), Lib.hid (by rw [← Hs.out, ← yaM]; exact HB.out.drew.set_ (q + 1) _), Lib.hid (HO.out.drew.setCell (p := ⟨g, q + 1, none⟩) (Nat.le_refl _) _)⟩
       case measure => simp only [intOf]; omega
      ·obtain rfl : q = mx := by omega
       have hii2 : ¬ (q : Int) < (q : Int) := by omega
       have HB3 : Hid (Blk wr g 3 (ints (bn3 key row q 0)).toArray) := Lib.hid (by rw [← bn2_all]; exact HB.out)
       have HO3 := Lib.hid HO.out
       have hmk2 := fun w => ycU (j : Int) j rfl (by omega) w
       have e2 : List.replicate j 0 = bmid key row 0 (q + 1) := by
        rw [yhz, ydy key row (q + 1) (fun p hp => by have := Hall.out p hp; rw [Hmxn.out] at this; exact this), Hn.out]
       rw [e2] at hmk2
       clear HB HO
       have hgl := HB3.out.lt
       have HN := Lib.hid (Blk.new wr 3 (ints (bmid key row 0 (q + 1))).toArray)
       have HB4 := Lib.hid (HB3.out.alloc (.cells (ints (bmid key row 0 (q + 1))).toArray 3))
       have HO4 := Lib.hid (HO3.out.alloc (Nat.le_of_lt hgl) (.cells (ints (bmid key row 0 (q + 1))).toArray 3))
       generalize hg2 : wr.heap.size = g2 at *
       clear HB3 HO3
       go_wp2
       clear hmk2 e2
       go_loopw [73] (fun i V => ∃ u : Nat, u ≤ j ∧ i = .int .i64 u ∧ Hid (Blk V g 3 (ints (bn3 key row q u)).toArray) ∧ Hid (Blk V g2 3 (ints (bmid key row u (q + 1))).toArray) ∧ Hid (Below g w V)) (fun i _ => j - (intOf i).toNat)
       case atStart => exact ⟨0, by omega, rfl, HB4, HN, HO4⟩
       case round =>
        obtain ⟨u, hu, rfl, HB, HC, HO⟩ := hrel
        clear HB4 HN HO4
        by_cases hlt : u < j
        ·have hki : (0 : Int) ≤ (u : Int) ∧ (u : Int) < (j : Int) := by omega
         have hkl : u < row.length := by rw [Hn.out]; exact hlt
         obtain ⟨b, off, rfl, hbl, x1⟩ := Hrow.out _ HO.out u hkl
         obtain ⟨hp, hx, hxm, b2, off2, rfl, hbl2, x2⟩ := Hkey.out _ HO.out u hkl
         rw [Hmxn.out] at hxm
         have hpl := bplace_lt key row u hkl
         rw [Hn.out] at hpl
         have x3 := yaN HB.out (key row[u]) (by rw [bn3_len]; omega)
         rw [bn3_get key row q u _ hxm] at x3
         have x4 := HB.out.frozen (key row[u])
         have hml : (bmid key row u (q + 1)).length = j := by
          rw [ygn, ydy key row (q + 1) (fun p hp => by have := Hall.out p hp; rw [Hmxn.out] at this; exact this), Hn.out]
         have x5 := yaN HC.out (bsum key row (key row[u]) + bcnt key (row.take u) (key row[u])) (by rw [hml]; exact hpl)
         have x6 := HC.out.frozen (bsum key row (key row[u]) + bcnt key (row.take u) (key row[u]))
         have Hs := Lib.hid (bn3_step key row q u hkl hxm)
         have Hs2 := Lib.hid (yhP key row u hkl (q + 1) (by omega))
         have hgl := HB.out.lt
         have hgl2 := HC.out.lt
         generalize (bmid key row u (q + 1))[bsum key row (key row[u]) + bcnt key (row.take u) (key row[u])]'(by rw [hml]; exact hpl) = vv at x5
         generalize bsum key row (key row[u]) + bcnt key (row.take u) (key row[u]) = at_ at *
         generalize hpp : row[u] = p at *
         generalize key p = x at *
         have hpi : (0 : Int) ≤ (p : Int) ∧ (p : Int) < (m : Int) := by omega
         have hci : (0 : Int) ≤ (at_ : Int) ∧ (at_ : Int) < (j : Int) := by omega
         have hxi : (0 : Int) ≤ (x : Int) ∧ (x : Int) ≤ (q : Int) := by omega
         have hne : g ≠ g2 := by omega
         have hne2 : g2 ≠ g := by omega
         clear hpp hml
         go_wp2
         go_roundw
         case rel => exact ⟨u + 1, by omega, iv (by omega), Lib.hid (by rw [← Hs.out, ← yaM]; exact (HB.out.far (p := ⟨g2, at_, none⟩) hne _).set_ x _), Lib.hid (by rw [← Hs2.out, ← yaM]; exact (HC.out.set_ at_ _).far (p := ⟨g, x, none⟩) hne2 _), Lib.hid ((HO.out.setCell (p := ⟨g2, at_, none⟩) (by show g ≤ g2; omega) _).setCell (p := ⟨g, x, none⟩) (Nat.le_refl _) _)⟩
         case measure => simp only [intOf]; omega
        ·obtain rfl : u = j := by omega
         have hii3 : ¬ (u : Int) < (u : Int) := by omega
         have HF : Hid (Blk wr g2 3 (ints (splc (bks key row (q + 1)))).toArray) := Lib.hid (by rw [← bmid_all, Hn.out]; exact HC.out)
         have HM : Hid (∀ p ∈ row, key p < q + 1) := Lib.hid fun p hp => by have := Hall.out p hp; rw [Hmxn.out] at this; exact this
         have Hgg : Hid (g ≤ g2) := Lib.hid (by omega)
         clear HB HC
         go_wp2
         go_ret
         first | exact ⟨g2, rfl, Hgg.out, q + 1, HM.out, HF.out, HO.out⟩ | exact ⟨g2, q + 1, rfl, Hgg.out, HM.out, HF.out, HO.out⟩
end Go.Proofs.YtoinjdmlembgeaaGreat
