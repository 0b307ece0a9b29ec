/-
 What the law of the last of these texts stands on, part 6.
-/
import Derived.Test.YtanjhbkbpalnaaaGreatMa05
import Derived.Laws.EntriesVeiled
import Derived.OwnWalk
import Derived.Lib.BitFns
import Derived.Laws.IdiomStrings
set_option maxRecDepth 100000
set_option maxHeartbeats 8000000
open Go.Proofs.Tryz
namespace Go.Proofs.YtanjhbkbpalnaaaGreat
set_option linter.unusedSimpArgs false
set_option linter.unusedVariables false
open Go.ChangeShapes Go.WideShapes Go.ChangeAt Go.RowKit Go.Joins Go.Deep
theorem wpigeon : ∀ (n : Nat) (l : List Nat), l.Nodup → (∀ x ∈ l, x < n) → l.length ≤ n
 | 0, l, _, h => by
  cases l with
  | nil => simp
  | cons a t => exact absurd (h a (qa5 ..)) (by omega)
 | n + 1, l, hn, h => by
  have h2 := wpigeon n (l.erase n) (hn.erase n) fun x hx => by
   have h3 := (List.Nodup.mem_erase_iff hn).1 hx
   have := h x h3.2
   have := h3.1
   omega
  have h4 : l.length ≤ (l.erase n).length + 1 := by
   rw [List.length_erase]
   split <;> omega
  omega
theorem wfull {n : Nat} {l : List Nat} (hn : l.Nodup) (h : ∀ x ∈ l, x < n) (hl : l.length = n) : ∀ x, x < n → x ∈ l := fun x hx => by
 by_cases hm : x ∈ l
 ·exact hm
 ·have := wpigeon n (x :: l) (List.nodup_cons.2 ⟨hm, hn⟩) fun y hy => by
   rcases qaC.1 hy with rfl | hy
   ·exact hx
   ·exact h y hy
  rw [qap] at this
  omega
theorem wperm {n : Nat} {l : List Nat} (hn : l.Nodup) (h : ∀ x ∈ l, x < n) (hl : l.length = n) : l.Perm (List.range n) := by
 rw [List.perm_iff_count]
 intro p
 rw [hn.count, List.nodup_range.count]
 by_cases hp : p < n
 ·rw [qag (wfull hn h hl p hp), qag (qaS.2 hp)]
 ·rw [qae fun h2 => hp (h p h2), qae fun h2 => hp (qaS.1 h2)]
theorem yhz {p q : Nat → Bool} : ∀ (l : List Nat), (∀ k ∈ l, p k = true → q k = true) → ∀ x ∈ l, p x = false → q x = true → l.countP p < l.countP q
 | [], _, x, hx, _, _ => by cases hx
 | a :: t, h, x, hx, h1, h2 => by
  have hle : t.countP p ≤ t.countP q := List.countP_mono_left fun k hk => h k (qa4 _ hk)
  rw [qbI, qbI]
  rcases qaC.1 hx with e | hx
  ·subst e
   rw [h1, h2]
   simp
   omega
  ·have ih := yhz t (fun k hk => h k (qa4 _ hk)) x hx h1 h2
   have h3 := h a (qa5 ..)
   cases ha : p a with
   | false => simp; split <;> omega
   | true => rw [h3 ha]; simp; omega
theorem wcount_below (n a : Nat) (h : a ≤ n) : (List.range n).countP (fun k => decide (k < a)) = a := by
 induction n with
 | zero => simp; omega
 | succ n ih =>
  rw [List.range_succ, qbD, qc0]
  by_cases e : a = n + 1
  ·subst e
   rw [qag (by simp), List.countP_eq_length.2 fun k hk => by simp at hk; simp; omega, qa7]
  ·rw [ih (by omega), qae (by simp; omega)]
   rfl
theorem wsort_idx {lt : Nat → Nat → Bool} {n : Nat} (ho : SOrd lt n) {l : List Nat} (h : yfo lt l) (k : Nat) (hk : k < l.length) : l.countP (fun q => lt q l[k]) = k := by
 have e := qax k l
 have e2 : l.countP (fun q => lt q l[k]) = (l.take k ++ l.drop k).countP (fun q => lt q l[k]) := by rw [e]
 rw [e2, qbD, List.countP_eq_length.2 fun q hq => ?_, qcF.2 fun q hq => ?_, qao]
 ·omega
 ·obtain ⟨j, hj, rfl⟩ := qaJ hq
  rw [qbL]
  rw [qas] at hj
  cases j with
  | zero => simp [ho.irr]
  | succ j =>
   have := yb6 h k (k + (j + 1)) hk (by omega) (by omega)
   rw [ho.asym _ _ this]
   simp
 ·obtain ⟨j, hj, rfl⟩ := qaJ hq
  rw [qao] at hj
  rw [qc9]
  exact yb6 h j k (by omega) hk (by omega)
def brk (c : List Int) (i : Nat) : Nat := (List.range c.length).countP fun k => klt c k i
theorem brk_lt (c : List Int) {i j : Nat} (hi : i < c.length) (h : klt c i j = true) : brk c i < brk c j :=
 yhz _ (fun k _ hk => (ydP c c.length).tr k i j hk h) i (qaS.2 hi) ((ydP c c.length).irr i) h
theorem brk_bound (c : List Int) {i : Nat} (hi : i < c.length) : brk c i < c.length := by
 have := yhz (p := fun k => klt c k i) (q := fun _ => true) (List.range c.length) (fun _ _ _ => rfl) i (qaS.2 hi) ((ydP c c.length).irr i) rfl
 rw [List.countP_eq_length.2 fun _ _ => rfl, qa7] at this
 exact this
theorem brk_inj (c : List Int) {i j : Nat} (hi : i < c.length) (hj : j < c.length) (h : brk c i = brk c j) : i = j := by
 by_cases e : i = j
 ·exact e
 ·rcases (ydP c c.length).tot i j hi hj e with h1 | h1
  ·have := brk_lt c hi h1
   omega
  ·have := brk_lt c hj h1
   omega
theorem brk_iff (c : List Int) {i j : Nat} (hi : i < c.length) (hj : j < c.length) : brk c i < brk c j ↔ klt c i j = true := by
 constructor
 ·intro h
  by_cases e : i = j
  ·subst e
   omega
  ·rcases (ydP c c.length).tot i j hi hj e with h1 | h1
   ·exact h1
   ·have := brk_lt c hj h1
    omega
 ·exact brk_lt c hi
def bbs (l : List UInt8) : List Int := l.map fun b => (b.toNat : Int)
def bcol (l : List UInt8) (r : Nat) : List Int := bbs (l.take r) ++ -1 :: bbs (l.drop r)
theorem yc5 (l : List UInt8) : (bbs l).length = l.length := by simp [bbs]
theorem bbs_inj : ∀ (a b : List UInt8), bbs a = bbs b → a = b
 | [], [], _ => rfl
 | [], _ :: _, h => by cases h
 | _ :: _, [], h => by cases h
 | x :: a, y :: b, h => by
  have h2 := List.cons.inj h
  have h3 : (x.toNat : Int) = (y.toNat : Int) := h2.1
  have h4 : x = y := qc7.1 (by omega)
  rw [bbs_inj a b h2.2, h4]
theorem ya3 (l : List UInt8) (r : Nat) (h : r ≤ l.length) : (bcol l r).length = l.length + 1 := by
 unfold bcol
 rw [qab, qap, yc5, yc5, qao, qas]
 omega
theorem yge (l : List UInt8) (r i : Nat) (h : r ≤ l.length) (hi : i < r) : (bcol l r).getD i 0 = ((l.getD i 0).toNat : Int) := by
 unfold bcol
 have h2 : i < (bbs (l.take r)).length := by rw [yc5, qao]; omega
 rw [qaj, qbN h2, qah h2]
 simp [bbs]
 rw [qah (by omega)]
 rfl
theorem bcol_at (l : List UInt8) (r : Nat) (h : r ≤ l.length) : (bcol l r).getD r 0 = -1 := by
 unfold bcol
 have h2 : (bbs (l.take r)).length = r := by rw [yc5, qao]; omega
 rw [qaj, qbj (by omega), h2, qbS]
 rfl
theorem yeo (l : List UInt8) (r i : Nat) (h : r ≤ l.length) (hi : r < i) (hi2 : i < l.length + 1) : (bcol l r).getD i 0 = ((l.getD (i - 1) 0).toNat : Int) := by
 unfold bcol
 have h2 : (bbs (l.take r)).length = r := by rw [yc5, qao]; omega
 obtain ⟨j, rfl⟩ : ∃ j, i = r + 1 + j := ⟨i - r - 1, by omega⟩
 rw [qaj, qbj (by omega), h2, show r + 1 + j - r = j + 1 from by omega, qb4, show r + 1 + j - 1 = r + j from by omega]
 simp [bbs]
 rw [qah (by omega)]
 rfl
theorem bcol_ge (l : List UInt8) (r i : Nat) (h : r ≤ l.length) (hi : i < l.length + 1) (hne : i ≠ r) : 0 ≤ (bcol l r).getD i 0 := by
 rcases Nat.lt_or_gt_of_ne hne with h2 | h2
 ·rw [yge l r i h h2]
  omega
 ·rw [yeo l r i h h2 hi]
  omega
theorem bcol_least (l : List UInt8) (r i : Nat) (h : r ≤ l.length) (hi : i < l.length + 1) (hne : i ≠ r) : klt (bcol l r) r i = true := by
 rw [yeh, bcol_at l r h]
 have := bcol_ge l r i h hi hne
 exact qay (by omega)
theorem ygA (l : List UInt8) (r : Nat) (h : r ≤ l.length) : brk (bcol l r) r = 0 := by
 unfold brk
 rw [qcF]
 intro k hk
 rw [qaS, ya3 l r h] at hk
 by_cases e : k = r
 ·rw [e, (ydP _ (l.length + 1)).irr]
  simp
 ·rw [(ydP _ (l.length + 1)).asym _ _ (bcol_least l r k h hk e)]
  simp
def bro (c : List Int) : Nat → Nat
 | 0 => 0
 | k + 1 => brk c (bro c k)
theorem ycQ (c : List Int) (h : 0 < c.length) : ∀ k, bro c k < c.length
 | 0 => h
 | k + 1 => brk_bound c (ycQ c h k)
theorem yeE (l : List UInt8) (r : Nat) (h : r ≤ l.length) (hn : ∀ k, k < l.length → bro (bcol l r) k ≠ r) : ∀ i j, i < j → j ≤ l.length → bro (bcol l r) i ≠ bro (bcol l r) j
 | i, 0, hi, _ => by omega
 | 0, j + 1, _, hj => fun e => by
  have e2 : brk (bcol l r) r = brk (bcol l r) (bro (bcol l r) j) := (ygA l r h).trans e
  have := brk_inj (bcol l r) (by rw [ya3 l r h]; omega) (ycQ _ (by rw [ya3 l r h]; omega) j) e2
  exact hn j (by omega) this.symm
 | i + 1, j + 1, hi, hj => fun e => by
  have := brk_inj (bcol l r) (ycQ _ (by rw [ya3 l r h]; omega) i) (ycQ _ (by rw [ya3 l r h]; omega) j) e
  exact yeE l r h hn i j (by omega) (by omega) this
theorem bro_perm (l : List UInt8) (r : Nat) (h : r ≤ l.length) (hn : ∀ k, k < l.length → bro (bcol l r) k ≠ r) : ((List.range (l.length + 1)).map (bro (bcol l r))).Perm (List.range (l.length + 1)) := by
 refine wperm ?_ ?_ (by rw [qaD, qa7])
 ·rw [List.nodup_iff_pairwise_ne, qaV]
  intro i j hi hj hij
  rw [qaD, qa7] at hj
  rw [qaQ, qaQ, qbd, qbd]
  exact yeE l r h hn i j hij (by omega)
 ·intro x hx
  obtain ⟨k, _, rfl⟩ := qb5.1 hx
  have := ycQ (bcol l r) (by rw [ya3 l r h]; omega) k
  rw [ya3 l r h] at this
  exact this
def ycA (top : Int) (l : List Int) : Bool := l.all fun k => decide (0 ≤ k) && decide (k ≤ top)
theorem agood_get {top : Int} {l : List Int} (h : ycA top l = true) (i : Nat) (hi : i < l.length) : 0 ≤ l[i] ∧ l[i] ≤ top := by
 unfold ycA at h
 rw [qbH] at h
 have := h l[i] (qaq hi)
 simpa using this
theorem agood_of {top : Int} {l : List Int} (h : ∀ i (hi : i < l.length), 0 ≤ l[i] ∧ l[i] ≤ top) : ycA top l = true := by
 unfold ycA
 rw [qbH]
 intro x hx
 obtain ⟨i, hi, rfl⟩ := qaJ hx
 simpa using h i hi
theorem agood_bad {top : Int} {l : List Int} (i : Nat) (hi : i < l.length) (hb : ¬(0 ≤ l[i] ∧ l[i] ≤ top)) : ycA top l = false := by
 cases h : ycA top l with
 | false => rfl
 | true => exact absurd (agood_get h i hi) hb
theorem aint_info : (prog.info? 3).map (fun i => (i.zero, i.size, i.bytes)) = some (some (.int .i64 0), 1, 8) := by kernel_rfl
theorem a_mkfunc (fn : Fn) (first cap : Array Value) (w : World) : (Instr.makeFunc fn first cap).run prog w = .ok (.func fn first cap) w := rfl
def ain (top n : Int) : Bool := decide (0 ≤ n) && decide (n ≤ top)
theorem ain_iff (top n : Int) : ain top n = true ↔ 0 ≤ n ∧ n ≤ top := by simp [ain]
theorem ain_no (top n : Int) (h : ¬(0 ≤ n ∧ n ≤ top)) : ain top n = false := by
 cases h2 : ain top n with
 | false => rfl
 | true => exact absurd ((ain_iff top n).1 h2) h
theorem a_within_any (n top : Int) (w : World) : Calls prog 181 #[.int .i64 n, .int .i64 top] w fun e w' => e = .returned (.bool (ain top n)) ∧ w' = w := by
 by_cases h0 : 0 ≤ n
 ·by_cases h1 : n ≤ top
  ·have fin : ain top n = true := (ain_iff _ _).2 ⟨h0, h1⟩
   rw [fin]
   clear fin
   go_enter func181, ntmps181
   go_wp2
   go_ret
   exact ⟨rfl, rfl⟩
  ·have fin : ain top n = false := ain_no _ _ fun h => h1 h.2
   rw [fin]
   clear fin
   go_enter func181, ntmps181
   go_wp2
   go_ret
   exact ⟨rfl, rfl⟩
 ·have fin : ain top n = false := ain_no _ _ fun h => h0 h.1
  rw [fin]
  clear fin
  go_enter func181, ntmps181
  go_wp2
  go_ret
  exact ⟨rfl, rfl⟩
theorem a_not_any (n top : Int) (pb : Nat) (w : World) (hP : Blk w pb 3 #[.int .i64 top]) : Calls prog 180 #[.int .i64 n, .pointer (some ⟨pb, 0, none⟩)] w fun e w' => e = .returned (.bool (!ain top n)) ∧ w' = w := by
 have c1 : w.cell? ⟨pb, 0, none⟩ = some (.int .i64 top) := hP.cell 0
 clear hP
 go_enter func180, ntmps180
 go_wp2_with (go_at_call 181; refine (a_within_any n top _).mono ?_; rintro e w1 ⟨rfl, rfl⟩)
 go_ret
 exact ⟨rfl, rfl⟩
theorem a_index_any (l : List Int) (top : Int) (A : Option Addr) (n c pb : Nat) (w : World) (hm : n ≤ 4611686018427387904) (hr : Reads w w.heap.size 1 A n (ints l)) (hP : Blk w pb 3 #[.int .i64 top]) :
  Calls prog 164 #[.slice A n c, .func (.func 180) #[] #[.pointer (some ⟨pb, 0, none⟩)]] w fun e w' => ∃ r : Int, e = .returned (.int .i64 r) ∧ (decide (0 ≤ r)) = !ycA top l ∧ w' = w := by
 have en : l.length = n := by have := hr.1; rw [yab] at this; omega
 have Hcell : Hid (0 < n → ∃ b off, A = some ⟨b, off, none⟩ ∧ ∀ k, (hk : k < l.length) → w.cell? ⟨b, off + k, none⟩ = some (.int .i64 l[k])) := qaa fun h => by
  obtain ⟨b, off, e, hb, hc⟩ := hr.2 h
  exact ⟨b, off, e, fun k hk => hc k _ (yai l k hk)⟩
 have Hcl := qaa fun n => a_not_any n top pb w hP
 have Hbad : Hid (∀ k (hk : k < l.length), ain top l[k] = false → ycA top l = false) := qaa fun k hk h => agood_bad k hk fun h2 => by rw [(ain_iff _ _).2 h2] at h; cases h
 have Hgood : Hid ((∀ k (hk : k < l.length), ain top l[k] = true) → ycA top l = true) := qaa fun h => agood_of fun k hk => (ain_iff _ _).1 (h k hk)
 have En := qaa en
 clear hr hP en
 go_enter func164, ntmps164
 go_wp2
 go_loop [8] (fun i => ∃ k : Nat, k ≤ n ∧ i = .int .i64 k ∧ Hid (∀ j (hj : j < l.length), j < k → ain top l[j] = true)) (fun i => n - (intOf i).toNat)
 case atStart => exact ⟨0, by omega, rfl, fun j _ h => by omega⟩
 case round =>
  obtain ⟨k, hk, rfl, Hk⟩ := hrel
  by_cases hlt : k < n
  ·have hkl : k < l.length := by rw [En.out]; exact hlt
   obtain ⟨b, off, rfl, hc⟩ := Hcell.out (by omega)
   have hcell := hc k hkl
   have hki : (0 : Int) ≤ (k : Int) ∧ (k : Int) < n := by omega
   have Hc2 := qaa (Hcl.out l[k])
   clear hc
   cases hz : ain top l[k] with
   | true =>
    have Hn : Hid (∀ j (hj : j < l.length), j < k + 1 → ain top l[j] = true) := qaa fun j hj h => by
     rcases qbe j k with h1 | h1
     ·exact Hk.out j hj h1
     ·obtain rfl : j = k := by omega
      exact hz
    rw [hz] at Hc2
    clear hz Hbad Hgood
    generalize l[k] = x at *
    go_wp2_with (go_at_call 180; refine Hc2.out.mono ?_; rintro e w1 ⟨rfl, rfl⟩)
    go_round
    case rel => exact ⟨k + 1, by omega, iv (by omega), Hn.out⟩
    case measure => simp only [intOf]; omega
   | false =>
    have Hf := qaa (Hbad.out k hkl hz)
    rw [hz] at Hc2
    clear hz Hbad Hgood
    generalize l[k] = x at *
    go_wp2_with (go_at_call 180; refine Hc2.out.mono ?_; rintro e w1 ⟨rfl, rfl⟩)
    go_ret
    exact ⟨_, rfl, by rw [Hf.out]; simp, rfl⟩
  ·obtain rfl : k = n := by omega
   have Hg := qaa (Hgood.out fun j hj => Hk.out j hj (by have := En.out; omega))
   clear Hbad Hgood
   go_wp2
   go_ret
   exact ⟨_, rfl, by rw [Hg.out]; rfl, rfl⟩
theorem a_contains_any (l : List Int) (top : Int) (A : Option Addr) (n c pb : Nat) (w : World) (hm : n ≤ 4611686018427387904) (hr : Reads w w.heap.size 1 A n (ints l)) (hP : Blk w pb 3 #[.int .i64 top]) :
  Calls prog 118 #[.slice A n c, .func (.func 180) #[] #[.pointer (some ⟨pb, 0, none⟩)]] w fun e w' => e = .returned (.bool (!ycA top l)) ∧ w' = w := by
 have Hi := qaa (a_index_any l top A n c pb w hm hr hP)
 clear hr hP
 generalize ycA top l = g at *
 go_enter func118, ntmps118
 go_wp2_with (go_at_call 164; refine Hi.out.mono ?_; rintro e w1 ⟨r, rfl, hd, rfl⟩; have Hd := qaa hd; clear hd)
 go_ret
 exact ⟨by rw [← Hd.out]; rfl, rfl⟩
theorem a_all_any (l : List Int) (top : Int) (A : Option Addr) (n c : Nat) (w : World) (hm : n ≤ 4611686018427387904) (hr : Reads w w.heap.size 1 A n (ints l)) :
  Calls prog 143 #[.slice A n c, .int .i64 top] w fun e w' => e = .returned (.bool (ycA top l)) ∧ Below w.heap.size w w' := by
 have hmf := a_mkfunc
 have hb : Below w.heap.size w (w.alloc (.cells #[.int .i64 top] 3)) := (qak _ _).alloc (qad _) _
 have Hc := qaa (a_contains_any l top A n c w.heap.size (w.alloc (.cells #[.int .i64 top] 3)) hm ((hr.below hb).more hb.size) (Blk.new w _ _))
 have Hb := qaa hb
 clear hr hb
 generalize ycA top l = g at *
 go_enter func143, ntmps143
 go_wp2_with (go_at_call 118; refine Hc.out.mono ?_; rintro e w1 ⟨rfl, rfl⟩)
 go_ret
 exact ⟨by cases g <;> rfl, Hb.out⟩
def cat1 (ls : List Nat) (n s j : Nat) : Int × Int :=
 if 0 < ls.getD j 0 ∧ (ls.getD j 0 < n ∨ (ls.getD j 0 = n ∧ j < s)) then ((ybs ls (ls.getD j 0) j : Nat), (ls.getD j 0 : Nat)) else (0, 0)
def wat (ls : List Nat) (n s : Nat) : List (Int × Int) := (List.range ls.length).map (cat1 ls n s)
theorem yaD (ls : List Nat) (n s : Nat) : (wat ls n s).length = ls.length := by simp [wat]
theorem wat_get (ls : List Nat) (n s j : Nat) (h : j < ls.length) : (wat ls n s)[j]? = some (cat1 ls n s j) := by simp [wat, h]
theorem wat_congr (ls : List Nat) (n s n' s' : Nat) (h : ∀ j, j < ls.length → cat1 ls n s j = cat1 ls n' s' j) : wat ls n s = wat ls n' s' := qcD fun j hj => h j (qaS.1 hj)
theorem wat_zero (ls : List Nat) : wat ls 1 0 = List.replicate ls.length (0, 0) := by
 apply qc8
 intro j
 by_cases h : j < ls.length
 ·rw [wat_get ls 1 0 j h, List.getElem?_replicate, qag h]
  unfold cat1
  rw [qae (by omega)]
 ·rw [qbq (by rw [yaD]; omega), qbq (by simp; omega)]
theorem wat_next (ls : List Nat) (n s : Nat) (h : ls.length ≤ s) : wat ls n s = wat ls (n + 1) 0 := wat_congr ls _ _ _ _ fun j hj => by
 unfold cat1
 by_cases h1 : 0 < ls.getD j 0 ∧ (ls.getD j 0 < n ∨ (ls.getD j 0 = n ∧ j < s))
 ·rw [qag h1, qag (by omega)]
 ·rw [qae h1, qae (by omega)]
theorem wat_skip (ls : List Nat) (n s : Nat) (h : ls.getD s 0 ≠ n) : wat ls n (s + 1) = wat ls n s := wat_congr ls _ _ _ _ fun j hj => by
 unfold cat1
 by_cases e : j = s
 ·subst e
  by_cases h1 : 0 < ls.getD j 0 ∧ ls.getD j 0 < n
  ·rw [qag (by omega), qag (by omega)]
  ·rw [qae (by omega), qae (by omega)]
 ·by_cases h1 : 0 < ls.getD j 0 ∧ (ls.getD j 0 < n ∨ (ls.getD j 0 = n ∧ j < s))
  ·rw [qag h1, qag (by omega)]
  ·rw [qae h1, qae (by omega)]
theorem wat_set (ls : List Nat) (n s : Nat) (hs : s < ls.length) (h : ls.getD s 0 = n) (hn : 0 < n) : (wat ls n s).set s ((ybs ls n s : Nat), (n : Nat)) = wat ls n (s + 1) := by
 apply qc8
 intro j
 by_cases hj : j < ls.length
 ·rw [List.getElem?_set, wat_get ls n (s + 1) j hj, yaD, wat_get ls n s j hj]
  by_cases e : s = j
  ·subst e
   rw [qag rfl, qag hs]
   unfold cat1
   rw [qag (by omega), h]
  ·rw [qae e]
   unfold cat1
   by_cases h1 : 0 < ls.getD j 0 ∧ (ls.getD j 0 < n ∨ (ls.getD j 0 = n ∧ j < s))
   ·rw [qag h1, qag (by omega)]
   ·rw [qae h1, qae (by omega)]
 ·rw [qbq (by rw [qbJ, yaD]; omega), qbq (by rw [yaD]; omega)]
def ybV (l : List Int) : List (Int × Int) × Int := if yat l = 0 then (wat (l.map Int.toNat) 16 0, 0) else ([], yat l)
theorem yfq (k : IntKind) (a b : Int) : ∀ (L : List (Int × Int)) (s : Nat), s < L.length → ((ybg k L).set (s * 2) (.int k a)).set (s * 2 + 1) (.int k b) = ybg k (L.set s (a, b))
 | r :: t, 0, _ => rfl
 | r :: t, s + 1, h => by
  have ih := yfq k a b t s (by simpa using h)
  rw [show (s + 1) * 2 = s * 2 + 1 + 1 from by omega, ybI, qaf, qaf, qaf, qaf, ih, qaf, ybI]
theorem pairs_zero (n : Nat) : madeCells #[.int .i64 0, .int .i64 0] (n * 2) = (ybg .i64 (List.replicate n (0, 0))).toArray := by
 have h : ybg .i64 (List.replicate n (0, 0)) = List.replicate (n * 2) (.int .i64 0) := by
  induction n with
  | zero => rfl
  | succ n ih =>
   rw [qaP, ybI, ih, show (n + 1) * 2 = n * 2 + 1 + 1 from by omega, qaP, qaP]
 rw [h]
 apply Array.ext'
 apply qc8
 intro j
 by_cases hj : j < n * 2
 ·rcases Nat.mod_two_eq_zero_or_one j with e | e <;> simp [madeCells, hj, e]
 ·simp [madeCells, hj]
theorem field_info : (prog.info? 143).map (fun i => (i.zero, i.size, i.bytes)) = some (some (.agg #[.int .i64 0, .int .i64 0]), 2, 16) := by kernel_rfl
theorem mk_fields (n : Nat) (h : n ≤ 1000000) (w : World) : (Instr.makeSlice 137 (.int .i64 (n : Int)) (.int .i64 (n : Int))).run prog w = .ok (.slice (some ⟨w.heap.size, 0, none⟩) n n) (w.alloc (.cells (ybg .i64 (List.replicate n (0, 0))).toArray 143)) := by
 obtain ⟨i0, hi, hz0, hz1, hz2⟩ : ∃ i0, prog.info? 143 = some i0 ∧ i0.zero = some (.agg #[.int .i64 0, .int .i64 0]) ∧ i0.size = 2 ∧ i0.bytes = 16 := by
  have h := field_info
  cases hi : prog.info? 143 with
  | none => rw [hi] at h; cases h
  | some i0 =>
   rw [hi] at h
   simp only [qbR, qch, qb8] at h
   exact ⟨i0, rfl, h.1, h.2.1, h.2.2⟩
 have hr := run_make (P := prog) w 137 143 i0 _ underlying137 hi hz0 .i64 .i64 n n (by omega) (Int.le_refl _) (by rw [hz2]; omega) (by omega)
 simp only [qan, hz1] at hr
 rw [hr]
 show Result.ok _ (w.alloc (.cells (madeCells #[.int .i64 0, .int .i64 0] (n * 2)) 143)) = _
 rw [pairs_zero]
theorem wat_store {W : World} {g : Nat} {ls : List Nat} {n s : Nat} (hB : Blk W g 143 (ybg .i64 (wat ls n s)).toArray) (hs : s < ls.length) (h : ls.getD s 0 = n) (hn : 0 < n) :
  (∃ a b, W.cell? ⟨g, s * 2, none⟩ = some (.int .i64 a) ∧ W.cell? ⟨g, s * 2 + 1, none⟩ = some (.int .i64 b)) ∧ W.frozen? ⟨g, s * 2, none⟩ = false ∧ W.frozen? ⟨g, s * 2 + 1, none⟩ = false ∧
   Blk ((W.setCell ⟨g, s * 2, none⟩ (.int .i64 ((ybs ls n s : Nat) : Int))).setCell ⟨g, s * 2 + 1, none⟩ (.int .i64 (n : Int))) g 143 (ybg .i64 (wat ls n (s + 1))).toArray := by
 have hl : s < (wat ls n s).length := by rw [yaD]; exact hs
 refine ⟨⟨(wat ls n s)[s].1, (wat ls n s)[s].2, ?_, ?_⟩, hB.frozen _, hB.frozen _, ?_⟩
 ·rw [hB.cell, qaB]
  exact ydd .i64 _ s hl
 ·rw [hB.cell, qaB]
  exact ycU .i64 _ s hl
 ·have h2 := (hB.set_ (s * 2) (.int .i64 ((ybs ls n s : Nat) : Int))).set_ (s * 2 + 1) (.int .i64 (n : Int))
  rw [qac, qac, yfq .i64 _ _ _ s hl, wat_set ls n s hs h hn] at h2
  exact h2
theorem cpos_le {ls : List Nat} (n s : Nat) : cpos ls n s ≤ call ls := wsum_le ls 0 fun j hj hp => by
 simp only [qca] at hp
 exact hp.1
theorem yg7 : ∀ (l : List Int), call (l.map Int.toNat) = yap l := by
 have h : ∀ (l : List Int) (i : Nat), wsum (fun _ x => decide (0 < x)) i (l.map Int.toNat) = yap l := by
  intro l
  induction l with
  | nil => intro i; rfl
  | cons x t ih =>
   intro i
   show (if decide (0 < x.toNat) = true then 2 ^ (15 - x.toNat) else 0) + wsum _ (i + 1) (t.map Int.toNat) = (if 0 < x then 2 ^ (15 - x.toNat) else 0) + yap t
   rw [ih (i + 1)]
   congr 1
   by_cases h : 0 < x
   ·rw [qag h, qag (by simp; omega)]
   ·rw [qae h, qae (by simp; omega)]
 exact fun l => h l 0
theorem ycj {l : List Int} (h : yat l = 0) : l.length ≤ 257 ∧ yde l = true ∧ call (l.map Int.toNat) ≤ 32768 := by
 unfold yat at h
 by_cases h1 : 257 < l.length
 ·rw [qag h1] at h; cases h
 ·rw [qae h1] at h
  by_cases h2 : sumF l = 0 ∨ sumF l = 32768 ∨ ((yau l : Int) = 1 ∧ sumF l = 16384)
  ·unfold sumF at h2
   by_cases hg : yde l = true
   ·rw [qag hg] at h2
    refine ⟨by omega, hg, ?_⟩
    rw [yg7]
    omega
   ·rw [qae hg] at h2
    omega
  ·rw [qae h2] at h; cases h
theorem cref_words_any (l : List Int) (A : Option Addr) (n c : Nat) (w : World) (hm : n ≤ 1000000) (hr : Reads w w.heap.size 1 A n (ints l)) :
  Calls prog 112 #[.slice A n c] w fun e w' => ∃ A' c', e = .returned (.tuple #[.slice A' (ybV l).1.length c', .int .i64 (ybV l).2]) ∧ (ybV l).1.length ≤ c' ∧ Reads w' w'.heap.size 2 A' (ybV l).1.length (ybg .i64 (ybV l).1) ∧ Below w.heap.size w w' := by
 have el : l.length = n := by have := hr.1; rw [yab] at this; omega
 have Hchk := qaa (lref_check_any l A n c w hm hr)
 obtain ⟨F, hF⟩ : ∃ F, ybV l = F := ⟨_, rfl⟩
 rw [hF]
 unfold ybV at hF
 by_cases h0 : yat l = 0
 ·rw [qag h0] at hF
  rw [h0] at Hchk
  obtain ⟨hl, hg, hca⟩ := ycj h0
  have Hc1 : Hid (0 < n → ∃ b off, A = some ⟨b, off, none⟩ ∧ ∀ wr, Below w.heap.size w wr → ∀ k, (hk : k < l.length) → wr.cell? ⟨b, off + k, none⟩ = some (.int .i64 l[k])) := qaa fun h => by
   obtain ⟨b, off, e, hb, hc⟩ := hr.2 h
   exact ⟨b, off, e, fun wr hw k hk => (hw.cell (p := ⟨b, off + k, none⟩) hb).trans (hc k _ (yai l k hk))⟩
  obtain ⟨ls, hls⟩ : ∃ ls, l.map Int.toNat = ls := ⟨_, rfl⟩
  have hlsn : ls.length = n := by rw [← hls, qaD, el]
  have Hls : Hid (∀ k (hk : k < l.length) (hk2 : k < ls.length), (ls[k] : Int) = l[k] ∧ ls[k] ≤ 15) := qaa fun k hk hk2 => by
   have := yaJ hg k hk
   subst hls
   rw [qaQ]
   omega
  rw [hls] at hF hca
  have Hca := qaa hca
  have Hel := qaa el
  have Hln := qaa hlsn
  have hmk := fun W => mk_fields n hm W
  rw [← hlsn, ← wat_zero] at hmk
  rw [hlsn] at hmk
  have Hf := qaa hF
  have hni : (n : Int) ≤ 257 := by omega
  have Hz : Hid (cpos ls 1 0 = 0) := qaa (by rw [← ycu 0 ls.length (qad _)]; exact ycz _)
  clear hr hF h0 hg hca hls el hl hlsn
  go_enter func112, ntmps112
  go_wp2_with (go_at_call 155; refine Hchk.out.mono ?_; rintro e w1 ⟨rfl, rfl⟩)
  have HB0 : Hid (Blk (w1.alloc (.cells (ybg .i64 (wat ls 1 0)).toArray 143)) w1.heap.size 143 (ybg .i64 (wat ls 1 0)).toArray) := qaa (Blk.new _ _ _)
  have HG0 : Hid (w1.grownBy (w1.alloc (.cells (ybg .i64 (wat ls 1 0)).toArray 143)) (some w1.heap.size)) := qaa (ydC (ycT _ _) _)
  have Hpb : Hid (∀ X Y N s : Nat, Y ≤ 15 → X * 2 ^ (15 - Y) = cpos ls N s → X ≤ 32768) := qaa fun X Y N s hY h => by
   have h1 := cpos_le (ls := ls) N s
   have h2 := Hca.out
   have h3 : 0 < (2 : Nat) ^ (15 - Y) := qaX (by omega)
   have h4 : X * 1 ≤ X * 2 ^ (15 - Y) := qci X h3
   omega
  generalize w1.alloc (.cells (ybg .i64 (wat ls 1 0)).toArray 143) = wz at *
  clear hmk
  go_loopw [6, 7, 8, 9] (fun nx la nn ss wr => ∃ (N X Y : Nat), 1 ≤ N ∧ N ≤ 16 ∧ Y < N ∧ nx = .int .i64 X ∧ la = .int .i64 Y ∧ nn = .int .i64 N ∧ Hid (X * 2 ^ (15 - Y) = cpos ls N 0) ∧ Hid (Blk wr w1.heap.size 143 (ybg .i64 (wat ls N 0)).toArray) ∧ Hid (w1.grownBy wr (some w1.heap.size))) (fun _ _ nn _ _ => 17 - (intOf nn).toNat)
  case atStart => exact ⟨1, 0, 0, by omega, by omega, by omega, rfl, rfl, rfl, qaa (by simp [Hz.out]), HB0, HG0⟩
  case round =>
   obtain ⟨N, X, Y, hN1, hN2, hY, rfl, rfl, rfl, HX, HB, HG⟩ := hrel
   clear HB0 HG0
   by_cases hlt : N ≤ 15
   ·have hNz : (N : Int) ≤ 15 := by omega
    go_wp2
    go_loopw [6, 7, 9] (fun nx la ss wr => ∃ (s X Y : Nat), s ≤ n ∧ Y ≤ N ∧ nx = .int .i64 X ∧ la = .int .i64 Y ∧ ss = .int .i64 s ∧ Hid (X * 2 ^ (15 - Y) = cpos ls N s) ∧ Hid (Blk wr w1.heap.size 143 (ybg .i64 (wat ls N s)).toArray) ∧ Hid (w1.grownBy wr (some w1.heap.size))) (fun _ _ ss _ => n - (intOf ss).toNat)
    case atStart => exact ⟨0, X, Y, by omega, by omega, rfl, rfl, rfl, HX, HB, HG⟩
    case round =>
     obtain ⟨s, X, Y, hs, hY2, rfl, rfl, rfl, HX2, HB2, HG2⟩ := hrel
     clear HX HB HG
     by_cases hst : s < n
     ·have hsz : (0 : Int) ≤ (s : Int) ∧ (s : Int) < (n : Int) := by omega
      have hsl : s < l.length := by rw [Hel.out]; exact hst
      have hsn : s < ls.length := by rw [Hln.out]; exact hst
      obtain ⟨b1, o1, rfl, hcell⟩ := Hc1.out (by omega)
      have x1 := hcell wr (ydB HG2.out (qad _) (qad _)) s hsl
      obtain ⟨hv, hv2⟩ := Hls.out s hsl hsn
      clear hcell
      rw [← hv] at x1
      have hgd : ls.getD s 0 = ls[s] := by rw [qaj, qah hsn]; rfl
      by_cases hne : ls[s] = N
      ·have hbe : ((ls[s] : Int) == (N : Int)) = true := by simp; omega
       have hbn : ((ls[s] : Int) != (N : Int)) = false := by simp; omega
       have hie : (ls[s] : Int) = (N : Int) := by omega
       rw [hie] at x1
       have hgN : ls.getD s 0 = N := by rw [hgd, hne]
       have Hstep := qaa (ygY N s hsn hne (by omega))
       have Hw := qaa fun W hB => wat_store (W := W) (g := w1.heap.size) hB hsn hgN (by omega)
       clear hbe hbn hie hgd hne hv hv2
       go_wp2
       go_loopw [6, 7] (fun nx la W => ∃ X Y : Nat, Y ≤ N ∧ nx = .int .i64 X ∧ la = .int .i64 Y ∧ Hid (X * 2 ^ (15 - Y) = cpos ls N s) ∧ Hid (Blk W w1.heap.size 143 (ybg .i64 (wat ls N s)).toArray) ∧ Hid (w1.grownBy W (some w1.heap.size))) (fun _ la _ => N - (intOf la).toNat)
       case atStart => exact ⟨X, Y, hY2, rfl, rfl, HX2, HB2, HG2⟩
       case round =>
        obtain ⟨X, Y, hY3, rfl, rfl, HX3, HB3, HG3⟩ := hrel
        clear HX2 HB2 HG2
        have hxb := Hpb.out X Y N s (by omega) HX3.out
        by_cases hYN : Y < N
        ·have hYz : (Y : Int) < (N : Int) := by omega
         have HX4 : Hid (2 * X * 2 ^ (15 - (Y + 1)) = cpos ls N s) := qaa (by
          rw [← HX3.out, show 15 - Y = 15 - (Y + 1) + 1 from by omega, qaR, qb6 2 X, qcl, qb6 2])
         go_wp2
         go_roundw
         case rel => exact ⟨2 * X, Y + 1, by omega, iv (by omega), iv (by omega), HX4, HB3, HG3⟩
         case measure => simp only [intOf]; omega
        ·have hYz : ¬ (Y : Int) < (N : Int) := by omega
         obtain rfl : Y = N := by omega
         have hX5 : ybs ls Y s = X := by
          unfold ybs
          rw [← HX3.out, Nat.mul_div_cancel _ (qaX (by omega))]
         obtain ⟨⟨a, b, d1, d2⟩, d3, d4, d5⟩ := Hw.out wr HB3.out
         rw [hX5] at d5
         have HB5 := qaa d5
         have HX6 : Hid ((X + 1) * 2 ^ (15 - Y) = cpos ls Y (s + 1)) := qaa (by rw [Hstep.out, ← HX3.out, qcs, Nat.one_mul])
         clear d5 hX5 Hw Hstep
         go_wp2
         go_roundw
         case rel => exact ⟨s + 1, X + 1, Y, by omega, by omega, iv (by omega), rfl, iv (by omega), HX6, HB5, qaa (ybe (ybe HG3.out (qay rfl) _) (qay rfl) _)⟩
         case measure => simp only [intOf]; omega
      ·have hbe : ((ls[s] : Int) == (N : Int)) = false := by simp; omega
       have hbn : ((ls[s] : Int) != (N : Int)) = true := by simp; omega
       have hie : ¬ (ls[s] : Int) = (N : Int) := by omega
       have HX6 : Hid (X * 2 ^ (15 - Y) = cpos ls N (s + 1)) := qaa (by rw [yey N s fun _ => hne]; exact HX2.out)
       have HB5 : Hid (Blk wr w1.heap.size 143 (ybg .i64 (wat ls N (s + 1))).toArray) := qaa (by rw [wat_skip ls N s (by rw [hgd]; exact hne)]; exact HB2.out)
       clear HX2 HB2 hgd hne hv hv2
       generalize ls[s] = lv at *
       go_wp2
       go_roundw
       case rel => exact ⟨s + 1, X, Y, by omega, hY2, rfl, rfl, iv (by omega), HX6, HB5, HG2⟩
       case measure => simp only [intOf]; omega
     ·obtain rfl : s = n := by omega
      have hsz : ¬ (s : Int) < (s : Int) := by omega
      have HX6 : Hid (X * 2 ^ (15 - Y) = cpos ls (N + 1) 0) := qaa (by rw [← ycu N s (by rw [Hln.out]; exact qad _)]; exact HX2.out)
      have HB5 : Hid (Blk wr w1.heap.size 143 (ybg .i64 (wat ls (N + 1) 0)).toArray) := qaa (by rw [← wat_next ls N s (by rw [Hln.out]; exact qad _)]; exact HB2.out)
      clear HX2 HB2
      go_wp2
      go_roundw
      case rel => exact ⟨N + 1, X, Y, by omega, by omega, by omega, rfl, rfl, iv (by omega), HX6, HB5, HG2⟩
      case measure => simp only [intOf]; omega
   ·obtain rfl : N = 16 := by omega
    go_wp2
    go_ret2
    rw [← Hf.out]
    refine ⟨some ⟨w1.heap.size, 0, none⟩, n, ?_, ?_, ?_, ydB HG.out (qad _) (qad _)⟩
    ·show _ = Ending.returned (.tuple #[.slice (some ⟨w1.heap.size, 0, none⟩) (wat ls 16 0).length n, .int .i64 0])
     rw [yaD, Hln.out]
     rfl
    ·show (wat ls 16 0).length ≤ n
     rw [yaD, Hln.out]
     exact qad _
    ·refine ⟨by rw [pairs_length], fun _ => ⟨w1.heap.size, 0, rfl, HB.out.lt, fun j u hu => ?_⟩⟩
     rw [qaz, HB.out.cell, qaB]
     exact hu
 ·rw [qae h0] at hF
  have Hf := qaa hF
  have hb0 : (yat l == 0) = false := by simpa using h0
  clear hr hF
  generalize yat l = E at *
  go_enter func112, ntmps112
  go_wp2_with (go_at_call 155; refine Hchk.out.mono ?_; rintro e w1 ⟨rfl, rfl⟩)
  go_ret2
  rw [← Hf.out]
  exact ⟨none, 0, rfl, qad _, Reads.none_, qak _ _⟩
def dig : Nat → Nat → List Nat
 | 0, _ => []
 | w + 1, n => dig w (n / 2) ++ [n % 2]
theorem yad : ∀ w n, (dig w n).length = w
 | 0, _ => rfl
 | w + 1, n => by simp [dig, yad w]
def Bin (l : List Nat) : Prop := ∀ d ∈ l, d < 2
theorem yfi : Bin [] := by simp [Bin]
theorem Bin.app {a b : List Nat} (h : Bin a) (k : Bin b) : Bin (a ++ b) := fun d hd => by
 rcases qbk.1 hd with hd | hd
 ·exact h d hd
 ·exact k d hd
theorem ycD : ∀ w n, Bin (dig w n)
 | 0, _ => yfi
 | w + 1, n => (ycD w (n / 2)).app fun d hd => by
  rw [qcq] at hd
  omega
theorem ycs : ∀ (a b n : Nat), dig (a + b) n = dig a (n / 2 ^ b) ++ dig b n
 | a, 0, n => by simp [dig]
 | a, b + 1, n => by
  show dig (a + b) (n / 2) ++ [n % 2] = _
  rw [ycs a b (n / 2), qbP, qb6 2, ← qaR, dig, qam]
theorem ydn : ∀ w, dig w 0 = List.replicate w 0
 | 0 => rfl
 | w + 1 => by
  rw [dig, qcf, Nat.zero_div, ydn w]
def num (l : List Nat) : Nat := l.foldl (fun s d => 2 * s + d) 0
theorem num_fold (l : List Nat) : ∀ s, l.foldl (fun s d => 2 * s + d) s = s * 2 ^ l.length + num l := by
 induction l with
 | nil => intro s; simp [num]
 | cons a t ih =>
  intro s
  have e : num (a :: t) = a * 2 ^ t.length + num t := by
   show (a :: t).foldl (fun s d => 2 * s + d) 0 = _
   rw [List.foldl_cons, ih]
   simp
  rw [List.foldl_cons, ih, e, qap, qaR]
  simp only [qcs]
  rw [qb6 2 s, qcl, qb6 2, qbU]
theorem ybH (a b : List Nat) : num (a ++ b) = num a * 2 ^ b.length + num b := by
 unfold num
 rw [List.foldl_append, num_fold]
 rfl
theorem yfV (a : List Nat) (d : Nat) : num (a ++ [d]) = 2 * num a + d := by
 rw [ybH]
 simp [num]
 omega
theorem ycL : ∀ w n, num (dig w n) = n % 2 ^ w
 | 0, n => by simp [dig, num, Nat.mod_one]
 | w + 1, n => by
  rw [dig, yfV, ycL w, qaR, qb6 (2 ^ w), Nat.mod_mul]
  omega
theorem Bin.snoc {l : List Nat} {d : Nat} (h : Bin (l ++ [d])) : Bin l ∧ d < 2 :=
 ⟨fun x hx => h x (by simp [hx]), h d (by simp)⟩
theorem snoc_of {n : Nat} {l : List Nat} (h : l.length = n + 1) : ∃ a d, l = a ++ [d] ∧ a.length = n := by
 have hne : l ≠ [] := by
  rintro rfl
  simp at h
 exact ⟨l.dropLast, l.getLast hne, (List.dropLast_concat_getLast hne).symm, by simp; omega⟩
theorem num_lt_of : ∀ (n : Nat) (l : List Nat), l.length = n → Bin l → num l < 2 ^ n
 | 0, l, h, _ => by
  rw [qa1.1 h]
  simp [num]
 | n + 1, l, h, hb => by
  obtain ⟨a, d, rfl, ha⟩ := snoc_of h
  have := num_lt_of n a ha hb.snoc.1
  have := hb.snoc.2
  rw [yfV, qaR]
  omega
theorem ydN {l : List Nat} (h : Bin l) : num l < 2 ^ l.length := num_lt_of _ l rfl h
theorem yd2 : ∀ (n : Nat) (l : List Nat), l.length = n → Bin l → dig n (num l) = l
 | 0, l, h, _ => by
  rw [qa1.1 h]
  rfl
 | n + 1, l, h, hb => by
  obtain ⟨a, d, rfl, ha⟩ := snoc_of h
  have h1 := yd2 n a ha hb.snoc.1
  have := hb.snoc.2
  rw [yfV, dig, show (2 * num a + d) / 2 = num a from by omega, show (2 * num a + d) % 2 = d from by omega, h1]
theorem dig_num {l : List Nat} (h : Bin l) : dig l.length (num l) = l := yd2 _ l rfl h
theorem dig_mid (a p c n : Nat) : ((dig (a + p + c) n).drop a).take p = dig p (n / 2 ^ c) := by
 rw [ycs (a + p) c, ycs a p, qam, qbK (yad _ _), qcd (yad _ _)]
def text : List Nat → List UInt8
 | [] => []
 | a :: t => UInt8.ofNat (num ((a :: t).take 8) * 2 ^ (8 - ((a :: t).take 8).length)) :: text (t.drop 7)
termination_by l => l.length
decreasing_by simp; omega
theorem ych : text [] = [] := by rw [text]
theorem ycZ (l : List Nat) (h : l ≠ []) : text l = UInt8.ofNat (num (l.take 8) * 2 ^ (8 - (l.take 8).length)) :: text (l.drop 8) := by
 cases l with
 | nil => exact absurd rfl h
 | cons a t => rw [text]; rfl
theorem ybw : ∀ (q : Nat) (A B : List Nat), A.length = 8 * q → text (A ++ B) = text A ++ text B
 | 0, A, B, h => by
  obtain rfl := qa1.1 (show A.length = 0 by omega)
  simp [ych]
 | q + 1, A, B, h => by
  have hA : A ≠ [] := by
   rintro rfl
   simp at h
  rw [ycZ (A ++ B) (by simp [hA]), ycZ A hA, qbh (by omega), qaW (by omega), ybw q (A.drop 8) B (by simp; omega)]
  rfl
theorem ybx (B : List Nat) (h0 : 0 < B.length) (h8 : B.length ≤ 8) : text B = [UInt8.ofNat (num B * 2 ^ (8 - B.length))] := by
 rw [ycZ B (by rintro rfl; simp at h0), qar h8, qaH h8, ych]
theorem ydM : ∀ (n : Nat) (l : List Nat), l.length ≤ n → (text l).length = (l.length + 7) / 8
 | 0, l, h => by
  obtain rfl := qa1.1 (show l.length = 0 by omega)
  rw [ych]
  rfl
 | n + 1, l, h => by
  by_cases hl : l = []
  ·subst hl
   rw [ych]
   rfl
  ·have hpos : 0 < l.length := List.length_pos_iff.2 hl
   rw [ycZ l hl, qap, ydM n _ (by simp; omega), qas]
   omega
theorem yaW (l : List Nat) : (text l).length = (l.length + 7) / 8 := ydM _ l (qad _)
def fr (l : List Nat) : Nat := (8 - l.length % 8) % 8
theorem fr_lt (l : List Nat) : fr l < 8 := by unfold fr; omega
theorem text_new (R P : List Nat) (hR : fr R = 0) (h0 : 0 < P.length) (h8 : P.length ≤ 8) : text (R ++ P) = text R ++ [UInt8.ofNat (num P * 2 ^ (8 - P.length))] := by
 rw [ybw (R.length / 8) R P (by unfold fr at hR; omega), ybx P h0 h8]
theorem text_more (R P : List Nat) (f : Nat) (hR : fr R = f) (hf : 0 < f) (hb : Bin R) (hP : P.length ≤ f) :
  ∃ T b, text R = T ++ [b] ∧ text (R ++ P) = T ++ [UInt8.ofNat (b.toNat + num P * 2 ^ (f - P.length))] ∧ b.toNat % 2 ^ f = 0 := by
 have hf8 : f < 8 := by rw [← hR]; exact fr_lt R
 have hAl : (R.take (8 * (R.length / 8))).length = 8 * (R.length / 8) := by simp; omega
 have hBl : (R.drop (8 * (R.length / 8))).length = 8 - f := by simp; unfold fr at hR; omega
 have hsp := qax (8 * (R.length / 8)) R
 have hBb : Bin (R.drop (8 * (R.length / 8))) := fun d hd => hb d (qbg hd)
 generalize R.take (8 * (R.length / 8)) = A at *
 generalize R.drop (8 * (R.length / 8)) = B at *
 have hnB := ydN hBb
 rw [hBl] at hnB
 have hsz : num B * 2 ^ f < 256 := by
  have h1 : num B * 2 ^ f < 2 ^ (8 - f) * 2 ^ f := qb9 hnB (qaX (by omega))
  rw [← qbF, show 8 - f + f = 8 from by omega] at h1
  exact h1
 refine ⟨text A, UInt8.ofNat (num B * 2 ^ f), ?_, ?_, ?_⟩
 ·rw [← hsp, ybw _ A B hAl, ybx B (by omega) (by omega), hBl, show 8 - (8 - f) = f from by omega]
 ·rw [← hsp, qam, ybw _ A (B ++ P) hAl, ybx (B ++ P) (by rw [qab]; omega) (by rw [qab]; omega), ybH, qab, hBl,
   show 8 - (8 - f + P.length) = f - P.length from by omega, yaz _ hsz, qcs, qcl, ← qbF, show P.length + (f - P.length) = f from by omega]
 ·rw [yaz _ hsz]
  exact Nat.mul_mod_left _ _
def yag (s : List UInt8) : List Nat := s.flatMap fun b => dig 8 b.toNat
theorem yem (b : UInt8) (s : List UInt8) : yag (b :: s) = dig 8 b.toNat ++ yag s := rfl
theorem row_append (a b : List UInt8) : yag (a ++ b) = yag a ++ yag b := by simp [yag]
theorem yax (s : List UInt8) : (yag s).length = 8 * s.length := by
 induction s with
 | nil => rfl
 | cons b s ih => rw [yem, qab, yad, ih, qap]; omega
theorem yc8 : ∀ s, Bin (yag s)
 | [] => yfi
 | b :: s => (ycD 8 b.toNat).app (yc8 s)
theorem row_drop : ∀ (s : List UInt8) (q : Nat), (yag s).drop (8 * q) = yag (s.drop q)
 | s, 0 => by simp
 | [], q + 1 => by simp [yag]
 | b :: s, q + 1 => by
  rw [yem, qbu, ← row_drop s q, show 8 * (q + 1) = 8 + 8 * q from by omega, ← qbt, qbK (yad _ _)]
theorem row_mid (s : List UInt8) (q r p : Nat) (hq : q < s.length) (hr : r + p ≤ 8) : ((yag s).drop (8 * q + r)).take p = dig p (s[q].toNat / 2 ^ (8 - r - p)) := by
 rw [← qbt, row_drop, qau hq, yem, qaW (by rw [yad]; omega), qbh (by rw [qas, yad]; omega)]
 have := dig_mid r p (8 - r - p) s[q].toNat
 rwa [show r + p + (8 - r - p) = 8 from by omega] at this
theorem ygJ : ∀ (n : Nat) (R : List Nat), R.length ≤ n → Bin R → yag (text R) = R ++ List.replicate (fr R) 0
 | 0, R, h, _ => by
  obtain rfl := qa1.1 (show R.length = 0 by omega)
  rw [ych]
  rfl
 | n + 1, R, h, hb => by
  by_cases hl : R = []
  ·subst hl
   rw [ych]
   rfl
  ·have hpos : 0 < R.length := List.length_pos_iff.2 hl
   rw [ycZ R hl, yem, ygJ n (R.drop 8) (by simp; omega) (fun d hd => hb d (qbg hd))]
   have hb8 : Bin (R.take 8) := fun d hd => hb d (qaN hd)
   have hnB := ydN hb8
   have hl8 : (R.take 8).length ≤ 8 := by simp; omega
   have hsz : num (R.take 8) * 2 ^ (8 - (R.take 8).length) < 256 := by
    have h1 : num (R.take 8) * 2 ^ (8 - (R.take 8).length) < 2 ^ (R.take 8).length * 2 ^ (8 - (R.take 8).length) := qb9 hnB (qaX (by omega))
    rw [← qbF, show (R.take 8).length + (8 - (R.take 8).length) = 8 from by omega] at h1
    exact h1
   rw [yaz _ hsz]
   have hd : dig 8 (num (R.take 8) * 2 ^ (8 - (R.take 8).length)) = R.take 8 ++ List.replicate (8 - (R.take 8).length) 0 := by
    have h1 := ycs (R.take 8).length (8 - (R.take 8).length) (num (R.take 8) * 2 ^ (8 - (R.take 8).length))
    rw [show (R.take 8).length + (8 - (R.take 8).length) = 8 from by omega, Nat.mul_div_cancel _ (qaX (by omega)), dig_num hb8] at h1
    rw [h1]
    congr 1
    have hz : num (dig (8 - (R.take 8).length) (num (R.take 8) * 2 ^ (8 - (R.take 8).length))) = 0 := by rw [ycL]; exact Nat.mul_mod_left _ _
    have h2 := dig_num (ycD (8 - (R.take 8).length) (num (R.take 8) * 2 ^ (8 - (R.take 8).length)))
    rw [hz, yad, ydn] at h2
    exact h2.symm
   rw [hd]
   by_cases h8 : 8 ≤ R.length
   ·rw [show (R.take 8).length = 8 from by simp; omega]
    simp only [qbS, qcG, qa8]
    rw [← qam, qax]
    congr 2
    unfold fr
    simp
    omega
   ·rw [qar (by omega), qaH (by omega), qbc]
    have : fr ([] : List Nat) = 0 := rfl
    rw [this, qcG, qa8]
    congr 2
    unfold fr
    omega
theorem row_text {R : List Nat} (h : Bin R) : yag (text R) = R ++ List.replicate (fr R) 0 := ygJ _ R (qad _) h
def fits (n w : Int) : Prop := 0 ≤ w ∧ w ≤ 32 ∧ 0 ≤ n ∧ n < 2 ^ w.toNat
instance (n w : Int) : Decidable (fits n w) := by unfold fits; infer_instance
def digI (n w : Int) : List Nat := dig w.toNat n.toNat
def ybq (l : List Nat) (at_ w : Int) : Int × Int :=
 if w < 0 ∨ 32 < w then (0, 2) else if at_ + w > l.length then (0, 4) else ((num ((l.drop at_.toNat).take w.toNat) : Int), 0)
theorem yhn : (prog.info? 3).map (fun i => (i.zero, i.size, i.bytes)) = some (some (.int .i64 0), 1, 8) := by kernel_rfl
def bcs (l : List Nat) : List Value := l.map fun d : Nat => Value.int .i64 (d : Int)
theorem ydE (l : List Nat) : (bcs l).length = l.length := by simp [bcs]
theorem bcs_get (l : List Nat) (i : Nat) (h : i < l.length) : (bcs l)[i]? = some (.int .i64 (l[i] : Int)) := by simp [bcs, h]
theorem ybG (a b : List Nat) : bcs (a ++ b) = bcs a ++ bcs b := by simp [bcs]
theorem bcs_set (A C : List Nat) (b c : Nat) : (bcs (A ++ b :: C)).toArray.setIfInBounds A.length (.int .i64 (c : Int)) = (bcs (A ++ c :: C)).toArray := by
 rw [qac]
 congr 1
 simp [bcs]
theorem yfl (l : List Nat) : ∀ u ∈ bcs l, u.oneCell' = true := by
 intro u hu
 obtain ⟨d, _, rfl⟩ := qb5.1 hu
 rfl
theorem ye6 (n : Nat) (h : n ≤ 17592186044416) (w : World) :
  (Instr.makeSlice 28 (.int .i64 (n : Int)) (.int .i64 (n : Int))).run prog w = .ok (.slice (some ⟨w.heap.size, 0, none⟩) n n) (w.alloc (.cells (bcs (List.replicate n 0)).toArray 3)) := by
 have e : madeCells #[.int .i64 0] n = (bcs (List.replicate n 0)).toArray := by
  apply Array.ext'
  simp [madeCells, Nat.mod_one, bcs]
  rw [qcw, qa7]
 rw [← e]
 exact run_make_row' (P := prog) 28 3 (.int .i64 0) 8 underlying28 yhn rfl .i64 .i64 n (by omega) (by omega) w
theorem dig_low (k N : Nat) : dig (k + 1) N = N / 2 ^ k % 2 :: dig k N := by
 rw [qcC, ycs 1 k]
 rfl
theorem refDig_in (N W : Nat) (w : World) (hW : W ≤ 32) (hN : N < 9223372036854775808) : Calls prog 156 #[.int .i64 N, .int .i64 W] w fun e w' =>
  ∃ h, e = .returned (.tuple #[.slice (some ⟨h, 0, none⟩) W W, .bool ((N : Int) / 2 ^ W == 0)]) ∧ Blk w' h 3 (bcs (dig W N)).toArray ∧ w.heap.size ≤ h ∧ Below w.heap.size w w' := by
 have hmk := ye6 W (by omega) w
 have hWi : (W : Int) ≤ 32 := by omega
 have hN0 : (0 : Int) ≤ N := by omega
 have HN := qaa hN
 clear hN
 go_enter func156, ntmps156
 go_wp2
 clear hmk
 go_loopw [0, 7] (fun n i wr => ∃ j x : Nat, j ≤ W ∧ i = .int .i64 ((j : Int) - 1) ∧ n = .int .i64 x ∧ Hid (x = N / 2 ^ (W - j)) ∧ Hid (Blk wr w.heap.size 3 (bcs (List.replicate j 0 ++ dig (W - j) N)).toArray) ∧ Hid (Below w.heap.size w wr)) (fun _ i _ => (intOf i + 1).toNat)
 case atStart => exact ⟨W, N, qad _, rfl, rfl, by show N = _; simp, by show Blk _ _ _ _; simpa [dig] using Blk.new w 3 _, by show Below _ _ _; go_grown⟩
 case round =>
  obtain ⟨j, x, hj, rfl, rfl, Hx, HB, Hb⟩ := hrel
  by_cases hlt : 0 < j
  ·obtain ⟨j, rfl⟩ : ∃ i, j = i + 1 := ⟨j - 1, by omega⟩
   have e1 : ((j + 1 : Nat) : Int) - 1 = (j : Int) := by omega
   rw [e1]
   have hb0 := HB.out
   rw [qcf, qam] at hb0
   have hf : wr.frozen? ⟨w.heap.size, j, none⟩ = false := hb0.frozen _
   have hc : wr.cell? ⟨w.heap.size, j, none⟩ = some (.int .i64 0) := by
    rw [hb0.cell]
    simp [bcs]
   have hnew := hb0.set_ j (.int .i64 ((x % 2 : Nat) : Int))
   rw [show ([0] ++ dig (W - (j + 1)) N : List Nat) = 0 :: dig (W - (j + 1)) N from rfl] at hnew
   have hset := bcs_set (List.replicate j 0) (dig (W - (j + 1)) N) 0 (x % 2)
   rw [qav] at hset
   rw [hset] at hnew
   have hglt := hb0.lt
   have hjW : (j : Int) < W := by omega
   have Hnew := qaa hnew
   clear hnew hset hb0 e1
   go_wp2
   go_roundw
   case rel =>
    refine ⟨j, x / 2, by omega, rfl, iv (by have := HN.out; have : N / 2 ^ (W - (j + 1)) ≤ N := Nat.div_le_self _ _; have := Hx.out; unfold wrap64; omega), ?_, ?_, ?_⟩
    ·show x / 2 = N / 2 ^ (W - j)
     rw [Hx.out, show W - j = W - (j + 1) + 1 from by omega, qaR, qbP]
    ·show Blk _ _ _ _
     have h1 := Hnew.out
     rw [Hx.out, ← dig_low, show W - (j + 1) + 1 = W - j from by omega] at h1
     simpa [Hx.out] using h1
    ·show Below _ _ _
     have := Hb.out
     go_grown
   case measure => simp [intOf]
  ·obtain rfl : j = 0 := by omega
   have hx := Hx.out
   have hfin : ((x : Int) == 0) = ((N : Int) / 2 ^ W == 0) := by
    rw [hx, qc1]
    norm_cast
   have Hfin := qaa hfin
   clear hfin hx
   go_wp2
   go_ret2
   refine ⟨w.heap.size, by rw [← Hfin.out]; rfl, ?_, qad _, Hb.out⟩
   have := HB.out
   simpa using this
theorem ydx (n width : Int) (w : World) (h : fits n width) : Calls prog 156 #[.int .i64 n, .int .i64 width] w fun e w' =>
  ∃ g, e = .returned (.tuple #[.slice (some ⟨g, 0, none⟩) width.toNat width.toNat, .bool true]) ∧ Blk w' g 3 (bcs (digI n width)).toArray ∧ w.heap.size ≤ g ∧ Below w.heap.size w w' := by
 obtain ⟨h1, h2, h3, h4⟩ := h
 obtain ⟨W, rfl⟩ := qaF h1
 obtain ⟨N, rfl⟩ := qaF h3
 refine (refDig_in N W w (by omega) (by have h5 : 2 ^ W ≤ 2 ^ 32 := qa0 (by omega) (by omega); rw [show (2 : Nat) ^ 32 = 4294967296 from by decide] at h5; simp only [qan] at h4; have h6 : N < 2 ^ W := (by exact_mod_cast h4); omega)).mono ?_
 rintro e w' ⟨g, rfl, hB, hg, hb⟩
 refine ⟨g, ?_, hB, hg, hb⟩
 have hd : (N : Int) / 2 ^ W = 0 := Int.ediv_eq_zero_of_lt h3 (by simpa using h4)
 rw [hd]
 rfl
theorem yeS {w : World} {h : Nat} {t : TypeId} (l : List Value) (hB : Blk w h t l.toArray) (n : Nat) (hn : l.length = n) : Reads w w.heap.size 1 (some ⟨h, 0, none⟩) n l :=
 ⟨by omega, fun _ => ⟨h, 0, rfl, hB.lt, fun j u hu => by rw [qaz, hB.cell]; simpa using hu⟩⟩
theorem reads_at {w : World} {B n : Nat} {A : Option Addr} {l : List Nat} (hr : Reads w B 1 A n (bcs l)) (hn : 0 < n) : ∃ b off, A = some ⟨b, off, none⟩ ∧ b < B ∧ ∀ k, (hk : k < l.length) → w.cell? ⟨b, off + k, none⟩ = some (.int .i64 (l[k] : Int)) := by
 obtain ⟨b, off, e, hb, hc⟩ := hr.2 hn
 exact ⟨b, off, e, hb, fun k hk => hc k _ (bcs_get l k hk)⟩
def begF : List Nat → List Nat → Bool × Bool
 | _, [] => (true, true)
 | [], _ :: _ => (true, false)
 | a :: t, b :: u => if a = b then begF t u else (false, false)
def yaC (ws : List (Int × Int)) (s : Int) : List Nat × Int := if 0 ≤ s ∧ s < ws.length ∧ (ws.getD s.toNat (0, 0)).2 ≠ 0 then (digI (ws.getD s.toNat (0, 0)).1 (ws.getD s.toNat (0, 0)).2, 0) else ([], 70)
theorem cfields_at {w : World} {B n : Nat} {A : Option Addr} {l : List (Int × Int)} (hr : Reads w B 2 A n (ybg .i64 l)) (hn : 0 < n) : ∃ b off, A = some ⟨b, off, none⟩ ∧ b < B ∧ ∀ k, (hk : k < l.length) → w.cell? ⟨b, off + k * 2, none⟩ = some (.int .i64 l[k].1) ∧ w.cell? ⟨b, off + k * 2 + 1, none⟩ = some (.int .i64 l[k].2) := by
 obtain ⟨b, off, e, hb, hc⟩ := hr.2 hn
 exact ⟨b, off, e, hb, fun k hk => ⟨hc _ _ (ydd .i64 l k hk), hc _ _ (ycU .i64 l k hk)⟩⟩
theorem cheld_next {w' w1 : World} {b o1 o2 : Nat} {x y : Value} (h : w'.cell? ⟨b, o1, none⟩ = some x ∧ w'.cell? ⟨b, o2, none⟩ = some y ∧ b < w'.heap.size) (hb : Below w'.heap.size w' w1) : w1.cell? ⟨b, o1, none⟩ = some x ∧ w1.cell? ⟨b, o2, none⟩ = some y ∧ b < w1.heap.size :=
 ⟨(hb.cell (p := ⟨b, o1, none⟩) h.2.2).trans h.1, (hb.cell (p := ⟨b, o2, none⟩) h.2.2).trans h.2.1, qaZ h.2.2 hb.size⟩
def CWordPost (w w' : World) (e : Ending) (F : List Nat × Int) : Prop := ∃ D m cd, e = .returned (.tuple #[.slice D m cd, .int .i64 F.2]) ∧ F.1.length = m ∧ Reads w' w'.heap.size 1 D m (bcs F.1) ∧ Below w.heap.size w w'
theorem cref_word_any (ws : List (Int × Int)) (A : Option Addr) (n c : Nat) (s : Int) (w : World) (hn : ws.length = n) (hl : n ≤ 1000) (hr : Reads w w.heap.size 2 A n (ybg .i64 ws)) (hf : ∀ f ∈ ws, fits f.1 f.2) :
  Calls prog 114 #[.slice A n c, .int .i64 s] w fun e w' => CWordPost w w' e (yaC ws s) := by
 have hni : (n : Int) ≤ 1000 := by omega
 by_cases h0 : s < 0
 ·have hF : yaC ws s = ([], 70) := by unfold yaC; rw [qae (by omega)]
  rw [hF]
  clear hr hf hF hn
  go_enter func114, ntmps114
  go_wp2
  go_ret2
  exact ⟨none, 0, 0, rfl, rfl, Reads.none_, by go_grown⟩
 by_cases h1 : (n : Int) ≤ s
 ·have hF : yaC ws s = ([], 70) := by unfold yaC; rw [qae (by omega)]
  rw [hF]
  clear hr hf hF hn
  go_enter func114, ntmps114
  go_wp2
  go_ret2
  exact ⟨none, 0, 0, rfl, rfl, Reads.none_, by go_grown⟩
 obtain ⟨k, rfl⟩ := qaF (by omega : 0 ≤ s)
 have hkl : k < ws.length := by omega
 have hkn : k < n := by omega
 obtain ⟨b, off, rfl, hb, hc⟩ := cfields_at hr (by omega)
 obtain ⟨x1, x2⟩ := hc k hkl
 have hki : (0 : Int) ≤ (k : Int) ∧ (k : Int) < (n : Int) := by omega
 have hgd : ws.getD k (0, 0) = ws[k] := by rw [qaj, qah hkl]; rfl
 have hfit := hf _ (qaq hkl)
 have hFF : yaC ws (k : Int) = if ws[k].2 ≠ 0 then (digI ws[k].1 ws[k].2, 0) else ([], 70) := by
  unfold yaC
  rw [qan, hgd]
  by_cases hz : ws[k].2 ≠ 0
  ·rw [qag hz, qag ⟨by omega, by omega, hz⟩]
  ·rw [qae hz, qae (fun h => hz h.2.2)]
 rw [hFF]
 clear hFF hgd hc hf hr hn
 generalize ws[k].1 = fn at *
 generalize ws[k].2 = fw at *
 by_cases hz : fw = 0
 ·subst hz
  rw [qae (by simp)]
  clear hfit
  go_enter func114, ntmps114
  go_wp2
  try go_quiet (fail)
  go_wp2
  go_ret2
  exact ⟨none, 0, 0, rfl, rfl, Reads.none_, by go_grown <;> refine yaj ?_ _ <;> go_grown⟩
 ·rw [qag hz]
  have hdg := fun W => ydx fn fw W hfit
  have hdl : (digI fn fw).length = fw.toNat := yad _ _
  have hzb : (fw == (0 : Int)) = false := by simpa using hz
  clear hfit
  generalize digI fn fw = D at *
  generalize fw.toNat = m at *
  go_enter func114, ntmps114
  go_wp2
  try go_quiet (fail)
  go_wp2
  go_region_held3 (fun w' => w'.cell? ⟨b, off + k * 2, none⟩ = some (.int .i64 fn) ∧ w'.cell? ⟨b, off + k * 2 + 1, none⟩ = some (.int .i64 fw) ∧ b < w'.heap.size)
   (first | exact cheld_next (by assumption) hb1 | exact ⟨x1, x2, hb⟩)
   (first | (go_at_call 156; (with_reducible refine (hdg _).mono ?_); rintro e w1 ⟨g, rfl, hB1, hg1, hb1⟩))
  rename_i hS
  have hb1' : Below w.heap.size w w1 := ⟨hb1.os, hb1.tape, hb1.output, hb1.size, hb1.block⟩
  go_wp2
  go_ret2
  exact ⟨some ⟨g, 0, none⟩, m, m, rfl, hdl, yeS _ hB1 m (by rw [ydE]; exact hdl), hb1'⟩
def ybp : List (Int × Int) → Nat → List Nat → Int → Int × Int × Int
 | [], _, _, E => (0, 0, E)
 | f :: t, s, R, E => if f.2 = 0 then ybp t (s + 1) R E else if (begF R (digI f.1 f.2)).2 = true then ((s : Int), ((digI f.1 f.2).length : Int), 0) else ybp t (s + 1) R (if (begF R (digI f.1 f.2)).1 = true then 4 else E)
def ybl (ws : List (Int × Int)) (L : List Nat) (p : Nat) : Int × Int × Int := ybp ws 0 (L.drop p) (if p = L.length then 4 else 40)
theorem cword_at (ws : List (Int × Int)) (k : Nat) (h : k < ws.length) : yaC ws (k : Int) = if ws[k].2 ≠ 0 then (digI ws[k].1 ws[k].2, 0) else ([], 70) := by
 have hgd : ws.getD k (0, 0) = ws[k] := by rw [qaj, qah h]; rfl
 unfold yaC
 rw [qan, hgd]
 by_cases hz : ws[k].2 ≠ 0
 ·rw [qag hz, qag ⟨by omega, by omega, hz⟩]
 ·rw [qae hz, qae (fun h => hz h.2.2)]
def bl (n : Nat) : Nat := Lib.bitLen n
theorem ycF : ∀ (f n : Nat), n ≠ 0 → n < 2 ^ f → f ≤ 64 → 1 ≤ bl n ∧ 2 ^ (bl n - 1) ≤ n ∧ n < 2 ^ bl n
 | 0, n, h0, h, _ => by simp at h; omega
 | f + 1, n, h0, h, hf => by
  have h64 : n < 2 ^ 64 := qaZ h (qa0 (by omega) hf)
  have e : bl n = 1 + bl (n / 2) := Lib.bitLen_half n h0 h64
  by_cases h1 : n / 2 = 0
  ·have hb : bl (n / 2) = 0 := by rw [h1]; rfl
   rw [e, hb]
   simp
   omega
  ·obtain ⟨a, b, c⟩ := ycF f (n / 2) h1 (by rw [qaR] at h; omega) (by omega)
   rw [e]
   refine ⟨by omega, ?_, ?_⟩
   ·rw [show 1 + bl (n / 2) - 1 = bl (n / 2) - 1 + 1 from by omega, qaR]
    omega
   ·rw [qcC, qaR]
    omega
theorem bl_of {n k : Nat} (h1 : 2 ^ k ≤ n) (h2 : n < 2 ^ (k + 1)) (h : n < 4294967296) : bl n = k + 1 := by
 have hp : 0 < 2 ^ k := qaX (by omega)
 obtain ⟨a, b, c⟩ := ycF 32 n (by omega) (by rw [show (2 : Nat) ^ 32 = 4294967296 from by decide]; exact h) (by omega)
 rcases qcA (bl n) (k + 1) with hlt | he | hgt
 ·have := qa0 (n := 2) (by omega) (show bl n ≤ k by omega)
  omega
 ·exact he
 ·have := qa0 (n := 2) (by omega) (show k + 1 ≤ bl n - 1 by omega)
  omega
theorem bl_le {n : Nat} (h0 : n ≠ 0) (h : n < 4294967296) : 1 ≤ bl n ∧ bl n ≤ 32 := by
 obtain ⟨a, b, c⟩ := ycF 32 n h0 (by rw [show (2 : Nat) ^ 32 = 4294967296 from by decide]; exact h) (by omega)
 refine ⟨a, Nat.le_of_not_lt fun hgt => ?_⟩
 have := qa0 (n := 2) (by omega) (show 32 ≤ bl n - 1 by omega)
 rw [show (2 : Nat) ^ 32 = 4294967296 from by decide] at this
 omega
def hasG (n : Int) : Prop := 1 ≤ n ∧ n ≤ 4294967295
instance (n : Int) : Decidable (hasG n) := by unfold hasG; infer_instance
def gam (n : Nat) : List Nat := List.replicate (bl n - 1) 0 ++ dig (bl n) n
theorem gam_is {n k : Nat} (h1 : 2 ^ k ≤ n) (h2 : n < 2 ^ (k + 1)) (h : n < 4294967296) : gam n = List.replicate k 0 ++ dig (k + 1) n := by
 unfold gam
 rw [bl_of h1 h2 h, qbQ]
theorem gam_bin (n : Nat) : Bin (gam n) := Bin.app (fun d hd => by rw [List.eq_of_mem_replicate hd]; omega) (ycD _ _)
def lz : List Nat → Nat
 | [] => 0
 | d :: t => if d = 0 then lz t + 1 else 0
theorem lz_le : ∀ l, lz l ≤ l.length
 | [] => qad _
 | d :: t => by
  have := lz_le t
  unfold lz
  split <;> simp <;> omega
theorem ygk (k : Nat) (l : List Nat) : lz (List.replicate k 0 ++ l) = k + lz l := by
 induction k with
 | zero => simp
 | succ k ih => rw [qaP, qb3, lz, qag rfl, ih]; omega
theorem lz_one (l : List Nat) : lz (1 :: l) = 0 := rfl
theorem lz_cut (l : List Nat) (k : Nat) (hk : k ≤ l.length) (h : l.take k = List.replicate k 0) : lz l = k + lz (l.drop k) := by
 have h1 := qax k l
 rw [h] at h1
 rw [← h1, ygk]
 congr 2
 rw [qbK (by simp)]
def ybr (l : List Nat) : Int × Nat × Int :=
 if lz l = l.length then (0, 0, 4) else if 32 ≤ lz l then (0, 0, 40) else if l.length < 2 * lz l + 1 then (0, 0, 4) else ((num ((l.drop (lz l)).take (lz l + 1)) : Int), 2 * lz l + 1, 0)
theorem yh8 {k n : Nat} (h1 : 2 ^ k ≤ n) (h2 : n < 2 ^ (k + 1)) : dig (k + 1) n = 1 :: dig k n := by
 have h : n / 2 ^ k = 1 := Nat.div_eq_of_lt_le (by omega) (by rw [qaR] at h2; omega)
 rw [qcC, ycs 1 k, h]
 rfl
theorem yg6 (n : Nat) (l : List Nat) (h0 : n ≠ 0) (h : n < 4294967296) : ybr (gam n ++ l) = ((n : Int), 2 * (bl n - 1) + 1, 0) ∧ (gam n).length = 2 * (bl n - 1) + 1 := by
 obtain ⟨a, b, c⟩ := ycF 32 n h0 (by rw [show (2 : Nat) ^ 32 = 4294967296 from by decide]; exact h) (by omega)
 have hle := bl_le h0 h
 obtain ⟨k, hk⟩ : ∃ k, bl n = k + 1 := ⟨bl n - 1, by omega⟩
 rw [hk] at b c hle ⊢
 rw [qbQ] at b ⊢
 have hg := gam_is b c h
 have htop := yh8 b c
 have hlz : lz (gam n ++ l) = k := by rw [hg, htop, qam, ygk, qb3, lz_one]; rfl
 have hlen : (gam n).length = 2 * k + 1 := by rw [hg, qab, qav, yad]; omega
 refine ⟨?_, hlen⟩
 unfold ybr
 rw [hlz, qab, hlen, qae (by omega), qae (by omega), qae (by omega), hg, qam, qbK (by simp), qcd (by rw [yad]), ycL, qcJ c]
theorem tbyte_info : (prog.info? 5).map (fun i => (i.zero, i.size, i.bytes)) = some (some (.int .u8 0), 1, 1) := by kernel_rfl
def ydF (l : List Nat) (i : Nat) : List Nat := (l.drop i).take 8 ++ List.replicate (8 - ((l.drop i).take 8).length) 0
theorem ycm (l : List Nat) (i : Nat) : (ydF l i).length = 8 := by
 unfold ydF
 rw [qab, qav]
 have : ((l.drop i).take 8).length ≤ 8 := by simp; omega
 omega
theorem eight_in (l : List Nat) (i k : Nat) (hk : k < 8) (h : i + k < l.length) : (ydF l i)[k]'(by rw [ycm]; exact hk) = l[i + k] := by
 unfold ydF
 rw [List.getElem_append_left (by simp; omega), qc9, qbL]
theorem eight_out (l : List Nat) (i k : Nat) (hk : k < 8) (h : l.length ≤ i + k) : (ydF l i)[k]'(by rw [ycm]; exact hk) = 0 := by
 unfold ydF
 rw [List.getElem_append_right (by simp; omega)]
 simp
theorem eight_bin {l : List Nat} (h : Bin l) (i : Nat) : Bin (ydF l i) := Bin.app (fun d hd => h d (qbg (qaN hd))) (fun d hd => by rw [List.eq_of_mem_replicate hd]; omega)
theorem num_zeros (l : List Nat) (k : Nat) : num (l ++ List.replicate k 0) = num l * 2 ^ k := by
 rw [ybH, qav]
 have : num (List.replicate k 0) = 0 := by rw [← ydn, ycL]; exact Nat.zero_mod _
 omega
theorem text_next (l : List Nat) (q : Nat) (h : 8 * q < l.length) : text (l.take (8 * (q + 1))) = text (l.take (8 * q)) ++ [UInt8.ofNat (num (ydF l (8 * q)))] := by
 have e : l.take (8 * (q + 1)) = l.take (8 * q) ++ (l.drop (8 * q)).take 8 := by rw [show 8 * (q + 1) = 8 * q + 8 from by omega, qcH]
 rw [e, ybw q _ _ (by simp; omega), ybx ((l.drop (8 * q)).take 8) (by simp; omega) (by simp; omega)]
 unfold ydF
 rw [num_zeros]
theorem num_next (D : List Nat) (k : Nat) (h : k < D.length) : num (D.take (k + 1)) = 2 * num (D.take k) + D[k] := by
 rw [qat h, yfV]
theorem num_small {D : List Nat} (h : Bin D) (k : Nat) (hk : k ≤ 8) : num (D.take k) < 256 := by
 have h5 := ydN (l := D.take k) (fun d hd => h d (qaN hd))
 have h6 : 2 ^ (D.take k).length ≤ 2 ^ 8 := qa0 (by omega) (by simp; omega)
 rw [show (2 : Nat) ^ 8 = 256 from by decide] at h6
 omega
theorem refText_any (l : List Nat) (A : Option Addr) (n c : Nat) (w : World) (hn : l.length = n) (hl : n ≤ 1099511627776) (hr : Reads w w.heap.size 1 A n (bcs l)) (hbin : Bin l) :
  Calls prog 67 #[.slice A n c] w fun e w' => e = .returned (.string ⟨(text l).toArray⟩) ∧ Below w.heap.size w w' := by
 obtain ⟨i0, hi, hz0, hz1, hz2⟩ := qb1 tbyte_info
 have hni : (n : Int) ≤ 1099511627776 := by omega
 have Hcell : Hid (0 < n → ∃ b off, A = some ⟨b, off, none⟩ ∧ b < w.heap.size ∧ ∀ k, (hk : k < l.length) → w.cell? ⟨b, off + k, none⟩ = some (.int .i64 (l[k] : Int))) := qaa fun h => reads_at hr h
 have Hn := qaa hn
 have Hbin := qaa hbin
 have Hsmall : Hid (∀ i k, k ≤ 8 → num ((ydF l i).take k) < 256) := qaa fun i k hk => num_small (eight_bin hbin i) k hk
 have Hlen : Hid (∀ k, (text (l.take k)).length ≤ 1099511627780) := qaa fun k => by rw [yaW, qao]; omega
 clear hn hbin hr hl
 go_enter func67, ntmps67
 go_wp2
 go_loopw [3, 4] (fun v i wr => ∃ q : Nat, 8 * q ≤ n + 7 ∧ i = .int .i64 ((8 * q : Nat) : Int) ∧ Hid (wr.ownsRow w.heap.size 5 1 v (text (l.take (8 * q))).length (bc (text (l.take (8 * q)))).toList) ∧ Hid (Below w.heap.size w wr)) (fun _ i _ => n + 8 - (intOf i).toNat)
 case atStart => exact ⟨0, by omega, rfl, qaa (by simpa [ych, bc] using qbn w w.heap.size 5 1), qaa (qak _ _)⟩
 case round =>
  obtain ⟨q, hq, rfl, Hown, Hb⟩ := hrel
  by_cases hlt : 8 * q < n
  ·have hqi : ((8 * q : Nat) : Int) < n := by omega
   have hqb : ((8 * q : Nat) : Int) ≤ 1099511627776 := by omega
   have hnext := text_next l q (by rw [Hn.out]; exact hlt)
   have Hnext := qaa hnext
   have Hq := qaa hq
   clear hnext hq
   generalize hi8 : 8 * q = i at *
   have Hi8 := qaa hi8
   clear hi8
   obtain ⟨b, off, rfl, hb, hc⟩ := Hcell.out (by omega)
   have Hc := qaa hc
   clear hc
   go_wp2
   go_loop [5, 6] (fun x j => ∃ k X : Nat, k ≤ 8 ∧ j = .int .i64 k ∧ x = .int .i64 X ∧ Hid (X = num ((ydF l i).take k))) (fun _ j => 8 - (intOf j).toNat)
   case atStart => exact ⟨0, 0, by omega, rfl, rfl, rfl⟩
   case round =>
    obtain ⟨k, X, hk, rfl, rfl, HX⟩ := hrel
    by_cases hk8 : k < 8
    ·have hki : (k : Int) < 8 := by omega
     have hX : (X : Int) ≤ 255 := by have h7 := Hsmall.out i k hk; have h8 := HX.out; omega
     have Hnum := qaa (num_next (ydF l i) k (by rw [ycm]; exact hk8))
     by_cases hin : i + k < n
     ·have hkl : i + k < l.length := by rw [Hn.out]; exact hin
      have x1 := (Hb.out.cell (p := ⟨b, off + (i + k), none⟩) hb).trans (Hc.out (i + k) hkl)
      have hkn : 0 ≤ (i : Int) + k ∧ (i : Int) + k < n := by omega
      have He := qaa (eight_in l i k hk8 hkl)
      have hd1 : (l[i + k] : Int) ≤ 1 := by have := Hbin.out _ (qaq hkl); omega
      generalize l[i + k] = d at *
      clear hkl hin
      go_wp2
      go_round
      case rel =>
       have h7 := Hnum.out
       rw [← HX.out, He.out] at h7
       exact ⟨k + 1, 2 * X + d, by omega, iv (by omega), iv (by omega), qaa h7.symm⟩
      case measure => simp only [intOf]; omega
     ·have hkn : ¬ (i : Int) + k < n := by omega
      have He := qaa (eight_out l i k hk8 (by rw [Hn.out]; omega))
      clear hin
      go_wp2
      go_round
      case rel =>
       have h7 := Hnum.out
       rw [← HX.out, He.out] at h7
       exact ⟨k + 1, 2 * X, by omega, iv (by omega), iv (by omega), qaa h7.symm⟩
      case measure => simp only [intOf]; omega
    ·obtain rfl : k = 8 := by omega
     have hX : (X : Int) ≤ 255 := by have h7 := Hsmall.out i 8 hk; have h8 := HX.out; omega
     have hXe : X = num (ydF l i) := by have := HX.out; rwa [qar (by rw [ycm]; omega)] at this
     have HXe := qaa hXe
     clear hXe
     have hszr := Hb.out.size
     go_wp2_with (at_builtin; refine yaf _ rfl _ _ 36 rfl w.heap.size 5 i0 (.int .u8 0) 1 1 underlying36 hi hz0 hz1 hz2 rfl (by decide) _ _ _ rfl (Hown.out.alloc _) _ 1 1 _ _ rfl (ya0 wr 5 _ 1 1 rfl) ?c1 ?c2 ?c3 ?c4 ?_)
     case c1 => exact rfl
     case c2 => have := Hlen.out i; unfold maxLen; omega
     case c3 => have := Hlen.out i; omega
     case c4 => first | omega | (simp; omega)
     intro v2 w2 hown2 hgrow hsep
     have hb2 : Below w.heap.size w w2 := (Hb.out.trans ((qak _ _).alloc hszr _)).grown hgrow (by simp; omega) (fun g hg => (Hown.out.lt g hg).1)
     have hx8 : ((UInt8.ofNat (num (ydF l i))).toNat : Int) = X := by rw [yaz _ (by have := hX; have := HXe.out; omega), HXe.out]
     have hown3 : w2.ownsRow w.heap.size 5 1 v2 (text (l.take (8 * (q + 1)))).length (bc (text (l.take (8 * (q + 1))))).toList := by
      rw [Hnext.out, qab, show bc (text (l.take i) ++ [UInt8.ofNat (num (ydF l i))]) = (((bc (text (l.take i))).toList ++ [Value.int .u8 ((UInt8.ofNat (num (ydF l i))).toNat : Int)]).toArray) from by simp [bc], hx8]
      exact hown2
     have Hown3 := qaa hown3
     have Hb2 := qaa hb2
     clear hown3 hb2 hown2 hgrow hsep hx8
     go_wp2
     go_roundw
     case rel => exact ⟨q + 1, by have := Hi8.out; omega, iv (by have := Hi8.out; omega), Hown3.out, Hb2.out⟩
     case measure => simp only [intOf]; omega
  ·have hfin : l.take (8 * q) = l := qar (by have := Hn.out; omega)
   have hown := Hown.out
   rw [hfin] at hown
   obtain ⟨A', c', rfl, hc', hr'⟩ := yae hown
   have hcv : (convert 36 9 (.slice A' (text l).length c')).run prog wr = .ok (.string ⟨(text l).toArray⟩) wr := ybZ underlying36 underlying5 underlying9 wr A' c' _ hr'
   have hlti : ¬ ((8 * q : Nat) : Int) < n := by omega
   clear Hown hown hr' hfin
   generalize (text l).length = m at *
   generalize 8 * q = i at *
   generalize hta : (text l).toArray = ta at *
   have Hta := qaa hta
   clear hta
   go_wp2
   go_ret
   exact ⟨by rw [Hta.out]; rfl, Hb.out⟩
theorem cwords_fit (l : List Int) : ∀ f ∈ (ybV l).1, fits f.1 f.2 := by
 unfold ybV
 by_cases h0 : yat l = 0
 ·rw [qag h0]
  obtain ⟨hl, hg, hca⟩ := ycj h0
  intro f hf
  obtain ⟨j, hj, rfl⟩ := qb5.1 (show f ∈ wat (l.map Int.toNat) 16 0 from hf)
  have hjl := qaS.1 hj
  have hjl2 : j < l.length := by simpa using hjl
  have hgd : (l.map Int.toNat).getD j 0 = (l.map Int.toNat)[j] := by rw [qaj, qah hjl]; rfl
  have hle : (l.map Int.toNat)[j] ≤ 15 := by
   have := yaJ hg j hjl2
   rw [qaQ]
   omega
  unfold cat1
  rw [hgd]
  by_cases hp : 0 < (l.map Int.toNat)[j] ∧ ((l.map Int.toNat)[j] < 16 ∨ ((l.map Int.toNat)[j] = 16 ∧ j < 0))
  ·rw [qag hp]
   have hlt := cword_lt (ls := l.map Int.toNat) (l.map Int.toNat)[j] j hjl rfl ⟨hp.1, hle⟩ hca
   refine ⟨by show (0 : Int) ≤ _; omega, by show (_ : Int) ≤ 32; omega, by show (0 : Int) ≤ _; omega, ?_⟩
   show ((ybs (l.map Int.toNat) (l.map Int.toNat)[j] j : Nat) : Int) < 2 ^ (((l.map Int.toNat)[j] : Nat) : Int).toNat
   rw [qan]
   exact_mod_cast hlt
  ·rw [qae hp]
   exact ⟨by decide, by decide, by decide, by decide⟩
 ·rw [qae h0]
  intro f hf
  cases hf
theorem ydS {ws : List (Int × Int)} (hf : ∀ f ∈ ws, fits f.1 f.2) (s : Int) : (yaC ws s).1.length ≤ 32 ∧ Bin (yaC ws s).1 := by
 unfold yaC
 by_cases h : 0 ≤ s ∧ s < ws.length ∧ (ws.getD s.toNat (0, 0)).2 ≠ 0
 ·rw [qag h]
  have hk : s.toNat < ws.length := by omega
  have hgd : ws.getD s.toNat (0, 0) = ws[s.toNat] := by rw [qaj, qah hk]; rfl
  have hfit := hf _ (qaq hk)
  rw [← hgd] at hfit
  refine ⟨?_, ycD _ _⟩
  show (digI _ _).length ≤ 32
  unfold digI
  rw [yad]
  have := hfit.2.1
  omega
 ·rw [qae h]
  exact ⟨qcb _, yfi⟩
theorem begF_len : ∀ (R d : List Nat), (begF R d).2 = true → d.length ≤ R.length
 | _, [], _ => qcb _
 | [], _ :: _, h => by cases h
 | a :: t, b :: u, h => by
  unfold begF at h
  by_cases e : a = b
  ·rw [qag e] at h
   have := begF_len t u h
   simp only [qap]
   omega
  ·rw [qae e] at h
   cases h
theorem yfT (R : List Nat) : ∀ (ws : List (Int × Int)) (s : Nat) (E : Int), E = 4 ∨ E = 40 → (∀ f ∈ ws, fits f.1 f.2) → ((ybp ws s R E).2.2 = 0 ∧ ∃ x k : Nat, (ybp ws s R E).1 = (x : Int) ∧ x < s + ws.length ∧ (ybp ws s R E).2.1 = (k : Int) ∧ k ≤ R.length ∧ k ≤ 32) ∨ ((ybp ws s R E).2.2 = 4 ∨ (ybp ws s R E).2.2 = 40) ∧ (ybp ws s R E).1 = 0 ∧ (ybp ws s R E).2.1 = 0
 | [], s, E, hE, _ => qaI ⟨hE, rfl, rfl⟩
 | f :: t, s, E, hE, hf => by
  have hft : ∀ f ∈ t, fits f.1 f.2 := fun g hg => hf g (qa4 _ hg)
  have hff := hf f (qa5 ..)
  unfold ybp
  by_cases hz : f.2 = 0
  ·rw [qag hz]
   rcases yfT R t (s + 1) E hE hft with ⟨h1, x, k, h2, h3, h4⟩ | h
   ·exact qay ⟨h1, x, k, h2, by simp only [qap]; omega, h4⟩
   ·exact qaI h
  ·rw [qae hz]
   by_cases hb : (begF R (digI f.1 f.2)).2 = true
   ·rw [qag hb]
    refine qay ⟨rfl, s, _, rfl, by simp, rfl, begF_len _ _ hb, ?_⟩
    unfold digI
    rw [yad]
    have := hff.2.1
    omega
   ·rw [qae hb]
    rcases yfT R t (s + 1) (if (begF R (digI f.1 f.2)).1 = true then 4 else E) (by split <;> omega) hft with ⟨h1, x, k, h2, h3, h4⟩ | h
    ·exact qay ⟨h1, x, k, h2, by simp only [qap]; omega, h4⟩
    ·exact qaI h
def cunp (ws : List (Int × Int)) (L : List Nat) : Nat → Nat → List Int → List Int × Nat × Int
 | 0, p, acc => (acc, p, 0)
 | i + 1, p, acc => if (ybl ws L p).2.2 = 0 then cunp ws L i (p + (ybl ws L p).2.1.toNat) (acc ++ [(ybl ws L p).1]) else (acc, p, (ybl ws L p).2.2)
theorem ydi (ws : List (Int × Int)) (L : List Nat) (i p : Nat) (acc : List Int) : cunp ws L (i + 1) p acc = if (ybl ws L p).2.2 = 0 then cunp ws L i (p + (ybl ws L p).2.1.toNat) (acc ++ [(ybl ws L p).1]) else (acc, p, (ybl ws L p).2.2) := rfl
theorem cgetF_ok (ws : List (Int × Int)) (L : List Nat) (p nl : Nat) (hL : L.length = nl) (hp : p ≤ nl) (hw : ws.length ≤ 257) (hf : ∀ f ∈ ws, fits f.1 f.2) : ((ybl ws L p).2.2 = 0 ∧ ∃ x k : Nat, (ybl ws L p).1 = (x : Int) ∧ x < 257 ∧ (ybl ws L p).2.1 = (k : Int) ∧ p + k ≤ nl) ∨ (ybl ws L p).2.2 ≠ 0 := by
 unfold ybl
 rcases yfT (L.drop p) ws 0 (if p = L.length then 4 else 40) (by split <;> omega) hf with ⟨h1, x, k, h2, h3, h4, h5, h6⟩ | ⟨h, _⟩
 ·refine qay ⟨h1, x, k, h2, by omega, h4, ?_⟩
  rw [qas] at h5
  omega
 ·exact qaI (by omega)
def v15 (R : List Nat) : Nat := num ((R ++ List.replicate 15 0).take 15)
theorem bin_zeros (n : Nat) : Bin (List.replicate n 0) := fun d hd => by rw [List.eq_of_mem_replicate hd]; omega
theorem v15_bin {R : List Nat} (hb : Bin R) : Bin ((R ++ List.replicate 15 0).take 15) := fun d hd => (hb.app (bin_zeros 15)) d (qaN hd)
theorem v15_lt {R : List Nat} (hb : Bin R) : v15 R < 32768 := by
 have h := ydN (v15_bin hb)
 have hl : ((R ++ List.replicate 15 0).take 15).length = 15 := by simp
 rw [hl] at h
 exact h
theorem ydu {R : List Nat} (hb : Bin R) (n : Nat) (hn : n ≤ 15) (hl : n ≤ R.length) : num (R.take n) = v15 R / 2 ^ (15 - n) := by
 have e : (R ++ List.replicate 15 0).take 15 = R.take n ++ ((R ++ List.replicate 15 0).drop n).take (15 - n) := by
  conv => lhs; rw [show 15 = n + (15 - n) from by omega]
  rw [qcH, qbh hl, show n + (15 - n) = 15 from by omega]
 have hr : Bin (((R ++ List.replicate 15 0).drop n).take (15 - n)) := fun d hd => (hb.app (bin_zeros 15)) d (qbg (qaN hd))
 have hrl : (((R ++ List.replicate 15 0).drop n).take (15 - n)).length = 15 - n := by simp; omega
 have h1 := ydN hr
 rw [hrl] at h1
 unfold v15
 rw [e, ybH, hrl, qb6, Nat.mul_add_div (qaX (by omega)), Nat.div_eq_of_lt h1, qbv]
theorem part_of {v D x : Nat} (h : 0 < D) : v / D = x ↔ x * D ≤ v ∧ v < x * D + D := by
 constructor
 ·intro e
  subst e
  have h1 := Nat.div_add_mod v D
  have h2 := Nat.mod_lt v h
  rw [qb6] at h1
  omega
 ·intro e
  exact Nat.div_eq_of_lt_le e.1 (by rw [qcs, Nat.one_mul]; exact e.2)
theorem yeL : ∀ (R d : List Nat), (begF R d).2 = true ↔ d.length ≤ R.length ∧ R.take d.length = d
 | R, [] => by cases R <;> simp [begF]
 | [], _ :: _ => by simp [begF]
 | a :: t, b :: u => by
  unfold begF
  by_cases e : a = b
  ·rw [qag e, yeL t u]
   subst e
   simp
  ·rw [qae e]
   simp [e]
theorem yg9 : ∀ (R d : List Nat), (begF R d).1 = true ↔ R.take d.length = d.take R.length
 | R, [] => by cases R <;> simp [begF]
 | [], _ :: _ => by simp [begF]
 | a :: t, b :: u => by
  unfold begF
  by_cases e : a = b
  ·rw [qag e, yg9 t u]
   subst e
   simp
  ·rw [qae e]
   simp [e]
theorem begF_word {R : List Nat} (hb : Bin R) (n x : Nat) (hn : n ≤ 15) (hx : x < 2 ^ n) : (begF R (dig n x)).2 = true ↔ n ≤ R.length ∧ x * 2 ^ (15 - n) ≤ v15 R ∧ v15 R < x * 2 ^ (15 - n) + 2 ^ (15 - n) := by
 rw [yeL, yad]
 have hD : 0 < (2 : Nat) ^ (15 - n) := qaX (by omega)
 constructor
 ·rintro ⟨hl, e⟩
  refine ⟨hl, (part_of hD).1 ?_⟩
  rw [← ydu hb n hn hl, e, ycL, qcJ hx]
 ·rintro ⟨hl, e⟩
  refine ⟨hl, ?_⟩
  have h1 := (part_of hD).2 e
  rw [← ydu hb n hn hl] at h1
  have h2 := yd2 n (R.take n) (by simp; omega) fun d hd => hb d (qaN hd)
  rw [← h2, h1]
theorem begF_part {R : List Nat} (hb : Bin R) (n x : Nat) (hn : n ≤ 15) (hl : R.length < n) (e : x * 2 ^ (15 - n) ≤ v15 R ∧ v15 R < x * 2 ^ (15 - n) + 2 ^ (15 - n)) : (begF R (dig n x)).1 = true := by
 rw [yg9, yad, qar (by omega)]
 have hD : 0 < (2 : Nat) ^ (15 - n) := qaX (by omega)
 have h1 := (part_of hD).2 e
 have h2 := ydu hb R.length (by omega) (qad _)
 rw [qar (qad _)] at h2
 have h3 : x / 2 ^ (n - R.length) = num R := by
  rw [← h1, h2, qbP, ← qbF, show 15 - n + (n - R.length) = 15 - R.length from by omega]
 have h4 := ycs R.length (n - R.length) x
 rw [show R.length + (n - R.length) = n from by omega, h3, dig_num hb] at h4
 rw [h4, qbh (qad _), qar (qad _)]
theorem cget1_hit (R : List Nat) (E : Int) : ∀ (ws : List (Int × Int)) (s k : Nat) (E : Int) (hk : k < ws.length), (∀ j (hj : j < ws.length), j < k → ws[j].2 = 0 ∨ (begF R (digI ws[j].1 ws[j].2)).2 = false) → ws[k].2 ≠ 0 → (begF R (digI ws[k].1 ws[k].2)).2 = true → ybp ws s R E = (((s + k : Nat) : Int), ((digI ws[k].1 ws[k].2).length : Int), 0)
 | f :: t, s, 0, E, hk, _, h1, h2 => by
  unfold ybp
  simp only [qaE] at h1 h2 ⊢
  rw [qae h1, qag h2]
  rfl
 | f :: t, s, k + 1, E, hk, h0, h1, h2 => by
  have hf := h0 0 (by simp) (by omega)
  simp only [qaE] at hf
  have ih := fun E => cget1_hit R E t (s + 1) k E (by simpa using hk) (fun j hj hjk => by
   have := h0 (j + 1) (by simpa using hj) (by omega)
   simpa only [qb7] using this) (by simpa only [qb7] using h1) (by simpa only [qb7] using h2)
  simp only [qb7]
  unfold ybp
  by_cases hz : f.2 = 0
  ·rw [qag hz, ih, show s + 1 + k = s + (k + 1) from by omega]
  ·rcases hf with hf | hf
   ·exact absurd hf hz
   ·rw [qae hz, qae (by rw [hf]; decide), ih, show s + 1 + k = s + (k + 1) from by omega]
theorem yec (R : List Nat) : ∀ (ws : List (Int × Int)) (s : Nat) (E : Int), (∀ j (hj : j < ws.length), ws[j].2 = 0 ∨ (begF R (digI ws[j].1 ws[j].2)).2 = false) → (E = 4 ∨ ∃ j, ∃ hj : j < ws.length, ws[j].2 ≠ 0 ∧ (begF R (digI ws[j].1 ws[j].2)).1 = true) → ybp ws s R E = (0, 0, 4)
 | [], s, E, _, h => by
  rcases h with rfl | ⟨j, hj, _⟩
  ·rfl
  ·exact absurd hj (by simp)
 | f :: t, s, E, h0, h => by
  have hf := h0 0 (by simp)
  simp only [qaE] at hf
  have ih := fun E => yec R t (s + 1) E (fun j hj => by
   have := h0 (j + 1) (by simpa using hj)
   simpa only [qb7] using this)
  have hrest : E = 4 ∨ (f.2 ≠ 0 ∧ (begF R (digI f.1 f.2)).1 = true) ∨ ∃ j, ∃ hj : j < t.length, t[j].2 ≠ 0 ∧ (begF R (digI t[j].1 t[j].2)).1 = true := by
   rcases h with h | ⟨j, hj, h1, h2⟩
   ·exact qay h
   ·cases j with
    | zero => exact qaI (qay ⟨by simpa only [qaE] using h1, by simpa only [qaE] using h2⟩)
    | succ j => exact qaI (qaI ⟨j, by simpa using hj, by simpa only [qb7] using h1, by simpa only [qb7] using h2⟩)
  unfold ybp
  by_cases hz : f.2 = 0
  ·rw [qag hz]
   refine ih E ?_
   rcases hrest with h | h | h
   ·exact qay h
   ·exact absurd hz h.1
   ·exact qaI h
  ·rcases hf with hf | hf
   ·exact absurd hf hz
   ·rw [qae hz, qae (by rw [hf]; decide)]
    refine ih _ ?_
    rcases hrest with h | h | h
    ·left; split <;> simp [h]
    ·left; rw [qag h.2]
    ·exact qaI h
variable {ls : List Nat}
theorem wat_at (h15 : ∀ x ∈ ls, x ≤ 15) (j : Nat) (hj : j < ls.length) (hj2 : j < (wat ls 16 0).length) : (wat ls 16 0)[j] = if 0 < ls[j] then (((ybs ls ls[j] j : Nat) : Int), ((ls[j] : Nat) : Int)) else (0, 0) := by
 have h := wat_get ls 16 0 j hj
 rw [qah hj2] at h
 injection h with h
 rw [h]
 have hgd : ls.getD j 0 = ls[j] := by rw [qaj, qah hj]; rfl
 have h2 := h15 _ (qaq hj)
 unfold cat1
 rw [hgd]
 by_cases hp : 0 < ls[j]
 ·rw [qag hp, qag ⟨hp, qay (by omega)⟩]
 ·rw [qae hp, qae (by omega)]
theorem yc6 (h15 : ∀ x ∈ ls, x ≤ 15) (j : Nat) (hj : j < ls.length) (hj2 : j < (wat ls 16 0).length) (hp : 0 < ls[j]) : digI (wat ls 16 0)[j].1 (wat ls 16 0)[j].2 = dig ls[j] (ybs ls ls[j] j) ∧ (wat ls 16 0)[j].2 ≠ 0 := by
 rw [wat_at h15 j hj hj2, qag hp]
 refine ⟨?_, by show ((ls[j] : Nat) : Int) ≠ 0; omega⟩
 unfold digI
 rw [qan, qan]
theorem yd9 (h15 : ∀ x ∈ ls, x ≤ 15) (j : Nat) (hj : j < ls.length) (hj2 : j < (wat ls 16 0).length) (hp : ¬ 0 < ls[j]) : (wat ls 16 0)[j].2 = 0 := by
 rw [wat_at h15 j hj hj2, qae hp]
theorem yc1 (h15 : ∀ x ∈ ls, x ≤ 15) (hc : call ls ≤ 32768) {R : List Nat} (hb : Bin R) (j : Nat) (hj : j < ls.length) (hp : 0 < ls[j]) : (begF R (dig ls[j] (ybs ls ls[j] j))).2 = true ↔ ls[j] ≤ R.length ∧ cpos ls ls[j] j ≤ v15 R ∧ v15 R < cpos ls ls[j] j + 2 ^ (15 - ls[j]) := by
 have h2 := h15 _ (qaq hj)
 rw [begF_word hb _ _ h2 (cword_lt ls[j] j hj rfl ⟨hp, h2⟩ hc), ycx _ _ h2]
theorem cget_found (h15 : ∀ x ∈ ls, x ≤ 15) (hc : call ls ≤ 32768) {R : List Nat} (hb : Bin R) (E : Int) (k : Nat) (hk : k < ls.length) (hp : 0 < ls[k]) (hl : ls[k] ≤ R.length) (hv : cpos ls ls[k] k ≤ v15 R ∧ v15 R < cpos ls ls[k] k + 2 ^ (15 - ls[k])) : ybp (wat ls 16 0) 0 R E = ((k : Int), (ls[k] : Int), 0) := by
 have hkw : k < (wat ls 16 0).length := by rw [yaD]; exact hk
 have hd := yc6 h15 k hk hkw hp
 rw [cget1_hit R E (wat ls 16 0) 0 k E hkw ?_ hd.2 ?_, hd.1, yad, qaz]
 ·intro j hj hjk
  have hj2 : j < ls.length := by rw [yaD] at hj; exact hj
  by_cases hpj : 0 < ls[j]
  ·right
   rw [(yc6 h15 j hj2 hj hpj).1]
   cases hbb : (begF R (dig ls[j] (ybs ls ls[j] j))).2 with
   | false => rfl
   | true =>
    have := (yc1 h15 hc hb j hj2 hpj).1 hbb
    have := cpos_only (v15 R) j k hj2 hk hpj hp this.2 hv
    omega
  ·exact qay (yd9 h15 j hj2 hj hpj)
 ·rw [hd.1]
  exact (yc1 h15 hc hb k hk hp).2 ⟨hl, hv⟩
theorem cget_cut (h15 : ∀ x ∈ ls, x ≤ 15) (hc : call ls ≤ 32768) {R : List Nat} (hb : Bin R) (E : Int) (k : Nat) (hk : k < ls.length) (hp : 0 < ls[k]) (hl : R.length < ls[k]) (hv : cpos ls ls[k] k ≤ v15 R ∧ v15 R < cpos ls ls[k] k + 2 ^ (15 - ls[k])) : ybp (wat ls 16 0) 0 R E = (0, 0, 4) := by
 have hkw : k < (wat ls 16 0).length := by rw [yaD]; exact hk
 have hd := yc6 h15 k hk hkw hp
 have h2 := h15 _ (qaq hk)
 refine yec R (wat ls 16 0) 0 E ?_ (qaI ⟨k, hkw, hd.2, ?_⟩)
 ·intro j hj
  have hj2 : j < ls.length := by rw [yaD] at hj; exact hj
  by_cases hpj : 0 < ls[j]
  ·right
   rw [(yc6 h15 j hj2 hj hpj).1]
   cases hbb : (begF R (dig ls[j] (ybs ls ls[j] j))).2 with
   | false => rfl
   | true =>
    have h3 := (yc1 h15 hc hb j hj2 hpj).1 hbb
    have h4 := cpos_only (v15 R) j k hj2 hk hpj hp h3.2 hv
    subst h4
    omega
  ·exact qay (yd9 h15 j hj2 hj hpj)
 ·rw [hd.1]
  refine begF_part hb _ _ h2 hl ?_
  rw [ycx _ _ h2]
  exact hv
theorem yg4 (h15 : ∀ x ∈ ls, x ≤ 15) (hc : call ls ≤ 32768) {R : List Nat} (hb : Bin R) (E : Int) (k : Nat) (hk : k < ls.length) (hp : 0 < ls[k]) (T : List Nat) (hR : R = dig ls[k] (ybs ls ls[k] k) ++ T) : ybp (wat ls 16 0) 0 R E = ((k : Int), (ls[k] : Int), 0) := by
 have h : (begF R (dig ls[k] (ybs ls ls[k] k))).2 = true := (yeL _ _).2 ⟨by rw [hR, qab]; omega, by rw [hR, qbh (qad _), qar (qad _)]⟩
 have h1 := (yc1 h15 hc hb k hk hp).1 h
 exact cget_found h15 hc hb E k hk hp h1.1 h1.2
def ybo (ws : List (Int × Int)) (sy : List Int) : List Nat := sy.flatMap fun s => (yaC ws s).1
theorem yct (ws : List (Int × Int)) (s : Int) (t : List Int) : ybo ws (s :: t) = (yaC ws s).1 ++ ybo ws t := rfl
theorem cword_has (h15 : ∀ x ∈ ls, x ≤ 15) (s : Int) (h : (yaC (wat ls 16 0) s).2 = 0) : ∃ k, ∃ hk : k < ls.length, s = (k : Int) ∧ 0 < ls[k] ∧ (yaC (wat ls 16 0) s).1 = dig ls[k] (ybs ls ls[k] k) := by
 unfold yaC at h ⊢
 by_cases h0 : 0 ≤ s ∧ s < (wat ls 16 0).length ∧ ((wat ls 16 0).getD s.toNat (0, 0)).2 ≠ 0
 ·obtain ⟨k, rfl⟩ := qaF h0.1
  have hkw : k < (wat ls 16 0).length := by omega
  have hk : k < ls.length := by rw [yaD] at hkw; exact hkw
  rw [qag h0]
  rw [qan] at h0 ⊢
  have hgd : (wat ls 16 0).getD k (0, 0) = (wat ls 16 0)[k] := by rw [qaj, qah hkw]; rfl
  rw [hgd] at h0 ⊢
  by_cases hp : 0 < ls[k]
  ·exact ⟨k, hk, rfl, hp, (yc6 h15 k hk hkw hp).1⟩
  ·exact absurd (yd9 h15 k hk hkw hp) h0.2.2
 ·rw [qae h0] at h
  exact absurd h (by decide)
theorem cword_is (h15 : ∀ x ∈ ls, x ≤ 15) (k : Nat) (hk : k < ls.length) (hp : 0 < ls[k]) : yaC (wat ls 16 0) (k : Int) = (dig ls[k] (ybs ls ls[k] k), 0) := by
 have hkw : k < (wat ls 16 0).length := by rw [yaD]; exact hk
 have hd := yc6 h15 k hk hkw hp
 rw [cword_at _ k hkw, qag hd.2, hd.1]
theorem cunp_back (h15 : ∀ x ∈ ls, x ≤ 15) (hc : call ls ≤ 32768) {L : List Nat} (hb : Bin L) : ∀ (sy : List Int) (p : Nat) (acc : List Int) (T : List Nat), (∀ s ∈ sy, (yaC (wat ls 16 0) s).2 = 0) → L.drop p = ybo (wat ls 16 0) sy ++ T → cunp (wat ls 16 0) L sy.length p acc = (acc ++ sy, p + (ybo (wat ls 16 0) sy).length, 0)
 | [], p, acc, T, _, _ => by simp [cunp, ybo]
 | s :: t, p, acc, T, h, hL => by
  obtain ⟨k, hk, rfl, hp, hw⟩ := cword_has h15 s (h s (qa5 ..))
  rw [yct, hw, qam] at hL
  have hg : ybl (wat ls 16 0) L p = ((k : Int), (ls[k] : Int), 0) := yg4 h15 hc (fun d hd => hb d (qbg hd)) _ k hk hp _ hL
  have hL2 : L.drop (p + ls[k]) = ybo (wat ls 16 0) t ++ T := by
   rw [← qbt, hL, qaW (by rw [yad]; exact qad _), qaH (by rw [yad]; exact qad _), qbc]
  rw [qap, ydi, hg, qag rfl]
  show cunp _ L t.length (p + ((ls[k] : Nat) : Int).toNat) (acc ++ [(k : Int)]) = _
  rw [qan, cunp_back h15 hc hb t (p + ls[k]) _ T (fun u hu => h u (qa4 _ hu)) hL2, yct, hw, qab, yad, qam, qbU]
  rfl
end Go.Proofs.YtanjhbkbpalnaaaGreat
namespace Go.Proofs.YtanjhbkbpalnaaaGreat
set_option linter.unusedSimpArgs false
set_option linter.unusedVariables false
open Go.ChangeShapes Go.WideShapes Go.ChangeAt Go.RowKit Go.Joins Go.Deep
theorem cnat15 {l : List Int} (hg : yde l = true) : ∀ x ∈ l.map Int.toNat, x ≤ 15 := by
 intro x hx
 obtain ⟨i, hi, rfl⟩ := qaJ hx
 rw [qaQ]
 have := yaJ hg i (by simpa using hi)
 omega
theorem yfk : ∀ l : List Int, yau l ≤ yap l
 | [] => qad _
 | x :: t => by
  have ih := yfk t
  have hu : yau (x :: t) = (if 0 < x then 1 else 0) + yau t := by
   unfold yau
   by_cases h : 0 < x
   ·rw [qaG, qag (by simpa using h), qag h, qap]; omega
   ·rw [qaG, qae (by simpa using h), qae h]; omega
  show yau (x :: t) ≤ (if 0 < x then 2 ^ (15 - x.toNat) else 0) + yap t
  rw [hu]
  have : 0 < (2 : Nat) ^ (15 - x.toNat) := qaX (by omega)
  by_cases h : 0 < x
  ·rw [qag h, qag h]; omega
  ·rw [qae h, qae h]; omega
def ydO (l : List Int) : List Int → Int
 | [] => 0
 | s :: t => l.getD s.toNat 0 + ydO l t
theorem cbits_size {l : List Int} (hg : yde l = true) : ∀ sy : List Int, (∀ s ∈ sy, (yaC (wat (l.map Int.toNat) 16 0) s).2 = 0) → ((ybo (wat (l.map Int.toNat) 16 0) sy).length : Int) = ydO l sy ∧ ∀ s ∈ sy, 0 ≤ s ∧ s < l.length
 | [], _ => ⟨rfl, fun s hs => by cases hs⟩
 | s :: t, h => by
  obtain ⟨k, hk, rfl, hp, hw⟩ := cword_has (cnat15 hg) s (h s (qa5 ..))
  obtain ⟨h1, h2⟩ := cbits_size hg t fun u hu => h u (qa4 _ hu)
  have hkl : k < l.length := by simpa using hk
  have hgk := yaJ hg k hkl
  constructor
  ·rw [yct, hw, qab, yad]
   show _ = l.getD ((k : Int)).toNat 0 + ydO l t
   rw [qan, ← h1, qaj, qah hkl, qaQ]
   simp only [qbG]
   omega
  ·intro u hu
   rcases qaC.1 hu with rfl | hu
   ·omega
   ·exact h2 u hu
theorem cbits_bin {ws : List (Int × Int)} (hf : ∀ f ∈ ws, fits f.1 f.2) : ∀ sy : List Int, Bin (ybo ws sy)
 | [] => yfi
 | s :: t => by
  rw [yct]
  exact (ydS hf s).2.app (cbits_bin hf t)
theorem yh3 {l : List Int} (h : yat l = 0) : ybV l = (wat (l.map Int.toNat) 16 0, 0) := by unfold ybV; rw [qag h]
structure BRow (w : World) (g : Nat) (l : List UInt8) : Prop where
 lt : g < w.heap.size
 cell : ∀ j b, l[j]? = some b → w.cell? ⟨g, j, none⟩ = some (.int .u8 (b.toNat : Int))
 free : ∀ j, j < l.length → w.frozen? ⟨g, j, none⟩ = false
section
variable {w w' : World} {g : Nat} {l : List UInt8}
theorem BRow.below {B : Nat} (h : BRow w g l) (hb : Below B w w') (hg : g < B) : BRow w' g l :=
 ⟨qaZ h.lt hb.size, fun j b hj => (hb.cell (p := ⟨g, j, none⟩) hg).trans (h.cell j b hj), fun j hj => (hb.frozen (p := ⟨g, j, none⟩) hg).trans (h.free j hj)⟩
theorem BRow.drew (h : BRow w g l) : BRow w.drew g l := ⟨h.lt, h.cell, h.free⟩
theorem BRow.drewN (h : BRow w g l) (n : Nat) : BRow (w.drewN n) g l := ⟨h.lt, h.cell, h.free⟩
theorem BRow.set (h : BRow w g l) (i : Nat) (b : UInt8) (hi : i < l.length) : BRow (w.setCell ⟨g, i, none⟩ (.int .u8 (b.toNat : Int))) g (l.set i b) := by
 obtain ⟨c0, hc0⟩ : ∃ c, l[i]? = some c := ⟨l[i], qah hi⟩
 have hold := h.cell i c0 hc0
 refine ⟨by simpa [World.setCell] using h.lt, fun j c hj => ?_, fun j hj => ?_⟩
 ·rw [List.getElem?_set] at hj
  by_cases e : i = j
  ·subst e
   rw [qag rfl, qag hi] at hj
   injection hj with hj
   subst hj
   exact World.cell?_setCell_same _ _ _ hold
  ·rw [qae e] at hj
   rw [qc4 _ _ _ _ (by intro e2; injection e2 with _ e3; exact e e3)]
   exact h.cell j c hj
 ·rw [World.frozen?_setCell]
  exact h.free j (by simpa using hj)
theorem run_bytes_row {P : Program} (w : World) (src dst e : TypeId) (l : List UInt8) (hs : P.underlying src = some .string) (hd : P.underlying dst = some (.slice e)) (he : P.underlying e = some (.int .u8)) :
  ∃ cap W', (convert src dst (.string ⟨l.toArray⟩)).run P w = .ok (.slice (some ⟨w.heap.size, 0, none⟩) l.length cap) W' ∧ BRow W' w.heap.size l ∧ Below w.heap.size w W' ∧ l.length ≤ cap := by
 have h := run_bytes_of_string (P := P) w src dst e ⟨l.toArray⟩ hs hd he
 have hsz : (ByteArray.mk l.toArray).size = l.length := by rw [qaL]; simp
 rw [hsz] at h
 refine ⟨_, _, h, ?_, ?_, ?_⟩
 ·generalize grownCap w l.length 0 e = cp
  have hlen : (bytesRow ⟨l.toArray⟩ cp).size = l.length + (cp - l.length) := by simp [bytesRow, hsz]
  have hh : (w.drew.alloc (.cells (bytesRow ⟨l.toArray⟩ cp) e ((bytesRow ⟨l.toArray⟩ cp).size, (bytesRow ⟨l.toArray⟩ cp).size + 1))).heap[w.heap.size]? = some (.cells (bytesRow ⟨l.toArray⟩ cp) e ((bytesRow ⟨l.toArray⟩ cp).size, (bytesRow ⟨l.toArray⟩ cp).size + 1)) := heap_alloc_new w.drew _
  refine ⟨by show w.heap.size < (w.heap.push _).size; simp, fun j b hj => ?_, fun j hj => ?_⟩
  ·rw [cell_of_row _ _ j _ e _ hh]
   have hjl : j < l.length := (qc5.1 hj).1
   have hjb : l[j] = b := (qc5.1 hj).2
   subst hjb
   simp [bytesRow, Array.getElem?_append, hjl]
  ·simp only [World.frozen?, hh]
   rw [hlen]
   simp
   omega
 ·exact (qak _ _).drew.alloc (qad _) _
 ·exact grownCap_ge w _ _ _
end
variable {ls : List Nat}
def crow (ls : List Nat) (i n : Nat) : List Nat := (List.range i).filter fun s => decide (0 < n ∧ ls.getD s 0 = n)
theorem yeH (n : Nat) : crow ls 0 n = [] := rfl
theorem ybY (i n : Nat) : crow ls (i + 1) n = crow ls i n ++ (if 0 < n ∧ ls.getD i 0 = n then [i] else []) := by
 unfold crow
 rw [List.range_succ, qbr]
 congr 1
 by_cases h : 0 < n ∧ ls.getD i 0 = n
 ·rw [qag h, qaG, qag (by simpa using h)]; rfl
 ·rw [qae h, qaG, qae (by simpa using h)]; rfl
theorem crow_none (i : Nat) : crow ls i 0 = [] := by
 induction i with
 | zero => rfl
 | succ i ih => rw [ybY, ih, qae (by omega)]; rfl
theorem yei (i n : Nat) : (crow ls i n).length ≤ i := by
 have := qcn (fun s => decide (0 < n ∧ ls.getD s 0 = n)) (List.range i)
 simpa [crow] using this
theorem crow_at (n k s : Nat) : ∀ (i : Nat), (crow ls i n)[k]? = some s → s < i ∧ 0 < n ∧ ls.getD s 0 = n ∧ (crow ls s n).length = k
 | 0, h => by simp [yeH] at h
 | i + 1, h => by
  rw [ybY] at h
  by_cases hk : k < (crow ls i n).length
  ·rw [qbN hk] at h
   obtain ⟨h1, h2⟩ := crow_at n k s i h
   exact ⟨by omega, h2⟩
  ·rw [qbj (by omega)] at h
   by_cases hp : 0 < n ∧ ls.getD i 0 = n
   ·rw [qag hp] at h
    have e : k - (crow ls i n).length = 0 := by
     rcases qbm (k - (crow ls i n).length) with e | e
     ·exact e
     ·rw [qbq (by simp; omega)] at h
      cases h
    rw [e] at h
    have : i = s := by simpa using h
    subst this
    exact ⟨by omega, hp.1, hp.2, by omega⟩
   ·rw [qae hp] at h
    simp at h
theorem crow_mono (i n : Nat) : ∀ d, (crow ls i n).length ≤ (crow ls (i + d) n).length
 | 0 => qad _
 | d + 1 => by
  have := crow_mono i n d
  rw [show i + (d + 1) = i + d + 1 from rfl, ybY, qab]
  omega
theorem ycK {l : List Nat} (s : Nat) (h : s < l.length) : l.getD s 0 = l[s] := by rw [qaj, qah h]; rfl
theorem ygH (n : Nat) (hn : 0 < n) (i : Nat) : ∀ d, (crow ls (i + d) n).length = (crow ls i n).length → cpos ls n (i + d) = cpos ls n i ∧ wat ls n (i + d) = wat ls n i
 | 0, _ => ⟨rfl, rfl⟩
 | d + 1, h => by
  have h1 := crow_mono (ls := ls) i n d
  have h2 := ybY (ls := ls) (i + d) n
  rw [show i + (d + 1) = i + d + 1 from rfl] at h ⊢
  by_cases hp : 0 < n ∧ ls.getD (i + d) 0 = n
  ·rw [h2, qag hp, qab, qcp] at h
   omega
  ·have hne : ls.getD (i + d) 0 ≠ n := fun e => hp ⟨hn, e⟩
   rw [h2, qae hp, qa8] at h
   obtain ⟨h3, h4⟩ := ygH n hn i d h
   refine ⟨?_, ?_⟩
   ·rw [yey n (i + d) fun hs e => hne (by rw [ycK _ hs]; exact e), h3]
   ·rw [wat_skip ls n (i + d) hne, h4]
theorem crow_eq (n : Nat) (hn : 0 < n) (i j : Nat) (h : (crow ls i n).length = (crow ls j n).length) : cpos ls n i = cpos ls n j ∧ wat ls n i = wat ls n j := by
 rcases Nat.le_total i j with e | e
 ·obtain ⟨d, rfl⟩ := Nat.exists_eq_add_of_le e
  obtain ⟨a, b⟩ := ygH n hn i d h.symm
  exact ⟨a.symm, b.symm⟩
 ·obtain ⟨d, rfl⟩ := Nat.exists_eq_add_of_le e
  exact ygH n hn j d h
theorem crow_pos (n : Nat) (hn : 0 < n) : ∀ i, i ≤ ls.length → cpos ls n i = cpos ls n 0 + (crow ls i n).length * 2 ^ (15 - n)
 | 0, _ => by rw [yeH]; simp
 | i + 1, h => by
  have ih := crow_pos n hn i (by omega)
  have hg := ycK (l := ls) i (by omega)
  rw [ybY]
  by_cases hp : ls[i]'(by omega) = n
  ·rw [ygY n i (by omega) hp hn, ih, qag ⟨hn, by rw [hg]; exact hp⟩, qab, qcp, qcs, Nat.one_mul]
   omega
  ·rw [yey n i fun _ => hp, ih, qae (by rw [hg]; exact fun e => hp e.2), qa8]
def cst (ls : List Nat) (n : Nat) : Nat := ybs ls n 0
theorem yhx (n : Nat) (hn : n ≤ 15) : cst ls n * 2 ^ (15 - n) = cpos ls n 0 := ycx n 0 hn
theorem cst_none : cst ls 0 = 0 := by
 unfold cst ybs
 rw [ycz, Nat.zero_div]
theorem crow_over (n : Nat) (hn : n ≤ 15) : cpos ls (n + 1) 0 = (cst ls n + (crow ls ls.length n).length) * 2 ^ (15 - n) := by
 rw [← ycu n ls.length (qad _), qcs, yhx n hn]
 rcases qbm n with e | e
 ·subst e
  rw [ycz, ycz, crow_none]
  simp
 ·exact crow_pos n e ls.length (qad _)
theorem cst_next (n : Nat) (hn : n + 1 ≤ 15) : cst ls (n + 1) = 2 * (cst ls n + (crow ls ls.length n).length) := by
 have h1 := crow_over (ls := ls) n (by omega)
 have h2 := yhx (ls := ls) (n + 1) hn
 have h3 : 0 < (2 : Nat) ^ (15 - (n + 1)) := qaX (by omega)
 rw [show 15 - n = 15 - (n + 1) + 1 from by omega, qaR, qb6 _ 2, ← qcl, qb6 _ 2] at h1
 rw [h1] at h2
 exact Nat.eq_of_mul_eq_mul_right h3 h2
theorem cst_word (n k s : Nat) (hn : 0 < n) (hn2 : n ≤ 15) (h : (crow ls ls.length n)[k]? = some s) : ybs ls n s = cst ls n + k ∧ s < ls.length ∧ ls.getD s 0 = n ∧ (crow ls s n).length = k := by
 obtain ⟨h1, _, h2, h3⟩ := crow_at n k s _ h
 refine ⟨?_, h1, h2, h3⟩
 have h4 := crow_pos (ls := ls) n hn s (by omega)
 have h5 := yhx (ls := ls) n hn2
 have h6 := ycx (ls := ls) n s hn2
 rw [h3, ← h5, ← qcs] at h4
 rw [h4] at h6
 exact Nat.eq_of_mul_eq_mul_right (qaX (by omega)) h6
theorem cst_le (n : Nat) (hn : n ≤ 15) (hc : call ls ≤ 32768) : cst ls n ≤ 32768 := by
 have h1 := yhx (ls := ls) n hn
 have h2 := cpos_le (ls := ls) n 0
 have h3 : 0 < (2 : Nat) ^ (15 - n) := qaX (by omega)
 have h4 := qci (cst ls n) h3
 omega
theorem cdeep_over (n : Nat) (h : ∀ s (hs : s < ls.length), ls[s] ≤ n) : ∀ m, cpos ls (n + 1 + m) 0 = cpos ls (n + 1) 0 ∧ wat ls (n + 1 + m) 0 = wat ls (n + 1) 0
 | 0 => ⟨rfl, rfl⟩
 | m + 1 => by
  obtain ⟨h1, h2⟩ := cdeep_over n h m
  have hz : (crow ls ls.length (n + 1 + m)).length = (crow ls 0 (n + 1 + m)).length := by
   have : crow ls ls.length (n + 1 + m) = [] := by
    unfold crow
    rw [qcg]
    intro s hs
    have hs2 := qaS.1 hs
    have h3 := h s hs2
    have h4 := ycK (l := ls) s hs2
    simp only [qck]
    omega
   rw [this, yeH]
  obtain ⟨h5, h6⟩ := crow_eq (ls := ls) (n + 1 + m) (by omega) _ _ hz
  rw [ycu _ _ (qad _)] at h5
  rw [wat_next _ _ _ (qad _)] at h6
  rw [show n + 1 + (m + 1) = n + 1 + m + 1 from rfl, h5, h6]
  exact ⟨h1, h2⟩
theorem cdeep_all (n : Nat) (hn : n ≤ 15) (h : ∀ s (hs : s < ls.length), ls[s] ≤ n) : cpos ls (n + 1) 0 = call ls ∧ wat ls (n + 1) 0 = wat ls 16 0 := by
 obtain ⟨h1, h2⟩ := cdeep_over n h (15 - n)
 rw [show n + 1 + (15 - n) = 16 from by omega] at h1 h2
 refine ⟨?_, h2.symm⟩
 rw [← h1]
 exact cpos_end fun x hx => by
  obtain ⟨i, hi, rfl⟩ := qaJ hx
  have := h i hi
  omega
section
variable {R : List Nat}
theorem cgo_bit (hb : Bin R) (k : Nat) (hk : k < R.length) : num ((R.drop k).take 1) = R[k] := by
 rw [qau hk, qaM, qbb]
 simp [num]
theorem cgo_num (n : Nat) (hk : n < R.length) : num (R.take (n + 1)) = 2 * num (R.take n) + R[n] := num_next R n hk
theorem cgo_le (hb : Bin R) (n : Nat) (hn : n ≤ 15) (hl : n ≤ R.length) (hv : cpos ls n 0 ≤ v15 R) : cst ls n ≤ num (R.take n) := by
 rw [ydu hb n hn hl, Nat.le_div_iff_mul_le (qaX (by omega)), yhx n hn]
 exact hv
theorem cgo_hit (h15 : ∀ x ∈ ls, x ≤ 15) (hc : call ls ≤ 32768) (hb : Bin R) (E : Int) (n : Nat) (hn : 0 < n) (hn2 : n ≤ 15) (hl : n ≤ R.length) (k s : Nat) (hk : num (R.take n) = cst ls n + k) (hs : (crow ls ls.length n)[k]? = some s) : ybp (wat ls 16 0) 0 R E = ((s : Int), (n : Int), 0) := by
 obtain ⟨h1, h2, h3, _⟩ := cst_word n k s hn hn2 hs
 have hg := ycK (l := ls) s h2
 have h4 : ls[s] = n := by omega
 have h5 := cget_found h15 hc hb E s h2 (by omega) (by omega) (by
  have h6 := ycx (ls := ls) n s hn2
  have h7 := (part_of (v := v15 R) (D := 2 ^ (15 - n)) (x := num (R.take n)) (qaX (by omega))).1 (ydu hb n hn2 hl).symm
  rw [h4, ← h6, h1, ← hk]
  exact h7)
 rw [h4] at h5
 exact h5
theorem cgo_miss (hb : Bin R) (n : Nat) (hn2 : n ≤ 15) (hl : n ≤ R.length) (h : cst ls n + (crow ls ls.length n).length ≤ num (R.take n)) : cpos ls (n + 1) 0 ≤ v15 R := by
 rw [crow_over n hn2, ← Nat.le_div_iff_mul_le (qaX (by omega)), ← ydu hb n hn2 hl]
 exact h
theorem cgo_short (h15 : ∀ x ∈ ls, x ≤ 15) (hc : call ls ≤ 32768) (hb : Bin R) (n D : Nat) (hn : 0 < n) (hn2 : n ≤ D) (hl : R.length + 1 = n) (hv : cpos ls n 0 ≤ v15 R) (hD : D = 1 ∨ call ls = 32768) (E : Int) (hE : R = [] → E = 4) : ybp (wat ls 16 0) 0 R E = (0, 0, 4) := by
 rcases hD with hD | hD
 ·have hR : R = [] := List.eq_nil_of_length_eq_zero (by omega)
  subst hR
  refine yec [] _ 0 E (fun j hj => ?_) (qay (hE rfl))
  have hj2 : j < ls.length := by rw [yaD] at hj; exact hj
  by_cases hp : 0 < ls[j]
  ·right
   rw [(yc6 h15 j hj2 hj hp).1]
   cases hbb : (begF [] (dig ls[j] (ybs ls ls[j] j))).2 with
   | false => rfl
   | true =>
    have := ((yeL _ _).1 hbb).1
    rw [yad, qbx] at this
    omega
  ·exact qay (yd9 h15 j hj2 hj hp)
 ·obtain ⟨k, hk, hp, hv2⟩ := yeB (ls := ls) (v15 R) 16 0 (by rw [cpos_end h15, hD]; exact v15_lt hb)
  refine cget_cut h15 hc hb E k hk hp ?_ hv2
  rcases qbe R.length ls[k] with e | e
  ·exact e
  ·have := ybJ ls[k] k n 0 hk rfl hp (qay (by omega))
   omega
theorem cget1_none (R : List Nat) : ∀ (ws : List (Int × Int)) (s : Nat) (E : Int), (∀ j (hj : j < ws.length), ws[j].2 = 0 ∨ (begF R (digI ws[j].1 ws[j].2)).1 = false ∧ (begF R (digI ws[j].1 ws[j].2)).2 = false) → ybp ws s R E = (0, 0, E)
 | [], s, E, _ => rfl
 | f :: t, s, E, h0 => by
  have hf := h0 0 (by simp)
  simp only [qaE] at hf
  have ih := cget1_none R t (s + 1) E (fun j hj => by
   have := h0 (j + 1) (by simpa using hj)
   simpa only [qb7] using this)
  unfold ybp
  by_cases hz : f.2 = 0
  ·rw [qag hz]
   exact ih
  ·rcases hf with hf | ⟨hf, hf2⟩
   ·exact absurd hf hz
   ·rw [qae hz, qae (by rw [hf2]; decide), qae (by rw [hf]; decide)]
    exact ih
theorem cgo_end (h15 : ∀ x ∈ ls, x ≤ 15) (hc : call ls ≤ 32768) (hb : Bin R) (D : Nat) (hD1 : 0 < D) (hD2 : D ≤ 15) (hd : ∀ s (hs : s < ls.length), ls[s] ≤ D) (hl : D ≤ R.length) (hv : cpos ls (D + 1) 0 ≤ v15 R) (E : Int) : ybp (wat ls 16 0) 0 R E = (0, 0, E) := by
 refine cget1_none R _ 0 E fun j hj => ?_
 have hj2 : j < ls.length := by rw [yaD] at hj; exact hj
 by_cases hp : 0 < ls[j]
 ·right
  have h1 := hd j hj2
  have h2 : (begF R (dig ls[j] (ybs ls ls[j] j))).2 = false := by
   cases hbb : (begF R (dig ls[j] (ybs ls ls[j] j))).2 with
   | false => rfl
   | true =>
    have h3 := ((yc1 h15 hc hb j hj2 hp).1 hbb).2
    have h4 := ybJ ls[j] j (D + 1) 0 hj2 rfl hp (qay (by omega))
    omega
  rw [(yc6 h15 j hj2 hj hp).1]
  refine ⟨?_, h2⟩
  cases hbb : (begF R (dig ls[j] (ybs ls ls[j] j))).1 with
  | false => rfl
  | true =>
   have h3 := (yg9 _ _).1 hbb
   rw [yad, qar (l := dig _ _) (by rw [yad]; omega)] at h3
   have h4 := (yeL R (dig ls[j] (ybs ls ls[j] j))).2 ⟨by rw [yad]; omega, by rw [yad]; exact h3⟩
   rw [h4] at h2
   cases h2
 ·exact qay (yd9 h15 j hj2 hj hp)
end
def yaA (ls : List Nat) : Nat → Nat
 | 0 => 1
 | i + 1 => max (yaA ls i) (ls.getD i 0)
theorem yc0 : ∀ i, 1 ≤ yaA ls i
 | 0 => qad _
 | i + 1 => qaA (yc0 i) (Nat.le_max_left _ _)
theorem yeF (h15 : ∀ s (hs : s < ls.length), ls[s] ≤ 15) : ∀ i, i ≤ ls.length → yaA ls i ≤ 15
 | 0, _ => by show 1 ≤ 15; omega
 | i + 1, h => by
  have h1 := yeF h15 i (by omega)
  have h2 := h15 i (by omega)
  have h3 := ycK (l := ls) i (by omega)
  show max _ _ ≤ 15
  omega
theorem cdeep_ge : ∀ i, i ≤ ls.length → ∀ s (hs : s < ls.length), s < i → ls[s] ≤ yaA ls i
 | 0, _, s, hs, h => by omega
 | i + 1, hi, s, hs, h => by
  show _ ≤ max (yaA ls i) (ls.getD i 0)
  by_cases e : s = i
  ·subst e
   rw [ycK _ hs]
   omega
  ·have := cdeep_ge i (by omega) s hs (by omega)
   omega
theorem cdeep_has : ∀ i, i ≤ ls.length → yaA ls i = 1 ∨ ∃ s, ∃ hs : s < ls.length, ls[s] = yaA ls i
 | 0, _ => qay rfl
 | i + 1, hi => by
  show max (yaA ls i) (ls.getD i 0) = 1 ∨ ∃ s, ∃ hs : s < ls.length, ls[s] = max (yaA ls i) (ls.getD i 0)
  have hg := ycK (l := ls) i (by omega)
  rcases Nat.le_total (yaA ls i) (ls.getD i 0) with e | e
  ·exact qaI ⟨i, by omega, by omega⟩
  ·rw [Nat.max_eq_left e]
   exact cdeep_has i (by omega)
theorem yeV : ∀ (l : List Int), yap l ≤ 16384 * yau l ∧ ((∃ x ∈ l, 2 ≤ x) → yap l + 8192 ≤ 16384 * yau l)
 | [] => ⟨by simp [yau, yap], fun ⟨x, hx, _⟩ => by cases hx⟩
 | x :: t => by
  obtain ⟨h1, h2⟩ := yeV t
  have hu : yau (x :: t) = (if 0 < x then 1 else 0) + yau t := by
   unfold yau
   by_cases h : 0 < x
   ·rw [qaG, qag (by simpa using h), qag h, qap]; omega
   ·rw [qaG, qae (by simpa using h), qae h]; omega
  have hp : yap (x :: t) = (if 0 < x then 2 ^ (15 - x.toNat) else 0) + yap t := rfl
  rw [hu, hp]
  have hs : 0 < x → (2 : Nat) ^ (15 - x.toNat) ≤ 16384 := fun h => qaA (qa0 (by omega) (by omega)) (by decide : (2 : Nat) ^ 14 ≤ 16384)
  have hs2 : 2 ≤ x → (2 : Nat) ^ (15 - x.toNat) ≤ 8192 := fun h => qaA (qa0 (by omega) (by omega)) (by decide : (2 : Nat) ^ 13 ≤ 8192)
  by_cases h : 0 < x
  ·rw [qag h, qag h]
   have h3 := hs h
   refine ⟨by omega, fun ⟨y, hy, hy2⟩ => ?_⟩
   rcases qaC.1 hy with rfl | hy
   ·have := hs2 hy2
    omega
   ·have := h2 ⟨y, hy, hy2⟩
    omega
  ·rw [qae h, qae h]
   refine ⟨by omega, fun ⟨y, hy, hy2⟩ => ?_⟩
   rcases qaC.1 hy with rfl | hy
   ·omega
   ·have := h2 ⟨y, hy, hy2⟩
    omega
theorem cdeep_full {l : List Int} (h : yat l = 0) : yaA (l.map Int.toNat) (l.map Int.toNat).length = 1 ∨ call (l.map Int.toNat) = 32768 := by
 rcases cdeep_has (ls := l.map Int.toNat) _ (qad _) with e | ⟨s, hs, e⟩
 ·exact qay e
 ·by_cases hd : yaA (l.map Int.toNat) (l.map Int.toNat).length = 1
  ·exact qay hd
  ·right
   have hge := yc0 (ls := l.map Int.toNat) (l.map Int.toNat).length
   obtain ⟨hl, hg, hca⟩ := ycj h
   have hs2 : s < l.length := by simpa using hs
   have hx : ∃ x ∈ l, 2 ≤ x := ⟨l[s], qaq hs2, by rw [qaQ] at e; omega⟩
   obtain ⟨h1, h2⟩ := yeV l
   have h3 := h2 hx
   have h4 := yfk l
   rw [yg7]
   unfold yat at h
   rw [qae (by omega)] at h
   by_cases h5 : sumF l = 0 ∨ sumF l = 32768 ∨ ((yau l : Int) = 1 ∧ sumF l = 16384)
   ·unfold sumF at h5
    rw [qag hg] at h5
    omega
   ·rw [qae h5] at h
    cases h
end Go.Proofs.YtanjhbkbpalnaaaGreat
