/-
 What the law of the last of these texts stands on, part 6.
-/
import Derived.Test.YtanjhbkbpalnaaaGreatMb01
import Derived.Laws.EntriesVeiled
import Derived.Laws.IdiomStrings
set_option maxRecDepth 100000
set_option maxHeartbeats 8000000
open Go.Proofs.Tryz
namespace Go.Proofs.YtanjhbkbpalnaaaGreat
set_option linter.unusedSimpArgs false
set_option linter.unusedVariables false
open Go.ChangeShapes Go.WideShapes Go.ChangeAt Go.RowKit Go.Joins Go.Deep
def ych (top : Int) (l : List Int) : Bool := l.all fun k => decide (0 ≤ k) && decide (k ≤ top)
theorem agood_get {top : Int} {l : List Int} (h : ych top l = true) (i : Nat) (hi : i < l.length) : 0 ≤ l[i] ∧ l[i] ≤ top := by
 unfold ych at h
 rw [qby] at h
 have := h l[i] (qam hi)
 simpa using this
theorem agood_of {top : Int} {l : List Int} (h : ∀ i (hi : i < l.length), 0 ≤ l[i] ∧ l[i] ≤ top) : ych top l = true := by
 unfold ych
 rw [qby]
 intro x hx
 obtain ⟨i, hi, rfl⟩ := qaI hx
 simpa using h i hi
theorem agood_bad {top : Int} {l : List Int} (i : Nat) (hi : i < l.length) (hb : ¬(0 ≤ l[i] ∧ l[i] ≤ top)) : ych top l = false := by
 cases h : ych top l with
 | false => rfl
 | true => exact absurd (agood_get h i hi) hb
theorem aint_info : (prog.info? 3).map (fun i => (i.zero, i.size, i.bytes)) = some (some (.int .i64 0), 1, 8) := by kernel_rfl
theorem a_mkfunc (fn : Fn) (first cap : Array Value) (w : World) : (Instr.makeFunc fn first cap).run prog w = .ok (.func fn first cap) w := rfl
def ain (top n : Int) : Bool := decide (0 ≤ n) && decide (n ≤ top)
theorem ain_iff (top n : Int) : ain top n = true ↔ 0 ≤ n ∧ n ≤ top := by simp [ain]
theorem ain_no (top n : Int) (h : ¬(0 ≤ n ∧ n ≤ top)) : ain top n = false := by
 cases h2 : ain top n with
 | false => rfl
 | true => exact absurd ((ain_iff top n).1 h2) h
theorem a_within_any (n top : Int) (w : World) : Calls prog 181 #[.int .i64 n, .int .i64 top] w fun e w' => e = .returned (.bool (ain top n)) ∧ w' = w := by
 by_cases h0 : 0 ≤ n
 ·by_cases h1 : n ≤ top
  ·have fin : ain top n = true := (ain_iff _ _).2 ⟨h0, h1⟩
   rw [fin]
   clear fin
   go_enter func181, ntmps181
   go_wp2
   go_ret
   exact ⟨rfl, rfl⟩
  ·have fin : ain top n = false := ain_no _ _ fun h => h1 h.2
   rw [fin]
   clear fin
   go_enter func181, ntmps181
   go_wp2
   go_ret
   exact ⟨rfl, rfl⟩
 ·have fin : ain top n = false := ain_no _ _ fun h => h0 h.1
  rw [fin]
  clear fin
  go_enter func181, ntmps181
  go_wp2
  go_ret
  exact ⟨rfl, rfl⟩
theorem a_not_any (n top : Int) (pb : Nat) (w : World) (hP : Blk w pb 3 #[.int .i64 top]) : Calls prog 180 #[.int .i64 n, .pointer (some ⟨pb, 0, none⟩)] w fun e w' => e = .returned (.bool (!ain top n)) ∧ w' = w := by
 have c1 : w.cell? ⟨pb, 0, none⟩ = some (.int .i64 top) := hP.cell 0
 clear hP
 go_enter func180, ntmps180
 go_wp2_with (go_at_call 181; refine (a_within_any n top _).mono ?_; rintro e w1 ⟨rfl, rfl⟩)
 go_ret
 exact ⟨rfl, rfl⟩
theorem a_index_any (l : List Int) (top : Int) (A : Option Addr) (n c pb : Nat) (w : World) (hm : n ≤ 4611686018427387904) (hr : Reads w w.heap.size 1 A n (ints l)) (hP : Blk w pb 3 #[.int .i64 top]) :
  Calls prog 164 #[.slice A n c, .func (.func 180) #[] #[.pointer (some ⟨pb, 0, none⟩)]] w fun e w' => ∃ r : Int, e = .returned (.int .i64 r) ∧ (decide (0 ≤ r)) = !ych top l ∧ w' = w := by
 have en : l.length = n := by have := hr.1; rw [yae] at this; omega
 have Hcell : Hid (0 < n → ∃ b off, A = some ⟨b, off, none⟩ ∧ ∀ k, (hk : k < l.length) → w.cell? ⟨b, off + k, none⟩ = some (.int .i64 l[k])) := qaa fun h => by
  obtain ⟨b, off, e, hb, hc⟩ := hr.2 h
  exact ⟨b, off, e, fun k hk => hc k _ (yak l k hk)⟩
 have Hcl := qaa fun n => a_not_any n top pb w hP
 have Hbad : Hid (∀ k (hk : k < l.length), ain top l[k] = false → ych top l = false) := qaa fun k hk h => agood_bad k hk fun h2 => by rw [(ain_iff _ _).2 h2] at h; cases h
 have Hgood : Hid ((∀ k (hk : k < l.length), ain top l[k] = true) → ych top l = true) := qaa fun h => agood_of fun k hk => (ain_iff _ _).1 (h k hk)
 have En := qaa en
 clear hr hP en
 go_enter func164, ntmps164
 go_wp2
 go_loop [8] (fun i => ∃ k : Nat, k ≤ n ∧ i = .int .i64 k ∧ Hid (∀ j (hj : j < l.length), j < k → ain top l[j] = true)) (fun i => n - (intOf i).toNat)
 case atStart => exact ⟨0, by omega, rfl, fun j _ h => by omega⟩
 case round =>
  obtain ⟨k, hk, rfl, Hk⟩ := hrel
  by_cases hlt : k < n
  ·have hkl : k < l.length := by rw [En.out]; exact hlt
   obtain ⟨b, off, rfl, hc⟩ := Hcell.out (by omega)
   have hcell := hc k hkl
   have hki : (0 : Int) ≤ (k : Int) ∧ (k : Int) < n := by omega
   have Hc2 := qaa (Hcl.out l[k])
   clear hc
   cases hz : ain top l[k] with
   | true =>
    have Hn : Hid (∀ j (hj : j < l.length), j < k + 1 → ain top l[j] = true) := qaa fun j hj h => by
     rcases qaZ j k with h1 | h1
     ·exact Hk.out j hj h1
     ·obtain rfl : j = k := by omega
      exact hz
    rw [hz] at Hc2
    clear hz Hbad Hgood
    generalize l[k] = x at *
    go_wp2_with (go_at_call 180; refine Hc2.out.mono ?_; rintro e w1 ⟨rfl, rfl⟩)
    go_round
    case rel => exact ⟨k + 1, by omega, iv (by omega), Hn.out⟩
    case measure => simp only [intOf]; omega
   | false =>
    have Hf := qaa (Hbad.out k hkl hz)
    rw [hz] at Hc2
    clear hz Hbad Hgood
    generalize l[k] = x at *
    go_wp2_with (go_at_call 180; refine Hc2.out.mono ?_; rintro e w1 ⟨rfl, rfl⟩)
    go_ret
    exact ⟨_, rfl, by rw [Hf.out]; simp, rfl⟩
  ·obtain rfl : k = n := by omega
   have Hg := qaa (Hgood.out fun j hj => Hk.out j hj (by have := En.out; omega))
   clear Hbad Hgood
   go_wp2
   go_ret
   exact ⟨_, rfl, by rw [Hg.out]; rfl, rfl⟩
theorem a_contains_any (l : List Int) (top : Int) (A : Option Addr) (n c pb : Nat) (w : World) (hm : n ≤ 4611686018427387904) (hr : Reads w w.heap.size 1 A n (ints l)) (hP : Blk w pb 3 #[.int .i64 top]) :
  Calls prog 118 #[.slice A n c, .func (.func 180) #[] #[.pointer (some ⟨pb, 0, none⟩)]] w fun e w' => e = .returned (.bool (!ych top l)) ∧ w' = w := by
 have Hi := qaa (a_index_any l top A n c pb w hm hr hP)
 clear hr hP
 generalize ych top l = g at *
 go_enter func118, ntmps118
 go_wp2_with (go_at_call 164; refine Hi.out.mono ?_; rintro e w1 ⟨r, rfl, hd, rfl⟩; have Hd := qaa hd; clear hd)
 go_ret
 exact ⟨by rw [← Hd.out]; rfl, rfl⟩
theorem a_all_any (l : List Int) (top : Int) (A : Option Addr) (n c : Nat) (w : World) (hm : n ≤ 4611686018427387904) (hr : Reads w w.heap.size 1 A n (ints l)) :
  Calls prog 143 #[.slice A n c, .int .i64 top] w fun e w' => e = .returned (.bool (ych top l)) ∧ Below w.heap.size w w' := by
 have hmf := a_mkfunc
 have hb : Below w.heap.size w (w.alloc (.cells #[.int .i64 top] 3)) := (qaj _ _).alloc (qaf _) _
 have Hc := qaa (a_contains_any l top A n c w.heap.size (w.alloc (.cells #[.int .i64 top] 3)) hm ((hr.below hb).more hb.size) (Blk.new w _ _))
 have Hb := qaa hb
 clear hr hb
 generalize ych top l = g at *
 go_enter func143, ntmps143
 go_wp2_with (go_at_call 118; refine Hc.out.mono ?_; rintro e w1 ⟨rfl, rfl⟩)
 go_ret
 exact ⟨by cases g <;> rfl, Hb.out⟩
def wsum (p : Nat → Nat → Bool) : Nat → List Nat → Nat
 | _, [] => 0
 | i, x :: t => (if p i x = true then 2 ^ (15 - x) else 0) + wsum p (i + 1) t
theorem ycc {p q : Nat → Nat → Bool} : ∀ (l : List Nat) (i : Nat), (∀ j (h : j < l.length), p (i + j) l[j] = q (i + j) l[j]) → wsum p i l = wsum q i l
 | [], _, _ => rfl
 | x :: t, i, h => by
  have h0 := h 0 (by simp)
  have ih := ycc (p := p) (q := q) t (i + 1) fun j hj => by
   have := h (j + 1) (by simpa using hj)
   rw [show i + (j + 1) = i + 1 + j from by omega] at this
   exact this
  simp only [qbr, List.getElem_cons_zero] at h0
  show (if p i x = true then _ else 0) + wsum p (i + 1) t = _
  rw [h0, ih]
  rfl
theorem wsum_le {p q : Nat → Nat → Bool} : ∀ (l : List Nat) (i : Nat), (∀ j (h : j < l.length), p (i + j) l[j] = true → q (i + j) l[j] = true) → wsum p i l ≤ wsum q i l
 | [], _, _ => qaf _
 | x :: t, i, h => by
  have h0 := h 0 (by simp)
  have ih := wsum_le (p := p) (q := q) t (i + 1) fun j hj => by
   have := h (j + 1) (by simpa using hj)
   rw [show i + (j + 1) = i + 1 + j from by omega] at this
   exact this
  simp only [qbr, List.getElem_cons_zero] at h0
  show (if p i x = true then _ else 0) + wsum p (i + 1) t ≤ (if q i x = true then _ else 0) + wsum q (i + 1) t
  by_cases hp : p i x = true
  ·rw [qah hp, qah (h0 hp)]; omega
  ·rw [qag hp]; omega
theorem wsum_two {p q : Nat → Nat → Bool} : ∀ (l : List Nat) (i k : Nat) (hk : k < l.length), (∀ j (h : j < l.length), p (i + j) l[j] = true → q (i + j) l[j] = true) → p (i + k) l[k] = false → q (i + k) l[k] = true → wsum p i l + 2 ^ (15 - l[k]) ≤ wsum q i l
 | x :: t, i, 0, _, h, hp, hq => by
  simp only [qbr, List.getElem_cons_zero] at hp hq
  have ih := wsum_le (p := p) (q := q) t (i + 1) fun j hj => by
   have := h (j + 1) (by simpa using hj)
   rw [show i + (j + 1) = i + 1 + j from by omega] at this
   exact this
  show (if p i x = true then _ else 0) + wsum p (i + 1) t + 2 ^ (15 - x) ≤ (if q i x = true then _ else 0) + wsum q (i + 1) t
  rw [qag (by rw [hp]; decide), qah hq]
  omega
 | x :: t, i, k + 1, hk, h, hp, hq => by
  have h0 := h 0 (by simp)
  simp only [qbr, List.getElem_cons_zero] at h0
  have ih := wsum_two (p := p) (q := q) t (i + 1) k (by simpa using hk) (fun j hj => by
   have := h (j + 1) (by simpa using hj)
   rw [show i + (j + 1) = i + 1 + j from by omega] at this
   exact this) (by rw [show i + (k + 1) = i + 1 + k from by omega] at hp; exact hp) (by rw [show i + (k + 1) = i + 1 + k from by omega] at hq; exact hq)
  show (if p i x = true then _ else 0) + wsum p (i + 1) t + 2 ^ (15 - t[k]'(by simpa using hk)) ≤ (if q i x = true then _ else 0) + wsum q (i + 1) t
  by_cases hp2 : p i x = true
  ·rw [qah hp2, qah (h0 hp2)]; omega
  ·rw [qag hp2]; omega
theorem wsum_one {p q : Nat → Nat → Bool} : ∀ (l : List Nat) (i k : Nat) (hk : k < l.length), (∀ j (h : j < l.length), j ≠ k → p (i + j) l[j] = q (i + j) l[j]) → p (i + k) l[k] = false → q (i + k) l[k] = true → wsum p i l + 2 ^ (15 - l[k]) = wsum q i l
 | x :: t, i, 0, _, h, hp, hq => by
  simp only [qbr, List.getElem_cons_zero] at hp hq
  have ih := ycc (p := p) (q := q) t (i + 1) fun j hj => by
   have := h (j + 1) (by simpa using hj) (by omega)
   rw [show i + (j + 1) = i + 1 + j from by omega] at this
   exact this
  show (if p i x = true then _ else 0) + wsum p (i + 1) t + 2 ^ (15 - x) = (if q i x = true then _ else 0) + wsum q (i + 1) t
  rw [qag (by rw [hp]; decide), qah hq, ih]
  omega
 | x :: t, i, k + 1, hk, h, hp, hq => by
  have h0 := h 0 (by simp) (by omega)
  simp only [qbr, List.getElem_cons_zero] at h0
  have ih := wsum_one (p := p) (q := q) t (i + 1) k (by simpa using hk) (fun j hj hne => by
   have := h (j + 1) (by simpa using hj) (by omega)
   rw [show i + (j + 1) = i + 1 + j from by omega] at this
   exact this) (by rw [show i + (k + 1) = i + 1 + k from by omega] at hp; exact hp) (by rw [show i + (k + 1) = i + 1 + k from by omega] at hq; exact hq)
  show (if p i x = true then _ else 0) + wsum p (i + 1) t + 2 ^ (15 - t[k]'(by simpa using hk)) = (if q i x = true then _ else 0) + wsum q (i + 1) t
  rw [h0]
  omega
theorem wsum_dvd {p : Nat → Nat → Bool} (n : Nat) (hn : n ≤ 15) : ∀ (l : List Nat) (i : Nat), (∀ j (h : j < l.length), p (i + j) l[j] = true → l[j] ≤ n) → 2 ^ (15 - n) ∣ wsum p i l
 | [], _, _ => ⟨0, rfl⟩
 | x :: t, i, h => by
  have h0 := h 0 (by simp)
  simp only [qbr, List.getElem_cons_zero] at h0
  have ih := wsum_dvd (p := p) n hn t (i + 1) fun j hj => by
   have := h (j + 1) (by simpa using hj)
   rw [show i + (j + 1) = i + 1 + j from by omega] at this
   exact this
  show 2 ^ (15 - n) ∣ (if p i x = true then _ else 0) + wsum p (i + 1) t
  refine Nat.dvd_add ?_ ih
  by_cases hp : p i x = true
  ·rw [qah hp]
   exact Nat.pow_dvd_pow 2 (by have := h0 hp; omega)
  ·rw [qag hp]
   exact ⟨0, rfl⟩
def call (ls : List Nat) : Nat := wsum (fun _ x => decide (0 < x)) 0 ls
def cpos (ls : List Nat) (n s : Nat) : Nat := wsum (fun j x => decide (0 < x) && (decide (x < n) || (decide (x = n) && decide (j < s)))) 0 ls
section
variable {ls : List Nat}
theorem yec (s : Nat) : cpos ls 0 s = 0 := by
 have h : ∀ (l : List Nat) (i : Nat), wsum (fun j x => decide (0 < x) && (decide (x < 0) || (decide (x = 0) && decide (j < s)))) i l = 0 := by
  intro l
  induction l with
  | nil => intro i; rfl
  | cons x t ih =>
   intro i
   show (if _ then _ else 0) + wsum _ (i + 1) t = 0
   rw [ih (i + 1), qag (by simp; omega)]
 exact h ls 0
theorem yej (n s : Nat) (h : ls.length ≤ s) : cpos ls n s = cpos ls (n + 1) 0 := by
 refine ycc ls 0 fun j hj => ?_
 rw [qaE]
 by_cases h1 : ls[j] < n
 ·simp [h1, show ls[j] < n + 1 by omega]
 ·by_cases h2 : ls[j] = n
  ·simp [h2, show j < s by omega]
  ·simp [h1, h2, show ¬ ls[j] < n + 1 by omega]
theorem ygC (n s : Nat) (h : ∀ hs : s < ls.length, ls[s] ≠ n) : cpos ls n (s + 1) = cpos ls n s := by
 refine ycc ls 0 fun j hj => ?_
 rw [qaE]
 by_cases h2 : ls[j] = n
 ·by_cases e : j = s
  ·subst e; exact absurd h2 (h hj)
  ·simp [h2, show (j < s + 1) = (j < s) from by simp; omega]
 ·simp [h2]
theorem cpos_step (n s : Nat) (hs : s < ls.length) (h : ls[s] = n) (hn : 0 < n) : cpos ls n (s + 1) = cpos ls n s + 2 ^ (15 - n) := by
 have := wsum_one (p := fun j x => decide (0 < x) && (decide (x < n) || (decide (x = n) && decide (j < s)))) (q := fun j x => decide (0 < x) && (decide (x < n) || (decide (x = n) && decide (j < s + 1)))) ls 0 s hs (fun j hj hne => by
  rw [qaE]
  simp only [show decide (j < s + 1) = decide (j < s) from by simp; omega]) (by simp [h]) (by simp [h, hn])
 rw [h] at this
 exact this.symm
theorem cpos_dvd (n s : Nat) (hn : n ≤ 15) : 2 ^ (15 - n) ∣ cpos ls n s := wsum_dvd n hn ls 0 fun j hj h => by
 simp only [qb6, Bool.or_eq_true, qbU] at h
 omega
theorem yda (n s n' s' : Nat) (hs : s < ls.length) (h : ls[s] = n) (hn : 0 < n) (hl : n < n' ∨ (n = n' ∧ s < s')) : cpos ls n s + 2 ^ (15 - n) ≤ cpos ls n' s' := by
 have := wsum_two (p := fun j x => decide (0 < x) && (decide (x < n) || (decide (x = n) && decide (j < s)))) (q := fun j x => decide (0 < x) && (decide (x < n') || (decide (x = n') && decide (j < s')))) ls 0 s hs (fun j hj hp => by
  rw [qaE] at *
  simp only [qb6, Bool.or_eq_true, qbU] at hp ⊢
  omega) (by simp [h]) (by
  rw [qaE, h]
  simp only [qb6, Bool.or_eq_true, qbU]
  omega)
 rw [h] at this
 exact this
theorem cpos_all (n s : Nat) (hs : s < ls.length) (h : ls[s] = n) (hn : 0 < n) : cpos ls n s + 2 ^ (15 - n) ≤ call ls := by
 have := wsum_two (p := fun j x => decide (0 < x) && (decide (x < n) || (decide (x = n) && decide (j < s)))) (q := fun _ x => decide (0 < x)) ls 0 s hs (fun j hj hp => by
  simp only [qb6] at hp
  exact hp.1) (by simp [h]) (by simp [h, hn])
 rw [h] at this
 exact this
theorem cpos_end (h : ∀ x ∈ ls, x ≤ 15) : cpos ls 16 0 = call ls := by
 refine ycc ls 0 fun j hj => ?_
 have := h ls[j] (qam hj)
 simp [show ls[j] < 16 by omega]
theorem cpos_only (v k k' : Nat) (hk : k < ls.length) (hk' : k' < ls.length) (h : 0 < ls[k]) (h' : 0 < ls[k']) (a : cpos ls ls[k] k ≤ v ∧ v < cpos ls ls[k] k + 2 ^ (15 - ls[k])) (b : cpos ls ls[k'] k' ≤ v ∧ v < cpos ls ls[k'] k' + 2 ^ (15 - ls[k'])) : k = k' := by
 rcases qcv ls[k] ls[k'] with e | e | e
 ·have := yda ls[k] k ls[k'] k' hk rfl h (qat e)
  omega
 ·rcases qcv k k' with e2 | e2 | e2
  ·have := yda ls[k] k ls[k'] k' hk rfl h (qaT ⟨e, e2⟩)
   omega
  ·exact e2
  ·have := yda ls[k'] k' ls[k] k hk' rfl h' (qaT ⟨e.symm, e2⟩)
   omega
 ·have := yda ls[k'] k' ls[k] k hk' rfl h' (qat e)
  omega
def ybP (ls : List Nat) (n s : Nat) : Nat := cpos ls n s / 2 ^ (15 - n)
theorem yeo (n s : Nat) (hn : n ≤ 15) : ybP ls n s * 2 ^ (15 - n) = cpos ls n s := Nat.div_mul_cancel (cpos_dvd n s hn)
theorem cword_lt (n s : Nat) (hs : s < ls.length) (h : ls[s] = n) (hn : 0 < n ∧ n ≤ 15) (hc : call ls ≤ 32768) : ybP ls n s < 2 ^ n := by
 have h1 := cpos_all n s hs h hn.1
 have h2 := yeo (ls := ls) n s hn.2
 have h3 : (2 : Nat) ^ n * 2 ^ (15 - n) = 32768 := by rw [← qcd, show n + (15 - n) = 15 from by omega]
 have h4 : 0 < (2 : Nat) ^ (15 - n) := qbu (by omega)
 rcases qaZ (ybP ls n s) (2 ^ n) with e | e
 ·exact e
 ·have := qct (2 ^ (15 - n)) e
  omega
end
def dig : Nat → Nat → List Nat
 | 0, _ => []
 | w + 1, n => dig w (n / 2) ++ [n % 2]
theorem yai : ∀ w n, (dig w n).length = w
 | 0, _ => rfl
 | w + 1, n => by simp [dig, yai w]
def Bin (l : List Nat) : Prop := ∀ d ∈ l, d < 2
theorem ye3 : Bin [] := by simp [Bin]
theorem Bin.app {a b : List Nat} (h : Bin a) (k : Bin b) : Bin (a ++ b) := fun d hd => by
 rcases qbf.1 hd with hd | hd
 ·exact h d hd
 ·exact k d hd
theorem yc4 : ∀ w n, Bin (dig w n)
 | 0, _ => ye3
 | w + 1, n => (yc4 w (n / 2)).app fun d hd => by
  rw [qcb] at hd
  omega
theorem ygD : ∀ (a b n : Nat), dig (a + b) n = dig a (n / 2 ^ b) ++ dig b n
 | a, 0, n => by simp [dig]
 | a, b + 1, n => by
  show dig (a + b) (n / 2) ++ [n % 2] = _
  rw [ygD a b (n / 2), qbI, qbx 2, ← qaO, dig, qak]
theorem yf0 : ∀ w, dig w 0 = List.replicate w 0
 | 0 => rfl
 | w + 1 => by
  rw [dig, List.replicate_succ', Nat.zero_div, yf0 w]
def num (l : List Nat) : Nat := l.foldl (fun s d => 2 * s + d) 0
theorem num_fold (l : List Nat) : ∀ s, l.foldl (fun s d => 2 * s + d) s = s * 2 ^ l.length + num l := by
 induction l with
 | nil => intro s; simp [num]
 | cons a t ih =>
  intro s
  have e : num (a :: t) = a * 2 ^ t.length + num t := by
   show (a :: t).foldl (fun s d => 2 * s + d) 0 = _
   rw [List.foldl_cons, ih]
   simp
  rw [List.foldl_cons, ih, e, qau, qaO]
  simp only [qcf]
  rw [qbx 2 s, qbX, qbx 2, qbD]
theorem ydo (a b : List Nat) : num (a ++ b) = num a * 2 ^ b.length + num b := by
 unfold num
 rw [List.foldl_append, num_fold]
 rfl
theorem yfu (a : List Nat) (d : Nat) : num (a ++ [d]) = 2 * num a + d := by
 rw [ydo]
 simp [num]
 omega
theorem yd5 : ∀ w n, num (dig w n) = n % 2 ^ w
 | 0, n => by simp [dig, num, Nat.mod_one]
 | w + 1, n => by
  rw [dig, yfu, yd5 w, qaO, qbx (2 ^ w), Nat.mod_mul]
  omega
theorem Bin.snoc {l : List Nat} {d : Nat} (h : Bin (l ++ [d])) : Bin l ∧ d < 2 :=
 ⟨fun x hx => h x (by simp [hx]), h d (by simp)⟩
theorem snoc_of {n : Nat} {l : List Nat} (h : l.length = n + 1) : ∃ a d, l = a ++ [d] ∧ a.length = n := by
 have hne : l ≠ [] := by
  rintro rfl
  simp at h
 exact ⟨l.dropLast, l.getLast hne, (List.dropLast_concat_getLast hne).symm, by simp; omega⟩
theorem num_lt_of : ∀ (n : Nat) (l : List Nat), l.length = n → Bin l → num l < 2 ^ n
 | 0, l, h, _ => by
  rw [qay.1 h]
  simp [num]
 | n + 1, l, h, hb => by
  obtain ⟨a, d, rfl, ha⟩ := snoc_of h
  have := num_lt_of n a ha hb.snoc.1
  have := hb.snoc.2
  rw [yfu, qaO]
  omega
theorem num_lt {l : List Nat} (h : Bin l) : num l < 2 ^ l.length := num_lt_of _ l rfl h
theorem ye7 : ∀ (n : Nat) (l : List Nat), l.length = n → Bin l → dig n (num l) = l
 | 0, l, h, _ => by
  rw [qay.1 h]
  rfl
 | n + 1, l, h, hb => by
  obtain ⟨a, d, rfl, ha⟩ := snoc_of h
  have h1 := ye7 n a ha hb.snoc.1
  have := hb.snoc.2
  rw [yfu, dig, show (2 * num a + d) / 2 = num a from by omega, show (2 * num a + d) % 2 = d from by omega, h1]
theorem dig_num {l : List Nat} (h : Bin l) : dig l.length (num l) = l := ye7 _ l rfl h
def text : List Nat → List UInt8
 | [] => []
 | a :: t => UInt8.ofNat (num ((a :: t).take 8) * 2 ^ (8 - ((a :: t).take 8).length)) :: text (t.drop 7)
termination_by l => l.length
decreasing_by simp; omega
theorem ybQ : text [] = [] := by rw [text]
theorem ycz (l : List Nat) (h : l ≠ []) : text l = UInt8.ofNat (num (l.take 8) * 2 ^ (8 - (l.take 8).length)) :: text (l.drop 8) := by
 cases l with
 | nil => exact absurd rfl h
 | cons a t => rw [text]; rfl
theorem yca : ∀ (q : Nat) (A B : List Nat), A.length = 8 * q → text (A ++ B) = text A ++ text B
 | 0, A, B, h => by
  obtain rfl := qay.1 (show A.length = 0 by omega)
  simp [ybQ]
 | q + 1, A, B, h => by
  have hA : A ≠ [] := by
   rintro rfl
   simp at h
  rw [ycz (A ++ B) (by simp [hA]), ycz A hA, qb5 (by omega), qbd (by omega), yca q (A.drop 8) B (by simp; omega)]
  rfl
theorem ydd (B : List Nat) (h0 : 0 < B.length) (h8 : B.length ≤ 8) : text B = [UInt8.ofNat (num B * 2 ^ (8 - B.length))] := by
 rw [ycz B (by rintro rfl; simp at h0), qax h8, qaJ h8, ybQ]
theorem ydv : ∀ (n : Nat) (l : List Nat), l.length ≤ n → (text l).length = (l.length + 7) / 8
 | 0, l, h => by
  obtain rfl := qay.1 (show l.length = 0 by omega)
  rw [ybQ]
  rfl
 | n + 1, l, h => by
  by_cases hl : l = []
  ·subst hl
   rw [ybQ]
   rfl
  ·have hpos : 0 < l.length := List.length_pos_iff.2 hl
   rw [ycz l hl, qau, ydv n _ (by simp; omega), qaz]
   omega
theorem ybF (l : List Nat) : (text l).length = (l.length + 7) / 8 := ydv _ l (qaf _)
def fr (l : List Nat) : Nat := (8 - l.length % 8) % 8
theorem fr_lt (l : List Nat) : fr l < 8 := by unfold fr; omega
theorem text_new (R P : List Nat) (hR : fr R = 0) (h0 : 0 < P.length) (h8 : P.length ≤ 8) : text (R ++ P) = text R ++ [UInt8.ofNat (num P * 2 ^ (8 - P.length))] := by
 rw [yca (R.length / 8) R P (by unfold fr at hR; omega), ydd P h0 h8]
theorem text_more (R P : List Nat) (f : Nat) (hR : fr R = f) (hf : 0 < f) (hb : Bin R) (hP : P.length ≤ f) :
  ∃ T b, text R = T ++ [b] ∧ text (R ++ P) = T ++ [UInt8.ofNat (b.toNat + num P * 2 ^ (f - P.length))] ∧ b.toNat % 2 ^ f = 0 := by
 have hf8 : f < 8 := by rw [← hR]; exact fr_lt R
 have hAl : (R.take (8 * (R.length / 8))).length = 8 * (R.length / 8) := by simp; omega
 have hBl : (R.drop (8 * (R.length / 8))).length = 8 - f := by simp; unfold fr at hR; omega
 have hsp := qa1 (8 * (R.length / 8)) R
 have hBb : Bin (R.drop (8 * (R.length / 8))) := fun d hd => hb d (qbG hd)
 generalize R.take (8 * (R.length / 8)) = A at *
 generalize R.drop (8 * (R.length / 8)) = B at *
 have hnB := num_lt hBb
 rw [hBl] at hnB
 have hsz : num B * 2 ^ f < 256 := by
  have h1 : num B * 2 ^ f < 2 ^ (8 - f) * 2 ^ f := qci hnB (qbu (by omega))
  rw [← qcd, show 8 - f + f = 8 from by omega] at h1
  exact h1
 refine ⟨text A, UInt8.ofNat (num B * 2 ^ f), ?_, ?_, ?_⟩
 ·rw [← hsp, yca _ A B hAl, ydd B (by omega) (by omega), hBl, show 8 - (8 - f) = f from by omega]
 ·rw [← hsp, qak, yca _ A (B ++ P) hAl, ydd (B ++ P) (by rw [qae]; omega) (by rw [qae]; omega), ydo, qae, hBl,
   show 8 - (8 - f + P.length) = f - P.length from by omega, yaw _ hsz, qcf, qbX, ← qcd, show P.length + (f - P.length) = f from by omega]
 ·rw [yaw _ hsz]
  exact Nat.mul_mod_left _ _
def ybX (s : List UInt8) : List Nat := s.flatMap fun b => dig 8 b.toNat
theorem row_cons (b : UInt8) (s : List UInt8) : ybX (b :: s) = dig 8 b.toNat ++ ybX s := rfl
theorem row_append (a b : List UInt8) : ybX (a ++ b) = ybX a ++ ybX b := by simp [ybX]
theorem row_length (s : List UInt8) : (ybX s).length = 8 * s.length := by
 induction s with
 | nil => rfl
 | cons b s ih => rw [row_cons, qae, yai, ih, qau]; omega
theorem yf9 : ∀ s, Bin (ybX s)
 | [] => ye3
 | b :: s => (yc4 8 b.toNat).app (yf9 s)
theorem yg9 : ∀ (n : Nat) (R : List Nat), R.length ≤ n → Bin R → ybX (text R) = R ++ List.replicate (fr R) 0
 | 0, R, h, _ => by
  obtain rfl := qay.1 (show R.length = 0 by omega)
  rw [ybQ]
  rfl
 | n + 1, R, h, hb => by
  by_cases hl : R = []
  ·subst hl
   rw [ybQ]
   rfl
  ·have hpos : 0 < R.length := List.length_pos_iff.2 hl
   rw [ycz R hl, row_cons, yg9 n (R.drop 8) (by simp; omega) (fun d hd => hb d (qbG hd))]
   have hb8 : Bin (R.take 8) := fun d hd => hb d (qaV hd)
   have hnB := num_lt hb8
   have hl8 : (R.take 8).length ≤ 8 := by simp; omega
   have hsz : num (R.take 8) * 2 ^ (8 - (R.take 8).length) < 256 := by
    have h1 : num (R.take 8) * 2 ^ (8 - (R.take 8).length) < 2 ^ (R.take 8).length * 2 ^ (8 - (R.take 8).length) := qci hnB (qbu (by omega))
    rw [← qcd, show (R.take 8).length + (8 - (R.take 8).length) = 8 from by omega] at h1
    exact h1
   rw [yaw _ hsz]
   have hd : dig 8 (num (R.take 8) * 2 ^ (8 - (R.take 8).length)) = R.take 8 ++ List.replicate (8 - (R.take 8).length) 0 := by
    have h1 := ygD (R.take 8).length (8 - (R.take 8).length) (num (R.take 8) * 2 ^ (8 - (R.take 8).length))
    rw [show (R.take 8).length + (8 - (R.take 8).length) = 8 from by omega, Nat.mul_div_cancel _ (qbu (by omega)), dig_num hb8] at h1
    rw [h1]
    congr 1
    have hz : num (dig (8 - (R.take 8).length) (num (R.take 8) * 2 ^ (8 - (R.take 8).length))) = 0 := by rw [yd5]; exact Nat.mul_mod_left _ _
    have h2 := dig_num (yc4 (8 - (R.take 8).length) (num (R.take 8) * 2 ^ (8 - (R.take 8).length)))
    rw [hz, yai, yf0] at h2
    exact h2.symm
   rw [hd]
   by_cases h8 : 8 ≤ R.length
   ·rw [show (R.take 8).length = 8 from by simp; omega]
    simp only [Nat.sub_self, List.replicate_zero, qa6]
    rw [← qak, qa1]
    congr 2
    unfold fr
    simp
    omega
   ·rw [qax (by omega), qaJ (by omega), qbc]
    have : fr ([] : List Nat) = 0 := rfl
    rw [this, List.replicate_zero, qa6]
    congr 2
    unfold fr
    omega
theorem row_text {R : List Nat} (h : Bin R) : ybX (text R) = R ++ List.replicate (fr R) 0 := yg9 _ R (qaf _) h
def fits (n w : Int) : Prop := 0 ≤ w ∧ w ≤ 32 ∧ 0 ≤ n ∧ n < 2 ^ w.toNat
instance (n w : Int) : Decidable (fits n w) := by unfold fits; infer_instance
def digI (n w : Int) : List Nat := dig w.toNat n.toNat
def ycv (l : List Nat) (at_ w : Int) : Int × Int :=
 if w < 0 ∨ 32 < w then (0, 2) else if at_ + w > l.length then (0, 4) else ((num ((l.drop at_.toNat).take w.toNat) : Int), 0)
theorem ygb : (prog.info? 3).map (fun i => (i.zero, i.size, i.bytes)) = some (some (.int .i64 0), 1, 8) := by kernel_rfl
def bcs (l : List Nat) : List Value := l.map fun d : Nat => Value.int .i64 (d : Int)
theorem ydk (l : List Nat) : (bcs l).length = l.length := by simp [bcs]
theorem bcs_get (l : List Nat) (i : Nat) (h : i < l.length) : (bcs l)[i]? = some (.int .i64 (l[i] : Int)) := by simp [bcs, h]
theorem ybC (a b : List Nat) : bcs (a ++ b) = bcs a ++ bcs b := by simp [bcs]
theorem bcs_set (A C : List Nat) (b c : Nat) : (bcs (A ++ b :: C)).toArray.setIfInBounds A.length (.int .i64 (c : Int)) = (bcs (A ++ c :: C)).toArray := by
 rw [qab]
 congr 1
 simp [bcs]
theorem yey (l : List Nat) : ∀ u ∈ bcs l, u.oneCell' = true := by
 intro u hu
 obtain ⟨d, _, rfl⟩ := qbM.1 hu
 rfl
theorem ydW (n : Nat) (h : n ≤ 17592186044416) (w : World) :
  (Instr.makeSlice 28 (.int .i64 (n : Int)) (.int .i64 (n : Int))).run prog w = .ok (.slice (some ⟨w.heap.size, 0, none⟩) n n) (w.alloc (.cells (bcs (List.replicate n 0)).toArray 3)) := by
 have e : madeCells #[.int .i64 0] n = (bcs (List.replicate n 0)).toArray := by
  apply Array.ext'
  simp [madeCells, Nat.mod_one, bcs]
  rw [qcu, qaL]
 rw [← e]
 exact run_make_row' (P := prog) 28 3 (.int .i64 0) 8 underlying28 ygb rfl .i64 .i64 n (by omega) (by omega) w
theorem dig_low (k N : Nat) : dig (k + 1) N = N / 2 ^ k % 2 :: dig k N := by
 rw [qcz, ygD 1 k]
 rfl
theorem refDig_in (N W : Nat) (w : World) (hW : W ≤ 32) (hN : N < 9223372036854775808) : Calls prog 156 #[.int .i64 N, .int .i64 W] w fun e w' =>
  ∃ h, e = .returned (.tuple #[.slice (some ⟨h, 0, none⟩) W W, .bool ((N : Int) / 2 ^ W == 0)]) ∧ Blk w' h 3 (bcs (dig W N)).toArray ∧ w.heap.size ≤ h ∧ Below w.heap.size w w' := by
 have hmk := ydW W (by omega) w
 have hWi : (W : Int) ≤ 32 := by omega
 have hN0 : (0 : Int) ≤ N := by omega
 have HN := qaa hN
 clear hN
 go_enter func156, ntmps156
 go_wp2
 clear hmk
 go_loopw [0, 7] (fun n i wr => ∃ j x : Nat, j ≤ W ∧ i = .int .i64 ((j : Int) - 1) ∧ n = .int .i64 x ∧ Hid (x = N / 2 ^ (W - j)) ∧ Hid (Blk wr w.heap.size 3 (bcs (List.replicate j 0 ++ dig (W - j) N)).toArray) ∧ Hid (Below w.heap.size w wr)) (fun _ i _ => (intOf i + 1).toNat)
 case atStart => exact ⟨W, N, qaf _, rfl, rfl, by show N = _; simp, by show Blk _ _ _ _; simpa [dig] using Blk.new w 3 _, by show Below _ _ _; go_grown⟩
 case round =>
  obtain ⟨j, x, hj, rfl, rfl, Hx, HB, Hb⟩ := hrel
  by_cases hlt : 0 < j
  ·obtain ⟨j, rfl⟩ : ∃ i, j = i + 1 := ⟨j - 1, by omega⟩
   have e1 : ((j + 1 : Nat) : Int) - 1 = (j : Int) := by omega
   rw [e1]
   have hb0 := HB.out
   rw [List.replicate_succ', qak] at hb0
   have hf : wr.frozen? ⟨w.heap.size, j, none⟩ = false := hb0.frozen _
   have hc : wr.cell? ⟨w.heap.size, j, none⟩ = some (.int .i64 0) := by
    rw [hb0.cell]
    simp [bcs]
   have hnew := hb0.set_ j (.int .i64 ((x % 2 : Nat) : Int))
   rw [show ([0] ++ dig (W - (j + 1)) N : List Nat) = 0 :: dig (W - (j + 1)) N from rfl] at hnew
   have hset := bcs_set (List.replicate j 0) (dig (W - (j + 1)) N) 0 (x % 2)
   rw [qaY] at hset
   rw [hset] at hnew
   have hglt := hb0.lt
   have hjW : (j : Int) < W := by omega
   have Hnew := qaa hnew
   clear hnew hset hb0 e1
   go_wp2
   go_roundw
   case rel =>
    refine ⟨j, x / 2, by omega, rfl, iv (by have := HN.out; have : N / 2 ^ (W - (j + 1)) ≤ N := Nat.div_le_self _ _; have := Hx.out; unfold wrap64; omega), ?_, ?_, ?_⟩
    ·show x / 2 = N / 2 ^ (W - j)
     rw [Hx.out, show W - j = W - (j + 1) + 1 from by omega, qaO, qbI]
    ·show Blk _ _ _ _
     have h1 := Hnew.out
     rw [Hx.out, ← dig_low, show W - (j + 1) + 1 = W - j from by omega] at h1
     simpa [Hx.out] using h1
    ·show Below _ _ _
     have := Hb.out
     go_grown
   case measure => simp [intOf]
  ·obtain rfl : j = 0 := by omega
   have hx := Hx.out
   have hfin : ((x : Int) == 0) = ((N : Int) / 2 ^ W == 0) := by
    rw [hx, Nat.sub_zero]
    norm_cast
   have Hfin := qaa hfin
   clear hfin hx
   go_wp2
   go_ret2
   refine ⟨w.heap.size, by rw [← Hfin.out]; rfl, ?_, qaf _, Hb.out⟩
   have := HB.out
   simpa using this
theorem ydb (n width : Int) (w : World) (h : fits n width) : Calls prog 156 #[.int .i64 n, .int .i64 width] w fun e w' =>
  ∃ g, e = .returned (.tuple #[.slice (some ⟨g, 0, none⟩) width.toNat width.toNat, .bool true]) ∧ Blk w' g 3 (bcs (digI n width)).toArray ∧ w.heap.size ≤ g ∧ Below w.heap.size w w' := by
 obtain ⟨h1, h2, h3, h4⟩ := h
 obtain ⟨W, rfl⟩ := qaK h1
 obtain ⟨N, rfl⟩ := qaK h3
 refine (refDig_in N W w (by omega) (by have h5 : 2 ^ W ≤ 2 ^ 32 := qaF (by omega) (by omega); rw [show (2 : Nat) ^ 32 = 4294967296 from by decide] at h5; simp only [qap] at h4; have h6 : N < 2 ^ W := (by exact_mod_cast h4); omega)).mono ?_
 rintro e w' ⟨g, rfl, hB, hg, hb⟩
 refine ⟨g, ?_, hB, hg, hb⟩
 have hd : (N : Int) / 2 ^ W = 0 := Int.ediv_eq_zero_of_lt h3 (by simpa using h4)
 rw [hd]
 rfl
theorem ydS {w : World} {h : Nat} {t : TypeId} (l : List Value) (hB : Blk w h t l.toArray) (n : Nat) (hn : l.length = n) : Reads w w.heap.size 1 (some ⟨h, 0, none⟩) n l :=
 ⟨by omega, fun _ => ⟨h, 0, rfl, hB.lt, fun j u hu => by rw [qaE, hB.cell]; simpa using hu⟩⟩
theorem reads_at {w : World} {B n : Nat} {A : Option Addr} {l : List Nat} (hr : Reads w B 1 A n (bcs l)) (hn : 0 < n) : ∃ b off, A = some ⟨b, off, none⟩ ∧ b < B ∧ ∀ k, (hk : k < l.length) → w.cell? ⟨b, off + k, none⟩ = some (.int .i64 (l[k] : Int)) := by
 obtain ⟨b, off, e, hb, hc⟩ := hr.2 hn
 exact ⟨b, off, e, hb, fun k hk => hc k _ (bcs_get l k hk)⟩
def dg : Nat → Nat → List UInt8
 | 0, _ => []
 | f + 1, n => if n < 128 then [UInt8.ofNat n] else UInt8.ofNat (128 + n % 128) :: dg f (n / 128)
def putB (n : Int) : List UInt8 := if n < 0 then [] else dg 9 n.toNat
def putE (n : Int) : Int := if n < 0 then 2 else 0
def sizeF (n : Int) : Int := (putB n).length
def val : List UInt8 → Nat
 | [] => 0
 | b :: t => b.toNat % 128 + 128 * val t
def lead : List UInt8 → Nat
 | [] => 0
 | b :: t => if 128 ≤ b.toNat then lead t + 1 else 0
def getR (l : List UInt8) : Int × Nat × Int :=
 if 9 ≤ lead l then (0, 0, 5) else if lead l = l.length then (0, 0, 4) else if 0 < lead l ∧ l.getD (lead l) 0 = 0 then (0, 0, 5) else ((val (l.take (lead l + 1)) : Int), lead l + 1, 0)
def getF (l : List UInt8) (p : Int) : Int × Int × Int :=
 if 0 ≤ p ∧ p ≤ l.length then (if (getR (l.drop p.toNat)).2.2 = 0 then ((getR (l.drop p.toNat)).1, p + (getR (l.drop p.toNat)).2.1, 0) else (0, 0, (getR (l.drop p.toNat)).2.2)) else (0, 0, 2)
theorem dg_le : ∀ f n, (dg f n).length ≤ f
 | 0, _ => qaf _
 | f + 1, n => by
  unfold dg
  split
  ·simp
  ·have := dg_le f (n / 128); simp; omega
theorem dg_pos (f n : Nat) : 0 < (dg (f + 1) n).length := by
 unfold dg
 split <;> simp
theorem lead_le : ∀ l, lead l ≤ l.length
 | [] => qaf _
 | b :: t => by
  have := lead_le t
  unfold lead
  split <;> simp <;> omega
theorem lead_at : ∀ (l : List UInt8) (j : Nat) (h : j < lead l), 128 ≤ (l[j]'(qaM h (lead_le l))).toNat
 | [], j, h => by simp [lead] at h
 | b :: t, 0, h => by
  unfold lead at h
  split at h
  ·assumption
  ·simp at h
 | b :: t, j + 1, h => by
  unfold lead at h
  split at h
  ·simpa using lead_at t j (by omega)
  ·simp at h
theorem lead_end : ∀ (l : List UInt8) (h : lead l < l.length), (l[lead l]'h).toNat < 128
 | [], h => by simp at h
 | b :: t, h => by
  by_cases hb : 128 ≤ b.toNat
  ·have e : lead (b :: t) = lead t + 1 := by simp [lead, hb]
   have ht : lead t < t.length := by rw [e] at h; simpa using h
   have := lead_end t ht
   simp only [e, List.getElem_cons_succ]
   exact this
  ·have e : lead (b :: t) = 0 := by simp [lead, hb]
   simp only [e, List.getElem_cons_zero]
   omega
theorem lead_is (l : List UInt8) (k : Nat) (hk : k ≤ lead l) (h : k < l.length) (hb : (l[k]'h).toNat < 128) : lead l = k := by
 rcases qaZ k (lead l) with hlt | hge
 ·have := lead_at l k hlt; omega
 ·omega
theorem lead_more (l : List UInt8) (k : Nat) (hk : k ≤ lead l) (h : k < l.length) (hb : 128 ≤ (l[k]'h).toNat) : k + 1 ≤ lead l := by
 rcases qaZ k (lead l) with hlt | hge
 ·omega
 ·have e : lead l = k := by omega
  have hh : lead l < l.length := by omega
  have := lead_end l hh
  simp only [e] at this
  omega
theorem val_lt : ∀ l, val l < 128 ^ l.length
 | [] => by simp [val]
 | b :: t => by
  have := val_lt t
  have hb := Nat.mod_lt b.toNat (by omega : 0 < 128)
  simp only [val, qau, qaO]
  omega
theorem val_snoc : ∀ (l : List UInt8) (b : UInt8), val (l ++ [b]) = val l + 128 ^ l.length * (b.toNat % 128)
 | [], b => by simp [val]
 | a :: t, b => by
  simp only [qbC, val, val_snoc t b, qau, qaO]
  rw [Nat.mul_add, ← qbX, qbx 128 (128 ^ t.length)]
  omega
theorem yfw (l : List UInt8) (k : Nat) (h : k < l.length) : val (l.take (k + 1)) = val (l.take k) + 128 ^ k * ((l[k]'h).toNat % 128) := by
 rw [qao h, val_snoc]
 simp [qbh (Nat.le_of_lt h)]
theorem dg_val : ∀ (f n : Nat), n < 128 ^ f → val (dg f n) = n
 | 0, n, h => by simp at h; subst h; rfl
 | f + 1, n, h => by
  unfold dg
  split
  ·rename_i h1
   simp only [val, yaw n (by omega)]
   omega
  ·have hd : n / 128 < 128 ^ f := by rw [qb1 (by omega)]; rw [qaO] at h; exact h
   simp only [val, yaw (128 + n % 128) (by omega), dg_val f _ hd]
   omega
theorem dg_lead : ∀ (f n : Nat) (rest : List UInt8), n < 128 ^ (f + 1) → lead (dg (f + 1) n ++ rest) = (dg (f + 1) n).length - 1
 | f, n, rest, h => by
  by_cases h1 : n < 128
  ·have e : dg (f + 1) n = [UInt8.ofNat n] := by simp [dg, h1]
   rw [e]
   simp [lead, yaw n (by omega)]
   omega
  ·have e : dg (f + 1) n = UInt8.ofNat (128 + n % 128) :: dg f (n / 128) := by simp [dg, h1]
   cases f with
   | zero => simp at h; omega
   | succ f =>
    have hd : n / 128 < 128 ^ (f + 1) := by rw [qb1 (by omega)]; rw [qaO] at h; exact h
    have ih := dg_lead f (n / 128) rest hd
    have hp := dg_pos f (n / 128)
    rw [e, qbC]
    simp only [lead, yaw (128 + n % 128) (by omega), ih, qau]
    rw [qah (by omega)]
    omega
theorem dg_last : ∀ (f n : Nat), n < 128 ^ (f + 1) → 1 < (dg (f + 1) n).length → (dg (f + 1) n).getLast? ≠ some 0
 | f, n, h, hl => by
  by_cases h1 : n < 128
  ·simp [dg, h1] at hl
  ·have e : dg (f + 1) n = UInt8.ofNat (128 + n % 128) :: dg f (n / 128) := by simp [dg, h1]
   cases f with
   | zero => simp at h; omega
   | succ f =>
    have hd : n / 128 < 128 ^ (f + 1) := by rw [qb1 (by omega)]; rw [qaO] at h; exact h
    have hp := dg_pos f (n / 128)
    rw [e]
    obtain ⟨a, t, ht⟩ : ∃ a t, dg (f + 1) (n / 128) = a :: t := by
     cases hx : dg (f + 1) (n / 128) with
     | nil => rw [hx] at hp; simp at hp
     | cons a t => exact ⟨a, t, rfl⟩
    rw [ht, List.getLast?_cons_cons, ← ht]
    by_cases h2 : n / 128 < 128
    ·have e2 : dg (f + 1) (n / 128) = [UInt8.ofNat (n / 128)] := by simp [dg, h2]
     rw [e2]
     simp only [List.getLast?_singleton, ne_eq, qbV]
     intro hz
     have := qbJ UInt8.toNat hz
     rw [yaw _ (by omega)] at this
     simp at this
     omega
    ·refine dg_last f (n / 128) hd ?_
     have e2 : dg (f + 1) (n / 128) = UInt8.ofNat (128 + n / 128 % 128) :: dg f (n / 128 / 128) := by simp [dg, h2]
     cases f with
     | zero => simp at hd; omega
     | succ f => rw [e2]; have := dg_pos f (n / 128 / 128); simp; omega
theorem pow9 : (128 : Nat) ^ 9 = 9223372036854775808 := by decide
theorem getR_put (n : Nat) (rest : List UInt8) (h : n < 9223372036854775808) : getR (dg 9 n ++ rest) = ((n : Int), (dg 9 n).length, 0) := by
 rw [← pow9] at h
 have hl : lead (dg 9 n ++ rest) = (dg 9 n).length - 1 := dg_lead 8 n rest h
 have hp : 0 < (dg 9 n).length := dg_pos 8 n
 have hle := dg_le 9 n
 unfold getR
 rw [hl]
 have hlen : (dg 9 n ++ rest).length = (dg 9 n).length + rest.length := qae
 rw [qag (by omega), qag (by omega)]
 have hx : (dg 9 n ++ rest).getD ((dg 9 n).length - 1) 0 = (dg 9 n).getLast?.getD 0 := by
  rw [List.getLast?_eq_getElem?, qaw, qcs (by omega)]
 have hz : ¬ (0 < (dg 9 n).length - 1 ∧ (dg 9 n ++ rest).getD ((dg 9 n).length - 1) 0 = 0) := by
  rintro ⟨h1, h2⟩
  have hne : (dg 9 n).getLast? ≠ some 0 := dg_last 8 n h (by show 1 < (dg 9 n).length; omega)
  rw [hx] at h2
  cases hg : (dg 9 n).getLast? with
  | none => simp at hg; rw [hg] at hp; simp at hp
  | some b => rw [hg] at h2 hne; simp at h2; exact hne (by rw [h2])
 rw [qag hz, show (dg 9 n).length - 1 + 1 = (dg 9 n).length from by omega, qcg rfl, dg_val 9 n h]
theorem getF_put (pre rest : List UInt8) (n : Nat) (h : n < 9223372036854775808) : getF (pre ++ (dg 9 n ++ rest)) pre.length = ((n : Int), (pre.length : Int) + (dg 9 n).length, 0) := by
 unfold getF
 rw [qah ⟨by omega, by rw [qae]; omega⟩, qap, qbZ rfl, getR_put n rest h]
 simp
theorem dg_of_lead : ∀ (f : Nat) (l : List UInt8), lead l < f + 1 → (h : lead l < l.length) → (lead l = 0 ∨ l.getD (lead l) 0 ≠ 0) → dg (f + 1) (val (l.take (lead l + 1))) = l.take (lead l + 1)
 | f, [], _, h, _ => by simp at h
 | f, b :: t, hf, h, hz => by
  have hb256 := u8_lt b
  by_cases hb : 128 ≤ b.toNat
  ·have e : lead (b :: t) = lead t + 1 := by simp [lead, hb]
   have ht : lead t < t.length := by rw [e] at h; simpa using h
   cases f with
   | zero => omega
   | succ f =>
    have hz' : t.getD (lead t) 0 ≠ 0 := by
     rcases hz with h0 | h0
     ·omega
     ·rw [e] at h0; simpa using h0
    have ih := dg_of_lead f t (by omega) ht (qaT hz')
    rw [e, qaR]
    -- the value behind is not 0
    have hend := lead_end t ht
    have hv : val (t.take (lead t + 1)) = val (t.take (lead t)) + 128 ^ lead t * ((t[lead t]'ht).toNat % 128) := yfw t _ ht
    have hne : (t[lead t]'ht).toNat ≠ 0 := by
     intro h0
     refine hz' ?_
     rw [qaw, qan ht]
     exact u8_eq (by simpa using h0)
    have hpos : 0 < 128 ^ lead t * ((t[lead t]'ht).toNat % 128) := Nat.mul_pos (qbu (by omega)) (by omega)
    have hvpos : 0 < val (t.take (lead t + 1)) := by omega
    simp only [val]
    generalize val (t.take (lead t + 1)) = v at *
    have hn : ¬ b.toNat % 128 + 128 * v < 128 := by omega
    have hdiv : (b.toNat % 128 + 128 * v) / 128 = v := by omega
    have hmod : (b.toNat % 128 + 128 * v) % 128 = b.toNat % 128 := by omega
    rw [dg, qag hn, hdiv, hmod, ih]
    congr 1
    exact u8_eq (by rw [yaw _ (by omega)]; omega)
  ·have e : lead (b :: t) = 0 := by simp [lead, hb]
   rw [e]
   have hv : val (List.take (0 + 1) (b :: t)) = b.toNat := by simp [val]; omega
   rw [hv, dg, qah (by omega)]
   simp
theorem getR_ok (l : List UInt8) (h : (getR l).2.2 = 0) : ∃ m : Nat, m < 9223372036854775808 ∧ (getR l).1 = m ∧ 0 < (getR l).2.1 ∧ (getR l).2.1 ≤ l.length ∧ l.take (getR l).2.1 = dg 9 m := by
 unfold getR at h ⊢
 by_cases h1 : 9 ≤ lead l
 ·rw [qah h1] at h; simp at h
 ·rw [qag h1] at h ⊢
  by_cases h2 : lead l = l.length
  ·rw [qah h2] at h; simp at h
  ·rw [qag h2] at h ⊢
   by_cases h3 : 0 < lead l ∧ l.getD (lead l) 0 = 0
   ·rw [qah h3] at h; simp at h
   ·rw [qag h3]
    have hlt : lead l < l.length := by have := lead_le l; omega
    have hd := dg_of_lead 8 l (by omega) hlt (by
     by_cases h0 : lead l = 0
     ·exact qat h0
     ·exact qaT fun hc => h3 ⟨by omega, hc⟩)
    refine ⟨val (l.take (lead l + 1)), ?_, rfl, by simp, by simp only; omega, hd.symm⟩
    have := val_lt (l.take (lead l + 1))
    rw [← pow9]
    refine qaM this (qaF (by omega) ?_)
    simp; omega
def val8 : List UInt8 → Nat
 | [] => 0
 | b :: t => b.toNat + 256 * val8 t
def ya0 (l : List UInt8) (p w : Int) : Int × Int × Int :=
 if 1 ≤ w ∧ w ≤ 8 ∧ 0 ≤ p ∧ p ≤ l.length then
  if l.length < p + w then (0, 0, 4)
  else if 9223372036854775808 ≤ val8 ((l.drop p.toNat).take w.toNat) then (0, 0, 5)
  else ((val8 ((l.drop p.toNat).take w.toNat) : Int), p + w, 0)
 else (0, 0, 2)
theorem val8_lt : ∀ l, val8 l < 256 ^ l.length
 | [] => by simp [val8]
 | b :: t => by
  have := val8_lt t
  have hb := u8_lt b
  simp only [val8, qau, qaO]
  omega
theorem val8_snoc : ∀ (l : List UInt8) (b : UInt8), val8 (l ++ [b]) = val8 l + 256 ^ l.length * b.toNat
 | [], b => by simp [val8]
 | a :: t, b => by
  simp only [qbC, val8, val8_snoc t b, qau, qaO]
  rw [Nat.mul_add, ← qbX, qbx 256 (256 ^ t.length)]
  omega
theorem val8_take (l : List UInt8) (k : Nat) (h : k < l.length) : val8 (l.take (k + 1)) = val8 (l.take k) + 256 ^ k * (l[k]'h).toNat := by
 rw [qao h, val8_snoc]
 simp [qbh (Nat.le_of_lt h)]
theorem ycq {n : Int} (h : 0 ≤ n) : putB n = dg 9 n.toNat := by unfold putB; rw [qag (by omega)]
def trip (r : Int × Int × Int) : Value := .tuple #[.int .i64 r.1, .int .i64 r.2.1, .int .i64 r.2.2]
theorem ycd (l : List UInt8) (p : Int) (w : World) : Calls prog 178 #[.string ⟨l.toArray⟩, .int .i64 p] w fun e w' => e = .returned (.bool (decide (0 ≤ p) && decide (p ≤ l.length))) ∧ w = w' := by
 go_enter func178, ntmps178
 go_wp2
 ·rename_i h
  go_ret
  exact ⟨by simp [h], rfl⟩
 ·rename_i h
  go_ret
  exact ⟨by simp; omega, rfl⟩
theorem pow128 (k : Nat) : (128 : Nat) ^ k = 2 ^ (7 * k) := by rw [Nat.pow_mul]
theorem pow256 (k : Nat) : (256 : Nat) ^ k = 2 ^ (8 * k) := by rw [Nat.pow_mul]
theorem or_digit (X b k : Nat) (hX : X < 128 ^ k) (hk : k < 9) : bits .or .i64 (X : Int) (wrap64 ((b : Int) % 128 * 2 ^ (7 * k))) = ((X + 128 ^ k * (b % 128) : Nat) : Int) := by
 have hb : b % 128 < 128 := Nat.mod_lt _ (by omega)
 have h1 : X + 128 ^ k * (b % 128) < 128 ^ (k + 1) := by
  rw [qaO]
  have : 128 ^ k * (b % 128) ≤ 128 ^ k * 127 := qbW _ (by omega)
  omega
 have h2 : 128 ^ (k + 1) ≤ 128 ^ 9 := qaF (by omega) (by omega)
 rw [pow9] at h2
 have e : ((X : Int) + (b : Int) % 128 * 2 ^ (7 * k)) = ((X + 128 ^ k * (b % 128) : Nat) : Int) := by
  rw [pow128, qbz, qcw, Int.natCast_pow, Int.natCast_emod, Int.mul_comm]
  rfl
 have hX' : (X : Int) < 2 ^ (7 * k) := by
  have : ((X : Nat) : Int) < ((2 ^ (7 * k) : Nat) : Int) := by rw [← pow128]; exact Int.ofNat_lt.2 hX
  rwa [Int.natCast_pow] at this
 rw [or_i64 (X : Int) ((b : Int) % 128) (7 * k) (by omega) hX' (by omega) (by rw [e]; omega), e]
section
variable {l : List UInt8} {p : Nat} (hp : p ≤ l.length)
include hp
theorem getF_err {e : Int} (he : e ≠ 0) (h : getR (l.drop p) = (0, 0, e)) : getF l p = (0, 0, e) := by
 unfold getF
 rw [qah ⟨by omega, by omega⟩, qap, h, qag he]
theorem getF_form (h : 9 ≤ lead (l.drop p)) : getF l p = (0, 0, 5) := getF_err hp (by decide) (by unfold getR; rw [qah h])
theorem getF_short (h : lead (l.drop p) < 9) (h2 : lead (l.drop p) = l.length - p) : getF l p = (0, 0, 4) := getF_err hp (by decide) (by unfold getR; rw [qag (by omega), qah (by rw [qaz]; exact h2)])
theorem getF_zero (h : lead (l.drop p) < 9) (h2 : lead (l.drop p) < l.length - p) (h3 : 0 < lead (l.drop p)) (h4 : l[p + lead (l.drop p)]'(by omega) = 0) : getF l p = (0, 0, 5) := getF_err hp (by decide) (by
 have hz : (l.drop p).getD (lead (l.drop p)) 0 = 0 := by
  rw [qaw, List.getElem?_drop, qan (by omega), h4]
  rfl
 unfold getR
 rw [qag (by omega), qag (by rw [qaz]; omega), qah ⟨h3, hz⟩])
theorem getF_ok (h : lead (l.drop p) < 9) (h2 : lead (l.drop p) < l.length - p) (h4 : lead (l.drop p) = 0 ∨ l[p + lead (l.drop p)]'(by omega) ≠ 0) : getF l p = ((val ((l.drop p).take (lead (l.drop p) + 1)) : Int), (p : Int) + ((lead (l.drop p) + 1 : Nat) : Int), 0) := by
 have e : getR (l.drop p) = ((val ((l.drop p).take (lead (l.drop p) + 1)) : Int), lead (l.drop p) + 1, 0) := by
  unfold getR
  rw [qag (by omega), qag (by rw [qaz]; omega), qag ?_]
  rintro ⟨h5, h6⟩
  rw [qaw, List.getElem?_drop, qan (by omega)] at h6
  rcases h4 with h4 | h4
  ·omega
  ·exact h4 h6
 unfold getF
 rw [qah ⟨by omega, by omega⟩, qap, e]
 simp
end
theorem get_in (l : List UInt8) (p : Nat) (w : World) (hp : p ≤ l.length) (hl : l.length ≤ 4611686018427387904) : Calls prog 140 #[.string ⟨l.toArray⟩, .int .i64 p] w fun e w' => e = .returned (trip (getF l p)) ∧ w = w' := by
 go_enter func140, ntmps140
 go_wp2
 go_step3
 go_wp2_with (refine (ycd l p w).mono ?_; rintro e w1 ⟨rfl, rfl⟩; rw [show (decide (0 ≤ (p : Int)) && decide ((p : Int) ≤ l.length)) = true from by simp; omega])
 go_step3
 go_wp2
 go_loop [4, 13] (fun n i => ∃ (k X : Nat), k ≤ 9 ∧ p + k ≤ l.length ∧ i = .int .i64 k ∧ n = .int .i64 X ∧ Hid (k ≤ lead (l.drop p) ∧ X = val ((l.drop p).take k))) (fun _ i => match i with | .int _ m => 9 - m.toNat | _ => 0)
 case atStart => exact ⟨0, 0, by omega, by omega, rfl, rfl, ⟨by omega, by simp [val]⟩⟩
 case round =>
  obtain ⟨k, X, hk, hpk, rfl, rfl, hd⟩ := hrel
  go_wp2
  ·rename_i hx _
   have hx : p + k = l.length := by have := WalkArith.int_eq hx; omega
   have hle := lead_le (l.drop p)
   rw [qaz] at hle
   try rw [qbN]
   go_ret3
   refine ⟨?_, rfl⟩
   rw [getF_short hp (by have := hd.out.1; omega) (by have := hd.out.1; omega)]
   rfl
  ·-- a byte that goes on
   rename_i hx hin _ _ hb
   have hlt : p + k < l.length := by omega
   rw [yeV] at hb ⊢
   have hb' : 128 ≤ (l[p + k]).toNat := by omega
   obtain ⟨hd1, hd2⟩ := hd.out
   have hdl : k < (l.drop p).length := by rw [qaz]; omega
   have hge : (l.drop p)[k]'hdl = l[p + k] := qbE ..
   have hmore := lead_more (l.drop p) k hd1 hdl (by rw [hge]; exact hb')
   have hXlt : X < 128 ^ k := by
    rw [hd2]
    have := val_lt ((l.drop p).take k)
    rwa [qar, qbh (by omega)] at this
   rw [or_digit X _ k hXlt (by omega)]
   refine ⟨⟨k + 1, X + 128 ^ k * ((l[p + k]).toNat % 128), by omega, by omega, iv (by omega), rfl, hmore, ?_⟩, ?_⟩
   ·rw [yfw _ k hdl, hge, ← hd2]
   ·show 9 - Int.toNat _ < 9 - Int.toNat _
    omega
  ·-- a last byte of 0 that is not the only one
   rename_i hb0 hk0
   have hlt : p + k < l.length := by omega
   rw [yeV] at hb0
   obtain ⟨hd1, hd2⟩ := hd.out
   have hdl : k < (l.drop p).length := by rw [qaz]; omega
   have hge : (l.drop p)[k]'hdl = l[p + k] := qbE ..
   have hlead := lead_is (l.drop p) k hd1 hdl (by rw [hge]; omega)
   rw [qbN]
   go_ret3
   refine ⟨?_, rfl⟩
   rw [getF_zero hp (by omega) (by omega) (by omega) (by simp only [hlead]; exact u8_eq (by simpa using hb0))]
   rfl
  ·-- a 0 that is the only byte
   rename_i hb0 hk0
   have hlt : p + k < l.length := by omega
   rw [yeV] at hb0
   obtain ⟨hd1, hd2⟩ := hd.out
   have hk0' : k = 0 := by omega
   subst hk0'
   have hdl : 0 < (l.drop p).length := by rw [qaz]; omega
   have hge : (l.drop p)[0]'hdl = l[p + 0] := qbE ..
   have hlead := lead_is (l.drop p) 0 hd1 hdl (by rw [hge]; omega)
   rw [qbN]
   go_ret3
   refine ⟨?_, rfl⟩
   rw [getF_ok hp (by omega) (by omega) (qat hlead), hlead, yfw _ 0 hdl, hge, hb0]
   simp at hd2
   subst hd2
   refine tv _ _ _ _ _ _ ?_
   have h00 := or_digit 0 0 0 (by decide) (by decide)
   simp [val] at h00 ⊢
   exact h00
  ·rename_i hb hb0
   have hlt : p + k < l.length := by omega
   rw [yeV] at hb hb0
   rw [yeV]
   obtain ⟨hd1, hd2⟩ := hd.out
   have hdl : k < (l.drop p).length := by rw [qaz]; omega
   have hge : (l.drop p)[k]'hdl = l[p + k] := qbE ..
   have hlead := lead_is (l.drop p) k hd1 hdl (by rw [hge]; omega)
   have hXlt : X < 128 ^ k := by
    rw [hd2]
    have := val_lt ((l.drop p).take k)
    rwa [qar, qbh (by omega)] at this
   rw [or_digit X _ k hXlt (by omega)]
   rw [qbN]
   go_ret3
   refine ⟨?_, rfl⟩
   rw [getF_ok hp (by omega) (by omega) (qaT (by simp only [hlead]; exact fun h => hb0 (by rw [h]; rfl))), hlead, yfw _ k hdl, hge, ← hd2]
   refine tv _ _ _ _ _ _ ?_
   simp only [qce, true_and, and_true]
   omega
  ·exfalso
   have := WalkArith.int_ne (by assumption : ((p : Int) + (k : Int) == (l.length : Int)) = false)
   omega
  ·rename_i hx
   go_ret3
   refine ⟨?_, rfl⟩
   rw [getF_form hp (by have := hd.out.1; omega)]
   rfl
theorem get_any (l : List UInt8) (p : Int) (w : World) (hl : l.length ≤ 4611686018427387904) : Calls prog 140 #[.string ⟨l.toArray⟩, .int .i64 p] w fun e w' => e = .returned (trip (getF l p)) ∧ w = w' := by
 by_cases hp : 0 ≤ p ∧ p ≤ l.length
 ·obtain ⟨q, rfl⟩ := qaK hp.1
  exact get_in l q w (by omega) hl
 ·have fin : getF l p = (0, 0, 2) := by unfold getF; rw [qag hp]
  rw [fin]
  clear fin
  go_enter func140, ntmps140
  go_wp2
  go_step3
  go_wp2_with (refine (ycd l p w).mono ?_; rintro e w1 ⟨rfl, rfl⟩; rw [show (decide (0 ≤ p) && decide (p ≤ l.length)) = false from by simp; omega])
  rw [qbN]
  go_ret3
  exact ⟨rfl, rfl⟩
theorem or_byte (X b k : Nat) (hX : X < 256 ^ k) (hk : k < 8) (hb : b < 256) :
  (X + 256 ^ k * b < 9223372036854775808 → bits .or .i64 (X : Int) (wrap64 ((b : Int) * 2 ^ (8 * k))) = ((X + 256 ^ k * b : Nat) : Int)) ∧
  (9223372036854775808 ≤ X + 256 ^ k * b → k = 7 ∧ bits .or .i64 (X : Int) (wrap64 ((b : Int) * 2 ^ (8 * k))) < 0) := by
 constructor
 ·intro h
  have e : ((X : Int) + (b : Int) * 2 ^ (8 * k)) = ((X + 256 ^ k * b : Nat) : Int) := by
   rw [pow256, qbz, qcw, Int.natCast_pow, Int.mul_comm]
   rfl
  have hX' : (X : Int) < 2 ^ (8 * k) := by
   have : ((X : Nat) : Int) < ((2 ^ (8 * k) : Nat) : Int) := by rw [← pow256]; exact Int.ofNat_lt.2 hX
   rwa [Int.natCast_pow] at this
  rw [or_i64 (X : Int) (b : Int) (8 * k) (by omega) hX' (by omega) (by rw [e]; omega), e]
 ·intro h
  have hk7 : k = 7 := by
   rcases qaZ k 7 with hlt | hge
   ·exfalso
    have h1 : 256 ^ k * b ≤ 256 ^ k * 255 := qbW _ (by omega)
    have h2 : 256 ^ k ≤ 256 ^ 6 := qaF (by omega) (by omega)
    have e6 : (256 : Nat) ^ 6 = 281474976710656 := by decide
    omega
   ·omega
  subst hk7
  refine ⟨rfl, ?_⟩
  have e7 : (256 : Nat) ^ 7 = 72057594037927936 := by decide
  have e56 : (2 : Int) ^ (8 * 7) = 72057594037927936 := by decide
  rw [e7] at hX h
  rw [e56]
  have hw : wrap64 ((b : Int) * 72057594037927936) = (b : Int) * 72057594037927936 - 18446744073709551616 := by unfold wrap64; omega
  rw [hw]
  exact or_neg _ _ (by omega) (by omega) (by omega) (by omega)
theorem unfix_in (l : List UInt8) (p v : Nat) (w : World) (h1 : 1 ≤ v) (h8 : v ≤ 8) (hp : p + v ≤ l.length) (hl : l.length ≤ 4611686018427387904) :
  Calls prog 191 #[.string ⟨l.toArray⟩, .int .i64 p, .int .i64 v] w fun e w' => e = .returned (trip (ya0 l p v)) ∧ w = w' := by
 have hv8 := val8_lt ((l.drop p).take v)
 rw [qar, qaz, qbh (by omega)] at hv8
 have hv8 := qaa hv8
 have fin : ya0 l p v = if 9223372036854775808 ≤ val8 ((l.drop p).take v) then (0, 0, 5) else ((val8 ((l.drop p).take v) : Int), (p : Int) + v, 0) := by
  unfold ya0
  rw [qah ⟨by omega, by omega, by omega, by omega⟩, qag (by omega), qap, qap]
 rw [fin]
 clear fin
 go_enter func191, ntmps191
 go_wp2_with (refine (ycd l p w).mono ?_; rintro e w1 ⟨rfl, rfl⟩; rw [show (decide (0 ≤ (p : Int)) && decide ((p : Int) ≤ l.length)) = true from by simp; omega])
 go_loop [6, 29] (fun n i => ∃ (k : Nat) (X : Int), k ≤ v ∧ i = .int .i64 k ∧ n = .int .i64 X ∧ Hid (val8 ((l.drop p).take k) < 9223372036854775808 → X = val8 ((l.drop p).take k)) ∧ Hid (9223372036854775808 ≤ val8 ((l.drop p).take k) → k = 8 ∧ X < 0)) (fun _ i => match i with | .int _ m => 9 - m.toNat | _ => 0)
 case atStart => exact ⟨0, 0, by omega, rfl, rfl, (fun _ => rfl), fun h => absurd h (by simp [val8])⟩
 case round =>
  obtain ⟨k, X, hk, rfl, rfl, hd1, hd2⟩ := hrel
  go_wp2
  ·rename_i hkv _
   have hdl : k < (l.drop p).length := by rw [qaz]; omega
   have hge : (l.drop p)[k]'hdl = l[p + k] := qbE ..
   rw [yeV]
   have hb := u8_lt l[p + k]
   have hwb : wrap64 ((l[p + k]).toNat : Int) = ((l[p + k]).toNat : Int) := by unfold wrap64; omega
   rw [hwb]
   have hvl := val8_lt ((l.drop p).take k)
   rw [qar, qbh (by omega)] at hvl
   have hX : X = val8 ((l.drop p).take k) := by
    rcases qaZ (val8 ((l.drop p).take k)) 9223372036854775808 with h | h
    ·exact hd1.out h
    ·have := (hd2.out h).1; omega
   rw [hX]
   obtain ⟨o1, o2⟩ := or_byte _ (l[p + k]).toNat k hvl (by omega) hb
   refine ⟨⟨k + 1, _, by omega, iv (by omega), rfl, ?_, ?_⟩, ?_⟩
   ·intro h
    rw [val8_take _ k hdl, hge] at h ⊢
    exact o1 h
   ·intro h
    rw [val8_take _ k hdl, hge] at h
    obtain ⟨h7, hneg⟩ := o2 h
    exact ⟨by omega, hneg⟩
   ·show 9 - Int.toNat _ < 9 - Int.toNat _
    omega
  all_goals
   obtain rfl : k = v := by omega
   go_ret3
   refine ⟨?_, rfl⟩
   rcases qaZ (val8 ((l.drop p).take k)) 9223372036854775808 with hlt | hge
   ·have hX := hd1.out hlt
    first
    | (exfalso; omega)
    | (refine tv _ _ _ _ _ _ ?_; rw [hX])
   ·have hX := (hd2.out hge).2
    first
    | (exfalso; omega)
    | rfl
theorem unfix_any (l : List UInt8) (p v : Int) (w : World) (hl : l.length ≤ 4611686018427387904) :
  Calls prog 191 #[.string ⟨l.toArray⟩, .int .i64 p, .int .i64 v] w fun e w' => e = .returned (trip (ya0 l p v)) ∧ w = w' := by
 by_cases hv : 1 ≤ v
 ·by_cases hv8 : v ≤ 8
  ·by_cases hp : 0 ≤ p ∧ p ≤ l.length
   ·by_cases hs : l.length < p + v
    ·have fin : ya0 l p v = (0, 0, 4) := by unfold ya0; rw [qah ⟨hv, hv8, hp.1, hp.2⟩, qah hs]
     rw [fin]
     clear fin
     go_enter func191, ntmps191
     go_wp2_with (refine (ycd l p w).mono ?_; rintro e w1 ⟨rfl, rfl⟩; rw [show (decide (0 ≤ p) && decide (p ≤ l.length)) = true from by simp; omega])
     go_ret3
     exact ⟨rfl, rfl⟩
    ·obtain ⟨q, rfl⟩ := qaK hp.1
     obtain ⟨u, rfl⟩ := qaK (by omega : 0 ≤ v)
     exact unfix_in l q u w (by omega) (by omega) (by omega) hl
   ·have fin : ya0 l p v = (0, 0, 2) := by unfold ya0; rw [qag (by omega)]
    rw [fin]
    clear fin
    go_enter func191, ntmps191
    go_wp2_with (refine (ycd l p w).mono ?_; rintro e w1 ⟨rfl, rfl⟩; rw [show (decide (0 ≤ p) && decide (p ≤ l.length)) = false from by simp; omega])
    go_ret3
    exact ⟨rfl, rfl⟩
  ·have fin : ya0 l p v = (0, 0, 2) := by unfold ya0; rw [qag (by omega)]
   rw [fin]
   clear fin
   go_enter func191, ntmps191
   go_wp2
   go_ret3
   exact ⟨rfl, rfl⟩
 ·have fin : ya0 l p v = (0, 0, 2) := by unfold ya0; rw [qag (by omega)]
  rw [fin]
  clear fin
  go_enter func191, ntmps191
  go_wp2
  go_ret3
  exact ⟨rfl, rfl⟩
structure BRow (w : World) (g : Nat) (l : List UInt8) : Prop where
 lt : g < w.heap.size
 cell : ∀ j b, l[j]? = some b → w.cell? ⟨g, j, none⟩ = some (.int .u8 (b.toNat : Int))
 free : ∀ j, j < l.length → w.frozen? ⟨g, j, none⟩ = false
section
variable {w w' : World} {g : Nat} {l : List UInt8}
theorem BRow.below {B : Nat} (h : BRow w g l) (hb : Below B w w') (hg : g < B) : BRow w' g l :=
 ⟨qaM h.lt hb.size, fun j b hj => (hb.cell (p := ⟨g, j, none⟩) hg).trans (h.cell j b hj), fun j hj => (hb.frozen (p := ⟨g, j, none⟩) hg).trans (h.free j hj)⟩
theorem BRow.drew (h : BRow w g l) : BRow w.drew g l := ⟨h.lt, h.cell, h.free⟩
theorem BRow.drewN (h : BRow w g l) (n : Nat) : BRow (w.drewN n) g l := ⟨h.lt, h.cell, h.free⟩
theorem BRow.set (h : BRow w g l) (i : Nat) (b : UInt8) (hi : i < l.length) : BRow (w.setCell ⟨g, i, none⟩ (.int .u8 (b.toNat : Int))) g (l.set i b) := by
 obtain ⟨c0, hc0⟩ : ∃ c, l[i]? = some c := ⟨l[i], qan hi⟩
 have hold := h.cell i c0 hc0
 refine ⟨by simpa [World.setCell] using h.lt, fun j c hj => ?_, fun j hj => ?_⟩
 ·rw [List.getElem?_set] at hj
  by_cases e : i = j
  ·subst e
   rw [qah rfl, qah hi] at hj
   injection hj with hj
   subst hj
   exact World.cell?_setCell_same _ _ _ hold
  ·rw [qag e] at hj
   rw [World.cell?_setCell_other _ _ _ _ (by intro e2; injection e2 with _ e3; exact e e3)]
   exact h.cell j c hj
 ·rw [World.frozen?_setCell]
  exact h.free j (by simpa using hj)
theorem run_bytes_row {P : Program} (w : World) (src dst e : TypeId) (l : List UInt8) (hs : P.underlying src = some .string) (hd : P.underlying dst = some (.slice e)) (he : P.underlying e = some (.int .u8)) :
  ∃ cap W', (convert src dst (.string ⟨l.toArray⟩)).run P w = .ok (.slice (some ⟨w.heap.size, 0, none⟩) l.length cap) W' ∧ BRow W' w.heap.size l ∧ Below w.heap.size w W' ∧ l.length ≤ cap := by
 have h := run_bytes_of_string (P := P) w src dst e ⟨l.toArray⟩ hs hd he
 have hsz : (ByteArray.mk l.toArray).size = l.length := by rw [qaA]; simp
 rw [hsz] at h
 refine ⟨_, _, h, ?_, ?_, ?_⟩
 ·generalize grownCap w l.length 0 e = cp
  have hlen : (bytesRow ⟨l.toArray⟩ cp).size = l.length + (cp - l.length) := by simp [bytesRow, hsz]
  have hh : (w.drew.alloc (.cells (bytesRow ⟨l.toArray⟩ cp) e ((bytesRow ⟨l.toArray⟩ cp).size, (bytesRow ⟨l.toArray⟩ cp).size + 1))).heap[w.heap.size]? = some (.cells (bytesRow ⟨l.toArray⟩ cp) e ((bytesRow ⟨l.toArray⟩ cp).size, (bytesRow ⟨l.toArray⟩ cp).size + 1)) := heap_alloc_new w.drew _
  refine ⟨by show w.heap.size < (w.heap.push _).size; simp, fun j b hj => ?_, fun j hj => ?_⟩
  ·rw [cell_of_row _ _ j _ e _ hh]
   have hjl : j < l.length := (qcr.1 hj).1
   have hjb : l[j] = b := (qcr.1 hj).2
   subst hjb
   simp [bytesRow, Array.getElem?_append, hjl]
  ·simp only [World.frozen?, hh]
   rw [hlen]
   simp
   omega
 ·exact (qaj _ _).drew.alloc (qaf _) _
 ·exact grownCap_ge w _ _ _
end
end Go.Proofs.YtanjhbkbpalnaaaGreat
