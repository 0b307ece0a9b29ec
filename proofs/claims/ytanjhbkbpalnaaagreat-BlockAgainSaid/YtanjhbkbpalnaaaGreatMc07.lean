/-
 What the law of the last of these texts stands on, part 7.
-/
import Derived.Test.YtanjhbkbpalnaaaGreatMc01
import Derived.Lib.BitFns
set_option maxRecDepth 100000
set_option maxHeartbeats 8000000
open Go.Proofs.Tryz
namespace Go.Proofs.YtanjhbkbpalnaaaGreat
set_option linter.unusedSimpArgs false
set_option linter.unusedVariables false
open Go.ChangeShapes Go.WideShapes Go.ChangeAt Go.RowKit Go.Joins Go.Deep
def cat1 (ls : List Nat) (n s j : Nat) : Int × Int :=
 if 0 < ls.getD j 0 ∧ (ls.getD j 0 < n ∨ (ls.getD j 0 = n ∧ j < s)) then ((yb7 ls (ls.getD j 0) j : Nat), (ls.getD j 0 : Nat)) else (0, 0)
def wat (ls : List Nat) (n s : Nat) : List (Int × Int) := (List.range ls.length).map (cat1 ls n s)
theorem yaS (ls : List Nat) (n s : Nat) : (wat ls n s).length = ls.length := by simp [wat]
theorem wat_get (ls : List Nat) (n s j : Nat) (h : j < ls.length) : (wat ls n s)[j]? = some (cat1 ls n s j) := by simp [wat, h]
theorem wat_congr (ls : List Nat) (n s n' s' : Nat) (h : ∀ j, j < ls.length → cat1 ls n s j = cat1 ls n' s' j) : wat ls n s = wat ls n' s' := qc7 fun j hj => h j (qaU.1 hj)
theorem wat_zero (ls : List Nat) : wat ls 1 0 = List.replicate ls.length (0, 0) := by
 apply qc4
 intro j
 by_cases h : j < ls.length
 ·rw [wat_get ls 1 0 j h, List.getElem?_replicate, qah h]
  unfold cat1
  rw [qag (by omega)]
 ·rw [qbw (by rw [yaS]; omega), qbw (by simp; omega)]
theorem wat_next (ls : List Nat) (n s : Nat) (h : ls.length ≤ s) : wat ls n s = wat ls (n + 1) 0 := wat_congr ls _ _ _ _ fun j hj => by
 unfold cat1
 by_cases h1 : 0 < ls.getD j 0 ∧ (ls.getD j 0 < n ∨ (ls.getD j 0 = n ∧ j < s))
 ·rw [qah h1, qah (by omega)]
 ·rw [qag h1, qag (by omega)]
theorem wat_skip (ls : List Nat) (n s : Nat) (h : ls.getD s 0 ≠ n) : wat ls n (s + 1) = wat ls n s := wat_congr ls _ _ _ _ fun j hj => by
 unfold cat1
 by_cases e : j = s
 ·subst e
  by_cases h1 : 0 < ls.getD j 0 ∧ ls.getD j 0 < n
  ·rw [qah (by omega), qah (by omega)]
  ·rw [qag (by omega), qag (by omega)]
 ·by_cases h1 : 0 < ls.getD j 0 ∧ (ls.getD j 0 < n ∨ (ls.getD j 0 = n ∧ j < s))
  ·rw [qah h1, qah (by omega)]
  ·rw [qag h1, qag (by omega)]
theorem wat_set (ls : List Nat) (n s : Nat) (hs : s < ls.length) (h : ls.getD s 0 = n) (hn : 0 < n) : (wat ls n s).set s ((yb7 ls n s : Nat), (n : Nat)) = wat ls n (s + 1) := by
 apply qc4
 intro j
 by_cases hj : j < ls.length
 ·rw [List.getElem?_set, wat_get ls n (s + 1) j hj, yaS, wat_get ls n s j hj]
  by_cases e : s = j
  ·subst e
   rw [qah rfl, qah hs]
   unfold cat1
   rw [qah (by omega), h]
  ·rw [qag e]
   unfold cat1
   by_cases h1 : 0 < ls.getD j 0 ∧ (ls.getD j 0 < n ∨ (ls.getD j 0 = n ∧ j < s))
   ·rw [qah h1, qah (by omega)]
   ·rw [qag h1, qag (by omega)]
 ·rw [qbw (by rw [qbM, yaS]; omega), qbw (by rw [yaS]; omega)]
def cwordsF (l : List Int) : List (Int × Int) × Int := if ya3 l = 0 then (wat (l.map Int.toNat) 16 0, 0) else ([], ya3 l)
theorem pairs_set2 (k : IntKind) (a b : Int) : ∀ (L : List (Int × Int)) (s : Nat), s < L.length → ((ydT k L).set (s * 2) (.int k a)).set (s * 2 + 1) (.int k b) = ydT k (L.set s (a, b))
 | r :: t, 0, _ => rfl
 | r :: t, s + 1, h => by
  have ih := pairs_set2 k a b t s (by simpa using h)
  rw [show (s + 1) * 2 = s * 2 + 1 + 1 from by omega, ycm, qac, qac, qac, qac, ih, qac, ycm]
theorem pairs_zero (n : Nat) : madeCells #[.int .i64 0, .int .i64 0] (n * 2) = (ydT .i64 (List.replicate n (0, 0))).toArray := by
 have h : ydT .i64 (List.replicate n (0, 0)) = List.replicate (n * 2) (.int .i64 0) := by
  induction n with
  | zero => rfl
  | succ n ih =>
   rw [qby, ycm, ih, show (n + 1) * 2 = n * 2 + 1 + 1 from by omega, qby, qby]
 rw [h]
 apply Array.ext'
 apply qc4
 intro j
 by_cases hj : j < n * 2
 ·rcases Nat.mod_two_eq_zero_or_one j with e | e <;> simp [madeCells, hj, e]
 ·simp [madeCells, hj]
theorem field_info : (prog.info? 143).map (fun i => (i.zero, i.size, i.bytes)) = some (some (.agg #[.int .i64 0, .int .i64 0]), 2, 16) := by kernel_rfl
theorem mk_fields (n : Nat) (h : n ≤ 1000000) (w : World) : (Instr.makeSlice 137 (.int .i64 (n : Int)) (.int .i64 (n : Int))).run prog w = .ok (.slice (some ⟨w.heap.size, 0, none⟩) n n) (w.alloc (.cells (ydT .i64 (List.replicate n (0, 0))).toArray 143)) := by
 obtain ⟨i0, hi, hz0, hz1, hz2⟩ : ∃ i0, prog.info? 143 = some i0 ∧ i0.zero = some (.agg #[.int .i64 0, .int .i64 0]) ∧ i0.size = 2 ∧ i0.bytes = 16 := by
  have h := field_info
  cases hi : prog.info? 143 with
  | none => rw [hi] at h; cases h
  | some i0 =>
   rw [hi] at h
   simp only [qbN, qcg, qb3] at h
   exact ⟨i0, rfl, h.1, h.2.1, h.2.2⟩
 have hr := run_make (P := prog) w 137 143 i0 _ underlying137 hi hz0 .i64 .i64 n n (by omega) (qcw _) (by rw [hz2]; omega) (by omega)
 simp only [qav, hz1] at hr
 rw [hr]
 show Result.ok _ (w.alloc (.cells (madeCells #[.int .i64 0, .int .i64 0] (n * 2)) 143)) = _
 rw [pairs_zero]
theorem cpos_le {ls : List Nat} (n s : Nat) : cpos ls n s ≤ call ls := wsum_le ls 0 fun j hj hp => by
 simp only [qbH] at hp
 exact hp.1
theorem call_part : ∀ (l : List Int), call (l.map Int.toNat) = yaA l := by
 have h : ∀ (l : List Int) (i : Nat), wsum (fun _ x => decide (0 < x)) i (l.map Int.toNat) = yaA l := by
  intro l
  induction l with
  | nil => intro i; rfl
  | cons x t ih =>
   intro i
   show (if decide (0 < x.toNat) = true then 2 ^ (15 - x.toNat) else 0) + wsum _ (i + 1) (t.map Int.toNat) = (if 0 < x then 2 ^ (15 - x.toNat) else 0) + yaA t
   rw [ih (i + 1)]
   congr 1
   by_cases h : 0 < x
   ·rw [qah h, qah (by simp; omega)]
   ·rw [qag h, qag (by simp; omega)]
 exact fun l => h l 0
theorem ydi {l : List Int} (h : ya3 l = 0) : l.length ≤ 257 ∧ ydN l = true ∧ call (l.map Int.toNat) ≤ 32768 := by
 unfold ya3 at h
 by_cases h1 : 257 < l.length
 ·rw [qah h1] at h; cases h
 ·rw [qag h1] at h
  by_cases h2 : sumF l = 0 ∨ sumF l = 32768 ∨ ((ya1 l : Int) = 1 ∧ sumF l = 16384)
  ·unfold sumF at h2
   by_cases hg : ydN l = true
   ·rw [qah hg] at h2
    refine ⟨by omega, hg, ?_⟩
    rw [call_part]
    omega
   ·rw [qag hg] at h2
    omega
  ·rw [qag h2] at h; cases h
def bl (n : Nat) : Nat := Lib.bitLen n
theorem ydB : ∀ (f n : Nat), n ≠ 0 → n < 2 ^ f → f ≤ 64 → 1 ≤ bl n ∧ 2 ^ (bl n - 1) ≤ n ∧ n < 2 ^ bl n
 | 0, n, h0, h, _ => by simp at h; omega
 | f + 1, n, h0, h, hf => by
  have h64 : n < 2 ^ 64 := qaZ h (qaH (by omega) hf)
  have e : bl n = 1 + bl (n / 2) := Lib.bitLen_half n h0 h64
  by_cases h1 : n / 2 = 0
  ·have hb : bl (n / 2) = 0 := by rw [h1]; rfl
   rw [e, hb]
   simp
   omega
  ·obtain ⟨a, b, c⟩ := ydB f (n / 2) h1 (by rw [qaW] at h; omega) (by omega)
   rw [e]
   refine ⟨by omega, ?_, ?_⟩
   ·rw [show 1 + bl (n / 2) - 1 = bl (n / 2) - 1 + 1 from by omega, qaW]
    omega
   ·rw [qc9, qaW]
    omega
theorem bl_of {n k : Nat} (h1 : 2 ^ k ≤ n) (h2 : n < 2 ^ (k + 1)) (h : n < 4294967296) : bl n = k + 1 := by
 have hp : 0 < 2 ^ k := qbf (by omega)
 obtain ⟨a, b, c⟩ := ydB 32 n (by omega) (by rw [show (2 : Nat) ^ 32 = 4294967296 from by decide]; exact h) (by omega)
 rcases qc2 (bl n) (k + 1) with hlt | he | hgt
 ·have := qaH (n := 2) (by omega) (show bl n ≤ k by omega)
  omega
 ·exact he
 ·have := qaH (n := 2) (by omega) (show k + 1 ≤ bl n - 1 by omega)
  omega
theorem bl_le {n : Nat} (h0 : n ≠ 0) (h : n < 4294967296) : 1 ≤ bl n ∧ bl n ≤ 32 := by
 obtain ⟨a, b, c⟩ := ydB 32 n h0 (by rw [show (2 : Nat) ^ 32 = 4294967296 from by decide]; exact h) (by omega)
 refine ⟨a, Nat.le_of_not_lt fun hgt => ?_⟩
 have := qaH (n := 2) (by omega) (show 32 ≤ bl n - 1 by omega)
 rw [show (2 : Nat) ^ 32 = 4294967296 from by decide] at this
 omega
def hasG (n : Int) : Prop := 1 ≤ n ∧ n ≤ 4294967295
instance (n : Int) : Decidable (hasG n) := by unfold hasG; infer_instance
def gam (n : Nat) : List Nat := List.replicate (bl n - 1) 0 ++ dig (bl n) n
theorem gam_is {n k : Nat} (h1 : 2 ^ k ≤ n) (h2 : n < 2 ^ (k + 1)) (h : n < 4294967296) : gam n = List.replicate k 0 ++ dig (k + 1) n := by
 unfold gam
 rw [bl_of h1 h2 h, qbL]
theorem gam_bin (n : Nat) : Bin (gam n) := Bin.app (fun d hd => by rw [List.eq_of_mem_replicate hd]; omega) (ycw _ _)
def lz : List Nat → Nat
 | [] => 0
 | d :: t => if d = 0 then lz t + 1 else 0
theorem lz_le : ∀ l, lz l ≤ l.length
 | [] => qaf _
 | d :: t => by
  have := lz_le t
  unfold lz
  split <;> simp <;> omega
theorem yfC (k : Nat) (l : List Nat) : lz (List.replicate k 0 ++ l) = k + lz l := by
 induction k with
 | zero => simp
 | succ k ih => rw [qby, qbl, lz, qah rfl, ih]; omega
theorem lz_one (l : List Nat) : lz (1 :: l) = 0 := rfl
theorem lz_cut (l : List Nat) (k : Nat) (hk : k ≤ l.length) (h : l.take k = List.replicate k 0) : lz l = k + lz (l.drop k) := by
 have h1 := qax k l
 rw [h] at h1
 rw [← h1, yfC]
 congr 2
 rw [qbF (by simp)]
def ybp (l : List Nat) : Int × Nat × Int :=
 if lz l = l.length then (0, 0, 4) else if 32 ≤ lz l then (0, 0, 40) else if l.length < 2 * lz l + 1 then (0, 0, 4) else ((num ((l.drop (lz l)).take (lz l + 1)) : Int), 2 * lz l + 1, 0)
theorem yfS {k n : Nat} (h1 : 2 ^ k ≤ n) (h2 : n < 2 ^ (k + 1)) : dig (k + 1) n = 1 :: dig k n := by
 have h : n / 2 ^ k = 1 := Nat.div_eq_of_lt_le (by omega) (by rw [qaW] at h2; omega)
 rw [qc9, ycA 1 k, h]
 rfl
theorem ungam_gam (n : Nat) (l : List Nat) (h0 : n ≠ 0) (h : n < 4294967296) : ybp (gam n ++ l) = ((n : Int), 2 * (bl n - 1) + 1, 0) ∧ (gam n).length = 2 * (bl n - 1) + 1 := by
 obtain ⟨a, b, c⟩ := ydB 32 n h0 (by rw [show (2 : Nat) ^ 32 = 4294967296 from by decide]; exact h) (by omega)
 have hle := bl_le h0 h
 obtain ⟨k, hk⟩ : ∃ k, bl n = k + 1 := ⟨bl n - 1, by omega⟩
 rw [hk] at b c hle ⊢
 rw [qbL] at b ⊢
 have hg := gam_is b c h
 have htop := yfS b c
 have hlz : lz (gam n ++ l) = k := by rw [hg, htop, qak, yfC, qbl, lz_one]; rfl
 have hlen : (gam n).length = 2 * k + 1 := by rw [hg, qae, qaE, yab]; omega
 refine ⟨?_, hlen⟩
 unfold ybp
 rw [hlz, qae, hlen, qag (by omega), qag (by omega), qag (by omega), hg, qak, qbF (by simp), qbT (by rw [yab]), ydf, qc8 c]
def trb (x : Int) (c : Nat) : List Nat := digI x 4 ++ gam c
def tbP (x : Int) (c : Nat) : List Int → List Nat
 | [] => trb x c
 | y :: t => if y = x then tbP x (c + 1) t else trb x c ++ tbP y 1 t
def yaR : List Int → List Nat
 | [] => []
 | x :: t => tbP x 1 t
theorem tbP_run (x : Int) (t : List Int) : ∀ (d c : Nat), tbP x c (List.replicate d x ++ t) = tbP x (c + d) t
 | 0, c => rfl
 | d + 1, c => by
  rw [qby, qbl]
  show (if x = x then tbP x (c + 1) (List.replicate d x ++ t) else _) = _
  rw [qah rfl, tbP_run x t d (c + 1), show c + 1 + d = c + (d + 1) from by omega]
theorem tbP_stop (x : Int) (c : Nat) : ∀ t : List Int, t.head? ≠ some x → tbP x c t = trb x c ++ yaR t
 | [], _ => by simp [tbP, yaR]
 | y :: t, h => by
  show (if y = x then tbP x (c + 1) t else trb x c ++ tbP y 1 t) = _
  rw [qag (fun e => h (by rw [e]; rfl))]
  rfl
theorem tbits_run (x : Int) (d : Nat) (t : List Int) (hd : 0 < d) (h : t.head? ≠ some x) : yaR (List.replicate d x ++ t) = trb x d ++ yaR t := by
 obtain ⟨k, rfl⟩ : ∃ k, d = k + 1 := ⟨d - 1, by omega⟩
 rw [qby, qbl]
 show tbP x 1 (List.replicate k x ++ t) = _
 rw [tbP_run, tbP_stop x (1 + k) t h, qc9]
theorem ygJ (l : List Int) (x : Int) (i : Nat) : ∀ d, i + d ≤ l.length → (∀ j (hj : j < l.length), i ≤ j → j < i + d → l[j] = x) → l.drop i = List.replicate d x ++ l.drop (i + d)
 | 0, _, _ => rfl
 | d + 1, hk, h => by
  have ih := ygJ l x i d (by omega) fun j hj h1 h2 => h j hj h1 (by omega)
  rw [ih, qa6 (by omega : i + d < l.length), h (i + d) (by omega) (by omega) (by omega), qcz, qak]
  rfl
theorem tbits_at (l : List Int) (x : Int) (i k : Nat) (hi : i < k) (hk : k ≤ l.length) (h : ∀ j (hj : j < l.length), i ≤ j → j < k → l[j] = x) (hs : ∀ hj : k < l.length, l[k] ≠ x) : yaR (l.drop i) = trb x (k - i) ++ yaR (l.drop k) := by
 obtain ⟨d, rfl⟩ : ∃ d, k = i + d := ⟨k - i, by omega⟩
 rw [ygJ l x i d hk h, tbits_run x d _ (by omega), qbR]
 intro e
 rcases qbz (i + d) l.length with e2 | e2
 ·rw [qa6 e2, List.head?_cons] at e
  injection e with e
  exact hs e2 e
 ·rw [qaO e2] at e
  cases e
theorem trun_end (l : List Int) : ∀ (f i : Nat) (hi : i < l.length), l.length - i ≤ f → ∃ k, i < k ∧ k ≤ l.length ∧ (∀ j (hj : j < l.length), i ≤ j → j < k → l[j] = l[i]) ∧ ∀ hj : k < l.length, l[k] ≠ l[i]
 | 0, i, hi, hf => by omega
 | f + 1, i, hi, hf => by
  by_cases h : ∃ h2 : i + 1 < l.length, l[i + 1] = l[i]
  ·obtain ⟨h2, e⟩ := h
   obtain ⟨k, h3, h4, h5, h6⟩ := trun_end l f (i + 1) h2 (by omega)
   refine ⟨k, by omega, h4, fun j hj a b => ?_, fun hj => by rw [← e]; exact h6 hj⟩
   by_cases ej : j = i
   ·subst ej; rfl
   ·rw [h5 j hj (by omega) b, e]
  ·refine ⟨i + 1, by omega, by omega, fun j hj a b => ?_, fun hj e => h ⟨hj, e⟩⟩
   have : j = i := by omega
   subst this
   rfl
theorem gam_len (n : Nat) (h0 : n ≠ 0) (h : n < 4294967296) : (gam n).length ≤ 63 := by
 have h1 := (ungam_gam n [] h0 h).2
 have h2 := bl_le h0 h
 omega
theorem trb_bin (x : Int) (c : Nat) : Bin (trb x c) := (ycw _ _).app (gam_bin c)
theorem trb_len (x : Int) (c : Nat) (h0 : c ≠ 0) (h : c < 4294967296) : (trb x c).length ≤ 67 := by
 unfold trb digI
 rw [qae, yab]
 have := gam_len c h0 h
 show 4 + _ ≤ 67
 omega
theorem tbP_bin : ∀ (t : List Int) (x : Int) (c : Nat), Bin (tbP x c t)
 | [], x, c => trb_bin x c
 | y :: t, x, c => by
  show Bin (if y = x then tbP x (c + 1) t else trb x c ++ tbP y 1 t)
  by_cases e : y = x
  ·rw [qah e]; exact tbP_bin t x (c + 1)
  ·rw [qag e]; exact (trb_bin x c).app (tbP_bin t y 1)
theorem tbits_bin : ∀ l, Bin (yaR l)
 | [] => yeL
 | x :: t => tbP_bin t x 1
theorem tbP_len : ∀ (t : List Int) (x : Int) (c : Nat), 0 < c → c + t.length < 4294967296 → (tbP x c t).length ≤ 67 * (1 + t.length)
 | [], x, c, h0, h => by
  have := trb_len x c (by omega) (by simpa using h)
  show (trb x c).length ≤ 67 * (1 + 0)
  omega
 | y :: t, x, c, h0, h => by
  rw [qau] at h
  show (if y = x then tbP x (c + 1) t else trb x c ++ tbP y 1 t).length ≤ 67 * (1 + (t.length + 1))
  by_cases e : y = x
  ·rw [qah e]
   have := tbP_len t x (c + 1) (by omega) (by omega)
   omega
  ·rw [qag e, qae]
   have h1 := trb_len x c (by omega) (by omega)
   have h2 := tbP_len t y 1 (by omega) (by omega)
   omega
theorem tbits_len (l : List Int) (h : l.length < 4294967290) : (yaR l).length ≤ 67 * l.length := by
 cases l with
 | nil => exact qbE _
 | cons x t =>
  rw [qau] at h ⊢
  have := tbP_len t x 1 (by omega) (by omega)
  rw [qc9 t.length 1]
  exact this
def ycc (L : List Nat) (n : Nat) : Nat → Nat → Int → List Int → List Int × Nat × Int
 | 0, to, _, out => (out, to, 0)
 | f + 1, to, last, out =>
  if n ≤ out.length then (out, to, 0)
  else if (ybs L to 4).2 ≠ 0 then ([], to, (ybs L to 4).2)
  else if (ybp (L.drop (to + 4))).2.2 ≠ 0 then ([], to, (ybp (L.drop (to + 4))).2.2)
  else if (ybs L to 4).1 = last then ([], to, 5)
  else if (n : Int) - out.length < (ybp (L.drop (to + 4))).1 then ([], to, 40)
  else ycc L n f (to + 4 + (ybp (L.drop (to + 4))).2.1) (ybs L to 4).1 (out ++ List.replicate (ybp (L.drop (to + 4))).1.toNat (ybs L to 4).1)
def yb8 (L : List Nat) (p : Nat) (n : Int) : List Int × Nat × Int :=
 if n < 0 ∨ 257 < n then ([], p, 2)
 else if (ycc L n.toNat (n.toNat + 1) p (-1) []).2.2 ≠ 0 then ([], p, (ycc L n.toNat (n.toNat + 1) p (-1) []).2.2)
 else if ya3 (ycc L n.toNat (n.toNat + 1) p (-1) []).1 ≠ 0 then ([], p, ya3 (ycc L n.toNat (n.toNat + 1) p (-1) []).1)
 else ((ycc L n.toNat (n.toNat + 1) p (-1) []).1, (ycc L n.toNat (n.toNat + 1) p (-1) []).2.1, 0)
theorem ycq (L : List Nat) (n f to : Nat) (last : Int) (out : List Int) : ycc L n (f + 1) to last out =
  if n ≤ out.length then (out, to, 0)
  else if (ybs L to 4).2 ≠ 0 then ([], to, (ybs L to 4).2)
  else if (ybp (L.drop (to + 4))).2.2 ≠ 0 then ([], to, (ybp (L.drop (to + 4))).2.2)
  else if (ybs L to 4).1 = last then ([], to, 5)
  else if (n : Int) - out.length < (ybp (L.drop (to + 4))).1 then ([], to, 40)
  else ycc L n f (to + 4 + (ybp (L.drop (to + 4))).2.1) (ybs L to 4).1 (out ++ List.replicate (ybp (L.drop (to + 4))).1.toNat (ybs L to 4).1) := rfl
theorem lz_take : ∀ R : List Nat, R.take (lz R) = List.replicate (lz R) 0
 | [] => rfl
 | d :: t => by
  have ih := lz_take t
  by_cases h : d = 0
  ·subst h
   show (0 :: t).take (lz t + 1) = List.replicate (lz t + 1) 0
   rw [qaJ, qby, ih]
  ·have e : lz (d :: t) = 0 := by show (if d = 0 then lz t + 1 else 0) = 0; rw [qag h]
   rw [e]
   rfl
theorem lz_next : ∀ (R : List Nat) (z : Nat), lz R = z → ∀ h : z < R.length, R[z] ≠ 0
 | [], z, _, h => absurd h (by simp)
 | d :: t, z, e, h => by
  by_cases hd : d = 0
  ·subst hd
   have e2 : lz t + 1 = z := e
   subst e2
   have := lz_next t (lz t) rfl (by simpa using h)
   simpa using this
  ·have e2 : lz (d :: t) = 0 := by show (if d = 0 then lz t + 1 else 0) = 0; rw [qag hd]
   rw [e2] at e
   subst e
   simpa using hd
theorem ungam_take {R : List Nat} (hb : Bin R) (n : Int) (k : Nat) (h : ybp R = (n, k, 0)) : k ≤ R.length ∧ 1 ≤ n ∧ n < 4294967296 ∧ R.take k = gam n.toNat ∧ (gam n.toNat).length = k := by
 unfold ybp at h
 by_cases a1 : lz R = R.length
 ·rw [qah a1] at h; simp at h
 rw [qag a1] at h
 by_cases a2 : 32 ≤ lz R
 ·rw [qah a2] at h; simp at h
 rw [qag a2] at h
 by_cases a3 : R.length < 2 * lz R + 1
 ·rw [qah a3] at h; simp at h
 rw [qag a3] at h
 simp only [qb3, and_true] at h
 obtain ⟨hn, hk⟩ := h
 obtain ⟨z, hz⟩ : ∃ z, lz R = z := ⟨_, rfl⟩
 have hzt := lz_take R
 rw [hz] at hn hk a1 a2 a3 hzt
 have hlz := lz_le R
 rw [hz] at hlz
 have hone : R[z]'(by omega) = 1 := by
  have h1 := lz_next R z hz (by omega)
  have h2 := hb _ (qaq (by omega : z < R.length))
  omega
 have h1 : (R.drop z).take (z + 1) = 1 :: (R.drop (z + 1)).take z := by
  rw [qa6 (by omega), qaJ, hone]
 have hb2 : Bin ((R.drop (z + 1)).take z) := fun d hd => hb d (qbt (qaV hd))
 have hl2 : ((R.drop (z + 1)).take z).length = z := by rw [qao, qat]; omega
 have hv : num ((R.drop z).take (z + 1)) = 2 ^ z + num ((R.drop (z + 1)).take z) := by
  rw [h1]
  have := ycl [1] ((R.drop (z + 1)).take z)
  rw [hl2] at this
  rw [List.singleton_append] at this
  rw [this]
  show 1 * 2 ^ z + _ = _
  rw [Nat.one_mul]
 have hlt := ye3 hb2
 rw [hl2] at hlt
 obtain ⟨N, hN⟩ : ∃ N, num ((R.drop z).take (z + 1)) = N := ⟨_, rfl⟩
 rw [hN] at hn hv
 subst hn
 have hp : 0 < (2 : Nat) ^ z := qbf (by omega)
 have hz32 : (2 : Nat) ^ (z + 1) ≤ 2 ^ 32 := qaH (by omega) (by omega)
 have hps : (2 : Nat) ^ (z + 1) = 2 ^ z * 2 := qaW ..
 have h32 : (2 : Nat) ^ 32 = 4294967296 := by decide
 have hg := gam_is (n := N) (k := z) (by omega) (by omega) (by omega)
 rw [qav, hg]
 refine ⟨by omega, by omega, by omega, ?_, by rw [qae, qaE, yab]; omega⟩
 have hd := ydh (z + 1) ((R.drop z).take (z + 1)) (by rw [qao, qat]; omega) fun d hd => hb d (qbt (qaV hd))
 rw [hN] at hd
 rw [← hk, show 2 * z + 1 = z + (z + 1) from by omega, qco, hzt, hd]
theorem yaD (row : List Nat) (key : Nat → Nat) (A B : Option Addr) (n c m d : Nat) (w : World) (hn : row.length = n) (hm : n ≤ 1000001) (hkey : ∀ p ∈ row, key p ≤ 255) (hr : Reads w w.heap.size 1 A n (ints (splc row))) (hk : KRow w .u8 key B m row) :
  Calls prog 158 #[.slice A n c, .slice B m d] w fun e w' => ∃ g M, e = .returned (.slice (some ⟨g, 0, none⟩) n n) ∧ w.heap.size ≤ g ∧ (∀ p ∈ row, key p < M) ∧ Blk w' g 3 (ints (splc (bks key row M))).toArray ∧ Below w.heap.size w w' := by
 have hni : (n : Int) ≤ 1000001 := by omega
 have Hrow := qaa (ydn hn hr)
 have Hkey := qaa (hk.at fun p hp => qaG (hkey p hp) (by omega))
 have Hmx := qaa (bmax_le key row 255 hkey)
 have Hall := qaa (yf9 key row)
 have Hstep := qaa (bmax_step key row)
 have Hn := qaa hn
 have HB0 := qaa (qam w.heap.size w)
 have Hg0 : Hid (∀ W : World, Below w.heap.size w W → w.heap.size ≤ W.heap.size) := qaa fun W h => h.size
 clear hr hk hkey hn
 go_enter func158, ntmps158
 go_wp2
 go_loop [5, 18] (fun mx i => ∃ k : Nat, k ≤ n ∧ i = .int .i64 k ∧ mx = .int .u8 (bmax key row k : Nat)) (fun _ i => n - (intOf i).toNat)
 case atStart => exact ⟨0, by omega, rfl, rfl⟩
 case round =>
  obtain ⟨k, hk, rfl, rfl⟩ := hrel
  by_cases hlt : k < n
  ·have hki : (0 : Int) ≤ (k : Int) ∧ (k : Int) < (n : Int) := by omega
   have hkl : k < row.length := by rw [Hn.out]; exact hlt
   obtain ⟨b, off, rfl, hbl, x1⟩ := Hrow.out w HB0.out k hkl
   obtain ⟨hp, hx, _, b2, off2, rfl, hbl2, x2⟩ := Hkey.out w HB0.out k hkl
   have Hs := qaa (Hstep.out k hkl)
   generalize row[k] = p at *
   generalize key p = x at *
   generalize bmax key row k = mx at *
   have hpi : (0 : Int) ≤ (p : Int) ∧ (p : Int) < (m : Int) := by omega
   by_cases hgt : mx < x
   ·have hgi : (mx : Int) < (x : Int) := by omega
    go_wp2
    go_round
    case rel => exact ⟨k + 1, by omega, iv (by omega), iv (by rw [Hs.out]; omega)⟩
    case measure => simp only [intOf]; omega
   ·have hgi : ¬ (mx : Int) < (x : Int) := by omega
    go_wp2
    go_round
    case rel => exact ⟨k + 1, by omega, iv (by omega), iv (by rw [Hs.out]; omega)⟩
    case measure => simp only [intOf]; omega
  ·obtain rfl : k = n := by omega
   have hmx := Hmx.out k (by rw [Hn.out]; exact qaf _)
   have Hmxn : Hid (bmax key row row.length = bmax key row k) := qaa (by rw [Hn.out])
   generalize hMX : bmax key row k = mx at *
   have hmk := fun w => yc0 ((mx : Int) + 2) (mx + 2) (by omega) (by omega) w
   rw [← bn1_zero key row mx] at hmk
   have hmxi : (0 : Int) ≤ (mx : Int) ∧ (mx : Int) ≤ 255 := by omega
   have HB1 := qaa (Blk.new w 3 (ints (bn1 key row mx 0)).toArray)
   have HO1 := qaa ((qam w.heap.size w).alloc (qaf _) (.cells (ints (bn1 key row mx 0)).toArray 3))
   have hii : ¬ (k : Int) < (k : Int) := by omega
   generalize hg : w.heap.size = g at *
   go_wp2
   clear hmk
   go_loopw [35] (fun i wr => ∃ j : Nat, j ≤ k ∧ i = .int .i64 j ∧ Hid (Blk wr g 3 (ints (bn1 key row mx j)).toArray) ∧ Hid (Below g w wr)) (fun i _ => k - (intOf i).toNat)
   case atStart => exact ⟨0, by omega, rfl, HB1, HO1⟩
   case round =>
    obtain ⟨j, hj, rfl, HB, HO⟩ := hrel
    clear HB1 HO1
    by_cases hlt : j < k
    ·have hki : (0 : Int) ≤ (j : Int) ∧ (j : Int) < (k : Int) := by omega
     have hkl : j < row.length := by rw [Hn.out]; exact hlt
     obtain ⟨b, off, rfl, hbl, x1⟩ := Hrow.out wr HO.out j hkl
     obtain ⟨hp, hx, hxm, b2, off2, rfl, hbl2, x2⟩ := Hkey.out wr HO.out j hkl
     rw [Hmxn.out] at hxm
     have hlen : key row[j] + 1 < (bn1 key row mx j).length := by rw [bn1_len]; omega
     have x3 := yaJ HB.out (key row[j] + 1) hlen
     rw [bn1_get] at x3
     have x4 := HB.out.frozen (key row[j] + 1)
     have hc := qaG (ybX key row j (key row[j])) (bcnt_le key row (key row[j]))
     rw [Hn.out] at hc
     have Hs := qaa (bn1_step key row mx j hkl)
     have hgl := HB.out.lt
     clear hlen
     generalize bcnt key (row.take j) (key row[j]) = cc at *
     generalize hpp : row[j] = p at *
     generalize key p = x at *
     have hpi : (0 : Int) ≤ (p : Int) ∧ (p : Int) < (m : Int) := by omega
     have hci : (0 : Int) ≤ (cc : Int) ∧ (cc : Int) ≤ 1000001 := by omega
     have hxi : (0 : Int) ≤ (x : Int) ∧ (x : Int) ≤ (mx : Int) := by omega
     clear hpp
     go_wp2
     go_roundw
     case rel => exact ⟨j + 1, by omega, iv (by omega), qaa (by rw [← Hs.out, ← yaC]; exact HB.out.set_ (x + 1) _), qaa (HO.out.setCell (p := ⟨g, x + 1, none⟩) (qaf _) _)⟩
     case measure => simp only [intOf]; omega
    ·obtain rfl : j = k := by omega
     have hii : ¬ (j : Int) < (j : Int) := by omega
     have HB2 : Hid (Blk wr g 3 (ints (bn2 key row mx 0)).toArray) := qaa (by rw [← bn1_all, Hn.out]; exact HB.out)
     have HO2 := qaa HO.out
     clear HB HO
     go_wp2
     go_loopw [53] (fun i W => ∃ q : Nat, q ≤ mx ∧ i = .int .i64 q ∧ Hid (Blk W g 3 (ints (bn2 key row mx q)).toArray) ∧ Hid (Below g w W)) (fun i _ => mx - (intOf i).toNat)
     case atStart => exact ⟨0, by omega, rfl, HB2, HO2⟩
     case round =>
      obtain ⟨q, hq, rfl, HB, HO⟩ := hrel
      clear HB2 HO2
      by_cases hlt : q < mx
      ·have hki : (0 : Int) ≤ (q : Int) ∧ (q : Int) < (mx : Int) := by omega
       have x1 := yaJ HB.out (q + 1) (by rw [bn2_len]; omega)
       have x2 := yaJ HB.out q (by rw [bn2_len]; omega)
       rw [bn2_get1] at x1
       rw [bn2_get0] at x2
       have x4 := HB.out.frozen (q + 1)
       have hc := bcnt_le key row q
       have hc2 := bsum_le key row q
       rw [Hn.out] at hc hc2
       have Hs := qaa (bn2_step key row mx q)
       have hgl := HB.out.lt
       generalize bcnt key row q = cc at *
       generalize bsum key row q = cs at *
       have hci : (0 : Int) ≤ (cc : Int) ∧ (cc : Int) ≤ 1000001 ∧ (0 : Int) ≤ (cs : Int) ∧ (cs : Int) ≤ 1000001 := by omega
       go_wp2
       have hw1 : IntKind.i64.wrap ((q : Int) + 1) = (q : Int) + 1 := by rw [qai]; omega
       have hw2 : IntKind.i64.wrap ((cc : Int) + (cs : Int)) = (cc : Int) + (cs : Int) := by rw [qai]; omega
       have hb1 : 0 ≤ (q : Int) + 1 ∧ (q : Int) + 1 < (mx : Int) + 2 := by omega
       have hb0 : 0 ≤ (q : Int) ∧ (q : Int) < (mx : Int) + 2 := by omega
       refine qb1 11 (by kernel_rfl) (by kernel_rfl) ?_
       simp only [qaJ, qbb, qbn, qb9]
       change wpStill _ _ (World.drew _) (fun a' => wpList _ _ _ _ a' (World.drew _)) _ _
       repeat still_step
       refine qcv ?_
       go_wp2
       go_roundw
       case rel => exact ⟨q + 1, by omega, iv (by omega), qaa (by rw [← Hs.out, ← yaC]; exact HB.out.drew.set_ (q + 1) _), qaa (HO.out.drew.setCell (p := ⟨g, q + 1, none⟩) (qaf _) _)⟩
       case measure => simp only [intOf]; omega
      ·obtain rfl : q = mx := by omega
       have hii2 : ¬ (q : Int) < (q : Int) := by omega
       have HB3 : Hid (Blk wr g 3 (ints (bn3 key row q 0)).toArray) := qaa (by rw [← bn2_all]; exact HB.out)
       have HO3 := qaa HO.out
       have hmk2 := fun w => yc0 (j : Int) j rfl (by omega) w
       have e2 : List.replicate j 0 = bmid key row 0 (q + 1) := by
        rw [yg3, ydr key row (q + 1) (fun p hp => by have := Hall.out p hp; rw [Hmxn.out] at this; exact this), Hn.out]
       rw [e2] at hmk2
       clear HB HO
       have hgl := HB3.out.lt
       have HN := qaa (Blk.new wr 3 (ints (bmid key row 0 (q + 1))).toArray)
       have HB4 := qaa (HB3.out.alloc (.cells (ints (bmid key row 0 (q + 1))).toArray 3))
       have HO4 := qaa (HO3.out.alloc (Nat.le_of_lt hgl) (.cells (ints (bmid key row 0 (q + 1))).toArray 3))
       generalize hg2 : wr.heap.size = g2 at *
       clear HB3 HO3
       go_wp2
       clear hmk2 e2
       go_loopw [73] (fun i V => ∃ u : Nat, u ≤ j ∧ i = .int .i64 u ∧ Hid (Blk V g 3 (ints (bn3 key row q u)).toArray) ∧ Hid (Blk V g2 3 (ints (bmid key row u (q + 1))).toArray) ∧ Hid (Below g w V)) (fun i _ => j - (intOf i).toNat)
       case atStart => exact ⟨0, by omega, rfl, HB4, HN, HO4⟩
       case round =>
        obtain ⟨u, hu, rfl, HB, HC, HO⟩ := hrel
        clear HB4 HN HO4
        by_cases hlt : u < j
        ·have hki : (0 : Int) ≤ (u : Int) ∧ (u : Int) < (j : Int) := by omega
         have hkl : u < row.length := by rw [Hn.out]; exact hlt
         obtain ⟨b, off, rfl, hbl, x1⟩ := Hrow.out _ HO.out u hkl
         obtain ⟨hp, hx, hxm, b2, off2, rfl, hbl2, x2⟩ := Hkey.out _ HO.out u hkl
         rw [Hmxn.out] at hxm
         have hpl := bplace_lt key row u hkl
         rw [Hn.out] at hpl
         have x3 := yaJ HB.out (key row[u]) (by rw [bn3_len]; omega)
         rw [bn3_get key row q u _ hxm] at x3
         have x4 := HB.out.frozen (key row[u])
         have hml : (bmid key row u (q + 1)).length = j := by
          rw [yf8, ydr key row (q + 1) (fun p hp => by have := Hall.out p hp; rw [Hmxn.out] at this; exact this), Hn.out]
         have x5 := yaJ HC.out (bsum key row (key row[u]) + bcnt key (row.take u) (key row[u])) (by rw [hml]; exact hpl)
         have x6 := HC.out.frozen (bsum key row (key row[u]) + bcnt key (row.take u) (key row[u]))
         have Hs := qaa (bn3_step key row q u hkl hxm)
         have Hs2 := qaa (ygt key row u hkl (q + 1) (by omega))
         have hgl := HB.out.lt
         have hgl2 := HC.out.lt
         generalize (bmid key row u (q + 1))[bsum key row (key row[u]) + bcnt key (row.take u) (key row[u])]'(by rw [hml]; exact hpl) = vv at x5
         generalize bsum key row (key row[u]) + bcnt key (row.take u) (key row[u]) = at_ at *
         generalize hpp : row[u] = p at *
         generalize key p = x at *
         have hpi : (0 : Int) ≤ (p : Int) ∧ (p : Int) < (m : Int) := by omega
         have hci : (0 : Int) ≤ (at_ : Int) ∧ (at_ : Int) < (j : Int) := by omega
         have hxi : (0 : Int) ≤ (x : Int) ∧ (x : Int) ≤ (q : Int) := by omega
         have hne : g ≠ g2 := by omega
         have hne2 : g2 ≠ g := by omega
         clear hpp hml
         go_wp2
         go_roundw
         case rel => exact ⟨u + 1, by omega, iv (by omega), qaa (by rw [← Hs.out, ← yaC]; exact (HB.out.far (p := ⟨g2, at_, none⟩) hne _).set_ x _), qaa (by rw [← Hs2.out, ← yaC]; exact (HC.out.set_ at_ _).far (p := ⟨g, x, none⟩) hne2 _), qaa ((HO.out.setCell (p := ⟨g2, at_, none⟩) (by show g ≤ g2; omega) _).setCell (p := ⟨g, x, none⟩) (qaf _) _)⟩
         case measure => simp only [intOf]; omega
        ·obtain rfl : u = j := by omega
         have hii3 : ¬ (u : Int) < (u : Int) := by omega
         have HF : Hid (Blk wr g2 3 (ints (splc (bks key row (q + 1)))).toArray) := qaa (by rw [← bmid_all, Hn.out]; exact HC.out)
         have HM : Hid (∀ p ∈ row, key p < q + 1) := qaa fun p hp => by have := Hall.out p hp; rw [Hmxn.out] at this; exact this
         have Hgg : Hid (g ≤ g2) := qaa (by omega)
         clear HB HC
         go_wp2
         go_ret
         first | exact ⟨g2, rfl, Hgg.out, q + 1, HM.out, HF.out, HO.out⟩ | exact ⟨g2, q + 1, rfl, Hgg.out, HM.out, HF.out, HO.out⟩
end Go.Proofs.YtanjhbkbpalnaaaGreat
