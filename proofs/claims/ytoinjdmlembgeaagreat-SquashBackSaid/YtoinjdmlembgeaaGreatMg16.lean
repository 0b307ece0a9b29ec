/-
 What the law of the last of these texts stands on, part 16.
-/
import Derived.Test.YtoinjdmlembgeaaGreatMg13
import Derived.OrdersHeld
namespace Go.Proofs.YtoinjdmlembgeaaGreat
set_option linter.unusedSimpArgs false
set_option linter.unusedVariables false
open Go.ChangeShapes Go.WideShapes Go.ChangeAt Go.RowKit Go.Joins Go.Deep
def zd (n : Nat) : List Int := if h : n = 0 then [] else (((n - 1) % 2 : Nat) : Int) :: zd ((n - 1) / 2)
termination_by n
decreasing_by omega
def zv : List Int → Nat
 | [] => 0
 | s :: t => s.toNat + 1 + 2 * zv t
def ya5 (top : Int) (l : List Int) : Bool := l.all fun k => decide (0 ≤ k) && decide (k ≤ top)
def zpk (r : Nat) : List Int → List Int
 | [] => zd r
 | x :: t => if x = 0 then zpk (r + 1) t else zd r ++ (x + 1) :: zpk 0 t
def zun (d : List Int) : List Int → List Int
 | [] => List.replicate (zv d) 0
 | s :: t => if 0 ≤ s ∧ s ≤ 1 then zun (d ++ [s]) t else List.replicate (zv d) 0 ++ (s - 1) :: zun [] t
def zct (d : List Int) : List Int → Nat
 | [] => zv d
 | s :: t => if 0 ≤ s ∧ s ≤ 1 then zct (d ++ [s]) t else zv d + (if 2 ≤ s ∧ s ≤ 256 then 1 else 0) + zct [] t
def ybd (l : List Int) : Nat := min (zct [] l) 100001
def ybp (l : List Int) : List Int × Int := if ya5 255 l = true then (zpk 0 l, 0) else ([], 60)
def zunF (l : List Int) (most : Int) : List Int × Int :=
 if ya5 256 l = true then (if (ybd l : Int) > most ∨ (ybd l : Int) > 100000 then ([], 3) else (zun [] l, 0)) else ([], 70)
theorem ybk : zd 0 = [] := by unfold zd; simp
theorem ygD (n : Nat) (h : n ≠ 0) : zd n = (((n - 1) % 2 : Nat) : Int) :: zd ((n - 1) / 2) := by
 conv => lhs; unfold zd
 rw [dif_neg h]
theorem yaP (top s : Int) (t : List Int) : ya5 top (s :: t) = true ↔ (0 ≤ s ∧ s ≤ top) ∧ ya5 top t = true := by simp [ya5]
theorem yeP (top : Int) (a b : List Int) : ya5 top (a ++ b) = true ↔ ya5 top a = true ∧ ya5 top b = true := by simp [ya5, List.all_append]
theorem yaZ {top : Int} {l : List Int} (h : ya5 top l = true) (i : Nat) (hi : i < l.length) : 0 ≤ l[i] ∧ l[i] ≤ top := by
 unfold ya5 at h
 rw [List.all_eq_true] at h
 have := h l[i] (List.getElem_mem hi)
 simpa using this
theorem yeD {top : Int} {l : List Int} (h : ∀ i (hi : i < l.length), 0 ≤ l[i] ∧ l[i] ≤ top) : ya5 top l = true := by
 unfold ya5
 rw [List.all_eq_true]
 intro x hx
 obtain ⟨i, hi, rfl⟩ := List.getElem_of_mem hx
 simpa using h i hi
theorem zgood_bad {top : Int} {l : List Int} (i : Nat) (hi : i < l.length) (hb : ¬(0 ≤ l[i] ∧ l[i] ≤ top)) : ya5 top l = false := by
 cases h : ya5 top l with
 | false => rfl
 | true => exact absurd (yaZ h i hi) hb
theorem ycs (n : Nat) : ya5 1 (zd n) = true := by
 induction n using Nat.strongRecOn with
 | _ n ih =>
  by_cases h : n = 0
  ·subst h; rw [ybk]; rfl
  ·rw [ygD n h, yaP]
   exact ⟨by omega, ih _ (by omega)⟩
theorem zv_zd (n : Nat) : zv (zd n) = n := by
 induction n using Nat.strongRecOn with
 | _ n ih =>
  by_cases h : n = 0
  ·subst h; rw [ybk]; rfl
  ·rw [ygD n h]
   unfold zv
   rw [ih _ (by omega)]
   omega
theorem zpk_run : ∀ (r : Nat) (p t : List Int), (∀ x ∈ p, x = 0) → zpk r (p ++ t) = zpk (r + p.length) t
 | r, [], t, _ => rfl
 | r, x :: p, t, h => by
  have h0 := h x (List.mem_cons_self ..)
  have ih := zpk_run (r + 1) p t fun y hy => h y (List.mem_cons_of_mem _ hy)
  show zpk r (x :: (p ++ t)) = _
  conv => lhs; unfold zpk
  rw [if_pos h0, ih, List.length_cons, show r + 1 + p.length = r + (p.length + 1) from by omega]
theorem zpk_end (r : Nat) (t : List Int) (h : ∀ x s, t = x :: s → x ≠ 0) : zpk r t = zd r ++ zpk 0 t := by
 cases t with
 | nil => simp [zpk, ybk]
 | cons x s =>
  have := h x s rfl
  unfold zpk
  rw [if_neg this, if_neg this, ybk]
  rfl
theorem ydz (x : Int) (t : List Int) (h : x ≠ 0) : zpk 0 (x :: t) = (x + 1) :: zpk 0 t := by
 conv => lhs; unfold zpk
 rw [if_neg h, ybk]
 rfl
theorem zun_run : ∀ (d p t : List Int), ya5 1 p = true → zun d (p ++ t) = zun (d ++ p) t
 | d, [], t, _ => by rw [List.append_nil]; rfl
 | d, s :: p, t, h => by
  rw [yaP] at h
  have ih := zun_run (d ++ [s]) p t h.2
  show zun d (s :: (p ++ t)) = _
  conv => lhs; unfold zun
  rw [if_pos h.1, ih, List.append_assoc]
  rfl
theorem zun_end (d t : List Int) (h : ∀ s u, t = s :: u → ¬(0 ≤ s ∧ s ≤ 1)) : zun d t = List.replicate (zv d) 0 ++ zun [] t := by
 cases t with
 | nil => simp [zun, zv]
 | cons s u =>
  have := h s u rfl
  unfold zun
  rw [if_neg this, if_neg this]
  simp [zv]
theorem zun_cons (s : Int) (t : List Int) (h : ¬(0 ≤ s ∧ s ≤ 1)) : zun [] (s :: t) = (s - 1) :: zun [] t := by
 conv => lhs; unfold zun
 rw [if_neg h]
 simp [zv]
theorem zct_run : ∀ (d p t : List Int), ya5 1 p = true → zct d (p ++ t) = zct (d ++ p) t
 | d, [], t, _ => by rw [List.append_nil]; rfl
 | d, s :: p, t, h => by
  rw [yaP] at h
  have ih := zct_run (d ++ [s]) p t h.2
  show zct d (s :: (p ++ t)) = _
  conv => lhs; unfold zct
  rw [if_pos h.1, ih, List.append_assoc]
  rfl
theorem zct_end (d t : List Int) (h : ∀ s u, t = s :: u → ¬(0 ≤ s ∧ s ≤ 1)) : zct d t = zv d + zct [] t := by
 cases t with
 | nil => simp [zct, zv]
 | cons s u =>
  have := h s u rfl
  unfold zct
  rw [if_neg this, if_neg this]
  simp only [zv]
  omega
theorem zct_cons (s : Int) (t : List Int) (h : ¬(0 ≤ s ∧ s ≤ 1)) : zct [] (s :: t) = (if 2 ≤ s ∧ s ≤ 256 then 1 else 0) + zct [] t := by
 conv => lhs; unfold zct
 rw [if_neg h]
 simp only [zv]
 omega
theorem zun_len : ∀ (l d : List Int), ya5 256 l = true → (zun d l).length = zct d l
 | [], d, _ => by simp [zun, zct]
 | s :: t, d, h => by
  rw [yaP] at h
  unfold zun zct
  by_cases h1 : 0 ≤ s ∧ s ≤ 1
  ·rw [if_pos h1, if_pos h1, zun_len t _ h.2]
  ·rw [if_neg h1, if_neg h1, if_pos (by omega), List.length_append, List.length_cons, List.length_replicate, zun_len t _ h.2]
   omega
theorem zun_zpk : ∀ (l : List Int) (r : Nat), ya5 255 l = true → zun [] (zpk r l) = List.replicate r 0 ++ l
 | [], r, _ => by
  have h := zun_run [] (zd r) [] (ycs r)
  rw [List.append_nil, List.nil_append] at h
  unfold zpk
  rw [h]
  unfold zun
  rw [zv_zd, List.append_nil]
 | x :: t, r, h => by
  rw [yaP] at h
  unfold zpk
  by_cases h0 : x = 0
  ·rw [if_pos h0, zun_zpk t (r + 1) h.2, h0, List.replicate_succ', List.append_assoc]
   rfl
  ·rw [if_neg h0, zun_run [] (zd r) _ (ycs r), List.nil_append]
   conv => lhs; unfold zun
   rw [if_neg (by omega), zv_zd, zun_zpk t 0 h.2]
   simp
theorem ygj : ∀ (l : List Int) (r : Nat), ya5 255 l = true → ya5 256 (zpk r l) = true
 | [], r, _ => by
  unfold zpk
  exact yeD fun i hi => by have := yaZ (ycs r) i hi; omega
 | x :: t, r, h => by
  rw [yaP] at h
  unfold zpk
  by_cases h0 : x = 0
  ·rw [if_pos h0]; exact ygj t _ h.2
  ·rw [if_neg h0, yeP, yaP]
   exact ⟨yeD fun i hi => by have := yaZ (ycs r) i hi; omega, by omega, ygj t 0 h.2⟩
theorem zun_good : ∀ (l d : List Int), ya5 256 l = true → ya5 255 (zun d l) = true
 | [], d, _ => by
  unfold zun
  exact yeD fun i hi => by simp
 | s :: t, d, h => by
  rw [yaP] at h
  unfold zun
  by_cases h1 : 0 ≤ s ∧ s ≤ 1
  ·rw [if_pos h1]; exact zun_good t _ h.2
  ·rw [if_neg h1, yeP, yaP]
   exact ⟨yeD fun i hi => by simp, by omega, zun_good t [] h.2⟩
theorem zd_len (n : Nat) : (zd n).length ≤ n := by
 induction n using Nat.strongRecOn with
 | _ n ih =>
  by_cases h : n = 0
  ·subst h; rw [ybk]; simp
  ·rw [ygD n h, List.length_cons]
   have := ih ((n - 1) / 2) (by omega)
   omega
theorem yfi : ∀ (l : List Int) (r : Nat), (zpk r l).length ≤ r + l.length
 | [], r => by unfold zpk; have := zd_len r; simp; omega
 | x :: t, r => by
  unfold zpk
  by_cases h0 : x = 0
  ·rw [if_pos h0]; have := yfi t (r + 1); rw [List.length_cons]; omega
  ·rw [if_neg h0, List.length_append, List.length_cons, List.length_cons]
   have := yfi t 0
   have := zd_len r
   omega
theorem zback (l : List Int) (hl : l.length ≤ 100000) (h : ya5 255 l = true) : zunF (zpk 0 l) l.length = (l, 0) ∧ ybd (zpk 0 l) = l.length ∧ (zpk 0 l).length ≤ l.length := by
 have hu := zun_zpk l 0 h
 have hg := ygj l 0 h
 have hc : ybd (zpk 0 l) = l.length := by
  unfold ybd
  rw [← zun_len _ _ hg, hu]
  simp
  omega
 refine ⟨?_, hc, by have := yfi l 0; omega⟩
 unfold zunF
 rw [if_pos hg, hc, if_neg (by omega), hu]
 rfl
def zlog (m : Nat) : Nat := if h : m ≤ 1 then 0 else zlog (m / 2) + 1
termination_by m
decreasing_by omega
theorem zlog_one (m : Nat) (h : m ≤ 1) : zlog m = 0 := by unfold zlog; rw [dif_pos h]
theorem zlog_more (m : Nat) (h : 1 < m) : zlog m = zlog (m / 2) + 1 := by
 conv => lhs; unfold zlog
 rw [dif_neg (by omega)]
theorem zd_log (n : Nat) : (zd n).length = zlog (n + 1) := by
 induction n using Nat.strongRecOn with
 | _ n ih =>
  by_cases h : n = 0
  ·subst h; rw [ybk, zlog_one 1 (by omega)]; rfl
  ·rw [ygD n h, List.length_cons, ih _ (by omega), zlog_more (n + 1) (by omega)]
   congr 2
   omega
theorem zlog_lt : ∀ (k m : Nat), m < 2 ^ (k + 1) → zlog m ≤ k
 | 0, m, h => by rw [zlog_one m (by simp at h; omega)]; omega
 | k + 1, m, h => by
  by_cases h1 : m ≤ 1
  ·rw [zlog_one m h1]; omega
  ·rw [zlog_more m (by omega)]
   have := zlog_lt k (m / 2) (by rw [Nat.pow_succ] at h; omega)
   omega
theorem yes (n : Nat) : zpk 0 (List.replicate n 0) = zd n := by
 have := zpk_run 0 (List.replicate n 0) [] (fun x hx => (List.mem_replicate.1 hx).2)
 rw [List.append_nil, List.length_replicate, Nat.zero_add] at this
 rw [this]
 rfl
def v15 (R : List Nat) : Nat := num ((R ++ List.replicate 15 0).take 15)
theorem bin_zeros (n : Nat) : Bin (List.replicate n 0) := fun d hd => by rw [List.eq_of_mem_replicate hd]; omega
theorem v15_bin {R : List Nat} (hb : Bin R) : Bin ((R ++ List.replicate 15 0).take 15) := fun d hd => (hb.app (bin_zeros 15)) d (List.mem_of_mem_take hd)
theorem v15_lt {R : List Nat} (hb : Bin R) : v15 R < 32768 := by
 have h := ydV (v15_bin hb)
 have hl : ((R ++ List.replicate 15 0).take 15).length = 15 := by simp
 rw [hl] at h
 exact h
theorem yd2 {R : List Nat} (hb : Bin R) (n : Nat) (hn : n ≤ 15) (hl : n ≤ R.length) : num (R.take n) = v15 R / 2 ^ (15 - n) := by
 have e : (R ++ List.replicate 15 0).take 15 = R.take n ++ ((R ++ List.replicate 15 0).drop n).take (15 - n) := by
  conv => lhs; rw [show 15 = n + (15 - n) from by omega]
  rw [List.take_add, List.take_append_of_le_length hl, show n + (15 - n) = 15 from by omega]
 have hr : Bin (((R ++ List.replicate 15 0).drop n).take (15 - n)) := fun d hd => (hb.app (bin_zeros 15)) d (List.mem_of_mem_drop (List.mem_of_mem_take hd))
 have hrl : (((R ++ List.replicate 15 0).drop n).take (15 - n)).length = 15 - n := by simp; omega
 have h1 := ydV hr
 rw [hrl] at h1
 unfold v15
 rw [e, ybP, hrl, Nat.mul_comm, Nat.mul_add_div (Nat.pow_pos (by omega)), Nat.div_eq_of_lt h1, Nat.add_zero]
theorem part_of {v D x : Nat} (h : 0 < D) : v / D = x ↔ x * D ≤ v ∧ v < x * D + D := by
 constructor
 ·intro e
  subst e
  have h1 := Nat.div_add_mod v D
  have h2 := Nat.mod_lt v h
  rw [Nat.mul_comm] at h1
  omega
 ·intro e
  exact Nat.div_eq_of_lt_le e.1 (by rw [Nat.add_mul, Nat.one_mul]; exact e.2)
theorem yeQ : ∀ (R d : List Nat), (begF R d).2 = true ↔ d.length ≤ R.length ∧ R.take d.length = d
 | R, [] => by cases R <;> simp [begF]
 | [], _ :: _ => by simp [begF]
 | a :: t, b :: u => by
  unfold begF
  by_cases e : a = b
  ·rw [if_pos e, yeQ t u]
   subst e
   simp
  ·rw [if_neg e]
   simp [e]
theorem ygT : ∀ (R d : List Nat), (begF R d).1 = true ↔ R.take d.length = d.take R.length
 | R, [] => by cases R <;> simp [begF]
 | [], _ :: _ => by simp [begF]
 | a :: t, b :: u => by
  unfold begF
  by_cases e : a = b
  ·rw [if_pos e, ygT t u]
   subst e
   simp
  ·rw [if_neg e]
   simp [e]
theorem begF_word {R : List Nat} (hb : Bin R) (n x : Nat) (hn : n ≤ 15) (hx : x < 2 ^ n) : (begF R (dig n x)).2 = true ↔ n ≤ R.length ∧ x * 2 ^ (15 - n) ≤ v15 R ∧ v15 R < x * 2 ^ (15 - n) + 2 ^ (15 - n) := by
 rw [yeQ, yad]
 have hD : 0 < (2 : Nat) ^ (15 - n) := Nat.pow_pos (by omega)
 constructor
 ·rintro ⟨hl, e⟩
  refine ⟨hl, (part_of hD).1 ?_⟩
  rw [← yd2 hb n hn hl, e, ycK, Nat.mod_eq_of_lt hx]
 ·rintro ⟨hl, e⟩
  refine ⟨hl, ?_⟩
  have h1 := (part_of hD).2 e
  rw [← yd2 hb n hn hl] at h1
  have h2 := yd8 n (R.take n) (by simp; omega) fun d hd => hb d (List.mem_of_mem_take hd)
  rw [← h2, h1]
theorem begF_part {R : List Nat} (hb : Bin R) (n x : Nat) (hn : n ≤ 15) (hl : R.length < n) (e : x * 2 ^ (15 - n) ≤ v15 R ∧ v15 R < x * 2 ^ (15 - n) + 2 ^ (15 - n)) : (begF R (dig n x)).1 = true := by
 rw [ygT, yad, List.take_of_length_le (by omega)]
 have hD : 0 < (2 : Nat) ^ (15 - n) := Nat.pow_pos (by omega)
 have h1 := (part_of hD).2 e
 have h2 := yd2 hb R.length (by omega) (Nat.le_refl _)
 rw [List.take_of_length_le (Nat.le_refl _)] at h2
 have h3 : x / 2 ^ (n - R.length) = num R := by
  rw [← h1, h2, Nat.div_div_eq_div_mul, ← Nat.pow_add, show 15 - n + (n - R.length) = 15 - R.length from by omega]
 have h4 := ycu R.length (n - R.length) x
 rw [show R.length + (n - R.length) = n from by omega, h3, dig_num hb] at h4
 rw [h4, List.take_append_of_le_length (Nat.le_refl _), List.take_of_length_le (Nat.le_refl _)]
theorem cget1_hit (R : List Nat) (E : Int) : ∀ (ws : List (Int × Int)) (s k : Nat) (E : Int) (hk : k < ws.length), (∀ j (hj : j < ws.length), j < k → ws[j].2 = 0 ∨ (begF R (digI ws[j].1 ws[j].2)).2 = false) → ws[k].2 ≠ 0 → (begF R (digI ws[k].1 ws[k].2)).2 = true → ybs ws s R E = (((s + k : Nat) : Int), ((digI ws[k].1 ws[k].2).length : Int), 0)
 | f :: t, s, 0, E, hk, _, h1, h2 => by
  unfold ybs
  simp only [List.getElem_cons_zero] at h1 h2 ⊢
  rw [if_neg h1, if_pos h2]
  rfl
 | f :: t, s, k + 1, E, hk, h0, h1, h2 => by
  have hf := h0 0 (by simp) (by omega)
  simp only [List.getElem_cons_zero] at hf
  have ih := fun E => cget1_hit R E t (s + 1) k E (by simpa using hk) (fun j hj hjk => by
   have := h0 (j + 1) (by simpa using hj) (by omega)
   simpa only [List.getElem_cons_succ] using this) (by simpa only [List.getElem_cons_succ] using h1) (by simpa only [List.getElem_cons_succ] using h2)
  simp only [List.getElem_cons_succ]
  unfold ybs
  by_cases hz : f.2 = 0
  ·rw [if_pos hz, ih, show s + 1 + k = s + (k + 1) from by omega]
  ·rcases hf with hf | hf
   ·exact absurd hf hz
   ·rw [if_neg hz, if_neg (by rw [hf]; decide), ih, show s + 1 + k = s + (k + 1) from by omega]
theorem yel (R : List Nat) : ∀ (ws : List (Int × Int)) (s : Nat) (E : Int), (∀ j (hj : j < ws.length), ws[j].2 = 0 ∨ (begF R (digI ws[j].1 ws[j].2)).2 = false) → (E = 4 ∨ ∃ j, ∃ hj : j < ws.length, ws[j].2 ≠ 0 ∧ (begF R (digI ws[j].1 ws[j].2)).1 = true) → ybs ws s R E = (0, 0, 4)
 | [], s, E, _, h => by
  rcases h with rfl | ⟨j, hj, _⟩
  ·rfl
  ·exact absurd hj (by simp)
 | f :: t, s, E, h0, h => by
  have hf := h0 0 (by simp)
  simp only [List.getElem_cons_zero] at hf
  have ih := fun E => yel R t (s + 1) E (fun j hj => by
   have := h0 (j + 1) (by simpa using hj)
   simpa only [List.getElem_cons_succ] using this)
  have hrest : E = 4 ∨ (f.2 ≠ 0 ∧ (begF R (digI f.1 f.2)).1 = true) ∨ ∃ j, ∃ hj : j < t.length, t[j].2 ≠ 0 ∧ (begF R (digI t[j].1 t[j].2)).1 = true := by
   rcases h with h | ⟨j, hj, h1, h2⟩
   ·exact Or.inl h
   ·cases j with
    | zero => exact Or.inr (Or.inl ⟨by simpa only [List.getElem_cons_zero] using h1, by simpa only [List.getElem_cons_zero] using h2⟩)
    | succ j => exact Or.inr (Or.inr ⟨j, by simpa using hj, by simpa only [List.getElem_cons_succ] using h1, by simpa only [List.getElem_cons_succ] using h2⟩)
  unfold ybs
  by_cases hz : f.2 = 0
  ·rw [if_pos hz]
   refine ih E ?_
   rcases hrest with h | h | h
   ·exact Or.inl h
   ·exact absurd hz h.1
   ·exact Or.inr h
  ·rcases hf with hf | hf
   ·exact absurd hf hz
   ·rw [if_neg hz, if_neg (by rw [hf]; decide)]
    refine ih _ ?_
    rcases hrest with h | h | h
    ·left; split <;> simp [h]
    ·left; rw [if_pos h.2]
    ·exact Or.inr h
theorem str_from (l : List UInt8) (p : Nat) (hp : p ≤ l.length) (w : World) :
  (Instr.slice 9 (.string ⟨l.toArray⟩) (some (.int .i64 (p : Int))) none none).run Tryz.prog w = .ok (.string ⟨(l.drop p).toArray⟩) w := by
 rw [run_slice_string_l w 9 ⟨l.toArray⟩ Tryz.underlying9 .i64 (p : Int) (by omega) (by rw [ByteArray.size_mk', List.size_toArray]; omega), ByteArray.extract_mk, ByteArray.size_mk', List.size_toArray, Int.toNat_natCast, List.take_of_length_le (by rw [List.length_drop]; omega)]
theorem run_slice_top {P : Program} {t e : TypeId} {i : TypeInfo} {size : Nat} (ht : P.underlying t = some (.slice e)) (hi : P.info? e = some i) (hs : i.size = size) (A : Option Addr) (n c k : Nat) (hk : k ≤ c) (w : World) :
  (Instr.slice t (.slice A n c) none (some (.int .i64 (k : Int))) none).run P w = .ok (.slice A k c) w := by
 have he : P.elem t = e := by simp [Program.elem, ht]
 rw [run_slice_h w t A n c (by rw [he]; exact ht) .i64 k (by omega) (by omega), he]
 simp [sizeOf, typeInfo, hi, hs, sliced]
 intro _
 cases A with
 | none => rfl
 | some a => simp [Addr.add]
theorem s_empty {N : Nat} (W : World) (h : N ≤ W.heap.size) : (W.alloc (.cells #[] 3)).ownsRow N 3 1 (.slice (some ⟨W.heap.size, 0, none⟩) 0 0) 0 (ints []) :=
 ⟨rfl, Or.inr ⟨W.heap.size, 0, #[], rfl, h, Blk.new W _ _, Nat.le_refl _, by unfold maxLen; omega, rfl, rfl⟩⟩
def SOne (N : Nat) (W : World) (g : Nat) (x : Int) : Prop := Blk W g 3 #[.int .i64 x] ∧ N ≤ g
theorem SOne.alloc {N g : Nat} {W : World} {x : Int} (h : SOne N W g x) (o : Obj) : SOne N (W.alloc o) g x := ⟨h.1.alloc o, h.2⟩
theorem s_new {N : Nat} (W : World) (x : Int) (h : N ≤ W.heap.size) : SOne N (W.alloc (.cells #[.int .i64 x] 3)) W.heap.size x := ⟨Blk.new W _ _, h⟩
theorem s_reads {N g : Nat} {W : World} {x : Int} (h : SOne N W g x) : Reads W W.heap.size 1 (some ⟨g, 0, none⟩) 1 (ints [x]) := yat (l := [x]) h.1 rfl
theorem s_sepA {N g : Nat} {W : World} {x : Int} (h : SOne N W g x) (o : Obj) : (Value.slice (some ⟨W.heap.size, 0, none⟩) 0 0).ownBlock ≠ some g := fun e => by
 have := h.1.lt
 injection e with e
 simp only at e
 omega
theorem s_sepB {N n : Nat} {W : World} {v : Value} {xs : List Value} (h : W.ownsRow N 3 1 v n xs) : v.ownBlock ≠ some W.heap.size := fun e => by
 have := (h.lt _ e).2
 omega
theorem s_sepC {N g : Nat} {W : World} {x : Int} {v v' : Value} (h : SOne N W g x) (hv : v.ownBlock ≠ some g) (hs : Sep W v v') : v'.ownBlock ≠ some g := fun e => by
 have := h.1.lt
 rcases hs g e with e2 | e2
 ·exact hv e2
 ·omega
theorem s_keep {N g : Nat} {W W' : World} {x : Int} {v : Value} (h : SOne N W g x) (hv : v.ownBlock ≠ some g) (hg : W.grownBy W' v.ownBlock) : SOne N W' g x := ⟨h.1.grow' hg hv, h.2⟩
theorem yaX {w1 W W' : World} {n : Nat} {v : Value} {xs : List Value} (hb : Below w1.heap.size w1 W) (h : W.ownsRow w1.heap.size 3 1 v n xs) (hg : W.grownBy W' v.ownBlock) : Below w1.heap.size w1 W' := hb.grown hg hb.size fun b hb => (h.lt b hb).1
theorem s_base {N M n : Nat} {W : World} {v : Value} {xs : List Value} (h : W.ownsRow N 3 1 v n xs) (hm : M ≤ N) : W.ownsRow M 3 1 v n xs := by
 refine ⟨h.1, ?_⟩
 rcases h.2 with h0 | ⟨g, cap, cur, a1, a2, rest⟩
 ·exact Or.inl h0
 ·exact Or.inr ⟨g, cap, cur, a1, Nat.le_trans hm a2, rest⟩
theorem s_three (a b : List Nat) (k : Nat) : splc (a ++ k :: b) = (([] ++ splc a) ++ [(k : Int)]) ++ splc b := by simp [splc]
theorem Reads.headOf {w : World} {B n m : Nat} {A : Option Addr} {xs : List Value} (h : Reads w B 1 A n xs) (hm : m ≤ n) : Reads w B 1 A m (xs.take m) := by
 refine ⟨by rw [List.length_take, h.1]; omega, fun hp => ?_⟩
 obtain ⟨b, off, e, hb, hc⟩ := h.2 (by omega)
 refine ⟨b, off, e, hb, fun j u hu => hc j u ?_⟩
 rw [List.getElem?_take] at hu
 split at hu
 ·exact hu
 ·cases hu
theorem saF_no {s : List UInt8} (h : 20000 < s.length) : saF s = ([], 3) := if_pos h
theorem saF_yes {s : List UInt8} (h : ¬ 20000 < s.length) : saF s = (splc (sarr s), 0) := if_neg h
set_option maxRecDepth 100000 in
set_option maxHeartbeats 8000000 in
theorem sref_array_any (s : List UInt8) (w : World) (hs : s.length ≤ 1099511627776) :
  Calls Tryz.prog 44 #[.string ⟨s.toArray⟩] w fun e w' => yfW w w' e (saF s) := by
 obtain ⟨i0, hi, hz0, hz1, hz9⟩ := info_parts yde
 have hsi : (s.length : Int) ≤ 1099511627776 := by omega
 by_cases hbig : 20000 < s.length
 ·rw [saF_no hbig]
  have hb1 : (20000 : Int) < (s.length : Int) := by omega
  go_enter Tryz.func44, Tryz.ntmps44
  go_wp2
  go_ret2
  exact yf9 (Below.refl _ _)
 have hb1 : ¬ (20000 : Int) < (s.length : Int) := by omega
 have hst : ∀ p, p ≤ s.length → ∀ w, (Instr.slice 9 (.string ⟨s.toArray⟩) (some (.int .i64 (p : Int))) none none).run Tryz.prog w = .ok (.string ⟨(s.drop p).toArray⟩) w := fun p hp w => str_from s p hp w
 rw [saF_yes hbig]
 have htl : ∀ l : List UInt8, (ByteArray.mk l.toArray).toList = l := fun l => by rw [Lib.toList_data]
 have Hst := Lib.hid hst
 have Hbig := Lib.hid hbig
 clear hst hbig
 go_enter Tryz.func44, Tryz.ntmps44
 go_wp2
 go_loopw [4, 5, 6, 7, 8] (fun v i lx hx mx wr => ∃ (k : Nat) (Av : Option Addr) (cv : Nat), k ≤ s.length + 1 ∧ v = .slice Av k cv ∧ i = .int .i64 k ∧ Hid (wr.ownsRow w.heap.size 3 1 (.slice Av k cv) k (ints (splc (slay (slt s) k)))) ∧ Hid (Below w.heap.size w wr)) (fun _ i _ _ _ _ => s.length + 1 - (intOf i).toNat)
 case atStart => exact ⟨0, none, 0, by omega, rfl, rfl, Lib.hid (World.ownsRow_nil _ _ _ _), Lib.hid (Below.refl _ _)⟩
 case round =>
  obtain ⟨k, Av, cv, hk, rfl, rfl, HO, HB⟩ := hrel
  obtain ⟨w1, rfl⟩ : ∃ w1, w1 = wr := ⟨_, rfl⟩
  by_cases hlt : k ≤ s.length
  ·have hki : (k : Int) ≤ (s.length : Int) := by omega
   have hsk := Hst.out k hlt
   obtain ⟨A2, c2, e2, hkc, hrd⟩ := yae HO.out
   injection e2 with e3 _ e4
   subst e3 e4
   have hlen := ygi (slt s) k
   have hmem := yeO (slt s) k
   have hsort := yeS (ycx s) k (by omega)
   have Hsort := Lib.hid hsort
   have Hlen := Lib.hid hlen
   have Hmem := Lib.hid hmem
   have Hrd := Lib.hid hrd
   clear hsort hmem hrd
   obtain ⟨L, hL⟩ : ∃ L, slay (slt s) k = L := ⟨_, rfl⟩
   have HL := Lib.hid hL
   rw [hL] at HO Hsort Hlen Hmem Hrd hlen
   clear hL hlen
   go_wp2
   go_loopw [6, 7, 8] (fun lx hx mx W => ∃ lo hi : Nat, lo ≤ hi ∧ hi ≤ k ∧ lx = .int .i64 lo ∧ hx = .int .i64 hi ∧ Hid (∀ i (h : i < L.length), i < lo → slt s L[i] k = true) ∧ Hid (∀ i (h : i < L.length), hi ≤ i → slt s L[i] k = false) ∧ Hid (Below w1.heap.size w1 W)) (fun lx hx _ _ => (intOf hx).toNat - (intOf lx).toNat)
   case atStart => exact ⟨0, k, by omega, by omega, rfl, rfl, Lib.hid fun i _ h => by omega, Lib.hid fun i h h2 => by rw [Hlen.out] at h; omega, Lib.hid (Below.refl _ _)⟩
   case round =>
    obtain ⟨lo, hi2, hlh, hhk, rfl, rfl, H1, H2, HW⟩ := hrel
    by_cases hll : lo < hi2
    ·have hli : (lo : Int) < (hi2 : Int) := by omega
     obtain ⟨m, hm⟩ : ∃ m, (lo + hi2) / 2 = m := ⟨_, rfl⟩
     have hmi : ((lo : Int) + (hi2 : Int)) / 2 = (m : Int) := by omega
     have hmb : lo ≤ m ∧ m < hi2 := by omega
     have hmz : (0 : Int) ≤ (m : Int) ∧ (m : Int) < (k : Int) ∧ (hi2 : Int) ≤ 20001 := by omega
     have hml : m < L.length := by rw [Hlen.out]; omega
     obtain ⟨b, off, rfl, hbl, hc⟩ := Hrd.out.2 (by omega)
     have x1 := (HW.out.cell (p := ⟨b, off + m, none⟩) hbl).trans (hc m _ (yai _ m (by rw [yao]; exact hml)))
     rw [yey] at x1
     have hq := (Hmem.out L[m]).1 (List.getElem_mem hml)
     have hsq := Hst.out L[m] (by omega)
     have hb0 : Op.bytesLess (s.drop L[m]) (s.drop k) = slt s L[m] k := rfl
     cases hd : slt s L[m] k with
     | true =>
      rw [hd] at hb0
      have H1' : Hid (∀ i (h : i < L.length), i < m + 1 → slt s L[i] k = true) := Lib.hid fun i hi him => by
       rcases Nat.lt_or_eq_of_le (Nat.lt_succ_iff.1 him) with h | h
       ·exact (ycx s).tr _ _ _ (ybA Hsort.out i m hi hml h) hd
       ·subst h; exact hd
      clear hd hc
      generalize L[m] = p at *
      go_wp2
      go_quiet (fail)
      go_wp2
      go_roundw
      case rel => exact ⟨m + 1, hi2, by omega, by omega, iv (by omega), rfl, H1', H2, Lib.hid (yaj HW.out _)⟩
      case measure => simp only [intOf]; omega
     | false =>
      rw [hd] at hb0
      have H2' : Hid (∀ i (h : i < L.length), m ≤ i → slt s L[i] k = false) := Lib.hid fun i hi him => by
       rcases Nat.lt_or_eq_of_le him with h | h
       ·cases h2 : slt s L[i] k with
        | false => rfl
        | true =>
         have := (ycx s).tr _ _ _ (ybA Hsort.out m i hml hi h) h2
         rw [hd] at this
         cases this
       ·subst h; exact hd
      clear hd hc
      generalize L[m] = p at *
      go_wp2
      go_quiet (fail)
      go_wp2
      go_roundw
      case rel => exact ⟨lo, m, by omega, by omega, rfl, iv hmi, H1, H2', Lib.hid (yaj HW.out _)⟩
      case measure => simp only [intOf]; omega
    ·obtain rfl : lo = hi2 := by omega
     have hii : ¬ (lo : Int) < (lo : Int) := by omega
     have hcut := scut_is (slt s) k L lo (by rw [Hlen.out]; exact hhk) H1.out (fun i hi he => H2.out i hi (by omega))
     have hins : slay (slt s) (k + 1) = L.take lo ++ k :: L.drop lo := by
      show sins (slt s) k (slay (slt s) k) = _
      rw [HL.out]
      unfold sins
      rw [hcut]
     have Hins := Lib.hid hins
     have htop := fun W => run_slice_top (P := Tryz.prog) Tryz.underlying28 hi hz1 Av k cv lo (by omega) W
     have hfrom := fun W => yb5 (P := Tryz.prog) Tryz.underlying28 hi hz1 Av k cv lo (by omega) W
     have hcutr := Hrd.out.cut (k := lo) (cap := cv) (by omega) hkc
     rw [Nat.mul_one, gints_drop, splc_drop] at hcutr
     rw [Nat.mul_one] at hfrom
     obtain ⟨A5, hA5⟩ : ∃ A5, (if cv = lo then Av else Av.map (·.add lo)) = A5 := ⟨_, rfl⟩
     rw [hA5] at hcutr hfrom
     obtain ⟨c5, hc5⟩ : ∃ c5, cv - lo = c5 := ⟨_, rfl⟩
     rw [hc5] at hfrom
     have hfr := Hrd.out.headOf (m := lo) (by omega)
     rw [gints_take, splc_take] at hfr
     have HR1 := Lib.hid fun (W : World) (h : Below w1.heap.size w1 W) => hfr.below h
     have HR2 := Lib.hid fun (W : World) (h : Below w1.heap.size w1 W) => hcutr.below h
     have HBw := Lib.hid HW.out.drew
     have hlk : lo ≤ k ∧ k ≤ 20001 := by have := Hbig.out; omega
     clear hcut hins hA5 hc5 hfr hcutr hsk
     go_wp2
     -- INS
     refine wp_region_held_drew (S := (fun _ => True)) (by kernel_rfl) (trivial) (fun hHeld => ?_)
     refine wpAnyH_take (i := 1) (oi := ⟨some 41, Op.move (Operand.tmp 4), 28, _, #[], none⟩) (v := ?_) rfl (by kernel_rfl) (by kernel_rfl) (by kernel_rfl) (fun _ _ _ h => h) (Or.inl ⟨by rfl, ?_⟩) hHeld ?_
     rotate_left
     ·(intro wz hSw; go_simp; try (with_reducible rfl))
     try simp only [Act.put, List.setIfInBounds_toArray, List.set_cons_zero, List.set_cons_succ]
     refine wpAnyH_take (i := 2) (oi := ⟨some 42, Op.move (Operand.tmp 6), 3, _, #[], none⟩) (v := ?_) rfl (by kernel_rfl) (by kernel_rfl) (by kernel_rfl) (fun _ _ _ h => h) (Or.inl ⟨by rfl, ?_⟩) hHeld ?_
     rotate_left
     ·(intro wz hSw; go_simp; try (with_reducible rfl))
     try simp only [Act.put, List.setIfInBounds_toArray, List.set_cons_zero, List.set_cons_succ]
     refine wpAnyH_take (i := 3) (oi := ⟨some 43, Op.slice 28 (Operand.tmp 41) none (some (Operand.tmp 42)) none, 28, _, #[{ on := 1, ground := Ground.data }, { on := 2, ground := Ground.data }], none⟩) (v := ?_) rfl (by kernel_rfl) (by kernel_rfl) (by kernel_rfl) (fun _ _ _ h => h) (Or.inl ⟨by rfl, ?_⟩) hHeld ?_
     rotate_left
     ·(intro wz hSw; go_simp; try (with_reducible rfl))
     try simp only [Act.put, List.setIfInBounds_toArray, List.set_cons_zero, List.set_cons_succ]
     refine wpAnyH_take (i := 5) (oi := ⟨some 45, Op.move (Operand.tmp 5), 3, _, #[], none⟩) (v := ?_) rfl (by kernel_rfl) (by kernel_rfl) (by kernel_rfl) (fun _ _ _ h => h) (Or.inl ⟨by rfl, ?_⟩) hHeld ?_
     rotate_left
     ·(intro wz hSw; go_simp; try (with_reducible rfl))
     try simp only [Act.put, List.setIfInBounds_toArray, List.set_cons_zero, List.set_cons_succ]
     refine wpAnyH_take (i := 8) (oi := ⟨some 48, Op.move (Operand.tmp 4), 28, _, #[], none⟩) (v := ?_) rfl (by kernel_rfl) (by kernel_rfl) (by kernel_rfl) (fun _ _ _ h => h) (Or.inl ⟨by rfl, ?_⟩) hHeld ?_
     rotate_left
     ·(intro wz hSw; go_simp; try (with_reducible rfl))
     try simp only [Act.put, List.setIfInBounds_toArray, List.set_cons_zero, List.set_cons_succ]
     refine wpAnyH_take (i := 9) (oi := ⟨some 49, Op.move (Operand.tmp 6), 3, _, #[], none⟩) (v := ?_) rfl (by kernel_rfl) (by kernel_rfl) (by kernel_rfl) (fun _ _ _ h => h) (Or.inl ⟨by rfl, ?_⟩) hHeld ?_
     rotate_left
     ·(intro wz hSw; go_simp; try (with_reducible rfl))
     try simp only [Act.put, List.setIfInBounds_toArray, List.set_cons_zero, List.set_cons_succ]
     refine wpAnyH_take (i := 10) (oi := ⟨some 50, Op.slice 28 (Operand.tmp 48) (some (Operand.tmp 49)) none none, 28, _, #[{ on := 8, ground := Ground.data }, { on := 9, ground := Ground.data }], none⟩) (v := ?_) rfl (by kernel_rfl) (by kernel_rfl) (by kernel_rfl) (fun _ _ _ h => h) (Or.inl ⟨by rfl, ?_⟩) hHeld ?_
     rotate_left
     ·(intro wz hSw; go_simp; try (with_reducible rfl))
     try simp only [Act.put, List.setIfInBounds_toArray, List.set_cons_zero, List.set_cons_succ]
     refine wpAnyH_ready (rs := [0, 6]) (by kernel_rfl) (by simp) ?_
     refine AllReadyH.cons (o := ⟨some 40, Op.buildSlice 28 0 #[], 28, _, #[], none⟩) rfl (fun K hK => ?_) ?_
     ·skip
      go_simp
      refine hK.out _ _ (trivial) (fun _ => ?_)
      clear hK K
      have HA := Lib.hid (s_empty _ HBw.out.size)
      try (have HS := Lib.hid (s_sepA HX.out (.cells #[] 3)))
      try (replace HX := Lib.hid (HX.out.alloc (.cells #[] 3)))
      replace HBw := Lib.hid (HBw.out.alloc HBw.out.size (.cells #[] 3))
      try rw [World.size_alloc] at HA
      try rw [World.size_alloc] at HS
      try simp only [Act.put, List.setIfInBounds_toArray, List.set_cons_zero, List.set_cons_succ]
      refine wpAnyH_ready (rs := [4, 6]) (by kernel_rfl) (by simp) ?_
      refine AllReadyH.cons (o := ⟨some 44, Op.call { callee := Callee.builtin Builtin.append, args := #[Operand.tmp 40, Operand.tmp 43], argTypes := #[28, 28] }, 28, _, #[{ on := 0, ground := Ground.data }, { on := 3, ground := Ground.data }], none⟩) rfl (fun K hK => ?_) ?_
      ·skip
       refine yac (by rfl) (.tmp 40) (.tmp 43) 28 (by rfl) w1.heap.size 3 i0 _ 1 8 Tryz.underlying28 hi hz0 hz1 hz9 rfl (by decide) _ 0 (ints ([])) (by rfl) HA.out Av lo cv _ (ints (splc (L.take lo))) (by rfl) (HR1.out _ HBw.out) (ya6 _) (by unfold maxLen; omega) (by omega) HBw.out.size (lo) (Nat.zero_add lo) ?_
       intro A_HA1 c_HA1 w_HA1 ho_ hg_ hs_
       refine hK.out _ _ (trivial) (fun _ => ?_)
       clear hK K
       try (have HS2 := Lib.hid (s_sepC HX.out HS.out hs_))
       try (replace HX := Lib.hid (s_keep HX.out HS.out hg_))
       try (replace HS := HS2)
       have HA1 : Hid (w_HA1.ownsRow w1.heap.size 3 1 (.slice A_HA1 (lo) c_HA1) (lo) (ints (([]) ++ (splc (L.take lo))))) := Lib.hid (by rw [yax]; exact ho_)
       replace HBw := Lib.hid (yaX HBw.out HA.out hg_)
       clear ho_ hg_ hs_
       try simp only [Act.put, List.setIfInBounds_toArray, List.set_cons_zero, List.set_cons_succ]
       refine wpAnyH_ready (rs := [6]) (by kernel_rfl) (by simp) ?_
       refine AllReadyH.cons (o := ⟨some 46, Op.buildSlice 28 1 #[(0, Operand.tmp 45)], 28, _, #[{ on := 5, ground := Ground.data }], none⟩) rfl (fun K hK => ?_) AllReadyH.nil
       go_simp
       refine hK.out _ _ (trivial) (fun _ => ?_)
       clear hK K
       have HX := Lib.hid (s_new _ (k : Int) HBw.out.size)
       try (have HS := Lib.hid (s_sepB HA.out))
       try (have HS := Lib.hid (s_sepB HA1.out))
       try (replace HA := Lib.hid (HA.out.alloc (.cells #[.int .i64 (k : Int)] 3)))
       try (replace HA1 := Lib.hid (HA1.out.alloc (.cells #[.int .i64 (k : Int)] 3)))
       replace HBw := Lib.hid (HBw.out.alloc HBw.out.size (.cells #[.int .i64 (k : Int)] 3))
       try rw [World.size_alloc] at HX
       try rw [World.size_alloc] at HS
       try simp only [Act.put, List.setIfInBounds_toArray, List.set_cons_zero, List.set_cons_succ]
       refine wpAnyH_ready (rs := [7]) (by kernel_rfl) (by simp) ?_
       refine AllReadyH.cons (o := ⟨some 47, Op.call { callee := Callee.builtin Builtin.append, args := #[Operand.tmp 44, Operand.tmp 46], argTypes := #[28, 28] }, 28, _, #[{ on := 4, ground := Ground.data }, { on := 6, ground := Ground.data }, { on := 4, ground := Ground.chain }], none⟩) rfl (fun K hK => ?_) AllReadyH.nil
       refine yac (by rfl) (.tmp 44) (.tmp 46) 28 (by rfl) w1.heap.size 3 i0 _ 1 8 Tryz.underlying28 hi hz0 hz1 hz9 rfl (by decide) _ lo (ints ([] ++ splc (L.take lo))) (by rfl) HA1.out _ 1 1 _ (ints ([(k : Int)])) (by rfl) (s_reads HX.out) (ya6 _) (by unfold maxLen; omega) (by omega) HBw.out.size (lo + 1) rfl ?_
       intro A_HA2 c_HA2 w_HA2 ho_ hg_ hs_
       refine hK.out _ _ (trivial) (fun _ => ?_)
       clear hK K
       have HA2 : Hid (w_HA2.ownsRow w1.heap.size 3 1 (.slice A_HA2 (lo + 1) c_HA2) (lo + 1) (ints (([] ++ splc (L.take lo)) ++ ([(k : Int)])))) := Lib.hid (by rw [yax]; exact ho_)
       replace HBw := Lib.hid (yaX HBw.out HA1.out hg_)
       clear ho_ hg_ hs_
       try simp only [Act.put, List.setIfInBounds_toArray, List.set_cons_zero, List.set_cons_succ]
       refine wpAnyH_ready (rs := [11]) (by kernel_rfl) (by simp) ?_
       refine AllReadyH.cons (o := ⟨some 51, Op.call { callee := Callee.builtin Builtin.append, args := #[Operand.tmp 47, Operand.tmp 50], argTypes := #[28, 28] }, 28, _, #[{ on := 7, ground := Ground.data }, { on := 10, ground := Ground.data }, { on := 7, ground := Ground.chain }], none⟩) rfl (fun K hK => ?_) AllReadyH.nil
       refine yac (by rfl) (.tmp 47) (.tmp 50) 28 (by rfl) w1.heap.size 3 i0 _ 1 8 Tryz.underlying28 hi hz0 hz1 hz9 rfl (by decide) _ (lo + 1) (ints (([] ++ splc (L.take lo)) ++ [(k : Int)])) (by rfl) HA2.out A5 (k - lo) c5 _ (ints (splc (L.drop lo))) (by rfl) (HR2.out _ HBw.out) (ya6 _) (by unfold maxLen; omega) (by omega) HBw.out.size (k + 1) (by omega) ?_
       intro A_HA3 c_HA3 w_HA3 ho_ hg_ hs_
       refine hK.out _ _ (trivial) (fun _ => ?_)
       clear hK K
       have HA3 : Hid (w_HA3.ownsRow w1.heap.size 3 1 (.slice A_HA3 (k + 1) c_HA3) (k + 1) (ints ((([] ++ splc (L.take lo)) ++ [(k : Int)]) ++ (splc (L.drop lo))))) := Lib.hid (by rw [yax]; exact ho_)
       replace HBw := Lib.hid (yaX HBw.out HA2.out hg_)
       clear ho_ hg_ hs_
       try simp only [Act.put, List.setIfInBounds_toArray, List.set_cons_zero, List.set_cons_succ]
       refine wpAnyH_take (i := 12) (oi := ⟨some 4, Op.assign (Operand.tmp 51), 28, _, #[{ on := 11, ground := Ground.data }, { on := 11, ground := Ground.chain }, { on := 0, ground := Ground.phase }, { on := 1, ground := Ground.phase }, { on := 2, ground := Ground.phase }, { on := 3, ground := Ground.phase }, { on := 4, ground := Ground.phase }, { on := 5, ground := Ground.phase }, { on := 6, ground := Ground.phase }, { on := 7, ground := Ground.phase }, { on := 8, ground := Ground.phase }, { on := 9, ground := Ground.phase }, { on := 10, ground := Ground.phase }, { on := 11, ground := Ground.phase }], none⟩) (v := ?_) rfl (by kernel_rfl) (by kernel_rfl) (by kernel_rfl) (fun _ _ _ h => h) (Or.inl ⟨by rfl, ?_⟩) hHeld ?_
       rotate_left
       ·(intro wz hSw; go_simp; try (with_reducible rfl))
       try simp only [Act.put, List.setIfInBounds_toArray, List.set_cons_zero, List.set_cons_succ]
       refine wpAnyH_done (by kernel_rfl) ?_ _
       have HF : Hid (w_HA3.ownsRow w.heap.size 3 1 (.slice A_HA3 (k + 1) c_HA3) (k + 1) (ints (splc (slay (slt s) (k + 1))))) := Lib.hid (by rw [Hins.out, s_three]; exact s_base HA3.out HB.out.size)
       have HG := Lib.hid (HB.out.trans (HBw.out.mono HB.out.size))
       go_wp2
       go_roundw
       case rel => exact ⟨k + 1, A_HA3, c_HA3, by omega, rfl, iv (by omega), HF, HG⟩
       case measure => simp only [intOf]; omega
      refine AllReadyH.cons (o := ⟨some 46, Op.buildSlice 28 1 #[(0, Operand.tmp 45)], 28, _, #[{ on := 5, ground := Ground.data }], none⟩) rfl (fun K hK => ?_) AllReadyH.nil
      go_simp
      refine hK.out _ _ (trivial) (fun _ => ?_)
      clear hK K
      have HX := Lib.hid (s_new _ (k : Int) HBw.out.size)
      try (have HS := Lib.hid (s_sepB HA.out))
      try (have HS := Lib.hid (s_sepB HA1.out))
      try (replace HA := Lib.hid (HA.out.alloc (.cells #[.int .i64 (k : Int)] 3)))
      try (replace HA1 := Lib.hid (HA1.out.alloc (.cells #[.int .i64 (k : Int)] 3)))
      replace HBw := Lib.hid (HBw.out.alloc HBw.out.size (.cells #[.int .i64 (k : Int)] 3))
      try rw [World.size_alloc] at HX
      try rw [World.size_alloc] at HS
      try simp only [Act.put, List.setIfInBounds_toArray, List.set_cons_zero, List.set_cons_succ]
      refine wpAnyH_ready (rs := [4]) (by kernel_rfl) (by simp) ?_
      refine AllReadyH.cons (o := ⟨some 44, Op.call { callee := Callee.builtin Builtin.append, args := #[Operand.tmp 40, Operand.tmp 43], argTypes := #[28, 28] }, 28, _, #[{ on := 0, ground := Ground.data }, { on := 3, ground := Ground.data }], none⟩) rfl (fun K hK => ?_) AllReadyH.nil
      refine yac (by rfl) (.tmp 40) (.tmp 43) 28 (by rfl) w1.heap.size 3 i0 _ 1 8 Tryz.underlying28 hi hz0 hz1 hz9 rfl (by decide) _ 0 (ints ([])) (by rfl) HA.out Av lo cv _ (ints (splc (L.take lo))) (by rfl) (HR1.out _ HBw.out) (ya6 _) (by unfold maxLen; omega) (by omega) HBw.out.size (lo) (Nat.zero_add lo) ?_
      intro A_HA1 c_HA1 w_HA1 ho_ hg_ hs_
      refine hK.out _ _ (trivial) (fun _ => ?_)
      clear hK K
      try (have HS2 := Lib.hid (s_sepC HX.out HS.out hs_))
      try (replace HX := Lib.hid (s_keep HX.out HS.out hg_))
      try (replace HS := HS2)
      have HA1 : Hid (w_HA1.ownsRow w1.heap.size 3 1 (.slice A_HA1 (lo) c_HA1) (lo) (ints (([]) ++ (splc (L.take lo))))) := Lib.hid (by rw [yax]; exact ho_)
      replace HBw := Lib.hid (yaX HBw.out HA.out hg_)
      clear ho_ hg_ hs_
      try simp only [Act.put, List.setIfInBounds_toArray, List.set_cons_zero, List.set_cons_succ]
      refine wpAnyH_ready (rs := [7]) (by kernel_rfl) (by simp) ?_
      refine AllReadyH.cons (o := ⟨some 47, Op.call { callee := Callee.builtin Builtin.append, args := #[Operand.tmp 44, Operand.tmp 46], argTypes := #[28, 28] }, 28, _, #[{ on := 4, ground := Ground.data }, { on := 6, ground := Ground.data }, { on := 4, ground := Ground.chain }], none⟩) rfl (fun K hK => ?_) AllReadyH.nil
      refine yac (by rfl) (.tmp 44) (.tmp 46) 28 (by rfl) w1.heap.size 3 i0 _ 1 8 Tryz.underlying28 hi hz0 hz1 hz9 rfl (by decide) _ lo (ints ([] ++ splc (L.take lo))) (by rfl) HA1.out _ 1 1 _ (ints ([(k : Int)])) (by rfl) (s_reads HX.out) (ya6 _) (by unfold maxLen; omega) (by omega) HBw.out.size (lo + 1) rfl ?_
      intro A_HA2 c_HA2 w_HA2 ho_ hg_ hs_
      refine hK.out _ _ (trivial) (fun _ => ?_)
      clear hK K
      have HA2 : Hid (w_HA2.ownsRow w1.heap.size 3 1 (.slice A_HA2 (lo + 1) c_HA2) (lo + 1) (ints (([] ++ splc (L.take lo)) ++ ([(k : Int)])))) := Lib.hid (by rw [yax]; exact ho_)
      replace HBw := Lib.hid (yaX HBw.out HA1.out hg_)
      clear ho_ hg_ hs_
      try simp only [Act.put, List.setIfInBounds_toArray, List.set_cons_zero, List.set_cons_succ]
      refine wpAnyH_ready (rs := [11]) (by kernel_rfl) (by simp) ?_
      refine AllReadyH.cons (o := ⟨some 51, Op.call { callee := Callee.builtin Builtin.append, args := #[Operand.tmp 47, Operand.tmp 50], argTypes := #[28, 28] }, 28, _, #[{ on := 7, ground := Ground.data }, { on := 10, ground := Ground.data }, { on := 7, ground := Ground.chain }], none⟩) rfl (fun K hK => ?_) AllReadyH.nil
      refine yac (by rfl) (.tmp 47) (.tmp 50) 28 (by rfl) w1.heap.size 3 i0 _ 1 8 Tryz.underlying28 hi hz0 hz1 hz9 rfl (by decide) _ (lo + 1) (ints (([] ++ splc (L.take lo)) ++ [(k : Int)])) (by rfl) HA2.out A5 (k - lo) c5 _ (ints (splc (L.drop lo))) (by rfl) (HR2.out _ HBw.out) (ya6 _) (by unfold maxLen; omega) (by omega) HBw.out.size (k + 1) (by omega) ?_
      intro A_HA3 c_HA3 w_HA3 ho_ hg_ hs_
      refine hK.out _ _ (trivial) (fun _ => ?_)
      clear hK K
      have HA3 : Hid (w_HA3.ownsRow w1.heap.size 3 1 (.slice A_HA3 (k + 1) c_HA3) (k + 1) (ints ((([] ++ splc (L.take lo)) ++ [(k : Int)]) ++ (splc (L.drop lo))))) := Lib.hid (by rw [yax]; exact ho_)
      replace HBw := Lib.hid (yaX HBw.out HA2.out hg_)
      clear ho_ hg_ hs_
      try simp only [Act.put, List.setIfInBounds_toArray, List.set_cons_zero, List.set_cons_succ]
      refine wpAnyH_take (i := 12) (oi := ⟨some 4, Op.assign (Operand.tmp 51), 28, _, #[{ on := 11, ground := Ground.data }, { on := 11, ground := Ground.chain }, { on := 0, ground := Ground.phase }, { on := 1, ground := Ground.phase }, { on := 2, ground := Ground.phase }, { on := 3, ground := Ground.phase }, { on := 4, ground := Ground.phase }, { on := 5, ground := Ground.phase }, { on := 6, ground := Ground.phase }, { on := 7, ground := Ground.phase }, { on := 8, ground := Ground.phase }, { on := 9, ground := Ground.phase }, { on := 10, ground := Ground.phase }, { on := 11, ground := Ground.phase }], none⟩) (v := ?_) rfl (by kernel_rfl) (by kernel_rfl) (by kernel_rfl) (fun _ _ _ h => h) (Or.inl ⟨by rfl, ?_⟩) hHeld ?_
      rotate_left
      ·(intro wz hSw; go_simp; try (with_reducible rfl))
      try simp only [Act.put, List.setIfInBounds_toArray, List.set_cons_zero, List.set_cons_succ]
      refine wpAnyH_done (by kernel_rfl) ?_ _
      have HF : Hid (w_HA3.ownsRow w.heap.size 3 1 (.slice A_HA3 (k + 1) c_HA3) (k + 1) (ints (splc (slay (slt s) (k + 1))))) := Lib.hid (by rw [Hins.out, s_three]; exact s_base HA3.out HB.out.size)
      have HG := Lib.hid (HB.out.trans (HBw.out.mono HB.out.size))
      go_wp2
      go_roundw
      case rel => exact ⟨k + 1, A_HA3, c_HA3, by omega, rfl, iv (by omega), HF, HG⟩
      case measure => simp only [intOf]; omega
     refine AllReadyH.cons (o := ⟨some 46, Op.buildSlice 28 1 #[(0, Operand.tmp 45)], 28, _, #[{ on := 5, ground := Ground.data }], none⟩) rfl (fun K hK => ?_) AllReadyH.nil
     go_simp
     refine hK.out _ _ (trivial) (fun _ => ?_)
     clear hK K
     have HX := Lib.hid (s_new _ (k : Int) HBw.out.size)
     try (have HS := Lib.hid (s_sepB HA.out))
     try (have HS := Lib.hid (s_sepB HA1.out))
     try (replace HA := Lib.hid (HA.out.alloc (.cells #[.int .i64 (k : Int)] 3)))
     try (replace HA1 := Lib.hid (HA1.out.alloc (.cells #[.int .i64 (k : Int)] 3)))
     replace HBw := Lib.hid (HBw.out.alloc HBw.out.size (.cells #[.int .i64 (k : Int)] 3))
     try rw [World.size_alloc] at HX
     try rw [World.size_alloc] at HS
     try simp only [Act.put, List.setIfInBounds_toArray, List.set_cons_zero, List.set_cons_succ]
     refine wpAnyH_ready (rs := [0]) (by kernel_rfl) (by simp) ?_
     refine AllReadyH.cons (o := ⟨some 40, Op.buildSlice 28 0 #[], 28, _, #[], none⟩) rfl (fun K hK => ?_) AllReadyH.nil
     go_simp
     refine hK.out _ _ (trivial) (fun _ => ?_)
     clear hK K
     have HA := Lib.hid (s_empty _ HBw.out.size)
     try (have HS := Lib.hid (s_sepA HX.out (.cells #[] 3)))
     try (replace HX := Lib.hid (HX.out.alloc (.cells #[] 3)))
     replace HBw := Lib.hid (HBw.out.alloc HBw.out.size (.cells #[] 3))
     try rw [World.size_alloc] at HA
     try rw [World.size_alloc] at HS
     try simp only [Act.put, List.setIfInBounds_toArray, List.set_cons_zero, List.set_cons_succ]
     refine wpAnyH_ready (rs := [4]) (by kernel_rfl) (by simp) ?_
     refine AllReadyH.cons (o := ⟨some 44, Op.call { callee := Callee.builtin Builtin.append, args := #[Operand.tmp 40, Operand.tmp 43], argTypes := #[28, 28] }, 28, _, #[{ on := 0, ground := Ground.data }, { on := 3, ground := Ground.data }], none⟩) rfl (fun K hK => ?_) AllReadyH.nil
     refine yac (by rfl) (.tmp 40) (.tmp 43) 28 (by rfl) w1.heap.size 3 i0 _ 1 8 Tryz.underlying28 hi hz0 hz1 hz9 rfl (by decide) _ 0 (ints ([])) (by rfl) HA.out Av lo cv _ (ints (splc (L.take lo))) (by rfl) (HR1.out _ HBw.out) (ya6 _) (by unfold maxLen; omega) (by omega) HBw.out.size (lo) (Nat.zero_add lo) ?_
     intro A_HA1 c_HA1 w_HA1 ho_ hg_ hs_
     refine hK.out _ _ (trivial) (fun _ => ?_)
     clear hK K
     try (have HS2 := Lib.hid (s_sepC HX.out HS.out hs_))
     try (replace HX := Lib.hid (s_keep HX.out HS.out hg_))
     try (replace HS := HS2)
     have HA1 : Hid (w_HA1.ownsRow w1.heap.size 3 1 (.slice A_HA1 (lo) c_HA1) (lo) (ints (([]) ++ (splc (L.take lo))))) := Lib.hid (by rw [yax]; exact ho_)
     replace HBw := Lib.hid (yaX HBw.out HA.out hg_)
     clear ho_ hg_ hs_
     try simp only [Act.put, List.setIfInBounds_toArray, List.set_cons_zero, List.set_cons_succ]
     refine wpAnyH_ready (rs := [7]) (by kernel_rfl) (by simp) ?_
     refine AllReadyH.cons (o := ⟨some 47, Op.call { callee := Callee.builtin Builtin.append, args := #[Operand.tmp 44, Operand.tmp 46], argTypes := #[28, 28] }, 28, _, #[{ on := 4, ground := Ground.data }, { on := 6, ground := Ground.data }, { on := 4, ground := Ground.chain }], none⟩) rfl (fun K hK => ?_) AllReadyH.nil
     refine yac (by rfl) (.tmp 44) (.tmp 46) 28 (by rfl) w1.heap.size 3 i0 _ 1 8 Tryz.underlying28 hi hz0 hz1 hz9 rfl (by decide) _ lo (ints ([] ++ splc (L.take lo))) (by rfl) HA1.out _ 1 1 _ (ints ([(k : Int)])) (by rfl) (s_reads HX.out) (ya6 _) (by unfold maxLen; omega) (by omega) HBw.out.size (lo + 1) rfl ?_
     intro A_HA2 c_HA2 w_HA2 ho_ hg_ hs_
     refine hK.out _ _ (trivial) (fun _ => ?_)
     clear hK K
     have HA2 : Hid (w_HA2.ownsRow w1.heap.size 3 1 (.slice A_HA2 (lo + 1) c_HA2) (lo + 1) (ints (([] ++ splc (L.take lo)) ++ ([(k : Int)])))) := Lib.hid (by rw [yax]; exact ho_)
     replace HBw := Lib.hid (yaX HBw.out HA1.out hg_)
     clear ho_ hg_ hs_
     try simp only [Act.put, List.setIfInBounds_toArray, List.set_cons_zero, List.set_cons_succ]
     refine wpAnyH_ready (rs := [11]) (by kernel_rfl) (by simp) ?_
     refine AllReadyH.cons (o := ⟨some 51, Op.call { callee := Callee.builtin Builtin.append, args := #[Operand.tmp 47, Operand.tmp 50], argTypes := #[28, 28] }, 28, _, #[{ on := 7, ground := Ground.data }, { on := 10, ground := Ground.data }, { on := 7, ground := Ground.chain }], none⟩) rfl (fun K hK => ?_) AllReadyH.nil
     refine yac (by rfl) (.tmp 47) (.tmp 50) 28 (by rfl) w1.heap.size 3 i0 _ 1 8 Tryz.underlying28 hi hz0 hz1 hz9 rfl (by decide) _ (lo + 1) (ints (([] ++ splc (L.take lo)) ++ [(k : Int)])) (by rfl) HA2.out A5 (k - lo) c5 _ (ints (splc (L.drop lo))) (by rfl) (HR2.out _ HBw.out) (ya6 _) (by unfold maxLen; omega) (by omega) HBw.out.size (k + 1) (by omega) ?_
     intro A_HA3 c_HA3 w_HA3 ho_ hg_ hs_
     refine hK.out _ _ (trivial) (fun _ => ?_)
     clear hK K
     have HA3 : Hid (w_HA3.ownsRow w1.heap.size 3 1 (.slice A_HA3 (k + 1) c_HA3) (k + 1) (ints ((([] ++ splc (L.take lo)) ++ [(k : Int)]) ++ (splc (L.drop lo))))) := Lib.hid (by rw [yax]; exact ho_)
     replace HBw := Lib.hid (yaX HBw.out HA2.out hg_)
     clear ho_ hg_ hs_
     try simp only [Act.put, List.setIfInBounds_toArray, List.set_cons_zero, List.set_cons_succ]
     refine wpAnyH_take (i := 12) (oi := ⟨some 4, Op.assign (Operand.tmp 51), 28, _, #[{ on := 11, ground := Ground.data }, { on := 11, ground := Ground.chain }, { on := 0, ground := Ground.phase }, { on := 1, ground := Ground.phase }, { on := 2, ground := Ground.phase }, { on := 3, ground := Ground.phase }, { on := 4, ground := Ground.phase }, { on := 5, ground := Ground.phase }, { on := 6, ground := Ground.phase }, { on := 7, ground := Ground.phase }, { on := 8, ground := Ground.phase }, { on := 9, ground := Ground.phase }, { on := 10, ground := Ground.phase }, { on := 11, ground := Ground.phase }], none⟩) (v := ?_) rfl (by kernel_rfl) (by kernel_rfl) (by kernel_rfl) (fun _ _ _ h => h) (Or.inl ⟨by rfl, ?_⟩) hHeld ?_
     rotate_left
     ·(intro wz hSw; go_simp; try (with_reducible rfl))
     try simp only [Act.put, List.setIfInBounds_toArray, List.set_cons_zero, List.set_cons_succ]
     refine wpAnyH_done (by kernel_rfl) ?_ _
     have HF : Hid (w_HA3.ownsRow w.heap.size 3 1 (.slice A_HA3 (k + 1) c_HA3) (k + 1) (ints (splc (slay (slt s) (k + 1))))) := Lib.hid (by rw [Hins.out, s_three]; exact s_base HA3.out HB.out.size)
     have HG := Lib.hid (HB.out.trans (HBw.out.mono HB.out.size))
     go_wp2
     go_roundw
     case rel => exact ⟨k + 1, A_HA3, c_HA3, by omega, rfl, iv (by omega), HF, HG⟩
     case measure => simp only [intOf]; omega
     -- END INS
  ·obtain rfl : k = s.length + 1 := by omega
   have hii : ¬ ((s.length + 1 : Nat) : Int) ≤ (s.length : Int) := by omega
   obtain ⟨A2, c2, e2, hkc, hrd⟩ := yae HO.out
   injection e2 with e3 _ e4
   subst e3 e4
   have Hrd := Lib.hid hrd
   have Hkc := Lib.hid hkc
   have Hln : Hid ((splc (sarr s)).length = s.length + 1) := Lib.hid (by rw [yao]; exact ygi _ _)
   clear hrd hkc
   go_wp2
   go_ret2
   exact yh7 Hln.out Hkc.out Hrd.out HB.out
theorem Sep.trans {w w1 : World} {v v1 v2 : Value} (h : Sep w v v1) (k : Sep w1 v1 v2) (hs : w.heap.size ≤ w1.heap.size) : Sep w v v2 := fun i hi => by
 rcases k i hi with e | e
 ·exact h i e
 ·exact Or.inr (by omega)
theorem touch_ws {w w1 w2 : World} {g : Nat} {v v1 : Value} (h : Touch w w1 (WS g v)) (k : Touch w1 w2 (WS g v1)) (hs : Sep w v v1) : Touch w w2 (WS g v) :=
 h.next k fun i hi e => by
  rcases e with e | e
  ·exact Or.inl e
  ·rcases hs i e with e | e
   ·exact Or.inr e
   ·omega
theorem bput_is (B g : Nat) (n width : Int) (v : Value) (R : List Nat) (w : World) (hf : fits n width) (hH : WHold w B g v R) (hB : B ≤ w.heap.size) (hR : R.length ≤ 1099511627776) :
  Calls Tryz.prog 67 #[.pointer (some ⟨g, 0, none⟩), .int .i64 n, .int .i64 width] w fun e w' => e = .returned (.int .i64 0) ∧ ∃ v', WHold w' B g v' (R ++ digI n width) ∧ Touch w w' (WS g v) ∧ Sep w v v' := by
 obtain ⟨h1, h2, h3, h4⟩ := hf
 obtain ⟨W, rfl⟩ := Int.eq_ofNat_of_zero_le h1
 obtain ⟨N, rfl⟩ := Int.eq_ofNat_of_zero_le h3
 exact put_yes B g W N v R w (by omega) (by simp only [Int.toNat_natCast] at h4; exact_mod_cast h4) hH hB hR
theorem nread (x M t : Nat) (m : Int) (hm : m = M) (hM : M < 256) (ht : t ≤ 8) (hfit : x * 2 ^ t < 4294967296) :
  bits .or .i64 (wrap64 ((x : Int) * 2 ^ min t 64)) (bits .and .i64 m (wrap64 (wrap64 (2 ^ min t 64) - 1))) = ((x * 2 ^ t + M % 2 ^ t : Nat) : Int) := by
 subst hm
 rw [show min t 64 = t from by omega]
 have hp : 0 < 2 ^ t := Nat.pow_pos (by omega)
 have h8 : 2 ^ t ≤ 2 ^ 8 := Nat.pow_le_pow_right (by omega) ht
 rw [show (2 : Nat) ^ 8 = 256 from by decide] at h8
 have e1 : (2 : Int) ^ t = ((2 ^ t : Nat) : Int) := by norm_cast
 have e2 : wrap64 (wrap64 ((2 : Int) ^ t) - 1) = 2 ^ t - 1 := by rw [e1]; unfold wrap64; omega
 have e3 : wrap64 ((x : Int) * 2 ^ t) = ((x * 2 ^ t : Nat) : Int) := by
  have : (x : Int) * 2 ^ t = ((x * 2 ^ t : Nat) : Int) := by norm_cast
  rw [this]
  unfold wrap64
  omega
 have e63 : (2 : Int) ^ 63 = 9223372036854775808 := by decide
 have hwr : ∀ n : Int, 0 ≤ n → n < 2 ^ 63 → IntKind.i64.wrap n = n := fun n h0 h1 => by
  rw [e63] at h1
  rw [IntKind.wrap_i64]
  omega
 rw [e2, bits_mask .i64 63 (by decide) hwr t (by omega) (M : Int) (by omega) (by rw [e63]; omega), e3]
 have e4 : (M : Int) % 2 ^ t = ((M % 2 ^ t : Nat) : Int) := by rw [e1]; exact (Int.natCast_emod _ _).symm
 have hlt : M % 2 ^ t < 2 ^ t := Nat.mod_lt _ hp
 rw [e4, bits_join .i64 63 (by decide) hwr t ((x * 2 ^ t : Nat) : Int) ((M % 2 ^ t : Nat) : Int) (by omega) (by rw [e1, ← Int.natCast_emod, Nat.mul_mod_left]; rfl) (by rw [e63]; omega) (by omega) (by rw [e1]; exact_mod_cast hlt) (by rw [e63]; omega)]
 omega
theorem row_next (l : List UInt8) (p k t : Nat) (hp : p ≤ k) (hq : k / 8 < l.length) (ht : k % 8 + t ≤ 8) :
  num (((yag l).drop p).take (k + t - p)) = num (((yag l).drop p).take (k - p)) * 2 ^ t + l[k / 8].toNat / 2 ^ (8 - k % 8 - t) % 2 ^ t := by
 have h1 := row_mid l (k / 8) (k % 8) t hq ht
 rw [Nat.div_add_mod] at h1
 rw [show k + t - p = (k - p) + t from by omega, List.take_add, List.drop_drop, show p + (k - p) = k from by omega, h1, ybP, yad, ycK]
theorem row_bound (l : List UInt8) (p k t : Nat) (h : k - p + t ≤ 32) : num (((yag l).drop p).take (k - p)) * 2 ^ t < 4294967296 := by
 have h1 := ydV (l := ((yag l).drop p).take (k - p)) (fun d hd => ycX l d (List.mem_of_mem_drop (List.mem_of_mem_take hd)))
 have h2 : 2 ^ (((yag l).drop p).take (k - p)).length ≤ 2 ^ (k - p) := Nat.pow_le_pow_right (by omega) (by simp; omega)
 have h3 : num (((yag l).drop p).take (k - p)) * 2 ^ t < 2 ^ (k - p) * 2 ^ t := Nat.mul_lt_mul_of_pos_right (by omega) (Nat.pow_pos (by omega))
 rw [← Nat.pow_add] at h3
 have h4 : 2 ^ (k - p + t) ≤ 2 ^ 32 := Nat.pow_le_pow_right (by omega) h
 rw [show (2 : Nat) ^ 32 = 4294967296 from by decide] at h4
 omega
set_option maxRecDepth 100000 in
set_option maxHeartbeats 2000000 in
theorem number_any (l : List UInt8) (p W g : Nat) (at0 : Int) (w : World) (hl : l.length ≤ 1099511627776) (hp : p + W ≤ 8 * l.length) (hW : W ≤ 32) (hB : Blk w g 134 #[.string ⟨l.toArray⟩, .int .i64 at0]) :
  Calls Tryz.prog 126 #[.pointer (some ⟨g, 0, none⟩), .int .i64 p, .int .i64 W] w fun e w' => e = .returned (.int .i64 (num (((yag l).drop p).take W))) ∧ ∃ k, w.drewN k = w' := by
 have hll : (l.length : Int) ≤ 1099511627776 := by omega
 have hpl : (p : Int) ≤ 8796093022208 := by omega
 have hWi : (W : Int) ≤ 32 := by omega
 go_enter Tryz.func126, Tryz.ntmps126
 go_wp2
 go_loopw [1, 7] (fun a n wr => ∃ k x : Nat, p ≤ k ∧ k ≤ p + W ∧ a = .int .i64 k ∧ n = .int .i64 x ∧ Hid (x = num (((yag l).drop p).take (k - p))) ∧ Hid (∃ d, w.drewN d = wr)) (fun a _ _ => (p + W) - (intOf a).toNat)
 case atStart => exact ⟨p, 0, by omega, by omega, rfl, rfl, by rw [Nat.sub_self]; rfl, 0, rfl⟩
 case round =>
  obtain ⟨k, x, hk0, hk, rfl, rfl, Hx, d, rfl⟩ := hrel
  obtain ⟨c1, c2, _, _⟩ := hB.two
  by_cases hlt : k < p + W
  ·have h1 : (k : Int) < p + W := by omega
   have hq : k / 8 < l.length := by omega
   have hqi : 0 ≤ (k : Int) / 8 ∧ (k : Int) / 8 < l.length := by omega
   have hki : (k : Int) ≤ 8796093022208 := by omega
   have hby := u8_lt l[k / 8]
   by_cases hpart : 8 - (k : Int) % 8 ≤ p + W - k
   ·have hn := row_next l p k (8 - k % 8) hk0 hq (by omega)
    have hbd := row_bound l p k (8 - k % 8) (by omega)
    have ht8 : 8 - k % 8 ≤ 8 ∧ k + (8 - k % 8) ≤ p + W ∧ 0 < 8 - k % 8 := by omega
    rw [← Hx.out] at hn hbd
    rw [show 8 - k % 8 - (8 - k % 8) = 0 from by omega, Nat.pow_zero, Nat.div_one] at hn
    have Hn := Lib.hid hn
    have Hbd := Lib.hid hbd
    have Ht8 := Lib.hid ht8
    have Hby := Lib.hid hby
    clear hn hbd ht8 hby
    go_wp2
    rw [show (8 - (k : Int) % 8) = ((8 - k % 8 : Nat) : Int) from by omega]
    generalize 8 - k % 8 = t at *
    go_quiet (fail)
    have ht9 : (t : Int) ≤ 8 := by have := Ht8.out; omega
    go_wp2
    go_roundw
    case rel =>
     have h8 := Ht8.out
     have hby := Hby.out
     refine ⟨k + t, _, by omega, by omega, iv (by omega), iv (nread x l[k / 8].toNat t _ ?_ hby h8.1 Hbd.out), Hn.out.symm, d + _, rfl⟩
     rw [ycZ]
     unfold wrap64
     omega
    case measure =>
     have h8 := Ht8.out
     simp only [intOf]
     omega
   ·have hn := row_next l p k (p + W - k) hk0 hq (by omega)
    have hbd := row_bound l p k (p + W - k) (by omega)
    rw [← Hx.out] at hn hbd
    have ht8 : p + W - k ≤ 8 ∧ p + W - k ≤ 8 - k % 8 ∧ k + (p + W - k) = p + W ∧ 0 < p + W - k := by omega
    have Hn := Lib.hid hn
    have Hbd := Lib.hid hbd
    have Ht8 := Lib.hid ht8
    have Hby := Lib.hid hby
    clear hn hbd ht8 hby
    go_wp2
    rw [show (8 - (k : Int) % 8) = ((8 - k % 8 : Nat) : Int) from by omega, show ((p : Int) + W - k) = ((p + W - k : Nat) : Int) from by omega]
    have hle : (p + W - k ≤ 8 - k % 8) ∧ 8 - k % 8 ≤ 8 := by omega
    generalize 8 - k % 8 = bh at *
    generalize p + W - k = t at *
    have hws : IntKind.i64.wrap ((bh : Int) - t) = ((bh - t : Nat) : Int) := by rw [IntKind.wrap_i64]; omega
    have Hle := Lib.hid hle
    clear hle
    go_quiet (fail)
    have ht9 : (t : Int) ≤ 8 := by have := Ht8.out; omega
    go_wp2
    go_roundw
    case rel =>
     have h8 := Ht8.out
     have hby := Hby.out
     have hle := Hle.out
     have hdv : l[k / 8].toNat / 2 ^ (bh - t) ≤ l[k / 8].toNat := Nat.div_le_self _ _
     refine ⟨k + t, _, by omega, by omega, iv (by omega), iv (nread x (l[k / 8].toNat / 2 ^ (bh - t)) t _ ?_ (by omega) h8.1 Hbd.out), Hn.out.symm, d + _, rfl⟩
     rw [ycZ, show min (bh - t) 64 = bh - t from by omega, show wrap64 (l[k / 8].toNat : Int) = (l[k / 8].toNat : Int) from by unfold wrap64; omega]
     norm_cast
    case measure =>
     have h8 := Ht8.out
     simp only [intOf]
     omega
  ·obtain rfl : k = p + W := by omega
   go_wp2
   go_ret
   refine ⟨congrArg Ending.returned (iv ?_), d, rfl⟩
   rw [Hx.out, show p + W - p = W from by omega]
def RHold (w : World) (g : Nat) (l : List UInt8) (p : Nat) : Prop := Blk w g 134 #[.string ⟨l.toArray⟩, .int .i64 p]
section
variable {w w' : World} {g : Nat} {l : List UInt8} {p : Nat} {S : Nat → Prop}
theorem RHold.drewN (h : RHold w g l p) (n : Nat) : RHold (w.drewN n) g l p := h
theorem RHold.go (h : RHold w g l p) (n : Nat) (q : Int) (e : q = ((p + n : Nat) : Int)) : RHold (w.setCell ⟨g, 1, none⟩ (.int .i64 q)) g l (p + n) := by
 subst e
 exact Blk.set_ h 1 _
end
set_option maxRecDepth 100000 in
set_option maxHeartbeats 1000000 in
theorem get_yes (l : List UInt8) (p W g : Nat) (w : World) (hl : l.length ≤ 1099511627776) (hp : p + W ≤ 8 * l.length) (hW : W ≤ 32) (hB : RHold w g l p) :
  Calls Tryz.prog 89 #[.pointer (some ⟨g, 0, none⟩), .int .i64 W] w fun e w' => e = .returned (.tuple #[.int .i64 (num (((yag l).drop p).take W)), .int .i64 0]) ∧ RHold w' g l (p + W) ∧ Touch w w' (fun k => k = g) := by
 have hnum := fun v hB => number_any l p W g p v hl hp hW hB
 have hleft := fun v hB => ybV l p g v (by omega) (by omega) hB
 have hle : (W : Int) ≤ ((8 * l.length - p : Nat) : Int) := by omega
 have hWi : (W : Int) ≤ 32 := by omega
 have hpl : (p : Int) ≤ 8796093022208 := by omega
 have hg := Blk.lt hB
 obtain ⟨c1, c2, z1, z2⟩ := Blk.two hB
 have HB := Lib.hid hB
 clear hB hl hp
 generalize num (((yag l).drop p).take W) = N at *
 generalize 8 * l.length - p = M at *
 go_enter Tryz.func89, Tryz.ntmps89
 go_wp2_with (first
  | (go_at_call 90; refine (ycw g _).mono ?_; rintro e w1 ⟨rfl, rfl⟩)
  | (go_at_call 91; refine (hleft _ HB.out).mono ?_; rintro e w1 ⟨rfl, k1, rfl⟩)
  | (go_at_call 126; refine (hnum _ (HB.out.drewN _)).mono ?_; rintro e w1 ⟨rfl, k2, rfl⟩))
 go_ret2
 exact ⟨rfl, RHold.go (HB.out.drewN _) W _ (by omega), ((Touch.refl w (fun k => k = g)).drewN _).set (p := ⟨g, 1, none⟩) (Or.inl rfl) _⟩
set_option maxRecDepth 100000 in
set_option maxHeartbeats 1000000 in
theorem get_no (l : List UInt8) (p g : Nat) (width e : Int) (w : World) (hl : l.length ≤ 1099511627776) (hp : p ≤ 8 * l.length) (hB : RHold w g l p) (he : (ybv (yag l) p width).2 = e) (hne : e ≠ 0) :
  Calls Tryz.prog 89 #[.pointer (some ⟨g, 0, none⟩), .int .i64 width] w fun r w' => r = .returned (.tuple #[.int .i64 0, .int .i64 e]) ∧ ∃ k, w.drewN k = w' := by
 by_cases h1 : width < 0
 ·have : e = 2 := by rw [← he]; unfold ybv; rw [if_pos (Or.inl h1)]
  subst this
  clear he hne hl
  go_enter Tryz.func89, Tryz.ntmps89
  go_wp2
  go_ret2
  exact ⟨rfl, 0, rfl⟩
 ·by_cases h2 : 32 < width
  ·have : e = 2 := by rw [← he]; unfold ybv; rw [if_pos (Or.inr h2)]
   subst this
   clear he hne hl
   go_enter Tryz.func89, Tryz.ntmps89
   go_wp2
   go_ret2
   exact ⟨rfl, 0, rfl⟩
  ·by_cases h3 : (p : Int) + width > (yag l).length
   ·have : e = 4 := by rw [← he]; unfold ybv; rw [if_neg (by omega), if_pos h3]
    subst this
    rw [yay] at h3
    have hleft := fun v hB => ybV l p g v (by omega) (by omega) hB
    have hle : ((8 * l.length - p : Nat) : Int) < width := by omega
    clear he hne hl h3
    have HB := Lib.hid hB
    clear hB hp
    generalize 8 * l.length - p = M at *
    go_enter Tryz.func89, Tryz.ntmps89
    go_wp2_with (first
     | (go_at_call 90; refine (ycw g _).mono ?_; rintro e w1 ⟨rfl, rfl⟩)
     | (go_at_call 91; refine (hleft _ HB.out).mono ?_; rintro e w1 ⟨rfl, k1, rfl⟩))
    go_ret2
    exact ⟨rfl, k1, rfl⟩
   ·exfalso
    apply hne
    rw [← he]
    unfold ybv
    rw [if_neg (by omega), if_neg h3]
end Go.Proofs.YtoinjdmlembgeaaGreat
