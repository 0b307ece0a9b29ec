/-
 What the law of the last of these texts stands on, part 12.
-/
import Derived.Test.YtanjhbkbpalnaaaGreatMb08
import Derived.Test.YtanjhbkbpalnaaaGreatMb11
import Derived.Deep.Strs
set_option maxRecDepth 100000
set_option maxHeartbeats 8000000
open Go.Proofs.Tryz
namespace Go.Proofs.YtanjhbkbpalnaaaGreat
set_option linter.unusedSimpArgs false
set_option linter.unusedVariables false
open Go.ChangeShapes Go.WideShapes Go.ChangeAt Go.RowKit Go.Joins Go.Deep
def bch (x : Int) : UInt8 := UInt8.ofNat x.toNat
theorem bch_nat (b : UInt8) : bch (b.toNat : Int) = b := by
 unfold bch
 rw [qap]
 exact UInt8.ofNat_toNat
def bout (c : List Int) : Nat → List UInt8
 | 0 => []
 | k + 1 => bch (c.getD (bro c k) 0) :: bout c k
def bok (l : List UInt8) (r : Nat) : Bool := (List.range l.length).all (fun k => decide (bro (bcol l r) k ≠ r)) && decide (bro (bcol l r) l.length = r)
theorem bok_iff (l : List UInt8) (r : Nat) : bok l r = true ↔ (∀ k, k < l.length → bro (bcol l r) k ≠ r) ∧ bro (bcol l r) l.length = r := by
 unfold bok
 rw [qb6, qby, qbq]
 constructor
 ·rintro ⟨h1, h2⟩
  exact ⟨fun k hk => qb7 (h1 k (qbk.2 hk)), h2⟩
 ·rintro ⟨h1, h2⟩
  exact ⟨fun k hk => qaP (h1 k (qbk.1 hk)), h2⟩
def bbad (l : List UInt8) (r : Int) : Prop := (l.length = 0 ∧ r ≠ 0) ∨ (0 < l.length ∧ (r < 1 ∨ (l.length : Int) < r))
instance (l : List UInt8) (r : Int) : Decidable (bbad l r) := by unfold bbad; infer_instance
def btF (s : List UInt8) : List UInt8 × Int × Int := if 20000 < s.length then ([], 0, 3) else (yaW s, (bpr s : Int), 0)
def biF (l : List UInt8) (r : Int) : List UInt8 × Int := if 20000 < l.length then ([], 3) else if bbad l r then ([], 130) else if bok l r.toNat = true then (bout (bcol l r.toNat) l.length, 0) else ([], 130)
theorem bpr_good (s : List UInt8) : ¬ bbad (yaW s) (bpr s) := by
 unfold bbad
 rw [yaZ]
 have h1 := bpr_le s
 have h2 := bpr_pos s
 rintro (⟨h3, h4⟩ | ⟨h3, h4⟩)
 ·omega
 ·have := h2 h3
  omega
theorem bout_back (s : List UInt8) : ∀ k, k ≤ s.length → bout (sbw s) k = s.drop (s.length - k)
 | 0, _ => by
  rw [Nat.sub_zero, qc3]
  rfl
 | k + 1, hk => by
  obtain ⟨h, e⟩ := bwalk s k (by omega)
  show bch ((sbw s).getD (bro (sbw s) k) 0) :: bout (sbw s) k = _
  rw [bout_back s k (by omega), sbw_get s _ h, e, qa3 (show s.length - (k + 1) < s.length by omega), show s.length - (k + 1) + 1 = s.length - k from by omega]
  unfold bval
  have e9 : s.length - k - 1 = s.length - (k + 1) := by omega
  rw [qag (by omega), bch_nat, e9, qaw, qan (by omega)]
  rfl
theorem bok_back (s : List UInt8) : bok (yaW s) (bpr s) = true := by
 rw [bok_iff, bcol_sbw, yaZ]
 obtain ⟨h0, e0⟩ := bpr_get s
 constructor
 ·intro k hk e
  obtain ⟨h, e2⟩ := bwalk s k (by omega)
  simp only [e] at e2
  omega
 ·obtain ⟨h, e2⟩ := bwalk s s.length (qaf _)
  exact sarr_inj s _ _ h h0 (by omega)
theorem bback (s : List UInt8) (h : s.length ≤ 20000) : biF (yaW s) (bpr s) = (s, 0) := by
 unfold biF
 rw [qag (by rw [yaZ]; omega), qag (bpr_good s), qap, qah (bok_back s), bcol_sbw, yaZ, bout_back s _ (qaf _), Nat.sub_self]
 rfl
theorem yeF : ∀ l : List Int, yaq l ≤ yax l ∧ yax l ≤ 16384 * yaq l
 | [] => by simp [yaq, yax]
 | x :: t => by
  obtain ⟨h1, h2⟩ := yeF t
  have e : yaq (x :: t) = (if 0 < x then 1 else 0) + yaq t := by
   unfold yaq
   rw [qaG]
   by_cases h : 0 < x
   ·rw [qah (by simpa using h), qah h, qau]; omega
   ·rw [qag (by simpa using h), qag h]; omega
  rw [e]
  show _ ≤ (if 0 < x then 2 ^ (15 - x.toNat) else 0) + yax t ∧ _
  by_cases h : 0 < x
  ·rw [qah h, qah h]
   have h3 : (2 : Nat) ^ (15 - x.toNat) ≤ 2 ^ 14 := qaF (by omega) (by omega)
   have h4 : 0 < (2 : Nat) ^ (15 - x.toNat) := qbu (by omega)
   constructor
   ·omega
   ·show (if 0 < x then 2 ^ (15 - x.toNat) else 0) + yax t ≤ _
    rw [qah h]
    omega
  ·rw [qag h, qag h]
   constructor
   ·omega
   ·show (if 0 < x then 2 ^ (15 - x.toNat) else 0) + yax t ≤ _
    rw [qag h]
    omega
theorem lcheck_ref (l : List Int) : ycr l = ya6 l := by
 unfold ycr ya6
 by_cases h : 257 < l.length
 ·rw [qah h, qah h]
 ·rw [qag h, qag h]
  obtain ⟨h1, h2⟩ := yeF l
  unfold sumF yfi
  by_cases hg : ydq l = true
  ·rw [qah hg, qah hg]
   by_cases u0 : yaq l = 0
   ·rw [qah u0, qah (by omega), qah (by omega)]
   ·rw [qag u0]
    by_cases u1 : yaq l = 1
    ·rw [qah u1]
     by_cases hp : (yax l : Int) = 16384
     ·rw [qah hp, qah (by omega)]
     ·rw [qag hp, qag (by omega)]
    ·rw [qag u1]
     by_cases hp : (yax l : Int) = 32768
     ·rw [qah hp, qah (by omega)]
     ·rw [qag hp, qag (by omega)]
  ·rw [qag hg, qag hg, qag (by omega)]
theorem cwords_fit (l : List Int) : ∀ f ∈ (ybL l).1, fits f.1 f.2 := by
 unfold ybL
 by_cases h0 : ya6 l = 0
 ·rw [qah h0]
  obtain ⟨hl, hg, hca⟩ := yek h0
  intro f hf
  obtain ⟨j, hj, rfl⟩ := qbM.1 (show f ∈ wat (l.map Int.toNat) 16 0 from hf)
  have hjl := qbk.1 hj
  have hjl2 : j < l.length := by simpa using hjl
  have hgd : (l.map Int.toNat).getD j 0 = (l.map Int.toNat)[j] := by rw [qaw, qan hjl]; rfl
  have hle : (l.map Int.toNat)[j] ≤ 15 := by
   have := yaY hg j hjl2
   rw [qbB]
   omega
  unfold cat1
  rw [hgd]
  by_cases hp : 0 < (l.map Int.toNat)[j] ∧ ((l.map Int.toNat)[j] < 16 ∨ ((l.map Int.toNat)[j] = 16 ∧ j < 0))
  ·rw [qah hp]
   have hlt := cword_lt (ls := l.map Int.toNat) (l.map Int.toNat)[j] j hjl rfl ⟨hp.1, hle⟩ hca
   refine ⟨by show (0 : Int) ≤ _; omega, by show (_ : Int) ≤ 32; omega, by show (0 : Int) ≤ _; omega, ?_⟩
   show ((ybP (l.map Int.toNat) (l.map Int.toNat)[j] j : Nat) : Int) < 2 ^ (((l.map Int.toNat)[j] : Nat) : Int).toNat
   rw [qap]
   exact_mod_cast hlt
  ·rw [qag hp]
   exact ⟨by decide, by decide, by decide, by decide⟩
 ·rw [qag h0]
  intro f hf
  cases hf
theorem ydF {ws : List (Int × Int)} (hf : ∀ f ∈ ws, fits f.1 f.2) (s : Int) : (yaD ws s).1.length ≤ 32 ∧ Bin (yaD ws s).1 := by
 unfold yaD
 by_cases h : 0 ≤ s ∧ s < ws.length ∧ (ws.getD s.toNat (0, 0)).2 ≠ 0
 ·rw [qah h]
  have hk : s.toNat < ws.length := by omega
  have hgd : ws.getD s.toNat (0, 0) = ws[s.toNat] := by rw [qaw, qan hk]; rfl
  have hfit := hf _ (qam hk)
  rw [← hgd] at hfit
  refine ⟨?_, yc4 _ _⟩
  show (digI _ _).length ≤ 32
  unfold digI
  rw [yai]
  have := hfit.2.1
  omega
 ·rw [qag h]
  exact ⟨qcj _, ye3⟩
def cunp (ws : List (Int × Int)) (L : List Nat) : Nat → Nat → List Int → List Int × Nat × Int
 | 0, p, acc => (acc, p, 0)
 | i + 1, p, acc => if (ydB ws L p).2.2 = 0 then cunp ws L i (p + (ydB ws L p).2.1.toNat) (acc ++ [(ydB ws L p).1]) else (acc, p, (ydB ws L p).2.2)
theorem ygs (ws : List (Int × Int)) (L : List Nat) (i p : Nat) (acc : List Int) : cunp ws L (i + 1) p acc = if (ydB ws L p).2.2 = 0 then cunp ws L i (p + (ydB ws L p).2.1.toNat) (acc ++ [(ydB ws L p).1]) else (acc, p, (ydB ws L p).2.2) := rfl
def v15 (R : List Nat) : Nat := num ((R ++ List.replicate 15 0).take 15)
theorem bin_zeros (n : Nat) : Bin (List.replicate n 0) := fun d hd => by rw [List.eq_of_mem_replicate hd]; omega
theorem v15_take {R : List Nat} (hb : Bin R) (n : Nat) (hn : n ≤ 15) (hl : n ≤ R.length) : num (R.take n) = v15 R / 2 ^ (15 - n) := by
 have e : (R ++ List.replicate 15 0).take 15 = R.take n ++ ((R ++ List.replicate 15 0).drop n).take (15 - n) := by
  conv => lhs; rw [show 15 = n + (15 - n) from by omega]
  rw [List.take_add, qb5 hl, show n + (15 - n) = 15 from by omega]
 have hr : Bin (((R ++ List.replicate 15 0).drop n).take (15 - n)) := fun d hd => (hb.app (bin_zeros 15)) d (qbG (qaV hd))
 have hrl : (((R ++ List.replicate 15 0).drop n).take (15 - n)).length = 15 - n := by simp; omega
 have h1 := num_lt hr
 rw [hrl] at h1
 unfold v15
 rw [e, ydo, hrl, qbx, Nat.mul_add_div (qbu (by omega)), Nat.div_eq_of_lt h1, qbr]
theorem part_of {v D x : Nat} (h : 0 < D) : v / D = x ↔ x * D ≤ v ∧ v < x * D + D := by
 constructor
 ·intro e
  subst e
  have h1 := Nat.div_add_mod v D
  have h2 := Nat.mod_lt v h
  rw [qbx] at h1
  omega
 ·intro e
  exact Nat.div_eq_of_lt_le e.1 (by rw [qcf, Nat.one_mul]; exact e.2)
theorem begF_all : ∀ (R d : List Nat), (begF R d).2 = true ↔ d.length ≤ R.length ∧ R.take d.length = d
 | R, [] => by cases R <;> simp [begF]
 | [], _ :: _ => by simp [begF]
 | a :: t, b :: u => by
  unfold begF
  by_cases e : a = b
  ·rw [qah e, begF_all t u]
   subst e
   simp
  ·rw [qag e]
   simp [e]
theorem begF_word {R : List Nat} (hb : Bin R) (n x : Nat) (hn : n ≤ 15) (hx : x < 2 ^ n) : (begF R (dig n x)).2 = true ↔ n ≤ R.length ∧ x * 2 ^ (15 - n) ≤ v15 R ∧ v15 R < x * 2 ^ (15 - n) + 2 ^ (15 - n) := by
 rw [begF_all, yai]
 have hD : 0 < (2 : Nat) ^ (15 - n) := qbu (by omega)
 constructor
 ·rintro ⟨hl, e⟩
  refine ⟨hl, (part_of hD).1 ?_⟩
  rw [← v15_take hb n hn hl, e, yd5, Nat.mod_eq_of_lt hx]
 ·rintro ⟨hl, e⟩
  refine ⟨hl, ?_⟩
  have h1 := (part_of hD).2 e
  rw [← v15_take hb n hn hl] at h1
  have h2 := ye7 n (R.take n) (by simp; omega) fun d hd => hb d (qaV hd)
  rw [← h2, h1]
theorem cget1_hit (R : List Nat) (E : Int) : ∀ (ws : List (Int × Int)) (s k : Nat) (E : Int) (hk : k < ws.length), (∀ j (hj : j < ws.length), j < k → ws[j].2 = 0 ∨ (begF R (digI ws[j].1 ws[j].2)).2 = false) → ws[k].2 ≠ 0 → (begF R (digI ws[k].1 ws[k].2)).2 = true → yff ws s R E = (((s + k : Nat) : Int), ((digI ws[k].1 ws[k].2).length : Int), 0)
 | f :: t, s, 0, E, hk, _, h1, h2 => by
  unfold yff
  simp only [List.getElem_cons_zero] at h1 h2 ⊢
  rw [qag h1, qah h2]
  rfl
 | f :: t, s, k + 1, E, hk, h0, h1, h2 => by
  have hf := h0 0 (by simp) (by omega)
  simp only [List.getElem_cons_zero] at hf
  have ih := fun E => cget1_hit R E t (s + 1) k E (by simpa using hk) (fun j hj hjk => by
   have := h0 (j + 1) (by simpa using hj) (by omega)
   simpa only [List.getElem_cons_succ] using this) (by simpa only [List.getElem_cons_succ] using h1) (by simpa only [List.getElem_cons_succ] using h2)
  simp only [List.getElem_cons_succ]
  unfold yff
  by_cases hz : f.2 = 0
  ·rw [qah hz, ih, show s + 1 + k = s + (k + 1) from by omega]
  ·rcases hf with hf | hf
   ·exact absurd hf hz
   ·rw [qag hz, qag (by rw [hf]; decide), ih, show s + 1 + k = s + (k + 1) from by omega]
variable {ls : List Nat}
theorem wat_at (h15 : ∀ x ∈ ls, x ≤ 15) (j : Nat) (hj : j < ls.length) (hj2 : j < (wat ls 16 0).length) : (wat ls 16 0)[j] = if 0 < ls[j] then (((ybP ls ls[j] j : Nat) : Int), ((ls[j] : Nat) : Int)) else (0, 0) := by
 have h := wat_get ls 16 0 j hj
 rw [qan hj2] at h
 injection h with h
 rw [h]
 have hgd : ls.getD j 0 = ls[j] := by rw [qaw, qan hj]; rfl
 have h2 := h15 _ (qam hj)
 unfold cat1
 rw [hgd]
 by_cases hp : 0 < ls[j]
 ·rw [qah hp, qah ⟨hp, qat (by omega)⟩]
 ·rw [qag hp, qag (by omega)]
theorem yg8 (h15 : ∀ x ∈ ls, x ≤ 15) (j : Nat) (hj : j < ls.length) (hj2 : j < (wat ls 16 0).length) (hp : 0 < ls[j]) : digI (wat ls 16 0)[j].1 (wat ls 16 0)[j].2 = dig ls[j] (ybP ls ls[j] j) ∧ (wat ls 16 0)[j].2 ≠ 0 := by
 rw [wat_at h15 j hj hj2, qah hp]
 refine ⟨?_, by show ((ls[j] : Nat) : Int) ≠ 0; omega⟩
 unfold digI
 rw [qap, qap]
theorem wat_none (h15 : ∀ x ∈ ls, x ≤ 15) (j : Nat) (hj : j < ls.length) (hj2 : j < (wat ls 16 0).length) (hp : ¬ 0 < ls[j]) : (wat ls 16 0)[j].2 = 0 := by
 rw [wat_at h15 j hj hj2, qag hp]
theorem yeA (h15 : ∀ x ∈ ls, x ≤ 15) (hc : call ls ≤ 32768) {R : List Nat} (hb : Bin R) (j : Nat) (hj : j < ls.length) (hp : 0 < ls[j]) : (begF R (dig ls[j] (ybP ls ls[j] j))).2 = true ↔ ls[j] ≤ R.length ∧ cpos ls ls[j] j ≤ v15 R ∧ v15 R < cpos ls ls[j] j + 2 ^ (15 - ls[j]) := by
 have h2 := h15 _ (qam hj)
 rw [begF_word hb _ _ h2 (cword_lt ls[j] j hj rfl ⟨hp, h2⟩ hc), yeo _ _ h2]
theorem cget_found (h15 : ∀ x ∈ ls, x ≤ 15) (hc : call ls ≤ 32768) {R : List Nat} (hb : Bin R) (E : Int) (k : Nat) (hk : k < ls.length) (hp : 0 < ls[k]) (hl : ls[k] ≤ R.length) (hv : cpos ls ls[k] k ≤ v15 R ∧ v15 R < cpos ls ls[k] k + 2 ^ (15 - ls[k])) : yff (wat ls 16 0) 0 R E = ((k : Int), (ls[k] : Int), 0) := by
 have hkw : k < (wat ls 16 0).length := by rw [yaO]; exact hk
 have hd := yg8 h15 k hk hkw hp
 rw [cget1_hit R E (wat ls 16 0) 0 k E hkw ?_ hd.2 ?_, hd.1, yai, qaE]
 ·intro j hj hjk
  have hj2 : j < ls.length := by rw [yaO] at hj; exact hj
  by_cases hpj : 0 < ls[j]
  ·right
   rw [(yg8 h15 j hj2 hj hpj).1]
   cases hbb : (begF R (dig ls[j] (ybP ls ls[j] j))).2 with
   | false => rfl
   | true =>
    have := (yeA h15 hc hb j hj2 hpj).1 hbb
    have := cpos_only (v15 R) j k hj2 hk hpj hp this.2 hv
    omega
  ·exact qat (wat_none h15 j hj2 hj hpj)
 ·rw [hd.1]
  exact (yeA h15 hc hb k hk hp).2 ⟨hl, hv⟩
theorem ygz (h15 : ∀ x ∈ ls, x ≤ 15) (hc : call ls ≤ 32768) {R : List Nat} (hb : Bin R) (E : Int) (k : Nat) (hk : k < ls.length) (hp : 0 < ls[k]) (T : List Nat) (hR : R = dig ls[k] (ybP ls ls[k] k) ++ T) : yff (wat ls 16 0) 0 R E = ((k : Int), (ls[k] : Int), 0) := by
 have h : (begF R (dig ls[k] (ybP ls ls[k] k))).2 = true := (begF_all _ _).2 ⟨by rw [hR, qae]; omega, by rw [hR, qb5 (qaf _), qax (qaf _)]⟩
 have h1 := (yeA h15 hc hb k hk hp).1 h
 exact cget_found h15 hc hb E k hk hp h1.1 h1.2
def ybs (ws : List (Int × Int)) (sy : List Int) : List Nat := sy.flatMap fun s => (yaD ws s).1
theorem ydh (ws : List (Int × Int)) (s : Int) (t : List Int) : ybs ws (s :: t) = (yaD ws s).1 ++ ybs ws t := rfl
theorem cword_has (h15 : ∀ x ∈ ls, x ≤ 15) (s : Int) (h : (yaD (wat ls 16 0) s).2 = 0) : ∃ k, ∃ hk : k < ls.length, s = (k : Int) ∧ 0 < ls[k] ∧ (yaD (wat ls 16 0) s).1 = dig ls[k] (ybP ls ls[k] k) := by
 unfold yaD at h ⊢
 by_cases h0 : 0 ≤ s ∧ s < (wat ls 16 0).length ∧ ((wat ls 16 0).getD s.toNat (0, 0)).2 ≠ 0
 ·obtain ⟨k, rfl⟩ := qaK h0.1
  have hkw : k < (wat ls 16 0).length := by omega
  have hk : k < ls.length := by rw [yaO] at hkw; exact hkw
  rw [qah h0]
  rw [qap] at h0 ⊢
  have hgd : (wat ls 16 0).getD k (0, 0) = (wat ls 16 0)[k] := by rw [qaw, qan hkw]; rfl
  rw [hgd] at h0 ⊢
  by_cases hp : 0 < ls[k]
  ·exact ⟨k, hk, rfl, hp, (yg8 h15 k hk hkw hp).1⟩
  ·exact absurd (wat_none h15 k hk hkw hp) h0.2.2
 ·rw [qag h0] at h
  exact absurd h (by decide)
theorem cword_is (h15 : ∀ x ∈ ls, x ≤ 15) (k : Nat) (hk : k < ls.length) (hp : 0 < ls[k]) : yaD (wat ls 16 0) (k : Int) = (dig ls[k] (ybP ls ls[k] k), 0) := by
 have hkw : k < (wat ls 16 0).length := by rw [yaO]; exact hk
 have hd := yg8 h15 k hk hkw hp
 rw [cword_at _ k hkw, qah hd.2, hd.1]
theorem cunp_back (h15 : ∀ x ∈ ls, x ≤ 15) (hc : call ls ≤ 32768) {L : List Nat} (hb : Bin L) : ∀ (sy : List Int) (p : Nat) (acc : List Int) (T : List Nat), (∀ s ∈ sy, (yaD (wat ls 16 0) s).2 = 0) → L.drop p = ybs (wat ls 16 0) sy ++ T → cunp (wat ls 16 0) L sy.length p acc = (acc ++ sy, p + (ybs (wat ls 16 0) sy).length, 0)
 | [], p, acc, T, _, _ => by simp [cunp, ybs]
 | s :: t, p, acc, T, h, hL => by
  obtain ⟨k, hk, rfl, hp, hw⟩ := cword_has h15 s (h s (qaC ..))
  rw [ydh, hw, qak] at hL
  have hg : ydB (wat ls 16 0) L p = ((k : Int), (ls[k] : Int), 0) := ygz h15 hc (fun d hd => hb d (qbG hd)) _ k hk hp _ hL
  have hL2 : L.drop (p + ls[k]) = ybs (wat ls 16 0) t ++ T := by
   rw [← qbA, hL, qbd (by rw [yai]; exact qaf _), qaJ (by rw [yai]; exact qaf _), qbc]
  rw [qau, ygs, hg, qah rfl]
  show cunp _ L t.length (p + ((ls[k] : Nat) : Int).toNat) (acc ++ [(k : Int)]) = _
  rw [qap, cunp_back h15 hc hb t (p + ls[k]) _ T (fun u hu => h u (qaD _ hu)) hL2, ydh, hw, qae, yai, qak, qbD]
  rfl
end Go.Proofs.YtanjhbkbpalnaaaGreat
namespace Go.Proofs.YtanjhbkbpalnaaaGreat
set_option linter.unusedSimpArgs false
set_option linter.unusedVariables false
open Go.ChangeShapes Go.WideShapes Go.ChangeAt Go.RowKit Go.Joins Go.Deep
theorem cnat15 {l : List Int} (hg : ydq l = true) : ∀ x ∈ l.map Int.toNat, x ≤ 15 := by
 intro x hx
 obtain ⟨i, hi, rfl⟩ := qaI hx
 rw [qbB]
 have := yaY hg i (by simpa using hi)
 omega
theorem cpart_used : ∀ l : List Int, yaq l ≤ yax l
 | [] => qaf _
 | x :: t => by
  have ih := cpart_used t
  have hu : yaq (x :: t) = (if 0 < x then 1 else 0) + yaq t := by
   unfold yaq
   by_cases h : 0 < x
   ·rw [qaG, qah (by simpa using h), qah h, qau]; omega
   ·rw [qaG, qag (by simpa using h), qag h]; omega
  show yaq (x :: t) ≤ (if 0 < x then 2 ^ (15 - x.toNat) else 0) + yax t
  rw [hu]
  have : 0 < (2 : Nat) ^ (15 - x.toNat) := qbu (by omega)
  by_cases h : 0 < x
  ·rw [qah h, qah h]; omega
  ·rw [qag h, qag h]; omega
theorem cbits_bin {ws : List (Int × Int)} (hf : ∀ f ∈ ws, fits f.1 f.2) : ∀ sy : List Int, Bin (ybs ws sy)
 | [] => ye3
 | s :: t => by
  rw [ydh]
  exact (ydF hf s).2.app (cbits_bin hf t)
theorem cwords_ok {l : List Int} (h : ya6 l = 0) : ybL l = (wat (l.map Int.toNat) 16 0, 0) := by unfold ybL; rw [qah h]
def trb (x : Int) (c : Nat) : List Nat := digI x 4 ++ gam c
def tbP (x : Int) (c : Nat) : List Int → List Nat
 | [] => trb x c
 | y :: t => if y = x then tbP x (c + 1) t else trb x c ++ tbP y 1 t
def ya3 : List Int → List Nat
 | [] => []
 | x :: t => tbP x 1 t
theorem tbP_run (x : Int) (t : List Int) : ∀ (d c : Nat), tbP x c (List.replicate d x ++ t) = tbP x (c + d) t
 | 0, c => rfl
 | d + 1, c => by
  rw [qb9, qbC]
  show (if x = x then tbP x (c + 1) (List.replicate d x ++ t) else _) = _
  rw [qah rfl, tbP_run x t d (c + 1), show c + 1 + d = c + (d + 1) from by omega]
theorem tbP_stop (x : Int) (c : Nat) : ∀ t : List Int, t.head? ≠ some x → tbP x c t = trb x c ++ ya3 t
 | [], _ => by simp [tbP, ya3]
 | y :: t, h => by
  show (if y = x then tbP x (c + 1) t else trb x c ++ tbP y 1 t) = _
  rw [qag (fun e => h (by rw [e]; rfl))]
  rfl
theorem tbits_run (x : Int) (d : Nat) (t : List Int) (hd : 0 < d) (h : t.head? ≠ some x) : ya3 (List.replicate d x ++ t) = trb x d ++ ya3 t := by
 obtain ⟨k, rfl⟩ : ∃ k, d = k + 1 := ⟨d - 1, by omega⟩
 rw [qb9, qbC]
 show tbP x 1 (List.replicate k x ++ t) = _
 rw [tbP_run, tbP_stop x (1 + k) t h, qcz]
theorem yfO (l : List Int) (x : Int) (i : Nat) : ∀ d, i + d ≤ l.length → (∀ j (hj : j < l.length), i ≤ j → j < i + d → l[j] = x) → l.drop i = List.replicate d x ++ l.drop (i + d)
 | 0, _, _ => rfl
 | d + 1, hk, h => by
  have ih := yfO l x i d (by omega) fun j hj h1 h2 => h j hj h1 (by omega)
  rw [ih, qa3 (by omega : i + d < l.length), h (i + d) (by omega) (by omega) (by omega), List.replicate_succ', qak]
  rfl
theorem tbits_at (l : List Int) (x : Int) (i k : Nat) (hi : i < k) (hk : k ≤ l.length) (h : ∀ j (hj : j < l.length), i ≤ j → j < k → l[j] = x) (hs : ∀ hj : k < l.length, l[k] ≠ x) : ya3 (l.drop i) = trb x (k - i) ++ ya3 (l.drop k) := by
 obtain ⟨d, rfl⟩ : ∃ d, k = i + d := ⟨k - i, by omega⟩
 rw [yfO l x i d hk h, tbits_run x d _ (by omega), qbF]
 intro e
 rcases qaZ (i + d) l.length with e2 | e2
 ·rw [qa3 e2, List.head?_cons] at e
  injection e with e
  exact hs e2 e
 ·rw [qaJ e2] at e
  cases e
theorem trun_end (l : List Int) : ∀ (f i : Nat) (hi : i < l.length), l.length - i ≤ f → ∃ k, i < k ∧ k ≤ l.length ∧ (∀ j (hj : j < l.length), i ≤ j → j < k → l[j] = l[i]) ∧ ∀ hj : k < l.length, l[k] ≠ l[i]
 | 0, i, hi, hf => by omega
 | f + 1, i, hi, hf => by
  by_cases h : ∃ h2 : i + 1 < l.length, l[i + 1] = l[i]
  ·obtain ⟨h2, e⟩ := h
   obtain ⟨k, h3, h4, h5, h6⟩ := trun_end l f (i + 1) h2 (by omega)
   refine ⟨k, by omega, h4, fun j hj a b => ?_, fun hj => by rw [← e]; exact h6 hj⟩
   by_cases ej : j = i
   ·subst ej; rfl
   ·rw [h5 j hj (by omega) b, e]
  ·refine ⟨i + 1, by omega, by omega, fun j hj a b => ?_, fun hj e => h ⟨hj, e⟩⟩
   have : j = i := by omega
   subst this
   rfl
theorem gam_len (n : Nat) (h0 : n ≠ 0) (h : n < 4294967296) : (gam n).length ≤ 63 := by
 have h1 := (ungam_gam n [] h0 h).2
 have h2 := bl_le h0 h
 omega
theorem trb_bin (x : Int) (c : Nat) : Bin (trb x c) := (yc4 _ _).app (gam_bin c)
theorem trb_len (x : Int) (c : Nat) (h0 : c ≠ 0) (h : c < 4294967296) : (trb x c).length ≤ 67 := by
 unfold trb digI
 rw [qae, yai]
 have := gam_len c h0 h
 show 4 + _ ≤ 67
 omega
theorem tbP_bin : ∀ (t : List Int) (x : Int) (c : Nat), Bin (tbP x c t)
 | [], x, c => trb_bin x c
 | y :: t, x, c => by
  show Bin (if y = x then tbP x (c + 1) t else trb x c ++ tbP y 1 t)
  by_cases e : y = x
  ·rw [qah e]; exact tbP_bin t x (c + 1)
  ·rw [qag e]; exact (trb_bin x c).app (tbP_bin t y 1)
theorem tbits_bin : ∀ l, Bin (ya3 l)
 | [] => ye3
 | x :: t => tbP_bin t x 1
theorem tbP_len : ∀ (t : List Int) (x : Int) (c : Nat), 0 < c → c + t.length < 4294967296 → (tbP x c t).length ≤ 67 * (1 + t.length)
 | [], x, c, h0, h => by
  have := trb_len x c (by omega) (by simpa using h)
  show (trb x c).length ≤ 67 * (1 + 0)
  omega
 | y :: t, x, c, h0, h => by
  rw [qau] at h
  show (if y = x then tbP x (c + 1) t else trb x c ++ tbP y 1 t).length ≤ 67 * (1 + (t.length + 1))
  by_cases e : y = x
  ·rw [qah e]
   have := tbP_len t x (c + 1) (by omega) (by omega)
   omega
  ·rw [qag e, qae]
   have h1 := trb_len x c (by omega) (by omega)
   have h2 := tbP_len t y 1 (by omega) (by omega)
   omega
theorem tbits_len (l : List Int) (h : l.length < 4294967290) : (ya3 l).length ≤ 67 * l.length := by
 cases l with
 | nil => exact qcj _
 | cons x t =>
  rw [qau] at h ⊢
  have := tbP_len t x 1 (by omega) (by omega)
  rw [qcz t.length 1]
  exact this
def yc6 (L : List Nat) (n : Nat) : Nat → Nat → Int → List Int → List Int × Nat × Int
 | 0, to, _, out => (out, to, 0)
 | f + 1, to, last, out =>
  if n ≤ out.length then (out, to, 0)
  else if (ycv L to 4).2 ≠ 0 then ([], to, (ycv L to 4).2)
  else if (ycf (L.drop (to + 4))).2.2 ≠ 0 then ([], to, (ycf (L.drop (to + 4))).2.2)
  else if (ycv L to 4).1 = last then ([], to, 5)
  else if (n : Int) - out.length < (ycf (L.drop (to + 4))).1 then ([], to, 40)
  else yc6 L n f (to + 4 + (ycf (L.drop (to + 4))).2.1) (ycv L to 4).1 (out ++ List.replicate (ycf (L.drop (to + 4))).1.toNat (ycv L to 4).1)
def yge (L : List Nat) (p : Nat) (n : Int) : List Int × Nat × Int :=
 if n < 0 ∨ 257 < n then ([], p, 2)
 else if (yc6 L n.toNat (n.toNat + 1) p (-1) []).2.2 ≠ 0 then ([], p, (yc6 L n.toNat (n.toNat + 1) p (-1) []).2.2)
 else if ya6 (yc6 L n.toNat (n.toNat + 1) p (-1) []).1 ≠ 0 then ([], p, ya6 (yc6 L n.toNat (n.toNat + 1) p (-1) []).1)
 else ((yc6 L n.toNat (n.toNat + 1) p (-1) []).1, (yc6 L n.toNat (n.toNat + 1) p (-1) []).2.1, 0)
theorem ye5 (L : List Nat) (n f to : Nat) (last : Int) (out : List Int) : yc6 L n (f + 1) to last out =
  if n ≤ out.length then (out, to, 0)
  else if (ycv L to 4).2 ≠ 0 then ([], to, (ycv L to 4).2)
  else if (ycf (L.drop (to + 4))).2.2 ≠ 0 then ([], to, (ycf (L.drop (to + 4))).2.2)
  else if (ycv L to 4).1 = last then ([], to, 5)
  else if (n : Int) - out.length < (ycf (L.drop (to + 4))).1 then ([], to, 40)
  else yc6 L n f (to + 4 + (ycf (L.drop (to + 4))).2.1) (ycv L to 4).1 (out ++ List.replicate (ycf (L.drop (to + 4))).1.toNat (ycv L to 4).1) := rfl
theorem ydP {l : List Int} (h : ya6 l = 0) : l.length ≤ 257 ∧ ydq l = true := by
 unfold ya6 at h
 by_cases h1 : 257 < l.length
 ·rw [qah h1] at h; cases h
 ·rw [qag h1] at h
  refine ⟨by omega, ?_⟩
  cases hg : ydq l with
  | true => rfl
  | false =>
   unfold sumF at h
   rw [hg] at h
   rw [qag (by simp)] at h
   cases h
theorem bget_four {L : List Nat} (to : Nat) (x : Int) (T : List Nat) (hx : 0 ≤ x ∧ x ≤ 15) (h : L.drop to = digI x 4 ++ T) : ycv L to 4 = (x, 0) := by
 have hl := qbJ List.length h
 have hd : (digI x 4).length = 4 := by unfold digI; rw [yai]; rfl
 rw [qaz, qae, hd] at hl
 unfold ycv
 rw [qag (by omega), qag (by omega), qap, h, show (4 : Int).toNat = 4 from rfl, qb5 (by omega), qax (by omega)]
 unfold digI
 rw [show (4 : Int).toNat = 4 from rfl, yd5, Nat.mod_eq_of_lt (by show _ < 16; omega)]
 congr 1
 omega
theorem tget_back (L : List Nat) (l : List Int) (h15 : ∀ i (h : i < l.length), 0 ≤ l[i] ∧ l[i] ≤ 15) (hl : l.length ≤ 257) (T : List Nat) : ∀ (f i to : Nat) (last : Int), i ≤ l.length → l.length - i < f → (∀ hi : i < l.length, l[i] ≠ last) → L.drop to = ya3 (l.drop i) ++ T → yc6 L l.length f to last (l.take i) = (l, to + (ya3 (l.drop i)).length, 0)
 | 0, i, to, last, hi, hf, _, _ => by omega
 | f + 1, i, to, last, hi, hf, hlast, hL => by
  rw [ye5, qar, qbh hi]
  by_cases hn : l.length ≤ i
  ·rw [qah hn, qaJ hn, qax hn]
   rfl
  ·rw [qag hn]
   have hil : i < l.length := by omega
   obtain ⟨k, h1, h2, h3, h4⟩ := trun_end l (l.length - i) i hil (qaf _)
   have hb := tbits_at l l[i] i k h1 h2 h3 h4
   have hx := h15 i hil
   obtain ⟨x, hxe⟩ : ∃ x, l[i] = x := ⟨_, rfl⟩
   rw [hxe] at hb hx h3 h4
   have hne := hlast hil
   rw [hxe] at hne
   obtain ⟨d, hd⟩ : ∃ d, k - i = d := ⟨_, rfl⟩
   rw [hd] at hb
   rw [hb] at hL ⊢
   unfold trb at hL ⊢
   rw [qak, qak] at hL
   have g1 := bget_four to x _ hx hL
   have g2 : L.drop (to + 4) = gam d ++ (ya3 (l.drop k) ++ T) := by
    rw [← qbA, hL, qbd (by unfold digI; rw [yai]; exact qaf _), qaJ (by unfold digI; rw [yai]; exact qaf _), qbc]
   obtain ⟨g3, g4⟩ := ungam_gam d (ya3 (l.drop k) ++ T) (by omega) (by omega)
   have g5 : l.take i ++ List.replicate d x = l.take k := by
    have := yfO l x i d (by omega) fun j hj a b => h3 j hj a (by omega)
    rw [show k = i + d from by omega, List.take_add, this, qcg (by simp)]
   have g6 : L.drop (to + 4 + (gam d).length) = ya3 (l.drop k) ++ T := by
    rw [← qbA, g2, qbd (qaf _), qaJ (qaf _), qbc]
   rw [g1, g2, g3]
   dsimp only
   rw [qag (by decide), qag (by decide), qag hne, qag (by omega), qap, g5, ← g4, tget_back L l h15 hl T f k _ x h2 (by omega) (fun hk => h4 hk) g6]
   congr 2
   rw [qae, qae]
   unfold digI
   rw [yai]
   show to + 4 + _ + _ = to + (4 + _ + _)
   omega
abbrev Rc := Int × Int × List UInt8
def rmay (r : Rc) : Bool := decide (1 ≤ r.1 ∧ r.1 ≤ 1000000000 ∧ 0 ≤ r.2.1 ∧ r.2.1 ≤ 1000000000 ∧ r.2.2.length ≤ 2000)
theorem ya1 (r : Rc) : rmay r = true ↔ (1 ≤ r.1 ∧ r.1 ≤ 1000000000 ∧ 0 ≤ r.2.1 ∧ r.2.1 ≤ 1000000000 ∧ r.2.2.length ≤ 2000) := qbq
def rchk (r : Rc) : Int := if rmay r = true then 0 else 150
def rB (r : Rc) : List UInt8 := putB r.1 ++ (putB r.2.1 ++ (putB r.2.2.length ++ r.2.2))
def rputF (r : Rc) : List UInt8 × Int := if rmay r = true then (rB r, 0) else ([], 150)
def ydK (r : Rc) : Nat := (rputF r).1.length
def yfL : Rc := (0, 0, [])
def rg3 (s : List UInt8) (x y n c : Int) : Rc × Int × Int :=
 if 1 ≤ x ∧ x ≤ 1000000000 ∧ y ≤ 1000000000 ∧ n ≤ 2000 then (if (s.length : Int) < c + n then (yfL, 0, 4) else ((x, y, (s.drop c.toNat).take n.toNat), c + n, 0)) else (yfL, 0, 150)
def rg2 (s : List UInt8) (x y b : Int) : Rc × Int × Int := if (getF s b).2.2 ≠ 0 then (yfL, 0, (getF s b).2.2) else rg3 s x y (getF s b).1 (getF s b).2.1
def rg1 (s : List UInt8) (x a : Int) : Rc × Int × Int := if (getF s a).2.2 ≠ 0 then (yfL, 0, (getF s a).2.2) else rg2 s x (getF s a).1 (getF s a).2.1
def ya2 (s : List UInt8) (p : Int) : Rc × Int × Int := if (getF s p).2.2 ≠ 0 then (yfL, 0, (getF s p).2.2) else rg1 s (getF s p).1 (getF s p).2.1
theorem ybU (pre rest : List UInt8) (n : Int) (h0 : 0 ≤ n) (h : n < 9223372036854775808) (p : Int) (hp : p = (pre.length : Int)) : getF (pre ++ (putB n ++ rest)) p = (n, (pre.length : Int) + (putB n).length, 0) := by
 subst hp
 have := getF_put pre rest n.toNat (by omega)
 rw [ycq h0, this, Int.toNat_of_nonneg h0]
theorem ygF {s : List UInt8} {p : Int} (h : (getF s p).2.2 = 0) : 0 ≤ p ∧ p ≤ s.length ∧ 0 ≤ (getF s p).1 ∧ (getF s p).1 < 9223372036854775808 ∧ p < (getF s p).2.1 ∧ (getF s p).2.1 ≤ s.length ∧ (s.drop p.toNat).take ((getF s p).2.1 - p).toNat = putB (getF s p).1 := by
 unfold getF at h ⊢
 by_cases hp : 0 ≤ p ∧ p ≤ s.length
 ·rw [qah hp] at h ⊢
  by_cases h2 : (getR (s.drop p.toNat)).2.2 = 0
  ·rw [qah h2]
   obtain ⟨m, hm, e1, e2, e3, e4⟩ := getR_ok _ h2
   rw [qaz] at e3
   simp only
   refine ⟨hp.1, hp.2, by omega, by omega, by omega, by omega, ?_⟩
   rw [e1, ycq (by omega), qap, show (p + ((getR (s.drop p.toNat)).2.1 : Nat) - p : Int).toNat = (getR (s.drop p.toNat)).2.1 from by omega]
   exact e4
  ·rw [qag h2] at h
   exact absurd h h2
 ·rw [qag hp] at h
  simp at h
theorem rput_pos {n : Int} (h : 0 ≤ n) : 0 < (putB n).length := by
 rw [ycq h]
 exact dg_pos 8 _
theorem ybb (n : Int) : (putB n).length ≤ 9 := by
 unfold putB
 split
 ·exact qcj _
 ·exact dg_le 9 _
theorem rget_put (pre rest : List UInt8) (r : Rc) (h : rmay r = true) (p : Int) (hp : p = (pre.length : Int)) : ya2 (pre ++ (rB r ++ rest)) p = (r, (pre.length : Int) + (rB r).length, 0) := by
 rw [ya1] at h
 obtain ⟨x, y, d⟩ := r
 dsimp only at h
 obtain ⟨h1, h2, h3, h4, h5⟩ := h
 have g1 := ybU pre (putB y ++ (putB d.length ++ (d ++ rest))) x (by omega) (by omega) p hp
 have g2 := ybU (pre ++ putB x) (putB d.length ++ (d ++ rest)) y (by omega) (by omega) ((pre.length : Int) + (putB x).length) (by rw [qae]; omega)
 have g3 := ybU ((pre ++ putB x) ++ putB y) (d ++ rest) d.length (by omega) (by omega) (((pre ++ putB x).length : Int) + (putB y).length) (by simp only [qae]; omega)
 have e : pre ++ (rB (x, y, d) ++ rest) = pre ++ (putB x ++ (putB y ++ (putB d.length ++ (d ++ rest)))) := by unfold rB; simp only [qak]
 have e2 : (pre ++ putB x) ++ (putB y ++ (putB d.length ++ (d ++ rest))) = pre ++ (putB x ++ (putB y ++ (putB d.length ++ (d ++ rest)))) := by simp only [qak]
 have e3 : ((pre ++ putB x) ++ putB y) ++ (putB d.length ++ (d ++ rest)) = pre ++ (putB x ++ (putB y ++ (putB d.length ++ (d ++ rest)))) := by simp only [qak]
 rw [e2] at g2
 rw [e3] at g3
 rw [e]
 have e4 : (pre ++ (putB x ++ (putB y ++ (putB d.length ++ (d ++ rest))))).drop (pre.length + (putB x).length + (putB y).length + (putB d.length).length) = d ++ rest := by
  have : pre ++ (putB x ++ (putB y ++ (putB d.length ++ (d ++ rest)))) = (((pre ++ putB x) ++ putB y) ++ putB d.length) ++ (d ++ rest) := by simp only [qak]
  rw [this]
  exact qbZ (by simp only [qae])
 have e5 : (pre ++ (putB x ++ (putB y ++ (putB d.length ++ (d ++ rest))))).length = pre.length + (putB x).length + (putB y).length + (putB d.length).length + d.length + rest.length := by simp only [qae]; omega
 have e6 : ((rB (x, y, d)).length : Int) = (putB x).length + (putB y).length + (putB d.length).length + d.length := by unfold rB; simp only [qae]; omega
 generalize pre ++ (putB x ++ (putB y ++ (putB d.length ++ (d ++ rest)))) = S at *
 unfold ya2
 rw [g1]
 dsimp only
 rw [qag (by simp)]
 unfold rg1
 rw [g2]
 dsimp only
 rw [qag (by simp)]
 unfold rg2
 rw [g3]
 dsimp only
 rw [qag (by simp)]
 unfold rg3
 rw [qah (by omega), qag (by simp only [qae]; omega)]
 simp only [qae]
 refine Prod.ext ?_ (Prod.ext ?_ rfl)
 ·refine Prod.ext rfl (Prod.ext rfl ?_)
  dsimp only
  rw [show (((pre.length + (putB x).length + (putB y).length : Nat) : Int) + (putB (d.length : Int)).length).toNat = pre.length + (putB x).length + (putB y).length + (putB d.length).length from by omega, e4, qap, qcg rfl]
 ·dsimp only
  omega
theorem rget_ok {s : List UInt8} {p : Int} (h : (ya2 s p).2.2 = 0) : 0 ≤ p ∧ p < (ya2 s p).2.1 ∧ (ya2 s p).2.1 ≤ s.length ∧ rmay (ya2 s p).1 = true ∧ (s.drop p.toNat).take ((ya2 s p).2.1 - p).toNat = rB (ya2 s p).1 := by
 unfold ya2 at h ⊢
 by_cases h1 : (getF s p).2.2 ≠ 0
 ·rw [qah h1] at h
  exact absurd h h1
 rw [qag h1] at h ⊢
 obtain ⟨a1, a2, a3, a4, a5, a6, a7⟩ := ygF (s := s) (p := p) (by omega)
 generalize getF s p = u at *
 obtain ⟨x, a, ea⟩ := u
 dsimp only at *
 unfold rg1 at h ⊢
 by_cases h2 : (getF s a).2.2 ≠ 0
 ·rw [qah h2] at h
  exact absurd h h2
 rw [qag h2] at h ⊢
 obtain ⟨b1, b2, b3, b4, b5, b6, b7⟩ := ygF (s := s) (p := a) (by omega)
 generalize getF s a = u at *
 obtain ⟨y, b, eb⟩ := u
 dsimp only at *
 unfold rg2 at h ⊢
 by_cases h3 : (getF s b).2.2 ≠ 0
 ·rw [qah h3] at h
  exact absurd h h3
 rw [qag h3] at h ⊢
 obtain ⟨c1, c2, c3, c4, c5, c6, c7⟩ := ygF (s := s) (p := b) (by omega)
 generalize getF s b = u at *
 obtain ⟨n, c, ec⟩ := u
 dsimp only at *
 unfold rg3 at h ⊢
 by_cases h4 : 1 ≤ x ∧ x ≤ 1000000000 ∧ y ≤ 1000000000 ∧ n ≤ 2000
 ·rw [qah h4] at h ⊢
  by_cases h5 : (s.length : Int) < c + n
  ·rw [qah h5] at h
   cases h
  ·rw [qag h5]
   dsimp only
   have hd : ((s.drop c.toNat).take n.toNat).length = n.toNat := by rw [qar, qaz]; omega
   refine ⟨a1, by omega, by omega, (ya1 _).2 ⟨h4.1, h4.2.1, by dsimp only; omega, h4.2.2.1, by dsimp only; rw [hd]; omega⟩, ?_⟩
   unfold rB
   dsimp only
   rw [hd, Int.toNat_of_nonneg c3, ← a7, ← b7, ← c7]
   have k1 : (c + n - p).toNat = (a - p).toNat + ((b - a).toNat + ((c - b).toNat + n.toNat)) := by omega
   rw [k1, List.take_add, List.take_add, List.take_add, qbA, qbA, qbA, show p.toNat + (a - p).toNat = a.toNat from by omega, show a.toNat + (b - a).toNat = b.toNat from by omega, show b.toNat + (c - b).toNat = c.toNat from by omega]
 ·rw [qag h4] at h
  cases h
def rgo (a b : Rc) : Bool := decide (b.1 = a.1 + 1 ∧ a.2.1 ≤ b.2.1)
theorem rgo_iff (a b : Rc) : rgo a b = true ↔ (b.1 = a.1 + 1 ∧ a.2.1 ≤ b.2.1) := qbq
def ycu (a : Rc) : List Rc → Int
 | [] => 0
 | b :: t => if rmay b = true then (if rgo a b = true then ycu b t else 151) else 150
def ya9 : List Rc → Int
 | [] => 0
 | a :: t => if rmay a = true then ycu a t else 150
theorem yeK {a b : Rc} {t : List Rc} (h : ycu a (b :: t) = 0) : rmay b = true ∧ rgo a b = true ∧ ycu b t = 0 := by
 unfold ycu at h
 by_cases h1 : rmay b = true
 ·rw [qah h1] at h
  by_cases h2 : rgo a b = true
  ·rw [qah h2] at h
   exact ⟨h1, h2, h⟩
  ·rw [qag h2] at h
   cases h
 ·rw [qag h1] at h
  cases h
theorem rrow1_may : ∀ (t : List Rc) (a : Rc), ycu a t = 0 → ∀ r ∈ t, rmay r = true
 | [], a, _, r, hr => by cases hr
 | b :: t, a, h, r, hr => by
  obtain ⟨h1, _, h3⟩ := yeK h
  rcases qa9.1 hr with rfl | hr
  ·exact h1
  ·exact rrow1_may t b h3 r hr
theorem ycS {l : List Rc} (h : ya9 l = 0) : ∀ r ∈ l, rmay r = true := by
 cases l with
 | nil => intro r hr; cases hr
 | cons a t =>
  change (if rmay a = true then ycu a t else 150) = 0 at h
  by_cases h1 : rmay a = true
  ·rw [qah h1] at h
   intro r hr
   rcases qa9.1 hr with rfl | hr
   ·exact h1
   ·exact rrow1_may t a h r hr
  ·rw [qag h1] at h
   cases h
theorem rrow1_app (b : Rc) (u : List Rc) : ∀ (t : List Rc) (a : Rc), ycu a t = 0 → ycu a (t ++ b :: u) = ycu ((a :: t).getLast (by simp)) (b :: u)
 | [], a, _ => rfl
 | c :: t, a, h => by
  obtain ⟨h1, h2, h3⟩ := yeK h
  have ih := rrow1_app b u t c h3
  rw [qbC]
  show (if rmay c = true then (if rgo a c = true then ycu c (t ++ b :: u) else 151) else 150) = _
  rw [qah h1, qah h2, ih]
  rfl
def rjB (l : List Rc) : List UInt8 := l.flatMap rB
theorem yf7 (a : Rc) (l : List Rc) : rjB (a :: l) = rB a ++ rjB l := rfl
theorem rjB_app (a b : List Rc) : rjB (a ++ b) = rjB a ++ rjB b := by unfold rjB; rw [List.flatMap_append]
def yal (l : List Rc) : List UInt8 × Int := if ya9 l ≠ 0 then ([], ya9 l) else if 20000 < (rjB l).length then ([], 3) else (rjB l, 0)
def rsp (s : List UInt8) : Nat → Int → List Rc → List Rc × Int
 | 0, _, acc => (acc, 0)
 | f + 1, p, acc => if p < s.length then (if (ya2 s p).2.2 ≠ 0 then ([], (ya2 s p).2.2) else rsp s f (ya2 s p).2.1 (acc ++ [(ya2 s p).1])) else (acc, 0)
def yag (s : List UInt8) : List Rc × Int :=
 if 20000 < s.length then ([], 3) else if (rsp s s.length 0 []).2 ≠ 0 then ([], (rsp s s.length 0 []).2) else if ya9 (rsp s s.length 0 []).1 ≠ 0 then ([], ya9 (rsp s s.length 0 []).1) else ((rsp s s.length 0 []).1, 0)
theorem rB_pos {r : Rc} (h : rmay r = true) : 0 < (rB r).length := by
 have := rput_pos (n := r.1) (by have := (ya1 r).1 h; omega)
 unfold rB
 rw [qae]
 omega
theorem rjB_count : ∀ {l : List Rc}, (∀ r ∈ l, rmay r = true) → l.length ≤ (rjB l).length
 | [], _ => qcj _
 | a :: l, h => by
  have h1 := rB_pos (h a (qaC ..))
  have ih := rjB_count (l := l) fun r hr => h r (qaD _ hr)
  rw [yf7, qae, qau]
  omega
theorem rsp_back : ∀ (l : List Rc) (f : Nat) (pre : List UInt8) (acc : List Rc), (∀ r ∈ l, rmay r = true) → (rjB l).length ≤ f → rsp (pre ++ rjB l) f pre.length acc = (acc ++ l, 0)
 | [], f, pre, acc, _, _ => by
  have e : pre ++ rjB [] = pre := qa6 pre
  rw [e, qa6]
  cases f with
  | zero => rfl
  | succ f =>
   unfold rsp
   rw [qag (by omega)]
 | a :: l, f, pre, acc, h, hf => by
  have h1 := h a (qaC ..)
  have h2 := rB_pos h1
  rw [yf7, qae] at hf
  cases f with
  | zero => omega
  | succ f =>
   have g := rget_put pre (rjB l) a h1 pre.length rfl
   have ih := rsp_back l f (pre ++ rB a) (acc ++ [a]) (fun r hr => h r (qaD _ hr)) (by omega)
   rw [yf7]
   unfold rsp
   rw [qah (by rw [qae, qae]; omega), g]
   dsimp only
   rw [qag (by simp)]
   rw [qak] at ih
   rw [show ((pre.length : Int) + (rB a).length) = ((pre ++ rB a).length : Int) from by rw [qae]; omega, ih, qak]
   rfl
theorem rback {l : List Rc} (h : (yal l).2 = 0) : yag (yal l).1 = (l, 0) ∧ yal l = (rjB l, 0) ∧ (rjB l).length ≤ 20000 := by
 unfold yal at h ⊢
 by_cases h1 : ya9 l ≠ 0
 ·rw [qah h1] at h
  exact absurd h h1
 rw [qag h1] at h ⊢
 by_cases h2 : 20000 < (rjB l).length
 ·rw [qah h2] at h
  cases h
 rw [qag h2]
 have e := rsp_back l (rjB l).length [] [] (ycS (by omega)) (qaf _)
 rw [qbc, qbc] at e
 refine ⟨?_, rfl, by omega⟩
 unfold yag
 dsimp only
 rw [qag h2]
 have e0 : (([] : List UInt8).length : Int) = 0 := rfl
 rw [e0] at e
 rw [e, qag (by simp)]
 dsimp only
 rw [qag h1]
theorem rsp_ok (s : List UInt8) : ∀ (f : Nat) (p : Int) (acc : List Rc), 0 ≤ p → p ≤ s.length → (s.length : Int) - p ≤ f → (rsp s f p acc).2 = 0 → ∃ l, (rsp s f p acc).1 = acc ++ l ∧ rjB l = s.drop p.toNat
 | 0, p, acc, h0, h1, hf, _ => ⟨[], (qa6 _).symm, by rw [qaJ (by omega)]; rfl⟩
 | f + 1, p, acc, h0, h1, hf, h => by
  unfold rsp at h ⊢
  by_cases hp : p < s.length
  ·rw [qah hp] at h ⊢
   by_cases he : (ya2 s p).2.2 ≠ 0
   ·rw [qah he] at h
    exact absurd h he
   ·rw [qag he] at h ⊢
    obtain ⟨a1, a2, a3, _, a5⟩ := rget_ok (s := s) (p := p) (by omega)
    obtain ⟨l, e1, e2⟩ := rsp_ok s f (ya2 s p).2.1 (acc ++ [(ya2 s p).1]) (by omega) a3 (by omega) h
    refine ⟨(ya2 s p).1 :: l, by rw [e1, qak]; rfl, ?_⟩
    rw [yf7, e2, ← a5]
    have := qa1 ((ya2 s p).2.1 - p).toNat (s.drop p.toNat)
    rw [qbA, show p.toNat + ((ya2 s p).2.1 - p).toNat = (ya2 s p).2.1.toNat from by omega] at this
    exact this
  ·rw [qag hp]
   exact ⟨[], (qa6 _).symm, by rw [qaJ (by omega)]; rfl⟩
theorem rforth {s : List UInt8} (h : (yag s).2 = 0) : yal (yag s).1 = (s, 0) := by
 unfold yag at h ⊢
 by_cases h1 : 20000 < s.length
 ·rw [qah h1] at h
  cases h
 rw [qag h1] at h ⊢
 by_cases h2 : (rsp s s.length 0 []).2 ≠ 0
 ·rw [qah h2] at h
  exact absurd h h2
 rw [qag h2] at h ⊢
 by_cases h3 : ya9 (rsp s s.length 0 []).1 ≠ 0
 ·rw [qah h3] at h
  exact absurd h h3
 rw [qag h3]
 obtain ⟨l, e1, e2⟩ := rsp_ok s s.length 0 [] (by omega) (by omega) (by omega) (by omega)
 have e3 : rjB (rsp s s.length 0 []).1 = s := by rw [e1, qbc, e2]; rfl
 dsimp only
 unfold yal
 rw [qag h3, e3, qag h1]
def rcs (l : List Rc) : List Value := l.flatMap fun r => [.int .i64 r.1, .int .i64 r.2.1, .string ⟨r.2.2.toArray⟩]
theorem rcs_cons (r : Rc) (l : List Rc) : rcs (r :: l) = .int .i64 r.1 :: .int .i64 r.2.1 :: .string ⟨r.2.2.toArray⟩ :: rcs l := rfl
theorem rcs_length (l : List Rc) : (rcs l).length = l.length * 3 := by
 induction l with
 | nil => rfl
 | cons r l ih => rw [rcs_cons]; simp [ih]; omega
theorem rcs_app (a b : List Rc) : rcs (a ++ b) = rcs a ++ rcs b := by simp [rcs]
theorem rcs_at (l : List Rc) : ∀ (i : Nat) (h : i < l.length), (rcs l)[i * 3]? = some (.int .i64 l[i].1) ∧ (rcs l)[i * 3 + 1]? = some (.int .i64 l[i].2.1) ∧ (rcs l)[i * 3 + 2]? = some (.string ⟨l[i].2.2.toArray⟩) := by
 induction l with
 | nil => intro i h; cases h
 | cons r l ih =>
  intro i h
  cases i with
  | zero => exact ⟨rfl, rfl, rfl⟩
  | succ i =>
   rw [rcs_cons, show (i + 1) * 3 = i * 3 + 1 + 1 + 1 from by omega]
   simpa using ih i (by simpa using h)
theorem yaX {w : World} {B n : Nat} {A : Option Addr} {l : List Rc} (hr : Reads w B 3 A n (rcs l)) (hl : l.length = n) (k : Nat) (hk : k < n) :
  ∃ b off, A = some ⟨b, off, none⟩ ∧ b < B ∧ ∀ i (hi : i < l.length), w.cell? ⟨b, off + i * 3, none⟩ = some (.int .i64 l[i].1) ∧ w.cell? ⟨b, off + i * 3 + 1, none⟩ = some (.int .i64 l[i].2.1) ∧ w.cell? ⟨b, off + i * 3 + 2, none⟩ = some (.string ⟨l[i].2.2.toArray⟩) := by
 obtain ⟨b, off, e, hb, hc⟩ := hr.2 (by omega)
 refine ⟨b, off, e, hb, fun i hi => ?_⟩
 obtain ⟨h0, h1, h2⟩ := rcs_at l i hi
 exact ⟨hc _ _ h0, hc _ _ h1, hc _ _ h2⟩
section
variable {H : Type} {enc : TypeId × Value → H} {P : Program} {w : World} {base : Nat} {spare : Nat → Bool} {held : Bool}
theorem open_recs {b0 : Nat} {t e : TypeId} {f0 f1 f2 : Field} {v : Value} {d : DataW H} {p : List MemPlace} (ht : P.underlying t = some (.slice e)) (he : P.underlying e = some (.struct #[f0, f1, f2])) (hone : oneCellFields P #[f0, f1, f2] = true) (ce : P.cellsOf e = 3)
  (h0 : P.underlying f0.type = some (.int .i64)) (h1 : P.underlying f1.type = some (.int .i64)) (h2 : P.underlying f2.type = some .string) (hv : Value.okWide P w .any b0 t v) (h : DataW.Trod enc P w base spare held t v d p) :
  ∃ (A : Option Addr) (n c : Nat) (l : List Rc), v = .slice A n c ∧ l.length = n ∧ n ≤ c ∧ c ≤ maxLen ∧ Reads w w.heap.size 3 A n (rcs l) ∧ ∀ r ∈ l, r.1 < 9223372036854775808 ∧ r.2.1 < 9223372036854775808 := by
 obtain ⟨A, n, c, rfl⟩ := okWide_slice ht hv
 obtain ⟨fuel, hf⟩ := h
 rcases open_slice ht hf with ⟨hcs, _⟩ | ⟨a, len, cap, m, q, D, Pl, hcs, _, hl, hm, hmm, _, hx⟩
 ·simp [Value.cells] at hcs
  obtain ⟨rfl, rfl, rfl⟩ := hcs
  exact ⟨none, 0, 0, [], rfl, rfl, qaf _, qcj _, Reads.none_, by simp⟩
 ·simp [Value.cells] at hcs
  obtain ⟨rfl, rfl, rfl⟩ := hcs
  obtain ⟨o0, c0⟩ := hone_of hone 0 f0 rfl
  obtain ⟨o1, c1⟩ := hone_of hone 1 f1 rfl
  obtain ⟨o2, c2⟩ := hone_of hone 2 f2 rfl
  have each : ∀ i, i < n → ∃ r : Rc, (w.cell? (a.add (i * 3)) = some (.int .i64 r.1) ∧ w.cell? (a.add (i * 3 + 1)) = some (.int .i64 r.2.1) ∧ w.cell? (a.add (i * 3 + 2)) = some (.string ⟨r.2.2.toArray⟩)) ∧ r.1 < 9223372036854775808 ∧ r.2.1 < 9223372036854775808 := fun i hi => by
   obtain ⟨cs, g, ht2⟩ := hx i (by rw [hmm]; split <;> omega)
   obtain ⟨y0, y1, y2, m2, -, hlen, k0, k1, k2⟩ := trod_struct3 he ht2
   rw [ce] at g hlen
   obtain ⟨-, -, hc⟩ := World.cells?_some g
   match cs, hlen with
   | [u0, u1, u2], _ =>
    simp [o0, c0] at k0
    simp [o1, c1] at k1
    simp [o2, c2] at k2
    obtain ⟨x, e0, _, wx⟩ := DataW.trod_int h0 k0
    obtain ⟨y, e1, _, wy⟩ := DataW.trod_int h1 k1
    obtain ⟨s, e2, _, _⟩ := DataW.trod_string h2 k2
    simp at e0 e1 e2
    subst e0 e1 e2
    have q0 := hc 0 (by omega)
    have q1 := hc 1 (by omega)
    have q2 := hc 2 (by omega)
    rw [add_of_add] at q0 q1 q2
    refine ⟨(x, y, s.data.toList), ⟨by simpa using q0, by simpa using q1, ?_⟩, ?_, ?_⟩
    ·rw [← ba_list]
     simpa using q2
    ·exact Int.lt_of_le_of_lt (bounds_i64 wx).2 (by decide)
    ·exact Int.lt_of_le_of_lt (bounds_i64 wy).2 (by decide)
  obtain ⟨f, hf2⟩ := choose_lt each
  refine ⟨some a, n, c, (List.range n).map f, rfl, by simp, hl, hm, ⟨by rw [rcs_length]; simp, fun hn => ?_⟩, fun r hr => ?_⟩
  ·have h3 := (hf2 0 hn).1.1
   have hlt0 := cell_lt h3
   have hsp0 : a.spot = none := by simpa [Addr.add] using World.cell?_spot h3
   obtain ⟨b, off, sp⟩ := a
   simp only at hsp0
   subst hsp0
   refine ⟨b, off, rfl, by simpa [block_of_add] using hlt0, fun j u hu => ?_⟩
   rw [← yc9]
   have hj : j < n * 3 := by
    have := (qcr.1 hu).1
    rw [rcs_length] at this
    simpa using this
   obtain ⟨i, hi, hj2⟩ : ∃ i, i < n ∧ (j = i * 3 ∨ j = i * 3 + 1 ∨ j = i * 3 + 2) := ⟨j / 3, by omega, by omega⟩
   obtain ⟨g0, g1, g2⟩ := rcs_at ((List.range n).map f) i (by simp; omega)
   have hfi := (hf2 i hi).1
   rcases hj2 with rfl | rfl | rfl
   ·rw [g0] at hu
    injection hu with hu
    subst hu
    simpa using hfi.1
   ·rw [g1] at hu
    injection hu with hu
    subst hu
    simpa using hfi.2.1
   ·rw [g2] at hu
    injection hu with hu
    subst hu
    simpa using hfi.2.2
  ·obtain ⟨i, hi, rfl⟩ := qbM.1 hr
   exact (hf2 i (qbk.1 hi)).2
end
def hd : Nat → Nat → List UInt8
 | 0, _ => []
 | f + 1, n => UInt8.ofNat (128 + n % 128) :: hd f (n / 128)
theorem ydM : ∀ f n, (hd f n).length = f
 | 0, _ => rfl
 | f + 1, n => by simp [hd, ydM f]
theorem hd_snoc : ∀ f n, hd (f + 1) n = hd f n ++ [UInt8.ofNat (128 + n / 128 ^ f % 128)]
 | 0, n => by simp [hd]
 | f + 1, n => by
  have := hd_snoc f (n / 128)
  rw [hd, this, hd, qbI, qaO, qbx 128]
  rfl
theorem dg_hd : ∀ f n, n < 128 ^ (f + 1) → ∃ j, j ≤ f ∧ dg (f + 1) n = hd j n ++ [UInt8.ofNat (n / 128 ^ j)] ∧ n / 128 ^ j < 128
 | f, n, h => by
  by_cases h1 : n < 128
  ·exact ⟨0, by omega, by simp [dg, h1, hd], by simpa using h1⟩
  ·cases f with
   | zero => simp at h; omega
   | succ f =>
    have hdiv : n / 128 < 128 ^ (f + 1) := by rw [qb1 (by omega)]; rw [qaO] at h; exact h
    obtain ⟨j, hj, e, hq⟩ := dg_hd f (n / 128) hdiv
    have e2 : n / 128 / 128 ^ j = n / 128 ^ (j + 1) := by rw [qbI, qaO, qbx 128]
    rw [e2] at e hq
    refine ⟨j + 1, by omega, ?_, hq⟩
    rw [dg, qag h1, e]
    rfl
theorem yc2 : (prog.info? 5).map (fun i => (i.zero, i.size, i.bytes)) = some (some (.int .u8 0), 1, 1) := by kernel_rfl
theorem lay_any (n N : Nat) (pre mid post : List UInt8) (g : Nat) (w : World) (hn : n < 9223372036854775808) (hm : mid.length = (dg 9 n).length) (hN : pre.length + mid.length + post.length = N) (hB : Blk w g 5 (bc (pre ++ (mid ++ post)))) (hmax : N ≤ 4611686018427387904) :
  Calls prog 138 #[.slice (some ⟨g, 0, none⟩) N N, .int .i64 pre.length, .int .i64 n] w fun e w' => e = .returned (.int .i64 ((pre.length + (dg 9 n).length : Nat) : Int)) ∧ Blk w' g 5 (bc (pre ++ (dg 9 n ++ post))) ∧ Below g w w' := by
 obtain ⟨i0, hi, hz0, hz1, hz2⟩ := qbn yc2
 obtain ⟨j, hj, hdg, hq⟩ := dg_hd 8 n (by rw [← pow9] at hn; exact hn)
 have hL : (dg 9 n).length = j + 1 := by rw [hdg]; simp [ydM]
 have hsz : sizeF (n : Int) = (j : Int) + 1 := by unfold sizeF; rw [ycq (by omega), qap, hL]; rfl
 have hsl : ∀ W : World, (Instr.slice 36 (.slice (some ⟨g, 0, none⟩) N N) (some (.int .i64 (pre.length : Int))) (some (.int .i64 ((pre.length : Int) + ((j : Int) + 1)))) (some (.int .i64 ((pre.length : Int) + ((j : Int) + 1))))).run prog W = .ok (.slice (some ⟨g, pre.length, none⟩) (j + 1) (j + 1)) W := fun W => by
  have := yg0 (P := prog) underlying36 hi hz1 g 0 N N pre.length (pre.length + (j + 1)) (by omega) (by omega) W
  rw [qbz, qbz, show pre.length + (j + 1) - pre.length = j + 1 from by omega, qaE] at this
  exact this
 have e9 : (dg 9 n) = hd j n ++ [UInt8.ofNat (n / 128 ^ j)] := hdg
 rw [hL] at hm ⊢
 rw [e9]
 have hn' : (n : Int) < 9223372036854775808 := by omega
 have hmaxp : pre.length + (j + 1) ≤ 4611686018427387904 := by omega
 have Hq := qaa hq
 have Hm := qaa hm
 have HB := qaa hB
 clear hdg hq hL e9 hn hm hB hz0 hz1 hz2 hi
 generalize hP : pre.length = P0 at *
 have HP := qaa hP
 clear hP
 go_enter func138, ntmps138
 go_wp2_with (refine (size_any (n : Int) _ hn').mono ?_; rintro e w1 ⟨rfl, rfl⟩; rw [hsz])
 go_loopw [2, 21] (fun s i wr => ∃ k x : Nat, k ≤ j + 1 ∧ i = .int .i64 k ∧ s = .int .i64 x ∧ (x : Int) < 9223372036854775808 ∧ Hid (x = n / 128 ^ k) ∧ Hid (Blk wr g 5 (bc (pre ++ (hd k n ++ (mid.drop k ++ post))))) ∧ Hid (Below g w wr)) (fun _ i _ => 20 - (intOf i).toNat)
 case atStart => exact ⟨0, n, by omega, rfl, rfl, hn', by show n = n / 1; omega, HB.out, qaj _ _⟩
 case round =>
  obtain ⟨k, x, hk, rfl, rfl, hx, Hx, HBk, Hb⟩ := hrel
  by_cases hlt : k < j + 1
  ·obtain ⟨b, hb⟩ : ∃ b, mid.drop k = b :: mid.drop (k + 1) := ⟨mid[k]'(by have := Hm.out; omega), qa3 (by have := Hm.out; omega)⟩
   have hlen : (pre ++ hd k n).length = P0 + k := by rw [qae, HP.out, ydM]
   have hg : wr.cell? ⟨g, P0 + k, none⟩ = some (.int .u8 (b.toNat : Int)) := ydg HBk.out (by
    rw [← qak, qb2 (by omega), hlen, hb]
    simp)
   have hf : wr.frozen? ⟨g, P0 + k, none⟩ = false := HBk.out.frozen _
   have hglt := HBk.out.lt
   have Hlen := qaa hlen
   have Hbb := qaa hb
   clear hlen hb hsl hsz
   generalize hbv : (b.toNat : Int) = bv at hg
   clear hbv
   have hx0 : (0 : Int) ≤ x := by omega
   have hkk : (k : Int) < (j : Int) + 1 := by omega
   go_wp2
   go_roundw
   case rel =>
    have hx' : x = n / 128 ^ k := Hx.out
    have hb := Hb.out
    have hval : ((UInt8.ofNat (128 + x % 128)).toNat : Int) = (x : Int) % 128 + 128 := by rw [yaw _ (by omega)]; omega
    have hnew := HBk.out.set_ (P0 + k) (.int .u8 ((UInt8.ofNat (128 + x % 128)).toNat : Int))
    rw [Hbb.out, ← qak, qbC, ← Hlen.out, bc_set, hval, Hlen.out] at hnew
    refine ⟨k + 1, x / 128, by omega, iv (by omega), iv (by omega), by omega, ?_, ?_, by show Below g w _; go_grown⟩
    ·show x / 128 = n / 128 ^ (k + 1)
     rw [hx', qbI, qaO]
    ·show Blk _ g _ _
     rw [hd_snoc, ← hx']
     simpa using hnew
   case measure => simp [intOf]; omega
  ·obtain rfl : k = j + 1 := by omega
   have hdrop : mid.drop (j + 1) = [] := List.drop_eq_nil_of_le (by have := Hm.out; omega)
   have hblk : Blk wr g 5 (bc ((pre ++ hd j n) ++ UInt8.ofNat (128 + n / 128 ^ j % 128) :: post)) := by
    have := HBk.out
    rw [hdrop, hd_snoc] at this
    simpa using this
   have hlen : (pre ++ hd j n).length = P0 + j := by rw [qae, HP.out, ydM]
   have hq := Hq.out
   generalize hqq : n / 128 ^ j = q at *
   have hg : wr.cell? ⟨g, P0 + j, none⟩ = some (.int .u8 ((q : Int) + 128)) := by
    rw [ydg hblk (b := UInt8.ofNat (128 + q % 128)) (by rw [qb2 (by omega), hlen]; simp), yaw _ (by omega)]
    congr 2
    omega
   have hf : wr.frozen? ⟨g, P0 + j, none⟩ = false := hblk.frozen _
   have hglt := hblk.lt
   have hnew := hblk.set_ (P0 + j) (.int .u8 ((UInt8.ofNat q).toNat : Int))
   rw [← hlen, bc_set, yaw _ (by omega), hlen] at hnew
   have Hnew := qaa hnew
   clear hnew hblk hdrop hlen hsl hsz Hx HBk HB
   have hj0 : (0 : Int) ≤ j := by omega
   have hq0 : (0 : Int) ≤ q := by omega
   have hq128 : (q : Int) < 128 := by omega
   have Hqq := qaa hqq
   have Hq2 := Hq.out
   clear hq hqq Hq2
   go_wp2
   go_ret
   have hb := Hb.out
   refine ⟨qbJ Ending.returned (iv (by omega)), ?_, by go_grown⟩
   rw [Hqq.out]
   simpa using Hnew.out
theorem run_make_bytes (n : Nat) (h : n ≤ 281474976710656) (w : World) :
  (Instr.makeSlice 36 (.int .i64 (n : Int)) (.int .i64 (n : Int))).run prog w = .ok (.slice (some ⟨w.heap.size, 0, none⟩) n n) (w.alloc (.cells (bc (List.replicate n 0)) 5)) := by
 rw [← bc_zero]
 exact run_make_row' (P := prog) 36 5 (.int .u8 0) 1 underlying36 yc2 rfl .i64 .i64 n (by omega) (by omega) w
theorem run_str (w : World) (g n c : Nat) (t : TypeId) (l : List UInt8) (hn : l.length = n) (h : Blk w g t (bc l)) :
  (convert 36 9 (.slice (some ⟨g, 0, none⟩) n c)).run prog w = .ok (.string ⟨l.toArray⟩) w :=
 yei underlying36 underlying5 underlying9 w g 0 c l n hn fun j b hj => by rw [qaE]; exact ydg h hj
def ycJ (l : List UInt8) (e : Int) : Value := .tuple #[.string ⟨l.toArray⟩, .int .i64 e]
theorem put_any (n : Int) (w : World) (h : n < 9223372036854775808) : Calls prog 94 #[.int .i64 n] w fun e w' => e = .returned (ycJ (putB n) (putE n)) ∧ Below w.heap.size w w' := by
 by_cases h0 : n < 0
 ·have e1 : putB n = [] := by simp [putB, h0]
  have e2 : putE n = 2 := by simp [putE, h0]
  rw [e1, e2]
  clear e1 e2
  go_enter func94, ntmps94
  go_wp2
  go_ret2
  exact ⟨rfl, by go_grown⟩
 ·obtain ⟨m, rfl⟩ := qaK (by omega : 0 ≤ n)
  have e1 : putB (m : Int) = dg 9 m := by rw [ycq (by omega), qap]
  have e2 : putE (m : Int) = 0 := by unfold putE; rw [qag h0]
  have hsz : sizeF (m : Int) = ((dg 9 m).length : Int) := by unfold sizeF; rw [e1]
  have hle := dg_le 9 m
  rw [e1, e2]
  clear e1 e2
  have hmk := fun W : World => run_make_bytes (dg 9 m).length (by omega) W
  have hlay := fun W : World => fun hB => lay_any m (dg 9 m).length [] (List.replicate (dg 9 m).length 0) [] w.heap.size W (by omega) (by simp) (by simp) hB (by omega)
  have hstr := fun (W : World) => run_str W w.heap.size (dg 9 m).length (dg 9 m).length 5 (dg 9 m) rfl
  simp only [qbc, qa6, qch, qaE] at hlay
  generalize dg 9 m = D at *
  generalize hDL : D.length = L at *
  have Hlay := qaa hlay
  have Hstr := qaa hstr
  clear hlay hstr
  go_enter func94, ntmps94
  go_wp2_with (first
   | (go_at_call 59; refine (size_any (m : Int) _ h).mono ?_; rintro e w1 ⟨rfl, rfl⟩; rw [hsz])
   | (go_at_call 138; refine (Hlay.out _ (Blk.new _ _ _)).mono ?_; rintro e w2 ⟨rfl, hB2, hb2⟩; have hcv := Hstr.out w2 hB2))
  go_ret2
  exact ⟨rfl, Below.trans (by go_grown) hb2⟩
variable {ls : List Nat}
def crow (ls : List Nat) (i n : Nat) : List Nat := (List.range i).filter fun s => decide (0 < n ∧ ls.getD s 0 = n)
theorem yea (n : Nat) : crow ls 0 n = [] := rfl
theorem ybG (i n : Nat) : crow ls (i + 1) n = crow ls i n ++ (if 0 < n ∧ ls.getD i 0 = n then [i] else []) := by
 unfold crow
 rw [List.range_succ, qbi]
 congr 1
 by_cases h : 0 < n ∧ ls.getD i 0 = n
 ·rw [qah h, qaG, qah (by simpa using h)]; rfl
 ·rw [qag h, qaG, qag (by simpa using h)]; rfl
theorem crow_none (i : Nat) : crow ls i 0 = [] := by
 induction i with
 | zero => rfl
 | succ i ih => rw [ybG, ih, qag (by omega)]; rfl
theorem yfU (i n : Nat) : (crow ls i n).length ≤ i := by
 have := qbY (fun s => decide (0 < n ∧ ls.getD s 0 = n)) (List.range i)
 simpa [crow] using this
theorem crow_at (n k s : Nat) : ∀ (i : Nat), (crow ls i n)[k]? = some s → s < i ∧ 0 < n ∧ ls.getD s 0 = n ∧ (crow ls s n).length = k
 | 0, h => by simp [yea] at h
 | i + 1, h => by
  rw [ybG] at h
  by_cases hk : k < (crow ls i n).length
  ·rw [qcs hk] at h
   obtain ⟨h1, h2⟩ := crow_at n k s i h
   exact ⟨by omega, h2⟩
  ·rw [qb2 (by omega)] at h
   by_cases hp : 0 < n ∧ ls.getD i 0 = n
   ·rw [qah hp] at h
    have e : k - (crow ls i n).length = 0 := by
     rcases qaW (k - (crow ls i n).length) with e | e
     ·exact e
     ·rw [qbp (by simp; omega)] at h
      cases h
    rw [e] at h
    have : i = s := by simpa using h
    subst this
    exact ⟨by omega, hp.1, hp.2, by omega⟩
   ·rw [qag hp] at h
    simp at h
theorem crow_mono (i n : Nat) : ∀ d, (crow ls i n).length ≤ (crow ls (i + d) n).length
 | 0 => qaf _
 | d + 1 => by
  have := crow_mono i n d
  rw [show i + (d + 1) = i + d + 1 from rfl, ybG, qae]
  omega
theorem yd2 {l : List Nat} (s : Nat) (h : s < l.length) : l.getD s 0 = l[s] := by rw [qaw, qan h]; rfl
theorem yfV (n : Nat) (hn : 0 < n) (i : Nat) : ∀ d, (crow ls (i + d) n).length = (crow ls i n).length → cpos ls n (i + d) = cpos ls n i ∧ wat ls n (i + d) = wat ls n i
 | 0, _ => ⟨rfl, rfl⟩
 | d + 1, h => by
  have h1 := crow_mono (ls := ls) i n d
  have h2 := ybG (ls := ls) (i + d) n
  rw [show i + (d + 1) = i + d + 1 from rfl] at h ⊢
  by_cases hp : 0 < n ∧ ls.getD (i + d) 0 = n
  ·rw [h2, qah hp, qae, qbv] at h
   omega
  ·have hne : ls.getD (i + d) 0 ≠ n := fun e => hp ⟨hn, e⟩
   rw [h2, qag hp, qa6] at h
   obtain ⟨h3, h4⟩ := yfV n hn i d h
   refine ⟨?_, ?_⟩
   ·rw [ygC n (i + d) fun hs e => hne (by rw [yd2 _ hs]; exact e), h3]
   ·rw [wat_skip ls n (i + d) hne, h4]
theorem crow_eq (n : Nat) (hn : 0 < n) (i j : Nat) (h : (crow ls i n).length = (crow ls j n).length) : cpos ls n i = cpos ls n j ∧ wat ls n i = wat ls n j := by
 rcases Nat.le_total i j with e | e
 ·obtain ⟨d, rfl⟩ := Nat.exists_eq_add_of_le e
  obtain ⟨a, b⟩ := yfV n hn i d h.symm
  exact ⟨a.symm, b.symm⟩
 ·obtain ⟨d, rfl⟩ := Nat.exists_eq_add_of_le e
  exact yfV n hn j d h
theorem crow_pos (n : Nat) (hn : 0 < n) : ∀ i, i ≤ ls.length → cpos ls n i = cpos ls n 0 + (crow ls i n).length * 2 ^ (15 - n)
 | 0, _ => by rw [yea]; simp
 | i + 1, h => by
  have ih := crow_pos n hn i (by omega)
  have hg := yd2 (l := ls) i (by omega)
  rw [ybG]
  by_cases hp : ls[i]'(by omega) = n
  ·rw [cpos_step n i (by omega) hp hn, ih, qah ⟨hn, by rw [hg]; exact hp⟩, qae, qbv, qcf, Nat.one_mul]
   omega
  ·rw [ygC n i fun _ => hp, ih, qag (by rw [hg]; exact fun e => hp e.2), qa6]
def cst (ls : List Nat) (n : Nat) : Nat := ybP ls n 0
theorem cst_pos (n : Nat) (hn : n ≤ 15) : cst ls n * 2 ^ (15 - n) = cpos ls n 0 := yeo n 0 hn
theorem cst_none : cst ls 0 = 0 := by
 unfold cst ybP
 rw [yec, Nat.zero_div]
theorem crow_over (n : Nat) (hn : n ≤ 15) : cpos ls (n + 1) 0 = (cst ls n + (crow ls ls.length n).length) * 2 ^ (15 - n) := by
 rw [← yej n ls.length (qaf _), qcf, cst_pos n hn]
 rcases qaW n with e | e
 ·subst e
  rw [yec, yec, crow_none]
  simp
 ·exact crow_pos n e ls.length (qaf _)
theorem cst_next (n : Nat) (hn : n + 1 ≤ 15) : cst ls (n + 1) = 2 * (cst ls n + (crow ls ls.length n).length) := by
 have h1 := crow_over (ls := ls) n (by omega)
 have h2 := cst_pos (ls := ls) (n + 1) hn
 have h3 : 0 < (2 : Nat) ^ (15 - (n + 1)) := qbu (by omega)
 rw [show 15 - n = 15 - (n + 1) + 1 from by omega, qaO, qbx _ 2, ← qbX, qbx _ 2] at h1
 rw [h1] at h2
 exact Nat.eq_of_mul_eq_mul_right h3 h2
theorem cst_word (n k s : Nat) (hn : 0 < n) (hn2 : n ≤ 15) (h : (crow ls ls.length n)[k]? = some s) : ybP ls n s = cst ls n + k ∧ s < ls.length ∧ ls.getD s 0 = n ∧ (crow ls s n).length = k := by
 obtain ⟨h1, _, h2, h3⟩ := crow_at n k s _ h
 refine ⟨?_, h1, h2, h3⟩
 have h4 := crow_pos (ls := ls) n hn s (by omega)
 have h5 := cst_pos (ls := ls) n hn2
 have h6 := yeo (ls := ls) n s hn2
 rw [h3, ← h5, ← qcf] at h4
 rw [h4] at h6
 exact Nat.eq_of_mul_eq_mul_right (qbu (by omega)) h6
theorem cst_le (n : Nat) (hn : n ≤ 15) (hc : call ls ≤ 32768) : cst ls n ≤ 32768 := by
 have h1 := cst_pos (ls := ls) n hn
 have h2 := cpos_le (ls := ls) n 0
 have h3 : 0 < (2 : Nat) ^ (15 - n) := qbu (by omega)
 have h4 := qbW (cst ls n) h3
 omega
theorem cdeep_over (n : Nat) (h : ∀ s (hs : s < ls.length), ls[s] ≤ n) : ∀ m, cpos ls (n + 1 + m) 0 = cpos ls (n + 1) 0 ∧ wat ls (n + 1 + m) 0 = wat ls (n + 1) 0
 | 0 => ⟨rfl, rfl⟩
 | m + 1 => by
  obtain ⟨h1, h2⟩ := cdeep_over n h m
  have hz : (crow ls ls.length (n + 1 + m)).length = (crow ls 0 (n + 1 + m)).length := by
   have : crow ls ls.length (n + 1 + m) = [] := by
    unfold crow
    rw [qbS]
    intro s hs
    have hs2 := qbk.1 hs
    have h3 := h s hs2
    have h4 := yd2 (l := ls) s hs2
    simp only [qbU]
    omega
   rw [this, yea]
  obtain ⟨h5, h6⟩ := crow_eq (ls := ls) (n + 1 + m) (by omega) _ _ hz
  rw [yej _ _ (qaf _)] at h5
  rw [wat_next _ _ _ (qaf _)] at h6
  rw [show n + 1 + (m + 1) = n + 1 + m + 1 from rfl, h5, h6]
  exact ⟨h1, h2⟩
theorem cdeep_all (n : Nat) (hn : n ≤ 15) (h : ∀ s (hs : s < ls.length), ls[s] ≤ n) : cpos ls (n + 1) 0 = call ls ∧ wat ls (n + 1) 0 = wat ls 16 0 := by
 obtain ⟨h1, h2⟩ := cdeep_over n h (15 - n)
 rw [show n + 1 + (15 - n) = 16 from by omega] at h1 h2
 refine ⟨?_, h2.symm⟩
 rw [← h1]
 exact cpos_end fun x hx => by
  obtain ⟨i, hi, rfl⟩ := qaI hx
  have := h i hi
  omega
def ybq (ls : List Nat) : Nat → Nat
 | 0 => 1
 | i + 1 => max (ybq ls i) (ls.getD i 0)
theorem ydY : ∀ i, 1 ≤ ybq ls i
 | 0 => qaf _
 | i + 1 => qa7 (ydY i) (Nat.le_max_left _ _)
theorem yfx (h15 : ∀ s (hs : s < ls.length), ls[s] ≤ 15) : ∀ i, i ≤ ls.length → ybq ls i ≤ 15
 | 0, _ => by show 1 ≤ 15; omega
 | i + 1, h => by
  have h1 := yfx h15 i (by omega)
  have h2 := h15 i (by omega)
  have h3 := yd2 (l := ls) i (by omega)
  show max _ _ ≤ 15
  omega
theorem cdeep_ge : ∀ i, i ≤ ls.length → ∀ s (hs : s < ls.length), s < i → ls[s] ≤ ybq ls i
 | 0, _, s, hs, h => by omega
 | i + 1, hi, s, hs, h => by
  show _ ≤ max (ybq ls i) (ls.getD i 0)
  by_cases e : s = i
  ·subst e
   rw [yd2 _ hs]
   omega
  ·have := cdeep_ge i (by omega) s hs (by omega)
   omega
theorem cpart_more : ∀ (l : List Int), yax l ≤ 16384 * yaq l ∧ ((∃ x ∈ l, 2 ≤ x) → yax l + 8192 ≤ 16384 * yaq l)
 | [] => ⟨by simp [yaq, yax], fun ⟨x, hx, _⟩ => by cases hx⟩
 | x :: t => by
  obtain ⟨h1, h2⟩ := cpart_more t
  have hu : yaq (x :: t) = (if 0 < x then 1 else 0) + yaq t := by
   unfold yaq
   by_cases h : 0 < x
   ·rw [qaG, qah (by simpa using h), qah h, qau]; omega
   ·rw [qaG, qag (by simpa using h), qag h]; omega
  have hp : yax (x :: t) = (if 0 < x then 2 ^ (15 - x.toNat) else 0) + yax t := rfl
  rw [hu, hp]
  have hs : 0 < x → (2 : Nat) ^ (15 - x.toNat) ≤ 16384 := fun h => qa7 (qaF (by omega) (by omega)) (by decide : (2 : Nat) ^ 14 ≤ 16384)
  have hs2 : 2 ≤ x → (2 : Nat) ^ (15 - x.toNat) ≤ 8192 := fun h => qa7 (qaF (by omega) (by omega)) (by decide : (2 : Nat) ^ 13 ≤ 8192)
  by_cases h : 0 < x
  ·rw [qah h, qah h]
   have h3 := hs h
   refine ⟨by omega, fun ⟨y, hy, hy2⟩ => ?_⟩
   rcases qa9.1 hy with rfl | hy
   ·have := hs2 hy2
    omega
   ·have := h2 ⟨y, hy, hy2⟩
    omega
  ·rw [qag h, qag h]
   refine ⟨by omega, fun ⟨y, hy, hy2⟩ => ?_⟩
   rcases qa9.1 hy with rfl | hy
   ·omega
   ·have := h2 ⟨y, hy, hy2⟩
    omega
end Go.Proofs.YtanjhbkbpalnaaaGreat
namespace Go.Proofs.YtanjhbkbpalnaaaGreat
set_option linter.unusedSimpArgs false
set_option linter.unusedVariables false
open Go.ChangeShapes Go.WideShapes Go.ChangeAt Go.RowKit Go.Joins Go.Deep
theorem yeU (n : Int) (w : World) (h : hasG n) : Calls prog 157 #[.int .i64 n] w fun e w' =>
  ∃ A c, e = .returned (.tuple #[.slice A (gam n.toNat).length c, .bool true]) ∧ w'.ownsRow w.heap.size 3 1 (.slice A (gam n.toNat).length c) (gam n.toNat).length (bcs (gam n.toNat)) ∧ Below w.heap.size w w' := by
 obtain ⟨i0, hi, hz0, hz1, hz2⟩ := qbn ygb
 obtain ⟨h1, h2⟩ := h
 obtain ⟨N, rfl⟩ := qaK (by omega : 0 ≤ n)
 rw [qap]
 have HN : Hid (1 ≤ N ∧ N ≤ 4294967295) := qaa (by omega)
 go_enter func157, ntmps157
 go_wp2
 clear h1 h2
 go_loop [4, 5] (fun k m => ∃ j M : Nat, j ≤ 32 ∧ k = .int .i64 j ∧ m = .int .i64 M ∧ Hid (M = N / 2 ^ j ∧ 1 ≤ M)) (fun _ m => (intOf m).toNat)
 case atStart => exact ⟨0, N, by omega, rfl, rfl, qaa ⟨by simp, HN.out.1⟩⟩
 case round =>
  obtain ⟨j, M, hj, rfl, rfl, HM⟩ := hrel
  have hM32 : (M : Int) ≤ 4294967295 := by have := HM.out.1; have := HN.out.2; have : N / 2 ^ j ≤ N := Nat.div_le_self _ _; omega
  by_cases hlt : 1 < M
  ·have hMi : (1 : Int) < M := by omega
   have hj32 : j < 32 := by
    have h1 := HM.out.1
    rcases qaZ j 32 with e | e
    ·exact e
    ·have h3 : N / 2 ^ j = 0 := Nat.div_eq_of_lt (by
      have h4 : 2 ^ 32 ≤ 2 ^ j := qaF (by omega) e
      rw [show (2 : Nat) ^ 32 = 4294967296 from by decide] at h4
      have := HN.out.2
      omega)
     omega
   have hji : (j : Int) < 32 := by omega
   go_wp2
   go_round
   case rel => exact ⟨j + 1, M / 2, by omega, iv (by omega), iv (by omega), qaa ⟨by rw [HM.out.1, qaO, qbI], by omega⟩⟩
   case measure => simp only [intOf]; omega
  ·have hMi : ¬ (1 : Int) < M := by omega
   have hp : 0 < 2 ^ j := qbu (by omega)
   have hM1 : N / 2 ^ j = 1 := by have := HM.out; omega
   have hlo : 2 ^ j ≤ N := by
    have := Nat.div_mul_le_self N (2 ^ j)
    rw [hM1] at this
    omega
   have hhi : N < 2 ^ (j + 1) := by
    rw [qaO, qbx]
    have := Nat.lt_mul_of_div_lt (show N / 2 ^ j < 2 by omega) hp
    omega
   have hg := gam_is hlo hhi (by have := HN.out; omega)
   have hj31 : j ≤ 31 := by
    rcases qaZ j 32 with e | e
    ·omega
    ·have h4 : 2 ^ 32 ≤ 2 ^ j := qaF (by omega) e
     rw [show (2 : Nat) ^ 32 = 4294967296 from by decide] at h4
     have := HN.out.2
     omega
   have hji : (j : Int) ≤ 31 := by omega
   have hdg := fun W => ydb (N : Int) ((j + 1 : Nat) : Int) W ⟨by omega, by omega, by omega, by rw [qap]; exact_mod_cast hhi⟩
   have hmk := fun W => ydW j (by omega) W
   have e1 : (j : Int) + 1 = ((j + 1 : Nat) : Int) := by omega
   have hD : (digI (N : Int) ((j + 1 : Nat) : Int)) = dig (j + 1) N := rfl
   have hDl : (digI (N : Int) ((j + 1 : Nat) : Int)).length = j + 1 := yai _ _
   rw [← hD] at hg
   rw [qap] at hdg
   have hgl : (gam N).length = j + (j + 1) := by rw [hg, qae, qaY, hDl]
   have Hg := qaa hg
   have Hgl := qaa hgl
   have HDl := qaa hDl
   have Hdg := qaa hdg
   have E1 := qaa e1
   clear hg hgl hDl hdg hD hp hM1 hlo hhi e1
   generalize digI (N : Int) ((j + 1 : Nat) : Int) = D at *
   go_wp2_with (first
    | (go_at_call 156; rw [E1.out]; refine (Hdg.out _).mono ?_; rintro e w1 ⟨g, rfl, hB1, hg1, hb1⟩)
    | (at_builtin; refine yaf _ rfl _ _ 28 rfl w.heap.size 3 i0 (.int .i64 0) 1 8 underlying28 hi hz0 hz1 hz2 rfl (by decide) _ _ _ rfl (World.ownsRow_lit (base := w.heap.size) (e := 3) (size := 1) w1 (bcs (List.replicate j 0)).toArray j hb1.size (by unfold maxLen; omega) (by simp [bcs])) _ (j + 1) (j + 1) _ _ rfl (ydS _ (hB1.alloc _) (j + 1) (by rw [ydk]; exact HDl.out)) ?c1 ?c2 ?c3 ?c4 ?_))
   case c1 => exact yey _
   case c2 => unfold maxLen; omega
   case c3 => omega
   case c4 => have := hb1.size; simp; omega
   intro v2 w2 hown2 hgrow hsep
   obtain ⟨A', c', rfl, hc', hr'⟩ := yad hown2
   have hb2 : Below w.heap.size w w2 := ((hb1.alloc hb1.size _)).grown hgrow (by have := hb1.size; simp; omega) (fun g hg => by injection hg with hg; simp only at hg; have := hb1.size; omega)
   have Hb2 := qaa hb2
   have Hr' := qaa hown2
   clear hb2 hr' hown2 hgrow hsep hB1 hb1
   go_wp2
   go_ret2
   refine ⟨A', c', by rw [Hgl.out]; rfl, ?_, Hb2.out⟩
   have h5 := Hr'.out
   rw [Hgl.out, Hg.out, ybC]
   exact h5
end Go.Proofs.YtanjhbkbpalnaaaGreat
