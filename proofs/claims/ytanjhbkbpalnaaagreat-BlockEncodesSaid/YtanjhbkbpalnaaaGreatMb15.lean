/-
 What the law of the last of these texts stands on, part 15.
-/
import Derived.Test.YtanjhbkbpalnaaaGreatMb13
import Derived.Outline
set_option maxRecDepth 100000
set_option maxHeartbeats 8000000
open Go.Proofs.Tryz
namespace Go.Proofs.YtanjhbkbpalnaaaGreat
set_option linter.unusedSimpArgs false
set_option linter.unusedVariables false
open Go.ChangeShapes Go.WideShapes Go.ChangeAt Go.RowKit Go.Joins Go.Deep
theorem bget_more (L T : List Nat) (to : Nat) (h : (ycv L to 4).2 = 0) : ycv (L ++ T) to 4 = ycv L to 4 ∧ to + 4 ≤ L.length := by
 unfold ycv at h ⊢
 rw [qag (by omega)] at h ⊢
 by_cases a : (to : Int) + 4 > L.length
 ·rw [qah a] at h; cases h
 ·have a2 : to + 4 ≤ L.length := by omega
  rw [qag a, qag (by rw [qae]; omega), qap, qbd (by omega), qb5 (by rw [qaz]; show 4 ≤ _; omega)]
  exact ⟨rfl, a2⟩
theorem lz_more : ∀ R T : List Nat, lz R < R.length → lz (R ++ T) = lz R
 | [], _, h => absurd h (by simp)
 | d :: t, T, h => by
  show (if d = 0 then lz (t ++ T) + 1 else 0) = (if d = 0 then lz t + 1 else 0)
  by_cases e : d = 0
  ·have h2 : lz (d :: t) = lz t + 1 := by show (if d = 0 then lz t + 1 else 0) = _; rw [qah e]
   rw [qah e, qah e, lz_more t T (by rw [h2, qau] at h; omega)]
  ·rw [qag e, qag e]
theorem ungam_more (R T : List Nat) (h : (ycf R).2.2 = 0) : ycf (R ++ T) = ycf R ∧ (ycf R).2.1 ≤ R.length := by
 have hl := lz_le R
 unfold ycf at h ⊢
 by_cases a1 : lz R = R.length
 ·rw [qah a1] at h; cases h
 rw [qag a1] at h ⊢
 by_cases a2 : 32 ≤ lz R
 ·rw [qah a2] at h; cases h
 rw [qag a2] at h ⊢
 by_cases a3 : R.length < 2 * lz R + 1
 ·rw [qah a3] at h; cases h
 rw [qag a3]
 have e := lz_more R T (by omega)
 rw [e, qag (by rw [qae]; omega), qag a2, qag (by rw [qae]; omega), qbd (by omega), qb5 (by rw [qaz]; omega)]
 exact ⟨rfl, by show 2 * lz R + 1 ≤ R.length; omega⟩
theorem tget1_more (L T : List Nat) (n : Nat) : ∀ (f to : Nat) (last : Int) (out : List Int), to ≤ L.length → (yc6 L n f to last out).2.2 = 0 → yc6 (L ++ T) n f to last out = yc6 L n f to last out ∧ (yc6 L n f to last out).2.1 ≤ L.length
 | 0, to, last, out, hto, h => ⟨rfl, hto⟩
 | f + 1, to, last, out, hto, h => by
  rw [ye5] at h ⊢
  rw [ye5]
  by_cases h1 : n ≤ out.length
  ·rw [qah h1, qah h1]
   exact ⟨rfl, hto⟩
  rw [qag h1] at h ⊢
  rw [qag h1]
  by_cases h2 : (ycv L to 4).2 ≠ 0
  ·rw [qah h2] at h; exact absurd h h2
  rw [qag h2] at h ⊢
  obtain ⟨m1, m2⟩ := bget_more L T to (by omega)
  rw [m1, qag h2, qbd m2]
  by_cases h3 : (ycf (L.drop (to + 4))).2.2 ≠ 0
  ·rw [qah h3] at h; exact absurd h h3
  rw [qag h3] at h ⊢
  obtain ⟨m3, m4⟩ := ungam_more (L.drop (to + 4)) T (by omega)
  rw [m3, qag h3]
  by_cases h4 : (ycv L to 4).1 = last
  ·rw [qah h4] at h; cases h
  rw [qag h4] at h ⊢
  rw [qag h4]
  by_cases h5 : (n : Int) - out.length < (ycf (L.drop (to + 4))).1
  ·rw [qah h5] at h; cases h
  rw [qag h5] at h ⊢
  rw [qag h5]
  rw [qaz] at m4
  exact tget1_more L T n f _ _ _ (by omega) h
theorem tgetF_more (L T : List Nat) (p : Nat) (n : Int) (hp : p ≤ L.length) (h : (yge L p n).2.2 = 0) : yge (L ++ T) p n = yge L p n ∧ (yge L p n).2.1 ≤ L.length ∧ ya6 (yge L p n).1 = 0 := by
 unfold yge at h ⊢
 by_cases h1 : n < 0 ∨ 257 < n
 ·rw [qah h1] at h; cases h
 rw [qag h1] at h ⊢
 rw [qag h1]
 by_cases h2 : (yc6 L n.toNat (n.toNat + 1) p (-1) []).2.2 ≠ 0
 ·rw [qah h2] at h; exact absurd h h2
 rw [qag h2] at h ⊢
 obtain ⟨m1, m2⟩ := tget1_more L T n.toNat (n.toNat + 1) p (-1) [] hp (by omega)
 rw [m1, qag h2]
 by_cases h3 : ya6 (yc6 L n.toNat (n.toNat + 1) p (-1) []).1 ≠ 0
 ·rw [qah h3] at h; exact absurd h h3
 rw [qag h3]
 exact ⟨rfl, m2, by show ya6 (yc6 L n.toNat (n.toNat + 1) p (-1) []).1 = 0; omega⟩
theorem ygr : ∀ R d : List Nat, (begF R d).2 = true → ∃ T, R = d ++ T
 | R, [], _ => ⟨R, rfl⟩
 | [], _ :: _, h => by cases h
 | a :: t, b :: u, h => by
  have e : begF (a :: t) (b :: u) = if a = b then begF t u else (false, false) := rfl
  rw [e] at h
  by_cases hab : a = b
  ·rw [qah hab] at h
   obtain ⟨T, hT⟩ := ygr t u h
   exact ⟨T, by rw [hab, hT]; rfl⟩
  ·rw [qag hab] at h; cases h
theorem yeE (R : List Nat) : ∀ (ws : List (Int × Int)) (s : Nat) (E : Int), E ≠ 0 → (yff ws s R E).2.2 = 0 → ∃ j, ∃ hj : j < ws.length, ws[j].2 ≠ 0 ∧ (∃ T, R = digI ws[j].1 ws[j].2 ++ T)
 | [], s, E, hE, h => absurd h hE
 | f :: t, s, E, hE, h => by
  have e : yff (f :: t) s R E = if f.2 = 0 then yff t (s + 1) R E else if (begF R (digI f.1 f.2)).2 = true then ((s : Int), ((digI f.1 f.2).length : Int), 0) else yff t (s + 1) R (if (begF R (digI f.1 f.2)).1 = true then 4 else E) := rfl
  rw [e] at h
  by_cases h1 : f.2 = 0
  ·rw [qah h1] at h
   obtain ⟨j, hj, h2⟩ := yeE R t (s + 1) E hE h
   exact ⟨j + 1, by simpa using hj, h2⟩
  ·rw [qag h1] at h
   by_cases h2 : (begF R (digI f.1 f.2)).2 = true
   ·exact ⟨0, by simp, h1, ygr R _ h2⟩
   ·rw [qag h2] at h
    obtain ⟨j, hj, h3⟩ := yeE R t (s + 1) _ (by split <;> omega) h
    exact ⟨j + 1, by simpa using hj, h3⟩
section
variable {ls : List Nat} {L : List Nat}
theorem cget_more (h15 : ∀ x ∈ ls, x ≤ 15) (hc : call ls ≤ 32768) {T : List Nat} (hb : Bin L) (hbT : Bin T) (p : Nat) (hp : p ≤ L.length) (h : (ydB (wat ls 16 0) L p).2.2 = 0) : ydB (wat ls 16 0) (L ++ T) p = ydB (wat ls 16 0) L p ∧ p + (ydB (wat ls 16 0) L p).2.1.toNat ≤ L.length := by
 unfold ydB at h ⊢
 obtain ⟨k, hk2, h1, T2, h2⟩ := yeE (L.drop p) (wat ls 16 0) 0 _ (by split <;> omega) h
 have hk : k < ls.length := by rw [yaO] at hk2; exact hk2
 have hpk : 0 < ls[k] := by
  rcases qaW ls[k] with h3 | h3
  ·exact absurd (wat_none h15 k hk hk2 (by omega)) h1
  ·exact h3
 rw [(yg8 h15 k hk hk2 hpk).1] at h2
 have hbd : Bin (L.drop p) := fun d hd => hb d (qbG hd)
 have g1 := ygz h15 hc hbd (if p = L.length then 4 else 40) k hk hpk T2 h2
 have g2 := ygz h15 hc (hbd.app hbT) (if p = (L ++ T).length then 4 else 40) k hk hpk (T2 ++ T) (by rw [h2, qak])
 rw [qbd hp, g1, g2]
 refine ⟨rfl, ?_⟩
 have := qbJ List.length h2
 rw [qaz, qae, yai] at this
 show p + ((ls[k] : Nat) : Int).toNat ≤ L.length
 omega
theorem cunp_more (h15 : ∀ x ∈ ls, x ≤ 15) (hc : call ls ≤ 32768) {T : List Nat} (hb : Bin L) (hbT : Bin T) : ∀ (i p : Nat) (acc : List Int), p ≤ L.length → (cunp (wat ls 16 0) L i p acc).2.2 = 0 → cunp (wat ls 16 0) (L ++ T) i p acc = cunp (wat ls 16 0) L i p acc ∧ (cunp (wat ls 16 0) L i p acc).2.1 ≤ L.length
 | 0, p, acc, hp, _ => ⟨rfl, hp⟩
 | i + 1, p, acc, hp, h => by
  rw [ygs] at h ⊢
  rw [ygs]
  by_cases h1 : (ydB (wat ls 16 0) L p).2.2 = 0
  ·rw [qah h1] at h ⊢
   obtain ⟨g1, g2⟩ := cget_more h15 hc hb hbT p hp h1
   rw [g1, qah h1]
   exact cunp_more h15 hc hb hbT i _ _ g2 h
  ·rw [qag h1] at h
   exact absurd h h1
end
def hdone (L : List Nat) (p : Nat) : Bool := decide (L.length - p < 8) && decide (lz (L.drop p) = L.length - p)
def hdec2 (L : List Nat) (U : List Int × Nat × Int) : List Int × Int := if U.2.2 ≠ 0 then ([], U.2.2) else if hdone L U.2.1 = true then (U.1, 0) else ([], 6)
def hdec1 (L : List Nat) (n : Nat) (G : List Int × Nat × Int) : List Int × Int := if G.2.2 ≠ 0 then ([], G.2.2) else hdec2 L (cunp (wat (G.1.map Int.toNat) 16 0) L n G.2.1 [])
def hdecF (s : List UInt8) (n : Int) : List Int × Int := if n < 0 ∨ 100000 < n then ([], 2) else hdec1 (ybX s) n.toNat (yge (ybX s) 0 257)
theorem tgetF_back {l : List Int} (h : ya6 l = 0) (L T : List Nat) (hL : L = ya3 l ++ T) : yge L 0 (l.length : Int) = (l, (ya3 l).length, 0) := by
 obtain ⟨hl, hg⟩ := ydP h
 have hr := tget_back L l (fun i hi => yaY hg i hi) hl T (l.length + 1) 0 0 (-1) (qcj _) (by omega) (fun hi e => by have := yaY hg 0 hi; omega) (by rw [qbt, qbt, hL])
 rw [qbt, qaE, qaX] at hr
 unfold yge
 rw [qag (by omega), qap, hr, qag (by simp), qag (by rw [h]; simp)]
theorem hback_row {l : List Int} (h : l.length ≤ 100000) (hi : hin l = true) (L T : List Nat) (hL2 : L = hB l ++ T) (hb : Bin L) : yge L 0 257 = (hL l, (ya3 (hL l)).length, 0) ∧ cunp (hws l) L l.length (ya3 (hL l)).length [] = (l, (hB l).length, 0) := by
 have hc := ycn h
 obtain ⟨_, hg, hca⟩ := yek hc
 constructor
 ·have := tgetF_back hc L (ybs (hws l) l ++ T) (by rw [hL2]; unfold hB; rw [qak])
  rw [ydx] at this
  exact this
 ·have := cunp_back (cnat15 hg) hca hb l (ya3 (hL l)).length [] T (hL_word h hi) (by
   rw [hL2]
   unfold hB
   rw [qak, qbZ rfl]
   rfl)
  rw [qbc] at this
  unfold hws
  rw [this]
  unfold hB hws
  rw [qae]
theorem hlz_zeros : ∀ n, lz (List.replicate n 0) = n
 | 0 => rfl
 | n + 1 => by
  rw [qb9]
  show (if (0 : Nat) = 0 then lz (List.replicate n 0) + 1 else 0) = n + 1
  rw [qah rfl, hlz_zeros n]
theorem hrow {l : List Int} (h : l.length ≤ 100000) (B : List UInt8) : ybX (text (hB l) ++ B) = hB l ++ (List.replicate (fr (hB l)) 0 ++ ybX B) := by rw [row_append, row_text (hB_bin h), qak]
theorem hback {l : List Int} (h : l.length ≤ 100000) (hi : hin l = true) : hdecF (text (hB l)) (l.length : Int) = (l, 0) := by
 have hr := hrow h []
 rw [qa6] at hr
 have e : ybX [] = [] := rfl
 rw [e, qa6] at hr
 obtain ⟨h1, h2⟩ := hback_row h hi _ _ hr (yf9 _)
 unfold hdecF hdec1
 rw [qag (by omega), h1, qag (by simp), qap]
 show hdec2 _ (cunp (hws l) _ _ _ _) = _
 rw [h2]
 unfold hdec2
 rw [qag (by simp), qah]
 unfold hdone
 rw [hr, qbZ rfl, hlz_zeros, qae, qaY]
 have := fr_lt (hB l)
 simp
 omega
theorem tbP_pos : ∀ (t : List Int) (x : Int) (c : Nat), 4 ≤ (tbP x c t).length
 | [], x, c => by
  show 4 ≤ (trb x c).length
  unfold trb digI
  rw [qae, yai]
  exact Nat.le_add_right _ _
 | y :: t, x, c => by
  show 4 ≤ (if y = x then tbP x (c + 1) t else trb x c ++ tbP y 1 t).length
  by_cases e : y = x
  ·rw [qah e]; exact tbP_pos t x (c + 1)
  ·rw [qag e, qae]
   have := tbP_pos t y 1
   omega
theorem hB_pos (l : List Int) : 4 ≤ (hB l).length := by
 unfold hB
 rw [qae]
 have h1 := ydx l
 generalize hL l = k at *
 cases k with
 | nil => cases h1
 | cons x t =>
  have := tbP_pos t x 1
  show 4 ≤ (tbP x 1 t).length + _
  omega
theorem hcut {l : List Int} (h : l.length ≤ 100000) (hi : hin l = true) (k : Nat) (hk : k + 1 = (text (hB l)).length) : (hdecF ((text (hB l)).take k) (l.length : Int)).2 ≠ 0 := by
 intro hz
 have hr := hrow h []
 rw [qa6] at hr
 obtain ⟨h1, h2⟩ := hback_row h hi _ _ hr (yf9 _)
 have hsplit : ybX (text (hB l)) = ybX ((text (hB l)).take k) ++ ybX ((text (hB l)).drop k) := by rw [← row_append, qa1]
 have hlen : (ybX ((text (hB l)).take k)).length = 8 * k := by rw [row_length, qar]; omega
 have htl := ybF (hB l)
 have hpos := hB_pos l
 unfold hdecF hdec1 at hz
 rw [qag (by omega), qap] at hz
 have hb1 := yf9 ((text (hB l)).take k)
 have hb2 := yf9 ((text (hB l)).drop k)
 rw [hsplit] at h1 h2
 generalize ybX ((text (hB l)).take k) = R at *
 generalize ybX ((text (hB l)).drop k) = T at *
 by_cases g : (yge R 0 257).2.2 ≠ 0
 ·rw [qah g] at hz
  exact g hz
 rw [qag g] at hz
 obtain ⟨m1, m2, m3⟩ := tgetF_more R T 0 257 (qcj _) (by omega)
 rw [← m1, h1] at hz m2 m3
 dsimp only at hz m2 m3
 unfold hdec2 at hz
 obtain ⟨_, hg, hca⟩ := yek m3
 by_cases g2 : (cunp (wat ((hL l).map Int.toNat) 16 0) R l.length (ya3 (hL l)).length []).2.2 ≠ 0
 ·rw [qah g2] at hz
  exact g2 hz
 obtain ⟨m4, m5⟩ := cunp_more (cnat15 hg) hca hb1 hb2 l.length (ya3 (hL l)).length [] m2 (by omega)
 unfold hws at h2
 rw [h2] at m4
 rw [← m4] at m5
 dsimp only at m5
 omega
def qsy (s : List UInt8) : List Int := zpk 0 (rks row0 (yaW s))
theorem qrk_good (s : List UInt8) : yaE 255 (rks row0 s) = true := (yfD s row0 row0_whole).2
theorem qrk_len (s : List UInt8) : (rks row0 (yaW s)).length = s.length := by rw [yg6, yaZ]
theorem qsy_pack (s : List UInt8) : ybm (rks row0 (yaW s)) = (qsy s, 0) := qah (qrk_good _)
theorem yc1 (s : List UInt8) : (qsy s).length ≤ s.length := by
 have := yeG (rks row0 (yaW s)) 0
 rw [qrk_len, qaE] at this
 exact this
theorem qsy_in (s : List UInt8) : hin (qsy s) = true := yfk _ 0 (qrk_good _)
def qsF (s : List UInt8) : List Int × Int × Int := if 20000 < s.length then ([], 0, 3) else (qsy s, (bpr s : Int), 0)
def qhd (a b c : Int) : List UInt8 := putB a ++ (putB b ++ putB c)
def qB (s : List UInt8) : List UInt8 := qhd s.length (bpr s) (qsy s).length ++ text (hB (qsy s))
def qpF (s : List UInt8) : List UInt8 × Int := if 20000 < s.length then ([], 3) else (qB s, 0)
def qtF (l : List Int) (r n : Int) : List UInt8 × Int :=
 if n < 0 ∨ 20000 < n then ([], 2) else if (zunF l n).2 ≠ 0 then ([], (zunF l n).2) else if ((zunF l n).1.length : Int) ≠ n then ([], 5) else biF (bys row0 (zunF l n).1) r
def qcutF (b : List UInt8) : (Int × Int × Int) × Int × Int :=
 if (getF b 0).2.2 ≠ 0 then ((0, 0, 0), 0, (getF b 0).2.2)
 else if (getF b (getF b 0).2.1).2.2 ≠ 0 then ((0, 0, 0), 0, (getF b (getF b 0).2.1).2.2)
 else if (getF b (getF b (getF b 0).2.1).2.1).2.2 ≠ 0 then ((0, 0, 0), 0, (getF b (getF b (getF b 0).2.1).2.1).2.2)
 else (((getF b 0).1, (getF b (getF b 0).2.1).1, (getF b (getF b (getF b 0).2.1).2.1).1), (getF b (getF b (getF b 0).2.1).2.1).2.1, 0)
def qu2 (n p k : Int) (rest : List UInt8) : List UInt8 × Int :=
 if 20000 < n ∨ n < k then ([], 3) else if (hdecF rest k).2 ≠ 0 then ([], (hdecF rest k).2) else qtF (hdecF rest k).1 p n
def quF (b : List UInt8) : List UInt8 × Int :=
 if (qcutF b).2.2 ≠ 0 then ([], (qcutF b).2.2) else qu2 (qcutF b).1.1 (qcutF b).1.2.1 (qcutF b).1.2.2 (b.drop (qcutF b).2.1.toNat)
theorem qt_back (s : List UInt8) (h : s.length ≤ 20000) : qtF (qsy s) (bpr s) s.length = (s, 0) := by
 obtain ⟨h1, _, _⟩ := zback (rks row0 (yaW s)) (by rw [qrk_len]; omega) (qrk_good _)
 rw [qrk_len] at h1
 unfold qtF qsy
 rw [qag (by omega), h1, qag (by simp), qag (by simp only [qrk_len]; simp), (yfD (yaW s) row0 row0_whole).1]
 exact bback s h
theorem qput_pos (n : Nat) : 0 < (putB (n : Int)).length := by
 rw [ycq (by omega)]
 exact dg_pos 8 _
theorem qget (pre rest : List UInt8) (n : Nat) (h : n < 9223372036854775808) (p : Int) (hp : p = (pre.length : Int)) : getF (pre ++ (putB n ++ rest)) p = ((n : Int), (pre.length : Int) + (putB (n : Int)).length, 0) := by
 subst hp
 rw [ycq (by omega), qap]
 exact getF_put pre rest n h
theorem qcut_put (a b c : Nat) (T : List UInt8) (ha : a < 1000000) (hb : b < 1000000) (hc : c < 1000000) : qcutF (qhd a b c ++ T) = (((a : Int), (b : Int), (c : Int)), ((qhd a b c).length : Int), 0) := by
 have g1 := qget [] (putB b ++ (putB c ++ T)) a (by omega) 0 rfl
 have g2 := qget (putB a) (putB c ++ T) b (by omega) _ rfl
 have g3 := qget (putB a ++ putB b) T c (by omega) ((putB a).length + (putB b).length) (by rw [qae]; omega)
 have e1 : qhd a b c ++ T = putB a ++ (putB b ++ (putB c ++ T)) := by unfold qhd; simp only [qak]
 rw [qak] at g3
 rw [qbc, ← e1] at g1
 rw [← e1] at g2 g3
 have z : (([] : List UInt8).length : Int) = 0 := rfl
 rw [z, Int.zero_add] at g1
 unfold qcutF
 rw [g1]
 dsimp only
 rw [g2]
 dsimp only
 rw [g3]
 dsimp only
 rw [qag (by simp), qag (by simp), qag (by simp)]
 congr 2
 unfold qhd
 rw [qae, qae, qae]
 omega
theorem qu_put (s T : List UInt8) (h : s.length ≤ 20000) : quF (qhd s.length (bpr s) (qsy s).length ++ T) = qu2 s.length (bpr s) (qsy s).length T := by
 have h1 := bpr_le s
 have h2 := yc1 s
 unfold quF
 rw [qcut_put _ _ _ T (by omega) (by omega) (by omega), qag (by simp)]
 dsimp only
 rw [qap, qbZ rfl]
theorem qback (s : List UInt8) (h : s.length ≤ 20000) : quF (qB s) = (s, 0) := by
 have h2 := yc1 s
 unfold qB
 rw [qu_put s _ h]
 unfold qu2
 rw [qag (by omega), hback (by omega) (qsy_in s), qag (by simp)]
 exact qt_back s h
theorem orow_at : ∀ (t : List Rc) (a : Rc), ycu a t = 0 → ∀ (i : Nat) (h : i < (a :: t).length), (a :: t)[i].1 = a.1 + i ∧ a.2.1 ≤ (a :: t)[i].2.1 ∧ (a :: t)[i].2.1 ≤ ((a :: t).getLast (by simp)).2.1
 | [], a, _, i, h => by
  obtain rfl : i = 0 := by simpa using h
  exact ⟨(Int.add_zero _).symm, qc2 _, qc2 _⟩
 | b :: t, a, hr, i, h => by
  obtain ⟨_, h2, h3⟩ := yeK hr
  have h4 := (rgo_iff a b).1 h2
  rw [List.getLast_cons_cons]
  cases i with
  | zero =>
   have := (orow_at t b h3 0 (by simp)).2.2
   exact ⟨(Int.add_zero _).symm, qc2 _, Int.le_trans h4.2 this⟩
  | succ i =>
   obtain ⟨k1, k2, k3⟩ := orow_at t b h3 i (by simpa using h)
   rw [List.getElem_cons_succ]
   refine ⟨by rw [k1]; omega, by omega, k3⟩
def yac (l : List Rc) : Rc := l.headD yfL
def ya8 (l : List Rc) : Rc := l.getLastD yfL
theorem orow {l : List Rc} (h : ya9 l = 0) (i : Nat) (hi : i < l.length) : l[i].1 = (yac l).1 + i ∧ (yac l).2.1 ≤ l[i].2.1 ∧ l[i].2.1 ≤ (ya8 l).2.1 := by
 cases l with
 | nil => cases hi
 | cons a t =>
  change (if rmay a = true then ycu a t else 150) = 0 at h
  by_cases h1 : rmay a = true
  ·rw [qah h1] at h
   have := orow_at t a h i hi
   have e : ya8 (a :: t) = (a :: t).getLast (by simp) := by unfold ya8; rw [List.getLastD_eq_getLast?, List.getLast?_eq_some_getLast (by simp), qcc]
   rw [e]
   exact this
  ·rw [qag h1] at h
   cases h
theorem yfN {l : List Rc} (h : 0 < l.length) : yac l = l[0] := by
 cases l with
 | nil => cases h
 | cons a t => rfl
theorem olast_at {l : List Rc} (h : 0 < l.length) : ya8 l = l[l.length - 1] := by
 have hn : l ≠ [] := List.ne_nil_of_length_pos h
 unfold ya8
 rw [List.getLastD_eq_getLast?, List.getLast?_eq_some_getLast hn, qcc, List.getLast_eq_getElem]
def ohd (a b c d e : Int) : List UInt8 := putB a ++ (putB b ++ (putB c ++ (putB d ++ putB e)))
def opk (s : List UInt8) : Bool := decide ((qB s).length < s.length)
def ohL (l : List Rc) : List UInt8 := ohd (rjB l).length l.length (yac l).1 (yac l).2.1 ((ya8 l).2.1 - (yac l).2.1)
def yfd (s : List UInt8) : List UInt8 := if opk s = true then qB s else s
def ygo (s : List UInt8) : UInt8 := if opk s = true then 1 else 0
def oB (l : List Rc) : List UInt8 := ygo (rjB l) :: (ohL l ++ yfd (rjB l))
def yaS (l : List Rc) : List UInt8 × Int := if l.length = 0 then ([], 2) else if (yal l).2 ≠ 0 then ([], (yal l).2) else (oB l, 0)
theorem obody_len (s : List UInt8) : (yfd s).length ≤ s.length := by
 unfold yfd opk
 by_cases h : (qB s).length < s.length
 ·rw [qah (qaP h)]
  omega
 ·rw [qag (by rw [qaU h]; decide)]
  exact qaf _
theorem ohd_len (a b c d e : Int) : (ohd a b c d e).length = (putB a).length + (putB b).length + (putB c).length + (putB d).length + (putB e).length := by
 unfold ohd
 simp only [qae]
 omega
def opl (s : List UInt8) : Nat → Int
 | 0 => 1
 | k + 1 => (getF s (opl s k)).2.1
def oer (s : List UInt8) (k : Nat) : Int := (getF s (opl s k)).2.2
def ono (s : List UInt8) (k : Nat) : Int := (getF s (opl s k)).1
def oflt (s : List UInt8) : Nat → Int
 | 0 => if s.length = 0 then 4 else 0
 | k + 1 => if oflt s k ≠ 0 then oflt s k else oer s k
abbrev OM := Int × Int × Int × Int × Int
def yfJ : OM := (0, 0, 0, 0, 0)
def ook (s : List UInt8) : Bool := decide ((s.getD 0 0).toNat < 2 ∧ ono s 0 ≤ 20000 ∧ 1 ≤ ono s 1 ∧ ono s 1 ≤ ono s 0 ∧ 1 ≤ ono s 2 ∧ ono s 1 + ono s 2 ≤ 1000000001 ∧ ono s 3 + ono s 4 ≤ 1000000000)
def ya7 (s : List UInt8) : OM × Int := if oflt s 5 ≠ 0 then (yfJ, oflt s 5) else if ook s = true then ((ono s 0, ono s 1, ono s 2, ono s 3, ono s 3 + ono s 4), 0) else (yfJ, 170)
def orawF (s : List UInt8) : List UInt8 × Int := if (s.getD 0 0).toNat = 1 then quF (s.drop (opl s 5).toNat) else (s.drop (opl s 5).toNat, 0)
def ofit (m : OM) (l : List Rc) : Bool := decide ((l.length : Int) = m.2.1 ∧ (yac l).1 = m.2.2.1 ∧ (yac l).2.1 = m.2.2.2.1 ∧ (ya8 l).2.1 = m.2.2.2.2)
def odec2 (m : OM) (t : List UInt8) : List Rc × Int :=
 if (t.length : Int) ≠ m.1 then ([], 5) else if (yag t).2 ≠ 0 then ([], (yag t).2) else if ofit m (yag t).1 = true then ((yag t).1, 0) else ([], 170)
def yay (s : List UInt8) : List Rc × Int := if (ya7 s).2 ≠ 0 then ([], (ya7 s).2) else if (orawF s).2 ≠ 0 then ([], (orawF s).2) else odec2 (ya7 s).1 (orawF s).1
def ycF (a b : List UInt8) : List UInt8 × Int := if (yay a).2 ≠ 0 then ([], (yay a).2) else if (yay b).2 ≠ 0 then ([], (yay b).2) else yaS ((yay a).1 ++ (yay b).1)
theorem oflt_le {s : List UInt8} {k : Nat} (h : oflt s (k + 1) = 0) : oflt s k = 0 ∧ oer s k = 0 := by
 change (if oflt s k ≠ 0 then oflt s k else oer s k) = 0 at h
 by_cases h1 : oflt s k ≠ 0
 ·rw [qah h1] at h
  exact absurd h h1
 ·rw [qag h1] at h
  exact ⟨qbT.1 h1, h⟩
theorem yd6 {s : List UInt8} : ∀ {k : Nat}, oflt s k = 0 → 0 < s.length ∧ ∀ j, j < k → oer s j = 0
 | 0, h => by
  change (if s.length = 0 then 4 else 0) = (0 : Int) at h
  by_cases h1 : s.length = 0
  ·rw [qah h1] at h
   cases h
  ·exact ⟨by omega, fun j hj => by cases hj⟩
 | k + 1, h => by
  obtain ⟨h1, h2⟩ := oflt_le h
  obtain ⟨h3, h4⟩ := yd6 h1
  refine ⟨h3, fun j hj => ?_⟩
  by_cases e : j = k
  ·subst e
   exact h2
  ·exact h4 j (by omega)
theorem ono_at {s : List UInt8} {k : Nat} (h : oer s k = 0) : 0 ≤ ono s k ∧ ono s k < 9223372036854775808 ∧ opl s k < opl s (k + 1) ∧ opl s (k + 1) ≤ s.length := by
 have := ygF h
 exact ⟨this.2.2.1, this.2.2.2.1, this.2.2.2.2.1, this.2.2.2.2.2.1⟩
theorem ohd_get (m : UInt8) (a b c d e : Int) (T : List UInt8) (ha : 0 ≤ a ∧ a < 9223372036854775808) (hb : 0 ≤ b ∧ b < 9223372036854775808) (hc : 0 ≤ c ∧ c < 9223372036854775808) (hd : 0 ≤ d ∧ d < 9223372036854775808) (he : 0 ≤ e ∧ e < 9223372036854775808) :
  oflt (m :: (ohd a b c d e ++ T)) 5 = 0 ∧ ono (m :: (ohd a b c d e ++ T)) 0 = a ∧ ono (m :: (ohd a b c d e ++ T)) 1 = b ∧ ono (m :: (ohd a b c d e ++ T)) 2 = c ∧ ono (m :: (ohd a b c d e ++ T)) 3 = d ∧ ono (m :: (ohd a b c d e ++ T)) 4 = e ∧ opl (m :: (ohd a b c d e ++ T)) 5 = 1 + ((ohd a b c d e).length : Int) := by
 obtain ⟨s, hs⟩ : ∃ s, m :: (ohd a b c d e ++ T) = s := ⟨_, rfl⟩
 have e0 : s = [m] ++ (putB a ++ (putB b ++ (putB c ++ (putB d ++ (putB e ++ T))))) := by rw [← hs]; simp [ohd]
 have e1 : s = ([m] ++ putB a) ++ (putB b ++ (putB c ++ (putB d ++ (putB e ++ T)))) := by rw [e0]; simp
 have e2 : s = ([m] ++ putB a ++ putB b) ++ (putB c ++ (putB d ++ (putB e ++ T))) := by rw [e0]; simp
 have e3 : s = ([m] ++ putB a ++ putB b ++ putB c) ++ (putB d ++ (putB e ++ T)) := by rw [e0]; simp
 have e4 : s = ([m] ++ putB a ++ putB b ++ putB c ++ putB d) ++ (putB e ++ T) := by rw [e0]; simp
 have g0 := ybU [m] (putB b ++ (putB c ++ (putB d ++ (putB e ++ T)))) a ha.1 ha.2 1 rfl
 rw [← e0] at g0
 have p1 : opl s 1 = (([m] ++ putB a).length : Int) := by
  show (getF s 1).2.1 = _
  rw [g0]
  simp
  omega
 have g1 := ybU ([m] ++ putB a) (putB c ++ (putB d ++ (putB e ++ T))) b hb.1 hb.2 _ p1
 rw [← e1] at g1
 have p2 : opl s 2 = (([m] ++ putB a ++ putB b).length : Int) := by
  show (getF s (opl s 1)).2.1 = _
  rw [g1]
  simp
  omega
 have g2 := ybU ([m] ++ putB a ++ putB b) (putB d ++ (putB e ++ T)) c hc.1 hc.2 _ p2
 rw [← e2] at g2
 have p3 : opl s 3 = (([m] ++ putB a ++ putB b ++ putB c).length : Int) := by
  show (getF s (opl s 2)).2.1 = _
  rw [g2]
  simp
  omega
 have g3 := ybU ([m] ++ putB a ++ putB b ++ putB c) (putB e ++ T) d hd.1 hd.2 _ p3
 rw [← e3] at g3
 have p4 : opl s 4 = (([m] ++ putB a ++ putB b ++ putB c ++ putB d).length : Int) := by
  show (getF s (opl s 3)).2.1 = _
  rw [g3]
  simp
  omega
 have g4 := ybU ([m] ++ putB a ++ putB b ++ putB c ++ putB d) T e he.1 he.2 _ p4
 rw [← e4] at g4
 have p5 : opl s 5 = 1 + ((ohd a b c d e).length : Int) := by
  show (getF s (opl s 4)).2.1 = _
  rw [g4, ohd_len]
  simp
  omega
 have hl : s.length ≠ 0 := by rw [← hs]; simp
 have r0 : oer s 0 = 0 := by show (getF s 1).2.2 = 0; rw [g0]
 have r1 : oer s 1 = 0 := by show (getF s (opl s 1)).2.2 = 0; rw [g1]
 have r2 : oer s 2 = 0 := by show (getF s (opl s 2)).2.2 = 0; rw [g2]
 have r3 : oer s 3 = 0 := by show (getF s (opl s 3)).2.2 = 0; rw [g3]
 have r4 : oer s 4 = 0 := by show (getF s (opl s 4)).2.2 = 0; rw [g4]
 rw [hs]
 refine ⟨?_, by show (getF s 1).1 = a; rw [g0], by show (getF s (opl s 1)).1 = b; rw [g1], by show (getF s (opl s 2)).1 = c; rw [g2], by show (getF s (opl s 3)).1 = d; rw [g3], by show (getF s (opl s 4)).1 = e; rw [g4], p5⟩
 simp [oflt, hl, r0, r1, r2, r3, r4]
theorem ojoin {l : List Rc} (h0 : l.length ≠ 0) (h : (yal l).2 = 0) : yal l = (rjB l, 0) ∧ (rjB l).length ≤ 20000 ∧ ya9 l = 0 ∧ l.length ≤ (rjB l).length ∧ 1 ≤ (yac l).1 ∧ (yac l).1 + l.length ≤ 1000000001 ∧ 0 ≤ (yac l).2.1 ∧ (yac l).2.1 ≤ (ya8 l).2.1 ∧ (ya8 l).2.1 ≤ 1000000000 := by
 obtain ⟨_, h2, h3⟩ := rback h
 have hr : ya9 l = 0 := by
  unfold yal at h
  by_cases h1 : ya9 l ≠ 0
  ·rw [qah h1] at h
   exact absurd h h1
  ·exact qbT.1 h1
 have hm := ycS hr
 have hp : 0 < l.length := by omega
 have k0 := (ya1 _).1 (hm _ (qam hp))
 have k1 := (ya1 _).1 (hm _ (qam (by omega : l.length - 1 < l.length)))
 have k2 := orow hr (l.length - 1) (by omega)
 rw [← yfN hp] at k0
 rw [← olast_at hp] at k1 k2
 refine ⟨h2, h3, hr, rjB_count hm, by omega, by omega, by omega, by omega, by omega⟩
theorem oenc_ok {l : List Rc} (h : (yaS l).2 = 0) : l.length ≠ 0 ∧ (yal l).2 = 0 ∧ yaS l = (oB l, 0) := by
 unfold yaS at h ⊢
 by_cases h0 : l.length = 0
 ·rw [qah h0] at h
  cases h
 rw [qag h0] at h ⊢
 by_cases h1 : (yal l).2 ≠ 0
 ·rw [qah h1] at h
  exact absurd h h1
 ·rw [qag h1]
  exact ⟨h0, qbT.1 h1, rfl⟩
theorem omode_one (s : List UInt8) : (ygo s).toNat = if opk s = true then 1 else 0 := by
 unfold ygo
 split <;> rfl
theorem oback {l : List Rc} (h : (yaS l).2 = 0) : ya7 (yaS l).1 = ((((rjB l).length : Int), (l.length : Int), (yac l).1, (yac l).2.1, (ya8 l).2.1), 0) ∧ yay (yaS l).1 = (l, 0) := by
 obtain ⟨h0, h1, h2⟩ := oenc_ok h
 obtain ⟨j1, j2, j3, j4, j5, j6, j7, j8, j9⟩ := ojoin h0 h1
 rw [h2]
 dsimp only
 have hg := ohd_get (ygo (rjB l)) (rjB l).length l.length (yac l).1 (yac l).2.1 ((ya8 l).2.1 - (yac l).2.1) (yfd (rjB l)) (by omega) (by omega) (by omega) (by omega) (by omega)
 have eB : oB l = ygo (rjB l) :: (ohd (rjB l).length l.length (yac l).1 (yac l).2.1 ((ya8 l).2.1 - (yac l).2.1) ++ yfd (rjB l)) := rfl
 rw [← eB] at hg
 obtain ⟨g0, g1, g2, g3, g4, g5, g6⟩ := hg
 have hb0 : (oB l).getD 0 0 = ygo (rjB l) := rfl
 have hm := omode_one (rjB l)
 have hok : ook (oB l) = true := by
  unfold ook
  rw [hb0, hm, g1, g2, g3, g4, g5]
  refine qaP ⟨?_, by omega, by omega, by omega, by omega, by omega, by omega⟩
  split <;> omega
 have hp : ya7 (oB l) = ((((rjB l).length : Int), (l.length : Int), (yac l).1, (yac l).2.1, (ya8 l).2.1), 0) := by
  unfold ya7
  rw [qag (fun h => h g0), qah hok, g1, g2, g3, g4, g5]
  simp only [qce, and_true, true_and]
  omega
 refine ⟨hp, ?_⟩
 have hd : (oB l).drop (opl (oB l) 5).toNat = yfd (rjB l) := by
  rw [g6, show (1 + ((ohd (rjB l).length l.length (yac l).1 (yac l).2.1 ((ya8 l).2.1 - (yac l).2.1)).length : Int)).toNat = (ohd (rjB l).length l.length (yac l).1 (yac l).2.1 ((ya8 l).2.1 - (yac l).2.1)).length + 1 from by omega, eB, qbl]
  exact List.drop_left
 have hraw : orawF (oB l) = (rjB l, 0) := by
  unfold orawF
  rw [hb0, hm, hd]
  unfold yfd
  by_cases hk : opk (rjB l) = true
  ·rw [qah hk, qah hk, qah rfl, qback _ j2]
  ·rw [qag hk, qag hk, qag (by decide)]
 unfold yay
 rw [hp, hraw]
 dsimp only
 rw [qag (fun h => h rfl), qag (fun h => h rfl)]
 have hs : yag (rjB l) = (l, 0) := by
  have := (rback h1).1
  rwa [j1] at this
 unfold odec2
 rw [qag (fun h => h rfl), hs]
 dsimp only
 rw [qag (fun h => h rfl), qah]
 unfold ofit
 exact qaP ⟨rfl, rfl, rfl, rfl⟩
theorem oagain {s : List UInt8} (h : (yay s).2 = 0) : (yay s).1.length ≠ 0 ∧ (yaS (yay s).1).2 = 0 := by
 unfold yay at h ⊢
 by_cases h1 : (ya7 s).2 ≠ 0
 ·rw [qah h1] at h
  exact absurd h h1
 rw [qag h1] at h ⊢
 by_cases h2 : (orawF s).2 ≠ 0
 ·rw [qah h2] at h
  exact absurd h h2
 rw [qag h2] at h ⊢
 have hp : ya7 s = ((ono s 0, ono s 1, ono s 2, ono s 3, ono s 3 + ono s 4), 0) ∧ 1 ≤ ono s 1 := by
  unfold ya7 at h1 ⊢
  by_cases h3 : oflt s 5 ≠ 0
  ·rw [qah h3] at h1
   exact absurd h3 (fun h => h1 h)
  rw [qag h3] at h1 ⊢
  by_cases h4 : ook s = true
  ·rw [qah h4]
   exact ⟨rfl, (qb7 h4).2.2.1⟩
  ·rw [qag h4] at h1
   exact absurd (fun h => by cases h) h1
 rw [hp.1] at h ⊢
 generalize (orawF s).1 = t at *
 unfold odec2 at h ⊢
 by_cases h5 : (t.length : Int) ≠ ono s 0
 ·rw [qah h5] at h
  cases h
 rw [qag h5] at h ⊢
 by_cases h6 : (yag t).2 ≠ 0
 ·rw [qah h6] at h
  exact absurd h h6
 rw [qag h6] at h ⊢
 by_cases h7 : ofit (ono s 0, ono s 1, ono s 2, ono s 3, ono s 3 + ono s 4) (yag t).1 = true
 ·rw [qah h7]
  have h8 := qb7 h7
  dsimp only at h8
  have h9 : (yag t).1.length ≠ 0 := by omega
  refine ⟨h9, ?_⟩
  unfold yaS
  rw [qag h9, qag]
  rw [rforth (qbT.1 h6)]
  exact fun h => h rfl
 ·rw [qag h7] at h
  cases h
theorem one_byte (x : Int) (b : UInt8) (h : (b.toNat : Int) = x) (W : World) :
  (convert 36 9 (.slice (some ⟨W.heap.size, 0, none⟩) 1 1)).run prog (W.alloc (.cells #[.int .u8 x] 5)) = .ok (.string ⟨#[b]⟩) (W.alloc (.cells #[.int .u8 x] 5)) := by
 subst h
 exact run_str (W.alloc (.cells #[.int .u8 (b.toNat : Int)] 5)) W.heap.size 1 1 5 [b] rfl (Blk.new W 5 (bc [b]))
theorem add_bytes (a b : List UInt8) (h : a.length + b.length ≤ 9223372036854775807) (w : World) : (Op.stringOp .add ⟨a.toArray⟩ ⟨b.toArray⟩).run prog w = .ok (.string ⟨(a ++ b).toArray⟩) w := by
 rw [run_string_add_sum w _ _ (by rw [qaA, qaA, qa0, qa0]; exact h), qcl]
theorem w_div (m d : Nat) (hd : 0 < d) (h : m < 9223372036854775808) : wrap64 ((m : Int).tdiv (d : Int)) = ((m / d : Nat) : Int) := by
 rw [Int.tdiv_eq_ediv_of_nonneg (by omega), ← Int.natCast_ediv]
 have := Nat.div_le_self m d
 generalize m / d = q at *
 unfold wrap64
 omega
theorem lt_63 {f m : Nat} (hf : f ≤ 8) (hm : m < 128 ^ (f + 1)) : m < 9223372036854775808 := by
 rw [← pow9]
 exact qaM hm (qaF (by omega) (by omega))
theorem refPut_small (m : Int) (b : UInt8) (w : World) (hb : (b.toNat : Int) = m) (h0 : 0 ≤ m) (h1 : m < 128) : Calls prog 37 #[.int .i64 m] w fun e w' => e = .returned (ycJ [b] 0) ∧ Below w.heap.size w w' := by
 have hcv := one_byte m b hb w
 clear hb
 go_enter func37, ntmps37
 go_wp2
 go_ret2
 exact ⟨rfl, by go_grown⟩
theorem refPut_step (m : Int) (b : UInt8) (t : List UInt8) (w : World) (h1 : 128 ≤ m) (hb : (b.toNat : Int) = m % 128 + 128) (ht : t.length ≤ 9)
  (ih : Hid (Calls prog 37 #[.int .i64 (wrap64 (m.tdiv 128))] w fun e w' => e = .returned (.tuple #[.string ⟨t.toArray⟩, .int .i64 0]) ∧ Below w.heap.size w w')) :
  Calls prog 37 #[.int .i64 m] w fun e w' => e = .returned (ycJ (b :: t) 0) ∧ Below w.heap.size w w' := by
 have hcv := one_byte (128 + m % 128) b (by omega)
 have had := add_bytes [b] t (by simp; omega)
 have e1 : (ByteArray.mk [b].toArray) = ⟨#[b]⟩ := rfl
 rw [e1] at had
 clear hb ht
 go_enter func37, ntmps37
 go_wp2_with (refine ih.out.mono ?_; rintro e w1 ⟨rfl, hb1⟩)
 go_ret2
 have hs1 := hb1.size
 exact ⟨rfl, by go_grown⟩
theorem refPut_in : ∀ (f m : Nat) (w : World), f ≤ 8 → m < 128 ^ (f + 1) → Calls prog 37 #[.int .i64 m] w fun e w' => e = .returned (ycJ (dg (f + 1) m) 0) ∧ Below w.heap.size w w'
 | f, m, w, hf, hm => by
  by_cases h1 : m < 128
  ·have e : dg (f + 1) m = [UInt8.ofNat m] := by rw [dg, qah h1]
   rw [e]
   exact refPut_small (m : Int) _ w (by rw [yaw _ (by omega)]) (by omega) (by omega)
  ·cases f with
   | zero => simp at hm; omega
   | succ f =>
    have hdiv : m / 128 < 128 ^ (f + 1) := by rw [qb1 (by omega)]; rw [qaO] at hm; exact hm
    have ih := refPut_in f (m / 128) w (by omega) hdiv
    have hm63 := lt_63 (f := f + 1) hf hm
    have e : dg (f + 1 + 1) m = UInt8.ofNat (128 + m % 128) :: dg (f + 1) (m / 128) := by rw [dg, qag h1]
    have hle := dg_le (f + 1) (m / 128)
    rw [e]
    exact refPut_step (m : Int) _ (dg (f + 1) (m / 128)) w (by omega) (by rw [yaw _ (by omega)]; omega) (by omega) (qaa (by rw [show (128 : Int) = ((128 : Nat) : Int) from rfl, w_div m 128 (by omega) hm63]; exact ih))
theorem ybk (n : Int) (w : World) (h : n < 9223372036854775808) : Calls prog 37 #[.int .i64 n] w fun e w' => e = .returned (ycJ (putB n) (putE n)) ∧ Below w.heap.size w w' := by
 by_cases h0 : n < 0
 ·have e1 : putB n = [] := by simp [putB, h0]
  have e2 : putE n = 2 := by simp [putE, h0]
  rw [e1, e2]
  clear e1 e2
  go_enter func37, ntmps37
  go_wp2
  go_ret2
  exact ⟨rfl, by go_grown⟩
 ·obtain ⟨m, rfl⟩ := qaK (by omega : 0 ≤ n)
  have e1 : putB (m : Int) = dg 9 m := by rw [ycq (by omega), qap]
  have e2 : putE (m : Int) = 0 := by unfold putE; rw [qag h0]
  rw [e1, e2]
  exact refPut_in 8 m w (by omega) (by rw [pow9]; omega)
theorem ybH {r : Rc} (h : ¬ rmay r = true) : rchk r = 150 ∧ rputF r = ([], 150) := ⟨qag h, qag h⟩
theorem yb7 {r : Rc} (h : rmay r = true) : rchk r = 0 ∧ rputF r = (rB r, 0) := ⟨qah h, qah h⟩
theorem yds (x y : Int) (d : List UInt8) (w : World) :
  Calls prog 139 #[.agg #[.int .i64 x, .int .i64 y, .string ⟨d.toArray⟩]] w fun e w' => e = .returned (.int .i64 (rchk (x, y, d))) ∧ Below w.heap.size w w' := by
 by_cases h0 : x < 1
 ·rw [(ybH (r := (x, y, d)) (fun h => by have := (ya1 _).1 h; dsimp only at this; omega)).1]
  go_enter func139, ntmps139
  go_wp2
  go_ret
  exact ⟨rfl, by go_grown⟩
 by_cases h1 : 1000000000 < x
 ·rw [(ybH (r := (x, y, d)) (fun h => by have := (ya1 _).1 h; dsimp only at this; omega)).1]
  go_enter func139, ntmps139
  go_wp2
  go_ret
  exact ⟨rfl, by go_grown⟩
 by_cases h2 : y < 0
 ·rw [(ybH (r := (x, y, d)) (fun h => by have := (ya1 _).1 h; dsimp only at this; omega)).1]
  go_enter func139, ntmps139
  go_wp2
  go_ret
  exact ⟨rfl, by go_grown⟩
 by_cases h3 : 1000000000 < y
 ·rw [(ybH (r := (x, y, d)) (fun h => by have := (ya1 _).1 h; dsimp only at this; omega)).1]
  go_enter func139, ntmps139
  go_wp2
  go_ret
  exact ⟨rfl, by go_grown⟩
 by_cases h4 : (2000 : Int) < (d.length : Int)
 ·rw [(ybH (r := (x, y, d)) (fun h => by have := (ya1 _).1 h; dsimp only at this; omega)).1]
  go_enter func139, ntmps139
  go_wp2
  go_ret
  exact ⟨rfl, by go_grown⟩
 rw [(yb7 (r := (x, y, d)) ((ya1 _).2 (by dsimp only; omega))).1]
 go_enter func139, ntmps139
 go_wp2
 go_ret
 exact ⟨rfl, by go_grown⟩
theorem yf5 (a b : List UInt8) (h : a.length + b.length ≤ 9223372036854775807) (w : World) : (Op.stringOp .add ⟨a.toArray⟩ ⟨b.toArray⟩).run prog w = .ok (.string ⟨(a ++ b).toArray⟩) w := by
 rw [run_string_add_sum w _ _ (by rw [qaA, qaA, qa0, qa0]; exact h), qcl]
theorem yg4 {w w1 w2 : World} (h1 : Below w.heap.size w w1) (h2 : Below w1.heap.size w1 w2) : Below w.heap.size w w2 := h1.trans (h2.mono h1.size)
theorem rref_put_any (x y : Int) (d : List UInt8) (w : World) :
  Calls prog 96 #[.agg #[.int .i64 x, .int .i64 y, .string ⟨d.toArray⟩]] w fun e w' => e = .returned (.tuple #[.string ⟨(rputF (x, y, d)).1.toArray⟩, .int .i64 (rputF (x, y, d)).2]) ∧ Below w.heap.size w w' := by
 have hc := qaa fun W => yds x y d W
 by_cases hm : rmay (x, y, d) = true
 ·rw [(yb7 hm).1] at hc
  rw [(yb7 hm).2]
  have hm2 := (ya1 _).1 hm
  dsimp only at hm2 ⊢
  have p1 := qaa fun W => ybk x W (by omega)
  have p2 := qaa fun W => ybk y W (by omega)
  have p3 := qaa fun W => ybk (d.length : Int) W (by omega)
  unfold ycJ at p1 p2 p3
  have l1 := ybb x
  have l2 := ybb y
  have l3 := ybb d.length
  have e : rB (x, y, d) = putB x ++ putB y ++ putB d.length ++ d := by unfold rB; simp only [qak]
  rw [e]
  have hB0 : Below w.heap.size w (w.alloc (.cells #[.int .i64 x, .int .i64 y, .string ⟨d.toArray⟩] 54)) := (qaj _ _).alloc (qaf _) _
  have HX := qaa (Blk.new w 54 #[.int .i64 x, .int .i64 y, .string ⟨d.toArray⟩])
  have HB0 := qaa hB0
  have hdl : d.length ≤ 2000 := hm2.2.2.2.2
  clear e hm hm2 hB0
  generalize putB x = X1 at *
  generalize putB y = X2 at *
  generalize putB (d.length : Int) = X3 at *
  generalize putE x = E1 at *
  generalize putE y = E2 at *
  generalize putE (d.length : Int) = E3 at *
  have a1 := fun W => yf5 X1 X2 (by omega) W
  have a2 := fun W => yf5 (X1 ++ X2) X3 (by rw [qae]; omega) W
  have a3 := fun W => yf5 (X1 ++ X2 ++ X3) d (by rw [qae, qae]; omega) W
  generalize X1 ++ X2 ++ X3 ++ d = Y3 at *
  generalize X1 ++ X2 ++ X3 = Y2 at *
  generalize X1 ++ X2 = Y1 at *
  go_enter func96, ntmps96
  go_wp2_with (first
   | (go_at_call 139; (with_reducible refine (hc.out _).mono ?_); rintro e w1 ⟨rfl, hb1⟩; have H1 := qaa (HX.out.below hb1 HX.out.lt); have Hb1 := qaa (HB0.out.trans (hb1.mono HB0.out.size)); have c10 : w1.cell? ⟨w.heap.size, 0, none⟩ = some (.int .i64 x) := H1.out.cell 0; clear hb1 hc)
   | (go_at_call 37; (with_reducible refine (p1.out _).mono ?_); rintro e w2 ⟨rfl, hb2⟩; have H2 := qaa (H1.out.below hb2 H1.out.lt); have Hb2 := qaa (yg4 Hb1.out hb2); have c21 : w2.cell? ⟨w.heap.size, 1, none⟩ = some (.int .i64 y) := H2.out.cell 1; clear hb2 p1)
   | (go_at_call 37; (with_reducible refine (p2.out _).mono ?_); rintro e w3 ⟨rfl, hb3⟩; have H3 := qaa (H2.out.below hb3 H2.out.lt); have Hb3 := qaa (yg4 Hb2.out hb3); have c32 : w3.cell? ⟨w.heap.size, 2, none⟩ = some (.string ⟨d.toArray⟩) := H3.out.cell 2; clear hb3 p2)
   | (go_at_call 37; (with_reducible refine (p3.out _).mono ?_); rintro e w4 ⟨rfl, hb4⟩; have H4 := qaa (H3.out.below hb4 H3.out.lt); have Hb4 := qaa (yg4 Hb3.out hb4); have c42 : w4.cell? ⟨w.heap.size, 2, none⟩ = some (.string ⟨d.toArray⟩) := H4.out.cell 2; clear hb4 p3))
  go_ret2
  exact ⟨rfl, Hb4.out⟩
 ·rw [(ybH hm).1] at hc
  rw [(ybH hm).2]
  have HB0 := qaa ((qaj w.heap.size w).alloc (qaf _) (.cells #[.int .i64 x, .int .i64 y, .string ⟨d.toArray⟩] 54))
  clear hm
  go_enter func96, ntmps96
  go_wp2_with (go_at_call 139; (with_reducible refine (hc.out _).mono ?_); rintro e w1 ⟨rfl, hb1⟩; have Hb1 := qaa (HB0.out.trans (hb1.mono HB0.out.size)); clear hb1 hc)
  go_ret2
  exact ⟨rfl, Hb1.out⟩
theorem yc5 : (prog.info? 3).map (fun i => (i.zero, i.size, i.bytes)) = some (some (.int .i64 0), 1, 8) := by kernel_rfl
theorem zr_mkfunc (fn : Fn) (first cap : Array Value) (w : World) : (Instr.makeFunc fn first cap).run prog w = .ok (.func fn first cap) w := rfl
def zin (top n : Int) : Bool := decide (0 ≤ n) && decide (n ≤ top)
theorem ydz (top n : Int) : zin top n = true ↔ 0 ≤ n ∧ n ≤ top := by simp [zin]
theorem zin_no (top n : Int) (h : ¬(0 ≤ n ∧ n ≤ top)) : zin top n = false := by
 cases h2 : zin top n with
 | false => rfl
 | true => exact absurd ((ydz top n).1 h2) h
theorem yeb (n top : Int) (w : World) : Calls prog 120 #[.int .i64 n, .int .i64 top] w fun e w' => e = .returned (.bool (zin top n)) ∧ w' = w := by
 by_cases h0 : 0 ≤ n
 ·by_cases h1 : n ≤ top
  ·have fin : zin top n = true := (ydz _ _).2 ⟨h0, h1⟩
   rw [fin]
   clear fin
   go_enter func120, ntmps120
   go_wp2
   go_ret
   exact ⟨rfl, rfl⟩
  ·have fin : zin top n = false := zin_no _ _ fun h => h1 h.2
   rw [fin]
   clear fin
   go_enter func120, ntmps120
   go_wp2
   go_ret
   exact ⟨rfl, rfl⟩
 ·have fin : zin top n = false := zin_no _ _ fun h => h0 h.1
  rw [fin]
  clear fin
  go_enter func120, ntmps120
  go_wp2
  go_ret
  exact ⟨rfl, rfl⟩
theorem zr_not_any (n top : Int) (pb : Nat) (w : World) (hP : Blk w pb 3 #[.int .i64 top]) : Calls prog 119 #[.int .i64 n, .pointer (some ⟨pb, 0, none⟩)] w fun e w' => e = .returned (.bool (!zin top n)) ∧ w' = w := by
 have c1 : w.cell? ⟨pb, 0, none⟩ = some (.int .i64 top) := hP.cell 0
 clear hP
 go_enter func119, ntmps119
 go_wp2_with (go_at_call 120; refine (yeb n top _).mono ?_; rintro e w1 ⟨rfl, rfl⟩)
 go_ret
 exact ⟨rfl, rfl⟩
theorem zr_index_any (l : List Int) (top : Int) (A : Option Addr) (n c pb : Nat) (w : World) (hm : n ≤ 4611686018427387904) (hr : Reads w w.heap.size 1 A n (ints l)) (hP : Blk w pb 3 #[.int .i64 top]) :
  Calls prog 164 #[.slice A n c, .func (.func 119) #[] #[.pointer (some ⟨pb, 0, none⟩)]] w fun e w' => ∃ r : Int, e = .returned (.int .i64 r) ∧ (decide (0 ≤ r)) = !yaE top l ∧ w' = w := by
 have en : l.length = n := by have := hr.1; rw [yae] at this; omega
 have Hcell : Hid (0 < n → ∃ b off, A = some ⟨b, off, none⟩ ∧ ∀ k, (hk : k < l.length) → w.cell? ⟨b, off + k, none⟩ = some (.int .i64 l[k])) := qaa fun h => by
  obtain ⟨b, off, e, hb, hc⟩ := hr.2 h
  exact ⟨b, off, e, fun k hk => hc k _ (yak l k hk)⟩
 have Hcl := qaa fun n => zr_not_any n top pb w hP
 have Hbad : Hid (∀ k (hk : k < l.length), zin top l[k] = false → yaE top l = false) := qaa fun k hk h => zgood_bad k hk fun h2 => by rw [(ydz _ _).2 h2] at h; cases h
 have Hgood : Hid ((∀ k (hk : k < l.length), zin top l[k] = true) → yaE top l = true) := qaa fun h => zgood_of fun k hk => (ydz _ _).1 (h k hk)
 have En := qaa en
 clear hr hP en
 go_enter func164, ntmps164
 go_wp2
 go_loop [8] (fun i => ∃ k : Nat, k ≤ n ∧ i = .int .i64 k ∧ Hid (∀ j (hj : j < l.length), j < k → zin top l[j] = true)) (fun i => n - (intOf i).toNat)
 case atStart => exact ⟨0, by omega, rfl, fun j _ h => by omega⟩
 case round =>
  obtain ⟨k, hk, rfl, Hk⟩ := hrel
  by_cases hlt : k < n
  ·have hkl : k < l.length := by rw [En.out]; exact hlt
   obtain ⟨b, off, rfl, hc⟩ := Hcell.out (by omega)
   have hcell := hc k hkl
   have hki : (0 : Int) ≤ (k : Int) ∧ (k : Int) < n := by omega
   have Hc2 := qaa (Hcl.out l[k])
   clear hc
   cases hz : zin top l[k] with
   | true =>
    have Hn : Hid (∀ j (hj : j < l.length), j < k + 1 → zin top l[j] = true) := qaa fun j hj h => by
     rcases qaZ j k with h1 | h1
     ·exact Hk.out j hj h1
     ·obtain rfl : j = k := by omega
      exact hz
    rw [hz] at Hc2
    clear hz Hbad Hgood
    generalize l[k] = x at *
    go_wp2_with (go_at_call 119; refine Hc2.out.mono ?_; rintro e w1 ⟨rfl, rfl⟩)
    go_round
    case rel => exact ⟨k + 1, by omega, iv (by omega), Hn.out⟩
    case measure => simp only [intOf]; omega
   | false =>
    have Hf := qaa (Hbad.out k hkl hz)
    rw [hz] at Hc2
    clear hz Hbad Hgood
    generalize l[k] = x at *
    go_wp2_with (go_at_call 119; refine Hc2.out.mono ?_; rintro e w1 ⟨rfl, rfl⟩)
    go_ret
    exact ⟨_, rfl, by rw [Hf.out]; simp, rfl⟩
  ·obtain rfl : k = n := by omega
   have Hg := qaa (Hgood.out fun j hj => Hk.out j hj (by have := En.out; omega))
   clear Hbad Hgood
   go_wp2
   go_ret
   exact ⟨_, rfl, by rw [Hg.out]; rfl, rfl⟩
theorem yfI (l : List Int) (top : Int) (A : Option Addr) (n c pb : Nat) (w : World) (hm : n ≤ 4611686018427387904) (hr : Reads w w.heap.size 1 A n (ints l)) (hP : Blk w pb 3 #[.int .i64 top]) :
  Calls prog 118 #[.slice A n c, .func (.func 119) #[] #[.pointer (some ⟨pb, 0, none⟩)]] w fun e w' => e = .returned (.bool (!yaE top l)) ∧ w' = w := by
 have Hi := qaa (zr_index_any l top A n c pb w hm hr hP)
 clear hr hP
 generalize yaE top l = g at *
 go_enter func118, ntmps118
 go_wp2_with (go_at_call 164; refine Hi.out.mono ?_; rintro e w1 ⟨r, rfl, hd, rfl⟩; have Hd := qaa hd; clear hd)
 go_ret
 exact ⟨by rw [← Hd.out]; rfl, rfl⟩
theorem zr_all_any (l : List Int) (top : Int) (A : Option Addr) (n c : Nat) (w : World) (hm : n ≤ 4611686018427387904) (hr : Reads w w.heap.size 1 A n (ints l)) :
  Calls prog 69 #[.slice A n c, .int .i64 top] w fun e w' => e = .returned (.bool (yaE top l)) ∧ Below w.heap.size w w' := by
 have hmf := zr_mkfunc
 have hb : Below w.heap.size w (w.alloc (.cells #[.int .i64 top] 3)) := (qaj _ _).alloc (qaf _) _
 have Hc := qaa (yfI l top A n c w.heap.size (w.alloc (.cells #[.int .i64 top] 3)) hm ((hr.below hb).more hb.size) (Blk.new w _ _))
 have Hb := qaa hb
 clear hr hb
 generalize yaE top l = g at *
 go_enter func69, ntmps69
 go_wp2_with (go_at_call 118; refine Hc.out.mono ?_; rintro e w1 ⟨rfl, rfl⟩)
 go_ret
 exact ⟨by cases g <;> rfl, Hb.out⟩
def yaJ (n : Int) : List Int := (zd n.toNat).map (· + 1)
theorem zdigF_len (n : Int) (h : n < 9223372036854775808) : (yaJ n).length ≤ 63 := by
 unfold yaJ
 rw [qaN, zd_log]
 exact zlog_lt 63 _ (by simp; omega)
theorem zr_digits_any (n : Int) (hn : n < 9223372036854775808) (w : World) :
  Calls prog 73 #[.int .i64 n] w fun e w' => ∃ A c, e = .returned (.slice A (yaJ n).length c) ∧ (yaJ n).length ≤ c ∧ w'.ownsRow w.heap.size 3 1 (.slice A (yaJ n).length c) (yaJ n).length (ints (yaJ n)) ∧ Below w.heap.size w w' := by
 obtain ⟨i0, hi, hz0, hz1, hz2⟩ := qbn yc5
 have hl63 := zdigF_len n hn
 by_cases h0 : n ≤ 0
 ·have e0 : yaJ n = [] := by unfold yaJ; rw [show n.toNat = 0 from by omega, yaU]; rfl
  rw [e0]
  clear e0 hl63
  go_enter func73, ntmps73
  go_wp2
  go_loopw [0, 3] (fun i v wr => i = .int .i64 n ∧ v = .slice none 0 0 ∧ wr = w) (fun _ _ _ => 0)
  case atStart => exact ⟨rfl, rfl, rfl⟩
  case round =>
   obtain ⟨rfl, rfl, rfl⟩ := hrel
   go_wp2
   go_ret
   exact ⟨none, 0, rfl, qaf _, qbg _ _ _ _, qaj _ _⟩
 ·obtain ⟨N, rfl⟩ : ∃ N : Nat, n = N := ⟨n.toNat, by omega⟩
  have hD : yaJ (N : Int) = (zd N).map (· + 1) := by unfold yaJ; rw [qap]
  have Hstart : Hid ([] ++ (zd N).map (· + 1) = yaJ (N : Int)) := qaa (by rw [hD]; rfl)
  clear hD h0
  generalize yaJ (N : Int) = D at *
  go_enter func73, ntmps73
  go_wp2
  go_loopw [0, 3] (fun i v wr => ∃ (m : Nat) (acc : List Int), i = .int .i64 m ∧ (m : Int) < 9223372036854775808 ∧ Hid (acc ++ (zd m).map (· + 1) = D) ∧ Hid (wr.ownsRow w.heap.size 3 1 v acc.length (ints acc)) ∧ Hid (Below w.heap.size w wr)) (fun i _ _ => (intOf i).toNat)
  case atStart => exact ⟨N, [], rfl, hn, Hstart.out, qbg _ _ _ _, qaj _ _⟩
  case round =>
   obtain ⟨m, acc, rfl, hm, Hacc, Hown, Hb⟩ := hrel
   cases m with
   | zero =>
    have hf := Hacc.out
    rw [yaU] at hf
    simp at hf
    subst hf
    obtain ⟨A2, c2, rfl, hc2, hr2⟩ := yad Hown.out
    go_wp2
    go_ret
    exact ⟨A2, c2, rfl, hc2, Hown.out, Hb.out⟩
   | succ p =>
    have hf := Hacc.out
    rw [ygt _ (by omega), show p + 1 - 1 = p from by omega, qcn] at hf
    have hle : acc.length ≤ 62 := by
     have := qbJ List.length hf
     rw [qae, qau] at this
     omega
    have hsub : ((p + 1 : Nat) : Int) - 1 = (p : Int) := by omega
    have hw1 : IntKind.i64.wrap (((p + 1 : Nat) : Int) - 1) = (p : Int) := by rw [qai]; omega
    have hmod : Int.tmod (p : Int) 2 = ((p % 2 : Nat) : Int) := by rw [Int.tmod_eq_emod_of_nonneg (by omega)]; omega
    have hdiv : Int.tdiv (p : Int) 2 = ((p / 2 : Nat) : Int) := by rw [Int.tdiv_eq_ediv_of_nonneg (by omega)]; omega
    have Hn : Hid ((acc ++ [((p % 2 : Nat) : Int) + 1]) ++ (zd (p / 2)).map (· + 1) = D) := qaa (by rw [← hf]; simp)
    have hp2 : p % 2 < 2 := Nat.mod_lt _ (by omega)
    have hszr := Hb.out.size
    have hpp : p / 2 ≤ p := by omega
    clear hf Hacc
    generalize p % 2 = q at *
    generalize p / 2 = m2 at *
    go_wp2_with (at_builtin; refine wpList_append_own _ rfl _ _ 28 rfl w.heap.size 3 i0 (.int .i64 0) 1 8 underlying28 hi hz0 hz1 hz2 rfl (by decide) _ _ _ rfl (Hown.out.alloc _) ⟨wr.heap.size, 0, none⟩ 1 1 [.int .i64 ((q : Int) + 1)] rfl rfl ?c1 ?c2 ?c3 ?c4 ?c5 ?_)
    case c1 =>
     intro j u hj
     match j, hj with
     | 0, hj => simp at hj; subst hj; simp [Addr.add]
    case c2 => intro u hu; simp at hu; subst hu; rfl
    case c3 => unfold maxLen; omega
    case c4 => omega
    case c5 => simp; omega
    intro v' w1 hown' hgrow _
    have Hb' : Hid (Below w.heap.size w w1) := qaa ((Below.trans Hb.out (by go_grown)).grown hgrow (by simp; omega) (fun g hg => (Hown.out.lt g hg).1))
    have Hown' : Hid (w1.ownsRow w.heap.size 3 1 v' (acc ++ [(q : Int) + 1]).length (ints (acc ++ [(q : Int) + 1]))) := qaa (by
     have e1 : (acc ++ [(q : Int) + 1]).length = acc.length + 1 := by simp
     have e2 : ints (acc ++ [(q : Int) + 1]) = ints acc ++ [.int .i64 ((q : Int) + 1)] := by simp [ints]
     rw [e1, e2]
     exact hown')
    clear hown' hgrow
    go_wp2
    go_roundw
    case rel => exact ⟨m2, _, rfl, by omega, Hn.out, Hown'.out, Hb'.out⟩
    case measure => simp only [intOf]; omega
theorem Sep.trans {w w1 : World} {v v1 v2 : Value} (h : Sep w v v1) (k : Sep w1 v1 v2) (hs : w.heap.size ≤ w1.heap.size) : Sep w v v2 := fun i hi => by
 rcases k i hi with e | e
 ·exact h i e
 ·exact qaT (by omega)
theorem touch_ws {w w1 w2 : World} {g : Nat} {v v1 : Value} (h : Touch w w1 (WS g v)) (k : Touch w1 w2 (WS g v1)) (hs : Sep w v v1) : Touch w w2 (WS g v) :=
 h.next k fun i hi e => by
  rcases e with e | e
  ·exact qat e
  ·rcases hs i e with e | e
   ·exact qaT e
   ·omega
theorem bput_is (B g : Nat) (n width : Int) (v : Value) (R : List Nat) (w : World) (hf : fits n width) (hH : WHold w B g v R) (hB : B ≤ w.heap.size) (hR : R.length ≤ 1099511627776) :
  Calls prog 107 #[.pointer (some ⟨g, 0, none⟩), .int .i64 n, .int .i64 width] w fun e w' => e = .returned (.int .i64 0) ∧ ∃ v', WHold w' B g v' (R ++ digI n width) ∧ Touch w w' (WS g v) ∧ Sep w v v' := by
 obtain ⟨h1, h2, h3, h4⟩ := hf
 obtain ⟨W, rfl⟩ := qaK h1
 obtain ⟨N, rfl⟩ := qaK h3
 exact put_yes B g W N v R w (by omega) (by simp only [qap] at h4; exact_mod_cast h4) hH hB hR
def csy (l : List Nat) : List Int := l.map (fun s : Nat => (s : Int))
theorem csy_app (a b : List Nat) : csy (a ++ b) = csy a ++ csy b := by simp [csy]
theorem csy_get {l : List Nat} {k s : Nat} (h : l[k]? = some s) : (ints (csy l))[k]? = some (.int .i64 (s : Int)) := by
 simp [ints, csy, h]
def ybp (h n : Nat) (st : List Int) (rows : List Value) (d : Int) : List Value := .bool true :: .slice (some ⟨h, 0, none⟩) n n :: (ints st ++ (rows ++ [.int .i64 d]))
section
variable {h n : Nat} {st : List Int} {rows : List Value} {d : Int}
theorem yeZ (hs : st.length = 16) (j : Nat) (hj : j < 16) : (ybp h n st rows d)[2 + j]? = some (.int .i64 (st[j]'(by omega))) := by
 unfold ybp
 rw [show 2 + j = j + 1 + 1 from by omega, qa8, qa8, qcs (by rw [yae]; omega)]
 exact yak st j (by omega)
theorem yeM (hs : st.length = 16) (hr : rows.length = 16) (j : Nat) (hj : j < 16) : (ybp h n st rows d)[18 + j]? = some (rows[j]'(by omega)) := by
 unfold ybp
 rw [show 18 + j = 16 + j + 1 + 1 from by omega, qa8, qa8, qb2 (by rw [yae]; omega), yae, show 16 + j - st.length = j from by omega, qcs (by omega), qan (by omega)]
theorem ygk (hs : st.length = 16) (hr : rows.length = 16) : (ybp h n st rows d)[34]? = some (.int .i64 d) := by
 unfold ybp
 rw [show 34 = 32 + 1 + 1 from rfl, qa8, qa8, qb2 (by rw [yae]; omega), yae, qb2 (by omega), show 32 - st.length - rows.length = 0 from by omega]
 rfl
theorem yfa (hs : st.length = 16) (j : Nat) (hj : j < 16) (v : Int) : (ybp h n st rows d).set (2 + j) (.int .i64 v) = ybp h n (st.set j v) rows d := by
 unfold ybp
 rw [show 2 + j = j + 1 + 1 from by omega, qac, qac, List.set_append_left _ _ (by rw [yae]; omega)]
 simp [ints, List.map_set]
theorem ccells_set_row (hs : st.length = 16) (hr : rows.length = 16) (j : Nat) (hj : j < 16) (v : Value) : (ybp h n st rows d).set (18 + j) v = ybp h n st (rows.set j v) d := by
 unfold ybp
 rw [show 18 + j = 16 + j + 1 + 1 from by omega, qac, qac, qbL _ _ (by rw [yae]; omega), yae, show 16 + j - st.length = j from by omega, List.set_append_left _ _ (by omega)]
theorem yfB (hs : st.length = 16) (hr : rows.length = 16) (v : Int) : (ybp h n st rows d).set 34 (.int .i64 v) = ybp h n st rows v := by
 unfold ybp
 rw [show 34 = 32 + 1 + 1 from rfl, qac, qac, qbL _ _ (by rw [yae]; omega), yae, qbL _ _ (by omega), show 32 - st.length - rows.length = 0 from by omega]
 rfl
end
structure CRows (W : World) (B : Nat) (rows : List Value) (R : Nat → List Nat) : Prop where
 len : rows.length = 16
 own : ∀ j (hj : j < rows.length), W.ownsRow B 3 1 rows[j] (R j).length (ints (csy (R j)))
 sep : ∀ i j (hi : i < rows.length) (hj : j < rows.length), i ≠ j → ∀ k, rows[i].ownBlock = some k → rows[j].ownBlock ≠ some k
section
variable {W W' W2 Wa : World} {B g : Nat} {rows : List Value} {R R' : Nat → List Nat} {cs : Array Value} {t : TypeId} {S : Nat → Prop}
theorem CRows.congr (h : CRows W B rows R) (he : ∀ j, j < 16 → R j = R' j) : CRows W B rows R' := ⟨h.len, fun j hj => by rw [← he j (by have := h.len; omega)]; exact h.own j hj, h.sep⟩
theorem CRows.touch (h : CRows W B rows R) (ht : Touch W W' S) (hS : ∀ j (hj : j < rows.length) k, rows[j].ownBlock = some k → ¬ S k) : CRows W' B rows R := ⟨h.len, fun j hj => ya5 (h.own j hj) ht (hS j hj), h.sep⟩
theorem CRows.store (h : CRows W B rows R) (hB : Blk W g t cs) (hne : 3 ≠ t) (i : Nat) (u : Value) : CRows (W.setCell ⟨g, i, none⟩ u) B rows R :=
 h.touch ((Touch.refl W (fun k => k = g)).set (p := ⟨g, i, none⟩) (qat rfl) u) fun j hj k hk e => yau (h.own j hj) hB hne (by rw [hk, e])
theorem CRows.append (h : CRows W B rows R) (hb : Below W.heap.size W Wa) (j : Nat) (hj : j < 16) (v' : Value) (s : Nat) (hg : Wa.grownBy W2 (rows[j]'(by have := h.len; omega)).ownBlock)
  (ho : W2.ownsRow B 3 1 v' ((R j).length + 1) (ints (csy (R j)) ++ [.int .i64 (s : Int)])) (hs : Sep Wa (rows[j]'(by have := h.len; omega)) v') :
  CRows W2 B (rows.set j v') (fun i => if i = j then R j ++ [s] else R i) := by
 have hl := h.len
 have hsz := hb.size
 refine ⟨by rw [qbO]; exact hl, fun i hi => ?_, fun i k hi hk hne b hb1 hb2 => ?_⟩
 ·rw [qbO] at hi
  by_cases e : j = i
  ·subst e
   rw [List.getElem_set_self, qah rfl, csy_app, qae]
   have : ints (csy (R j) ++ csy [s]) = ints (csy (R j)) ++ [.int .i64 (s : Int)] := by simp [ints, csy]
   rw [this]
   exact ho
  ·rw [List.getElem_set_ne e, qag (fun h => e h.symm)]
   have h1 := yah (h.own i hi) hb (qaf _)
   refine ya5 h1 (yaN hg) fun k hk e2 => ?_
   exact h.sep j i (by omega) hi e k e2.symm hk
 ·rw [qbO] at hi hk
  have hnew : ∀ m (hm : m < rows.length), m ≠ j → ∀ b, v'.ownBlock = some b → rows[m].ownBlock ≠ some b := fun m hm hmj b h1 h2 => by
   rcases hs b h1 with h3 | h3
   ·exact h.sep j m (by omega) hm (fun e => hmj e.symm) b h3 h2
   ·have := ((h.own m hm).lt b h2).2
    omega
  by_cases e1 : j = i
  ·subst e1
   rw [List.getElem_set_self] at hb1
   rw [List.getElem_set_ne hne] at hb2
   exact hnew k hk (fun e => hne e.symm) b hb1 hb2
  ·rw [List.getElem_set_ne e1] at hb1
   by_cases e2 : j = k
   ·subst e2
    rw [List.getElem_set_self] at hb2
    exact hnew i hi hne b hb2 hb1
   ·rw [List.getElem_set_ne e2] at hb2
    exact h.sep i k hi hk hne b hb1 hb2
end
structure CSt (w1 W : World) (n : Nat) (L : List (Int × Int)) (st : List Int) (rows : List Value) (d : Int) (R : Nat → List Nat) : Prop where
 code : Blk W (w1.heap.size + 1) 141 (ybp w1.heap.size n st rows d).toArray
 words : Blk W w1.heap.size 143 (ybe .i64 L).toArray
 rows : CRows W w1.heap.size rows R
 frame : Below w1.heap.size w1 W
 stl : st.length = 16
section
variable {w1 W Wa W2 : World} {n : Nat} {L : List (Int × Int)} {st : List Int} {rows : List Value} {d : Int} {R R' : Nat → List Nat}
theorem CSt.start (h : CSt w1 W n L st rows d R) (j : Nat) (hj : j < 16) : W.cell? ⟨w1.heap.size + 1, 2 + j, none⟩ = some (.int .i64 (st[j]'(by have := h.stl; omega))) := by
 rw [h.code.cell, qaq]
 exact yeZ h.stl j hj
theorem CSt.row (h : CSt w1 W n L st rows d R) (j : Nat) (hj : j < 16) : W.cell? ⟨w1.heap.size + 1, 18 + j, none⟩ = some (rows[j]'(by have := h.rows.len; omega)) := by
 rw [h.code.cell, qaq]
 exact yeM h.stl h.rows.len j hj
theorem CSt.deep (h : CSt w1 W n L st rows d R) : W.cell? ⟨w1.heap.size + 1, 34, none⟩ = some (.int .i64 d) := by
 rw [h.code.cell, qaq]
 exact ygk h.stl h.rows.len
theorem CSt.wslice (h : CSt w1 W n L st rows d R) : W.cell? ⟨w1.heap.size + 1, 1, none⟩ = some (.slice (some ⟨w1.heap.size, 0, none⟩) n n) := by
 rw [h.code.cell, qaq]
 rfl
theorem CSt.put_start (h : CSt w1 W n L st rows d R) (j : Nat) (hj : j < 16) (v : Int) : CSt w1 (W.setCell ⟨w1.heap.size + 1, 2 + j, none⟩ (.int .i64 v)) n L (st.set j v) rows d R := by
 refine ⟨?_, h.words.far (by simp) _, h.rows.store h.code (by decide) _ _, h.frame.setCell (by simp) _, by rw [qbO]; exact h.stl⟩
 have := h.code.set_ (2 + j) (.int .i64 v)
 rw [qab, yfa h.stl j hj] at this
 exact this
theorem CSt.put_deep (h : CSt w1 W n L st rows d R) (v : Int) : CSt w1 (W.setCell ⟨w1.heap.size + 1, 34, none⟩ (.int .i64 v)) n L st rows v R := by
 refine ⟨?_, h.words.far (by simp) _, h.rows.store h.code (by decide) _ _, h.frame.setCell (by simp) _, h.stl⟩
 have := h.code.set_ 34 (.int .i64 v)
 rw [qab, yfB h.stl h.rows.len] at this
 exact this
theorem CSt.put_word (h : CSt w1 W n L st rows d R) (s : Nat) (hs : s < L.length) (a b : Int) : CSt w1 ((W.setCell ⟨w1.heap.size, s * 2, none⟩ (.int .i64 a)).setCell ⟨w1.heap.size, s * 2 + 1, none⟩ (.int .i64 b)) n (L.set s (a, b)) st rows d R := by
 have hw := h.words.set_ (s * 2) (.int .i64 a)
 refine ⟨(h.code.far (by simp) _).far (by simp) _, ?_, (h.rows.store h.words (by decide) _ _).store hw (by decide) _ _, (h.frame.setCell (by simp) _).setCell (by simp) _, h.stl⟩
 have := hw.set_ (s * 2 + 1) (.int .i64 b)
 rw [qab, qab, yez .i64 a b L s hs] at this
 exact this
theorem CSt.put_row (h : CSt w1 W n L st rows d R) (hb : Below W.heap.size W Wa) (j : Nat) (hj : j < 16) (v' : Value) (s : Nat) (hg : Wa.grownBy W2 (rows[j]'(by have := h.rows.len; omega)).ownBlock)
  (ho : W2.ownsRow w1.heap.size 3 1 v' ((R j).length + 1) (ints (csy (R j)) ++ [.int .i64 (s : Int)])) (hs : Sep Wa (rows[j]'(by have := h.rows.len; omega)) v') :
  W2.frozen? ⟨w1.heap.size + 1, 18 + j, none⟩ = false ∧ (∃ u, W2.cell? ⟨w1.heap.size + 1, 18 + j, none⟩ = some u) ∧ CSt w1 (W2.setCell ⟨w1.heap.size + 1, 18 + j, none⟩ v') n L st (rows.set j v') d (fun i => if i = j then R j ++ [s] else R i) := by
 have hoj := h.rows.own j (by have := h.rows.len; omega)
 have hgb : ∀ {b : Nat} {t : TypeId} {cs : Array Value}, Blk W b t cs → 3 ≠ t → Blk W2 b t cs := fun {b t cs} hB hne => (hB.below hb hB.lt).grow' hg (fun e => yau hoj hB hne e)
 have hc := hgb h.code (by decide)
 have hw := hgb h.words (by decide)
 have hrow := h.rows.append hb j hj v' s hg ho hs
 refine ⟨hc.frozen _, ⟨rows[j]'(by have := h.rows.len; omega), ?_⟩, ⟨?_, hw.far (by simp) _, hrow.store hc (by decide) _ _, ?_, h.stl⟩⟩
 ·rw [hc.cell, qaq]
  exact yeM h.stl h.rows.len j hj
 ·have := hc.set_ (18 + j) v'
  rw [qab, ccells_set_row h.stl h.rows.len j hj] at this
  exact this
 ·refine Below.setCell ?_ (by simp) _
  have h1 := h.frame.trans (hb.mono h.frame.size)
  exact qbo h1 hg h1.size fun b hb2 => (hoj.lt b hb2).1
theorem CSt.congr (h : CSt w1 W n L st rows d R) (he : ∀ j, j < 16 → R j = R' j) : CSt w1 W n L st rows d R' := ⟨h.code, h.words, h.rows.congr he, h.frame, h.stl⟩
end
structure CHold (W : World) (B g : Nat) (ls : List Nat) (h : Nat) (st : List Int) (rows : List Value) : Prop where
 code : Blk W g 141 (ybp h ls.length st rows (ybq ls ls.length : Nat)).toArray
 words : Blk W h 143 (ybe .i64 (wat ls 16 0)).toArray
 gB : g < B
 hB : h < B
 stl : st.length = 16
 rl : rows.length = 16
 st : ∀ j (hj : j < st.length), 1 ≤ j → j ≤ ybq ls ls.length → st[j] = (cst ls j : Int)
 row : ∀ j (hj : j < rows.length), ∃ A c, rows[j] = .slice A (crow ls ls.length j).length c ∧ Reads W B 1 A (crow ls ls.length j).length (ints (csy (crow ls ls.length j)))
def CCode (W : World) (B g : Nat) (ls : List Nat) : Prop := ∃ h st rows, CHold W B g ls h st rows
section
variable {W W' : World} {B B' g : Nat} {ls : List Nat}
theorem CCode.below (h : CCode W B g ls) (hb : Below B W W') : CCode W' B g ls := by
 obtain ⟨k, st, rows, h⟩ := h
 exact ⟨k, st, rows, h.code.below hb h.gB, h.words.below hb h.hB, h.gB, h.hB, h.stl, h.rl, h.st, fun j hj => by
  obtain ⟨A, c, e, hr⟩ := h.row j hj
  exact ⟨A, c, e, hr.below hb⟩⟩
theorem CCode.more (h : CCode W B g ls) (hB : B ≤ B') : CCode W B' g ls := by
 obtain ⟨k, st, rows, h⟩ := h
 exact ⟨k, st, rows, h.code, h.words, qaM h.gB hB, qaM h.hB hB, h.stl, h.rl, h.st, fun j hj => by
  obtain ⟨A, c, e, hr⟩ := h.row j hj
  exact ⟨A, c, e, hr.more hB⟩⟩
theorem CCode.made (h : CCode W B g ls) : W.cell? ⟨g, 0, none⟩ = some (.bool true) := by
 obtain ⟨k, st, rows, h⟩ := h
 rw [h.code.cell, qaq]
 rfl
theorem CCode.deep (h : CCode W B g ls) : W.cell? ⟨g, 34, none⟩ = some (.int .i64 (ybq ls ls.length : Nat)) := by
 obtain ⟨k, st, rows, h⟩ := h
 rw [h.code.cell, qaq]
 exact ygk h.stl h.rl
theorem CCode.start (h : CCode W B g ls) (j : Nat) (h1 : 1 ≤ j) (h2 : j ≤ ybq ls ls.length) (h3 : j < 16) : W.cell? ⟨g, 2 + j, none⟩ = some (.int .i64 (cst ls j : Int)) := by
 obtain ⟨k, st, rows, h⟩ := h
 rw [h.code.cell, qaq, yeZ h.stl j h3, h.st j (by have := h.stl; omega) h1 h2]
theorem CCode.row (h : CCode W B g ls) (j : Nat) (h3 : j < 16) : ∃ A c, W.cell? ⟨g, 18 + j, none⟩ = some (.slice A (crow ls ls.length j).length c) ∧ (0 < (crow ls ls.length j).length → ∃ b off, A = some ⟨b, off, none⟩ ∧ b < B ∧ ∀ k s : Nat, (crow ls ls.length j)[k]? = some s → W.cell? ⟨b, off + k, none⟩ = some (.int .i64 (s : Int))) := by
 obtain ⟨k, st, rows, h⟩ := h
 obtain ⟨A, c, e, hr⟩ := h.row j (by have := h.rl; omega)
 refine ⟨A, c, ?_, fun hp => ?_⟩
 ·rw [h.code.cell, qaq, yeM h.stl h.rl j h3, e]
 ·obtain ⟨b, off, e2, hb, hc⟩ := hr.2 hp
  exact ⟨b, off, e2, hb, fun k s hk => hc k _ (csy_get hk)⟩
theorem CCode.words (h : CCode W B g ls) : ∃ b, b < B ∧ W.cell? ⟨g, 1, none⟩ = some (.slice (some ⟨b, 0, none⟩) ls.length ls.length) ∧ Blk W b 143 (ybe .i64 (wat ls 16 0)).toArray := by
 obtain ⟨k, st, rows, h⟩ := h
 refine ⟨k, h.hB, ?_, h.words⟩
 rw [h.code.cell, qaq]
 rfl
theorem CCode.at (h : CCode W B g ls) : g < B ∧ g < W.heap.size := by
 obtain ⟨k, st, rows, h⟩ := h
 exact ⟨h.gB, h.code.lt⟩
end
def CFar (W : World) (g : Nat) (ls : List Nat) (ok : Nat → Prop) : Prop :=
 ∃ B h st rows, CHold W B g ls h st rows ∧ B ≤ W.heap.size ∧ ok g ∧ ok h ∧ ∀ j (hj : j < rows.length) (A : Option Addr) (n c : Nat), rows[j] = .slice A n c → 0 < n → ∀ a : Addr, A = some a → ok a.block
section
variable {W W' : World} {B g : Nat} {ls : List Nat} {ok ok' S : Nat → Prop}
theorem CFar.code (h : CFar W g ls ok) : ∃ B, B ≤ W.heap.size ∧ CCode W B g ls := by
 obtain ⟨B, k, st, rows, h1, h2, _⟩ := h
 exact ⟨B, h2, k, st, rows, h1⟩
theorem CFar.touch (h : CFar W g ls ok) (ht : Touch W W' S) (hS : ∀ k, ok k → ¬ S k) : CFar W' g ls ok := by
 obtain ⟨B, k, st, rows, h, hB, o1, o2, o3⟩ := h
 refine ⟨B, k, st, rows, ⟨h.code.touch ht (hS _ o1), h.words.touch ht (hS _ o2), h.gB, h.hB, h.stl, h.rl, h.st, fun j hj => ?_⟩, qa7 hB ht.size, o1, o2, o3⟩
 obtain ⟨A, c, e, hr⟩ := h.row j hj
 refine ⟨A, c, e, hr.1, fun hn => ?_⟩
 obtain ⟨b, off, e2, hb, hc⟩ := hr.2 hn
 refine ⟨b, off, e2, hb, fun q u hu => ?_⟩
 have := ht.block b (by omega) (hS b (o3 j hj A _ c e hn ⟨b, off, none⟩ e2))
 exact (qbP (w := W) (w' := W') (a := ⟨b, off + q, none⟩) this).trans (hc q u hu)
theorem CFar.mono (h : CFar W g ls ok) (hk : ∀ k, ok k → ok' k) : CFar W g ls ok' := by
 obtain ⟨B, k, st, rows, h, hB, o1, o2, o3⟩ := h
 exact ⟨B, k, st, rows, h, hB, hk _ o1, hk _ o2, fun j hj A n c e hn a ha => hk _ (o3 j hj A n c e hn a ha)⟩
theorem CCode.far (h : CCode W B g ls) (hB : B ≤ W.heap.size) : CFar W g ls (fun k => k < B) := by
 obtain ⟨k, st, rows, h⟩ := h
 refine ⟨B, k, st, rows, h, hB, h.gB, h.hB, fun j hj A n c e hn a ha => ?_⟩
 obtain ⟨A2, c2, e2, hr⟩ := h.row j hj
 rw [e] at e2
 injection e2 with e3 e4 _
 subst e3 e4
 obtain ⟨b, off, e5, hb, _⟩ := hr.2 hn
 rw [ha] at e5
 injection e5 with e5
 rw [e5]
 exact hb
end
theorem ccheck_ref (l : List Int) : ycr l = ya6 l := by
 have h2 := (cpart_more l).1
 have h1 := cpart_used l
 unfold ycr ya6
 by_cases h : 257 < l.length
 ·rw [qah h, qah h]
 ·rw [qag h, qag h]
  unfold sumF yfi
  by_cases hg : ydq l = true
  ·rw [qah hg, qah hg]
   by_cases u0 : yaq l = 0
   ·rw [qah u0, qah (by omega), qah (by omega)]
   ·rw [qag u0]
    by_cases u1 : yaq l = 1
    ·rw [qah u1]
     by_cases hp : (yax l : Int) = 16384
     ·rw [qah hp, qah (by omega)]
     ·rw [qag hp, qag (by omega)]
    ·rw [qag u1]
     by_cases hp : (yax l : Int) = 32768
     ·rw [qah hp, qah (by omega)]
     ·rw [qag hp, qag (by omega)]
  ·rw [qag hg, qag hg, qag (by omega)]
end Go.Proofs.YtanjhbkbpalnaaaGreat
