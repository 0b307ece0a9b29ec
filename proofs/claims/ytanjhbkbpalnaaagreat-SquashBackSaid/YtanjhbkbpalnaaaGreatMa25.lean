/-
 What the law of the last of these texts stands on, part 25.
-/
import Derived.Test.YtanjhbkbpalnaaaGreatMa19
import Derived.Test.YtanjhbkbpalnaaaGreatMa23
import Derived.Test.YtanjhbkbpalnaaaGreatMa24
import Derived.Lib.BytesEntry
set_option maxRecDepth 100000
set_option maxHeartbeats 8000000
open Go.Proofs.Tryz
namespace Go.Proofs.YtanjhbkbpalnaaaGreat
set_option linter.unusedSimpArgs false
set_option linter.unusedVariables false
open Go.ChangeShapes Go.WideShapes Go.ChangeAt Go.RowKit Go.Joins Go.Deep
def row0 : List UInt8 := (List.range 256).map UInt8.ofNat
def mv (R : List UInt8) (k : Nat) : List UInt8 := R.getD k 0 :: (R.take k ++ R.drop (k + 1))
def pl (R : List UInt8) (b : UInt8) : Nat := R.idxOf b
def rowS (R : List UInt8) (s : List UInt8) : List UInt8 := s.foldl (fun R b => mv R (pl R b)) R
def rks : List UInt8 → List UInt8 → List Int
 | _, [] => []
 | R, b :: t => (pl R b : Int) :: rks (mv R (pl R b)) t
def ycW (ks : List Int) : Bool := ks.all fun k => decide (0 ≤ k) && decide (k ≤ 255)
def rowK (R : List UInt8) (ks : List Int) : List UInt8 := ks.foldl (fun R k => mv R k.toNat) R
def bys : List UInt8 → List Int → List UInt8
 | _, [] => []
 | R, k :: t => R.getD k.toNat 0 :: bys (mv R k.toNat) t
def yda (ks : List Int) : List UInt8 × Int := if ycW ks = true then (bys row0 ks, 0) else ([], 60)
structure Whole (R : List UInt8) : Prop where
 nodup : R.Nodup
 len : R.length = 256
 mem : ∀ b, b ∈ R
theorem row0_get (k : Nat) (h : k < 256) : row0[k]? = some (UInt8.ofNat k) := by simp [row0, h]
theorem yfX : row0.length = 256 := by simp [row0]
theorem row0_lt : row0.Pairwise (fun a b => a.toNat < b.toNat) := by
 unfold row0
 rw [List.pairwise_map]
 refine qbs ?_ List.pairwise_lt_range
 intro a b ha hb h
 rw [qaS] at ha hb
 rw [yaz _ ha, yaz _ hb]
 exact h
theorem row0_mem (b : UInt8) : b ∈ row0 := by
 unfold row0
 exact qb5.2 ⟨b.toNat, qaS.2 (u8_lt b), u8_eq (yaz _ (u8_lt b))⟩
theorem row0_nodup : row0.Nodup := by
 unfold List.Nodup
 exact row0_lt.imp fun h e => by rw [e] at h; omega
theorem row0_whole : Whole row0 := ⟨row0_nodup, yfX, row0_mem⟩
theorem yfS (R : List UInt8) (k : Nat) (h : k < R.length) : R.getD k 0 = R[k] := by rw [qaj, qah h]; rfl
theorem parted (R : List UInt8) (k : Nat) (h : k < R.length) : R = R.take k ++ R.getD k 0 :: R.drop (k + 1) := by
 rw [yfS R k h, ← qau h, qax]
theorem mv_perm (R : List UInt8) (k : Nat) (h : k < R.length) : (mv R k).Perm R := by
 conv => rhs; rw [parted R k h]
 unfold mv
 exact List.perm_middle.symm
theorem Whole.mv {R : List UInt8} (h : Whole R) (k : Nat) (hk : k < 256) : Whole (mv R k) := by
 have hp := mv_perm R k (by rw [h.len]; exact hk)
 exact ⟨hp.nodup_iff.2 h.nodup, hp.length_eq.trans h.len, fun b => hp.mem_iff.2 (h.mem b)⟩
theorem pl_lt {R : List UInt8} (h : Whole R) (b : UInt8) : pl R b < 256 := by
 have := List.idxOf_lt_length_of_mem (h.mem b)
 rw [h.len] at this
 exact this
theorem pl_get {R : List UInt8} (h : Whole R) (b : UInt8) : R.getD (pl R b) 0 = b := by
 have := pl_lt h b
 rw [yfS _ _ (by rw [h.len]; exact this)]
 exact List.getElem_idxOf _
theorem Whole.rowS {R : List UInt8} (h : Whole R) : ∀ s, Whole (rowS R s)
 | [] => h
 | b :: t => by
  have := Whole.rowS (h.mv (pl R b) (pl_lt h b)) t
  exact this
theorem rgood_cons (k : Int) (t : List Int) : ycW (k :: t) = true ↔ (0 ≤ k ∧ k ≤ 255) ∧ ycW t = true := by simp [ycW]
theorem Whole.rowK {R : List UInt8} (h : Whole R) : ∀ ks, ycW ks = true → Whole (rowK R ks) := by
 intro ks
 induction ks generalizing R with
 | nil => intro _; exact h
 | cons k t ih =>
  intro hg
  rw [rgood_cons] at hg
  exact ih (h.mv k.toNat (by omega)) hg.2
theorem rowS_snoc (R s : List UInt8) (b : UInt8) : rowS R (s ++ [b]) = mv (rowS R s) (pl (rowS R s) b) := by simp [rowS, List.foldl_append]
theorem rks_snoc (s : List UInt8) (b : UInt8) : ∀ R, rks R (s ++ [b]) = rks R s ++ [(pl (rowS R s) b : Int)] := by
 induction s with
 | nil => intro R; rfl
 | cons c t ih => intro R; show _ :: rks _ (t ++ [b]) = _; rw [ih]; rfl
theorem ygN (s : List UInt8) : ∀ R, (rks R s).length = s.length := by
 induction s with
 | nil => intro R; rfl
 | cons c t ih => intro R; show (rks _ t).length + 1 = _; rw [ih]; rfl
theorem rowK_snoc (R : List UInt8) (ks : List Int) (k : Int) : rowK R (ks ++ [k]) = mv (rowK R ks) k.toNat := by simp [rowK, List.foldl_append]
theorem bys_snoc (ks : List Int) (k : Int) : ∀ R, bys R (ks ++ [k]) = bys R ks ++ [(rowK R ks).getD k.toNat 0] := by
 induction ks with
 | nil => intro R; rfl
 | cons c t ih => intro R; show _ :: bys _ (t ++ [k]) = _; rw [ih]; rfl
theorem ygu (ks : List Int) : ∀ R, (bys R ks).length = ks.length := by
 induction ks with
 | nil => intro R; rfl
 | cons c t ih => intro R; show (bys _ t).length + 1 = _; rw [ih]; rfl
theorem rgood_snoc (ks : List Int) (k : Int) : ycW (ks ++ [k]) = (ycW ks && (decide (0 ≤ k) && decide (k ≤ 255))) := by simp [ycW, List.all_append]
theorem ycy {α : Type} (l : List α) (k : Nat) (h : k < l.length) : l.take (k + 1) = l.take k ++ [l[k]] := qat h
theorem rowS_take (R l : List UInt8) (k : Nat) (h : k < l.length) : rowS R (l.take (k + 1)) = mv (rowS R (l.take k)) (pl (rowS R (l.take k)) l[k]) := by rw [ycy l k h, rowS_snoc]
theorem rks_take (R l : List UInt8) (k : Nat) (h : k < l.length) : rks R (l.take (k + 1)) = rks R (l.take k) ++ [(pl (rowS R (l.take k)) l[k] : Int)] := by rw [ycy l k h, rks_snoc]
theorem rowK_take (R : List UInt8) (l : List Int) (k : Nat) (h : k < l.length) : rowK R (l.take (k + 1)) = mv (rowK R (l.take k)) l[k].toNat := by rw [ycy l k h, rowK_snoc]
theorem bys_take (R : List UInt8) (l : List Int) (k : Nat) (h : k < l.length) : bys R (l.take (k + 1)) = bys R (l.take k) ++ [(rowK R (l.take k)).getD l[k].toNat 0] := by rw [ycy l k h, bys_snoc]
theorem ygF : ∀ (s R : List UInt8), Whole R → bys R (rks R s) = s ∧ ycW (rks R s) = true
 | [], _, _ => ⟨rfl, rfl⟩
 | b :: t, R, h => by
  have hl := pl_lt h b
  obtain ⟨h1, h2⟩ := ygF t (mv R (pl R b)) (h.mv _ hl)
  refine ⟨?_, ?_⟩
  ·show R.getD (pl R b : Int).toNat 0 :: bys (mv R (pl R b : Int).toNat) (rks (mv R (pl R b)) t) = b :: t
   rw [qan, h1, pl_get h]
  ·show ycW ((pl R b : Int) :: rks (mv R (pl R b)) t) = true
   rw [rgood_cons]
   exact ⟨by omega, h2⟩
theorem bget_more (L T : List Nat) (to : Nat) (h : (ybq L to 4).2 = 0) : ybq (L ++ T) to 4 = ybq L to 4 ∧ to + 4 ≤ L.length := by
 unfold ybq at h ⊢
 rw [qae (by omega)] at h ⊢
 by_cases a : (to : Int) + 4 > L.length
 ·rw [qag a] at h; cases h
 ·have a2 : to + 4 ≤ L.length := by omega
  rw [qae a, qae (by rw [qab]; omega), qan, qaW (by omega), qbh (by rw [qas]; show 4 ≤ _; omega)]
  exact ⟨rfl, a2⟩
theorem lz_more : ∀ R T : List Nat, lz R < R.length → lz (R ++ T) = lz R
 | [], _, h => absurd h (by simp)
 | d :: t, T, h => by
  show (if d = 0 then lz (t ++ T) + 1 else 0) = (if d = 0 then lz t + 1 else 0)
  by_cases e : d = 0
  ·have h2 : lz (d :: t) = lz t + 1 := by show (if d = 0 then lz t + 1 else 0) = _; rw [qag e]
   rw [qag e, qag e, lz_more t T (by rw [h2, qap] at h; omega)]
  ·rw [qae e, qae e]
theorem ungam_more (R T : List Nat) (h : (ybr R).2.2 = 0) : ybr (R ++ T) = ybr R ∧ (ybr R).2.1 ≤ R.length := by
 have hl := lz_le R
 unfold ybr at h ⊢
 by_cases a1 : lz R = R.length
 ·rw [qag a1] at h; cases h
 rw [qae a1] at h ⊢
 by_cases a2 : 32 ≤ lz R
 ·rw [qag a2] at h; cases h
 rw [qae a2] at h ⊢
 by_cases a3 : R.length < 2 * lz R + 1
 ·rw [qag a3] at h; cases h
 rw [qae a3]
 have e := lz_more R T (by omega)
 rw [e, qae (by rw [qab]; omega), qae a2, qae (by rw [qab]; omega), qaW (by omega), qbh (by rw [qas]; omega)]
 exact ⟨rfl, by show 2 * lz R + 1 ≤ R.length; omega⟩
theorem tget1_more (L T : List Nat) (n : Nat) : ∀ (f to : Nat) (last : Int) (out : List Int), to ≤ L.length → (ycn L n f to last out).2.2 = 0 → ycn (L ++ T) n f to last out = ycn L n f to last out ∧ (ycn L n f to last out).2.1 ≤ L.length
 | 0, to, last, out, hto, h => ⟨rfl, hto⟩
 | f + 1, to, last, out, hto, h => by
  rw [yc2] at h ⊢
  rw [yc2]
  by_cases h1 : n ≤ out.length
  ·rw [qag h1, qag h1]
   exact ⟨rfl, hto⟩
  rw [qae h1] at h ⊢
  rw [qae h1]
  by_cases h2 : (ybq L to 4).2 ≠ 0
  ·rw [qag h2] at h; exact absurd h h2
  rw [qae h2] at h ⊢
  obtain ⟨m1, m2⟩ := bget_more L T to (by omega)
  rw [m1, qae h2, qaW m2]
  by_cases h3 : (ybr (L.drop (to + 4))).2.2 ≠ 0
  ·rw [qag h3] at h; exact absurd h h3
  rw [qae h3] at h ⊢
  obtain ⟨m3, m4⟩ := ungam_more (L.drop (to + 4)) T (by omega)
  rw [m3, qae h3]
  by_cases h4 : (ybq L to 4).1 = last
  ·rw [qag h4] at h; cases h
  rw [qae h4] at h ⊢
  rw [qae h4]
  by_cases h5 : (n : Int) - out.length < (ybr (L.drop (to + 4))).1
  ·rw [qag h5] at h; cases h
  rw [qae h5] at h ⊢
  rw [qae h5]
  rw [qas] at m4
  exact tget1_more L T n f _ _ _ (by omega) h
theorem tgetF_more (L T : List Nat) (p : Nat) (n : Int) (hp : p ≤ L.length) (h : (ybB L p n).2.2 = 0) : ybB (L ++ T) p n = ybB L p n ∧ (ybB L p n).2.1 ≤ L.length ∧ yat (ybB L p n).1 = 0 := by
 unfold ybB at h ⊢
 by_cases h1 : n < 0 ∨ 257 < n
 ·rw [qag h1] at h; cases h
 rw [qae h1] at h ⊢
 rw [qae h1]
 by_cases h2 : (ycn L n.toNat (n.toNat + 1) p (-1) []).2.2 ≠ 0
 ·rw [qag h2] at h; exact absurd h h2
 rw [qae h2] at h ⊢
 obtain ⟨m1, m2⟩ := tget1_more L T n.toNat (n.toNat + 1) p (-1) [] hp (by omega)
 rw [m1, qae h2]
 by_cases h3 : yat (ycn L n.toNat (n.toNat + 1) p (-1) []).1 ≠ 0
 ·rw [qag h3] at h; exact absurd h h3
 rw [qae h3]
 exact ⟨rfl, m2, by show yat (ycn L n.toNat (n.toNat + 1) p (-1) []).1 = 0; omega⟩
theorem yg3 : ∀ R d : List Nat, (begF R d).2 = true → ∃ T, R = d ++ T
 | R, [], _ => ⟨R, rfl⟩
 | [], _ :: _, h => by cases h
 | a :: t, b :: u, h => by
  have e : begF (a :: t) (b :: u) = if a = b then begF t u else (false, false) := rfl
  rw [e] at h
  by_cases hab : a = b
  ·rw [qag hab] at h
   obtain ⟨T, hT⟩ := yg3 t u h
   exact ⟨T, by rw [hab, hT]; rfl⟩
  ·rw [qae hab] at h; cases h
theorem yfw (R : List Nat) : ∀ (ws : List (Int × Int)) (s : Nat) (E : Int), E ≠ 0 → (ybp ws s R E).2.2 = 0 → ∃ j, ∃ hj : j < ws.length, ws[j].2 ≠ 0 ∧ (∃ T, R = digI ws[j].1 ws[j].2 ++ T)
 | [], s, E, hE, h => absurd h hE
 | f :: t, s, E, hE, h => by
  have e : ybp (f :: t) s R E = if f.2 = 0 then ybp t (s + 1) R E else if (begF R (digI f.1 f.2)).2 = true then ((s : Int), ((digI f.1 f.2).length : Int), 0) else ybp t (s + 1) R (if (begF R (digI f.1 f.2)).1 = true then 4 else E) := rfl
  rw [e] at h
  by_cases h1 : f.2 = 0
  ·rw [qag h1] at h
   obtain ⟨j, hj, h2⟩ := yfw R t (s + 1) E hE h
   exact ⟨j + 1, by simpa using hj, h2⟩
  ·rw [qae h1] at h
   by_cases h2 : (begF R (digI f.1 f.2)).2 = true
   ·exact ⟨0, by simp, h1, yg3 R _ h2⟩
   ·rw [qae h2] at h
    obtain ⟨j, hj, h3⟩ := yfw R t (s + 1) _ (by split <;> omega) h
    exact ⟨j + 1, by simpa using hj, h3⟩
section
variable {ls : List Nat} {L : List Nat}
theorem cget_more (h15 : ∀ x ∈ ls, x ≤ 15) (hc : call ls ≤ 32768) {T : List Nat} (hb : Bin L) (hbT : Bin T) (p : Nat) (hp : p ≤ L.length) (h : (ybl (wat ls 16 0) L p).2.2 = 0) : ybl (wat ls 16 0) (L ++ T) p = ybl (wat ls 16 0) L p ∧ p + (ybl (wat ls 16 0) L p).2.1.toNat ≤ L.length := by
 unfold ybl at h ⊢
 obtain ⟨k, hk2, h1, T2, h2⟩ := yfw (L.drop p) (wat ls 16 0) 0 _ (by split <;> omega) h
 have hk : k < ls.length := by rw [yaD] at hk2; exact hk2
 have hpk : 0 < ls[k] := by
  rcases qbm ls[k] with h3 | h3
  ·exact absurd (yd9 h15 k hk hk2 (by omega)) h1
  ·exact h3
 rw [(yc6 h15 k hk hk2 hpk).1] at h2
 have hbd : Bin (L.drop p) := fun d hd => hb d (qbg hd)
 have g1 := yg4 h15 hc hbd (if p = L.length then 4 else 40) k hk hpk T2 h2
 have g2 := yg4 h15 hc (hbd.app hbT) (if p = (L ++ T).length then 4 else 40) k hk hpk (T2 ++ T) (by rw [h2, qam])
 rw [qaW hp, g1, g2]
 refine ⟨rfl, ?_⟩
 have := qbC List.length h2
 rw [qas, qab, yad] at this
 show p + ((ls[k] : Nat) : Int).toNat ≤ L.length
 omega
theorem cunp_more (h15 : ∀ x ∈ ls, x ≤ 15) (hc : call ls ≤ 32768) {T : List Nat} (hb : Bin L) (hbT : Bin T) : ∀ (i p : Nat) (acc : List Int), p ≤ L.length → (cunp (wat ls 16 0) L i p acc).2.2 = 0 → cunp (wat ls 16 0) (L ++ T) i p acc = cunp (wat ls 16 0) L i p acc ∧ (cunp (wat ls 16 0) L i p acc).2.1 ≤ L.length
 | 0, p, acc, hp, _ => ⟨rfl, hp⟩
 | i + 1, p, acc, hp, h => by
  rw [ydi] at h ⊢
  rw [ydi]
  by_cases h1 : (ybl (wat ls 16 0) L p).2.2 = 0
  ·rw [qag h1] at h ⊢
   obtain ⟨g1, g2⟩ := cget_more h15 hc hb hbT p hp h1
   rw [g1, qag h1]
   exact cunp_more h15 hc hb hbT i _ _ g2 h
  ·rw [qae h1] at h
   exact absurd h h1
end
def yfH (L : List Nat) (p : Nat) : Bool := decide (L.length - p < 8) && decide (lz (L.drop p) = L.length - p)
def hdec2 (L : List Nat) (U : List Int × Nat × Int) : List Int × Int := if U.2.2 ≠ 0 then ([], U.2.2) else if yfH L U.2.1 = true then (U.1, 0) else ([], 6)
def hdec1 (L : List Nat) (n : Nat) (G : List Int × Nat × Int) : List Int × Int := if G.2.2 ≠ 0 then ([], G.2.2) else hdec2 L (cunp (wat (G.1.map Int.toNat) 16 0) L n G.2.1 [])
def ybQ (s : List UInt8) (n : Int) : List Int × Int := if n < 0 ∨ 100000 < n then ([], 2) else hdec1 (yag s) n.toNat (ybB (yag s) 0 257)
theorem tgetF_back {l : List Int} (h : yat l = 0) (L T : List Nat) (hL : L = yaw l ++ T) : ybB L 0 (l.length : Int) = (l, (yaw l).length, 0) := by
 obtain ⟨hl, hg⟩ := ydl h
 have hr := tget_back L l (fun i hi => yaJ hg i hi) hl T (l.length + 1) 0 0 (-1) (qcb _) (by omega) (fun hi e => by have := yaJ hg 0 hi; omega) (by rw [qbi, qbi, hL])
 rw [qbi, qaz, qbb] at hr
 unfold ybB
 rw [qae (by omega), qan, hr, qae (by simp), qae (by rw [h]; simp)]
theorem ygp {l : List Int} (h : l.length ≤ 100000) (hi : hin l = true) (L T : List Nat) (hL2 : L = hB l ++ T) (hb : Bin L) : ybB L 0 257 = (hL l, (yaw (hL l)).length, 0) ∧ cunp (hws l) L l.length (yaw (hL l)).length [] = (l, (hB l).length, 0) := by
 have hc := yck h
 obtain ⟨_, hg, hca⟩ := ycj hc
 constructor
 ·have := tgetF_back hc L (ybo (hws l) l ++ T) (by rw [hL2]; unfold hB; rw [qam])
  rw [yce] at this
  exact this
 ·have := cunp_back (cnat15 hg) hca hb l (yaw (hL l)).length [] T (hL_word h hi) (by
   rw [hL2]
   unfold hB
   rw [qam, qbK rfl]
   rfl)
  rw [qbc] at this
  unfold hws
  rw [this]
  unfold hB hws
  rw [qab]
theorem hlz_zeros : ∀ n, lz (List.replicate n 0) = n
 | 0 => rfl
 | n + 1 => by
  rw [qaP]
  show (if (0 : Nat) = 0 then lz (List.replicate n 0) + 1 else 0) = n + 1
  rw [qag rfl, hlz_zeros n]
theorem hrow {l : List Int} (h : l.length ≤ 100000) (B : List UInt8) : yag (text (hB l) ++ B) = hB l ++ (List.replicate (fr (hB l)) 0 ++ yag B) := by rw [row_append, row_text (hB_bin h), qam]
theorem hback {l : List Int} (h : l.length ≤ 100000) (hi : hin l = true) : ybQ (text (hB l)) (l.length : Int) = (l, 0) := by
 have hr := hrow h []
 rw [qa8] at hr
 have e : yag [] = [] := rfl
 rw [e, qa8] at hr
 obtain ⟨h1, h2⟩ := ygp h hi _ _ hr (yc8 _)
 unfold ybQ hdec1
 rw [qae (by omega), h1, qae (by simp), qan]
 show hdec2 _ (cunp (hws l) _ _ _ _) = _
 rw [h2]
 unfold hdec2
 rw [qae (by simp), qag]
 unfold yfH
 rw [hr, qbK rfl, hlz_zeros, qab, qav]
 have := fr_lt (hB l)
 simp
 omega
theorem tbP_pos : ∀ (t : List Int) (x : Int) (c : Nat), 4 ≤ (tbP x c t).length
 | [], x, c => by
  show 4 ≤ (trb x c).length
  unfold trb digI
  rw [qab, yad]
  exact Nat.le_add_right _ _
 | y :: t, x, c => by
  show 4 ≤ (if y = x then tbP x (c + 1) t else trb x c ++ tbP y 1 t).length
  by_cases e : y = x
  ·rw [qag e]; exact tbP_pos t x (c + 1)
  ·rw [qae e, qab]
   have := tbP_pos t y 1
   omega
theorem hB_pos (l : List Int) : 4 ≤ (hB l).length := by
 unfold hB
 rw [qab]
 have h1 := yce l
 generalize hL l = k at *
 cases k with
 | nil => cases h1
 | cons x t =>
  have := tbP_pos t x 1
  show 4 ≤ (tbP x 1 t).length + _
  omega
theorem hcut {l : List Int} (h : l.length ≤ 100000) (hi : hin l = true) (k : Nat) (hk : k + 1 = (text (hB l)).length) : (ybQ ((text (hB l)).take k) (l.length : Int)).2 ≠ 0 := by
 intro hz
 have hr := hrow h []
 rw [qa8] at hr
 obtain ⟨h1, h2⟩ := ygp h hi _ _ hr (yc8 _)
 have hsplit : yag (text (hB l)) = yag ((text (hB l)).take k) ++ yag ((text (hB l)).drop k) := by rw [← row_append, qax]
 have hlen : (yag ((text (hB l)).take k)).length = 8 * k := by rw [yax, qao]; omega
 have htl := yaW (hB l)
 have hpos := hB_pos l
 unfold ybQ hdec1 at hz
 rw [qae (by omega), qan] at hz
 have hb1 := yc8 ((text (hB l)).take k)
 have hb2 := yc8 ((text (hB l)).drop k)
 rw [hsplit] at h1 h2
 generalize yag ((text (hB l)).take k) = R at *
 generalize yag ((text (hB l)).drop k) = T at *
 by_cases g : (ybB R 0 257).2.2 ≠ 0
 ·rw [qag g] at hz
  exact g hz
 rw [qae g] at hz
 obtain ⟨m1, m2, m3⟩ := tgetF_more R T 0 257 (qcb _) (by omega)
 rw [← m1, h1] at hz m2 m3
 dsimp only at hz m2 m3
 unfold hdec2 at hz
 obtain ⟨_, hg, hca⟩ := ycj m3
 by_cases g2 : (cunp (wat ((hL l).map Int.toNat) 16 0) R l.length (yaw (hL l)).length []).2.2 ≠ 0
 ·rw [qag g2] at hz
  exact g2 hz
 obtain ⟨m4, m5⟩ := cunp_more (cnat15 hg) hca hb1 hb2 l.length (yaw (hL l)).length [] m2 (by omega)
 unfold hws at h2
 rw [h2] at m4
 rw [← m4] at m5
 dsimp only at m5
 omega
theorem size_any (n : Int) (w : World) (h : n < 9223372036854775808) : Calls prog 59 #[.int .i64 n] w fun e w' => e = .returned (.int .i64 (sizeF n)) ∧ w = w' := by
 by_cases h0 : n < 0
 ·have fin : sizeF n = 0 := by simp [sizeF, putB, h0]
  rw [fin]
  clear fin
  go_enter func59, ntmps59
  go_wp2
  go_ret
  exact ⟨rfl, rfl⟩
 ·obtain ⟨m, rfl⟩ := qaF (by omega : 0 ≤ n)
  have hm : m < 128 ^ (8 + 1) := by rw [pow9]; omega
  have fin : sizeF (m : Int) = ((dg 9 m).length : Int) := by unfold sizeF; rw [yeg (by omega), qan]
  rw [fin]
  clear fin
  have st : Hid (m < 128 ^ (8 + 1) ∧ 1 + (dg (8 + 1) m).length = (dg 9 m).length + 1) := qaa ⟨hm, qcC _ _⟩
  clear hm
  generalize hL : (dg 9 m).length = L at st ⊢
  have hL' := qaa hL
  clear hL
  go_enter func59, ntmps59
  go_wp2
  go_loop [0, 3] (fun n s => ∃ (f k c : Nat), n = .int .i64 (k : Int) ∧ s = .int .i64 (c : Int) ∧ c + f ≤ 9 ∧ (k : Int) < 9223372036854775808 ∧ Hid (k < 128 ^ (f + 1) ∧ c + (dg (f + 1) k).length = L + 1)) (fun n _ => match n with | .int _ m => m.toNat | _ => 0)
  case atStart => exact ⟨8, m, 1, rfl, rfl, by omega, by omega, ⟨st.1, by rw [← hL'.out]; exact qcC _ _⟩⟩
  case round =>
   obtain ⟨f, k, c, rfl, rfl, hc, hk, hd⟩ := hrel
   clear st hL' h h0
   by_cases h128 : 128 ≤ (k : Int)
   ·go_wp2
    obtain ⟨hd1, hd2⟩ := hd.out
    cases f with
    | zero => exfalso; simp at hd1; omega
    | succ f =>
     have hdiv : k / 128 < 128 ^ (f + 1) := by rw [qbE (by omega)]; rw [qaR] at hd1; exact hd1
     have e : dg (f + 1 + 1) k = UInt8.ofNat (128 + k % 128) :: dg (f + 1) (k / 128) := by rw [dg, qae (by omega)]
     rw [e, qap] at hd2
     refine ⟨⟨f, k / 128, c + 1, iv (by omega), iv (by omega), by omega, by omega, hdiv, by omega⟩, ?_⟩
     show Int.toNat _ < Int.toNat _
     omega
   ·go_wp2
    obtain ⟨hd1, hd2⟩ := hd.out
    have e : dg (f + 1) k = [UInt8.ofNat k] := by rw [dg, qag (by omega)]
    rw [e] at hd2
    go_ret
    exact ⟨qbC Ending.returned (iv (by simp at hd2; omega)), rfl⟩
def hd : Nat → Nat → List UInt8
 | 0, _ => []
 | f + 1, n => UInt8.ofNat (128 + n % 128) :: hd f (n / 128)
theorem ye3 : ∀ f n, (hd f n).length = f
 | 0, _ => rfl
 | f + 1, n => by simp [hd, ye3 f]
theorem hd_snoc : ∀ f n, hd (f + 1) n = hd f n ++ [UInt8.ofNat (128 + n / 128 ^ f % 128)]
 | 0, n => by simp [hd]
 | f + 1, n => by
  have := hd_snoc f (n / 128)
  rw [hd, this, hd, qbP, qaR, qb6 128]
  rfl
theorem dg_hd : ∀ f n, n < 128 ^ (f + 1) → ∃ j, j ≤ f ∧ dg (f + 1) n = hd j n ++ [UInt8.ofNat (n / 128 ^ j)] ∧ n / 128 ^ j < 128
 | f, n, h => by
  by_cases h1 : n < 128
  ·exact ⟨0, by omega, by simp [dg, h1, hd], by simpa using h1⟩
  ·cases f with
   | zero => simp at h; omega
   | succ f =>
    have hdiv : n / 128 < 128 ^ (f + 1) := by rw [qbE (by omega)]; rw [qaR] at h; exact h
    obtain ⟨j, hj, e, hq⟩ := dg_hd f (n / 128) hdiv
    have e2 : n / 128 / 128 ^ j = n / 128 ^ (j + 1) := by rw [qbP, qaR, qb6 128]
    rw [e2] at e hq
    refine ⟨j + 1, by omega, ?_, hq⟩
    rw [dg, qae h1, e]
    rfl
theorem ygM : (prog.info? 5).map (fun i => (i.zero, i.size, i.bytes)) = some (some (.int .u8 0), 1, 1) := by kernel_rfl
theorem lay_any (n N : Nat) (pre mid post : List UInt8) (g : Nat) (w : World) (hn : n < 9223372036854775808) (hm : mid.length = (dg 9 n).length) (hN : pre.length + mid.length + post.length = N) (hB : Blk w g 5 (bc (pre ++ (mid ++ post)))) (hmax : N ≤ 4611686018427387904) :
  Calls prog 138 #[.slice (some ⟨g, 0, none⟩) N N, .int .i64 pre.length, .int .i64 n] w fun e w' => e = .returned (.int .i64 ((pre.length + (dg 9 n).length : Nat) : Int)) ∧ Blk w' g 5 (bc (pre ++ (dg 9 n ++ post))) ∧ Below g w w' := by
 obtain ⟨i0, hi, hz0, hz1, hz2⟩ := qb1 ygM
 obtain ⟨j, hj, hdg, hq⟩ := dg_hd 8 n (by rw [← pow9] at hn; exact hn)
 have hL : (dg 9 n).length = j + 1 := by rw [hdg]; simp [ye3]
 have hsz : sizeF (n : Int) = (j : Int) + 1 := by unfold sizeF; rw [yeg (by omega), qan, hL]; rfl
 have hsl : ∀ W : World, (Instr.slice 36 (.slice (some ⟨g, 0, none⟩) N N) (some (.int .i64 (pre.length : Int))) (some (.int .i64 ((pre.length : Int) + ((j : Int) + 1)))) (some (.int .i64 ((pre.length : Int) + ((j : Int) + 1))))).run prog W = .ok (.slice (some ⟨g, pre.length, none⟩) (j + 1) (j + 1)) W := fun W => by
  have := ygT (P := prog) underlying36 hi hz1 g 0 N N pre.length (pre.length + (j + 1)) (by omega) (by omega) W
  rw [qbB, qbB, show pre.length + (j + 1) - pre.length = j + 1 from by omega, qaz] at this
  exact this
 have e9 : (dg 9 n) = hd j n ++ [UInt8.ofNat (n / 128 ^ j)] := hdg
 rw [hL] at hm ⊢
 rw [e9]
 have hn' : (n : Int) < 9223372036854775808 := by omega
 have hmaxp : pre.length + (j + 1) ≤ 4611686018427387904 := by omega
 have Hq := qaa hq
 have Hm := qaa hm
 have HB := qaa hB
 clear hdg hq hL e9 hn hm hB hz0 hz1 hz2 hi
 generalize hP : pre.length = P0 at *
 have HP := qaa hP
 clear hP
 go_enter func138, ntmps138
 go_wp2_with (refine (size_any (n : Int) _ hn').mono ?_; rintro e w1 ⟨rfl, rfl⟩; rw [hsz])
 go_loopw [2, 21] (fun s i wr => ∃ k x : Nat, k ≤ j + 1 ∧ i = .int .i64 k ∧ s = .int .i64 x ∧ (x : Int) < 9223372036854775808 ∧ Hid (x = n / 128 ^ k) ∧ Hid (Blk wr g 5 (bc (pre ++ (hd k n ++ (mid.drop k ++ post))))) ∧ Hid (Below g w wr)) (fun _ i _ => 20 - (intOf i).toNat)
 case atStart => exact ⟨0, n, by omega, rfl, rfl, hn', by show n = n / 1; omega, HB.out, qak _ _⟩
 case round =>
  obtain ⟨k, x, hk, rfl, rfl, hx, Hx, HBk, Hb⟩ := hrel
  by_cases hlt : k < j + 1
  ·obtain ⟨b, hb⟩ : ∃ b, mid.drop k = b :: mid.drop (k + 1) := ⟨mid[k]'(by have := Hm.out; omega), qau (by have := Hm.out; omega)⟩
   have hlen : (pre ++ hd k n).length = P0 + k := by rw [qab, HP.out, ye3]
   have hg : wr.cell? ⟨g, P0 + k, none⟩ = some (.int .u8 (b.toNat : Int)) := yc7 HBk.out (by
    rw [← qam, qbj (by omega), hlen, hb]
    simp)
   have hf : wr.frozen? ⟨g, P0 + k, none⟩ = false := HBk.out.frozen _
   have hglt := HBk.out.lt
   have Hlen := qaa hlen
   have Hbb := qaa hb
   clear hlen hb hsl hsz
   generalize hbv : (b.toNat : Int) = bv at hg
   clear hbv
   have hx0 : (0 : Int) ≤ x := by omega
   have hkk : (k : Int) < (j : Int) + 1 := by omega
   go_wp2
   go_roundw
   case rel =>
    have hx' : x = n / 128 ^ k := Hx.out
    have hb := Hb.out
    have hval : ((UInt8.ofNat (128 + x % 128)).toNat : Int) = (x : Int) % 128 + 128 := by rw [yaz _ (by omega)]; omega
    have hnew := HBk.out.set_ (P0 + k) (.int .u8 ((UInt8.ofNat (128 + x % 128)).toNat : Int))
    rw [Hbb.out, ← qam, qb3, ← Hlen.out, bc_set, hval, Hlen.out] at hnew
    refine ⟨k + 1, x / 128, by omega, iv (by omega), iv (by omega), by omega, ?_, ?_, by show Below g w _; go_grown⟩
    ·show x / 128 = n / 128 ^ (k + 1)
     rw [hx', qbP, qaR]
    ·show Blk _ g _ _
     rw [hd_snoc, ← hx']
     simpa using hnew
   case measure => simp [intOf]; omega
  ·obtain rfl : k = j + 1 := by omega
   have hdrop : mid.drop (j + 1) = [] := List.drop_eq_nil_of_le (by have := Hm.out; omega)
   have hblk : Blk wr g 5 (bc ((pre ++ hd j n) ++ UInt8.ofNat (128 + n / 128 ^ j % 128) :: post)) := by
    have := HBk.out
    rw [hdrop, hd_snoc] at this
    simpa using this
   have hlen : (pre ++ hd j n).length = P0 + j := by rw [qab, HP.out, ye3]
   have hq := Hq.out
   generalize hqq : n / 128 ^ j = q at *
   have hg : wr.cell? ⟨g, P0 + j, none⟩ = some (.int .u8 ((q : Int) + 128)) := by
    rw [yc7 hblk (b := UInt8.ofNat (128 + q % 128)) (by rw [qbj (by omega), hlen]; simp), yaz _ (by omega)]
    congr 2
    omega
   have hf : wr.frozen? ⟨g, P0 + j, none⟩ = false := hblk.frozen _
   have hglt := hblk.lt
   have hnew := hblk.set_ (P0 + j) (.int .u8 ((UInt8.ofNat q).toNat : Int))
   rw [← hlen, bc_set, yaz _ (by omega), hlen] at hnew
   have Hnew := qaa hnew
   clear hnew hblk hdrop hlen hsl hsz Hx HBk HB
   have hj0 : (0 : Int) ≤ j := by omega
   have hq0 : (0 : Int) ≤ q := by omega
   have hq128 : (q : Int) < 128 := by omega
   have Hqq := qaa hqq
   have Hq2 := Hq.out
   clear hq hqq Hq2
   go_wp2
   go_ret
   have hb := Hb.out
   refine ⟨qbC Ending.returned (iv (by omega)), ?_, by go_grown⟩
   rw [Hqq.out]
   simpa using Hnew.out
theorem run_make_bytes (n : Nat) (h : n ≤ 281474976710656) (w : World) :
  (Instr.makeSlice 36 (.int .i64 (n : Int)) (.int .i64 (n : Int))).run prog w = .ok (.slice (some ⟨w.heap.size, 0, none⟩) n n) (w.alloc (.cells (bc (List.replicate n 0)) 5)) := by
 rw [← bc_zero]
 exact run_make_row' (P := prog) 36 5 (.int .u8 0) 1 underlying36 ygM rfl .i64 .i64 n (by omega) (by omega) w
theorem run_str (w : World) (g n c : Nat) (t : TypeId) (l : List UInt8) (hn : l.length = n) (h : Blk w g t (bc l)) :
  (convert 36 9 (.slice (some ⟨g, 0, none⟩) n c)).run prog w = .ok (.string ⟨l.toArray⟩) w :=
 ycB underlying36 underlying5 underlying9 w g 0 c l n hn fun j b hj => by rw [qaz]; exact yc7 h hj
def ygS (l : List UInt8) (e : Int) : Value := .tuple #[.string ⟨l.toArray⟩, .int .i64 e]
theorem put_any (n : Int) (w : World) (h : n < 9223372036854775808) : Calls prog 94 #[.int .i64 n] w fun e w' => e = .returned (ygS (putB n) (putE n)) ∧ Below w.heap.size w w' := by
 by_cases h0 : n < 0
 ·have e1 : putB n = [] := by simp [putB, h0]
  have e2 : putE n = 2 := by simp [putE, h0]
  rw [e1, e2]
  clear e1 e2
  go_enter func94, ntmps94
  go_wp2
  go_ret2
  exact ⟨rfl, by go_grown⟩
 ·obtain ⟨m, rfl⟩ := qaF (by omega : 0 ≤ n)
  have e1 : putB (m : Int) = dg 9 m := by rw [yeg (by omega), qan]
  have e2 : putE (m : Int) = 0 := by unfold putE; rw [qae h0]
  have hsz : sizeF (m : Int) = ((dg 9 m).length : Int) := by unfold sizeF; rw [e1]
  have hle := dg_le 9 m
  rw [e1, e2]
  clear e1 e2
  have hmk := fun W : World => run_make_bytes (dg 9 m).length (by omega) W
  have hlay := fun W : World => fun hB => lay_any m (dg 9 m).length [] (List.replicate (dg 9 m).length 0) [] w.heap.size W (by omega) (by simp) (by simp) hB (by omega)
  have hstr := fun (W : World) => run_str W w.heap.size (dg 9 m).length (dg 9 m).length 5 (dg 9 m) rfl
  simp only [qbc, qa8, qbx, qaz] at hlay
  generalize dg 9 m = D at *
  generalize hDL : D.length = L at *
  have Hlay := qaa hlay
  have Hstr := qaa hstr
  clear hlay hstr
  go_enter func94, ntmps94
  go_wp2_with (first
   | (go_at_call 59; refine (size_any (m : Int) _ h).mono ?_; rintro e w1 ⟨rfl, rfl⟩; rw [hsz])
   | (go_at_call 138; refine (Hlay.out _ (Blk.new _ _ _)).mono ?_; rintro e w2 ⟨rfl, hB2, hb2⟩; have hcv := Hstr.out w2 hB2))
  go_ret2
  exact ⟨rfl, Below.trans (by go_grown) hb2⟩
def BPost (w w' : World) (e : Ending) (F : List UInt8 × Int × Int) : Prop := e = .returned (.tuple #[.string ⟨F.1.toArray⟩, .int .i64 F.2.1, .int .i64 F.2.2]) ∧ Below w.heap.size w w'
theorem btF_big {s : List UInt8} (h : 20000 < s.length) : btF s = ([], 0, 3) := qag h
theorem btF_yes {s : List UInt8} (h : ¬ 20000 < s.length) : btF s = (yaV s, (bpr s : Int), 0) := qae h
def bpre (s : List UInt8) (k : Nat) : List UInt8 := ((sarr s).take k).filterMap (yfC s)
def bprk (s : List UInt8) (k : Nat) : Nat := if bpr s < k then bpr s else 0
theorem ygb (s : List UInt8) : bpre s (s.length + 1) = yaV s ∧ bprk s (s.length + 1) = bpr s := by
 constructor
 ·unfold bpre yaV
  rw [qar (by rw [yb0]; omega)]
 ·unfold bprk
  rw [qag (by have := yf4 s; omega)]
theorem bpre_len (s : List UInt8) (k : Nat) : (bpre s k).length ≤ k := by
 unfold bpre
 have := List.length_filterMap_le (yfC s) ((sarr s).take k)
 rw [qao] at this
 omega
theorem bfw_at (s : List UInt8) (k : Nat) (h : k < s.length + 1) : ∃ (p : Nat) (hk : k < (splc (sarr s)).length), (splc (sarr s))[k] = (p : Int) ∧ p ≤ s.length ∧
  (p = 0 → bpre s (k + 1) = bpre s k ∧ bprk s (k + 1) = k) ∧ (∀ q, q + 1 = p → bpre s (k + 1) = bpre s k ++ (s.drop q).take 1 ∧ bprk s (k + 1) = bprk s k) := by
 have hl := yb0 s
 have hk : k < (sarr s).length := by omega
 have hle := sarr_le s k hk
 obtain ⟨h0, e0⟩ := bpr_get s
 have hn : bpre s (k + 1) = bpre s k ++ [(sarr s)[k]].filterMap (yfC s) := by
  unfold bpre
  rw [qat hk, List.filterMap_append]
 refine ⟨(sarr s)[k], by rw [yao]; exact hk, yeJ _ _ _, hle, fun h => ?_, fun q hq => ?_⟩
 ·have e : bpr s = k := sarr_inj s _ _ h0 hk (by omega)
  rw [hn, h]
  refine ⟨qa8 _, ?_⟩
  unfold bprk
  rw [qag (by omega), e]
 ·have e : bpr s ≠ k := fun e => by
   simp only [e] at e0
   omega
  rw [hn, ← hq]
  refine ⟨?_, ?_⟩
  ·congr 1
   rw [qau (show q < s.length by omega)]
   show [s.getD (q + 1 - 1) 0] = _
   rw [qbQ, qaj, qah (by omega)]
   rfl
  ·unfold bprk
   by_cases h1 : bpr s < k
   ·rw [qag h1, qag (by omega)]
   ·rw [qae h1, qae (by omega)]
theorem bw_part (l : List UInt8) (q p : Nat) (h : q + 1 = p) (hl : p ≤ l.length) (w : World) :
  (Instr.slice 9 (.string ⟨l.toArray⟩) (some (.int .i64 (q : Int))) (some (.int .i64 (p : Int))) none).run prog w = .ok (.string ⟨((l.drop q).take 1).toArray⟩) w := by
 rw [run_slice_string w 9 ⟨l.toArray⟩ .i64 .i64 (q : Int) (p : Int) underlying9 (by omega) (by omega) (by rw [qaL, qa3]; omega), qce, qan, qan, show p - q = 1 from by omega]
theorem bw_add (a b : List UInt8) (h : a.length + b.length ≤ 9223372036854775807) (w : World) : (Op.stringOp .add ⟨a.toArray⟩ ⟨b.toArray⟩).run prog w = .ok (.string ⟨(a ++ b).toArray⟩) w := by
 rw [run_string_add_sum w _ _ (by rw [qaL, qaL, qa3, qa3]; exact h), ByteArray.mk_append_mk]
theorem yfL (s : List UInt8) (w : World) (hs : s.length ≤ 1000000) :
  Calls prog 42 #[.string ⟨s.toArray⟩] w fun e w' => BPost w w' e (btF s) := by
 have hp := sref_array_any s w (by omega)
 unfold yfR at hp
 by_cases hbig : 20000 < s.length
 ·rw [saF_no hbig] at hp
  rw [btF_big hbig]
  dsimp only at hp
  have Hp := qaa hp
  clear hp hbig
  go_enter func42, ntmps42
  go_wp2_with (go_at_call 77; refine Hp.out.mono ?_; rintro e w1 ⟨A1, c1, rfl, _, _, hb1⟩)
  go_ret3
  exact ⟨rfl, hb1⟩
 ·rw [saF_yes hbig] at hp
  rw [btF_yes hbig, ← (ygb s).1, ← (ygb s).2]
  dsimp only at hp
  have hn : (splc (sarr s)).length = s.length + 1 := by rw [yao, yb0]
  rw [hn] at hp
  have Hp := qaa hp
  have hn0 : 0 < s.length + 1 := by omega
  have Hat := qaa (bfw_at s)
  have Hlen := qaa (bpre_len s)
  have Hz : Hid (bpre s 0 = [] ∧ bprk s 0 = 0) := qaa ⟨rfl, qae (Nat.not_lt_zero _)⟩
  have Hpart := qaa fun q p h hl => bw_part s q p h hl
  have hsi : (s.length : Int) ≤ 20000 := by omega
  clear hp hn hbig
  generalize splc (sarr s) = AL at *
  go_enter func42, ntmps42
  go_wp2_with (go_at_call 77; refine Hp.out.mono ?_; rintro e w1 ⟨A1, c1, rfl, _, hr1, hb1⟩; obtain ⟨bA, oA, rfl, hbA, hcA⟩ := yhm hr1 hn0; have HcA := qaa hcA; have Hb := qaa hb1; clear hb1 hr1 hbA hcA Hp)
  go_loopw [7, 8, 9, 10] (fun v pv iv _ wr => ∃ (k P : Nat) (U : List UInt8), k ≤ s.length + 1 ∧ v = .string ⟨U.toArray⟩ ∧ pv = .int .i64 (P : Int) ∧ iv = .int .i64 (k : Int) ∧ Hid (bpre s k = U ∧ bprk s k = P) ∧ Hid (Below w1.heap.size w1 wr)) (fun _ _ iv _ _ => s.length + 1 - (intOf iv).toNat)
  case atStart => exact ⟨0, 0, [], by omega, rfl, rfl, rfl, Hz, qaa (qak _ _)⟩
  case round =>
   obtain ⟨k, P, U, hk, rfl, rfl, rfl, HU, HB⟩ := hrel
   have hki0 : (0 : Int) ≤ (k : Int) ∧ (k : Int) ≤ 20001 := by omega
   by_cases hlt : k < s.length + 1
   ·have hki : (k : Int) < (s.length : Int) + 1 := by omega
    obtain ⟨p, hkl, hp, hpl, h0, h1⟩ := Hat.out k hlt
    have x1 := HcA.out wr HB.out k hkl
    rw [hp] at x1
    by_cases hp0 : p = 0
    ·obtain ⟨e1, e2⟩ := h0 hp0
     have d1 : ((p : Int) == 0) = true := by rw [qcL]; omega
     have HU2 : Hid (bpre s (k + 1) = U ∧ bprk s (k + 1) = k) := qaa ⟨e1.trans HU.out.1, e2⟩
     subst hp0
     clear h0 h1 hp hkl e1 e2
     go_wp2
     go_roundw
     case rel => exact ⟨k + 1, k, U, by omega, rfl, rfl, iv (by omega), HU2, HB⟩
     case measure => simp only [intOf]; omega
    ·obtain ⟨q, hq⟩ : ∃ q, q + 1 = p := ⟨p - 1, by omega⟩
     obtain ⟨e1, e2⟩ := h1 q hq
     have hlen := Hlen.out k
     have hpart := Hpart.out q p hq hpl
     have hadd := bw_add U ((s.drop q).take 1) (by rw [HU.out.1] at hlen; rw [qao]; omega)
     obtain ⟨T, hT⟩ : ∃ T, (s.drop q).take 1 = T := ⟨_, rfl⟩
     rw [hT] at hpart hadd e1
     rw [HU.out.1] at e1
     have HU2 : Hid (bpre s (k + 1) = U ++ T ∧ bprk s (k + 1) = P) := qaa ⟨e1, e2.trans HU.out.2⟩
     obtain ⟨V, hV⟩ : ∃ V, U ++ T = V := ⟨_, rfl⟩
     rw [hV] at hadd HU2
     have d1 : ((p : Int) == 0) = false := by rw [qb0]; omega
     have hsub : (p : Int) - 1 = (q : Int) := by omega
     have hw1 : IntKind.i64.wrap ((p : Int) - 1) = (q : Int) := by rw [qal]; omega
     have hw2 : IntKind.i64.wrap (q : Int) = (q : Int) := by rw [qal]; omega
     have hpi : (0 : Int) ≤ (q : Int) ∧ (p : Int) ≤ (s.length : Int) := by omega
     clear h0 h1 hp hkl e1 e2 hV hT hq hlen
     go_wp2
     go_roundw
     case rel => exact ⟨k + 1, P, V, by omega, rfl, rfl, iv (by omega), HU2, HB⟩
     case measure => simp only [intOf]; omega
   ·obtain rfl : k = s.length + 1 := by omega
    obtain ⟨rfl, rfl⟩ := HU.out
    have hki : ¬ (((s.length + 1 : Nat) : Int) < (s.length : Int) + 1) := by omega
    go_wp2
    go_ret3
    exact ⟨rfl, Hb.out.trans (HB.out.mono Hb.out.size)⟩
theorem bsF_big {l : List UInt8} {r : Int} (h : 20000 < l.length) : bsF l r = ([], 3) := qag h
theorem bsF_bad {l : List UInt8} {r : Int} (h : ¬ 20000 < l.length) (k : bbad l r) : bsF l r = ([], 130) := by unfold bsF; rw [qae h, qag k]
theorem bsF_yes {l : List UInt8} {r : Nat} (h : ¬ 20000 < l.length) (k : ¬ bbad l (r : Int)) : bsF l (r : Int) = (splc ((List.range (l.length + 1)).map (brk (bcol l r))), 0) := by unfold bsF; rw [qae h, qae k, qan]
def bst (c : List Int) (N i : Nat) : List Int := (List.range N).map fun j => if j < i then ((brk c j : Nat) : Int) else 0
theorem bst_len (c : List Int) (N i : Nat) : (bst c N i).length = N := by simp [bst]
theorem bst_zero (c : List Int) (N : Nat) : bst c N 0 = List.replicate N 0 := by
 unfold bst
 apply qaY
 ·simp
 ·intro j h1 h2
  simp
theorem bst_set (c : List Int) (N i : Nat) : (bst c N i).set i ((brk c i : Nat) : Int) = bst c N (i + 1) := by
 apply qaY
 ·simp [bst]
 ·intro j h1 h2
  rw [qcx]
  simp only [bst, qaQ, qbd]
  by_cases e : i = j
  ·subst e
   rw [qag rfl, qag (by omega)]
  ·rw [qae e]
   by_cases h : j < i
   ·rw [qag h, qag (by omega)]
   ·rw [qae h, qae (by omega)]
theorem bst_skip (c : List Int) (N i : Nat) (h : brk c i = 0) : bst c N i = bst c N (i + 1) := by
 apply qaY
 ·simp [bst]
 ·intro j h1 h2
  simp only [bst, qaQ, qbd]
  by_cases e : i = j
  ·subst e
   rw [qae (by omega), qag (by omega), h]
   rfl
  ·by_cases h : j < i
   ·rw [qag h, qag (by omega)]
   ·rw [qae h, qae (by omega)]
theorem bst_all (c : List Int) (N : Nat) : bst c N N = splc ((List.range N).map (brk c)) := by
 apply qaY
 ·simp [bst, splc]
 ·intro j h1 h2
  rw [bst_len] at h1
  simp only [bst, splc, qaQ, qbd]
  rw [qag h1]
theorem yf7 (l : List UInt8) (r i j : Nat) (b : UInt8) (w : World) (hs : l.length ≤ 1000000) (hj : j < l.length) (hr : r ≤ l.length) (hi : (i < r ∧ i = j) ∨ (r < i ∧ i = j + 1)) (hb : l[j] = b) :
  Calls prog 137 #[.string ⟨l.toArray⟩, .int .i64 (r : Int), .int .i64 (i : Int)] w fun e w' => e = .returned (.int .u8 (b.toNat : Int)) ∧ w' = w := by
 have hli : (l.length : Int) ≤ 1000000 := by omega
 have hji : (0 : Int) ≤ (j : Int) ∧ (j : Int) < (l.length : Int) := by omega
 have hb1 : ∀ h, ((⟨l.toArray⟩ : ByteArray)[j]'h) = b := fun _ => hb
 rcases hi with ⟨h1, rfl⟩ | ⟨h1, rfl⟩
 ·have d1 : ¬ (r : Int) < (i : Int) := by omega
  clear hb hj hr
  go_enter func137, ntmps137
  go_wp2
  go_ret
  exact ⟨rfl, rfl⟩
 ·have d1 : (r : Int) < (j : Int) + 1 := by omega
  clear hb hj hr
  go_enter func137, ntmps137
  go_wp2
  go_ret
  exact ⟨rfl, rfl⟩
def bck (l : List UInt8) (r : Int) : Int := if 20000 < l.length then 3 else if bbad l r then 130 else 0
theorem yf1 (l : List UInt8) (r : Int) (w : World) (hs : l.length ≤ 1000000) :
  Calls prog 176 #[.string ⟨l.toArray⟩, .int .i64 r] w fun e w' => e = .returned (.int .i64 (bck l r)) ∧ w' = w := by
 have hli : (l.length : Int) ≤ 1000000 := by omega
 by_cases h : 20000 < l.length
 ·have fin : bck l r = 3 := qag h
  rw [fin]
  clear fin
  have d1 : (20000 : Int) < (l.length : Int) := by omega
  go_enter func176, ntmps176
  go_wp2
  go_ret
  exact ⟨rfl, rfl⟩
 ·have fin0 : bck l r = if bbad l r then 130 else 0 := qae h
  have d0 : ¬ (20000 : Int) < (l.length : Int) := by omega
  have hmin : (min 1 (l.length : Int)) = if 0 < l.length then 1 else 0 := by split <;> omega
  by_cases h1 : r < min 1 (l.length : Int)
  ·have fin : bck l r = 130 := fin0.trans (qag (by unfold bbad; split at hmin <;> omega))
   rw [fin]
   clear fin fin0 hmin
   go_enter func176, ntmps176
   go_wp2 <;> (go_ret; exact ⟨rfl, rfl⟩)
  ·by_cases h2 : (l.length : Int) < r
   ·have fin : bck l r = 130 := fin0.trans (qag (by unfold bbad; split at hmin <;> omega))
    rw [fin]
    clear fin fin0 hmin
    go_enter func176, ntmps176
    go_wp2 <;> (go_ret; exact ⟨rfl, rfl⟩)
   ·have fin : bck l r = 0 := fin0.trans (qae (by unfold bbad; split at hmin <;> omega))
    rw [fin]
    clear fin fin0 hmin
    go_enter func176, ntmps176
    go_wp2 <;> (go_ret; exact ⟨rfl, rfl⟩)
def bsp (l : List UInt8) (i : Nat) : List Int := (List.range 256).map fun b => ((yaS l b + ycb l b i : Nat) : Int)
theorem bsp_len (l : List UInt8) (i : Nat) : (bsp l i).length = 256 := by simp [bsp]
theorem bsp_zero (l : List UInt8) : bbw l 256 = bsp l 0 := by
 unfold bbw bsp
 refine qcD fun b hb => ?_
 rw [qag (qaS.1 hb)]
 unfold ycb
 rw [qbb]
 rfl
theorem bsp_at (l : List UInt8) (i b : Nat) (h : b < 256) : (ints (bsp l i))[b]? = some (.int .i64 ((yaS l b + ycb l b i : Nat) : Int)) := by
 rw [yai _ b (by rw [bsp_len]; exact h)]
 simp [bsp]
theorem bsp_set (l : List UInt8) (i : Nat) (hi : i < l.length) : (bsp l i).set l[i].toNat ((yaS l l[i].toNat + ycb l l[i].toNat i + 1 : Nat) : Int) = bsp l (i + 1) := by
 apply qaY
 ·rw [qbJ, bsp_len, bsp_len]
 ·intro b h1 h2
  have hs : ycb l b (i + 1) = ycb l b i + if l[i].toNat = b then 1 else 0 := by
   unfold ycb
   rw [qat hi, qbD, qc0]
   simp only [qba]
  simp only [bsp, qcx, qaQ, qbd]
  rw [hs]
  by_cases e : l[i].toNat = b
  ·rw [qag e, qag e, e, qbU]
  ·rw [qae e, qae e, qbv]
theorem p_stepper_any (l : List UInt8) (w : World) (hs : l.length ≤ 1000000) : Calls prog 177 #[.string ⟨l.toArray⟩] w fun e w' => ∃ g, e = .returned (.func (.func 198) #[] #[.pointer (some ⟨g, 0, none⟩)]) ∧ w.heap.size ≤ g ∧ Blk w' g 235 (ints (bsp l 0)).toArray ∧ Below w.heap.size w w' := by
 have hz := zero_ints256.1
 have Hp := qaa (p_below_any l w hs)
 rw [bsp_zero l] at Hp
 have hlen : (ints (bsp l 0)).toArray.size = 256 := by simp [ints, bsp_len]
 have hzl : (ints (List.replicate 256 0)).toArray.size = 256 := by simp [ints]
 have Hone := qaa (ints_one13 (bsp l 0))
 have hinfo := zero_ints256.2
 have Hi : Hid ((prog.info? 235).map (·.size) = some (ints (bsp l 0)).toArray.size) := qaa (by rw [hlen]; exact hinfo)
 have Hsz : Hid ((ints (List.replicate 256 0)).toArray.size = (ints (bsp l 0)).toArray.size) := qaa (by rw [hlen]; exact hzl)
 clear hinfo hlen hzl
 generalize (ints (List.replicate 256 0)).toArray = Z at *
 generalize (ints (bsp l 0)).toArray = D at *
 have hmf : ∀ (fn : Fn) (first cap : Array Value) (w : World), (Instr.makeFunc fn first cap).run prog w = .ok (.func fn first cap) w := fun _ _ _ _ => rfl
 go_enter func177, ntmps177
 go_wp2_with (first
  | (go_at_call 197; refine Hp.out.mono ?_; rintro e w1 ⟨rfl, hb1⟩; have Hb1 := qaa hb1; clear hb1)
  | (refine ycf rfl 235 _ _ rfl _ _ Z D rfl rfl (heap_alloc_new _ _) Hi.out Hsz.out Hone.out ?_; rw [World.setRow_alloc_new]))
 go_ret
 exact ⟨w1.heap.size, rfl, Hb1.out.size, Blk.new _ _ _, Hb1.out.alloc Hb1.out.size _⟩
theorem p_step_any (l : List UInt8) (i : Nat) (hi : i < l.length) (b : UInt8) (hb : l[i] = b) (g : Nat) (w : World) (hs : l.length ≤ 1000000) (hB : Blk w g 235 (ints (bsp l i)).toArray) :
  Calls prog 198 #[.int .u8 (b.toNat : Int), .pointer (some ⟨g, 0, none⟩)] w fun e w' => e = .returned (.int .i64 ((yaS l b.toNat + ycb l b.toNat i + 1 : Nat) : Int)) ∧ Blk w' g 235 (ints (bsp l (i + 1))).toArray ∧ ∃ v, w' = w.setCell ⟨g, b.toNat, none⟩ v := by
 have hset := bsp_set l i hi
 rw [hb] at hset
 have hlt := b.toNat_lt
 have x1 := hB.cell b.toNat
 rw [qaB, bsp_at l i b.toNat (by omega)] at x1
 have x2 := hB.frozen b.toNat
 have hgl := hB.lt
 have hc : yaS l b.toNat + ycb l b.toNat i ≤ 2000000 := by
  have h1 := ygt l b.toNat
  have h2 := bsame_le l b.toNat i
  omega
 have HB := qaa (hB.set_ b.toNat (.int .i64 ((yaS l b.toNat + ycb l b.toNat i + 1 : Nat) : Int)))
 rw [yaH, hset] at HB
 obtain ⟨c, hcc⟩ : ∃ c, yaS l b.toNat + ycb l b.toNat i = c := ⟨_, rfl⟩
 rw [hcc] at x1 hc HB ⊢
 obtain ⟨x, hx⟩ : ∃ x, b.toNat = x := ⟨_, rfl⟩
 rw [hx] at x1 x2 HB hlt ⊢
 have hci : (0 : Int) ≤ (c : Int) ∧ (c : Int) ≤ 2000000 ∧ (0 : Int) ≤ (x : Int) ∧ (x : Int) < 256 := by omega
 clear hset hcc hx hb hB hc hlt
 go_enter func198, ntmps198
 go_wp2
 go_ret
 exact ⟨rfl, HB.out, _, rfl⟩
def rowC (k : Nat) : List UInt8 := (List.range 256).map fun i => if i < k then UInt8.ofNat i else 0
theorem ygn (k : Nat) : (rowC k).length = 256 := by simp [rowC]
theorem rowC_get (k i : Nat) (h : i < 256) : (rowC k)[i]? = some (if i < k then UInt8.ofNat i else 0) := by simp [rowC, h]
theorem rowC_all : rowC 256 = row0 := by
 unfold rowC row0
 refine qcD fun i hi => ?_
 rw [qag (qaS.1 hi)]
theorem rowC_set (k : Nat) : (rowC k).set k (UInt8.ofNat k) = rowC (k + 1) := by
 apply qc8
 intro i
 by_cases hi : i < 256
 ·rw [List.getElem?_set, rowC_get _ _ hi]
  by_cases e : k = i
  ·subst e
   rw [qag rfl, qag (by rw [ygn]; exact hi), rowC_get _ _ hi, qag (by omega)]
  ·rw [qae e, rowC_get _ _ hi]
   by_cases h1 : i < k
   ·rw [qag h1, qag (by omega)]
   ·rw [qae h1, qae (by omega)]
 ·rw [qbq (by rw [qbJ, ygn]; omega), qbq (by rw [ygn]; omega)]
theorem bcl_set (l : List UInt8) (k : Nat) (b : UInt8) : (bc l).toList.set k (.int .u8 (b.toNat : Int)) = (bc (l.set k b)).toList := by simp [bc, qcu]
theorem cells_set (k : Nat) (h : k < 256) : (bc (rowC k)).toList.set k (.int .u8 (k : Int)) = (bc (rowC (k + 1))).toList := by
 have := bcl_set (rowC k) k (UInt8.ofNat k)
 rw [yaz _ h, rowC_set] at this
 exact this
theorem zero_row : (∀ w, (zeroValue 162).run prog w = .ok (.agg (bc (rowC 0)).toList.toArray) w) ∧ (prog.info? 162).map (·.size) = some 256 := zero_of_info (by kernel_rfl)
theorem alloc_congr {w : World} {a b : List Value} {t : TypeId} (h : a = b) : w.alloc (.cells a.toArray t) = w.alloc (.cells b.toArray t) := by rw [h]
theorem yf5 (w : World) : Calls prog 75 #[] w fun e w' => e = .returned (.pointer (some ⟨w.heap.size, 0, none⟩)) ∧ w' = w.alloc (.cells (bc row0) 162) := by
 have hz := zero_row.1
 have Hset : Hid (∀ k, k < 256 → (bc (rowC k)).toList.set k (.int .u8 (k : Int)) = (bc (rowC (k + 1))).toList) := qaa cells_set
 have Hget : Hid (∀ k, k < 256 → ∃ v, (bc (rowC k)).toList[k]? = some v) := qaa fun k hk => ⟨_, qah (by rw [Array.length_toList, yg1, ygn]; exact hk)⟩
 have he : bc row0 = (bc (rowC 256)).toList.toArray := by rw [rowC_all]
 rw [he]
 clear he
 generalize hf : (fun k => (bc (rowC k)).toList) = f at *
 have hf' : ∀ k, (bc (rowC k)).toList = f k := fun k => by rw [← hf]
 simp only [hf'] at *
 clear hf' hf
 generalize hZ : f 0 = Z at *
 have HZ := qaa hZ
 clear hZ
 generalize hD : f 256 = D at *
 have HD := qaa hD
 clear hD
 go_enter func75, ntmps75
 go_wp2
 go_loopw [3] (fun i wr => ∃ k : Nat, k ≤ 256 ∧ i = .int .i64 k ∧ Hid (wr = w.alloc (.cells (f k).toArray 162))) (fun i _ => 256 - (intOf i).toNat)
 case atStart => exact ⟨0, by omega, rfl, qaa (by rw [HZ.out])⟩
 case round =>
  obtain ⟨k, hk, rfl, Hw⟩ := hrel
  obtain rfl := Hw.out
  by_cases hlt : k < 256
  ·have hki : (0 : Int) ≤ (k : Int) ∧ (k : Int) < 256 := by omega
   have hm : (k : Int) % 256 = k := by omega
   obtain ⟨v, hv⟩ := Hget.out k hlt
   have Hs := qaa (Hset.out k hlt)
   clear hlt Hw
   go_wp2
   go_roundw
   case rel => exact ⟨k + 1, by omega, iv (by omega), qaa (alloc_congr Hs.out)⟩
   case measure => simp only [intOf]; omega
  ·obtain rfl : k = 256 := by omega
   rw [HD.out]
   go_wp2
   go_ret
   exact ⟨rfl, rfl⟩
theorem ycX (l : List UInt8) : (bc l).toList = l.map fun b => Value.int .u8 (b.toNat : Int) := by simp [bc]
theorem mv_row (R : List UInt8) (k : Nat) (hk : k < R.length) : ((bc R).toList.take 1 ++ ((bc R).toList.take k ++ (bc R).toList.drop (1 + k))).set 0 (.int .u8 ((R.getD k 0).toNat : Int)) = (bc (mv R k)).toList := by
 rw [ycX, ycX]
 unfold mv
 cases R with
 | nil => simp at hk
 | cons b t => simp [qcC 1 k]
theorem ygq {P : Program} {w : World} {ops : Array Oper} {rest : List Oper} {o : Oper} {a : Act} {Q : Exit → Act → World → Prop} (hgd : o.guard = none) (d s : Operand) (dT sT : TypeId)
  (ho : o.op = .call { callee := .builtin .copy, args := #[d, s], argTypes := #[dT, sT] }) (elem : TypeId) (hu : P.underlying dT = some (.slice elem)) (hsz : (P.info? elem).map (·.size) = some 1)
  (g off dLen dCap : Nat) (ad : Addr) (sLen sCap : Nat) (hd : a.eval d = .slice (some ⟨g, off, none⟩) dLen dCap) (hs : a.eval s = .slice (some ad) sLen sCap)
  (cur : Array Value) (t : TypeId) (hg : Blk w g t cur) (cs : List Value) (hn : cs.length = Nat.min sLen dLen)
  (hsrc : ∀ j v, cs[j]? = some v → w.cell? (ad.add j) = some v) (hfit : off + cs.length ≤ cur.size) (h1 : ∀ v ∈ cs, v.oneCell' = true)
  (N : List Value) (hN : cur.toList.take off ++ (cs ++ cur.toList.drop (off + cs.length)) = N)
  (h : ∀ w', w.grownBy w' (some g) → Blk w' g t N.toArray → wpList P ops Q rest (a.put o.dst (goInt cs.length)) w') : wpList P ops Q (o :: rest) a w := by
 refine wpList_copy_own hgd d s dT sT ho elem hu hsz g off dLen dCap ad sLen sCap hd hs cur t hg cs hn hsrc hfit h1 (h _ (grow_row _ _ _) ?_)
 rw [hN]
 exact hg.row _
theorem yfB (R : List UInt8) (h : Whole R) (k : Nat) (hk : k < 256) (g : Nat) (w : World) (hB : Blk w g 162 (bc R)) :
  Calls prog 122 #[.pointer (some ⟨g, 0, none⟩), .int .i64 (k : Int)] w fun e w' => e = .returned (.int .u8 ((R.getD k 0).toNat : Int)) ∧ w.grownBy w' (some g) ∧ Blk w' g 162 (bc (mv R k)) := by
 have hlen := h.len
 have hc : w.cell? ⟨g, k, none⟩ = some (.int .u8 ((R.getD k 0).toNat : Int)) := yc7 hB (by rw [qaj, qah (by omega)]; rfl)
 have hki : (0 : Int) ≤ (k : Int) ∧ (k : Int) < 256 := by omega
 have hsz : ((bc R).toList.take k).length = k := by simp [yg1, hlen]; omega
 have hcopy : ∀ (a : Act) (ops : Array Oper) (Q : Exit → Act → World → Prop) (o : Oper) (d s : Operand), o.guard = none → o.op = .call { callee := .builtin .copy, args := #[d, s], argTypes := #[36, 36] } →
   a.eval d = .slice (some ⟨g, 1, none⟩) k 255 → a.eval s = .slice (some ⟨g, 0, none⟩) k 256 →
   (∀ w' N v, w.grownBy w' (some g) → Blk w' g 162 N → w'.cell? ⟨g, 0, none⟩ = some v → N.setIfInBounds 0 (.int .u8 ((R.getD k 0).toNat : Int)) = bc (mv R k) → wpList prog ops Q [] (a.put o.dst (goInt k)) w') → wpList prog ops Q [o] a w.drew := by
  intro a ops Q o d s hgd ho hd hs hh
  refine ygq hgd d s _ _ ho 5 underlying36 (by kernel_rfl) g 1 k 255 ⟨g, 0, none⟩ k 256 hd hs (bc R) 162 hB.drew ((bc R).toList.take k) (by rw [hsz]; exact (Nat.min_self k).symm)
   (fun j v hj => by
    rw [ydJ, qc2] at *
    split at hj
    ·rw [qaz, hB.drew.cell]; simpa using hj
    ·cases hj)
   (by rw [hsz, yg1, hlen]; omega)
   (fun v hv => by
    have := qaN hv
    rw [ycX] at this
    obtain ⟨b, _, rfl⟩ := qb5.1 this
    rfl) _ rfl ?_
  intro w' hg hb
  rw [hsz] at hb ⊢
  have hm := mv_row R k (by omega)
  have hl : 0 < (List.take 1 (bc R).toList ++ (List.take k (bc R).toList ++ List.drop (1 + k) (bc R).toList)).length := by
   rw [qab, qao, Array.length_toList, yg1, hlen]
   omega
  generalize List.take 1 (bc R).toList ++ (List.take k (bc R).toList ++ List.drop (1 + k) (bc R).toList) = N at *
  refine hh w' N.toArray N[0] ⟨hg.os, hg.tape, hg.output, hg.size, hg.block⟩ hb ?_ ?_
  ·rw [hb.cell]; simp [hl]
  ·rw [qac, hm]
 have Hcopy := qaa hcopy
 clear hcopy hsz hB h hlen
 generalize ((R.getD k 0).toNat : Int) = bv at *
 generalize bc (mv R k) = M at *
 go_enter func122, ntmps122
 go_wp2
 have hw1 : IntKind.i64.wrap ((k : Int) + 1) = (k : Int) + 1 := by rw [qal]; omega
 have hk2 : (k : Int) + 1 ≤ 256 ∧ (k : Int) ≤ 256 ∧ 1 ≤ (k : Int) + 1 := by omega
 refine qb2 9 (by kernel_rfl) (by kernel_rfl) ?_
 simp only [qaM, qbb, qbu, qbi]
 change wpStill _ _ (World.drew _) (fun a' => wpList _ _ _ _ a' (World.drew _)) _ _
 repeat still_step
 refine qc6 ?_
 refine Hcopy.out _ _ _ _ _ _ rfl rfl rfl rfl ?_
 intro w1 N v hg hb hv hN
 have hf := hb.frozen 0
 have Hg := qaa hg
 have Hb := qaa hb
 have HN := qaa hN
 clear hg hb hN Hcopy
 go_wp2
 go_ret
 refine ⟨rfl, ybe Hg.out (qay rfl) _, ?_⟩
 rw [← HN.out]
 exact Hb.out.set_ 0 _
theorem index_pl (R : List UInt8) (b : UInt8) (h : b ∈ R) : Lib.indexByte R b = (pl R b : Int) := by
 unfold pl
 induction R with
 | nil => cases h
 | cons c t ih =>
  unfold Lib.indexByte
  rw [List.idxOf_cons]
  by_cases e : c = b
  ·simp [e]
  ·have ht : b ∈ t := by
    rcases qaC.1 h with h | h
    ·exact absurd h.symm e
    ·exact h
   have e2 : (c == b) = false := by simpa using e
   have h3 : ((List.idxOf b t : Int) == -1) = false := by rw [qb0]; omega
   rw [e2, ih ht, h3]
   simp
theorem bytesOf_map (R : List UInt8) : Lib.bytesOf (R.map fun b => (b.toNat : Int)) = R := by
 simp [Lib.bytesOf, Function.comp_def]
theorem fr_index_any (R : List UInt8) (h : Whole R) (b : UInt8) (g : Nat) (w : World) (hB : Blk w g 162 (bc R)) :
  Calls prog 121 #[.slice (some ⟨g, 0, none⟩) 256 256, .int .u8 (b.toNat : Int)] w fun e w' => e = .returned (.int .i64 (pl R b : Int)) ∧ w' = w := by
 have hrun := Lib.run_indexByteSlice (P := prog) w g 0 256 256 (R.map fun b => (b.toNat : Int)) (by rw [qaD, h.len]) (fun i hi => by
  have hi' : i < R.length := by rw [h.len]; exact hi
  rw [qaz, yc7 hB (qah hi')]
  simp [qaj, hi']) (b.toNat : Int)
 rw [bytesOf_map, qan, show b.toNat.toUInt8 = b from UInt8.ofNat_toNat, index_pl R b (h.mem b)] at hrun
 have hlt := pl_lt h b
 generalize (b.toNat : Int) = bv at *
 generalize pl R b = j at *
 go_enter func121, ntmps121
 go_wp2
 rw [run_callFunc_extern func165 (by kernel_rfl) (by kernel_rfl) (by kernel_rfl) (e := Extern.BytealgIndexByte.indexByte) (by kernel_rfl), hrun]
 simp only [Result.andThen]
 rw [Oper.upon_value]
 go_wp2
 go_ret
 exact ⟨rfl, rfl⟩
theorem fr_step_any (R : List UInt8) (h : Whole R) (b : UInt8) (g : Nat) (w : World) (hB : Blk w g 162 (bc R)) :
  Calls prog 76 #[.pointer (some ⟨g, 0, none⟩), .int .u8 (b.toNat : Int)] w fun e w' => e = .returned (.int .i64 (pl R b : Int)) ∧ w.grownBy w' (some g) ∧ Blk w' g 162 (bc (mv R (pl R b))) := by
 have Hi := qaa (fr_index_any R h b g w hB)
 have Hr := qaa (yfB R h (pl R b) (pl_lt h b) g w hB)
 clear hB h
 generalize (b.toNat : Int) = bv at *
 generalize bc (mv R (pl R b)) = M at *
 generalize ((R.getD (pl R b) 0).toNat : Int) = v at *
 generalize (pl R b : Int) = j at *
 go_enter func76, ntmps76
 go_wp2_with (first
  | (go_at_call 121; refine Hi.out.mono ?_; rintro e w1 ⟨rfl, rfl⟩)
  | (go_at_call 122; refine Hr.out.mono ?_; rintro e w1 ⟨rfl, hg1, hb1⟩))
 go_ret
 exact ⟨rfl, hg1, hb1⟩
def yf9 (w w' : World) (e : Ending) (F : List Int × Int) : Prop := ∃ A' c', e = .returned (.tuple #[.slice A' F.1.length c', .int .i64 F.2]) ∧ F.1.length ≤ c' ∧ Reads w' w'.heap.size 1 A' F.1.length (ints F.1) ∧ Below w.heap.size w w'
theorem ya8 {w w' : World} {E : Int} (hb : Below w.heap.size w w') : yf9 w w' (.returned (.tuple #[.slice none 0 0, .int .i64 E])) ([], E) := ⟨none, 0, rfl, qad _, Reads.none_, hb⟩
theorem hcpost_row {w w' : World} {L : List Int} {g : Nat} (hl : L.length = 257) (hB : Blk w' g 3 (ints L).toArray) (hb : Below w.heap.size w w') : yf9 w w' (.returned (.tuple #[.slice (some ⟨g, 0, none⟩) 257 257, .int .i64 0])) (L, 0) := by
 refine ⟨some ⟨g, 0, none⟩, 257, by rw [hl], by rw [hl]; exact qad _, ?_, hb⟩
 refine ⟨by rw [yab]; show L.length = L.length * 1; omega, fun _ => ⟨g, 0, rfl, hB.lt, fun j u hu => ?_⟩⟩
 rw [qaz, hB.cell]
 simpa using hu
theorem hints_set (l : List Int) (k : Nat) (v : Int) : (ints l).toArray.setIfInBounds k (.int .i64 v) = (ints (l.set k v)).toArray := by
 rw [qac]
 simp [ints, qcu]
structure HCells (l : List Int) (C : Nat → List Value) : Prop where
 zero : C 0 = ints (List.replicate 257 0)
 get : ∀ k (s : Nat), s < 257 → ∃ v : Nat, v ≤ k ∧ (C k).toArray[s]? = some (.int .i64 (v : Int)) ∧ ∀ hk : k < l.length, l[k] = (s : Int) → (C k).toArray.setIfInBounds s (.int .i64 ((v : Int) + 1)) = (C (k + 1)).toArray
 last : C l.length = ints (yam l)
theorem hcells (l : List Int) : HCells l (fun k => ints (yam (l.take k))) := by
 refine ⟨by rw [qbb, hcount_nil], fun k s hs => ?_, by rw [qbT]⟩
 have hsl : s < (yam (l.take k)).length := by rw [yak]; exact hs
 refine ⟨(l.take k).count (s : Int), ?_, ?_, fun hk hx => ?_⟩
 ·have := List.count_le_length (a := (s : Int)) (l := l.take k)
  rw [qao] at this
  omega
 ·rw [qaB, yai _ s hsl, ya7]
 ·rw [hints_set, qat hk, hx, hcount_snoc (l.take k) (s : Int) (by omega) (by omega)]
  simp only [qan]
  rw [ya7]
theorem hc_big {l : List Int} (h : 100000 < l.length) : hcF l = ([], 3) := qag h
theorem hc_all {l : List Int} (h : ¬ 100000 < l.length) (hi : hin l = true) : hcF l = (yam l, 0) := by unfold hcF; rw [qae h, qag hi]
theorem hc_none {l : List Int} (h : ¬ 100000 < l.length) (k : Nat) (hk : k < l.length) (hx : ¬ (0 ≤ l[k] ∧ l[k] ≤ 256)) : hcF l = ([], 70) := by
 unfold hcF
 rw [qae h, qae fun hi => hx (yh1 hi _ (qaq hk))]
theorem hin_take {l : List Int} (k : Nat) (hk : k < l.length) (h : hin (l.take k) = true) (hx : 0 ≤ l[k] ∧ l[k] ≤ 256) : hin (l.take (k + 1)) = true := by
 refine hin_of fun x hm => ?_
 rw [qat hk] at hm
 rcases qbk.1 hm with h2 | h2
 ·exact yh1 h x h2
 ·rw [qcq.1 h2]; exact hx
theorem yg0 (l : List Int) (A : Option Addr) (n c : Nat) (w : World) (hm : n ≤ 1000000) (hr : Reads w w.heap.size 1 A n (ints l)) :
  Calls prog 110 #[.slice A n c] w fun e w' => yf9 w w' e (hcF l) := by
 have en : l.length = n := by have := hr.1; rw [yab] at this; omega
 have hni : (n : Int) ≤ 1000000 := by omega
 by_cases hbig : 100000 < n
 ·rw [hc_big (by omega)]
  have hb1 : (100000 : Int) < (n : Int) := by omega
  clear hr
  go_enter func110, ntmps110
  go_wp2
  go_ret2
  exact ya8 (qak _ _)
 have hb1 : ¬ (100000 : Int) < (n : Int) := by omega
 have hbl : ¬ 100000 < l.length := by omega
 obtain ⟨C, hC⟩ : ∃ C : Nat → List Value, HCells l C := ⟨_, hcells l⟩
 have hmk := fun w => tmk_ints 257 257 rfl (by decide) w
 rw [← hC.zero] at hmk
 have HC := qaa hC
 have Hcell : Hid (∀ W, Below w.heap.size w W → ∀ k (hk : k < l.length), ∃ b off, A = some ⟨b, off, none⟩ ∧ W.cell? ⟨b, off + k, none⟩ = some (.int .i64 l[k])) := qaa fun W hW k hk => by
  obtain ⟨b, off, e, hb, hc⟩ := hr.2 (by omega)
  exact ⟨b, off, e, (hW.cell (p := ⟨b, off + k, none⟩) hb).trans (hc k _ (yai l k hk))⟩
 have En := qaa en
 have Hbl := qaa hbl
 have HB0 := qaa (Blk.new w 3 (C 0).toArray)
 have HO0 := qaa ((qak w.heap.size w).alloc (qad _) (.cells (C 0).toArray 3))
 clear hr hC en hbl
 generalize hg : w.heap.size = g at *
 go_enter func110, ntmps110
 go_wp2
 go_loopw [5, 6] (fun i xv wr => ∃ k : Nat, k ≤ n ∧ i = .int .i64 k ∧ Hid (hin (l.take k) = true) ∧ Hid (Blk wr g 3 (C k).toArray) ∧ Hid (Below g w wr)) (fun i _ _ => n - (intOf i).toNat)
 case atStart => exact ⟨0, by omega, rfl, qaa rfl, HB0, HO0⟩
 case round =>
  obtain ⟨k, hk, rfl, Hin, HB, HO⟩ := hrel
  clear HB0 HO0 hmk
  by_cases hlt : k < n
  ·have hki : (k : Int) < (n : Int) := by omega
   have hkl : k < l.length := by rw [En.out]; exact hlt
   obtain ⟨b, off, rfl, x1⟩ := Hcell.out wr HO.out k hkl
   obtain ⟨x, hx⟩ : ∃ x, l[k] = x := ⟨_, rfl⟩
   rw [hx] at x1
   by_cases hin0 : 0 ≤ x ∧ x ≤ 256
   ·obtain ⟨s, rfl⟩ := qaF hin0.1
    have hsi : (0 : Int) ≤ (s : Int) ∧ (s : Int) < 257 ∧ (s : Int) ≤ 256 := by omega
    obtain ⟨v, hv1, hv2, hv3⟩ := HC.out.get k s (by omega)
    have x2 : wr.cell? ⟨g, s, none⟩ = some (.int .i64 (v : Int)) := by rw [HB.out.cell]; exact hv2
    have x3 := HB.out.frozen s
    have Hset := qaa (hv3 hkl hx)
    have Hin2 := qaa (hin_take k hkl Hin.out (by rw [hx]; exact hin0))
    have hvi : (0 : Int) ≤ (v : Int) ∧ (v : Int) ≤ 1000000 := by omega
    have hgl := HB.out.lt
    clear hx hv2 hv3 hin0 hkl
    go_wp2
    go_roundw
    case rel =>
     refine ⟨k + 1, by omega, iv (by omega), Hin2, qaa ?_, qaa ?_⟩
     ·rw [← Hset.out]
      exact HB.out.set_ s _
     ·exact HO.out.setCell (p := ⟨g, s, none⟩) (qad _) _
    case measure => simp only [intOf]; omega
   ·have Hf := qaa (hc_none Hbl.out k hkl (by rw [hx]; exact hin0))
    by_cases h0 : 0 ≤ x
    ·have h1 : ¬ x ≤ 256 := by omega
     clear hx hkl
     go_wp2
     go_ret2
     rw [Hf.out]
     subst hg
     exact ya8 HO.out
    ·clear hx hkl
     go_wp2
     go_ret2
     rw [Hf.out]
     subst hg
     exact ya8 HO.out
  ·obtain rfl : k = n := by omega
   have hii : ¬ (k : Int) < (k : Int) := by omega
   have hin2 := Hin.out
   rw [qar (by rw [En.out]; exact qad _)] at hin2
   have Hf := qaa (hc_all Hbl.out hin2)
   have hlast := HC.out.last
   rw [En.out] at hlast
   have HB2 : Hid (Blk wr g 3 (ints (yam l)).toArray) := qaa (by rw [← hlast]; exact HB.out)
   clear hin2 hlast
   go_wp2
   go_ret2
   rw [Hf.out]
   subst hg
   exact hcpost_row (yak l) HB2.out HO.out
def cputV (g : Nat) : Value := .func (.func 107) #[.pointer (some ⟨g, 0, none⟩)] #[]
theorem c_hand_yes (ls : List Nat) (B Bw g gw : Nat) (v : Value) (R : List Nat) (s : Int) (w : World) (h : CCode w B g ls) (hl : ls.length ≤ 1000000) (hE : (ycO (wat ls 16 0) s).2 = 0) (hf : ∀ f ∈ wat ls 16 0, fits f.1 f.2) (hH : WHold w Bw gw v R) (hB : Bw ≤ w.heap.size) (hR : R.length ≤ 1099511627776) :
  Calls prog 109 #[.pointer (some ⟨g, 0, none⟩), cputV gw, .int .i64 s] w fun e w' => e = .returned (.int .i64 0) ∧ ∃ v', WHold w' Bw gw v' (R ++ (yaC (wat ls 16 0) s).1) ∧ Touch w w' (WS gw v) ∧ Sep w v v' := by
 have Hw := qaa (c_word_any ls B g s w h hl)
 obtain ⟨h1, h2⟩ := pword_ref (wat ls 16 0) s
 obtain ⟨h3, h4⟩ := h2 hE
 unfold wordV at Hw
 rw [hE] at Hw
 rw [h3]
 have hfit := hf _ h4
 have Hput := qaa fun w hH hB => bput_is Bw gw _ _ v R w hfit hH hB hR
 clear h hE h1 h2 h3 h4 hf hfit
 generalize (ycO (wat ls 16 0) s).1.1 = x at *
 generalize (ycO (wat ls 16 0) s).1.2 = y at *
 have HW := qaa fun (w1 : World) (hb : Below w.heap.size w w1) (o : Obj) => (hH.below hb (qad _)).below (C := w1.heap.size) ((qak w1.heap.size w1).alloc (qad _) o) (qad _)
 have HB2 := qaa fun (w1 : World) (hb : Below w.heap.size w w1) (o : Obj) => show Bw ≤ (w1.alloc o).heap.size from qaA hB (qaA hb.size (by simp))
 clear hH hB hR
 unfold cputV
 go_enter func109, ntmps109
 go_wp2_with (first
  | (go_at_call 151; refine Hw.out.mono ?_; rintro e w1 ⟨rfl, hb1⟩; have Hb1 := qaa hb1; clear hb1)
  | (go_at_call 107; refine (Hput.out _ (HW.out w1 Hb1.out _) (HB2.out w1 Hb1.out _)).mono ?_; rintro e w2 ⟨rfl, v2, hH2, ht2, hs2⟩; have HH2 := qaa hH2; have Ht2 := qaa ht2; have Hs2 := qaa hs2; clear hH2 ht2 hs2))
 go_ret
 refine ⟨rfl, v2, HH2.out, ?_, fun k hk => ?_⟩
 ·exact ((yal (S := WS gw v) Hb1.out (qad _)).alloc _).trans Ht2.out
 ·rcases Hs2.out k hk with e | e
  ·exact qay e
  ·have := Hb1.out.size
   rw [qaw] at e
   exact qaI (by omega)
theorem done_yes (l : List UInt8) (p g : Nat) (w : World) (hl : l.length ≤ 1099511627776) (hp : p ≤ 8 * l.length) (hB : RHold w g l p) (h8 : 8 * l.length - p < 8) (hz : lz ((yag l).drop p) = 8 * l.length - p) :
  Calls prog 90 #[.pointer (some ⟨g, 0, none⟩)] w fun e w' => e = .returned (.bool true) ∧ ∃ k, w.drewN k = w' := by
 have hnou := fun v hB => ycG l p g v hl hp hB
 have hleft := fun v hB => ybT l p g v (by omega) hp hB
 rw [hz] at hnou
 have h8i : ((8 * l.length - p : Nat) : Int) < 8 := by omega
 have HB := qaa hB
 clear hB hz hp hl h8
 generalize 8 * l.length - p = M at *
 go_enter func90, ntmps90
 go_wp2_with (first
  | (go_at_call 129; refine (ycp g _).mono ?_; rintro e w1 ⟨rfl, rfl⟩)
  | (go_at_call 131; refine (hnou _ (HB.out.drewN _)).mono ?_; rintro e w1 ⟨rfl, k0, rfl⟩)
  | (go_at_call 130; (first | (refine (hleft _ HB.out).mono ?_) | (refine (hleft _ (HB.out.drewN _)).mono ?_)); rintro e w1 ⟨rfl, k1, rfl⟩))
 go_ret
 exact ⟨by simp, _, rfl⟩
end Go.Proofs.YtanjhbkbpalnaaaGreat
