/-
 What the law of the last of these texts stands on, part 23.
-/
import Derived.Test.YtoinjdmlembgeaaGreatMg21
namespace Go.Proofs.YtoinjdmlembgeaaGreat
set_option linter.unusedSimpArgs false
set_option linter.unusedVariables false
open Go.ChangeShapes Go.WideShapes Go.ChangeAt Go.RowKit Go.Joins Go.Deep
def qsy (s : List UInt8) : List Int := zpk 0 (rks row0 (yaY s))
theorem qrk_good (s : List UInt8) : ya5 255 (rks row0 s) = true := (ygM s row0 row0_whole).2
theorem qrk_len (s : List UInt8) : (rks row0 (yaY s)).length = s.length := by rw [yhj, ybb]
theorem qsy_pack (s : List UInt8) : ybp (rks row0 (yaY s)) = (qsy s, 0) := if_pos (qrk_good _)
theorem ybj (s : List UInt8) : (qsy s).length ≤ s.length := by
 have := yfi (rks row0 (yaY s)) 0
 rw [qrk_len, Nat.zero_add] at this
 exact this
theorem qsy_in (s : List UInt8) : hin (qsy s) = true := ygj _ 0 (qrk_good _)
def qsF (s : List UInt8) : List Int × Int × Int := if 20000 < s.length then ([], 0, 3) else (qsy s, (bpr s : Int), 0)
def qhd (a b c : Int) : List UInt8 := putB a ++ (putB b ++ putB c)
def qB (s : List UInt8) : List UInt8 := qhd s.length (bpr s) (qsy s).length ++ text (hB (qsy s))
def qpF (s : List UInt8) : List UInt8 × Int := if 20000 < s.length then ([], 3) else (qB s, 0)
def qtF (l : List Int) (r n : Int) : List UInt8 × Int :=
 if n < 0 ∨ 20000 < n then ([], 2) else if (zunF l n).2 ≠ 0 then ([], (zunF l n).2) else if ((zunF l n).1.length : Int) ≠ n then ([], 5) else biF (bys row0 (zunF l n).1) r
def yb1 (b : List UInt8) : (Int × Int × Int) × Int × Int :=
 if (getF b 0).2.2 ≠ 0 then ((0, 0, 0), 0, (getF b 0).2.2)
 else if (getF b (getF b 0).2.1).2.2 ≠ 0 then ((0, 0, 0), 0, (getF b (getF b 0).2.1).2.2)
 else if (getF b (getF b (getF b 0).2.1).2.1).2.2 ≠ 0 then ((0, 0, 0), 0, (getF b (getF b (getF b 0).2.1).2.1).2.2)
 else (((getF b 0).1, (getF b (getF b 0).2.1).1, (getF b (getF b (getF b 0).2.1).2.1).1), (getF b (getF b (getF b 0).2.1).2.1).2.1, 0)
def qu2 (n p k : Int) (rest : List UInt8) : List UInt8 × Int :=
 if 20000 < n ∨ n < k then ([], 3) else if (ybU rest k).2 ≠ 0 then ([], (ybU rest k).2) else qtF (ybU rest k).1 p n
def quF (b : List UInt8) : List UInt8 × Int :=
 if (yb1 b).2.2 ≠ 0 then ([], (yb1 b).2.2) else qu2 (yb1 b).1.1 (yb1 b).1.2.1 (yb1 b).1.2.2 (b.drop (yb1 b).2.1.toNat)
theorem qt_back (s : List UInt8) (h : s.length ≤ 20000) : qtF (qsy s) (bpr s) s.length = (s, 0) := by
 obtain ⟨h1, _, _⟩ := zback (rks row0 (yaY s)) (by rw [qrk_len]; omega) (qrk_good _)
 rw [qrk_len] at h1
 unfold qtF qsy
 rw [if_neg (by omega), h1, if_neg (by simp), if_neg (by simp only [qrk_len]; simp), (ygM (yaY s) row0 row0_whole).1]
 exact bback s h
theorem qput_pos (n : Nat) : 0 < (putB (n : Int)).length := by
 rw [yec (by omega)]
 exact dg_pos 8 _
theorem qget (pre rest : List UInt8) (n : Nat) (h : n < 9223372036854775808) (p : Int) (hp : p = (pre.length : Int)) : getF (pre ++ (putB n ++ rest)) p = ((n : Int), (pre.length : Int) + (putB (n : Int)).length, 0) := by
 subst hp
 rw [yec (by omega), Int.toNat_natCast]
 exact getF_put pre rest n h
theorem qcut_put (a b c : Nat) (T : List UInt8) (ha : a < 1000000) (hb : b < 1000000) (hc : c < 1000000) : yb1 (qhd a b c ++ T) = (((a : Int), (b : Int), (c : Int)), ((qhd a b c).length : Int), 0) := by
 have g1 := qget [] (putB b ++ (putB c ++ T)) a (by omega) 0 rfl
 have g2 := qget (putB a) (putB c ++ T) b (by omega) _ rfl
 have g3 := qget (putB a ++ putB b) T c (by omega) ((putB a).length + (putB b).length) (by rw [List.length_append]; omega)
 have e1 : qhd a b c ++ T = putB a ++ (putB b ++ (putB c ++ T)) := by unfold qhd; simp only [List.append_assoc]
 rw [List.append_assoc] at g3
 rw [List.nil_append, ← e1] at g1
 rw [← e1] at g2 g3
 have z : (([] : List UInt8).length : Int) = 0 := rfl
 rw [z, Int.zero_add] at g1
 unfold yb1
 rw [g1]
 dsimp only
 rw [g2]
 dsimp only
 rw [g3]
 dsimp only
 rw [if_neg (by simp), if_neg (by simp), if_neg (by simp)]
 congr 2
 unfold qhd
 rw [List.length_append, List.length_append, List.length_append]
 omega
theorem qu_put (s T : List UInt8) (h : s.length ≤ 20000) : quF (qhd s.length (bpr s) (qsy s).length ++ T) = qu2 s.length (bpr s) (qsy s).length T := by
 have h1 := yfK s
 have h2 := ybj s
 unfold quF
 rw [qcut_put _ _ _ T (by omega) (by omega) (by omega), if_neg (by simp)]
 dsimp only
 rw [Int.toNat_natCast, List.drop_left' rfl]
theorem qback (s : List UInt8) (h : s.length ≤ 20000) : quF (qB s) = (s, 0) := by
 have h2 := ybj s
 unfold qB
 rw [qu_put s _ h]
 unfold qu2
 rw [if_neg (by omega), hback (by omega) (qsy_in s), if_neg (by simp)]
 exact qt_back s h
theorem hpad_any {l : List Int} (h : l.length ≤ 100000) (hi : hin l = true) (B : List UInt8) (hB0 : 0 < B.length) : (ybU (text (hB l) ++ B) (l.length : Int)).2 = 6 := by
 have hr := hrow h B
 obtain ⟨h1, h2⟩ := ygZ h hi _ _ hr (ycX _)
 unfold ybU hdec1
 rw [if_neg (by omega), h1, if_neg (by simp), Int.toNat_natCast]
 show (hdec2 _ (cunp (hws l) _ _ _ _)).2 = _
 rw [h2]
 unfold hdec2
 rw [if_neg (by simp), if_neg]
 unfold yfV
 rw [hr, List.length_append, List.length_append, yay, List.length_replicate]
 simp
 intro h3
 omega
theorem qu2_no {n p k : Int} {rest : List UInt8} (h : (ybU rest k).2 ≠ 0) : (qu2 n p k rest).2 ≠ 0 := by
 unfold qu2
 by_cases hx : 20000 < n ∨ n < k
 ·rw [if_pos hx]
  simp
 ·rw [if_neg hx, if_pos h]
  exact h
theorem qpad (s B : List UInt8) (h : s.length ≤ 20000) (hb : 0 < B.length) : (quF (qB s ++ B)).2 ≠ 0 := by
 have h2 := ybj s
 unfold qB
 rw [List.append_assoc, qu_put s _ h]
 exact qu2_no (by rw [hpad_any (by omega) (qsy_in s) B hb]; simp)
theorem qtext_pos (l : List Int) : 0 < (text (hB l)).length := by
 have h1 := hB_pos l
 have h2 := yaW (hB l)
 omega
theorem qB_pos (s : List UInt8) : 4 ≤ (qB s).length := by
 have h1 := qtext_pos (qsy s)
 have h2 := qput_pos s.length
 have h3 := qput_pos (bpr s)
 have h4 := qput_pos (qsy s).length
 unfold qB qhd
 rw [List.length_append, List.length_append, List.length_append]
 omega
theorem qcut (s : List UInt8) (k : Nat) (h : s.length ≤ 20000) (hk : k + 1 = (qB s).length) : (quF ((qB s).take k)).2 ≠ 0 := by
 have h1 := qtext_pos (qsy s)
 have h2 := ybj s
 have e : (qB s).take k = qhd s.length (bpr s) (qsy s).length ++ (text (hB (qsy s))).take ((text (hB (qsy s))).length - 1) := by
  unfold qB at hk ⊢
  rw [List.length_append] at hk
  rw [List.take_append, List.take_of_length_le (by omega)]
  congr 2
  omega
 rw [e, qu_put s _ h]
 exact qu2_no (hcut (by omega) (qsy_in s) _ (by omega))
theorem qt_ok {l : List Int} {r n : Int} (h : (qtF l r n).2 = 0) : (qtF l r n).1.length ≤ 20000 := by
 unfold qtF at h ⊢
 by_cases h1 : n < 0 ∨ 20000 < n
 ·rw [if_pos h1] at h; cases h
 rw [if_neg h1] at h ⊢
 by_cases h2 : (zunF l n).2 ≠ 0
 ·rw [if_pos h2] at h; exact absurd h h2
 rw [if_neg h2] at h ⊢
 by_cases h3 : ((zunF l n).1.length : Int) ≠ n
 ·rw [if_pos h3] at h; cases h
 rw [if_neg h3] at h ⊢
 have := (bi_only _ _ h).2
 rw [this, ygL]
 omega
theorem qt_none {l : List Int} {r n : Int} (h : (qtF l r n).2 ≠ 0) : (qtF l r n).1 = [] := by
 unfold qtF at h ⊢
 by_cases h1 : n < 0 ∨ 20000 < n
 ·rw [if_pos h1]
 rw [if_neg h1] at h ⊢
 by_cases h2 : (zunF l n).2 ≠ 0
 ·rw [if_pos h2]
 rw [if_neg h2] at h ⊢
 by_cases h3 : ((zunF l n).1.length : Int) ≠ n
 ·rw [if_pos h3]
 rw [if_neg h3] at h ⊢
 exact bi_none _ _ h
theorem qu_ok {b : List UInt8} (h : (quF b).2 = 0) : (quF b).1.length ≤ 20000 := by
 unfold quF qu2 at h ⊢
 by_cases h1 : (yb1 b).2.2 ≠ 0
 ·rw [if_pos h1] at h; exact absurd h h1
 rw [if_neg h1] at h ⊢
 split at h
 ·cases h
 rename_i h2
 rw [if_neg h2]
 split at h
 ·rename_i h3; exact absurd h h3
 rename_i h3
 rw [if_neg h3]
 exact qt_ok h
theorem qu_none {b : List UInt8} (h : (quF b).2 ≠ 0) : (quF b).1 = [] := by
 unfold quF qu2 at h ⊢
 by_cases h1 : (yb1 b).2.2 ≠ 0
 ·rw [if_pos h1]
 rw [if_neg h1] at h ⊢
 split at h
 ·rename_i h2; rw [if_pos h2]
 rename_i h2
 rw [if_neg h2]
 split at h
 ·rename_i h3; rw [if_pos h3]
 rename_i h3
 rw [if_neg h3]
 exact qt_none h
def csy (l : List Nat) : List Int := l.map (fun s : Nat => (s : Int))
theorem csy_app (a b : List Nat) : csy (a ++ b) = csy a ++ csy b := by simp [csy]
theorem csy_get {l : List Nat} {k s : Nat} (h : l[k]? = some s) : (ints (csy l))[k]? = some (.int .i64 (s : Int)) := by
 simp [ints, csy, h]
def ybw (h n : Nat) (st : List Int) (rows : List Value) (d : Int) : List Value := .bool true :: .slice (some ⟨h, 0, none⟩) n n :: (ints st ++ (rows ++ [.int .i64 d]))
section
variable {h n : Nat} {st : List Int} {rows : List Value} {d : Int}
theorem yfE (hs : st.length = 16) (j : Nat) (hj : j < 16) : (ybw h n st rows d)[2 + j]? = some (.int .i64 (st[j]'(by omega))) := by
 unfold ybw
 rw [show 2 + j = j + 1 + 1 from by omega, List.getElem?_cons_succ, List.getElem?_cons_succ, List.getElem?_append_left (by rw [yab]; omega)]
 exact yai st j (by omega)
theorem yfz (hs : st.length = 16) (hr : rows.length = 16) (j : Nat) (hj : j < 16) : (ybw h n st rows d)[18 + j]? = some (rows[j]'(by omega)) := by
 unfold ybw
 rw [show 18 + j = 16 + j + 1 + 1 from by omega, List.getElem?_cons_succ, List.getElem?_cons_succ, List.getElem?_append_right (by rw [yab]; omega), yab, show 16 + j - st.length = j from by omega, List.getElem?_append_left (by omega), List.getElem?_eq_getElem (by omega)]
theorem yhu (hs : st.length = 16) (hr : rows.length = 16) : (ybw h n st rows d)[34]? = some (.int .i64 d) := by
 unfold ybw
 rw [show 34 = 32 + 1 + 1 from rfl, List.getElem?_cons_succ, List.getElem?_cons_succ, List.getElem?_append_right (by rw [yab]; omega), yab, List.getElem?_append_right (by omega), show 32 - st.length - rows.length = 0 from by omega]
 rfl
theorem yfS (hs : st.length = 16) (j : Nat) (hj : j < 16) (v : Int) : (ybw h n st rows d).set (2 + j) (.int .i64 v) = ybw h n (st.set j v) rows d := by
 unfold ybw
 rw [show 2 + j = j + 1 + 1 from by omega, List.set_cons_succ, List.set_cons_succ, List.set_append_left _ _ (by rw [yab]; omega)]
 simp [ints, List.map_set]
theorem ccells_set_row (hs : st.length = 16) (hr : rows.length = 16) (j : Nat) (hj : j < 16) (v : Value) : (ybw h n st rows d).set (18 + j) v = ybw h n st (rows.set j v) d := by
 unfold ybw
 rw [show 18 + j = 16 + j + 1 + 1 from by omega, List.set_cons_succ, List.set_cons_succ, List.set_append_right _ _ (by rw [yab]; omega), yab, show 16 + j - st.length = j from by omega, List.set_append_left _ _ (by omega)]
theorem yg8 (hs : st.length = 16) (hr : rows.length = 16) (v : Int) : (ybw h n st rows d).set 34 (.int .i64 v) = ybw h n st rows v := by
 unfold ybw
 rw [show 34 = 32 + 1 + 1 from rfl, List.set_cons_succ, List.set_cons_succ, List.set_append_right _ _ (by rw [yab]; omega), yab, List.set_append_right _ _ (by omega), show 32 - st.length - rows.length = 0 from by omega]
 rfl
end
structure CRows (W : World) (B : Nat) (rows : List Value) (R : Nat → List Nat) : Prop where
 len : rows.length = 16
 own : ∀ j (hj : j < rows.length), W.ownsRow B 3 1 rows[j] (R j).length (ints (csy (R j)))
 sep : ∀ i j (hi : i < rows.length) (hj : j < rows.length), i ≠ j → ∀ k, rows[i].ownBlock = some k → rows[j].ownBlock ≠ some k
section
variable {W W' W2 Wa : World} {B g : Nat} {rows : List Value} {R R' : Nat → List Nat} {cs : Array Value} {t : TypeId} {S : Nat → Prop}
theorem CRows.congr (h : CRows W B rows R) (he : ∀ j, j < 16 → R j = R' j) : CRows W B rows R' := ⟨h.len, fun j hj => by rw [← he j (by have := h.len; omega)]; exact h.own j hj, h.sep⟩
theorem CRows.touch (h : CRows W B rows R) (ht : Touch W W' S) (hS : ∀ j (hj : j < rows.length) k, rows[j].ownBlock = some k → ¬ S k) : CRows W' B rows R := ⟨h.len, fun j hj => yaz (h.own j hj) ht (hS j hj), h.sep⟩
theorem CRows.store (h : CRows W B rows R) (hB : Blk W g t cs) (hne : 3 ≠ t) (i : Nat) (u : Value) : CRows (W.setCell ⟨g, i, none⟩ u) B rows R :=
 h.touch ((Touch.refl W (fun k => k = g)).set (p := ⟨g, i, none⟩) (Or.inl rfl) u) fun j hj k hk e => ya7 (h.own j hj) hB hne (by rw [hk, e])
theorem CRows.append (h : CRows W B rows R) (hb : Below W.heap.size W Wa) (j : Nat) (hj : j < 16) (v' : Value) (s : Nat) (hg : Wa.grownBy W2 (rows[j]'(by have := h.len; omega)).ownBlock)
  (ho : W2.ownsRow B 3 1 v' ((R j).length + 1) (ints (csy (R j)) ++ [.int .i64 (s : Int)])) (hs : Sep Wa (rows[j]'(by have := h.len; omega)) v') :
  CRows W2 B (rows.set j v') (fun i => if i = j then R j ++ [s] else R i) := by
 have hl := h.len
 have hsz := hb.size
 refine ⟨by rw [List.length_set]; exact hl, fun i hi => ?_, fun i k hi hk hne b hb1 hb2 => ?_⟩
 ·rw [List.length_set] at hi
  by_cases e : j = i
  ·subst e
   rw [List.getElem_set_self, if_pos rfl, csy_app, List.length_append]
   have : ints (csy (R j) ++ csy [s]) = ints (csy (R j)) ++ [.int .i64 (s : Int)] := by simp [ints, csy]
   rw [this]
   exact ho
  ·rw [List.getElem_set_ne e, if_neg (fun h => e h.symm)]
   have h1 := yah (h.own i hi) hb (Nat.le_refl _)
   refine yaz h1 (yaq hg) fun k hk e2 => ?_
   exact h.sep j i (by omega) hi e k e2.symm hk
 ·rw [List.length_set] at hi hk
  have hnew : ∀ m (hm : m < rows.length), m ≠ j → ∀ b, v'.ownBlock = some b → rows[m].ownBlock ≠ some b := fun m hm hmj b h1 h2 => by
   rcases hs b h1 with h3 | h3
   ·exact h.sep j m (by omega) hm (fun e => hmj e.symm) b h3 h2
   ·have := ((h.own m hm).lt b h2).2
    omega
  by_cases e1 : j = i
  ·subst e1
   rw [List.getElem_set_self] at hb1
   rw [List.getElem_set_ne hne] at hb2
   exact hnew k hk (fun e => hne e.symm) b hb1 hb2
  ·rw [List.getElem_set_ne e1] at hb1
   by_cases e2 : j = k
   ·subst e2
    rw [List.getElem_set_self] at hb2
    exact hnew i hi hne b hb2 hb1
   ·rw [List.getElem_set_ne e2] at hb2
    exact h.sep i k hi hk hne b hb1 hb2
end
structure CSt (w1 W : World) (n : Nat) (L : List (Int × Int)) (st : List Int) (rows : List Value) (d : Int) (R : Nat → List Nat) : Prop where
 code : Blk W (w1.heap.size + 1) 98 (ybw w1.heap.size n st rows d).toArray
 words : Blk W w1.heap.size 100 (ybi .i64 L).toArray
 rows : CRows W w1.heap.size rows R
 frame : Below w1.heap.size w1 W
 stl : st.length = 16
section
variable {w1 W Wa W2 : World} {n : Nat} {L : List (Int × Int)} {st : List Int} {rows : List Value} {d : Int} {R R' : Nat → List Nat}
theorem CSt.start (h : CSt w1 W n L st rows d R) (j : Nat) (hj : j < 16) : W.cell? ⟨w1.heap.size + 1, 2 + j, none⟩ = some (.int .i64 (st[j]'(by have := h.stl; omega))) := by
 rw [h.code.cell, List.getElem?_toArray]
 exact yfE h.stl j hj
theorem CSt.row (h : CSt w1 W n L st rows d R) (j : Nat) (hj : j < 16) : W.cell? ⟨w1.heap.size + 1, 18 + j, none⟩ = some (rows[j]'(by have := h.rows.len; omega)) := by
 rw [h.code.cell, List.getElem?_toArray]
 exact yfz h.stl h.rows.len j hj
theorem CSt.deep (h : CSt w1 W n L st rows d R) : W.cell? ⟨w1.heap.size + 1, 34, none⟩ = some (.int .i64 d) := by
 rw [h.code.cell, List.getElem?_toArray]
 exact yhu h.stl h.rows.len
theorem CSt.wslice (h : CSt w1 W n L st rows d R) : W.cell? ⟨w1.heap.size + 1, 1, none⟩ = some (.slice (some ⟨w1.heap.size, 0, none⟩) n n) := by
 rw [h.code.cell, List.getElem?_toArray]
 rfl
theorem CSt.put_start (h : CSt w1 W n L st rows d R) (j : Nat) (hj : j < 16) (v : Int) : CSt w1 (W.setCell ⟨w1.heap.size + 1, 2 + j, none⟩ (.int .i64 v)) n L (st.set j v) rows d R := by
 refine ⟨?_, h.words.far (by simp) _, h.rows.store h.code (by decide) _ _, h.frame.setCell (by simp) _, by rw [List.length_set]; exact h.stl⟩
 have := h.code.set_ (2 + j) (.int .i64 v)
 rw [List.setIfInBounds_toArray, yfS h.stl j hj] at this
 exact this
theorem CSt.put_deep (h : CSt w1 W n L st rows d R) (v : Int) : CSt w1 (W.setCell ⟨w1.heap.size + 1, 34, none⟩ (.int .i64 v)) n L st rows v R := by
 refine ⟨?_, h.words.far (by simp) _, h.rows.store h.code (by decide) _ _, h.frame.setCell (by simp) _, h.stl⟩
 have := h.code.set_ 34 (.int .i64 v)
 rw [List.setIfInBounds_toArray, yg8 h.stl h.rows.len] at this
 exact this
theorem CSt.put_word (h : CSt w1 W n L st rows d R) (s : Nat) (hs : s < L.length) (a b : Int) : CSt w1 ((W.setCell ⟨w1.heap.size, s * 2, none⟩ (.int .i64 a)).setCell ⟨w1.heap.size, s * 2 + 1, none⟩ (.int .i64 b)) n (L.set s (a, b)) st rows d R := by
 have hw := h.words.set_ (s * 2) (.int .i64 a)
 refine ⟨(h.code.far (by simp) _).far (by simp) _, ?_, (h.rows.store h.words (by decide) _ _).store hw (by decide) _ _, (h.frame.setCell (by simp) _).setCell (by simp) _, h.stl⟩
 have := hw.set_ (s * 2 + 1) (.int .i64 b)
 rw [List.setIfInBounds_toArray, List.setIfInBounds_toArray, yf5 .i64 a b L s hs] at this
 exact this
theorem CSt.put_row (h : CSt w1 W n L st rows d R) (hb : Below W.heap.size W Wa) (j : Nat) (hj : j < 16) (v' : Value) (s : Nat) (hg : Wa.grownBy W2 (rows[j]'(by have := h.rows.len; omega)).ownBlock)
  (ho : W2.ownsRow w1.heap.size 3 1 v' ((R j).length + 1) (ints (csy (R j)) ++ [.int .i64 (s : Int)])) (hs : Sep Wa (rows[j]'(by have := h.rows.len; omega)) v') :
  W2.frozen? ⟨w1.heap.size + 1, 18 + j, none⟩ = false ∧ (∃ u, W2.cell? ⟨w1.heap.size + 1, 18 + j, none⟩ = some u) ∧ CSt w1 (W2.setCell ⟨w1.heap.size + 1, 18 + j, none⟩ v') n L st (rows.set j v') d (fun i => if i = j then R j ++ [s] else R i) := by
 have hoj := h.rows.own j (by have := h.rows.len; omega)
 have hgb : ∀ {b : Nat} {t : TypeId} {cs : Array Value}, Blk W b t cs → 3 ≠ t → Blk W2 b t cs := fun {b t cs} hB hne => (hB.below hb hB.lt).grow' hg (fun e => ya7 hoj hB hne e)
 have hc := hgb h.code (by decide)
 have hw := hgb h.words (by decide)
 have hrow := h.rows.append hb j hj v' s hg ho hs
 refine ⟨hc.frozen _, ⟨rows[j]'(by have := h.rows.len; omega), ?_⟩, ⟨?_, hw.far (by simp) _, hrow.store hc (by decide) _ _, ?_, h.stl⟩⟩
 ·rw [hc.cell, List.getElem?_toArray]
  exact yfz h.stl h.rows.len j hj
 ·have := hc.set_ (18 + j) v'
  rw [List.setIfInBounds_toArray, ccells_set_row h.stl h.rows.len j hj] at this
  exact this
 ·refine Below.setCell ?_ (by simp) _
  have h1 := h.frame.trans (hb.mono h.frame.size)
  exact Below.grown h1 hg h1.size fun b hb2 => (hoj.lt b hb2).1
theorem CSt.congr (h : CSt w1 W n L st rows d R) (he : ∀ j, j < 16 → R j = R' j) : CSt w1 W n L st rows d R' := ⟨h.code, h.words, h.rows.congr he, h.frame, h.stl⟩
end
structure CHold (W : World) (B g : Nat) (ls : List Nat) (h : Nat) (st : List Int) (rows : List Value) : Prop where
 code : Blk W g 98 (ybw h ls.length st rows (yaC ls ls.length : Nat)).toArray
 words : Blk W h 100 (ybi .i64 (wat ls 16 0)).toArray
 gB : g < B
 hB : h < B
 stl : st.length = 16
 rl : rows.length = 16
 st : ∀ j (hj : j < st.length), 1 ≤ j → j ≤ yaC ls ls.length → st[j] = (cst ls j : Int)
 row : ∀ j (hj : j < rows.length), ∃ A c, rows[j] = .slice A (crow ls ls.length j).length c ∧ Reads W B 1 A (crow ls ls.length j).length (ints (csy (crow ls ls.length j)))
def CCode (W : World) (B g : Nat) (ls : List Nat) : Prop := ∃ h st rows, CHold W B g ls h st rows
section
variable {W W' : World} {B B' g : Nat} {ls : List Nat}
theorem CCode.below (h : CCode W B g ls) (hb : Below B W W') : CCode W' B g ls := by
 obtain ⟨k, st, rows, h⟩ := h
 exact ⟨k, st, rows, h.code.below hb h.gB, h.words.below hb h.hB, h.gB, h.hB, h.stl, h.rl, h.st, fun j hj => by
  obtain ⟨A, c, e, hr⟩ := h.row j hj
  exact ⟨A, c, e, hr.below hb⟩⟩
theorem CCode.more (h : CCode W B g ls) (hB : B ≤ B') : CCode W B' g ls := by
 obtain ⟨k, st, rows, h⟩ := h
 exact ⟨k, st, rows, h.code, h.words, Nat.lt_of_lt_of_le h.gB hB, Nat.lt_of_lt_of_le h.hB hB, h.stl, h.rl, h.st, fun j hj => by
  obtain ⟨A, c, e, hr⟩ := h.row j hj
  exact ⟨A, c, e, hr.more hB⟩⟩
theorem CCode.made (h : CCode W B g ls) : W.cell? ⟨g, 0, none⟩ = some (.bool true) := by
 obtain ⟨k, st, rows, h⟩ := h
 rw [h.code.cell, List.getElem?_toArray]
 rfl
theorem CCode.deep (h : CCode W B g ls) : W.cell? ⟨g, 34, none⟩ = some (.int .i64 (yaC ls ls.length : Nat)) := by
 obtain ⟨k, st, rows, h⟩ := h
 rw [h.code.cell, List.getElem?_toArray]
 exact yhu h.stl h.rl
theorem CCode.start (h : CCode W B g ls) (j : Nat) (h1 : 1 ≤ j) (h2 : j ≤ yaC ls ls.length) (h3 : j < 16) : W.cell? ⟨g, 2 + j, none⟩ = some (.int .i64 (cst ls j : Int)) := by
 obtain ⟨k, st, rows, h⟩ := h
 rw [h.code.cell, List.getElem?_toArray, yfE h.stl j h3, h.st j (by have := h.stl; omega) h1 h2]
theorem CCode.row (h : CCode W B g ls) (j : Nat) (h3 : j < 16) : ∃ A c, W.cell? ⟨g, 18 + j, none⟩ = some (.slice A (crow ls ls.length j).length c) ∧ (0 < (crow ls ls.length j).length → ∃ b off, A = some ⟨b, off, none⟩ ∧ b < B ∧ ∀ k s : Nat, (crow ls ls.length j)[k]? = some s → W.cell? ⟨b, off + k, none⟩ = some (.int .i64 (s : Int))) := by
 obtain ⟨k, st, rows, h⟩ := h
 obtain ⟨A, c, e, hr⟩ := h.row j (by have := h.rl; omega)
 refine ⟨A, c, ?_, fun hp => ?_⟩
 ·rw [h.code.cell, List.getElem?_toArray, yfz h.stl h.rl j h3, e]
 ·obtain ⟨b, off, e2, hb, hc⟩ := hr.2 hp
  exact ⟨b, off, e2, hb, fun k s hk => hc k _ (csy_get hk)⟩
theorem CCode.words (h : CCode W B g ls) : ∃ b, b < B ∧ W.cell? ⟨g, 1, none⟩ = some (.slice (some ⟨b, 0, none⟩) ls.length ls.length) ∧ Blk W b 100 (ybi .i64 (wat ls 16 0)).toArray := by
 obtain ⟨k, st, rows, h⟩ := h
 refine ⟨k, h.hB, ?_, h.words⟩
 rw [h.code.cell, List.getElem?_toArray]
 rfl
theorem CCode.at (h : CCode W B g ls) : g < B ∧ g < W.heap.size := by
 obtain ⟨k, st, rows, h⟩ := h
 exact ⟨h.gB, h.code.lt⟩
end
def CFar (W : World) (g : Nat) (ls : List Nat) (ok : Nat → Prop) : Prop :=
 ∃ B h st rows, CHold W B g ls h st rows ∧ B ≤ W.heap.size ∧ ok g ∧ ok h ∧ ∀ j (hj : j < rows.length) (A : Option Addr) (n c : Nat), rows[j] = .slice A n c → 0 < n → ∀ a : Addr, A = some a → ok a.block
section
variable {W W' : World} {B g : Nat} {ls : List Nat} {ok ok' S : Nat → Prop}
theorem CFar.code (h : CFar W g ls ok) : ∃ B, B ≤ W.heap.size ∧ CCode W B g ls := by
 obtain ⟨B, k, st, rows, h1, h2, _⟩ := h
 exact ⟨B, h2, k, st, rows, h1⟩
theorem CFar.touch (h : CFar W g ls ok) (ht : Touch W W' S) (hS : ∀ k, ok k → ¬ S k) : CFar W' g ls ok := by
 obtain ⟨B, k, st, rows, h, hB, o1, o2, o3⟩ := h
 refine ⟨B, k, st, rows, ⟨h.code.touch ht (hS _ o1), h.words.touch ht (hS _ o2), h.gB, h.hB, h.stl, h.rl, h.st, fun j hj => ?_⟩, Nat.le_trans hB ht.size, o1, o2, o3⟩
 obtain ⟨A, c, e, hr⟩ := h.row j hj
 refine ⟨A, c, e, hr.1, fun hn => ?_⟩
 obtain ⟨b, off, e2, hb, hc⟩ := hr.2 hn
 refine ⟨b, off, e2, hb, fun q u hu => ?_⟩
 have := ht.block b (by omega) (hS b (o3 j hj A _ c e hn ⟨b, off, none⟩ e2))
 exact (World.cell?_of_block (w := W) (w' := W') (a := ⟨b, off + q, none⟩) this).trans (hc q u hu)
theorem CFar.mono (h : CFar W g ls ok) (hk : ∀ k, ok k → ok' k) : CFar W g ls ok' := by
 obtain ⟨B, k, st, rows, h, hB, o1, o2, o3⟩ := h
 exact ⟨B, k, st, rows, h, hB, hk _ o1, hk _ o2, fun j hj A n c e hn a ha => hk _ (o3 j hj A n c e hn a ha)⟩
theorem CCode.far (h : CCode W B g ls) (hB : B ≤ W.heap.size) : CFar W g ls (fun k => k < B) := by
 obtain ⟨k, st, rows, h⟩ := h
 refine ⟨B, k, st, rows, h, hB, h.gB, h.hB, fun j hj A n c e hn a ha => ?_⟩
 obtain ⟨A2, c2, e2, hr⟩ := h.row j hj
 rw [e] at e2
 injection e2 with e3 e4 _
 subst e3 e4
 obtain ⟨b, off, e5, hb, _⟩ := hr.2 hn
 rw [ha] at e5
 injection e5 with e5
 rw [e5]
 exact hb
end
theorem ccheck_ref (l : List Int) : ycQ l = yaw l := by
 have h2 := (yfm l).1
 have h1 := yfh l
 unfold ycQ yaw
 by_cases h : 257 < l.length
 ·rw [if_pos h, if_pos h]
 ·rw [if_neg h, if_neg h]
  unfold sumF yfZ
  by_cases hg : ydv l = true
  ·rw [if_pos hg, if_pos hg]
   by_cases u0 : yau l = 0
   ·rw [if_pos u0, if_pos (by omega), if_pos (by omega)]
   ·rw [if_neg u0]
    by_cases u1 : yau l = 1
    ·rw [if_pos u1]
     by_cases hp : (yap l : Int) = 16384
     ·rw [if_pos hp, if_pos (by omega)]
     ·rw [if_neg hp, if_neg (by omega)]
    ·rw [if_neg u1]
     by_cases hp : (yap l : Int) = 32768
     ·rw [if_pos hp, if_pos (by omega)]
     ·rw [if_neg hp, if_neg (by omega)]
  ·rw [if_neg hg, if_neg hg, if_neg (by omega)]
def CNewPost (w w' : World) (e : Ending) (l : List Int) : Prop :=
 Below w.heap.size w w' ∧ ((yaw l = 0 ∧ ∃ g, w.heap.size ≤ g ∧ e = .returned (.tuple #[.pointer (some ⟨g, 0, none⟩), .int .i64 0]) ∧ CCode w' w'.heap.size g (l.map Int.toNat) ∧ CFar w' g (l.map Int.toNat) (fun k => w.heap.size ≤ k)) ∨ (yaw l ≠ 0 ∧ e = .returned (.tuple #[.pointer none, .int .i64 (yaw l)])))
theorem cst_begin (w1 : World) (n : Nat) (ls : List Nat) (hn : ls.length = n) : CSt w1 ((w1.alloc (.cells (ybi .i64 (wat ls 1 0)).toArray 100)).alloc (.cells #[.bool true, .slice (some ⟨w1.heap.size, 0, none⟩) n n, .int .i64 0, .int .i64 0, .int .i64 0, .int .i64 0, .int .i64 0, .int .i64 0, .int .i64 0, .int .i64 0, .int .i64 0, .int .i64 0, .int .i64 0, .int .i64 0, .int .i64 0, .int .i64 0, .int .i64 0, .int .i64 0, .slice none 0 0, .slice none 0 0, .slice none 0 0, .slice none 0 0, .slice none 0 0, .slice none 0 0, .slice none 0 0, .slice none 0 0, .slice none 0 0, .slice none 0 0, .slice none 0 0, .slice none 0 0, .slice none 0 0, .slice none 0 0, .slice none 0 0, .slice none 0 0, .int .i64 1] 98)) n (wat ls 1 0) (List.replicate 16 0) (List.replicate 16 (.slice none 0 0)) 1 (crow ls 0) := by
 have hc := Blk.new (w1.alloc (.cells (ybi .i64 (wat ls 1 0)).toArray 100)) 98 (ybw w1.heap.size n (List.replicate 16 0) (List.replicate 16 (.slice none 0 0)) 1).toArray
 rw [World.size_alloc] at hc
 refine ⟨hc, (Blk.new w1 _ _).alloc _, ⟨rfl, fun j hj => ?_, fun i j hi hj hne k hk => ?_⟩, by go_grown, rfl⟩
 ·rw [yeY, List.getElem_replicate]
  exact World.ownsRow_nil _ _ _ _
 ·rw [List.getElem_replicate] at hk
  cases hk
def csts (ls : List Nat) (N : Nat) : List Int := (List.range 16).map fun j => if j < N then (cst ls j : Int) else 0
theorem csts_len (ls : List Nat) (N : Nat) : (csts ls N).length = 16 := by simp [csts]
theorem csts_one (ls : List Nat) : csts ls 1 = List.replicate 16 0 := by
 refine List.ext_getElem (by simp [csts]) fun j h1 h2 => ?_
 simp only [csts, List.getElem_map, List.getElem_range, List.getElem_replicate]
 by_cases h : j < 1
 ·rw [if_pos h, show j = 0 from by omega, cst_none]; rfl
 ·rw [if_neg h]
theorem csts_get (ls : List Nat) (N p : Nat) (h : p < N) (h2 : p < (csts ls N).length) : (csts ls N)[p] = (cst ls p : Int) := by
 simp only [csts, List.getElem_map, List.getElem_range]
 rw [if_pos h]
theorem csts_set (ls : List Nat) (N : Nat) (h : N < 16) : (csts ls N).set N (cst ls N : Int) = csts ls (N + 1) := by
 refine List.ext_getElem (by simp [csts]) fun j h1 h2 => ?_
 rw [List.getElem_set]
 simp only [csts, List.getElem_map, List.getElem_range]
 by_cases e : N = j
 ·subst e
  rw [if_pos rfl, if_pos (by omega)]
 ·rw [if_neg e]
  by_cases e2 : j < N
  ·rw [if_pos e2, if_pos (by omega)]
  ·rw [if_neg e2, if_neg (by omega)]
section
variable {w1 W : World} {n : Nat} {L : List (Int × Int)} {st : List Int} {rows : List Value} {d : Int} {R : Nat → List Nat}
theorem CSt.drew (h : CSt w1 W n L st rows d R) : CSt w1 W.drew n L st rows d R := ⟨h.code.drew, h.words.drew, h.rows.touch (S := fun _ => False) (yak (B := W.heap.size) (Below.refl _ _).drew (Nat.le_refl _)) (fun _ _ _ _ h => h), h.frame.drew, h.stl⟩
theorem CSt.slice (h : CSt w1 W n L st rows d R) (j : Nat) (hj : j < 16) : ∃ A c, W.cell? ⟨w1.heap.size + 1, 18 + j, none⟩ = some (.slice A (R j).length c) ∧ rows[j]'(by have := h.rows.len; omega) = .slice A (R j).length c := by
 have h1 := h.row j hj
 obtain ⟨A, c, e, _, _⟩ := yae (h.rows.own j (by have := h.rows.len; omega))
 rw [e] at h1
 exact ⟨A, c, h1, e⟩
theorem CSt.sym (h : CSt w1 W n L st rows d R) (j : Nat) (hj : j < 16) (A : Option Addr) (m c q sy : Nat) (e : rows[j]'(by have := h.rows.len; omega) = .slice A m c) (hq : (R j)[q]? = some sy) : ∃ b off, A = some ⟨b, off, none⟩ ∧ W.cell? ⟨b, off + q, none⟩ = some (.int .i64 (sy : Int)) := by
 obtain ⟨A2, c2, e2, _, hr⟩ := yae (h.rows.own j (by have := h.rows.len; omega))
 rw [e] at e2
 injection e2 with e3 e4 e5
 subst e3
 obtain ⟨hlt, _⟩ := List.getElem?_eq_some_iff.1 hq
 obtain ⟨b, off, e6, hb, hc⟩ := hr.2 (by omega)
 exact ⟨b, off, e6, hc q _ (csy_get hq)⟩
end
theorem cst_put {w1 W : World} {n : Nat} {ls : List Nat} {st : List Int} {rows : List Value} {d : Int} {R : Nat → List Nat} {N s q sy : Nat} (hn : ls.length = n) (hN : 0 < N) (hN2 : N ≤ 15) (hs : (crow ls s N).length = q) (hq : (crow ls n N)[q]? = some sy) (h : CSt w1 W n (wat ls N s) st rows d R) (a b : Int) (ha : a = ((cst ls N + q : Nat) : Int)) (hb : b = (N : Int)) :
  CSt w1 ((W.setCell ⟨w1.heap.size, sy * 2, none⟩ (.int .i64 a)).setCell ⟨w1.heap.size, sy * 2 + 1, none⟩ (.int .i64 b)) n (wat ls N (sy + 1)) st rows d R ∧ sy + 1 ≤ n ∧ (crow ls (sy + 1) N).length = q + 1 := by
 subst hn
 obtain ⟨h1, h2, h3, h4⟩ := cst_word N q sy hN hN2 hq
 have h5 := (crow_eq (ls := ls) N hN s sy (by omega)).2
 have h6 := h.put_word sy (by rw [yaF]; exact h2) ((ybr ls N sy : Nat) : Int) (N : Int)
 rw [h5, wat_set ls N sy h2 h3 hN] at h6
 subst ha hb
 rw [← h1]
 refine ⟨h6, h2, ?_⟩
 rw [ycc, if_pos ⟨hN, h3⟩, List.length_append, h4]
 rfl
theorem cst_row {w1 W : World} {n : Nat} {ls : List Nat} {st : List Int} {rows : List Value} {d : Int} {R : Nat → List Nat} {N s : Nat} (hn : ls.length = n) (hN : 0 < N) (hs : (crow ls s N).length = (crow ls n N).length) (h : CSt w1 W n (wat ls N s) st rows d R) : CSt w1 W n (wat ls (N + 1) 0) st rows d R := by
 subst hn
 rw [(crow_eq (ls := ls) N hN s ls.length hs).2, wat_next ls N ls.length (Nat.le_refl _)] at h
 exact h
theorem cst_end {w w1 W : World} {n : Nat} {ls : List Nat} {rows : List Value} (hn : ls.length = n) (h15 : ∀ s (hs : s < ls.length), ls[s] ≤ 15) (hb : Below w.heap.size w w1) (h : CSt w1 W n (wat ls (yaC ls n + 1) 0) (csts ls (yaC ls n + 1)) rows (yaC ls n : Nat) (crow ls n)) :
  Below w.heap.size w W ∧ w.heap.size ≤ w1.heap.size + 1 ∧ CCode W W.heap.size (w1.heap.size + 1) ls ∧ CFar W (w1.heap.size + 1) ls (fun k => w.heap.size ≤ k) := by
 subst hn
 have hsz := hb.size
 have h2 := (cdeep_all (ls := ls) (yaC ls ls.length) (yeL h15 _ (Nat.le_refl _)) fun s hs => cdeep_ge _ (Nat.le_refl _) s hs hs).2
 have hH : CHold W W.heap.size (w1.heap.size + 1) ls w1.heap.size (csts ls (yaC ls ls.length + 1)) rows := ⟨h.code, by rw [← h2]; exact h.words, h.code.lt, h.words.lt, csts_len _ _, h.rows.len, fun j hj h1 h3 => csts_get ls _ j (by omega) hj, fun j hj => by
  obtain ⟨A, c, e, _, hr⟩ := yae (h.rows.own j hj)
  exact ⟨A, c, e, hr⟩⟩
 refine ⟨hb.trans (h.frame.mono hsz), by omega, ⟨_, _, _, hH⟩, _, _, _, _, hH, Nat.le_refl _, by omega, by omega, fun j hj A n c e hn a ha => ?_⟩
 have := (h.rows.own j hj).lt a.block (by rw [e, ha]; rfl)
 omega
set_option maxRecDepth 100000 in
set_option maxHeartbeats 8000000 in
theorem c_new_any (l : List Int) (A : Option Addr) (n c : Nat) (w : World) (hm : n ≤ 1000000) (hr : Reads w w.heap.size 1 A n (ints l)) :
  Calls Tryz.prog 28 #[.slice A n c] w fun e w' => CNewPost w w' e l := by
 obtain ⟨i0, hi, hz0, hz1, hz2⟩ := info_parts aint_info
 have el : l.length = n := by have := hr.1; rw [yab] at this; omega
 have Hchk := Lib.hid (yea l A n c w hm hr)
 rw [ccheck_ref] at Hchk
 by_cases h0 : yaw l = 0
 ·rw [h0] at Hchk
  obtain ⟨hl, hg, hca⟩ := ycp h0
  have Hc1 : Hid (0 < n → ∃ b off, A = some ⟨b, off, none⟩ ∧ ∀ wr, Below w.heap.size w wr → ∀ k, (hk : k < l.length) → wr.cell? ⟨b, off + k, none⟩ = some (.int .i64 l[k])) := Lib.hid fun h => by
   obtain ⟨b, off, e, hb, hc⟩ := hr.2 h
   exact ⟨b, off, e, fun wr hw k hk => (hw.cell (p := ⟨b, off + k, none⟩) hb).trans (hc k _ (yai l k hk))⟩
  obtain ⟨ls, hls⟩ : ∃ ls, l.map Int.toNat = ls := ⟨_, rfl⟩
  have hlsn : ls.length = n := by rw [← hls, List.length_map, el]
  have Hls : Hid (∀ k (hk : k < l.length) (hk2 : k < ls.length), (ls[k] : Int) = l[k] ∧ ls[k] ≤ 15) := Lib.hid fun k hk hk2 => by
   have := yaI hg k hk
   subst hls
   rw [List.getElem_map]
   omega
  have H15 : Hid (∀ s (hs : s < ls.length), ls[s] ≤ 15) := Lib.hid fun s hs => (Hls.out s (by omega) hs).2
  rw [hls] at hca
  have Hca := Lib.hid hca
  have Hel := Lib.hid el
  have Hln := Lib.hid hlsn
  have hmk := fun W => mk_fields n hm W
  rw [← hlsn, ← wat_zero] at hmk
  rw [hlsn] at hmk
  have hni : (n : Int) ≤ 257 := by omega
  unfold CNewPost
  rw [hls]
  have H0 := Lib.hid h0
  clear hr h0 hg hca hls el hl hlsn
  go_enter Tryz.func28, Tryz.ntmps28
  go_wp2_with (go_at_call 64; refine Hchk.out.mono ?_; rintro e w1 ⟨rfl, hb1⟩; have Hb1 := Lib.hid hb1; clear hb1)
  have HB0 := Lib.hid (cst_begin w1 n ls Hln.out)
  generalize ((w1.alloc (.cells (ybi .i64 (wat ls 1 0)).toArray 100)).alloc (.cells #[.bool true, .slice (some ⟨w1.heap.size, 0, none⟩) n n, .int .i64 0, .int .i64 0, .int .i64 0, .int .i64 0, .int .i64 0, .int .i64 0, .int .i64 0, .int .i64 0, .int .i64 0, .int .i64 0, .int .i64 0, .int .i64 0, .int .i64 0, .int .i64 0, .int .i64 0, .int .i64 0, .slice none 0 0, .slice none 0 0, .slice none 0 0, .slice none 0 0, .slice none 0 0, .slice none 0 0, .slice none 0 0, .slice none 0 0, .slice none 0 0, .slice none 0 0, .slice none 0 0, .slice none 0 0, .slice none 0 0, .slice none 0 0, .slice none 0 0, .slice none 0 0, .int .i64 1] 98)) = wz at *
  clear hmk Hchk
  go_loopw [6, 7, 23] (fun sx wx i wr => ∃ (k : Nat) (rows : List Value), k ≤ n ∧ i = .int .i64 k ∧ Hid (CSt w1 wr n (wat ls 1 0) (List.replicate 16 0) rows (yaC ls k : Nat) (crow ls k))) (fun _ _ i _ => n - (intOf i).toNat)
  case atStart => exact ⟨0, _, by omega, rfl, HB0⟩
  case round =>
   obtain ⟨k, rows, hk, rfl, HS⟩ := hrel
   clear HB0
   by_cases hlt : k < n
   ·have hki : (0 : Int) ≤ (k : Int) ∧ (k : Int) < (n : Int) := by omega
    have hkl : k < l.length := by rw [Hel.out]; exact hlt
    have hkn : k < ls.length := by rw [Hln.out]; exact hlt
    obtain ⟨b1, o1, rfl, hcell⟩ := Hc1.out (by omega)
    have x1 := hcell wr (Hb1.out.trans (HS.out.frame.mono Hb1.out.size)) k hkl
    obtain ⟨hv, hv2⟩ := Hls.out k hkl hkn
    clear hcell
    rw [← hv] at x1
    have hgd := ycP (l := ls) k hkn
    have Hnx := Lib.hid (fun j => ycc (ls := ls) k j)
    have Hdp : Hid (yaC ls (k + 1) = max (yaC ls k) ls[k]) := Lib.hid (by rw [← hgd]; rfl)
    rw [hgd] at Hnx
    clear hv hgd
    generalize ls[k] = wd at *
    by_cases hz : wd = 0
    ·subst hz
     have hS2 := HS.out.congr (R' := crow ls (k + 1)) fun j hj => by rw [Hnx.out j, if_neg (by omega), List.append_nil]
     have hS3 := HS.out.congr (R' := crow ls (k + 1)) fun j hj => by rw [Hnx.out j, if_neg (by omega), List.append_nil]
     have hd2 : yaC ls (k + 1) = yaC ls k := by rw [Hdp.out]; have := yc1 (ls := ls) k; omega
     rw [← hd2] at hS3
     have HS3 := Lib.hid hS3
     clear hS2 hS3 hd2 hkn hkl
     go_wp2
     go_roundw
     case rel => exact ⟨k + 1, rows, by omega, iv (by omega), HS3⟩
     case measure => simp only [intOf]; omega
    ·have hwd : (0 : Int) < (wd : Int) ∧ (wd : Int) < 16 := by omega
     have hw16 : wd < 16 := by omega
     have hwp : (0 : Int) ≤ (wd : Int) := by omega
     have hwt : IntKind.i64.wrap (wd : Int) = (wd : Int) := by rw [IntKind.wrap_i64]; omega
     have x2 := HS.out.row wd hw16
     have hc0 := HS.out.code.lt
     obtain ⟨Av, cv, ev, hcv, hrv⟩ := yae (HS.out.rows.own wd (by have := HS.out.rows.len; omega))
     rw [ev] at x2
     obtain ⟨cn, hcn⟩ : ∃ cn, (crow ls k wd).length = cn := ⟨_, rfl⟩
     have hcn2 : cn ≤ k := by rw [← hcn]; exact yep k wd
     rw [hcn] at x2 ev
     have hdp1 := yc1 (ls := ls) k
     have hdp2 := yeL H15.out k (by rw [Hln.out]; exact hk)
     have Hput := Lib.hid fun (Wa W2 : World) (hb : Below wr.heap.size wr Wa) (A2 : Option Addr) (c2 : Nat) (hg : Wa.grownBy W2 (Value.slice Av cn cv).ownBlock) (ho : W2.ownsRow w1.heap.size 3 1 (.slice A2 (cn + 1) c2) (cn + 1) (ints (csy (crow ls k wd)) ++ [.int .i64 (k : Int)])) (hs : Sep Wa (.slice Av cn cv) (.slice A2 (cn + 1) c2)) =>
      HS.out.put_row (Wa := Wa) (W2 := W2) hb wd hw16 (.slice A2 (cn + 1) c2) k (by rw [ev]; exact hg) (by rw [hcn]; exact ho) (by rw [ev]; exact hs)
     have Hown := Lib.hid (HS.out.rows.own wd (by have := HS.out.rows.len; omega))
     rw [ev, hcn] at Hown
     clear hcv hrv hkn hkl
     have Hb := Lib.hid (show Below wr.heap.size wr (wr.alloc (.cells #[.int .i64 (k : Int)] 3)).drew from ((Below.refl _ _).alloc (Nat.le_refl _) _).drew)
     have Hrd : Hid (Reads (wr.alloc (.cells #[.int .i64 (k : Int)] 3)).drew (wr.heap.size + 1) 1 (some ⟨wr.heap.size, 0, none⟩) 1 [.int .i64 (k : Int)]) := Lib.hid (ya1 wr 3 #[.int .i64 (k : Int)] 1 1 rfl)
     have Howa := Lib.hid (yah Hown.out Hb.out (Nat.le_refl _))
     have Hone : Hid (∀ u ∈ [Value.int .i64 (k : Int)], u.oneCell' = true) := Lib.hid fun u hu => by rw [List.mem_singleton.1 hu]; rfl
     have Hws : Hid (w1.heap.size ≤ (wr.alloc (.cells #[.int .i64 (k : Int)] 3)).drew.heap.size) := Lib.hid (Nat.le_trans HS.out.frame.size Hb.out.size)
     have Hdk : Hid (∀ v : Int, v = ((max (yaC ls k) wd : Nat) : Int) → v = ((yaC ls (k + 1) : Nat) : Int)) := Lib.hid fun v hv => by rw [Hdp.out, hv]
     have Hfin : Hid (∀ X (v : Int), v = ((yaC ls (k + 1) : Nat) : Int) → ∀ rows', CSt w1 X n (wat ls 1 0) (List.replicate 16 0) rows' (yaC ls k : Nat) (fun i => if i = wd then crow ls k wd ++ [k] else crow ls k i) → CSt w1 (X.setCell ⟨w1.heap.size + 1, 34, none⟩ (.int .i64 v)) n (wat ls 1 0) (List.replicate 16 0) rows' (yaC ls (k + 1) : Nat) (crow ls (k + 1))) := Lib.hid fun X v hv rows' h => by
      subst hv
      refine (h.put_deep _).congr fun j hj => ?_
      rw [Hnx.out j]
      by_cases e : j = wd
      ·subst e
       rw [if_pos rfl, if_pos ⟨by omega, rfl⟩]
      ·rw [if_neg e, if_neg (fun h => e h.2.symm), List.append_nil]
     clear Hown hcn
     generalize crow ls k wd = CR at *
     generalize hdk : yaC ls k = dk at *
     go_wp2
     go_region_law (refine yac (by rfl) (.tmp 37) (.tmp 39) 28 (by rfl) w1.heap.size 3 i0 _ 1 8 Tryz.underlying28 hi hz0 hz1 hz2 rfl (by decide) (.slice Av cn cv) cn (ints (csy CR)) (by rfl) Howa.out (some ⟨wr.heap.size, 0, none⟩) 1 1 _ [.int .i64 (k : Int)] (by rfl) Hrd.out Hone.out (by unfold maxLen; omega) (by omega) Hws.out (cn + 1) rfl ?_; intro A2 c2 w2 ho2 hg2 hs2; obtain ⟨z1, ⟨u2, z2⟩, hS2⟩ := Hput.out _ w2 Hb.out A2 c2 hg2 ho2 hs2; have HS2 := Lib.hid hS2; clear hS2 ho2 hg2 hs2)
     all_goals (
      have x3 := HS2.out.deep
      have x4 := HS2.out.code.frozen 34
      have x5 := HS2.out.code.lt
      clear z1 z2
      generalize w2.setCell ⟨w1.heap.size + 1, 18 + wd, none⟩ (.slice A2 (cn + 1) c2) = X at *
      go_wp2
      go_roundw
      case rel => exact ⟨k + 1, _, by omega, iv (by omega), Lib.hid (Hfin.out X _ (Hdk.out _ (by split <;> omega)) _ HS2.out)⟩
      case measure => simp only [intOf]; omega)
   ·obtain rfl : k = n := by omega
    have hD1 := yc1 (ls := ls) k
    have hD2 := yeL H15.out k (by rw [Hln.out]; exact Nat.le_refl _)
    have HE := Lib.hid fun W h => cst_end (W := W) (rows := rows) Hln.out H15.out Hb1.out h
    have HS1 : Hid (CSt w1 wr k (wat ls 1 0) (csts ls 1) rows (yaC ls k : Nat) (crow ls k)) := Lib.hid (by rw [csts_one]; exact HS.out)
    clear HS hlt Hc1 Hls Hel H15 Hb1
    generalize yaC ls k = D at *
    have hDi : (1 : Int) ≤ (D : Int) ∧ (D : Int) ≤ 15 := by omega
    go_wp2
    go_loopw [8, 9, 10, 91] (fun wx kx sx ix W => ∃ N : Nat, 1 ≤ N ∧ N ≤ D + 1 ∧ wx = .int .i64 N ∧ Hid (CSt w1 W k (wat ls N 0) (csts ls N) rows (D : Nat) (crow ls k))) (fun wx _ _ _ _ => D + 1 - (intOf wx).toNat)
    case atStart => exact ⟨1, by omega, by omega, rfl, HS1⟩
    case round =>
     obtain ⟨N, hN1, hN2, rfl, HS⟩ := hrel
     clear HS1
     have x1 := HS.out.deep
     have x2 := HS.out.code.lt
     by_cases hlt : N ≤ D
     ·have hNi : (N : Int) ≤ (D : Int) := by omega
      obtain ⟨p, hp⟩ : ∃ p, p + 1 = N := ⟨N - 1, by omega⟩
      have hN16 : N < 16 := by omega
      have x3 := HS.out.start p (by omega)
      rw [csts_get ls N p (by omega)] at x3
      obtain ⟨Ap, cp, x4, -⟩ := HS.out.slice p (by omega)
      have x5 := HS.out.code.frozen (2 + N)
      have x6 := HS.out.start N hN16
      have hcn := cst_next (ls := ls) p (by omega)
      rw [hp, Hln.out] at hcn
      have hcl := cst_le (ls := ls) N (by omega) Hca.out
      have HS2 : Hid (∀ v : Int, v = (cst ls N : Int) → CSt w1 (wr.setCell ⟨w1.heap.size + 1, 2 + N, none⟩ (.int .i64 v)).drew k (wat ls N 0) (csts ls (N + 1)) rows (D : Nat) (crow ls k)) := Lib.hid fun v hv => by
       subst hv
       have := HS.out.put_start N hN16 (cst ls N : Int)
       rw [csts_set ls N hN16] at this
       exact this.drew
      generalize hold : (csts ls N)[N]'(by rw [csts_len]; exact hN16) = old at x6
      clear hold
      obtain ⟨cN, hcN⟩ : ∃ cN, (crow ls k N).length = cN := ⟨_, rfl⟩
      obtain ⟨AN, pN, x7, erow⟩ := HS.out.slice N hN16
      rw [hcN] at x7 erow
      have Her := Lib.hid erow
      clear erow
      have hcNk : cN ≤ k := by rw [← hcN]; exact yep k N
      have HcN := Lib.hid hcN
      have hsym : Hid (∀ q, q < cN → ∃ sy, (crow ls k N)[q]? = some sy ∧ cst ls N + q ≤ 32768 ∧ sy < k) := Lib.hid fun q hq => by
       have h1 : q < (crow ls k N).length := by rw [HcN.out]; exact hq
       obtain ⟨sy, hsy⟩ : ∃ sy, (crow ls k N)[q]? = some sy := ⟨_, List.getElem?_eq_getElem h1⟩
       have h3 := Hln.out
       obtain ⟨h4, h5, h6, _⟩ := cst_word N q sy (by omega) (by omega) (by rw [h3]; exact hsy)
       have h7 := cword_lt (ls := ls) N sy h5 (by rw [← ycP _ h5]; exact h6) ⟨by omega, by omega⟩ Hca.out
       have h8 : (2 : Nat) ^ N ≤ 2 ^ 15 := Nat.pow_le_pow_right (by omega) (by omega)
       exact ⟨sy, hsy, by omega, by omega⟩
      clear hcN
      generalize (crow ls k p).length = cnp at *
      generalize cst ls p = sp at *
      generalize hsN : cst ls N = sN at *
      obtain ⟨tt, htt⟩ : ∃ tt, sp + cnp = tt := ⟨_, rfl⟩
      rw [htt] at hcn
      have hs1 : IntKind.i64.wrap ((sp : Int) + (cnp : Int)) = (tt : Int) := by rw [IntKind.wrap_i64]; omega
      have hs2 : IntKind.i64.wrap (2 * (tt : Int)) = (sN : Int) := by rw [IntKind.wrap_i64]; omega
      have hsub : (N : Int) - 1 = (p : Int) := by omega
      have hsw : IntKind.i64.wrap ((N : Int) - 1) = (p : Int) := by rw [IntKind.wrap_i64]; omega
      have hsw2 : IntKind.i64.wrap (p : Int) = (p : Int) := by rw [IntKind.wrap_i64]; omega
      have hpb : (0 : Int) ≤ (p : Int) ∧ (p : Int) < 16 := by omega
      have hNb : (0 : Int) ≤ (N : Int) ∧ (N : Int) < 16 := by omega
      have HP := Lib.hid (And.intro hp (And.intro htt (And.intro hcn hcl)))
      clear hp htt hcn hcl
      go_wp2
      refine wp_region_still_tail 22 (by kernel_rfl) (by kernel_rfl) ?_
      simp only [List.take_succ_cons, List.take_zero, List.drop_succ_cons, List.drop_zero]
      change wpStill _ _ (World.drew _) (fun a' => wpList _ _ _ _ a' (World.drew _)) _ _
      repeat still_step
      refine wpStill_nil ?_
      go_wp2
      have HS3 := Lib.hid (HS2.out (sN : Int) rfl)
      clear HS2 x1 x2 x3 x4 x5 x6 x7 hs1 hs2 hsub hsw hsw2 hpb
      generalize (wr.setCell ⟨w1.heap.size + 1, 2 + N, none⟩ (.int .i64 (sN : Int))).drew = X at *
      have HcS := Lib.hid hsN
      have hcNi : (cN : Int) ≤ 257 := by omega
      go_loopw [9, 10, 91] (fun kx sx ix W => ∃ (q s : Nat), q ≤ cN ∧ ix = .int .i64 q ∧ Hid (s ≤ k ∧ (crow ls s N).length = q) ∧ Hid (CSt w1 W k (wat ls N s) (csts ls (N + 1)) rows (D : Nat) (crow ls k))) (fun _ _ ix _ => cN - (intOf ix).toNat)
      case atStart => exact ⟨0, 0, by omega, rfl, Lib.hid ⟨by omega, rfl⟩, HS3⟩
      case round =>
       obtain ⟨q, s, hq, rfl, Hq, HS4⟩ := hrel
       clear HS3
       by_cases hqt : q < cN
       ·have hqi : (0 : Int) ≤ (q : Int) ∧ (q : Int) < (cN : Int) := by omega
        obtain ⟨sy, hsy, hsb, hsk⟩ := hsym.out q hqt
        obtain ⟨b, off, rfl, y1⟩ := HS4.out.sym N hN16 AN cN pN q sy Her.out hsy
        have y2 := HS4.out.wslice
        have y3 := HS4.out.start N hN16
        rw [csts_get ls (N + 1) N (by omega), HcS.out] at y3
        have y4 := HS4.out.code.lt
        have y5 := HS4.out.words.lt
        have y6 := HS4.out.words.frozen (sy * 2)
        have y7 := HS4.out.words.frozen (sy * 2 + 1)
        have hwl : sy < (wat ls N s).length := by rw [yaF, Hln.out]; exact hsk
        have y8 := HS4.out.words.cell (sy * 2)
        rw [List.getElem?_toArray, ydx .i64 _ sy hwl] at y8
        have y9 := HS4.out.words.cell (sy * 2 + 1)
        rw [List.getElem?_toArray, ydm .i64 _ sy hwl] at y9
        generalize (wat ls N s)[sy].1 = o1 at *
        generalize (wat ls N s)[sy].2 = o2 at *
        have Hput := Lib.hid fun a b ha hb => cst_put (a := a) (b := b) Hln.out (by omega) (by omega) Hq.out.2 hsy HS4.out ha hb
        rw [HcS.out] at Hput
        obtain ⟨cw, hcw⟩ : ∃ cw, sN + q = cw := ⟨_, rfl⟩
        rw [hcw] at hsb Hput
        have hs1 : IntKind.i64.wrap ((sN : Int) + (q : Int)) = (cw : Int) := by rw [IntKind.wrap_i64]; omega
        have hs2 : (0 : Int) ≤ (sy : Int) ∧ (sy : Int) < (k : Int) := by omega
        have hs3 : IntKind.i64.wrap (sy : Int) = (sy : Int) := by rw [IntKind.wrap_i64]; omega
        clear hwl hsy hcw
        go_wp2
        refine wp_region_still_tail 16 (by kernel_rfl) (by kernel_rfl) ?_
        simp only [List.take_succ_cons, List.take_zero, List.drop_succ_cons, List.drop_zero]
        change wpStill _ _ (World.drew _) (fun a' => wpList _ _ _ _ a' (World.drew _)) _ _
        repeat still_step
        refine wpStill_nil ?_
        go_wp2
        go_roundw
        case rel =>
         obtain ⟨f1, f2, f3⟩ := Hput.out _ _ rfl rfl
         exact ⟨q + 1, sy + 1, by omega, iv (by omega), Lib.hid ⟨f2, f3⟩, f1.drew⟩
        case measure => simp only [intOf]; omega
       ·have hqi : ¬ (q : Int) < (cN : Int) := by omega
        obtain rfl : q = cN := by omega
        have HS5 := Lib.hid (cst_row Hln.out (by omega) (by rw [Hq.out.2, HcN.out]) HS4.out)
        clear HS4 Hq hsym
        go_wp2
        go_roundw
        case rel => exact ⟨N + 1, by omega, by omega, iv (by omega), HS5⟩
        case measure => simp only [intOf]; omega
     ·obtain rfl : N = D + 1 := by omega
      have hNi : ¬ ((D + 1 : Nat) : Int) ≤ (D : Int) := by omega
      have hE := HE.out _ HS.out
      have HE2 := Lib.hid hE
      clear hE
      go_wp2
      go_ret2
      exact ⟨HE2.out.1, Or.inl ⟨H0.out, _, HE2.out.2.1, rfl, HE2.out.2.2⟩⟩
 ·have hb0 : (yaw l == 0) = false := by simpa using h0
  have H0 := Lib.hid h0
  clear h0 hr
  unfold CNewPost
  generalize yaw l = E at *
  go_enter Tryz.func28, Tryz.ntmps28
  go_wp2_with (go_at_call 64; refine Hchk.out.mono ?_; rintro e w1 ⟨rfl, hb1⟩; have Hb1 := Lib.hid hb1; clear hb1)
  go_ret2
  exact ⟨Hb1.out, Or.inr ⟨H0.out, rfl⟩⟩
end Go.Proofs.YtoinjdmlembgeaaGreat
