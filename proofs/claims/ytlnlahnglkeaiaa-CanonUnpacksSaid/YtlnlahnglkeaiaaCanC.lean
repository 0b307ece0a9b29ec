/-
  Layer 9: a code in memory: its cells, the rows of its symbols (each in a block of its own), and what stores and appends make of them.
-/
import Derived.Test.YtlnlahnglkeaiaaCanN
import Derived.Test.YtlnlahnglkeaiaaLenO
import Derived.Test.YtlnlahnglkeaiaaBitC0
import Derived.Test.YtlnlahnglkeaiaaBitH0
namespace Go.Proofs.Ytlnlahnglkeaiaa
set_option linter.unusedSimpArgs false
set_option linter.unusedVariables false
open Go.ChangeShapes Go.WideShapes Go.ChangeAt Go.RowKit Go.Joins Go.Deep

/-- Symbols as integers. -/
def csy (l : List Nat) : List Int := l.map (fun s : Nat => (s : Int))
theorem csy_len (l : List Nat) : (csy l).length = l.length := by simp [csy]
theorem csy_app (a b : List Nat) : csy (a ++ b) = csy a ++ csy b := by simp [csy]
theorem csy_get {l : List Nat} {k s : Nat} (h : l[k]? = some s) : (ints (csy l))[k]? = some (.int .i64 (s : Int)) := by
  simp [ints, csy, h]
/-- A code's cells. -/
def ccells (h n : Nat) (st : List Int) (rows : List Value) (d : Int) : List Value := .bool true :: .slice (some ⟨h, 0, none⟩) n n :: (ints st ++ (rows ++ [.int .i64 d]))
section
variable {h n : Nat} {st : List Int} {rows : List Value} {d : Int}
theorem ccells_start (hs : st.length = 16) (j : Nat) (hj : j < 16) : (ccells h n st rows d)[2 + j]? = some (.int .i64 (st[j]'(by omega))) := by
  unfold ccells
  rw [show 2 + j = j + 1 + 1 from by omega, List.getElem?_cons_succ, List.getElem?_cons_succ, List.getElem?_append_left (by rw [ints_length]; omega)]
  exact ints_get st j (by omega)
theorem ccells_row (hs : st.length = 16) (hr : rows.length = 16) (j : Nat) (hj : j < 16) : (ccells h n st rows d)[18 + j]? = some (rows[j]'(by omega)) := by
  unfold ccells
  rw [show 18 + j = 16 + j + 1 + 1 from by omega, List.getElem?_cons_succ, List.getElem?_cons_succ, List.getElem?_append_right (by rw [ints_length]; omega), ints_length, show 16 + j - st.length = j from by omega, List.getElem?_append_left (by omega), List.getElem?_eq_getElem (by omega)]
theorem ccells_deep (hs : st.length = 16) (hr : rows.length = 16) : (ccells h n st rows d)[34]? = some (.int .i64 d) := by
  unfold ccells
  rw [show 34 = 32 + 1 + 1 from rfl, List.getElem?_cons_succ, List.getElem?_cons_succ, List.getElem?_append_right (by rw [ints_length]; omega), ints_length, List.getElem?_append_right (by omega), show 32 - st.length - rows.length = 0 from by omega]
  rfl
theorem ccells_set_start (hs : st.length = 16) (j : Nat) (hj : j < 16) (v : Int) : (ccells h n st rows d).set (2 + j) (.int .i64 v) = ccells h n (st.set j v) rows d := by
  unfold ccells
  rw [show 2 + j = j + 1 + 1 from by omega, List.set_cons_succ, List.set_cons_succ, List.set_append_left _ _ (by rw [ints_length]; omega)]
  simp [ints, List.map_set]
theorem ccells_set_row (hs : st.length = 16) (hr : rows.length = 16) (j : Nat) (hj : j < 16) (v : Value) : (ccells h n st rows d).set (18 + j) v = ccells h n st (rows.set j v) d := by
  unfold ccells
  rw [show 18 + j = 16 + j + 1 + 1 from by omega, List.set_cons_succ, List.set_cons_succ, List.set_append_right _ _ (by rw [ints_length]; omega), ints_length, show 16 + j - st.length = j from by omega, List.set_append_left _ _ (by omega)]
theorem ccells_set_deep (hs : st.length = 16) (hr : rows.length = 16) (v : Int) : (ccells h n st rows d).set 34 (.int .i64 v) = ccells h n st rows v := by
  unfold ccells
  rw [show 34 = 32 + 1 + 1 from rfl, List.set_cons_succ, List.set_cons_succ, List.set_append_right _ _ (by rw [ints_length]; omega), ints_length, List.set_append_right _ _ (by omega), show 32 - st.length - rows.length = 0 from by omega]
  rfl
end

/-! ### The rows of symbols -/
/-- Sixteen slices, each in a block of its own. -/
structure CRows (W : World) (B : Nat) (rows : List Value) (R : Nat → List Nat) : Prop where
  len : rows.length = 16
  own : ∀ j (hj : j < rows.length), W.ownsRow B 3 1 rows[j] (R j).length (ints (csy (R j)))
  sep : ∀ i j (hi : i < rows.length) (hj : j < rows.length), i ≠ j → ∀ k, rows[i].ownBlock = some k → rows[j].ownBlock ≠ some k
section
variable {W W' W2 Wa : World} {B g : Nat} {rows : List Value} {R R' : Nat → List Nat} {cs : Array Value} {t : TypeId} {S : Nat → Prop}
theorem CRows.congr (h : CRows W B rows R) (he : ∀ j, j < 16 → R j = R' j) : CRows W B rows R' := ⟨h.len, fun j hj => by rw [← he j (by have := h.len; omega)]; exact h.own j hj, h.sep⟩
theorem CRows.touch (h : CRows W B rows R) (ht : Touch W W' S) (hS : ∀ j (hj : j < rows.length) k, rows[j].ownBlock = some k → ¬ S k) : CRows W' B rows R := ⟨h.len, fun j hj => owns_touch (h.own j hj) ht (hS j hj), h.sep⟩
theorem CRows.store (h : CRows W B rows R) (hB : Blk W g t cs) (hne : 3 ≠ t) (i : Nat) (u : Value) : CRows (W.setCell ⟨g, i, none⟩ u) B rows R :=
  h.touch ((Touch.refl W (fun k => k = g)).set (p := ⟨g, i, none⟩) (Or.inl rfl) u) fun j hj k hk e => owns_apart (h.own j hj) hB hne (by rw [hk, e])
theorem CRows.append (h : CRows W B rows R) (hb : Below W.heap.size W Wa) (j : Nat) (hj : j < 16) (v' : Value) (s : Nat) (hg : Wa.grownBy W2 (rows[j]'(by have := h.len; omega)).ownBlock)
    (ho : W2.ownsRow B 3 1 v' ((R j).length + 1) (ints (csy (R j)) ++ [.int .i64 (s : Int)])) (hs : Sep Wa (rows[j]'(by have := h.len; omega)) v') :
    CRows W2 B (rows.set j v') (fun i => if i = j then R j ++ [s] else R i) := by
  have hl := h.len
  have hsz := hb.size
  refine ⟨by rw [List.length_set]; exact hl, fun i hi => ?_, fun i k hi hk hne b hb1 hb2 => ?_⟩
  · rw [List.length_set] at hi
    by_cases e : j = i
    · subst e
      rw [List.getElem_set_self, if_pos rfl, csy_app, List.length_append]
      have : ints (csy (R j) ++ csy [s]) = ints (csy (R j)) ++ [.int .i64 (s : Int)] := by simp [ints, csy]
      rw [this]
      exact ho
    · rw [List.getElem_set_ne e, if_neg (fun h => e h.symm)]
      have h1 := owns_below (h.own i hi) hb (Nat.le_refl _)
      refine owns_touch h1 (touch_grow hg) fun k hk e2 => ?_
      exact h.sep j i (by omega) hi e k e2.symm hk
  · rw [List.length_set] at hi hk
    have hnew : ∀ m (hm : m < rows.length), m ≠ j → ∀ b, v'.ownBlock = some b → rows[m].ownBlock ≠ some b := fun m hm hmj b h1 h2 => by
      rcases hs b h1 with h3 | h3
      · exact h.sep j m (by omega) hm (fun e => hmj e.symm) b h3 h2
      · have := ((h.own m hm).lt b h2).2
        omega
    by_cases e1 : j = i
    · subst e1
      rw [List.getElem_set_self] at hb1
      rw [List.getElem_set_ne hne] at hb2
      exact hnew k hk (fun e => hne e.symm) b hb1 hb2
    · rw [List.getElem_set_ne e1] at hb1
      by_cases e2 : j = k
      · subst e2
        rw [List.getElem_set_self] at hb2
        exact hnew i hi hne b hb2 hb1
      · rw [List.getElem_set_ne e2] at hb2
        exact h.sep i k hi hk hne b hb1 hb2
end

/-! ### A code while it is made -/
structure CSt (w1 W : World) (n : Nat) (L : List (Int × Int)) (st : List Int) (rows : List Value) (d : Int) (R : Nat → List Nat) : Prop where
  code : Blk W (w1.heap.size + 1) 45 (ccells w1.heap.size n st rows d).toArray
  words : Blk W w1.heap.size 48 (pairs .i64 L).toArray
  rows : CRows W w1.heap.size rows R
  frame : Below w1.heap.size w1 W
  stl : st.length = 16
section
variable {w1 W Wa W2 : World} {n : Nat} {L : List (Int × Int)} {st : List Int} {rows : List Value} {d : Int} {R R' : Nat → List Nat}
theorem CSt.start (h : CSt w1 W n L st rows d R) (j : Nat) (hj : j < 16) : W.cell? ⟨w1.heap.size + 1, 2 + j, none⟩ = some (.int .i64 (st[j]'(by have := h.stl; omega))) := by
  rw [h.code.cell, List.getElem?_toArray]
  exact ccells_start h.stl j hj
theorem CSt.row (h : CSt w1 W n L st rows d R) (j : Nat) (hj : j < 16) : W.cell? ⟨w1.heap.size + 1, 18 + j, none⟩ = some (rows[j]'(by have := h.rows.len; omega)) := by
  rw [h.code.cell, List.getElem?_toArray]
  exact ccells_row h.stl h.rows.len j hj
theorem CSt.deep (h : CSt w1 W n L st rows d R) : W.cell? ⟨w1.heap.size + 1, 34, none⟩ = some (.int .i64 d) := by
  rw [h.code.cell, List.getElem?_toArray]
  exact ccells_deep h.stl h.rows.len
theorem CSt.wslice (h : CSt w1 W n L st rows d R) : W.cell? ⟨w1.heap.size + 1, 1, none⟩ = some (.slice (some ⟨w1.heap.size, 0, none⟩) n n) := by
  rw [h.code.cell, List.getElem?_toArray]
  rfl
theorem CSt.put_start (h : CSt w1 W n L st rows d R) (j : Nat) (hj : j < 16) (v : Int) : CSt w1 (W.setCell ⟨w1.heap.size + 1, 2 + j, none⟩ (.int .i64 v)) n L (st.set j v) rows d R := by
  refine ⟨?_, h.words.far (by simp) _, h.rows.store h.code (by decide) _ _, h.frame.setCell (by simp) _, by rw [List.length_set]; exact h.stl⟩
  have := h.code.set_ (2 + j) (.int .i64 v)
  rw [List.setIfInBounds_toArray, ccells_set_start h.stl j hj] at this
  exact this
theorem CSt.put_deep (h : CSt w1 W n L st rows d R) (v : Int) : CSt w1 (W.setCell ⟨w1.heap.size + 1, 34, none⟩ (.int .i64 v)) n L st rows v R := by
  refine ⟨?_, h.words.far (by simp) _, h.rows.store h.code (by decide) _ _, h.frame.setCell (by simp) _, h.stl⟩
  have := h.code.set_ 34 (.int .i64 v)
  rw [List.setIfInBounds_toArray, ccells_set_deep h.stl h.rows.len] at this
  exact this
theorem CSt.put_word (h : CSt w1 W n L st rows d R) (s : Nat) (hs : s < L.length) (a b : Int) : CSt w1 ((W.setCell ⟨w1.heap.size, s * 2, none⟩ (.int .i64 a)).setCell ⟨w1.heap.size, s * 2 + 1, none⟩ (.int .i64 b)) n (L.set s (a, b)) st rows d R := by
  have hw := h.words.set_ (s * 2) (.int .i64 a)
  refine ⟨(h.code.far (by simp) _).far (by simp) _, ?_, (h.rows.store h.words (by decide) _ _).store hw (by decide) _ _, (h.frame.setCell (by simp) _).setCell (by simp) _, h.stl⟩
  have := hw.set_ (s * 2 + 1) (.int .i64 b)
  rw [List.setIfInBounds_toArray, List.setIfInBounds_toArray, pairs_set2 .i64 a b L s hs] at this
  exact this
theorem CSt.put_row (h : CSt w1 W n L st rows d R) (hb : Below W.heap.size W Wa) (j : Nat) (hj : j < 16) (v' : Value) (s : Nat) (hg : Wa.grownBy W2 (rows[j]'(by have := h.rows.len; omega)).ownBlock)
    (ho : W2.ownsRow w1.heap.size 3 1 v' ((R j).length + 1) (ints (csy (R j)) ++ [.int .i64 (s : Int)])) (hs : Sep Wa (rows[j]'(by have := h.rows.len; omega)) v') :
    W2.frozen? ⟨w1.heap.size + 1, 18 + j, none⟩ = false ∧ (∃ u, W2.cell? ⟨w1.heap.size + 1, 18 + j, none⟩ = some u) ∧ CSt w1 (W2.setCell ⟨w1.heap.size + 1, 18 + j, none⟩ v') n L st (rows.set j v') d (fun i => if i = j then R j ++ [s] else R i) := by
  have hoj := h.rows.own j (by have := h.rows.len; omega)
  have hgb : ∀ {b : Nat} {t : TypeId} {cs : Array Value}, Blk W b t cs → 3 ≠ t → Blk W2 b t cs := fun {b t cs} hB hne => (hB.below hb hB.lt).grow' hg (fun e => owns_apart hoj hB hne e)
  have hc := hgb h.code (by decide)
  have hw := hgb h.words (by decide)
  have hrow := h.rows.append hb j hj v' s hg ho hs
  refine ⟨hc.frozen _, ⟨rows[j]'(by have := h.rows.len; omega), ?_⟩, ⟨?_, hw.far (by simp) _, hrow.store hc (by decide) _ _, ?_, h.stl⟩⟩
  · rw [hc.cell, List.getElem?_toArray]
    exact ccells_row h.stl h.rows.len j hj
  · have := hc.set_ (18 + j) v'
    rw [List.setIfInBounds_toArray, ccells_set_row h.stl h.rows.len j hj] at this
    exact this
  · refine Below.setCell ?_ (by simp) _
    have h1 := h.frame.trans (hb.mono h.frame.size)
    exact Below.grown h1 hg h1.size fun b hb2 => (hoj.lt b hb2).1
theorem CSt.congr (h : CSt w1 W n L st rows d R) (he : ∀ j, j < 16 → R j = R' j) : CSt w1 W n L st rows d R' := ⟨h.code, h.words, h.rows.congr he, h.frame, h.stl⟩
end

/-! ### A code that was made -/
/-- A code of lengths lies at block g; all of it lies below block B. -/
structure CHold (W : World) (B g : Nat) (ls : List Nat) (h : Nat) (st : List Int) (rows : List Value) : Prop where
  code : Blk W g 45 (ccells h ls.length st rows (cdeep ls ls.length : Nat)).toArray
  words : Blk W h 48 (pairs .i64 (wat ls 16 0)).toArray
  gB : g < B
  hB : h < B
  stl : st.length = 16
  rl : rows.length = 16
  st : ∀ j (hj : j < st.length), 1 ≤ j → j ≤ cdeep ls ls.length → st[j] = (cst ls j : Int)
  row : ∀ j (hj : j < rows.length), ∃ A c, rows[j] = .slice A (crow ls ls.length j).length c ∧ Reads W B 1 A (crow ls ls.length j).length (ints (csy (crow ls ls.length j)))
def CCode (W : World) (B g : Nat) (ls : List Nat) : Prop := ∃ h st rows, CHold W B g ls h st rows
section
variable {W W' : World} {B B' g : Nat} {ls : List Nat}
theorem CCode.below (h : CCode W B g ls) (hb : Below B W W') : CCode W' B g ls := by
  obtain ⟨k, st, rows, h⟩ := h
  exact ⟨k, st, rows, h.code.below hb h.gB, h.words.below hb h.hB, h.gB, h.hB, h.stl, h.rl, h.st, fun j hj => by
    obtain ⟨A, c, e, hr⟩ := h.row j hj
    exact ⟨A, c, e, hr.below hb⟩⟩
theorem CCode.more (h : CCode W B g ls) (hB : B ≤ B') : CCode W B' g ls := by
  obtain ⟨k, st, rows, h⟩ := h
  exact ⟨k, st, rows, h.code, h.words, Nat.lt_of_lt_of_le h.gB hB, Nat.lt_of_lt_of_le h.hB hB, h.stl, h.rl, h.st, fun j hj => by
    obtain ⟨A, c, e, hr⟩ := h.row j hj
    exact ⟨A, c, e, hr.more hB⟩⟩
theorem CCode.made (h : CCode W B g ls) : W.cell? ⟨g, 0, none⟩ = some (.bool true) := by
  obtain ⟨k, st, rows, h⟩ := h
  rw [h.code.cell, List.getElem?_toArray]
  rfl
theorem CCode.deep (h : CCode W B g ls) : W.cell? ⟨g, 34, none⟩ = some (.int .i64 (cdeep ls ls.length : Nat)) := by
  obtain ⟨k, st, rows, h⟩ := h
  rw [h.code.cell, List.getElem?_toArray]
  exact ccells_deep h.stl h.rl
theorem CCode.start (h : CCode W B g ls) (j : Nat) (h1 : 1 ≤ j) (h2 : j ≤ cdeep ls ls.length) (h3 : j < 16) : W.cell? ⟨g, 2 + j, none⟩ = some (.int .i64 (cst ls j : Int)) := by
  obtain ⟨k, st, rows, h⟩ := h
  rw [h.code.cell, List.getElem?_toArray, ccells_start h.stl j h3, h.st j (by have := h.stl; omega) h1 h2]
/-- A row of symbols, and its cells. -/
theorem CCode.row (h : CCode W B g ls) (j : Nat) (h3 : j < 16) : ∃ A c, W.cell? ⟨g, 18 + j, none⟩ = some (.slice A (crow ls ls.length j).length c) ∧ (0 < (crow ls ls.length j).length → ∃ b off, A = some ⟨b, off, none⟩ ∧ b < B ∧ ∀ k s : Nat, (crow ls ls.length j)[k]? = some s → W.cell? ⟨b, off + k, none⟩ = some (.int .i64 (s : Int))) := by
  obtain ⟨k, st, rows, h⟩ := h
  obtain ⟨A, c, e, hr⟩ := h.row j (by have := h.rl; omega)
  refine ⟨A, c, ?_, fun hp => ?_⟩
  · rw [h.code.cell, List.getElem?_toArray, ccells_row h.stl h.rl j h3, e]
  · obtain ⟨b, off, e2, hb, hc⟩ := hr.2 hp
    exact ⟨b, off, e2, hb, fun k s hk => hc k _ (csy_get hk)⟩
theorem CCode.words (h : CCode W B g ls) : ∃ b, b < B ∧ W.cell? ⟨g, 1, none⟩ = some (.slice (some ⟨b, 0, none⟩) ls.length ls.length) ∧ Blk W b 48 (pairs .i64 (wat ls 16 0)).toArray := by
  obtain ⟨k, st, rows, h⟩ := h
  refine ⟨k, h.hB, ?_, h.words⟩
  rw [h.code.cell, List.getElem?_toArray]
  rfl
theorem CCode.at (h : CCode W B g ls) : g < B ∧ g < W.heap.size := by
  obtain ⟨k, st, rows, h⟩ := h
  exact ⟨h.gB, h.code.lt⟩
end
/-- The program's Check is the document's. -/
theorem ccheck_ref (l : List Int) : pcheckF l = checkF l := by
  have h2 := (cpart_more l).1
  have h1 := cpart_used l
  unfold pcheckF checkF
  by_cases h : 257 < l.length
  · rw [if_pos h, if_pos h]
  · rw [if_neg h, if_neg h]
    unfold sumF fullF
    by_cases hg : lgood l = true
    · rw [if_pos hg, if_pos hg]
      by_cases u0 : usedF l = 0
      · rw [if_pos u0, if_pos (by omega), if_pos (by omega)]
      · rw [if_neg u0]
        by_cases u1 : usedF l = 1
        · rw [if_pos u1]
          by_cases hp : (partF l : Int) = 16384
          · rw [if_pos hp, if_pos (by omega)]
          · rw [if_neg hp, if_neg (by omega)]
        · rw [if_neg u1]
          by_cases hp : (partF l : Int) = 32768
          · rw [if_pos hp, if_pos (by omega)]
          · rw [if_neg hp, if_neg (by omega)]
    · rw [if_neg hg, if_neg hg, if_neg (by omega)]
end Go.Proofs.Ytlnlahnglkeaiaa
