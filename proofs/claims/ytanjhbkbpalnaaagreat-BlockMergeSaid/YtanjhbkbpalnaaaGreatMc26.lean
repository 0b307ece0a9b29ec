/-
 What the law of the last of these texts stands on, part 26.
-/
import Derived.Test.YtanjhbkbpalnaaaGreatMc20
import Derived.Test.YtanjhbkbpalnaaaGreatMc25
import Derived.Laws.StructEq
set_option maxRecDepth 100000
set_option maxHeartbeats 8000000
open Go.Proofs.Tryz
namespace Go.Proofs.YtanjhbkbpalnaaaGreat
set_option linter.unusedSimpArgs false
set_option linter.unusedVariables false
open Go.ChangeShapes Go.WideShapes Go.ChangeAt Go.RowKit Go.Joins Go.Deep
abbrev omc (m : OM) : Array Value := #[.int .i64 0, .int .i64 0, .int .i64 m.1, .int .i64 m.2.1, .int .i64 m.2.2.1, .int .i64 m.2.2.2.1, .int .i64 m.2.2.2.2]
abbrev opc (m a b c d e : Int) (T : List UInt8) : Array Value := #[.int .i64 m, .int .i64 a, .int .i64 b, .int .i64 c, .int .i64 d, .int .i64 e, .string ⟨T.toArray⟩]
theorem oset7 {W X : World} {g : Nat} {t : TypeId} {x0 x1 x2 x3 x4 x5 x6 : Value} (h : Blk W g t #[x0, x1, x2, x3, x4, x5, x6]) {a0 a1 a2 a3 a4 a5 a6 : Value}
  (hX : ((((((W.setCell ⟨g, 0, none⟩ a0).setCell ⟨g, 1, none⟩ a1).setCell ⟨g, 2, none⟩ a2).setCell ⟨g, 3, none⟩ a3).setCell ⟨g, 4, none⟩ a4).setCell ⟨g, 5, none⟩ a5).setCell ⟨g, 6, none⟩ a6 = X) :
  Blk X g t #[a0, a1, a2, a3, a4, a5, a6] ∧ Touch W X (fun k => k = g) := by
 subst hX
 exact ⟨by simpa using ((((((h.set_ 0 a0).set_ 1 a1).set_ 2 a2).set_ 3 a3).set_ 4 a4).set_ 5 a5).set_ 6 a6,
  (((((((Touch.refl W (fun k => k = g)).set (p := ⟨g, 0, none⟩) (.inl rfl) _).set (p := ⟨g, 1, none⟩) (.inl rfl) _).set (p := ⟨g, 2, none⟩) (.inl rfl) _).set (p := ⟨g, 3, none⟩) (.inl rfl) _).set (p := ⟨g, 4, none⟩) (.inl rfl) _).set (p := ⟨g, 5, none⟩) (.inl rfl) _).set (p := ⟨g, 6, none⟩) (.inl rfl) _⟩
theorem yhf (m : OM) (w : World) (h1 : 1 ≤ m.2.1) (h2 : m.2.1 ≤ 20000) (h3 : 1 ≤ m.2.2.1) (h4 : m.2.2.1 ≤ 1000000001) :
  Calls prog 29 #[.agg (omc m)] w fun e w' => e = .returned (.agg #[.int .i64 m.2.2.1, .int .i64 (m.2.2.1 + m.2.1 - 1)]) ∧ Below w.heap.size w w' := by
 obtain ⟨a, b, c, d, e⟩ := m
 dsimp only at *
 have hb : ¬ b < 1 := by omega
 have hw1 : IntKind.i64.wrap (b - 1) = b - 1 := by rw [qai]; omega
 have hw2 : IntKind.i64.wrap (9223372036854775807 - (b - 1)) = 9223372036854775807 - (b - 1) := by rw [qai]; omega
 have hmin : min c (9223372036854775807 - (b - 1)) = c := by omega
 have hw3 : IntKind.i64.wrap (c + (b - 1)) = c + b - 1 := by rw [qai]; omega
 clear h1 h2 h3 h4
 go_enter func29, ntmps29
 go_wp2
 refine qaN (v := .agg #[.int .i64 c, .int .i64 (c + b - 1)]) (by simp [results, results29, go_sem]) rfl ⟨rfl, by go_grown⟩
theorem yft (m : OM) (w : World) (h1 : 1 ≤ m.2.1) :
  Calls prog 30 #[.agg (omc m)] w fun e w' => e = .returned (.agg #[.int .i64 m.2.2.2.1, .int .i64 m.2.2.2.2]) ∧ Below w.heap.size w w' := by
 obtain ⟨a, b, c, d, e⟩ := m
 dsimp only at *
 have hb : ¬ b < 1 := by omega
 go_enter func30, ntmps30
 go_wp2
 refine qaN (v := .agg #[.int .i64 d, .int .i64 e]) (by simp [results, results30, go_sem]) rfl ⟨rfl, by go_grown⟩
theorem ycR (m a b c d e : Int) (T : List UInt8) (w : World) (hd : 0 ≤ d) (he : 0 ≤ e) (hde : d + e ≤ 1000000000) :
  Calls prog 54 #[.agg (opc m a b c d e T)] w fun r w' => r = .returned (.agg (omc (a, b, c, d, d + e))) ∧ Below w.heap.size w w' := by
 have hw : IntKind.i64.wrap (d + e) = d + e := by rw [qai]; omega
 clear hd he hde
 go_enter func54, ntmps54
 go_wp2
 refine qaN (v := .agg (omc (a, b, c, d, d + e))) (by simp [results, results54, go_sem]) rfl ⟨rfl, by go_grown⟩
theorem bsF_big {l : List UInt8} {r : Int} (h : 20000 < l.length) : bsF l r = ([], 3) := qah h
theorem bsF_bad {l : List UInt8} {r : Int} (h : ¬ 20000 < l.length) (k : bbad l r) : bsF l r = ([], 130) := by unfold bsF; rw [qag h, qah k]
theorem bsF_yes {l : List UInt8} {r : Nat} (h : ¬ 20000 < l.length) (k : ¬ bbad l (r : Int)) : bsF l (r : Int) = (splc ((List.range (l.length + 1)).map (brk (bcol l r))), 0) := by unfold bsF; rw [qag h, qag k, qav]
def bst (c : List Int) (N i : Nat) : List Int := (List.range N).map fun j => if j < i then ((brk c j : Nat) : Int) else 0
theorem bst_len (c : List Int) (N i : Nat) : (bst c N i).length = N := by simp [bst]
theorem bst_zero (c : List Int) (N : Nat) : bst c N 0 = List.replicate N 0 := by
 unfold bst
 apply qbg
 ·simp
 ·intro j h1 h2
  simp
theorem bst_set (c : List Int) (N i : Nat) : (bst c N i).set i ((brk c i : Nat) : Int) = bst c N (i + 1) := by
 apply qbg
 ·simp [bst]
 ·intro j h1 h2
  rw [qcq]
  simp only [bst, qaY, qbp]
  by_cases e : i = j
  ·subst e
   rw [qah rfl, qah (by omega)]
  ·rw [qag e]
   by_cases h : j < i
   ·rw [qah h, qah (by omega)]
   ·rw [qag h, qag (by omega)]
theorem bst_skip (c : List Int) (N i : Nat) (h : brk c i = 0) : bst c N i = bst c N (i + 1) := by
 apply qbg
 ·simp [bst]
 ·intro j h1 h2
  simp only [bst, qaY, qbp]
  by_cases e : i = j
  ·subst e
   rw [qag (by omega), qah (by omega), h]
   rfl
  ·by_cases h : j < i
   ·rw [qah h, qah (by omega)]
   ·rw [qag h, qag (by omega)]
theorem bst_all (c : List Int) (N : Nat) : bst c N N = splc ((List.range N).map (brk c)) := by
 apply qbg
 ·simp [bst, splc]
 ·intro j h1 h2
  rw [bst_len] at h1
  simp only [bst, splc, qaY, qbp]
  rw [qah h1]
theorem ydl : (prog.info? 5).map (fun i => (i.zero, i.size, i.bytes)) = some (some (.int .u8 0), 1, 1) := by kernel_rfl
theorem mk_bytes (n : Int) (N : Nat) (hN : (N : Int) = n) (h : N ≤ 281474976710656) (w : World) :
  (Instr.makeSlice 36 (.int .i64 n) (.int .i64 n)).run prog w = .ok (.slice (some ⟨w.heap.size, 0, none⟩) N N) (w.alloc (.cells (bc (List.replicate N 0)) 5)) := by
 subst hN
 rw [← bc_zero]
 exact run_make_row' (P := prog) 36 5 (.int .u8 0) 1 underlying36 ydl rfl .i64 .i64 N (by omega) (by omega) w
theorem str_blk (w : World) (g n c : Nat) (t : TypeId) (l : List UInt8) (hn : l.length = n) (h : Blk w g t (bc l)) :
  (convert 36 9 (.slice (some ⟨g, 0, none⟩) n c)).run prog w = .ok (.string ⟨l.toArray⟩) w :=
 ycF underlying36 underlying5 underlying9 w g 0 c l n hn fun j b hj => by rw [qaL]; exact ycv h hj
theorem rrec_equal (x y x' y' : Int) (d d' : List UInt8) (w : World) : (Op.equalIn 10000 54 (.agg #[.int .i64 x, .int .i64 y, .string ⟨d.toArray⟩]) (.agg #[.int .i64 x', .int .i64 y', .string ⟨d'.toArray⟩])).run prog w = .ok (decide (x = x' ∧ y = y' ∧ d = d')) w := by
 by_cases h1 : x = x' <;> by_cases h2 : y = y' <;> by_cases h3 : d = d' <;> simp [go_sem, h1, h2, h3]
theorem rrec_guard : prog.eqGuardType prog.depth 54 = false := by kernel_rfl
theorem p_behind_any (x y u v m : Int) (d e : List UInt8) (w : World) (h0 : -1000000000 ≤ u) (h1 : u ≤ 1000000000) (hm : (v < y ∧ m = y) ∨ (y ≤ v ∧ m = v)) : Calls prog 60 #[.agg #[.int .i64 u, .int .i64 v, .string ⟨e.toArray⟩], .agg #[.int .i64 x, .int .i64 y, .string ⟨d.toArray⟩]] w fun r w' => r = .returned (.agg #[.int .i64 (u + 1), .int .i64 m, .string ⟨d.toArray⟩]) ∧ Below w.heap.size w w' := by
 have hu : IntKind.i64.wrap (u + 1) = u + 1 := by rw [qai]; omega
 rcases hm with ⟨h, rfl⟩ | ⟨h, rfl⟩
 ·have h2 : ¬ m < v := by omega
  have h3 : ¬ m ≤ v := by omega
  go_enter func60, ntmps60
  go_wp2
  refine qaN (v := .agg #[.int .i64 (u + 1), .int .i64 m, .string ⟨d.toArray⟩]) (by simp [results, results60, go_sem]) rfl ⟨rfl, by go_grown⟩
 ·have h2 : ¬ m < y := by omega
  go_enter func60, ntmps60
  go_wp2
  refine qaN (v := .agg #[.int .i64 (u + 1), .int .i64 m, .string ⟨d.toArray⟩]) (by simp [results, results60, go_sem]) rfl ⟨rfl, by go_grown⟩
theorem rrow_at {a : List Rc} {b : Rc} {u : List Rc} (h : yaz a = 0) : yaz (a ++ b :: u) = if rmay b = true then (if a = [] ∨ rgo (a.getLast?.getD yfT) b = true then yb4 b u else 151) else 150 := by
 cases a with
 | nil =>
  show (if rmay b = true then yb4 b u else 150) = _
  rw [qah (qas rfl)]
 | cons x t =>
  change (if rmay x = true then yb4 x t else 150) = 0 at h
  by_cases hx : rmay x = true
  ·rw [qah hx] at h
   rw [qbl]
   show (if rmay x = true then yb4 x (t ++ b :: u) else 150) = _
   rw [qah hx, rrow1_app b u t x h]
   have e : (x :: t).getLast?.getD yfT = (x :: t).getLast (by simp) := by rw [List.getLast?_eq_some_getLast (by simp)]; rfl
   rw [e]
   show (if rmay b = true then (if rgo _ b = true then yb4 b u else 151) else 150) = _
   by_cases g : rgo ((x :: t).getLast (by simp)) b = true
   ·rw [qah g, qah (qaK g)]
   ·rw [qag g, qag (fun h => Or.elim h (fun h => by cases h) g)]
  ·rw [qag hx] at h
   cases h
theorem rsplit_at (l : List Rc) (k : Nat) (h : k < l.length) : l = l.take k ++ l[k] :: l.drop (k + 1) := by rw [← qa6 h, qax]
theorem rlast_at (l : List Rc) (p : Nat) (h : p + 1 ≤ l.length) : (l.take (p + 1)).getLast?.getD yfT = l[p]'(by omega) := by
 rw [qap (show p < l.length by omega), List.getLast?_concat]
 rfl
theorem rrow_bad {l : List Rc} {k : Nat} (h : k < l.length) (h0 : yaz (l.take k) = 0) (hm : ¬ rmay l[k] = true) : yaz l = 150 := by
 rw [rsplit_at l k h, rrow_at h0, qag hm]
theorem rrow_ord {l : List Rc} {p : Nat} (h : p + 1 < l.length) (h0 : yaz (l.take (p + 1)) = 0) (hm : rmay l[p + 1] = true) (hg : ¬ rgo (l[p]'(by omega)) l[p + 1] = true) : yaz l = 151 := by
 rw [rsplit_at l (p + 1) h, rrow_at h0, qah hm, qag]
 rw [rlast_at l p (by omega)]
 rintro (e | e)
 ·have := qbD List.length e
  rw [qao, List.length_nil] at this
  omega
 ·exact hg e
theorem rrow_first {l : List Rc} (h : 0 < l.length) (hm : rmay l[0] = true) : yaz (l.take 1) = 0 := by
 have e : l.take 1 = [] ++ l[0] :: [] := by rw [qap h]; rfl
 rw [e, rrow_at rfl, qah hm, qah (qas rfl)]
 rfl
theorem rrow_next {l : List Rc} {p : Nat} (h : p + 1 < l.length) (h0 : yaz (l.take (p + 1)) = 0) (hm : rmay l[p + 1] = true) (hg : rgo (l[p]'(by omega)) l[p + 1] = true) : yaz (l.take (p + 1 + 1)) = 0 := by
 rw [qap h, rrow_at h0, qah hm, qah]
 ·rfl
 ·exact qaK (by rw [rlast_at l p (by omega)]; exact hg)
theorem rrow_prev {l : List Rc} {p : Nat} (h : p + 1 < l.length) (h0 : yaz (l.take (p + 1)) = 0) : rmay (l[p]'(by omega)) = true := by
 refine ydt h0 _ ?_
 rw [qap (show p < l.length by omega)]
 exact qbj _ (qbZ.2 rfl)
theorem rrow_step {l : List Rc} {k p : Nat} (hp : p + 1 = k) (h : k < l.length) (h0 : yaz (l.take k) = 0) (hm : rmay l[k] = true) : ∃ hpl : p < l.length, (-1000000000 : Int) ≤ l[p].1 ∧ l[p].1 ≤ 1000000000 ∧
  (¬ (l[k].1 = l[p].1 + 1 ∧ l[p].2.1 ≤ l[k].2.1) → yaz l = 151) ∧ ((l[k].1 = l[p].1 + 1 ∧ l[p].2.1 ≤ l[k].2.1) → yaz (l.take (k + 1)) = 0) := by
 subst hp
 have hpm := (ybc _).1 (rrow_prev h h0)
 refine ⟨by omega, by omega, by omega, fun g => rrow_ord h h0 hm fun g2 => g ((rgo_iff _ _).1 g2), fun g => rrow_next h h0 hm ((rgo_iff _ _).2 g)⟩
theorem c_none_no (g : Nat) (w : World) (x : w.cell? ⟨g, 0, none⟩ = some (.bool true)) : Calls prog 127 #[.pointer (some ⟨g, 0, none⟩)] w fun e w' => e = .returned (.bool false) ∧ w = w' := by
 have hg := cell_lt x
 go_enter func127, ntmps127
 go_wp2
 go_ret
 exact ⟨rfl, rfl⟩
def ycG (ws : List (Int × Int)) (s : Int) : (Int × Int) × Int := if 0 ≤ s ∧ s < ws.length ∧ (ws.getD s.toNat (0, 0)).2 ≠ 0 then (ws.getD s.toNat (0, 0), 0) else ((0, 0), 70)
theorem pword_ref (ws : List (Int × Int)) (s : Int) : (ycG ws s).2 = (yaZ ws s).2 ∧ ((ycG ws s).2 = 0 → (yaZ ws s).1 = digI (ycG ws s).1.1 (ycG ws s).1.2 ∧ (ycG ws s).1 ∈ ws) := by
 unfold ycG yaZ
 by_cases h : 0 ≤ s ∧ s < ws.length ∧ (ws.getD s.toNat (0, 0)).2 ≠ 0
 ·rw [qah h, qah h]
  refine ⟨rfl, fun _ => ⟨rfl, ?_⟩⟩
  have hl : s.toNat < ws.length := by omega
  show ws.getD s.toNat (0, 0) ∈ ws
  rw [qar, qaj hl]
  exact qaq hl
 ·rw [qag h, qag h]
  exact ⟨rfl, fun h => absurd h (by decide)⟩
def wordV (F : (Int × Int) × Int) : Value := .tuple #[.agg #[.int .i64 F.1.1, .int .i64 F.1.2], .int .i64 F.2]
theorem c_word_any (ls : List Nat) (B g : Nat) (s : Int) (w : World) (h : CCode w B g ls) (hl : ls.length ≤ 1000000) : Calls prog 151 #[.pointer (some ⟨g, 0, none⟩), .int .i64 s] w fun e w' => e = .returned (wordV (ycG (wat ls 16 0) s)) ∧ Below w.heap.size w w' := by
 have Hn : Hid (∀ W, Below w.heap.size w W → Calls prog 127 #[.pointer (some ⟨g, 0, none⟩)] W fun e w' => e = .returned (.bool false) ∧ W = w') := qaa fun W hW => c_none_no g W ((hW.cell (p := ⟨g, 0, none⟩) h.at.2).trans h.made)
 obtain ⟨b, hb, x1, hB⟩ := h.words
 have hg := h.at.2
 have hbl := hB.lt
 have hwl := yaS ls 16 0
 obtain ⟨F, hF⟩ : ∃ F, ycG (wat ls 16 0) s = F := ⟨_, rfl⟩
 rw [hF]
 unfold ycG at hF
 rw [hwl] at hF
 obtain ⟨n, hn⟩ : ∃ n, ls.length = n := ⟨_, rfl⟩
 rw [hn] at hF x1 hl hwl
 have hni : (n : Int) ≤ 1000000 := by omega
 clear h
 by_cases h0 : s < 0
 ·rw [qag (by omega)] at hF
  subst hF
  clear hB
  go_enter func151, ntmps151
  go_wp2_with (go_at_call 127; refine (Hn.out _ ((qam _ _).alloc (qaf _) _)).mono ?_; rintro e w1 ⟨rfl, rfl⟩)
  refine qaN (v := .tuple #[.agg #[.int .i64 0, .int .i64 0], .int .i64 70]) (by simp [results, results151, go_sem]) rfl ⟨rfl, by go_grown⟩
 ·by_cases h1 : (n : Int) ≤ s
  ·rw [qag (by omega)] at hF
   subst hF
   clear hB
   go_enter func151, ntmps151
   go_wp2_with (go_at_call 127; refine (Hn.out _ ((qam _ _).alloc (qaf _) _)).mono ?_; rintro e w1 ⟨rfl, rfl⟩)
   refine qaN (v := .tuple #[.agg #[.int .i64 0, .int .i64 0], .int .i64 70]) (by simp [results, results151, go_sem]) rfl ⟨rfl, by go_grown⟩
  ·obtain ⟨k, rfl⟩ := qaQ (by omega : 0 ≤ s)
   have hk : k < n := by omega
   have hki : (0 : Int) ≤ (k : Int) ∧ (k : Int) < (n : Int) := by omega
   have hkw : k < (wat ls 16 0).length := by rw [hwl]; exact hk
   rw [qav, qar, qaj hkw, qbW] at hF
   have y1 := hB.cell (k * 2)
   rw [qan, yge .i64 _ k hkw] at y1
   have y2 := hB.cell (k * 2 + 1)
   rw [qan, yg8 .i64 _ k hkw] at y2
   clear hB
   generalize (wat ls 16 0)[k] = f at *
   obtain ⟨fn, fw⟩ := f
   dsimp only at y1 y2 hF
   by_cases hz : fw = 0
   ·rw [qag (fun h => h.2.2 hz)] at hF
    subst hF
    subst hz
    clear hkw hwl h0 h1
    go_enter func151, ntmps151
    go_wp2_with (go_at_call 127; refine (Hn.out _ ((qam _ _).alloc (qaf _) _)).mono ?_; rintro e w1 ⟨rfl, rfl⟩)
    refine qaN (v := .tuple #[.agg #[.int .i64 0, .int .i64 0], .int .i64 70]) (by simp [results, results151, go_sem]) rfl ⟨rfl, by go_grown⟩
   ·rw [qah ⟨by omega, by omega, hz⟩] at hF
    subst hF
    have hz2 : (fw == (0 : Int)) = false := by simpa using hz
    clear hkw hwl h0 h1
    go_enter func151, ntmps151
    go_wp2_with (go_at_call 127; refine (Hn.out _ ((qam _ _).alloc (qaf _) _)).mono ?_; rintro e w1 ⟨rfl, rfl⟩)
    refine qaN (v := .tuple #[.agg #[.int .i64 fn, .int .i64 fw], .int .i64 0]) (by simp [results, results151, go_sem]) rfl ⟨rfl, by go_grown⟩
def CGet2 (w w' : World) (e : Ending) (gr : Nat) (l : List UInt8) (p : Nat) (F : Int × Int × Int) : Prop := e = .returned (.tuple #[.int .i64 F.1, .int .i64 F.2.2]) ∧ RHold w' gr l (p + F.2.1.toNat) ∧ Touch w w' (fun k => k = gr)
theorem RHold.below {w w' : World} {g B p : Nat} {l : List UInt8} (h : RHold w g l p) (hb : Below B w w') (hg : g < B) : RHold w' g l p := Blk.below h hb hg
theorem cget_after {w wr w5 : World} (hB : Below w.heap.size w wr) (ht : Touch wr w5 (fun k => k = w.heap.size)) : Below w.heap.size w w5 := hB.trans (ht.below (fun k _ e => by omega) hB.size)
theorem c_get_far (ls : List Nat) (ok : Nat → Prop) (g gr : Nat) (l : List UInt8) (p : Nat) (w : World) (hfar : CFar w g ls ok) (h15 : ∀ x ∈ ls, x ≤ 15) (hca : call ls ≤ 32768) (hD : ya7 ls ls.length = 1 ∨ call ls = 32768) (hlen : ls.length ≤ 257) (hgr : ¬ ok gr) (hR : RHold w gr l p) (hl : l.length ≤ 1099511627776) (hp : p ≤ 8 * l.length) :
  Calls prog 89 #[.pointer (some ⟨g, 0, none⟩), .pointer (some ⟨gr, 0, none⟩)] w fun e w' => CGet2 w w' e gr l p (ybk (wat ls 16 0) (yaf l) p) := by
 obtain ⟨B, hBw, h⟩ := hfar.code
 have Hfar : ∀ W, Touch w W (fun k => k = gr) → ∃ B2, B2 ≤ W.heap.size ∧ CCode W B2 g ls := fun W hW => (hfar.touch hW (fun k hk e => hgr (e ▸ hk))).code
 have Hn : Hid (Calls prog 127 #[.pointer (some ⟨g, 0, none⟩)] w fun e w' => e = .returned (.bool false) ∧ w = w') := qaa (c_none_no g w h.made)
 obtain ⟨c1, c2, z1, z2⟩ := Blk.two hR
 have hgl := Blk.lt hR
 have hpi : (p : Int) ≤ 8796093022208 := by omega
 have hbin : Bin ((yaf l).drop p) := fun d hd => ycT l d (qbt hd)
 have hRl : ((yaf l).drop p).length = 8 * l.length - p := by rw [qat, yar]
 obtain ⟨F, hF⟩ : ∃ F, ybk (wat ls 16 0) (yaf l) p = F := ⟨_, rfl⟩
 rw [hF]
 unfold ybk at hF
 have hE : (yaf l).drop p = [] → (if p = (yaf l).length then (4 : Int) else 40) = 4 := fun e => by
  rw [qah]
  have := qbD List.length e
  rw [qat, List.length_nil] at this
  rw [yar] at this ⊢
  omega
 have hE2 : (yaf l).drop p ≠ [] → (if p = (yaf l).length then (4 : Int) else 40) = 40 := fun e => by
  rw [qag]
  intro e2
  exact e (qaO (by omega))
 have hg1 := ycp (ls := ls) ls.length
 have hg2 := ye7 (ls := ls) (fun s hs => h15 _ (qaq hs)) ls.length (qaf _)
 have hg3 : ∀ s (hs : s < ls.length), ls[s] ≤ ya7 ls ls.length := fun s hs => cdeep_ge _ (qaf _) s hs hs
 -- what is found
 have Hshort : Hid (∀ wd, 0 < wd → wd ≤ ya7 ls ls.length → 8 * l.length - p + 1 = wd → cpos ls wd 0 ≤ v15 ((yaf l).drop p) → F = (0, 0, 4)) := qaa fun wd a1 a2 a3 a4 => by
  rw [← hF]
  exact cgo_short h15 hca hbin wd _ a1 a2 (by rw [hRl]; exact a3) a4 hD _ hE
 have Hhit : Hid (∀ wd k s : Nat, 0 < wd → wd ≤ ya7 ls ls.length → wd ≤ 8 * l.length - p → num (((yaf l).drop p).take wd) = cst ls wd + k → (crow ls ls.length wd)[k]? = some s → F = ((s : Int), (wd : Int), 0)) := qaa fun wd k s a1 a2 a3 a4 a5 => by
  rw [← hF]
  exact cgo_hit h15 hca hbin _ wd a1 (by omega) (by rw [hRl]; exact a3) k s a4 a5
 have Hmiss : Hid (∀ wd, wd ≤ ya7 ls ls.length → wd ≤ 8 * l.length - p → cst ls wd + (crow ls ls.length wd).length ≤ num (((yaf l).drop p).take wd) → cpos ls (wd + 1) 0 ≤ v15 ((yaf l).drop p)) := qaa fun wd a1 a2 a3 => cgo_miss hbin wd (by omega) (by rw [hRl]; exact a2) a3
 have Hle : Hid (∀ wd, wd ≤ ya7 ls ls.length → wd ≤ 8 * l.length - p → cpos ls wd 0 ≤ v15 ((yaf l).drop p) → cst ls wd ≤ num (((yaf l).drop p).take wd)) := qaa fun wd a1 a2 a3 => cgo_le hbin wd (by omega) (by rw [hRl]; exact a2) a3
 have Hend : Hid (ya7 ls ls.length ≤ 8 * l.length - p → cpos ls (ya7 ls ls.length + 1) 0 ≤ v15 ((yaf l).drop p) → F = (0, 0, 40)) := qaa fun a1 a2 => by
  rw [← hF, cgo_end h15 hca hbin _ hg1 hg2 hg3 (by rw [hRl]; exact a1) a2, hE2]
  intro e
  rw [e, List.length_nil] at hRl
  omega
 have Hnum : Hid (∀ m, m < 8 * l.length - p → ∃ b, b ≤ 1 ∧ num (((yaf l).drop (p + m)).take 1) = b ∧ num (((yaf l).drop p).take (m + 1)) = 2 * num (((yaf l).drop p).take m) + b) := qaa fun m hm => by
  have hm2 : m < ((yaf l).drop p).length := by rw [hRl]; exact hm
  refine ⟨((yaf l).drop p)[m], ?_, ?_, cgo_num m hm2⟩
  ·have := hbin _ (qaq hm2)
   omega
  ·rw [← qbh]
   exact cgo_bit hbin m hm2
 have Hbig : Hid (∀ m, m ≤ 15 → num (((yaf l).drop p).take m) < 32768) := qaa fun m hm => by
  have h1 := ye3 (l := ((yaf l).drop p).take m) fun d hd => hbin d (qaV hd)
  have h2 : (2 : Nat) ^ (((yaf l).drop p).take m).length ≤ 2 ^ 15 := qaH (by omega) (by rw [qao]; omega)
  omega
 have Hstl : Hid (∀ j, j ≤ 15 → cst ls j ≤ 32768) := qaa fun j hj => cst_le j hj hca
 have Hcnt : Hid (∀ j, (crow ls ls.length j).length ≤ 257) := qaa fun j => by
  have := ydG (ls := ls) ls.length j
  omega
 have hPos : cpos ls 1 0 = 0 := by rw [← yez 0 ls.length (qaf _)]; exact ycP _
 have Hpos : Hid (cpos ls 1 0 ≤ v15 ((yaf l).drop p)) := qaa (by rw [hPos]; exact qbE _)
 -- the code's cells in a later world
 have Hdeep : Hid (∀ W, Touch w W (fun k => k = gr) → W.cell? ⟨g, 34, none⟩ = some (.int .i64 (ya7 ls ls.length : Nat)) ∧ g < W.heap.size) := qaa fun W hW => by
  obtain ⟨B2, _, h2⟩ := Hfar W hW
  exact ⟨h2.deep, h2.at.2⟩
 have Hstart : Hid (∀ W, Touch w W (fun k => k = gr) → ∀ j, 1 ≤ j → j ≤ ya7 ls ls.length → W.cell? ⟨g, 2 + j, none⟩ = some (.int .i64 (cst ls j : Int))) := qaa fun W hW j a1 a2 => by
  obtain ⟨B2, _, h2⟩ := Hfar W hW
  exact h2.start j a1 a2 (by omega)
 have Hrow : Hid (∀ W, Touch w W (fun k => k = gr) → ∀ j, j < 16 → ∃ A c, W.cell? ⟨g, 18 + j, none⟩ = some (.slice A (crow ls ls.length j).length c) ∧ (0 < (crow ls ls.length j).length → ∃ b off, A = some ⟨b, off, none⟩ ∧ b < W.heap.size ∧ ∀ k s : Nat, (crow ls ls.length j)[k]? = some s → W.cell? ⟨b, off + k, none⟩ = some (.int .i64 (s : Int)))) := qaa fun W hW j a1 => by
  obtain ⟨B2, hb2, h2⟩ := Hfar W hW
  obtain ⟨A, c, e1, e2⟩ := h2.row j a1
  refine ⟨A, c, e1, fun hn => ?_⟩
  obtain ⟨b, off, e3, hb, e4⟩ := e2 hn
  exact ⟨b, off, e3, qaZ hb hb2, e4⟩
 have HR := qaa hR
 have hPL : 8 * l.length - p ≤ 8796093022208 := by omega
 have Hget : Hid (∀ W (ga m : Nat), m + 1 ≤ 8 * l.length - p → RHold W ga l (p + m) → Calls prog 128 #[.pointer (some ⟨ga, 0, none⟩), .int .i64 1] W fun e w' => e = .returned (.tuple #[.int .i64 (num (((yaf l).drop (p + m)).take 1)), .int .i64 0]) ∧ RHold w' ga l (p + m + 1) ∧ Touch W w' (fun k => k = ga)) := qaa fun W ga m hm hH => get_yes l (p + m) 1 ga W hl (by omega) (by omega) hH
 have Hno := qaa fun W (ga : Nat) (hH : RHold W ga l (p + (8 * l.length - p))) => get_no l (p + (8 * l.length - p)) ga 1 4 W hl (by omega) hH (by
  unfold ybs
  rw [qag (by omega), qah (by rw [yar]; omega)]) (by omega)
 have Hmove := qaa fun W (wd : Nat) (hm : wd ≤ 8 * l.length - p) (hw : wd ≤ 15) (hH : RHold W gr l p) => get_yes l p wd gr W hl (by omega) (by omega) hH
 clear h hfar Hfar hBw h15 hca hD hlen hR hl hp hF hE hE2 hbin hRl hg3 hPos
 generalize ya7 ls ls.length = D at *
 generalize 8 * l.length - p = M at *
 have hDi : (1 : Int) ≤ (D : Int) ∧ (D : Int) ≤ 15 := by omega
 go_enter func89, ntmps89
 go_wp2_with (go_at_call 127; refine Hn.out.mono ?_; rintro e w1 ⟨rfl, rfl⟩)
 have HA0 : Hid (RHold (w.alloc (.cells #[.string ⟨l.toArray⟩, .int .i64 p] 174)) w.heap.size l (p + 0)) := qaa (Blk.new w _ _)
 have HB0 : Hid (Below w.heap.size w (w.alloc (.cells #[.string ⟨l.toArray⟩, .int .i64 p] 174))) := qaa ((qam _ _).alloc (qaf _) _)
 generalize w.alloc (.cells #[.string ⟨l.toArray⟩, .int .i64 p] 174) = wz at *
 go_loopw [7, 8, 9, 10, 11] (fun nx wx bx ex kx W => ∃ (m wd N : Nat), m + 1 = wd ∧ m ≤ D ∧ m ≤ M ∧ nx = .int .i64 N ∧ wx = .int .i64 wd ∧ Hid (num (((yaf l).drop p).take m) = N) ∧ Hid (cpos ls wd 0 ≤ v15 ((yaf l).drop p)) ∧ Hid (RHold W w.heap.size l (p + m)) ∧ Hid (Below w.heap.size w W)) (fun _ wx _ _ _ _ => D + 1 - (intOf wx).toNat)
 case atStart => exact ⟨0, 1, 0, by omega, by omega, by omega, rfl, rfl, qaa rfl, Hpos, HA0, HB0⟩
 case round =>
  obtain ⟨m, wd, N, hwd, hmD, hmM, rfl, rfl, HN, HV, HA, HB⟩ := hrel
  clear HA0 HB0 Hpos
  have hBW : Touch w wr (fun k => k = gr) := yai HB.out (qaf _)
  obtain ⟨x1, x2⟩ := Hdeep.out wr hBW
  have HBW := qaa hBW
  clear hBW
  by_cases hlt : wd ≤ D
  ·have hwi : (wd : Int) ≤ (D : Int) := by omega
   by_cases hend : m = M
   ·subst hend
    have Hf := qaa (Hshort.out wd (by omega) hlt hwd HV.out)
    have Hn2 := qaa (Hno.out wr w.heap.size HA.out)
    clear Hno Hget Hmove Hstart Hrow Hnum
    go_wp2_with (go_at_call 128; refine Hn2.out.mono ?_; rintro e w5 ⟨rfl, k5, rfl⟩)
    go_ret2
    rw [Hf.out]
    have hb2 : Below w.heap.size w (wr.drewN k5) := yay HB.out _
    exact ⟨rfl, Blk.below HR.out hb2 hgl, yai hb2 (qaf _)⟩
   ·have hm1 : m + 1 ≤ M := by omega
    have hwM : wd ≤ M := by omega
    have hw15 : wd ≤ 15 := by omega
    have hw16 : wd < 16 := by omega
    obtain ⟨b, hb1, hb2, hb3⟩ := Hnum.out m (by omega)
    have Hg := qaa fun hH => Hget.out wr w.heap.size m hm1 hH
    rw [hb2] at Hg
    have hN1 := Hbig.out m (by omega)
    have hL := Hle.out wd hlt hwM HV.out
    have hst := Hstl.out wd hw15
    have hcnt := Hcnt.out wd
    have hH := fun k s => Hhit.out wd k s (by omega) hlt hwM
    have hMs := Hmiss.out wd hlt hwM
    rw [HN.out, hwd] at hb3
    rw [hb3] at hL hH hMs
    rw [HN.out] at hN1
    obtain ⟨q, hq⟩ : ∃ q, 2 * N + b - cst ls wd = q := ⟨_, rfl⟩
    have Hst2 := qaa fun W2 hW2 => Hstart.out W2 hW2 wd (by omega) hlt
    have Hrow2 := qaa fun W2 hW2 => Hrow.out W2 hW2 wd hw16
    have Hh := qaa hH
    have Hm := qaa hMs
    have HN2 : Hid (num (((yaf l).drop p).take (m + 1)) = 2 * N + b) := qaa (by rw [hwd]; exact hb3)
    have Hmv := qaa fun W2 hH => Hmove.out W2 wd hwM hw15 hH
    clear Hget Hno Hmove Hstart Hrow Hnum Hshort Hhit Hmiss Hle hb2 hb3 hH hMs Hbig
    generalize num (((yaf l).drop p).take wd) = NW at *
    obtain ⟨C, hC⟩ : ∃ C, crow ls ls.length wd = C := ⟨_, rfl⟩
    rw [hC] at Hrow2 Hh Hm hcnt
    have hCC := qaa hC
    clear hC
    obtain ⟨cn, hcn⟩ : ∃ cn, C.length = cn := ⟨_, rfl⟩
    rw [hcn] at Hrow2 Hm hcnt
    have Hcn := qaa hcn
    clear hcn
    generalize cst ls wd = st at *
    have hk : 2 * (N : Int) + (b : Int) - (st : Int) = (q : Int) := by omega
    have hbi : (0 : Int) ≤ (b : Int) ∧ (b : Int) ≤ 1 ∧ (N : Int) < 32768 ∧ (st : Int) ≤ 32768 ∧ (cn : Int) ≤ 257 := by omega
    by_cases hqc : q < cn
    ·have hqi : (0 : Int) ≤ (q : Int) ∧ (q : Int) < (cn : Int) := by omega
     obtain ⟨sy, hsy⟩ : ∃ sy, C[q]? = some sy := ⟨_, qaj (by rw [Hcn.out]; exact hqc)⟩
     have Hf := qaa (Hh.out q sy (by omega) hsy)
     have Hrow3 : Hid (∀ W2, Touch w W2 (fun k => k = gr) → ∃ b off c, W2.cell? ⟨g, 18 + wd, none⟩ = some (.slice (some ⟨b, off, none⟩) cn c) ∧ W2.cell? ⟨b, off + q, none⟩ = some (.int .i64 (sy : Int))) := qaa fun W2 hW2 => by
      obtain ⟨A, c, e1, e2⟩ := Hrow2.out W2 hW2
      obtain ⟨b, off, rfl, _, e3⟩ := e2 (by omega)
      exact ⟨b, off, c, e1, e3 q sy hsy⟩
     clear Hrow2 hsy Hm Hh hq hL
     go_wp2_with (first
      | (go_at_call 128; (with_reducible refine (Hg.out HA.out).mono ?_); rintro e w5 ⟨rfl, hr5, ht5⟩; have Hb5 := qaa (cget_after HB.out ht5); clear hr5 ht5; have y1 := Hst2.out w5 (yai Hb5.out (qaf _)); obtain ⟨b5, o5, c5, y2, _⟩ := Hrow3.out w5 (yai Hb5.out (qaf _)); obtain ⟨y3, y4⟩ := Hdeep.out w5 (yai Hb5.out (qaf _)))
      | (go_at_call 128; (with_reducible refine (Hmv.out w5 (RHold.below HR.out Hb5.out hgl)).mono ?_); rintro e w6 ⟨rfl, hr6, ht6⟩; have Hr6 := qaa hr6; have Ht6 := qaa ht6; clear hr6 ht6; obtain ⟨b6, o6, c6, y5, y6⟩ := Hrow3.out w6 ((yai Hb5.out (qaf _)).trans Ht6.out); obtain ⟨y7, y8⟩ := Hdeep.out w6 ((yai Hb5.out (qaf _)).trans Ht6.out)))
     go_ret2
     rw [Hf.out]
     exact ⟨rfl, Hr6.out, (yai Hb5.out (qaf _)).trans Ht6.out⟩
    ·have hqi : ¬ (q : Int) < (cn : Int) := by omega
     have HV2 := qaa (Hm.out (by omega))
     have Hrow3 : Hid (∀ W2, Touch w W2 (fun k => k = gr) → ∃ A c, W2.cell? ⟨g, 18 + wd, none⟩ = some (.slice A cn c)) := qaa fun W2 hW2 => by
      obtain ⟨A, c, e1, _⟩ := Hrow2.out W2 hW2
      exact ⟨A, c, e1⟩
     clear Hrow2 Hm Hh hq hL
     go_wp2_with (go_at_call 128; (with_reducible refine (Hg.out HA.out).mono ?_); rintro e w5 ⟨rfl, hr5, ht5⟩; have Hb5 := qaa (cget_after HB.out ht5); have Ha5 := qaa hr5; clear hr5 ht5; have y1 := Hst2.out w5 (yai Hb5.out (qaf _)); obtain ⟨A5, c5, y2⟩ := Hrow3.out w5 (yai Hb5.out (qaf _)); obtain ⟨y3, y4⟩ := Hdeep.out w5 (yai Hb5.out (qaf _)))
     go_roundw
     case rel => exact ⟨m + 1, wd + 1, 2 * N + b, by omega, by omega, by omega, iv (by omega), iv (by omega), HN2, HV2, Ha5, Hb5⟩
     case measure => simp only [intOf]; omega
  ·obtain rfl : wd = D + 1 := by omega
   have hwi : ¬ ((D + 1 : Nat) : Int) ≤ (D : Int) := by omega
   have Hf := qaa (Hend.out (by omega) HV.out)
   go_wp2
   go_ret2
   rw [Hf.out]
   exact ⟨rfl, Blk.below HR.out HB.out hgl, yai HB.out (qaf _)⟩
end Go.Proofs.YtanjhbkbpalnaaaGreat
