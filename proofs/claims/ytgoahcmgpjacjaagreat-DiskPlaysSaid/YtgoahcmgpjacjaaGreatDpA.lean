/-
  Layer 20: a disk in memory: its box, two maps of names and of files' blocks, a row of function values that change a directory; made, ready, find, op.
-/
import Derived.Test.YtgoahcmgpjacjaaGreatDpM
import Derived.Test.YtgoahcmgpjacjaaGreatGa
import Derived.Maps.RangeWalk
import Derived.Shelf.SlMaps.Clone
namespace Go.Proofs.YtgoahcmgpjacjaaGreat
set_option linter.unusedSimpArgs false
set_option linter.unusedVariables false
open Go.ChangeShapes Go.WideShapes Go.ChangeAt Go.RowKit Go.Joins Go.Deep
theorem dlaw : Maps.Keyed Tryz.prog 9 := Maps.string_keyed Tryz.underlying9
theorem dkey (s : List UInt8) (hs : s.length ≤ maxLen) : keyOf Tryz.prog 9 (.string ⟨s.toArray⟩) = some (.string s) := by
  have := WideMaps.keyOf_string_mk (P := Tryz.prog) (k := 9) Tryz.underlying9 (s := ⟨s.toArray⟩) (by show s.toArray.size ≤ maxLen; simpa using hs)
  simpa using this
def cfv (fb : List Nat) (c : Chg) : Value :=
  if c.1 = [] then .func (.func 44) #[.agg #[.string ⟨c.2.1.toArray⟩, .pointer (some ⟨fbk fb c.2.2, 0, none⟩)]] #[]
  else if c.2.1 = [] then .func (.func 68) #[.agg #[.string ⟨c.1.toArray⟩]] #[]
  else .func (.func 67) #[.agg #[.string ⟨c.1.toArray⟩, .string ⟨c.2.1.toArray⟩]] #[]
def flv (f : Fl) : Array Value := #[.string ⟨f.1.toArray⟩, .string ⟨f.2.toArray⟩]
def dbx (D : Dk) (bn bs : Nat) (A : Option Addr) (c : Nat) (lf : Int) : Array Value := #[.int .i64 D.cap, .bool (!D.dead), .map (some bn), .map (some bs), .slice A D.chg.length c, .int .i64 D.ops, .int .i64 lf]
structure DMm (W : World) (g : Nat) (D : Dk) (fb : List Nat) (bn bs : Nat) (Mn Ms : DataW Unit) (A : Option Addr) (c : Nat) (lf : Int) : Prop where
  box : Blk W g 60 (dbx D bn bs A c lf)
  now : W.ownsMap Tryz.prog 9 ptE bn (Maps.size Mn) Mn
  syn : W.ownsMap Tryz.prog 9 ptE bs (Maps.size Ms) Ms
  row : W.ownsRow 0 87 1 (.slice A D.chg.length c) D.chg.length (D.chg.map (cfv fb))
  fln : fb.length = D.files.length
  fl : ∀ n : Int, 0 ≤ n → n < (fb.length : Int) → Blk W (fbk fb n) 78 (flv (D.file n))
  inj : ∀ n m : Int, 0 ≤ n → n < (fb.length : Int) → 0 ≤ m → m < (fb.length : Int) → fbk fb n = fbk fb m → n = m
  two : bn ≠ bs
  isn : DIs fb Mn D.dir
  iss : DIs fb Ms D.safe
  lf : (D.dead = false → lf = D.armed) ∧ 0 ≤ lf ∧ lf < 9223372036854775808
  gd : DGd D
def DSet (g : Nat) (fb : List Nat) (bn bs : Nat) (A : Option Addr) (k : Nat) : Prop := k = g ∨ k = bn ∨ k = bs ∨ (∃ n : Int, 0 ≤ n ∧ n < (fb.length : Int) ∧ k = fbk fb n) ∨ ∃ p : Addr, A = some p ∧ p.block = k
theorem owns_at {W : World} {e : TypeId} {A : Option Addr} {n m c k : Nat} {xs : List Value} (h : W.ownsRow 0 e 1 (.slice A m c) n xs) {p : Addr} (hA : A = some p) (hp : p.block = k) : (Value.slice A m c).ownBlock = some k ∧ k < W.heap.size := by
  subst hA
  have h1 : (Value.slice (some p) m c).ownBlock = some k := by
    rw [← hp]
    rfl
  exact ⟨h1, (h.lt k h1).2⟩
section
variable {W W' : World} {g : Nat} {D : Dk} {fb : List Nat} {bn bs : Nat} {Mn Ms : DataW Unit} {A : Option Addr} {c : Nat} {lf : Int}
theorem DMm.lt (h : DMm W g D fb bn bs Mn Ms A c lf) : ∀ k, DSet g fb bn bs A k → k < W.heap.size := fun k hk => by
  rcases hk with rfl | rfl | rfl | ⟨n, h1, h2, rfl⟩ | ⟨p, hA, hp⟩
  · exact h.box.lt
  · exact h.now.lt
  · exact h.syn.lt
  · exact (h.fl n h1 h2).lt
  · exact (owns_at h.row hA hp).2
theorem map_keep {b n : Nat} {M : DataW Unit} (h : W.ownsMap Tryz.prog 9 ptE b n M) (hk : W'.heap[b]? = W.heap[b]?) : W'.ownsMap Tryz.prog 9 ptE b n M := by
  obtain ⟨es, clock, hb, F, hs, hD⟩ := h
  exact ⟨es, clock, hk.trans hb, F, hs, hD⟩
theorem map_tight {b n : Nat} {M : DataW Unit} (h : W.ownsMap Tryz.prog 9 ptE b n M) : W.ownsMap Tryz.prog 9 ptE b (Maps.size M) M := by
  obtain ⟨es, clock, hb, F, hs, rfl⟩ := h
  exact ⟨es, clock, hb, F, by simp [Maps.size, length_sorted], rfl⟩
theorem own_keep {e : TypeId} {n : Nat} {v : Value} {xs : List Value} (h : W.ownsRow 0 e 1 v n xs) (hk : ∀ k, v.ownBlock = some k → W'.heap[k]? = W.heap[k]?) : W'.ownsRow 0 e 1 v n xs := by
  refine ⟨h.1, ?_⟩
  rcases h.2 with h0 | ⟨g, cap, cur, rfl, hb, hg, rest⟩
  · exact .inl h0
  · exact .inr ⟨g, cap, cur, rfl, hb, (hk g rfl).trans hg, rest⟩
theorem own_set {A : Option Addr} {m c k : Nat} (h : (Value.slice A m c).ownBlock = some k) : ∃ p : Addr, A = some p ∧ p.block = k := by
  cases A with
  | none => cases h
  | some a =>
    injection h with h
    exact ⟨a, rfl, h⟩
theorem DMm.keep (h : DMm W g D fb bn bs Mn Ms A c lf) (hk : ∀ k, DSet g fb bn bs A k → W'.heap[k]? = W.heap[k]?) : DMm W' g D fb bn bs Mn Ms A c lf :=
  ⟨(hk g (.inl rfl)).trans h.box, map_keep h.now (hk bn (.inr (.inl rfl))), map_keep h.syn (hk bs (.inr (.inr (.inl rfl)))), own_keep h.row (fun k hk' => hk k (.inr (.inr (.inr (.inr (own_set hk')))))),
    h.fln, fun n h1 h2 => (hk _ (.inr (.inr (.inr (.inl ⟨n, h1, h2, rfl⟩))))).trans (h.fl n h1 h2), h.inj, h.two, h.isn, h.iss, h.lf, h.gd⟩
theorem DMm.on (h : DMm W g D fb bn bs Mn Ms A c lf) (hb : Below W.heap.size W W') : DMm W' g D fb bn bs Mn Ms A c lf := h.keep fun k hk => hb.block k (h.lt k hk)
end
def DR (W : World) (S : Nat → Prop) (g : Nat) (D : Dk) : Prop :=
  (∃ fb bn bs Mn Ms A c lf, DMm W g D fb bn bs Mn Ms A c lf ∧ ∀ k, DSet g fb bn bs A k → S k) ∧ ∀ k, S k → k < W.heap.size
theorem DR.lt {W : World} {S : Nat → Prop} {g : Nat} {D : Dk} (h : DR W S g D) : ∀ k, S k → k < W.heap.size := h.2
theorem DR.keep {W W' : World} {S : Nat → Prop} {g : Nat} {D : Dk} (h : DR W S g D) (hk : ∀ k, S k → W'.heap[k]? = W.heap[k]?) : DR W' S g D := by
  obtain ⟨⟨fb, bn, bs, Mn, Ms, A, c, lf, h1, h2⟩, h3⟩ := h
  refine ⟨⟨fb, bn, bs, Mn, Ms, A, c, lf, h1.keep fun k hk' => hk k (h2 k hk'), h2⟩, fun k hk' => ?_⟩
  rcases Nat.lt_or_ge k W'.heap.size with hlt | hge
  · exact hlt
  · have h4 := hk k hk'
    rw [Array.getElem?_eq_none hge, Array.getElem?_eq_getElem (h3 k hk')] at h4
    cases h4
def DOp (w w' : World) (S : Nat → Prop) (g : Nat) (D : Dk) : Prop := Touch w w' S ∧ ∃ S', DR w' S' g D ∧ ∀ k, S' k → S k ∨ w.heap.size ≤ k
def DTo (w w' : World) (S : Nat → Prop) (g : Nat) (E : Dk) : Prop :=
  Touch w w' S ∧ ∃ fb bn bs Mn Ms A c lf, DMm w' g E fb bn bs Mn Ms A c lf ∧ ∀ k, DSet g fb bn bs A k → S k ∨ w.heap.size ≤ k
theorem DTo.op {w w' : World} {S : Nat → Prop} {g : Nat} {E : Dk} (h : DTo w w' S g E) (hS : ∀ k, S k → k < w.heap.size) : DOp w w' S g E := by
  obtain ⟨h1, fb, bn, bs, Mn, Ms, A, c, lf, h2, h3⟩ := h
  refine ⟨h1, fun k => S k ∨ (w.heap.size ≤ k ∧ k < w'.heap.size), ⟨⟨fb, bn, bs, Mn, Ms, A, c, lf, h2, fun k hk => ?_⟩, fun k hk => ?_⟩, fun k hk => ?_⟩
  · rcases h3 k hk with h4 | h4
    · exact .inl h4
    · exact .inr ⟨h4, h2.lt k hk⟩
  · rcases hk with h4 | h4
    · exact Nat.lt_of_lt_of_le (hS k h4) h1.size
    · exact h4.2
  · exact hk.imp id fun h => h.1
section
variable {W W' : World} {g : Nat} {D : Dk} {fb : List Nat} {bn bs : Nat} {Mn Ms : DataW Unit} {A : Option Addr} {c : Nat} {lf : Int}
def fpt (fb : List Nat) (n : Int) : Value := if 0 ≤ n then .pointer (some ⟨fbk fb n, 0, none⟩) else .pointer none
theorem map_look {b n : Nat} {M : DataW Unit} {l : List Ent} (h : W.ownsMap Tryz.prog 9 ptE b n M) (hi : DIs fb M l) (s : List UInt8) (hs : s.length ≤ maxLen) :
    (Instr.lookup 57 (.map (some b)) (.string ⟨s.toArray⟩) false).run Tryz.prog W = .ok (fpt fb (dfindL s l)) W := by
  obtain ⟨v, ps, h1, h2⟩ := h.lookup dlaw Tryz.underlying57 (z := .pointer none) (by kernel_rfl) ptE_nil (dkey s hs)
  rw [h1]
  rw [hi s nv] at h2
  unfold fpt
  by_cases h3 : 0 ≤ dfindL s l
  · rw [if_pos h3] at h2 ⊢
    rw [ptE_at h2]
  · rw [if_neg h3] at h2 ⊢
    rw [ptE_no h2]
end
theorem run_neq_map_nil (w : World) (p : Option Nat) : (binOp .neq 57 (.map p) (.map none)).run Tryz.prog w = .ok (.bool !p.isNone) w := by
  simp only [binOp]
  simp [show Op.equal 57 (.map p) (.map none) = Op.equalIn (9999 + 1) 57 (.map p) (.map none) from rfl, run_equalIn_map_nil_sl w 9999 57 _ _ p Tryz.underlying57]
section
variable {D : Dk} {fb : List Nat} {bn bs : Nat} {Mn Ms : DataW Unit} {A : Option Addr} {c g : Nat} {lf : Int} (w : World) (h : DMm w g D fb bn bs Mn Ms A c lf)
include h
set_option maxRecDepth 100000 in
set_option maxHeartbeats 2000000 in
theorem p_dmade : Calls Tryz.prog 51 #[.pointer (some ⟨g, 0, none⟩)] w fun e w' => e = .returned (.bool true) ∧ w' = w := by
  have x2 := h.box.cell 2
  have hq := fun W => run_neq_map_nil W (some bn)
  unfold dbx at x2
  simp only [List.getElem?_toArray, List.getElem?_cons_zero, List.getElem?_cons_succ] at x2
  clear h
  go_enter Tryz.func51, Tryz.ntmps51
  go_wp2
  go_ret
  exact ⟨rfl, rfl⟩
set_option maxRecDepth 100000 in
set_option maxHeartbeats 2000000 in
theorem p_dready : Calls Tryz.prog 41 #[.pointer (some ⟨g, 0, none⟩)] w fun e w' => e = .returned (.int .i64 (if D.dead = true then 200 else 0)) ∧ w' = w := by
  have P := Lib.hid (p_dmade w h)
  have x1 := h.box.cell 1
  unfold dbx at x1
  simp only [List.getElem?_toArray, List.getElem?_cons_zero, List.getElem?_cons_succ] at x1
  clear h
  cases hd : D.dead with
  | true =>
    rw [hd] at x1
    simp only [Bool.not_true] at x1
    rw [if_pos rfl]
    go_enter Tryz.func41, Tryz.ntmps41
    go_wp2_with (go_at_call 51; (with_reducible refine P.out.mono ?_); rintro e w1 ⟨rfl, rfl⟩)
    go_ret
    exact ⟨rfl, rfl⟩
  | false =>
    rw [hd] at x1
    simp only [Bool.not_false] at x1
    rw [if_neg (by decide)]
    go_enter Tryz.func41, Tryz.ntmps41
    go_wp2_with (go_at_call 51; (with_reducible refine P.out.mono ?_); rintro e w1 ⟨rfl, rfl⟩)
    go_ret
    exact ⟨rfl, rfl⟩
set_option maxRecDepth 100000 in
set_option maxHeartbeats 2000000 in
theorem p_dfind (s : List UInt8) (hs : s.length ≤ 1000000) : Calls Tryz.prog 45 #[.pointer (some ⟨g, 0, none⟩), .string ⟨s.toArray⟩] w fun e w' => e = .returned (.tuple #[if D.shut s = 0 then .pointer (some ⟨fbk fb (D.find s), 0, none⟩) else .pointer none, .int .i64 (D.shut s)]) ∧ w' = w := by
  have P := Lib.hid (p_dready w h)
  have x2 := h.box.cell 2
  unfold dbx at x2
  simp only [List.getElem?_toArray, List.getElem?_cons_zero, List.getElem?_cons_succ] at x2
  have hl := map_look h.now h.isn s (by unfold maxLen; omega)
  clear h hs
  unfold fpt at hl
  unfold Dk.shut Dk.find
  generalize dfindL s D.dir = n at *
  cases hd : D.dead with
  | true =>
    rw [hd, if_pos rfl] at P
    rw [show (if (true : Bool) = true then (200 : Int) else if n < 0 then 201 else 0) = 200 from rfl, if_neg (by decide)]
    clear hl
    go_enter Tryz.func45, Tryz.ntmps45
    go_wp2_with (go_at_call 41; (with_reducible refine P.out.mono ?_); rintro e w1 ⟨rfl, rfl⟩)
    refine bodyPost_ret (v := .tuple #[.pointer none, .int .i64 200]) (by simp [results, Tryz.results45, go_sem]) rfl ⟨rfl, rfl⟩
  | false =>
    rw [hd, if_neg (by decide)] at P
    rw [show (if (false : Bool) = true then (200 : Int) else if n < 0 then 201 else 0) = if n < 0 then 201 else 0 from rfl]
    by_cases hn : n < 0
    · rw [if_neg (by omega)] at hl
      rw [if_pos hn, if_neg (by decide)]
      go_enter Tryz.func45, Tryz.ntmps45
      go_wp2_with (go_at_call 41; (with_reducible refine P.out.mono ?_); rintro e w1 ⟨rfl, rfl⟩)
      refine bodyPost_ret (v := .tuple #[.pointer none, .int .i64 201]) (by simp [results, Tryz.results45, go_sem]) rfl ⟨rfl, rfl⟩
    · rw [if_pos (by omega)] at hl
      rw [if_neg hn, if_pos rfl]
      go_enter Tryz.func45, Tryz.ntmps45
      go_wp2_with (go_at_call 41; (with_reducible refine P.out.mono ?_); rintro e w1 ⟨rfl, rfl⟩)
      refine bodyPost_ret (v := .tuple #[.pointer (some ⟨fbk fb n, 0, none⟩), .int .i64 0]) (by simp [results, Tryz.results45, go_sem]) rfl ⟨rfl, rfl⟩
end
end Go.Proofs.YtgoahcmgpjacjaaGreat
