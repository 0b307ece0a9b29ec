/-
  What the law of the last of these texts stands on, part 31.
-/
import Derived.Test.YtpocpckhcciecaaRows
import Derived.Test.YtpocpckhcciecaaMg01
import Derived.Test.YtpocpckhcciecaaMg02
import Derived.Test.YtpocpckhcciecaaMg03
import Derived.Test.YtpocpckhcciecaaMg04
import Derived.Test.YtpocpckhcciecaaMg05
import Derived.Test.YtpocpckhcciecaaMg06
import Derived.Test.YtpocpckhcciecaaMg07
import Derived.Test.YtpocpckhcciecaaMg08
import Derived.Test.YtpocpckhcciecaaMg09
import Derived.Test.YtpocpckhcciecaaMg10
import Derived.Test.YtpocpckhcciecaaMg23
import Derived.Test.YtpocpckhcciecaaMg24
import Derived.Test.YtpocpckhcciecaaMg25
import Derived.Test.YtpocpckhcciecaaMg26
import Derived.Test.YtpocpckhcciecaaMg27
import Derived.Test.YtpocpckhcciecaaMg28
import Derived.Test.YtpocpckhcciecaaMg29
import Derived.Test.YtpocpckhcciecaaMg30
import Derived.WalkKit
import Derived.WalkSpells
import Derived.WalkLawsBesides
import Derived.ProofKit
import Derived.OpenShut
import Derived.Handy
import Derived.SizedLaws
import Derived.JoinedOf
import Derived.KernelRfl
import Derived.Lib.Hide
import Derived.Lib.SmallJoins
import Derived.Deep.Slices
import Derived.Deep.Fields
import Derived.Deep.SlicePairs
import Derived.Deep.Draws
import Derived.Deep.AppendLies
import Derived.Deep.QuietTactic
import Derived.BigQuiet
import Derived.Deep.RegionHeld3
import Derived.StillTailTactics
import Derived.Laws.OwnMore
import Derived.Laws.Rows
import Derived.Below
import Derived.Carry
import Derived.WalkMore
import Derived.Laws.BytesString
import Derived.Laws.BitsLemmas
import Derived.Laws.Concat
import Derived.Shelf.Spec.SlicesGrow
import Derived.Lib.OwnBridge
import Derived.Shelf.SlSorted.Search
import Derived.Deep.RegionWith
import Derived.Deep.Upon
import Derived.Sort.WalkB2
import Derived.Sort.WalkB12
import Derived.Deep.LoopGhost
import Derived.Shelf.SlSortCmp.KitK
import Derived.Deep.RegionLaw
import Derived.Deep.OwnRows
namespace Go.Proofs.Ytpocpckhcciecaa
set_option linter.unusedSimpArgs false
set_option linter.unusedVariables false
open Go.ChangeShapes Go.WideShapes Go.ChangeAt Go.RowKit Go.Joins Go.Deep Go.Shelf
def renum : Nat → List PEl → List PEl
  | _, [] => []
  | k, x :: t => { x with no := k } :: renum (k + 1) t
theorem renum_cells : ∀ (E : List PEl) (k : Nat), pcells (renum k E) = pcells E
  | [], _ => rfl
  | x :: t, k => by
    show pcells ({ x with no := k } :: renum (k + 1) t) = _
    rw [pcells_cons, pcells_cons, renum_cells t (k + 1)]
theorem renum_len : ∀ (E : List PEl) (k : Nat), (renum k E).length = E.length
  | [], _ => rfl
  | x :: t, k => by show (renum (k + 1) t).length + 1 = t.length + 1; rw [renum_len t (k + 1)]
theorem renum_th : ∀ (E : List PEl) (k : Nat), pth (renum k E) = pth E
  | [], _ => rfl
  | x :: t, k => by
    show x.th :: pth (renum (k + 1) t) = x.th :: pth t
    rw [renum_th t (k + 1)]
theorem renum_mem : ∀ (E : List PEl) (k : Nat), ∀ y ∈ renum k E, k ≤ y.no ∧ ∃ x ∈ E, y.th = x.th ∧ y.A = x.A ∧ y.c = x.c
  | [], _, y, h => by cases h
  | x :: t, k, y, h => by
    rcases List.mem_cons.1 h with rfl | h
    · exact ⟨Nat.le_refl _, x, by simp, rfl, rfl, rfl⟩
    · obtain ⟨h1, z, h2, h3⟩ := renum_mem t (k + 1) y h
      exact ⟨by omega, z, List.mem_cons_of_mem _ h2, h3⟩
theorem renum_no : ∀ (E : List PEl) (k : Nat), (renum k E).Pairwise (fun x y => x.no < y.no)
  | [], _ => List.Pairwise.nil
  | x :: t, k => List.pairwise_cons.2 ⟨fun y hy => by have := (renum_mem t (k + 1) y hy).1; show k < y.no; omega, renum_no t (k + 1)⟩
theorem renum_app : ∀ (E E2 : List PEl) (k : Nat), renum k (E ++ E2) = renum k E ++ renum (k + E.length) E2
  | [], E2, k => by simp [renum]
  | x :: t, E2, k => by
    show { x with no := k } :: renum (k + 1) (t ++ E2) = { x with no := k } :: (renum (k + 1) t ++ _)
    rw [renum_app t E2 (k + 1), show k + 1 + t.length = k + (x :: t).length from by simp; omega]
theorem pw_of_no {P : PEl → PEl → Prop} {E : List PEl} (h : E.Pairwise P) (hn : E.Pairwise (fun x y => x.no < y.no)) {x y : PEl} (hx : x ∈ E) (hy : y ∈ E) (k : x.no < y.no) : P x y := by
  obtain ⟨i, hi, rfl⟩ := List.getElem_of_mem hx
  obtain ⟨j, hj, rfl⟩ := List.getElem_of_mem hy
  rcases Nat.lt_trichotomy i j with e | e | e
  · exact List.pairwise_iff_getElem.1 h i j hi hj e
  · subst e; omega
  · have := List.pairwise_iff_getElem.1 hn j i hj hi e
    omega
theorem pw_pth {P : LTh → LTh → Prop} (E : List PEl) : (pth E).Pairwise P ↔ E.Pairwise (fun x y => P x.th y.th) := by unfold pth; rw [List.pairwise_map]
/-- A row is told by its leaves and its packages. -/
theorem lrow_unique : ∀ {l p R R' : List LTh}, LRow l p R → LRow l p R' → R = R'
  | l, p, [], R', h, k => by
    have h1 := h.lv
    have h2 := h.pk
    simp only [List.filter_nil] at h1 h2
    cases R' with
    | nil => rfl
    | cons y t =>
      have k1 := k.lv
      have k2 := k.pk
      rw [← h1] at k1
      rw [← h2] at k2
      cases hy : y.leaf with
      | true => rw [List.filter_cons, if_pos (by simpa using hy)] at k1; cases k1
      | false => rw [List.filter_cons, if_pos (by simp [hy])] at k2; cases k2
  | l, p, x :: t, [], h, k => by
    have h1 := k.lv
    have h2 := k.pk
    simp only [List.filter_nil] at h1 h2
    have k1 := h.lv
    have k2 := h.pk
    rw [← h1] at k1
    rw [← h2] at k2
    cases hy : x.leaf with
    | true => rw [List.filter_cons, if_pos (by simpa using hy)] at k1; cases k1
    | false => rw [List.filter_cons, if_pos (by simp [hy])] at k2; cases k2
  | l, p, x :: t, y :: u, h, k => by
    obtain ⟨o1, o2⟩ := List.pairwise_cons.1 h.order
    obtain ⟨q1, q2⟩ := List.pairwise_cons.1 k.order
    have h1 := h.lv; have h2 := h.pk; have k1 := k.lv; have k2 := k.pk
    cases hx : x.leaf with
    | true =>
      rw [List.filter_cons, if_pos (by simpa using hx)] at h1
      rw [List.filter_cons, if_neg (by simp [hx])] at h2
      cases hy : y.leaf with
      | true =>
        rw [List.filter_cons, if_pos (by simpa using hy)] at k1
        rw [List.filter_cons, if_neg (by simp [hy])] at k2
        rw [← h1] at k1
        injection k1 with e1 e2
        rw [e1, lrow_unique (l := t.filter (fun x => x.leaf)) (p := p) ⟨o2, rfl, h2⟩ ⟨q2, e2, k2⟩]
      | false =>
        exfalso
        rw [List.filter_cons, if_neg (by simp [hy])] at k1
        rw [List.filter_cons, if_pos (by simp [hy])] at k2
        have hyt : y ∈ t := by
          have : y ∈ t.filter (fun x => !x.leaf) := by rw [h2, ← k2]; simp
          exact (List.mem_filter.1 this).1
        have hxu : x ∈ u := by
          have : x ∈ u.filter (fun x => x.leaf) := by rw [k1, ← h1]; simp
          exact (List.mem_filter.1 this).1
        have a1 := (lle_iff _ _).1 (o1 y hyt)
        have a2 := (lle_iff _ _).1 (q1 x hxu)
        rw [hx, hy] at a2
        simp at a2
        omega
    | false =>
      rw [List.filter_cons, if_neg (by simp [hx])] at h1
      rw [List.filter_cons, if_pos (by simp [hx])] at h2
      cases hy : y.leaf with
      | false =>
        rw [List.filter_cons, if_neg (by simp [hy])] at k1
        rw [List.filter_cons, if_pos (by simp [hy])] at k2
        rw [← h2] at k2
        injection k2 with e1 e2
        rw [e1, lrow_unique (l := l) (p := t.filter (fun x => !x.leaf)) ⟨o2, h1, rfl⟩ ⟨q2, k1, e2⟩]
      | true =>
        exfalso
        rw [List.filter_cons, if_pos (by simpa using hy)] at k1
        rw [List.filter_cons, if_neg (by simp [hy])] at k2
        have hyt : y ∈ t := by
          have : y ∈ t.filter (fun x => x.leaf) := by rw [h1, ← k1]; simp
          exact (List.mem_filter.1 this).1
        have hxu : x ∈ u := by
          have : x ∈ u.filter (fun x => !x.leaf) := by rw [k2, ← h2]; simp
          exact (List.mem_filter.1 this).1
        have a1 := (lle_iff _ _).1 (o1 y hyt)
        have a2 := (lle_iff _ _).1 (q1 x hxu)
        rw [hx, hy] at a1
        simp at a1
        omega
theorem sord_w {x y : PEl} (h : sord (ltOf pcf) (·.no) x y) : x.th.w < y.th.w ∨ (x.th.w = y.th.w ∧ x.no < y.no) := by
  rcases h with h | ⟨h1, h2⟩
  · rw [pcf_lt] at h
    exact Or.inl (by simpa using h)
  · rw [pcf_lt] at h1
    simp only [decide_eq_false_iff_not] at h1
    rcases Int.lt_or_eq_of_le (Int.not_lt.1 h1) with e | e
    · exact Or.inl e
    · exact Or.inr ⟨e, h2⟩
theorem w_sord {x y : PEl} (h : x.th.w ≤ y.th.w) (hn : x.no < y.no) : sord (ltOf pcf) (·.no) x y := Or.inr ⟨by rw [pcf_lt]; simp; omega, hn⟩
/-- Leaves and packages, sorted: the next row. -/
theorem prow_next (leaves R : List LTh) (E1 E2 Z : List PEl) (hl : LLeaves leaves) (hr : R.Pairwise (fun a b => a.w ≤ b.w)) (h1 : pth E1 = leaves) (h2 : pth E2 = lpacks R) (hp : Z.Perm (renum 0 (E1 ++ E2))) (ho : Z.Pairwise (sord (ltOf pcf) (·.no))) : pth Z = lnext R leaves := by
  have hno := renum_no (E1 ++ E2) 0
  refine lrow_unique (l := leaves) (p := lpacks R) ?_ (lnext_row hl hr)
  rw [renum_app] at hp hno
  have hn1 := renum_th E1 0
  have hn2 := renum_th E2 (0 + E1.length)
  rw [h1] at hn1
  rw [h2] at hn2
  generalize renum 0 E1 = F1 at *
  generalize renum (0 + E1.length) E2 = F2 at *
  have f1 : ∀ x ∈ F1, x.th.leaf = true := fun x hx => hl.all _ (by rw [← hn1]; exact List.mem_map.2 ⟨x, hx, rfl⟩)
  have f2 : ∀ x ∈ F2, x.th.leaf = false := fun x hx => lpacks_leaf R _ (by rw [← hn2]; exact List.mem_map.2 ⟨x, hx, rfl⟩)
  have hlf : (F1 ++ F2).Pairwise (fun x y => x.th.leaf = true ∨ y.th.leaf = false) := by
    rw [List.pairwise_append]
    refine ⟨?_, ?_, fun x hx y hy => Or.inl (f1 x hx)⟩
    · exact List.Pairwise.imp_of_mem (fun hx _ _ => Or.inl (f1 _ hx)) (List.pairwise_append.1 hno).1
    · exact List.Pairwise.imp_of_mem (fun _ hy _ => Or.inr (f2 _ hy)) (List.pairwise_append.1 hno).2.1
  have hsortF : ∀ F : List PEl, F.Pairwise (fun x y => x.no < y.no) → (pth F).Pairwise (fun a b => a.w ≤ b.w) → F.Pairwise (sord (ltOf pcf) (·.no)) := fun F k1 k2 => by
    rw [pw_pth] at k2
    exact (k1.and k2).imp fun h => w_sord h.2 h.1
  refine ⟨?_, ?_, ?_⟩
  · rw [pw_pth]
    refine List.Pairwise.imp_of_mem (fun {x y} hx hy hs => ?_) ho
    rw [lle_iff]
    rcases sord_w hs with e | ⟨e, e2⟩
    · exact Or.inl e
    · exact Or.inr ⟨e, pw_of_no hlf hno (hp.subset hx) (hp.subset hy) e2⟩
  · have e1 : (pth Z).filter (fun x => x.leaf) = pth (Z.filter (fun x => x.th.leaf)) := by unfold pth; rw [List.filter_map]; rfl
    have e2 : (F1 ++ F2).filter (fun x => x.th.leaf) = F1 := by
      rw [List.filter_append, List.filter_eq_self.2 (fun x hx => by simpa using f1 x hx), List.filter_eq_nil_iff.2 (fun x hx => by simp [f2 x hx]), List.append_nil]
    have hpf := hp.filter (fun x => x.th.leaf)
    rw [e2] at hpf
    rw [e1, sorted_unique (fun x y => sord_asymm pcf_swo) hpf (ho.filter _) (hsortF F1 (List.pairwise_append.1 hno).1 (by rw [hn1]; exact hl.order)), hn1]
  · have e1 : (pth Z).filter (fun x => !x.leaf) = pth (Z.filter (fun x => !x.th.leaf)) := by unfold pth; rw [List.filter_map]; rfl
    have e2 : (F1 ++ F2).filter (fun x => !x.th.leaf) = F2 := by
      rw [List.filter_append, List.filter_eq_nil_iff.2 (fun x hx => by simp [f1 x hx]), List.filter_eq_self.2 (fun x hx => by simp [f2 x hx]), List.nil_append]
    have hpf := hp.filter (fun x => !x.th.leaf)
    rw [e2] at hpf
    rw [e1, sorted_unique (fun x y => sord_asymm pcf_swo) hpf (ho.filter _) (hsortF F2 (List.pairwise_append.1 hno).2.1 (by rw [hn2]; exact lorder_w (lpacks_order R hr))), hn2]
def fkey (x : LTh) : Nat := x.syms.headD 0
def ordF (a b : LTh) : Prop := a.w < b.w ∨ (a.w = b.w ∧ fkey a < fkey b)
theorem lput_perm (x : LTh) (R : List LTh) : (lput R x).Perm (R ++ [x]) := by
  obtain ⟨r1, r2, h1, h2, _, _⟩ := lput_split x R
  rw [h2, h1, List.append_assoc]
  exact List.Perm.append_left r1 (List.perm_append_comm (l₁ := [x]))
theorem lfirst_perm : ∀ (l : List Int) (i : Nat) (out : List LTh), (lfirst i l out).Perm (out ++ plv i l)
  | [], i, out => by simp [lfirst, plv]
  | c :: t, i, out => by
    by_cases h : 0 < c
    · rw [lfirst_yes _ _ _ _ h, plv_yes _ _ _ h]
      refine (lfirst_perm t (i + 1) _).trans ?_
      refine (List.Perm.append_right _ (lput_perm _ _)).trans ?_
      simp
    · rw [lfirst_no _ _ _ _ h, plv_no _ _ _ h]
      exact lfirst_perm t (i + 1) out
theorem lfirst_key : ∀ (l : List Int) (i : Nat) (out : List LTh), out.Pairwise ordF → (∀ x ∈ out, x.leaf = true ∧ fkey x < i) → (lfirst i l out).Pairwise ordF
  | [], i, out, h, _ => h
  | c :: t, i, out, h, hk => by
    by_cases h0 : 0 < c
    · rw [lfirst_yes _ _ _ _ h0]
      obtain ⟨r1, r2, h1, h2, h3, h4⟩ := lput_split ⟨c, [i], true⟩ out
      refine lfirst_key t (i + 1) _ ?_ fun x hx => ?_
      · rw [h2]
        rw [h1] at h
        obtain ⟨o1, o2, o3⟩ := List.pairwise_append.1 h
        have hr2 : ∀ z ∈ r2, c < z.w := by
          intro z hz
          cases hr : r2 with
          | nil => rw [hr] at hz; cases hz
          | cons y u =>
            have hy := h4 y u hr
            have hyl := (hk y (by rw [h1, hr]; simp)).1
            have hyw : c < y.w := by
              have hn : ¬ lle y ⟨c, [i], true⟩ = true := by rw [hy]; decide
              rw [lle_iff] at hn
              rcases Int.lt_or_le c y.w with e | e
              · exact e
              · exfalso
                apply hn
                rcases Int.lt_or_eq_of_le e with e | e
                · exact Or.inl e
                · exact Or.inr ⟨e, Or.inl hyl⟩
            rw [hr] at hz o2
            rcases List.mem_cons.1 hz with rfl | hz
            · exact hyw
            · rcases (List.pairwise_cons.1 o2).1 z hz with e | ⟨e, _⟩ <;> omega
        rw [List.pairwise_append]
        refine ⟨o1, List.pairwise_cons.2 ⟨fun z hz => Or.inl (hr2 z hz), o2⟩, ?_⟩
        intro a ha b hb
        rcases List.mem_cons.1 hb with rfl | hb
        · have hle := lle_w (h3 a ha)
          have hka := (hk a (by rw [h1]; simp [ha])).2
          rcases Int.lt_or_eq_of_le hle with e | e
          · exact Or.inl e
          · exact Or.inr ⟨e, hka⟩
        · exact o3 a ha b hb
      · rcases (lput_mem _ _ _).1 hx with rfl | hx
        · exact ⟨rfl, by show i < i + 1; omega⟩
        · have := hk x hx; exact ⟨this.1, by omega⟩
    · rw [lfirst_no _ _ _ _ h0]
      exact lfirst_key t (i + 1) out h fun x hx => ⟨(hk x hx).1, by have := (hk x hx).2; omega⟩
theorem plv_key : ∀ (l : List Int) (i : Nat), (plv i l).Pairwise (fun a b => fkey a < fkey b) ∧ ∀ x ∈ plv i l, i ≤ fkey x
  | [], i => ⟨List.Pairwise.nil, fun x h => by cases h⟩
  | c :: t, i => by
    obtain ⟨h1, h2⟩ := plv_key t (i + 1)
    by_cases h : 0 < c
    · rw [plv_yes _ _ _ h]
      refine ⟨List.pairwise_cons.2 ⟨fun y hy => by have := h2 y hy; show i < fkey y; omega, h1⟩, fun x hx => ?_⟩
      rcases List.mem_cons.1 hx with rfl | hx
      · exact Nat.le_refl _
      · have := h2 x hx; omega
    · rw [plv_no _ _ _ h]
      exact ⟨h1, fun x hx => by have := h2 x hx; omega⟩
theorem first_row (counts : List Int) (E Z : List PEl) (h1 : pth E = plv 0 counts) (hp : Z.Perm (renum 0 E)) (ho : Z.Pairwise (sord (ltOf pcf) (·.no))) : pth Z = lleaves counts := by
  have hno := renum_no E 0
  have hth := renum_th E 0
  rw [h1] at hth
  generalize renum 0 E = F at *
  have hk : F.Pairwise (fun x y => fkey x.th < fkey y.th) := by
    have := (plv_key counts 0).1
    rw [← hth, pw_pth] at this
    exact this
  have p1 : (pth Z).Perm (lleaves counts) := by
    have h := lfirst_perm counts 0 []
    rw [List.nil_append, ← hth] at h
    exact (hp.map _).trans h.symm
  refine sorted_unique (r := ordF) ?_ p1 ?_ (lfirst_key counts 0 [] List.Pairwise.nil fun x hx => by cases hx)
  · intro x y h k
    rcases h with h | ⟨h, h2⟩ <;> rcases k with k | ⟨k, k2⟩ <;> omega
  · rw [pw_pth]
    refine List.Pairwise.imp_of_mem (fun {x y} hx hy hs => ?_) ho
    rcases sord_w hs with e | ⟨e, e2⟩
    · exact Or.inl e
    · exact Or.inr ⟨e, pw_of_no hk hno (hp.subset hx) (hp.subset hy) e2⟩
end Go.Proofs.Ytpocpckhcciecaa
namespace Go.Proofs.Ytpocpckhcciecaa
set_option linter.unusedSimpArgs false
set_option linter.unusedVariables false
open Go.ChangeShapes Go.WideShapes Go.ChangeAt Go.RowKit Go.Joins Go.Deep Go.Shelf
structure RSrc where
  A : Option Addr
  n : Nat
  c : Nat
  E : List PEl
def rsrc (s : RSrc) : CSrc := ⟨s.A, s.n, s.c, pcells s.E⟩
def rall (l : List RSrc) : List PEl := (l.map (·.E)).flatten
theorem rsum_all : ∀ (l : List RSrc), (∀ s ∈ l, s.E.length = s.n) → CSum (l.map rsrc) = (rall l).length
  | [], _ => rfl
  | s :: t, h => by
    have h1 := rsum_all t fun x hx => h x (List.mem_cons_of_mem _ hx)
    have h2 := h s (by simp)
    show s.n + CSum (t.map rsrc) = (s.E ++ rall t).length
    rw [List.length_append, h1, h2]
theorem rall_cells : ∀ (l : List RSrc), CAll (l.map rsrc) = pcells (rall l)
  | [] => rfl
  | s :: t => by
    show pcells s.E ++ CAll (t.map rsrc) = pcells (s.E ++ rall t)
    rw [pcells_app, rall_cells t]
set_option maxRecDepth 100000 in
set_option maxHeartbeats 8000000 in
/-- A row of lists by their weights. -/
theorem row_any (ok : Nat → Prop) (l : List RSrc) (AL : Option Addr) (K c : Nat) (w : World) (hK : l.length = K) (hKb : K ≤ 1000) (hrow : CRow w AL (l.map rsrc)) (hokn : ∀ b, w.heap.size ≤ b → ok b) (hsrc : ∀ s ∈ l, PRow ok w w.heap.size s.A s.n s.E) (hn : (rall l).length ≤ 100000) :
    Calls Try.prog 36 #[.slice AL K c] w fun e w' => ∃ (Z : List PEl) (A' : Option Addr) (c' : Nat), e = .returned (.slice A' Z.length c') ∧ Z.length ≤ c' ∧ Z.Perm (renum 0 (rall l)) ∧ Z.Pairwise (sord (ltOf pcf) (·.no)) ∧ PRow ok w' w'.heap.size A' Z.length Z ∧ Below w.heap.size w w' := by
  have hsum := rsum_all l fun s hs => (hsrc s hs).1
  have Hcat := Lib.hid (tcat_any (l.map rsrc) AL K c w (by rw [List.length_map]; exact hK) (by rw [hsum]; omega) (by omega) hrow (fun s hs => by
    obtain ⟨x, hx, rfl⟩ := List.mem_map.1 hs
    exact ⟨(hsrc x hx).2.1, pcells_one _⟩))
  rw [hsum, rall_cells] at Hcat
  have Hok : Hid (∀ x ∈ renum 0 (rall l), POk ok w w.heap.size x) := Lib.hid fun y hy => by
    obtain ⟨_, x, hx, e1, e2, e3⟩ := renum_mem _ _ _ hy
    obtain ⟨E, hE, hx⟩ := List.mem_flatten.1 hx
    obtain ⟨s, hs, rfl⟩ := List.mem_map.1 hE
    have := (hsrc s hs).2.2.1 x hx
    exact ⟨by rw [e1, e3]; exact this.room, by rw [e1, e2]; exact this.reads, by rw [e1, e2]; exact this.ty⟩
  have Hsort := Lib.hid fun (v : Value) (W : World) (hO : W.ownsRow w.heap.size 65 2 v (rall l).length (pcells (rall l))) (hb : w.heap.size ≤ W.heap.size) =>
    sort_any v (rall l).length w.heap.size (renum 0 (rall l)) W (by rw [renum_cells]; exact hO) hb (renum_len _ _) (renum_no _ _) (by omega)
  have Hlen := Lib.hid (renum_len (rall l) 0)
  have Hokn := Lib.hid hokn
  clear hsum hrow hsrc hokn
  generalize rall l = E at *
  go_enter Try.func36, Try.ntmps36
  go_wp2_with (first
    | (go_at_call 59; refine Hcat.out.mono ?_; rintro e w1 ⟨A1, c1, rfl, hO1, hB1⟩; have HO1 := Lib.hid hO1; have HB1 := Lib.hid hB1; clear hO1 hB1)
    | (go_at_call 60; refine (Hsort.out _ _ HO1.out HB1.out.size).mono ?_; rintro e w2 ⟨rfl, Z, A2, c2, hv, hc2, hp, ho, hr, hb⟩; have HV := Lib.hid hv; have HP := Lib.hid hp; have HO := Lib.hid ho; have HR := Lib.hid hr; have HB := Lib.hid hb; clear hv hp ho hr hb))
  go_ret
  have hv := HV.out
  injection hv with e1 _ e3
  subst e1 e3
  have hZ : Z.length = E.length := by rw [HP.out.length_eq, Hlen.out]
  have hbel : Below w.heap.size w w2 := HB1.out.trans HB.out
  refine ⟨Z, A1, c1, by rw [hZ]; rfl, by rw [hZ]; exact hc2, HP.out, HO.out, ⟨rfl, by rw [hZ]; exact HR.out, fun x hx => ?_, by rw [hZ]; exact lok_own HO1.out Hokn.out⟩, hbel⟩
  exact ((Hok.out x (HP.out.subset hx)).below hbel).more hbel.size
theorem lexp_le {k : Nat} (h : k ≤ 14) : (2 ^ k : Nat) ≤ 16384 := Nat.le_trans (Nat.pow_le_pow_right (by omega) h) (by decide)
theorem ppk_len {Ep Z : List PEl} (h : pth Ep = lpacks (pth Z)) (hz : Z.length ≤ 2000) : Ep.length ≤ 1000 := by
  have h1 := congrArg List.length h
  rw [lpacks_len] at h1
  unfold pth at h1
  rw [List.length_map, List.length_map] at h1
  omega
set_option maxRecDepth 100000 in
set_option maxHeartbeats 8000000 in
/-- The last of so many rows. -/
theorem last_any (ok : Nat → Prop) (counts : List Int) (E1 : List PEl) (rows : Nat) (A1 : Option Addr) (c1 : Nat) (w : World) (hl : counts.length ≤ 257) (hg : cgood counts = true) (h1 : pth E1 = lleaves counts) (hokn : ∀ b, w.heap.size ≤ b → ok b) (hr : PRow ok w w.heap.size A1 E1.length E1) (hc1 : E1.length ≤ c1) (hrows : 1 ≤ rows ∧ rows ≤ 15) :
    Calls Try.prog 38 #[.slice A1 E1.length c1, .int .i64 rows] w fun e w' => ∃ (Z : List PEl) (A' : Option Addr) (c' : Nat), e = .returned (.slice A' Z.length c') ∧ Z.length ≤ c' ∧ pth Z = lrow (lleaves counts) (rows - 1) ∧ PRow ok w' w'.heap.size A' Z.length Z ∧ Below w.heap.size w w' := by
  have hll := lleaves_ok counts
  have hE1 : E1.length ≤ 257 := by
    have h2 := lleaves_len counts
    rw [← h1] at h2
    unfold pth at h2
    rw [List.length_map] at h2
    omega
  have Hlen : Hid (∀ k (Z : List PEl), pth Z = lrow (lleaves counts) k → Z.length ≤ 514) := Lib.hid fun k Z hZ => by
    have h2 := lrow_short hll k
    rw [← hZ, ← h1] at h2
    unfold pth at h2
    rw [List.length_map, List.length_map] at h2
    omega
  have Hfit : Hid (∀ k (Z : List PEl), k ≤ 14 → pth Z = lrow (lleaves counts) k → ∀ x ∈ Z, PFit x) := Lib.hid fun k Z hk hZ x hx => by
    obtain ⟨f1, f2, f3, _⟩ := lrow_fits counts hg k x.th (by rw [← hZ]; exact List.mem_map.2 ⟨x, hx, rfl⟩)
    have := lexp_le hk
    refine ⟨by omega, f2, ?_⟩
    have : ((2 ^ k : Nat) : Int) * 1000000 ≤ 16384 * 1000000 := Int.mul_le_mul_of_nonneg_right (by omega) (by omega)
    omega
  have Hnext : Hid (∀ k (Z Ep Z2 : List PEl), pth Z = lrow (lleaves counts) k → pth Ep = lpacks (pth Z) → Z2.Perm (renum 0 (E1 ++ Ep)) → Z2.Pairwise (sord (ltOf pcf) (·.no)) → pth Z2 = lrow (lleaves counts) (k + 1)) := Lib.hid fun k Z Ep Z2 a1 a2 a3 a4 => by
    rw [a1] at a2
    exact prow_next (lleaves counts) (lrow (lleaves counts) k) E1 Ep Z2 hll (lrow_order hll k) h1 a2 a3 a4
  have Hr := Lib.hid hr
  have H1 : Hid (pth E1 = lrow (lleaves counts) 0) := Lib.hid h1
  have hri : (1 : Int) ≤ (rows : Int) ∧ (rows : Int) ≤ 15 := by omega
  have Hokn := Lib.hid hokn
  clear hr h1 hll hg hokn
  generalize lleaves counts = LV at *
  obtain ⟨n1, hn1⟩ : ∃ n1, E1.length = n1 := ⟨_, rfl⟩
  have En := Lib.hid hn1
  rw [hn1] at Hr hc1 hE1 ⊢
  clear hn1
  go_enter Try.func38, Try.ntmps38
  go_wp2
  go_loopw [5, 9] (fun v i wr => ∃ (k nz cz : Nat) (Az : Option Addr) (Z : List PEl), k + 1 ≤ rows ∧ i = .int .i64 k ∧ v = .slice Az nz cz ∧ Z.length = nz ∧ nz ≤ cz ∧ Hid (pth Z = lrow LV k) ∧ Hid (PRow ok wr wr.heap.size Az nz Z) ∧ Hid (Below w.heap.size w wr)) (fun _ i _ => rows - (intOf i).toNat)
  case atStart => exact ⟨0, n1, c1, A1, E1, by omega, rfl, rfl, En.out, hc1, H1, Hr, Below.refl _ _⟩
  case round =>
    obtain ⟨k, nz, cz, Az, Z, hk, rfl, rfl, hnz, hcz, HZ, HRz, HB⟩ := hrel
    by_cases hlt : k + 1 < rows
    · have hlz : (k : Int) < (rows : Int) - 1 := by omega
      have hnz5 : nz ≤ 514 := by rw [← hnz]; exact Hlen.out k Z HZ.out
      have Hpk := Lib.hid (packages_any ok Z Az nz cz wr (fun b hb => Hokn.out b (Nat.le_trans HB.out.size hb)) HRz.out (by omega) (Hfit.out k Z (by omega) HZ.out))
      have Hrow := Lib.hid fun (W : World) (Ep : List PEl) (Ap : Option Addr) (cp : Nat) (hb : Below wr.heap.size wr W) (hpr : PRow ok W W.heap.size Ap Ep.length Ep) (hpl : Ep.length ≤ 1000) =>
        row_any ok [⟨A1, n1, c1, E1⟩, ⟨Ap, Ep.length, cp, Ep⟩] (some ⟨W.heap.size, 0, none⟩) 2 2 (W.alloc (.cells #[.slice A1 n1 c1, .slice Ap Ep.length cp] 60)) rfl (by omega)
          (fun _ => ⟨W.heap.size, 0, rfl, by rw [World.size_alloc]; omega, fun i hi => by
            have hi2 : i < 2 := hi
            have hB := (Blk.new W 60 #[.slice A1 n1 c1, .slice Ap Ep.length cp]).two
            rcases (show i = 0 ∨ i = 1 by omega) with rfl | rfl
            · exact hB.1
            · exact hB.2.1⟩)
          (fun b hb2 => Hokn.out b (by rw [World.size_alloc] at hb2; have h1 := HB.out.size; have h2 := hb.size; omega))
          (fun s hs => by
            have hba : Below W.heap.size W (W.alloc (.cells #[.slice A1 n1 c1, .slice Ap Ep.length cp] 60)) := (Below.refl _ _).alloc (Nat.le_refl _) _
            have hwW : Below w.heap.size w W := HB.out.trans (hb.mono HB.out.size)
            rcases List.mem_cons.1 hs with rfl | hs
            · exact ((Hr.out.below (hwW.trans (hba.mono hwW.size))).more (Nat.le_trans hwW.size hba.size))
            · rcases List.mem_cons.1 hs with rfl | hs
              · exact (hpr.below hba).more hba.size
              · cases hs)
          (by show (E1 ++ (Ep ++ [])).length ≤ _; rw [List.append_nil, List.length_append, En.out]; omega)
      go_wp2_with (first
        | (go_at_call 62; refine Hpk.out.mono ?_; rintro e w1 ⟨Ep, Ap, cp, rfl, hcp, hp1, hp2, hp3⟩; have HP1 := Lib.hid hp1; have HP2 := Lib.hid hp2; have HP3 := Lib.hid hp3; have hepl : Ep.length ≤ 1000 := ppk_len hp1 (by omega); clear hp1 hp2 hp3)
        | (go_at_call 36; refine (Hrow.out _ _ _ _ HP3.out HP2.out hepl).mono ?_; rintro e w2 ⟨Z2, A2, c2, rfl, hc2, hq1, hq2, hq3, hq4⟩; have HQ1 := Lib.hid hq1; have HQ2 := Lib.hid hq2; have HQ3 := Lib.hid hq3; have HQ4 := Lib.hid hq4; clear hq1 hq2 hq3 hq4))
      have HB2 : Hid (Below w.heap.size w w2) := Lib.hid (by
        have hb1 : Below w.heap.size w w1 := HB.out.trans (HP3.out.mono HB.out.size)
        have hb2 := hb1.alloc hb1.size (.cells #[.slice A1 n1 c1, .slice Ap Ep.length cp] 60)
        exact hb2.trans (HQ4.out.mono hb2.size))
      have HZ2 : Hid (pth Z2 = lrow LV (k + 1)) := Lib.hid (Hnext.out k Z Ep Z2 HZ.out HP1.out (by have := HQ1.out; simpa [rall] using this) HQ2.out)
      go_roundw
      case rel => exact ⟨k + 1, Z2.length, c2, A2, Z2, by omega, iv (by omega), rfl, rfl, hc2, HZ2, HQ3, HB2⟩
      case measure => simp only [intOf]; omega
    · obtain rfl : rows = k + 1 := by omega
      have hlz : ¬ (k : Int) < ((k + 1 : Nat) : Int) - 1 := by omega
      subst hnz
      go_wp2
      go_ret
      exact ⟨Z, Az, cz, rfl, hcz, HZ.out, HRz.out, HB.out⟩
end Go.Proofs.Ytpocpckhcciecaa
