/-
  Layer 8, plain: what a stable sort by weights makes of leaves, and of leaves and packages.
-/
import Derived.Test.YtehpnfijpddcfaaLenI
namespace Go.Proofs.Ytehpnfijpddcfaa
set_option linter.unusedSimpArgs false
set_option linter.unusedVariables false
open Go.ChangeShapes Go.WideShapes Go.ChangeAt Go.RowKit Go.Joins Go.Deep Go.Shelf

def renum : Nat → List PEl → List PEl
  | _, [] => []
  | k, x :: t => { x with no := k } :: renum (k + 1) t
theorem renum_cells : ∀ (E : List PEl) (k : Nat), pcells (renum k E) = pcells E
  | [], _ => rfl
  | x :: t, k => by
    show pcells ({ x with no := k } :: renum (k + 1) t) = _
    rw [pcells_cons, pcells_cons, renum_cells t (k + 1)]
theorem renum_len : ∀ (E : List PEl) (k : Nat), (renum k E).length = E.length
  | [], _ => rfl
  | x :: t, k => by show (renum (k + 1) t).length + 1 = t.length + 1; rw [renum_len t (k + 1)]
theorem renum_th : ∀ (E : List PEl) (k : Nat), pth (renum k E) = pth E
  | [], _ => rfl
  | x :: t, k => by
    show x.th :: pth (renum (k + 1) t) = x.th :: pth t
    rw [renum_th t (k + 1)]
theorem renum_mem : ∀ (E : List PEl) (k : Nat), ∀ y ∈ renum k E, k ≤ y.no ∧ ∃ x ∈ E, y.th = x.th ∧ y.A = x.A ∧ y.c = x.c
  | [], _, y, h => by cases h
  | x :: t, k, y, h => by
    rcases List.mem_cons.1 h with rfl | h
    · exact ⟨Nat.le_refl _, x, by simp, rfl, rfl, rfl⟩
    · obtain ⟨h1, z, h2, h3⟩ := renum_mem t (k + 1) y h
      exact ⟨by omega, z, List.mem_cons_of_mem _ h2, h3⟩
theorem renum_no : ∀ (E : List PEl) (k : Nat), (renum k E).Pairwise (fun x y => x.no < y.no)
  | [], _ => List.Pairwise.nil
  | x :: t, k => List.pairwise_cons.2 ⟨fun y hy => by have := (renum_mem t (k + 1) y hy).1; show k < y.no; omega, renum_no t (k + 1)⟩
theorem renum_app : ∀ (E E2 : List PEl) (k : Nat), renum k (E ++ E2) = renum k E ++ renum (k + E.length) E2
  | [], E2, k => by simp [renum]
  | x :: t, E2, k => by
    show { x with no := k } :: renum (k + 1) (t ++ E2) = { x with no := k } :: (renum (k + 1) t ++ _)
    rw [renum_app t E2 (k + 1), show k + 1 + t.length = k + (x :: t).length from by simp; omega]
theorem pw_of_no {P : PEl → PEl → Prop} {E : List PEl} (h : E.Pairwise P) (hn : E.Pairwise (fun x y => x.no < y.no)) {x y : PEl} (hx : x ∈ E) (hy : y ∈ E) (k : x.no < y.no) : P x y := by
  obtain ⟨i, hi, rfl⟩ := List.getElem_of_mem hx
  obtain ⟨j, hj, rfl⟩ := List.getElem_of_mem hy
  rcases Nat.lt_trichotomy i j with e | e | e
  · exact List.pairwise_iff_getElem.1 h i j hi hj e
  · subst e; omega
  · have := List.pairwise_iff_getElem.1 hn j i hj hi e
    omega
theorem pw_pth {P : LTh → LTh → Prop} (E : List PEl) : (pth E).Pairwise P ↔ E.Pairwise (fun x y => P x.th y.th) := by unfold pth; rw [List.pairwise_map]

/-- A row is told by its leaves and its packages. -/
theorem lrow_unique : ∀ {l p R R' : List LTh}, LRow l p R → LRow l p R' → R = R'
  | l, p, [], R', h, k => by
    have h1 := h.lv
    have h2 := h.pk
    simp only [List.filter_nil] at h1 h2
    cases R' with
    | nil => rfl
    | cons y t =>
      have k1 := k.lv
      have k2 := k.pk
      rw [← h1] at k1
      rw [← h2] at k2
      cases hy : y.leaf with
      | true => rw [List.filter_cons, if_pos (by simpa using hy)] at k1; cases k1
      | false => rw [List.filter_cons, if_pos (by simp [hy])] at k2; cases k2
  | l, p, x :: t, [], h, k => by
    have h1 := k.lv
    have h2 := k.pk
    simp only [List.filter_nil] at h1 h2
    have k1 := h.lv
    have k2 := h.pk
    rw [← h1] at k1
    rw [← h2] at k2
    cases hy : x.leaf with
    | true => rw [List.filter_cons, if_pos (by simpa using hy)] at k1; cases k1
    | false => rw [List.filter_cons, if_pos (by simp [hy])] at k2; cases k2
  | l, p, x :: t, y :: u, h, k => by
    obtain ⟨o1, o2⟩ := List.pairwise_cons.1 h.order
    obtain ⟨q1, q2⟩ := List.pairwise_cons.1 k.order
    have h1 := h.lv; have h2 := h.pk; have k1 := k.lv; have k2 := k.pk
    cases hx : x.leaf with
    | true =>
      rw [List.filter_cons, if_pos (by simpa using hx)] at h1
      rw [List.filter_cons, if_neg (by simp [hx])] at h2
      cases hy : y.leaf with
      | true =>
        rw [List.filter_cons, if_pos (by simpa using hy)] at k1
        rw [List.filter_cons, if_neg (by simp [hy])] at k2
        rw [← h1] at k1
        injection k1 with e1 e2
        rw [e1, lrow_unique (l := t.filter (fun x => x.leaf)) (p := p) ⟨o2, rfl, h2⟩ ⟨q2, e2, k2⟩]
      | false =>
        exfalso
        rw [List.filter_cons, if_neg (by simp [hy])] at k1
        rw [List.filter_cons, if_pos (by simp [hy])] at k2
        have hyt : y ∈ t := by
          have : y ∈ t.filter (fun x => !x.leaf) := by rw [h2, ← k2]; simp
          exact (List.mem_filter.1 this).1
        have hxu : x ∈ u := by
          have : x ∈ u.filter (fun x => x.leaf) := by rw [k1, ← h1]; simp
          exact (List.mem_filter.1 this).1
        have a1 := (lle_iff _ _).1 (o1 y hyt)
        have a2 := (lle_iff _ _).1 (q1 x hxu)
        rw [hx, hy] at a2
        simp at a2
        omega
    | false =>
      rw [List.filter_cons, if_neg (by simp [hx])] at h1
      rw [List.filter_cons, if_pos (by simp [hx])] at h2
      cases hy : y.leaf with
      | false =>
        rw [List.filter_cons, if_neg (by simp [hy])] at k1
        rw [List.filter_cons, if_pos (by simp [hy])] at k2
        rw [← h2] at k2
        injection k2 with e1 e2
        rw [e1, lrow_unique (l := l) (p := t.filter (fun x => !x.leaf)) ⟨o2, h1, rfl⟩ ⟨q2, k1, e2⟩]
      | true =>
        exfalso
        rw [List.filter_cons, if_pos (by simpa using hy)] at k1
        rw [List.filter_cons, if_neg (by simp [hy])] at k2
        have hyt : y ∈ t := by
          have : y ∈ t.filter (fun x => x.leaf) := by rw [h1, ← k1]; simp
          exact (List.mem_filter.1 this).1
        have hxu : x ∈ u := by
          have : x ∈ u.filter (fun x => !x.leaf) := by rw [k2, ← h2]; simp
          exact (List.mem_filter.1 this).1
        have a1 := (lle_iff _ _).1 (o1 y hyt)
        have a2 := (lle_iff _ _).1 (q1 x hxu)
        rw [hx, hy] at a1
        simp at a1
        omega

theorem sord_w {x y : PEl} (h : sord (ltOf pcf) (·.no) x y) : x.th.w < y.th.w ∨ (x.th.w = y.th.w ∧ x.no < y.no) := by
  rcases h with h | ⟨h1, h2⟩
  · rw [pcf_lt] at h
    exact Or.inl (by simpa using h)
  · rw [pcf_lt] at h1
    simp only [decide_eq_false_iff_not] at h1
    rcases Int.lt_or_eq_of_le (Int.not_lt.1 h1) with e | e
    · exact Or.inl e
    · exact Or.inr ⟨e, h2⟩
theorem w_sord {x y : PEl} (h : x.th.w ≤ y.th.w) (hn : x.no < y.no) : sord (ltOf pcf) (·.no) x y := Or.inr ⟨by rw [pcf_lt]; simp; omega, hn⟩
/-- Leaves and packages, sorted: the next row. -/
theorem row_next (leaves R : List LTh) (E1 E2 Z : List PEl) (hl : LLeaves leaves) (hr : R.Pairwise (fun a b => a.w ≤ b.w)) (h1 : pth E1 = leaves) (h2 : pth E2 = lpacks R) (hp : Z.Perm (renum 0 (E1 ++ E2))) (ho : Z.Pairwise (sord (ltOf pcf) (·.no))) : pth Z = lnext R leaves := by
  have hno := renum_no (E1 ++ E2) 0
  refine lrow_unique (l := leaves) (p := lpacks R) ?_ (lnext_row hl hr)
  rw [renum_app] at hp hno
  have hn1 := renum_th E1 0
  have hn2 := renum_th E2 (0 + E1.length)
  rw [h1] at hn1
  rw [h2] at hn2
  generalize renum 0 E1 = F1 at *
  generalize renum (0 + E1.length) E2 = F2 at *
  have f1 : ∀ x ∈ F1, x.th.leaf = true := fun x hx => hl.all _ (by rw [← hn1]; exact List.mem_map.2 ⟨x, hx, rfl⟩)
  have f2 : ∀ x ∈ F2, x.th.leaf = false := fun x hx => lpacks_leaf R _ (by rw [← hn2]; exact List.mem_map.2 ⟨x, hx, rfl⟩)
  have hlf : (F1 ++ F2).Pairwise (fun x y => x.th.leaf = true ∨ y.th.leaf = false) := by
    rw [List.pairwise_append]
    refine ⟨?_, ?_, fun x hx y hy => Or.inl (f1 x hx)⟩
    · exact List.Pairwise.imp_of_mem (fun hx _ _ => Or.inl (f1 _ hx)) (List.pairwise_append.1 hno).1
    · exact List.Pairwise.imp_of_mem (fun _ hy _ => Or.inr (f2 _ hy)) (List.pairwise_append.1 hno).2.1
  have hsortF : ∀ F : List PEl, F.Pairwise (fun x y => x.no < y.no) → (pth F).Pairwise (fun a b => a.w ≤ b.w) → F.Pairwise (sord (ltOf pcf) (·.no)) := fun F k1 k2 => by
    rw [pw_pth] at k2
    exact (k1.and k2).imp fun h => w_sord h.2 h.1
  refine ⟨?_, ?_, ?_⟩
  · rw [pw_pth]
    refine List.Pairwise.imp_of_mem (fun {x y} hx hy hs => ?_) ho
    rw [lle_iff]
    rcases sord_w hs with e | ⟨e, e2⟩
    · exact Or.inl e
    · exact Or.inr ⟨e, pw_of_no hlf hno (hp.subset hx) (hp.subset hy) e2⟩
  · have e1 : (pth Z).filter (fun x => x.leaf) = pth (Z.filter (fun x => x.th.leaf)) := by unfold pth; rw [List.filter_map]; rfl
    have e2 : (F1 ++ F2).filter (fun x => x.th.leaf) = F1 := by
      rw [List.filter_append, List.filter_eq_self.2 (fun x hx => by simpa using f1 x hx), List.filter_eq_nil_iff.2 (fun x hx => by simp [f2 x hx]), List.append_nil]
    have hpf := hp.filter (fun x => x.th.leaf)
    rw [e2] at hpf
    rw [e1, sorted_unique (fun x y => sord_asymm pcf_swo) hpf (ho.filter _) (hsortF F1 (List.pairwise_append.1 hno).1 (by rw [hn1]; exact hl.order)), hn1]
  · have e1 : (pth Z).filter (fun x => !x.leaf) = pth (Z.filter (fun x => !x.th.leaf)) := by unfold pth; rw [List.filter_map]; rfl
    have e2 : (F1 ++ F2).filter (fun x => !x.th.leaf) = F2 := by
      rw [List.filter_append, List.filter_eq_nil_iff.2 (fun x hx => by simp [f1 x hx]), List.filter_eq_self.2 (fun x hx => by simp [f2 x hx]), List.nil_append]
    have hpf := hp.filter (fun x => !x.th.leaf)
    rw [e2] at hpf
    rw [e1, sorted_unique (fun x y => sord_asymm pcf_swo) hpf (ho.filter _) (hsortF F2 (List.pairwise_append.1 hno).2.1 (by rw [hn2]; exact lorder_w (lpacks_order R hr))), hn2]

/-! ### The first row -/
def fkey (x : LTh) : Nat := x.syms.headD 0
def ordF (a b : LTh) : Prop := a.w < b.w ∨ (a.w = b.w ∧ fkey a < fkey b)
theorem lput_perm (x : LTh) (R : List LTh) : (lput R x).Perm (R ++ [x]) := by
  obtain ⟨r1, r2, h1, h2, _, _⟩ := lput_split x R
  rw [h2, h1, List.append_assoc]
  exact List.Perm.append_left r1 (List.perm_append_comm (l₁ := [x]))
theorem lfirst_perm : ∀ (l : List Int) (i : Nat) (out : List LTh), (lfirst i l out).Perm (out ++ plv i l)
  | [], i, out => by simp [lfirst, plv]
  | c :: t, i, out => by
    by_cases h : 0 < c
    · rw [lfirst_yes _ _ _ _ h, plv_yes _ _ _ h]
      refine (lfirst_perm t (i + 1) _).trans ?_
      refine (List.Perm.append_right _ (lput_perm _ _)).trans ?_
      simp
    · rw [lfirst_no _ _ _ _ h, plv_no _ _ _ h]
      exact lfirst_perm t (i + 1) out
theorem lfirst_key : ∀ (l : List Int) (i : Nat) (out : List LTh), out.Pairwise ordF → (∀ x ∈ out, x.leaf = true ∧ fkey x < i) → (lfirst i l out).Pairwise ordF
  | [], i, out, h, _ => h
  | c :: t, i, out, h, hk => by
    by_cases h0 : 0 < c
    · rw [lfirst_yes _ _ _ _ h0]
      obtain ⟨r1, r2, h1, h2, h3, h4⟩ := lput_split ⟨c, [i], true⟩ out
      refine lfirst_key t (i + 1) _ ?_ fun x hx => ?_
      · rw [h2]
        rw [h1] at h
        obtain ⟨o1, o2, o3⟩ := List.pairwise_append.1 h
        have hr2 : ∀ z ∈ r2, c < z.w := by
          intro z hz
          cases hr : r2 with
          | nil => rw [hr] at hz; cases hz
          | cons y u =>
            have hy := h4 y u hr
            have hyl := (hk y (by rw [h1, hr]; simp)).1
            have hyw : c < y.w := by
              have hn : ¬ lle y ⟨c, [i], true⟩ = true := by rw [hy]; decide
              rw [lle_iff] at hn
              rcases Int.lt_or_le c y.w with e | e
              · exact e
              · exfalso
                apply hn
                rcases Int.lt_or_eq_of_le e with e | e
                · exact Or.inl e
                · exact Or.inr ⟨e, Or.inl hyl⟩
            rw [hr] at hz o2
            rcases List.mem_cons.1 hz with rfl | hz
            · exact hyw
            · rcases (List.pairwise_cons.1 o2).1 z hz with e | ⟨e, _⟩ <;> omega
        rw [List.pairwise_append]
        refine ⟨o1, List.pairwise_cons.2 ⟨fun z hz => Or.inl (hr2 z hz), o2⟩, ?_⟩
        intro a ha b hb
        rcases List.mem_cons.1 hb with rfl | hb
        · have hle := lle_w (h3 a ha)
          have hka := (hk a (by rw [h1]; simp [ha])).2
          rcases Int.lt_or_eq_of_le hle with e | e
          · exact Or.inl e
          · exact Or.inr ⟨e, hka⟩
        · exact o3 a ha b hb
      · rcases (lput_mem _ _ _).1 hx with rfl | hx
        · exact ⟨rfl, by show i < i + 1; omega⟩
        · have := hk x hx; exact ⟨this.1, by omega⟩
    · rw [lfirst_no _ _ _ _ h0]
      exact lfirst_key t (i + 1) out h fun x hx => ⟨(hk x hx).1, by have := (hk x hx).2; omega⟩
theorem plv_key : ∀ (l : List Int) (i : Nat), (plv i l).Pairwise (fun a b => fkey a < fkey b) ∧ ∀ x ∈ plv i l, i ≤ fkey x
  | [], i => ⟨List.Pairwise.nil, fun x h => by cases h⟩
  | c :: t, i => by
    obtain ⟨h1, h2⟩ := plv_key t (i + 1)
    by_cases h : 0 < c
    · rw [plv_yes _ _ _ h]
      refine ⟨List.pairwise_cons.2 ⟨fun y hy => by have := h2 y hy; show i < fkey y; omega, h1⟩, fun x hx => ?_⟩
      rcases List.mem_cons.1 hx with rfl | hx
      · exact Nat.le_refl _
      · have := h2 x hx; omega
    · rw [plv_no _ _ _ h]
      exact ⟨h1, fun x hx => by have := h2 x hx; omega⟩
theorem first_row (counts : List Int) (E Z : List PEl) (h1 : pth E = plv 0 counts) (hp : Z.Perm (renum 0 E)) (ho : Z.Pairwise (sord (ltOf pcf) (·.no))) : pth Z = lleaves counts := by
  have hno := renum_no E 0
  have hth := renum_th E 0
  rw [h1] at hth
  generalize renum 0 E = F at *
  have hk : F.Pairwise (fun x y => fkey x.th < fkey y.th) := by
    have := (plv_key counts 0).1
    rw [← hth, pw_pth] at this
    exact this
  have p1 : (pth Z).Perm (lleaves counts) := by
    have h := lfirst_perm counts 0 []
    rw [List.nil_append, ← hth] at h
    exact (hp.map _).trans h.symm
  refine sorted_unique (r := ordF) ?_ p1 ?_ (lfirst_key counts 0 [] List.Pairwise.nil fun x hx => by cases hx)
  · intro x y h k
    rcases h with h | ⟨h, h2⟩ <;> rcases k with k | ⟨k, k2⟩ <;> omega
  · rw [pw_pth]
    refine List.Pairwise.imp_of_mem (fun {x y} hx hy hs => ?_) ho
    rcases sord_w hs with e | ⟨e, e2⟩
    · exact Or.inl e
    · exact Or.inr ⟨e, pw_of_no hk hno (hp.subset hx) (hp.subset hy) e2⟩
end Go.Proofs.Ytehpnfijpddcfaa
