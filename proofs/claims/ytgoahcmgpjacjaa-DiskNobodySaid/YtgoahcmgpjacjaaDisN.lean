/-
  Layer 20, plain: what was synced is there behind any fall (P20.6) (ahead of the code's landing).
-/
import Derived.Test.YtgoahcmgpjacjaaDisM
namespace Go.Proofs.Ytgoahcmgpjacjaa
set_option linter.unusedSimpArgs false
set_option linter.unusedVariables false
open Go.ChangeShapes Go.WideShapes Go.ChangeAt Go.RowKit Go.Joins Go.Deep
theorem dfindL_app (s : List UInt8) : ∀ (a b : List Ent), dfindL s (a ++ b) = if ∃ e ∈ a, e.1 = s then dfindL s a else dfindL s b
  | [], b => by rw [if_neg (by rintro ⟨e, h, _⟩; cases h)]; rfl
  | e :: a, b => by
    have ih := dfindL_app s a b
    show (if e.1 = s then e.2 else dfindL s (a ++ b)) = if ∃ x ∈ e :: a, x.1 = s then (if e.1 = s then e.2 else dfindL s a) else dfindL s b
    by_cases h : e.1 = s
    · rw [if_pos h, if_pos h, if_pos ⟨e, List.mem_cons_self .., h⟩]
    · rw [if_neg h, if_neg h, ih]
      by_cases h2 : ∃ x ∈ a, x.1 = s
      · rw [if_pos h2, if_pos]
        obtain ⟨x, h3, h4⟩ := h2
        exact ⟨x, List.mem_cons_of_mem _ h3, h4⟩
      · rw [if_neg h2, if_neg]
        rintro ⟨x, h3, h4⟩
        rcases List.mem_cons.1 h3 with rfl | h3
        · exact h h4
        · exact h2 ⟨x, h3, h4⟩
theorem dfindL_wout {s x : List UInt8} (h : s ≠ x) : ∀ l, dfindL s (dwout l x) = dfindL s l
  | [] => rfl
  | e :: t => by
    have ih := dfindL_wout h t
    unfold dwout at ih ⊢
    rw [List.filter_cons]
    by_cases h1 : e.1 = x
    · rw [if_neg (by simp [h1]), ih]
      conv => rhs; unfold dfindL
      rw [if_neg (by rw [h1]; exact fun e => h e.symm)]
    · rw [if_pos (by simp [h1])]
      unfold dfindL
      rw [ih]
theorem dfindL_ins {s : List UInt8} {e : Ent} (h : s ≠ e.1) (l : List Ent) : dfindL s (dins l e) = dfindL s l := by
  unfold dins
  have h1 := dfindL_app s (l.take (dplace e.1 l)) (e :: l.drop (dplace e.1 l))
  have h2 := dfindL_app s (l.take (dplace e.1 l)) (l.drop (dplace e.1 l))
  rw [List.take_append_drop] at h2
  rw [h1, h2]
  congr 1
  conv => lhs; unfold dfindL
  rw [if_neg (fun e => h e.symm)]
theorem dfindL_less {s x : List UInt8} (h : s ≠ x) (l : List Ent) : dfindL s (dless l x) = dfindL s l := by
  unfold dless
  split
  · rfl
  · exact dfindL_wout h l
theorem dfindL_chgd {s : List UInt8} {c : Chg} (h1 : c.1 ≠ s) (h2 : c.2.1 ≠ s) (l : List Ent) : dfindL s (dchgd l c) = dfindL s l := by
  unfold dchgd
  split
  · exact dfindL_less (fun e => h1 e.symm) l
  · rw [dfindL_ins (fun e => h2 e.symm), dfindL_wout (fun e => h2 e.symm), dfindL_less (fun e => h1 e.symm)]
theorem dfindL_mem {s : List UInt8} : ∀ {l : List Ent}, 0 ≤ dfindL s l → (s, dfindL s l) ∈ l
  | [], h => by unfold dfindL at h; omega
  | e :: t, h => by
    unfold dfindL at h ⊢
    by_cases h1 : e.1 = s
    · rw [if_pos h1, ← h1]
      exact List.mem_cons_self ..
    · rw [if_neg h1] at h ⊢
      exact List.mem_cons_of_mem _ (dfindL_mem h)
theorem dfile_set_same {D : Dk} {n : Int} (f : Fl) (h0 : 0 ≤ n) (h : n < (D.files.length : Int)) : (D.put n f).file n = f := by
  unfold Dk.put Dk.file
  dsimp only
  rw [List.getD_eq_getElem?_getD, List.getElem?_set_self (by omega), Option.getD_some]
theorem dfile_set_far {D : Dk} {n m : Int} (f : Fl) (h0 : 0 ≤ n) (h1 : 0 ≤ m) (h : m ≠ n) : (D.put m f).file n = D.file n := by
  unfold Dk.put Dk.file
  dsimp only
  rw [List.getD_eq_getElem?_getD, List.getElem?_set_ne (by omega), ← List.getD_eq_getElem?_getD]
structure DKeep (s : List UInt8) (n : Int) (t : List UInt8) (D : Dk) : Prop where
  wf : D.wf
  some_ : s ≠ []
  low : 0 ≤ n
  high : n < (D.files.length : Int)
  dir : D.find s = n
  safe : dfindL s D.safe = n
  chg : ∀ c ∈ D.chg, c.1 ≠ s ∧ c.2.1 ≠ s
  one : ∀ e ∈ D.dir, e.2 = n → e.1 = s
  was : t <+: (D.file n).1
  now : t <+: (D.file n).2
section
variable {s : List UInt8} {n : Int} {t : List UInt8} {D : Dk} (h : DKeep s n t D)
include h
theorem DKeep.counted : DKeep s n t D.counted := ⟨h.wf.counted_, h.some_, h.low, h.high, h.dir, h.safe, h.chg, h.one, h.was, h.now⟩
theorem DKeep.put {m : Int} {f : Fl} (h0 : 0 ≤ m) (hf : m = n → t <+: f.1 ∧ t <+: f.2) : DKeep s n t (D.put m f) := by
  have hl : (D.put m f).files.length = D.files.length := List.length_set
  by_cases e : m = n
  · subst e
    have hs := dfile_set_same (D := D) f h.low h.high
    exact ⟨h.wf.put_ _ _, h.some_, h.low, by rw [hl]; exact h.high, h.dir, h.safe, h.chg, h.one, by rw [hs]; exact (hf rfl).1, by rw [hs]; exact (hf rfl).2⟩
  · have hs := dfile_set_far (D := D) f h.low h0 e
    exact ⟨h.wf.put_ _ _, h.some_, h.low, by rw [hl]; exact h.high, h.dir, h.safe, h.chg, h.one, by rw [hs]; exact h.was, by rw [hs]; exact h.now⟩
theorem DKeep.change {c : Chg} (h1 : c.1 ≠ s) (h2 : c.2.1 ≠ s) (hc : c.2.1 ≠ [] → 0 ≤ c.2.2 ∧ c.2.2 < (D.files.length : Int)) (hn : c.2.1 ≠ [] → c.2.2 ≠ n) : DKeep s n t (D.change c) := by
  refine ⟨h.wf.change_ hc, h.some_, h.low, h.high, ?_, h.safe, ?_, ?_, h.was, h.now⟩
  · show dfindL s (dchgd D.dir c) = n
    rw [dfindL_chgd h1 h2]
    exact h.dir
  · intro x hx
    rcases List.mem_append.1 hx with h3 | h3
    · exact h.chg x h3
    · rw [List.mem_singleton] at h3
      subst h3
      exact ⟨h1, h2⟩
  · intro e he hen
    rcases dchgd_mem he with h3 | ⟨rfl, h3⟩
    · exact h.one e h3 hen
    · exact absurd hen (hn h3)
theorem DKeep.other {x : List UInt8} (hx : x ≠ s) (h0 : 0 ≤ D.find x) : D.find x ≠ n := fun e => by
  have := h.one _ (dfindL_mem (l := D.dir) h0) e
  exact hx this
theorem DKeep.create (x : List UInt8) : DKeep s n t (dcreateF D x).1 := by
  unfold dcreateF
  split
  · exact h
  split
  · exact h
  split
  · exact h
  rename_i h3
  split
  · exact h
  have hx : x ≠ s := fun e => by
    subst e
    rw [h.dir] at h3
    exact h3 h.low
  have hf : ∀ m : Int, 0 ≤ m → m < (D.files.length : Int) → ({ D with files := D.files ++ [([], [])] } : Dk).file m = D.file m := fun m h0 h1 => by
    unfold Dk.file
    dsimp only
    rw [List.getD_eq_getElem?_getD, List.getElem?_append_left (by omega), ← List.getD_eq_getElem?_getD]
  have h4 : DKeep s n t { D with files := D.files ++ [([], [])] } :=
    ⟨⟨dokL_more h.wf.dir (by simp), dokL_more h.wf.safe (by simp), fun c hc hn => ⟨(h.wf.chg c hc hn).1, by have := (h.wf.chg c hc hn).2; simp; omega⟩⟩, h.some_, h.low, by have := h.high; simp; omega, h.dir, h.safe, h.chg, h.one,
      by rw [hf n h.low h.high]; exact h.was, by rw [hf n h.low h.high]; exact h.now⟩
  exact h4.change (fun e => h.some_ e.symm) hx (fun _ => ⟨by simp, by simp; omega⟩) (fun _ => by have := h.high; dsimp only; omega)
theorem DKeep.append (x u : List UInt8) : DKeep s n t (dappF D x u).1 := by
  unfold dappF
  by_cases h0 : D.shut x ≠ 0
  · rw [if_pos h0]; exact h
  rw [if_neg h0]
  split
  · exact h
  rename_i h1
  split
  · exact h
  obtain ⟨_, h2, _⟩ := dshut_ok h.wf (Classical.not_not.1 h0)
  refine h.counted.put h2 fun e => ?_
  have h3 : flappF (D.file (D.find x)) u = (((D.file (D.find x)).1, (D.file (D.find x)).2 ++ u), 0) := by
    unfold flappF at h1 ⊢
    split
    · rename_i h4
      rw [if_pos h4] at h1
      exact absurd (by decide) h1
    · rfl
  rw [h3, e]
  exact ⟨h.was, h.now.trans (List.prefix_append _ _)⟩
theorem DKeep.sync (x : List UInt8) : DKeep s n t (dsyncF D x).1 := by
  unfold dsyncF
  by_cases h0 : D.shut x ≠ 0
  · rw [if_pos h0]; exact h
  rw [if_neg h0]
  split
  · exact h.counted
  obtain ⟨_, h2, _⟩ := dshut_ok h.wf (Classical.not_not.1 h0)
  refine h.counted.put h2 fun e => ?_
  rw [e]
  exact ⟨h.now, h.now⟩
theorem DKeep.cut {x : List UInt8} (hx : x ≠ s) (k : Int) : DKeep s n t (dcutF D x k).1 := by
  unfold dcutF
  by_cases h0 : D.shut x ≠ 0
  · rw [if_pos h0]; exact h
  rw [if_neg h0]
  split
  · exact h
  obtain ⟨_, h2, _⟩ := dshut_ok h.wf (Classical.not_not.1 h0)
  exact h.counted.put h2 fun e => absurd e (h.other hx h2)
theorem DKeep.rename {a b : List UInt8} (ha : a ≠ s) (hb : b ≠ s) : DKeep s n t (drenF D a b).1 := by
  unfold drenF
  by_cases h0 : D.shut a ≠ 0
  · rw [if_pos h0]; exact h
  rw [if_neg h0]
  split
  · exact h
  split
  · exact h
  obtain ⟨_, h2, h3⟩ := dshut_ok h.wf (Classical.not_not.1 h0)
  exact h.change ha hb (fun _ => ⟨h2, h3⟩) (fun _ => h.other ha h2)
theorem DKeep.remove {x : List UInt8} (hx : x ≠ s) : DKeep s n t (dremF D x).1 := by
  unfold dremF
  split
  · exact h
  exact h.change hx (fun e => h.some_ e.symm) (fun e => absurd rfl e) (fun e => absurd rfl e)
theorem DKeep.dirsync : DKeep s n t (ddirF D).1 := by
  unfold ddirF
  split
  · exact h
  split
  · exact h.counted
  exact ⟨⟨h.wf.dir, h.wf.dir, fun c hc => (by cases hc)⟩, h.some_, h.low, h.high, h.dir, h.dir, fun c hc => (by cases hc), h.one, h.was, h.now⟩
theorem DKeep.arm (k : Int) : DKeep s n t (darmF D k).1 := by
  unfold darmF
  split
  · exact h
  split
  · exact h
  exact ⟨⟨h.wf.dir, h.wf.safe, h.wf.chg⟩, h.some_, h.low, h.high, h.dir, h.safe, h.chg, h.one, h.was, h.now⟩
theorem DKeep.off : DKeep s n t (doffF D) := ⟨⟨h.wf.dir, h.wf.safe, h.wf.chg⟩, h.some_, h.low, h.high, h.dir, h.safe, h.chg, h.one, h.was, h.now⟩
end
theorem flleft_prefix {f : Fl} {t : List UInt8} (h1 : t <+: f.1) (h2 : t <+: f.2) (cut : Int) (mark : List UInt8) : t <+: flleft f cut mark := by
  unfold flleft
  split
  · exact h1.trans (List.prefix_append _ _)
  split
  · exact h2
  · exact h1
theorem dfall_keep {t : List UInt8} {n : Int} (h0 : 0 ≤ n) (cuts : List Int) (marks : List (List UInt8)) : ∀ (l : List Ent) (k : Nat) (D : Dk), n < (D.files.length : Int) → (∀ e ∈ l, 0 ≤ e.2) → t <+: (D.file n).1 → t <+: (D.file n).2 → t <+: ((dfall cuts marks l k D).file n).2
  | [], _, _, _, _, _, h => h
  | e :: l, k, D, hn, he, h1, h2 => by
    unfold dfall
    split
    · exact dfall_keep h0 cuts marks l k D hn (fun x hx => he x (List.mem_cons_of_mem _ hx)) h1 h2
    · have hl : ∀ m f, (D.put m f).files.length = D.files.length := fun m f => List.length_set
      by_cases hen : e.2 = n
      · have hs := fun f => dfile_set_same (D := D) f h0 hn
        rw [hen]
        refine dfall_keep h0 cuts marks l (k + 1) _ ?_ (fun x hx => he x (List.mem_cons_of_mem _ hx)) ?_ ?_
        · rw [hl]; exact hn
        · rw [hs]; exact flleft_prefix h1 h2 _ _
        · rw [hs]; exact flleft_prefix h1 h2 _ _
      · have hs := fun f => dfile_set_far (D := D) f h0 (he e (List.mem_cons_self ..)) hen
        refine dfall_keep h0 cuts marks l (k + 1) _ ?_ (fun x hx => he x (List.mem_cons_of_mem _ hx)) ?_ ?_
        · rw [hl]; exact hn
        · rw [hs]; exact h1
        · rw [hs]; exact h2
theorem dback_find {D : Dk} {s : List UInt8} (h : ∀ c ∈ D.chg, c.1 ≠ s ∧ c.2.1 ≠ s) (k : Int) : dfindL s (dback D k) = dfindL s D.safe := by
  unfold dback
  have : ∀ (cs : List Chg) (l : List Ent), (∀ c ∈ cs, c ∈ D.chg) → dfindL s (cs.foldl dchgd l) = dfindL s l := by
    intro cs
    induction cs with
    | nil => intro l _; rfl
    | cons c cs ih =>
      intro l hc
      have h1 := h c (hc c (List.mem_cons_self ..))
      rw [List.foldl_cons, ih _ (fun x hx => hc x (List.mem_cons_of_mem _ hx)), dfindL_chgd h1.1 h1.2]
  exact this _ _ fun c hc => List.mem_of_mem_take hc
theorem DKeep.boot {s : List UInt8} {n : Int} {t : List UInt8} {D : Dk} (h : DKeep s n t D) (k : Int) (cuts : List Int) (marks : List (List UInt8)) :
    ∃ x, dreadF (dbootF D k cuts marks) s = (x, 0) ∧ t <+: x := by
  have hf : (dbootF D k cuts marks).find s = n := by
    show dfindL s (dback D k) = n
    rw [dback_find h.chg]
    exact h.safe
  have hs : (dbootF D k cuts marks).shut s = 0 := by
    unfold Dk.shut
    rw [hf, if_neg (by show ¬ false = true; decide), if_neg (by have := h.low; omega)]
  refine ⟨_, by unfold dreadF; rw [if_neg (fun e => e hs)], ?_⟩
  rw [hf]
  exact dfall_keep h.low cuts marks (dback D k) 0 D h.high (fun e he => (dback_ok h.wf k e he).1) h.was h.now
end Go.Proofs.Ytgoahcmgpjacjaa
