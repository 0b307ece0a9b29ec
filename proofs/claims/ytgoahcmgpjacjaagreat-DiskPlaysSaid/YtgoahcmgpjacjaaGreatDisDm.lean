/-
  Layer 20, plain: how great a disk is behind so many acts; an act by its kind (ahead of the code's landing).
-/
import Derived.Test.YtgoahcmgpjacjaaGreatGb
import Derived.Test.YtgoahcmgpjacjaaGreatDisU
import Derived.Test.YtgoahcmgpjacjaaGreatDisW
import Derived.Test.YtgoahcmgpjacjaaGreatBwtM
namespace Go.Proofs.YtgoahcmgpjacjaaGreat
set_option linter.unusedSimpArgs false
set_option linter.unusedVariables false
open Go.ChangeShapes Go.WideShapes Go.ChangeAt Go.RowKit Go.Joins Go.Deep
structure DSm (t : Nat) (D : Dk) : Prop where
  hist : DHist D
  bnd : DBnd D
  files : D.files.length ≤ t
  chg : D.chg.length ≤ t
  ops : 0 ≤ D.ops ∧ D.ops ≤ (t : Int)
  armed : 0 ≤ D.armed ∧ D.armed < 9223372036854775808
  cap : 0 ≤ D.cap ∧ D.cap ≤ 10000000
theorem done_len {n : Nat} {l : List Ent} (h : DOne l) (hl : dokL n l) : l.length ≤ n := by
  have h1 : (l.map fun e => e.2.toNat).Nodup := by
    rw [List.Nodup, List.pairwise_map]
    refine List.Pairwise.imp_of_mem ?_ h
    intro a b ha hb hab he
    have h2 := hl a ha
    have h3 := hl b hb
    exact hab.2 (by omega)
  have h2 := wpigeon n _ h1 fun x hx => by
    obtain ⟨e, he, rfl⟩ := List.mem_map.1 hx
    have := hl e he
    omega
  rwa [List.length_map] at h2
theorem DSm.wf {t : Nat} {D : Dk} (h : DSm t D) : D.wf := h.hist.wf
theorem DSm.dir {t : Nat} {D : Dk} (h : DSm t D) : D.dir.length ≤ t := Nat.le_trans (done_len h.hist.one h.wf.dir) h.files
theorem DSm.safe {t : Nat} {D : Dk} (h : DSm t D) : D.safe.length ≤ t := by
  have := h.hist.back 0
  exact Nat.le_trans (done_len (by simpa using this) h.wf.safe) h.files
theorem DSm.more {t u : Nat} {D : Dk} (h : DSm t D) (hu : t ≤ u) : DSm u D := ⟨h.hist, h.bnd, Nat.le_trans h.files hu, Nat.le_trans h.chg hu, ⟨h.ops.1, by have := h.ops.2; omega⟩, h.armed, h.cap⟩
theorem dsm_new (c : Int) (hc : 0 ≤ c ∧ c ≤ 10000000) : DSm 0 (dnew c) := ⟨dnew_hist c, (fun f hf => by cases hf), Nat.le_refl _, Nat.le_refl _, ⟨Int.le_refl _, Int.le_refl _⟩, ⟨Int.le_refl _, by show (0 : Int) < _; decide⟩, hc⟩
theorem DSm.counted_ {t : Nat} {D : Dk} (h : DSm t D) : DBnd D.counted ∧ D.counted.files.length ≤ t + 1 ∧ D.counted.chg.length ≤ t + 1 ∧ (0 ≤ D.counted.ops ∧ D.counted.ops ≤ ((t + 1 : Nat) : Int)) ∧ (0 ≤ D.counted.armed ∧ D.counted.armed < 9223372036854775808) ∧ (0 ≤ D.counted.cap ∧ D.counted.cap ≤ 10000000) := by
  refine ⟨h.bnd, Nat.le_succ_of_le h.files, Nat.le_succ_of_le h.chg, ⟨?_, ?_⟩, ⟨?_, ?_⟩, h.cap⟩
  · have := h.ops.1
    show 0 ≤ D.ops + 1
    omega
  · have := h.ops.2
    show D.ops + 1 ≤ _
    omega
  · have := h.armed.1
    show 0 ≤ (if 0 < D.armed then D.armed - 1 else D.armed)
    split <;> omega
  · have := h.armed.2
    show (if 0 < D.armed then D.armed - 1 else D.armed) < _
    split <;> omega
theorem dsm_change {t : Nat} {D : Dk} (h : DSm t D) (c : Chg) (hh : DHist (D.change c)) : DSm (t + 1) (D.change c) := by
  obtain ⟨h1, h2, h3, h4, h5, h6⟩ := h.counted_
  refine ⟨hh, h1, h2, ?_, h4, h5, h6⟩
  have := h.chg
  show (D.chg ++ [c]).length ≤ t + 1
  rw [List.length_append]
  show D.chg.length + 1 ≤ t + 1
  omega
theorem dsm_create {t : Nat} {D : Dk} (h : DSm t D) (s : List UInt8) : DSm (t + 1) (dcreateF D s).1 := by
  have hh := dcreate_hist h.hist s
  unfold dcreateF at hh ⊢
  by_cases h1 : D.dead = true
  · rw [if_pos h1]; exact h.more (Nat.le_succ _)
  by_cases h2 : nchkF s ≠ 0
  · rw [if_neg h1, if_pos h2]; exact h.more (Nat.le_succ _)
  by_cases h3 : 0 ≤ D.find s
  · rw [if_neg h1, if_neg h2, if_pos h3]; exact h.more (Nat.le_succ _)
  by_cases h4 : 200 ≤ D.dir.length
  · rw [if_neg h1, if_neg h2, if_neg h3, if_pos h4]; exact h.more (Nat.le_succ _)
  rw [if_neg h1, if_neg h2, if_neg h3, if_neg h4] at hh ⊢
  obtain ⟨-, -, -, k4, k5, k6⟩ := h.counted_
  have hf := h.files
  have hc := h.chg
  refine ⟨hh, ?_, ?_, ?_, k4, k5, k6⟩
  · intro f hf
    change f ∈ D.files ++ [([], [])] at hf
    rcases List.mem_append.1 hf with h7 | h7
    · exact h.bnd f h7
    · rw [List.mem_singleton] at h7
      subst h7
      exact ⟨by simp, by simp⟩
  · show (D.files ++ [([], [])]).length ≤ t + 1
    rw [List.length_append]
    show D.files.length + 1 ≤ t + 1
    omega
  · show (D.chg ++ [_]).length ≤ t + 1
    rw [List.length_append]
    show D.chg.length + 1 ≤ t + 1
    omega
theorem flapp_bnd {f : Fl} {s : List UInt8} (h : f.1.length ≤ 1000000 ∧ f.2.length ≤ 1000000) : (flappF f s).1.1.length ≤ 1000000 ∧ (flappF f s).1.2.length ≤ 1000000 := by
  unfold flappF
  split
  · exact ⟨by simp, by simp⟩
  · rename_i h1
    exact ⟨h.1, by show (f.2 ++ s).length ≤ _; rw [List.length_append]; omega⟩
theorem flcut_bnd {f : Fl} {n : Int} (h : f.1.length ≤ 1000000 ∧ f.2.length ≤ 1000000) : (flcutF f n).1.1.length ≤ 1000000 ∧ (flcutF f n).1.2.length ≤ 1000000 := by
  unfold flcutF
  split
  · exact ⟨by simp, by simp⟩
  · exact ⟨h.1, by show (f.2.take n.toNat).length ≤ _; rw [List.length_take]; omega⟩
theorem dsm_put {t : Nat} {D : Dk} (h : DSm t D) (n : Int) (f : Fl) (hf : f.1.length ≤ 1000000 ∧ f.2.length ≤ 1000000) (hh : DHist (D.counted.put n f)) : DSm (t + 1) (D.counted.put n f) := by
  obtain ⟨h1, h2, h3, h4, h5, h6⟩ := h.counted_
  refine ⟨hh, h1.put_ n hf, ?_, h3, h4, h5, h6⟩
  show (D.counted.files.set n.toNat f).length ≤ t + 1
  rw [List.length_set]
  exact h2
theorem dsm_counted {t : Nat} {D : Dk} (h : DSm t D) (hh : DHist D.counted) : DSm (t + 1) D.counted := by
  obtain ⟨h1, h2, h3, h4, h5, h6⟩ := h.counted_
  exact ⟨hh, h1, h2, h3, h4, h5, h6⟩
theorem dsm_app {t : Nat} {D : Dk} (h : DSm t D) (s u : List UInt8) : DSm (t + 1) (dappF D s u).1 := by
  have hh := dapp_hist h.hist s u
  unfold dappF at hh ⊢
  by_cases h1 : D.shut s ≠ 0
  · rw [if_pos h1]; exact h.more (Nat.le_succ _)
  by_cases h2 : (flappF (D.file (D.find s)) u).2 ≠ 0
  · rw [if_neg h1, if_pos h2]; exact h.more (Nat.le_succ _)
  by_cases h3 : D.cap < (D.used : Int) + u.length
  · rw [if_neg h1, if_neg h2, if_pos h3]; exact h.more (Nat.le_succ _)
  rw [if_neg h1, if_neg h2, if_neg h3] at hh ⊢
  exact dsm_put h _ _ (flapp_bnd (h.bnd.file _)) hh
theorem dsm_sync {t : Nat} {D : Dk} (h : DSm t D) (s : List UInt8) : DSm (t + 1) (dsyncF D s).1 := by
  have hh := dsync_hist h.hist s
  unfold dsyncF at hh ⊢
  by_cases h1 : D.shut s ≠ 0
  · rw [if_pos h1]; exact h.more (Nat.le_succ _)
  by_cases h2 : D.last = true
  · rw [if_neg h1, if_pos h2] at hh ⊢; exact dsm_counted h hh
  rw [if_neg h1, if_neg h2] at hh ⊢
  exact dsm_put h _ _ ⟨(h.bnd.file _).2, (h.bnd.file _).2⟩ hh
theorem dsm_cut {t : Nat} {D : Dk} (h : DSm t D) (s : List UInt8) (k : Int) : DSm (t + 1) (dcutF D s k).1 := by
  have hh := dcut_hist h.hist s k
  unfold dcutF at hh ⊢
  by_cases h1 : D.shut s ≠ 0
  · rw [if_pos h1]; exact h.more (Nat.le_succ _)
  by_cases h2 : (flcutF (D.file (D.find s)) k).2 ≠ 0
  · rw [if_neg h1, if_pos h2]; exact h.more (Nat.le_succ _)
  rw [if_neg h1, if_neg h2] at hh ⊢
  exact dsm_put h _ _ (flcut_bnd (h.bnd.file _)) hh
theorem dsm_ren {t : Nat} {D : Dk} (h : DSm t D) (a b : List UInt8) : DSm (t + 1) (drenF D a b).1 := by
  have hh := drename_hist h.hist a b
  unfold drenF at hh ⊢
  by_cases h1 : D.shut a ≠ 0
  · rw [if_pos h1]; exact h.more (Nat.le_succ _)
  by_cases h2 : nchkF b ≠ 0
  · rw [if_neg h1, if_pos h2]; exact h.more (Nat.le_succ _)
  by_cases h3 : a = b
  · rw [if_neg h1, if_neg h2, if_pos h3]; exact h.more (Nat.le_succ _)
  rw [if_neg h1, if_neg h2, if_neg h3] at hh ⊢
  exact dsm_change h _ hh
theorem dsm_rem {t : Nat} {D : Dk} (h : DSm t D) (s : List UInt8) : DSm (t + 1) (dremF D s).1 := by
  have hh := dremove_hist h.hist s
  unfold dremF at hh ⊢
  by_cases h1 : D.shut s ≠ 0
  · rw [if_pos h1]; exact h.more (Nat.le_succ _)
  rw [if_neg h1] at hh ⊢
  exact dsm_change h _ hh
theorem dsm_dirs {t : Nat} {D : Dk} (h : DSm t D) : DSm (t + 1) (ddirF D).1 := by
  have hh := ddir_hist h.hist
  unfold ddirF at hh ⊢
  by_cases h1 : D.dead = true
  · rw [if_pos h1]; exact h.more (Nat.le_succ _)
  by_cases h2 : D.last = true
  · rw [if_neg h1, if_pos h2] at hh ⊢; exact dsm_counted h hh
  rw [if_neg h1, if_neg h2] at hh ⊢
  obtain ⟨k1, k2, k3, k4, k5, k6⟩ := h.counted_
  exact ⟨hh, k1, k2, Nat.zero_le _, k4, k5, k6⟩
theorem dsm_arm {t : Nat} {D : Dk} (h : DSm t D) (n : Int) (hn : n < 9223372036854775808) : DSm (t + 1) (darmF D n).1 := by
  have hh := darm_hist h.hist n
  unfold darmF at hh ⊢
  by_cases h1 : D.dead = true
  · rw [if_pos h1]; exact h.more (Nat.le_succ _)
  by_cases h2 : n < 1
  · rw [if_neg h1, if_pos h2]; exact h.more (Nat.le_succ _)
  rw [if_neg h1, if_neg h2] at hh ⊢
  exact ⟨hh, h.bnd, Nat.le_succ_of_le h.files, Nat.le_succ_of_le h.chg, ⟨h.ops.1, by have := h.ops.2; show D.ops ≤ _; omega⟩, ⟨by show 0 ≤ n; omega, hn⟩, h.cap⟩
theorem dsm_off {t : Nat} {D : Dk} (h : DSm t D) : DSm (t + 1) (doffF D) :=
  ⟨doff_hist h.hist, h.bnd, Nat.le_succ_of_le h.files, Nat.le_succ_of_le h.chg, ⟨h.ops.1, by have := h.ops.2; show D.ops ≤ _; omega⟩, ⟨Int.le_refl _, by show (0 : Int) < _; decide⟩, h.cap⟩
theorem dfall_bnd (cuts : List Int) (marks : List (List UInt8)) : ∀ (l : List Ent) (k : Nat) (D : Dk), DBnd D → DBnd (dfall cuts marks l k D)
  | [], _, _, h => h
  | e :: t, k, D, h => by
    unfold dfall
    split
    · exact dfall_bnd cuts marks t k D h
    · have hf := h.file e.2
      have := flleft_max (D.file e.2) (cuts.getD k 0) (marks.getD k []) hf.1 hf.2
      exact dfall_bnd cuts marks t (k + 1) _ (h.put_ e.2 ⟨this, this⟩)
theorem dfall_rest (cuts : List Int) (marks : List (List UInt8)) : ∀ (l : List Ent) (k : Nat) (D : Dk), (dfall cuts marks l k D).cap = D.cap ∧ (dfall cuts marks l k D).ops = D.ops
  | [], _, _ => ⟨rfl, rfl⟩
  | e :: t, k, D => by
    unfold dfall
    split
    · exact dfall_rest cuts marks t k D
    · exact dfall_rest cuts marks t (k + 1) _
theorem dsm_boot {t : Nat} {D : Dk} (h : DSm t D) (k : Int) (cuts : List Int) (marks : List (List UInt8)) : DSm (t + 1) (dbootF D k cuts marks) := by
  have hr := dfall_rest cuts marks (dback D k) 0 D
  refine ⟨dboot_hist h.hist k cuts marks, dfall_bnd cuts marks (dback D k) 0 D h.bnd, ?_, Nat.zero_le _, ⟨?_, ?_⟩, ⟨Int.le_refl _, by show (0 : Int) < _; decide⟩, ⟨?_, ?_⟩⟩
  · show (dfall cuts marks (dback D k) 0 D).files.length ≤ t + 1
    rw [dfall_files]
    exact Nat.le_succ_of_le h.files
  · show 0 ≤ (dfall cuts marks (dback D k) 0 D).ops
    rw [hr.2]; exact h.ops.1
  · show (dfall cuts marks (dback D k) 0 D).ops ≤ _
    rw [hr.2]; have := h.ops.2; omega
  · show 0 ≤ (dfall cuts marks (dback D k) 0 D).cap
    rw [hr.1]; exact h.cap.1
  · show (dfall cuts marks (dback D k) 0 D).cap ≤ _
    rw [hr.1]; exact h.cap.2
def dDoF (D : Dk) (x : Ac) : Dk × Int :=
  if x.kind = 0 then dcreateF D x.s else if x.kind = 1 then dappF D x.s x.t else if x.kind = 2 then dsyncF D x.s else if x.kind = 3 then dcutF D x.s x.n
  else if x.kind = 4 then drenF D x.s x.t else if x.kind = 5 then dremF D x.s else if x.kind = 6 then ddirF D else if x.kind = 7 then darmF D x.n
  else if x.kind = 8 then (doffF D, 0) else if x.kind = 9 then (dbootF D x.dir x.cuts x.marks, 0) else (D, 0)
theorem dsm_do {t : Nat} {D : Dk} (h : DSm t D) (x : Ac) (hn : x.n < 9223372036854775808) : DSm (t + 1) (dDoF D x).1 := by
  unfold dDoF
  split
  · exact dsm_create h _
  split
  · exact dsm_app h _ _
  split
  · exact dsm_sync h _
  split
  · exact dsm_cut h _ _
  split
  · exact dsm_ren h _ _
  split
  · exact dsm_rem h _
  split
  · exact dsm_dirs h
  split
  · exact dsm_arm h _ hn
  split
  · exact dsm_off h
  split
  · exact dsm_boot h _ _ _
  · exact h.more (Nat.le_succ _)
def AcFew (x : Ac) : Prop := x.s.length ≤ 100 ∧ x.t.length ≤ 2000 ∧ x.marks.length ≤ 100 ∧ ∀ m ∈ x.marks, m.length ≤ 500
def Few20 (l : List Ac) : Prop := l.length ≤ 60 ∧ ∀ x ∈ l, AcFew x
end Go.Proofs.YtgoahcmgpjacjaaGreat
