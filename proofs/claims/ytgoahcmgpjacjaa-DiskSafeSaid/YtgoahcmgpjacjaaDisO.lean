/-
  Layer 20, plain: a disk uses no more than it may; behind a sync of all a fall changes nothing (P20.7) (ahead of the code's landing).
-/
import Derived.Test.YtgoahcmgpjacjaaDisN
namespace Go.Proofs.Ytgoahcmgpjacjaa
set_option linter.unusedSimpArgs false
set_option linter.unusedVariables false
open Go.ChangeShapes Go.WideShapes Go.ChangeAt Go.RowKit Go.Joins Go.Deep
def DOne (l : List Ent) : Prop := l.Pairwise fun x y => x.1 ≠ y.1 ∧ x.2 ≠ y.2
theorem DOne.sub {a b : List Ent} (h : DOne b) (hs : a.Sublist b) : DOne a := List.Pairwise.sublist hs h
theorem dwout_sub (l : List Ent) (s : List UInt8) : (dwout l s).Sublist l := List.filter_sublist
theorem dless_sub (l : List Ent) (s : List UInt8) : (dless l s).Sublist l := by
  unfold dless
  split
  · exact List.Sublist.refl _
  · exact dwout_sub l s
theorem DOne.ins {l : List Ent} {e : Ent} (h : DOne l) (he : ∀ x ∈ l, x.1 ≠ e.1 ∧ x.2 ≠ e.2) : DOne (dins l e) := by
  have h0 : DOne (l.take (dplace e.1 l) ++ l.drop (dplace e.1 l)) := by rw [List.take_append_drop]; exact h
  unfold DOne at h0 ⊢
  unfold dins
  rw [List.pairwise_append] at h0 ⊢
  refine ⟨h0.1, List.pairwise_cons.2 ⟨fun x hx => ?_, h0.2.1⟩, fun x hx y hy => ?_⟩
  · have := he x (List.mem_of_mem_drop hx)
    exact ⟨fun e => this.1 e.symm, fun e => this.2 e.symm⟩
  · rcases List.mem_cons.1 hy with rfl | hy
    · exact he x (List.mem_of_mem_take hx)
    · exact h0.2.2 x hx y hy
theorem DOne.chgd {l : List Ent} {c : Chg} (h : DOne l) (hc : c.2.1 ≠ [] → ∀ x ∈ dless l c.1, x.2 ≠ c.2.2) : DOne (dchgd l c) := by
  unfold dchgd
  split
  · exact h.sub (dless_sub l c.1)
  · rename_i h1
    refine (h.sub ((dwout_sub _ _).trans (dless_sub l c.1))).ins fun x hx => ?_
    have := dwout_mem.1 hx
    exact ⟨this.2, hc h1 x this.1⟩
theorem DOne.find {l : List Ent} (h : DOne l) : ∀ e ∈ l, dfindL e.1 l = e.2 := by
  induction l with
  | nil => intro e he; cases he
  | cons a t ih =>
    obtain ⟨h1, h2⟩ := List.pairwise_cons.1 h
    intro e he
    unfold dfindL
    rcases List.mem_cons.1 he with rfl | he
    · rw [if_pos rfl]
    · rw [if_neg (h1 e he).1]
      exact ih h2 e he
theorem DOne.file {l : List Ent} (h : DOne l) : ∀ x ∈ l, ∀ y ∈ l, x.2 = y.2 → x = y := by
  induction l with
  | nil => intro x hx; cases hx
  | cons a t ih =>
    obtain ⟨h1, h2⟩ := List.pairwise_cons.1 h
    intro x hx y hy e
    rcases List.mem_cons.1 hx with hx2 | hx2 <;> rcases List.mem_cons.1 hy with hy2 | hy2
    · rw [hx2, hy2]
    · exact absurd (by rw [← hx2]; exact e) (h1 y hy2).2
    · exact absurd (by rw [← hy2]; exact e.symm) (h1 x hx2).2
    · exact ih h2 x hx2 y hy2 e
theorem dfold_named : ∀ (cs : List Chg) {l : List Ent}, (∀ e ∈ l, e.1 ≠ []) → ∀ e ∈ cs.foldl dchgd l, e.1 ≠ []
  | [], _, h => h
  | c :: cs, l, h => dfold_named cs (l := dchgd l c) fun e he => by
    rcases dchgd_mem he with h1 | ⟨rfl, h1⟩
    · exact h e h1
    · exact h1
structure DHist (D : Dk) : Prop where
  wf : D.wf
  back : ∀ k, DOne ((D.chg.take k).foldl dchgd D.safe)
  dir : D.dir = D.chg.foldl dchgd D.safe
  named : ∀ e ∈ D.safe, e.1 ≠ []
theorem DHist.one {D : Dk} (h : DHist D) : DOne D.dir := by
  have := h.back D.chg.length
  rw [List.take_length] at this
  rw [h.dir]
  exact this
theorem DHist.of {D E : Dk} (h : DHist D) (hw : E.wf) (h1 : E.chg = D.chg) (h2 : E.safe = D.safe) (h3 : E.dir = D.dir) : DHist E := ⟨hw, by rw [h1, h2]; exact h.back, by rw [h1, h2, h3]; exact h.dir, by rw [h2]; exact h.named⟩
theorem DHist.change {D : Dk} (h : DHist D) {c : Chg} (hw : (D.change c).wf) (hc : c.2.1 ≠ [] → ∀ x ∈ dless D.dir c.1, x.2 ≠ c.2.2) : DHist (D.change c) := by
  have hd : (D.chg ++ [c]).foldl dchgd D.safe = dchgd D.dir c := by rw [List.foldl_append, ← h.dir]; rfl
  refine ⟨hw, fun k => ?_, hd.symm, h.named⟩
  show DOne (((D.chg ++ [c]).take k).foldl dchgd D.safe)
  by_cases hk : k ≤ D.chg.length
  · rw [List.take_append_of_le_length hk]
    exact h.back k
  · rw [List.take_of_length_le (by rw [List.length_append, List.length_singleton]; omega), hd]
    exact h.one.chgd hc
theorem dnew_hist (c : Int) : DHist (dnew c) := ⟨dnew_wf c, fun k => by show DOne (([] : List Chg).take k |>.foldl dchgd []); rw [List.take_nil]; exact List.Pairwise.nil, rfl, fun e he => by cases he⟩
theorem dcreate_hist {D : Dk} (h : DHist D) (s : List UInt8) : DHist (dcreateF D s).1 := by
  have hw := dcreate_wf h.wf s
  unfold dcreateF at hw ⊢
  split
  · exact h
  split
  · exact h
  split
  · exact h
  split
  · exact h
  rename_i h1 h2 h3 h4
  rw [if_neg h1, if_neg h2, if_neg h3, if_neg h4] at hw
  have hw0 : ({ D with files := D.files ++ [([], [])] } : Dk).wf := ⟨dokL_more h.wf.dir (by simp), dokL_more h.wf.safe (by simp), fun c hc hn => ⟨(h.wf.chg c hc hn).1, by have := (h.wf.chg c hc hn).2; simp; omega⟩⟩
  refine DHist.change (D := { D with files := D.files ++ [([], [])] }) (h.of hw0 rfl rfl rfl) hw fun _ x hx => ?_
  have := (h.wf.dir x (dless_mem hx)).2
  dsimp only at this ⊢
  omega
theorem drename_hist {D : Dk} (h : DHist D) (a b : List UInt8) : DHist (drenF D a b).1 := by
  have hw := dren_wf h.wf a b
  unfold drenF at hw ⊢
  by_cases h0 : D.shut a ≠ 0
  · rw [if_pos h0]; exact h
  rw [if_neg h0] at hw ⊢
  split
  · exact h
  split
  · exact h
  rename_i h1 h2
  rw [if_neg h1, if_neg h2] at hw
  obtain ⟨_, h3, _⟩ := dshut_ok h.wf (Classical.not_not.1 h0)
  refine h.change hw fun _ x hx => ?_
  intro e
  have hm := dfindL_mem (s := a) (l := D.dir) h3
  have ha : a ≠ [] := by
    have := dfold_named D.chg h.named (a, D.find a) (by rw [← h.dir]; exact hm)
    exact this
  have hx2 : x ∈ dwout D.dir a := by unfold dless at hx; rwa [if_neg ha] at hx
  obtain ⟨m1, m2⟩ := dwout_mem.1 hx2
  have := h.one.file x m1 _ hm e
  rw [this] at m2
  exact m2 rfl
theorem dremove_hist {D : Dk} (h : DHist D) (s : List UInt8) : DHist (dremF D s).1 := by
  have hw := drem_wf h.wf s
  unfold dremF at hw ⊢
  split
  · exact h
  rename_i h1
  rw [if_neg h1] at hw
  exact h.change hw fun e => absurd rfl e
theorem dapp_hist {D : Dk} (h : DHist D) (s t : List UInt8) : DHist (dappF D s t).1 := by
  refine h.of (dapp_wf h.wf s t) ?_ ?_ ?_ <;> unfold dappF <;> (repeat' split) <;> rfl
theorem dsync_hist {D : Dk} (h : DHist D) (s : List UInt8) : DHist (dsyncF D s).1 := by
  refine h.of (dsync_wf h.wf s) ?_ ?_ ?_ <;> unfold dsyncF <;> (repeat' split) <;> rfl
theorem dcut_hist {D : Dk} (h : DHist D) (s : List UInt8) (k : Int) : DHist (dcutF D s k).1 := by
  refine h.of (dcut_wf h.wf s k) ?_ ?_ ?_ <;> unfold dcutF <;> (repeat' split) <;> rfl
theorem darm_hist {D : Dk} (h : DHist D) (n : Int) : DHist (darmF D n).1 := by
  refine h.of (darm_wf h.wf n) ?_ ?_ ?_ <;> unfold darmF <;> (repeat' split) <;> rfl
theorem doff_hist {D : Dk} (h : DHist D) : DHist (doffF D) := h.of (doff_wf h.wf) rfl rfl rfl
theorem DHist.new_ {E : Dk} (hw : E.wf) (h1 : DOne E.dir) (h2 : E.safe = E.dir) (h3 : E.chg = []) (h4 : ∀ e ∈ E.dir, e.1 ≠ []) : DHist E :=
  ⟨hw, fun k => by rw [h3, List.take_nil, h2]; exact h1, by rw [h3, h2]; rfl, by rw [h2]; exact h4⟩
theorem DHist.named_dir {D : Dk} (h : DHist D) : ∀ e ∈ D.dir, e.1 ≠ [] := by
  rw [h.dir]
  exact dfold_named D.chg h.named
theorem ddir_hist {D : Dk} (h : DHist D) : DHist (ddirF D).1 := by
  have hw := ddir_wf h.wf
  unfold ddirF at hw ⊢
  split
  · exact h
  split
  · exact h.of h.wf.counted_ rfl rfl rfl
  rename_i h1 h2
  rw [if_neg h1, if_neg h2] at hw
  exact DHist.new_ hw h.one rfl rfl h.named_dir
theorem dboot_hist {D : Dk} (h : DHist D) (k : Int) (cuts : List Int) (marks : List (List UInt8)) : DHist (dbootF D k cuts marks) :=
  DHist.new_ (dboot_wf h.wf k cuts marks) (h.back k.toNat) rfl rfl (dfold_named _ h.named)
theorem dusedL_eq {D E : Dk} : ∀ (l : List Ent), (∀ e ∈ l, (E.file e.2).2.length = (D.file e.2).2.length) → dusedL E l = dusedL D l
  | [], _ => rfl
  | e :: t, h => by
    unfold dusedL
    rw [h e (List.mem_cons_self ..), dusedL_eq t fun x hx => h x (List.mem_cons_of_mem _ hx)]
theorem dusedL_of {D E : Dk} (h : E.files = D.files) (l : List Ent) : dusedL E l = dusedL D l := dusedL_eq l fun e _ => by unfold Dk.file; rw [h]
theorem dusedL_sub {D : Dk} {a b : List Ent} (h : a.Sublist b) : dusedL D a ≤ dusedL D b := by
  induction h with
  | slnil => exact Nat.le_refl _
  | cons e _ ih => exact Nat.le_trans ih (Nat.le_add_left _ _)
  | cons_cons e _ ih => unfold dusedL; omega
theorem dusedL_app (D : Dk) : ∀ (a b : List Ent), dusedL D (a ++ b) = dusedL D a + dusedL D b
  | [], b => (Nat.zero_add _).symm
  | e :: a, b => by
    show (D.file e.2).2.length + dusedL D (a ++ b) = (D.file e.2).2.length + dusedL D a + dusedL D b
    rw [dusedL_app D a b, Nat.add_assoc]
theorem dusedL_ins (D : Dk) (l : List Ent) (e : Ent) : dusedL D (dins l e) = dusedL D l + (D.file e.2).2.length := by
  have h := dusedL_app D (l.take (dplace e.1 l)) (l.drop (dplace e.1 l))
  rw [List.take_append_drop] at h
  unfold dins
  rw [dusedL_app, h]
  show _ + ((D.file e.2).2.length + dusedL D (l.drop (dplace e.1 l))) = _
  omega
theorem dusedL_put {D : Dk} {n : Int} {f : Fl} {m : Nat} (h0 : 0 ≤ n) (hn : n < (D.files.length : Int)) (hf : f.2.length ≤ (D.file n).2.length + m) : ∀ (l : List Ent), DOne l → (∀ e ∈ l, 0 ≤ e.2) → dusedL (D.put n f) l ≤ dusedL D l + m
  | [], _, _ => Nat.zero_le _
  | e :: t, h, hp => by
    obtain ⟨h1, h2⟩ := List.pairwise_cons.1 h
    unfold dusedL
    by_cases hen : e.2 = n
    · have h3 : dusedL (D.put n f) t = dusedL D t := dusedL_eq t fun x hx => by
        rw [dfile_set_far f (hp x (List.mem_cons_of_mem _ hx)) h0 (by rw [← hen]; exact (h1 x hx).2)]
      rw [h3, hen, dfile_set_same f h0 hn]
      omega
    · have h3 := dusedL_put h0 hn hf t h2 fun x hx => hp x (List.mem_cons_of_mem _ hx)
      rw [dfile_set_far f (hp e (List.mem_cons_self ..)) h0 (fun e2 => hen e2.symm)]
      omega
def DFits (D : Dk) : Prop := (D.used : Int) ≤ D.cap
theorem DFits.of {D E : Dk} (h : DFits D) (h1 : E.files = D.files) (h2 : E.cap = D.cap) (h3 : dusedL D E.dir ≤ dusedL D D.dir) : DFits E := by
  unfold DFits Dk.used at h ⊢
  rw [dusedL_of h1, h2]
  omega
theorem dnew_fits {c : Int} (h : 0 ≤ c) : DFits (dnew c) := h
theorem dcreate_fits {D : Dk} (h : DHist D) (hf : DFits D) (s : List UInt8) : DFits (dcreateF D s).1 := by
  unfold dcreateF
  split
  · exact hf
  split
  · exact hf
  split
  · exact hf
  split
  · exact hf
  unfold DFits at hf ⊢
  refine Int.le_trans (Int.ofNat_le.2 ?_) hf
  show dusedL _ (dchgd D.dir ([], (s, (D.files.length : Int)))) ≤ dusedL D D.dir
  have hold : ∀ (E : Dk), E.files = D.files ++ [([], [])] → (∀ e : Ent, 0 ≤ e.2 → e.2 < (D.files.length : Int) → (E.file e.2) = D.file e.2) ∧ E.file (D.files.length : Int) = ([], []) := fun E hE => by
    refine ⟨fun e h1 h2 => ?_, ?_⟩
    · unfold Dk.file
      rw [hE, List.getD_eq_getElem?_getD, List.getElem?_append_left (by omega), ← List.getD_eq_getElem?_getD]
    · unfold Dk.file
      rw [hE, List.getD_eq_getElem?_getD, Int.toNat_natCast, List.getElem?_append_right (Nat.le_refl _), Nat.sub_self]
      rfl
  have hE := hold (({ D with files := D.files ++ [([], [])] } : Dk).change ([], (s, (D.files.length : Int)))) rfl
  unfold dchgd
  split
  · rw [dusedL_eq (D := D) _ fun e he => by rw [hE.1 e (h.wf.dir e (dless_mem he)).1 (h.wf.dir e (dless_mem he)).2]]
    exact dusedL_sub (dless_sub _ _)
  · rw [dusedL_ins, hE.2, dusedL_eq (D := D) _ fun e he => by
      have h1 := h.wf.dir e (dless_mem (dwout_mem.1 he).1)
      rw [hE.1 e h1.1 h1.2]]
    exact dusedL_sub ((dwout_sub _ _).trans (dless_sub _ _))
theorem dapp_fits {D : Dk} (h : DHist D) (hf : DFits D) (s t : List UInt8) : DFits (dappF D s t).1 := by
  unfold dappF
  by_cases h0 : D.shut s ≠ 0
  · rw [if_pos h0]; exact hf
  rw [if_neg h0]
  split
  · exact hf
  rename_i h1
  split
  · exact hf
  rename_i h2
  obtain ⟨_, h3, h4⟩ := dshut_ok h.wf (Classical.not_not.1 h0)
  have h5 : (flappF (D.file (D.find s)) t).1.2.length ≤ (D.file (D.find s)).2.length + t.length := by
    unfold flappF
    split
    · exact Nat.zero_le _
    · rw [List.length_append]; exact Nat.le_refl _
  have := dusedL_put (D := D.counted) h3 h4 h5 D.dir h.one fun e he => (h.wf.dir e he).1
  unfold DFits
  show (dusedL (D.counted.put (D.find s) (flappF (D.file (D.find s)) t).1) D.dir : Int) ≤ D.cap
  have h6 : dusedL D.counted D.dir = D.used := dusedL_of (D := D) (E := D.counted) rfl D.dir
  omega
theorem dput_fits {D : Dk} (h : DHist D) (hf : DFits D) {n : Int} {f : Fl} (h0 : 0 ≤ n) (hn : n < (D.files.length : Int)) (hl : f.2.length ≤ (D.file n).2.length) : DFits (D.put n f) := by
  have := dusedL_put (D := D) (m := 0) h0 hn hl D.dir h.one fun e he => (h.wf.dir e he).1
  unfold DFits at hf ⊢
  show (dusedL (D.put n f) D.dir : Int) ≤ D.cap
  have h6 : dusedL D D.dir = D.used := rfl
  omega
theorem dsync_fits {D : Dk} (h : DHist D) (hf : DFits D) (s : List UInt8) : DFits (dsyncF D s).1 := by
  unfold dsyncF
  by_cases h0 : D.shut s ≠ 0
  · rw [if_pos h0]; exact hf
  rw [if_neg h0]
  have hc : DFits D.counted := hf.of rfl rfl (Nat.le_refl _)
  split
  · exact hc
  obtain ⟨_, h3, h4⟩ := dshut_ok h.wf (Classical.not_not.1 h0)
  exact dput_fits (h.of h.wf.counted_ rfl rfl rfl) hc h3 h4 (Nat.le_refl _)
theorem dcut_fits {D : Dk} (h : DHist D) (hf : DFits D) (s : List UInt8) (k : Int) : DFits (dcutF D s k).1 := by
  unfold dcutF
  by_cases h0 : D.shut s ≠ 0
  · rw [if_pos h0]; exact hf
  rw [if_neg h0]
  split
  · exact hf
  obtain ⟨_, h3, h4⟩ := dshut_ok h.wf (Classical.not_not.1 h0)
  refine dput_fits (h.of h.wf.counted_ rfl rfl rfl) (hf.of rfl rfl (Nat.le_refl _)) h3 h4 ?_
  show (flcutF (D.file (D.find s)) k).1.2.length ≤ (D.file (D.find s)).2.length
  unfold flcutF
  split
  · exact Nat.zero_le _
  · rw [List.length_take]; omega
theorem drename_fits {D : Dk} (h : DHist D) (hf : DFits D) (a b : List UInt8) : DFits (drenF D a b).1 := by
  unfold drenF
  by_cases h0 : D.shut a ≠ 0
  · rw [if_pos h0]; exact hf
  rw [if_neg h0]
  split
  · exact hf
  split
  · exact hf
  obtain ⟨_, h3, h4⟩ := dshut_ok h.wf (Classical.not_not.1 h0)
  have hm := dfindL_mem (s := a) (l := D.dir) h3
  have ha : a ≠ [] := h.named_dir _ hm
  refine hf.of rfl rfl ?_
  show dusedL D (dchgd D.dir (a, (b, D.find a))) ≤ dusedL D D.dir
  have hw : dusedL D (dwout D.dir a) + (D.file (D.find a)).2.length ≤ dusedL D D.dir := by
    have : ∀ l : List Ent, (a, D.find a) ∈ l → dusedL D (dwout l a) + (D.file (D.find a)).2.length ≤ dusedL D l := by
      intro l
      induction l with
      | nil => intro hx; cases hx
      | cons e t ih =>
        intro hx
        have hd : dwout (e :: t) a = if e.1 = a then dwout t a else e :: dwout t a := by
          unfold dwout
          rw [List.filter_cons]
          by_cases h1 : e.1 = a
          · rw [if_neg (by simp [h1]), if_pos h1]
          · rw [if_pos (by simp [h1]), if_neg h1]
        rw [hd]
        by_cases h1 : e.1 = a
        · rw [if_pos h1]
          have h2 : dusedL D (dwout t a) ≤ dusedL D t := dusedL_sub (dwout_sub t a)
          rcases List.mem_cons.1 hx with h3 | h3
          · rw [← h3]
            show dusedL D (dwout t a) + (D.file (D.find a)).2.length ≤ (D.file (D.find a)).2.length + dusedL D t
            omega
          · have := ih h3
            show dusedL D (dwout t a) + (D.file (D.find a)).2.length ≤ (D.file e.2).2.length + dusedL D t
            omega
        · rw [if_neg h1]
          rcases List.mem_cons.1 hx with h3 | h3
          · rw [← h3] at h1
            exact absurd rfl h1
          · have := ih h3
            show (D.file e.2).2.length + dusedL D (dwout t a) + (D.file (D.find a)).2.length ≤ (D.file e.2).2.length + dusedL D t
            omega
    exact this D.dir hm
  unfold dchgd dless
  rw [if_neg ha]
  split
  · exact dusedL_sub (dwout_sub _ _)
  · rw [dusedL_ins]
    have := dusedL_sub (D := D) (dwout_sub (dwout D.dir a) b)
    dsimp only
    omega
theorem dremove_fits {D : Dk} (h : DHist D) (hf : DFits D) (s : List UInt8) : DFits (dremF D s).1 := by
  unfold dremF
  split
  · exact hf
  refine hf.of rfl rfl ?_
  show dusedL D (dchgd D.dir (s, ([], 0))) ≤ dusedL D D.dir
  unfold dchgd
  rw [if_pos rfl]
  exact dusedL_sub (dless_sub _ _)
theorem ddir_fits {D : Dk} (hf : DFits D) : DFits (ddirF D).1 := by
  unfold ddirF
  split
  · exact hf
  split
  · exact hf.of rfl rfl (Nat.le_refl _)
  · exact hf.of rfl rfl (Nat.le_refl _)
theorem darm_fits {D : Dk} (hf : DFits D) (n : Int) : DFits (darmF D n).1 := by
  unfold darmF
  split
  · exact hf
  split
  · exact hf
  · exact hf.of rfl rfl (Nat.le_refl _)
theorem dfall_still (cuts : List Int) (marks : List (List UInt8)) : ∀ (l : List Ent) (k : Nat) (D : Dk), (∀ e ∈ l, (D.file e.2).1 = (D.file e.2).2) → dfall cuts marks l k D = D
  | [], _, _, _ => rfl
  | e :: t, k, D, h => by
    unfold dfall
    rw [if_pos (h e (List.mem_cons_self ..))]
    exact dfall_still cuts marks t k D fun x hx => h x (List.mem_cons_of_mem _ hx)
theorem dwhole {D : Dk} (h1 : D.safe = D.dir) (h2 : D.chg = []) (h3 : ∀ e ∈ D.dir, (D.file e.2).1 = (D.file e.2).2) (h4 : D.dead = false) (k : Int) (cuts : List Int) (marks : List (List UInt8)) :
    dbootF (doffF D) k cuts marks = { D with armed := 0 } := by
  have hb : dback (doffF D) k = D.dir := by
    unfold dback
    show (D.chg.take k.toNat).foldl dchgd D.safe = D.dir
    rw [h2, List.take_nil]
    exact h1
  unfold dbootF
  rw [hb, dfall_still cuts marks D.dir 0 (doffF D) h3]
  unfold doffF
  cases D
  dsimp only at h1 h2 h4
  subst h1
  subst h2
  subst h4
  rfl
end Go.Proofs.Ytgoahcmgpjacjaa
