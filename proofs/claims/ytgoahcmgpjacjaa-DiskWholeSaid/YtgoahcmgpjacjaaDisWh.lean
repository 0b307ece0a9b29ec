/-
  Layer 20, plain: acts keep a disk's capacity; behind a sync of all files and of the directory a fall changes nothing (ahead of the code's landing).
-/
import Derived.Test.YtgoahcmgpjacjaaDisDm
namespace Go.Proofs.Ytgoahcmgpjacjaa
set_option linter.unusedSimpArgs false
set_option linter.unusedVariables false
open Go.ChangeShapes Go.WideShapes Go.ChangeAt Go.RowKit Go.Joins Go.Deep
theorem ddo_cap (D : Dk) (x : Ac) : (dDoF D x).1.cap = D.cap := by
  unfold dDoF
  split
  · unfold dcreateF; (repeat' split) <;> rfl
  split
  · unfold dappF; (repeat' split) <;> rfl
  split
  · unfold dsyncF; (repeat' split) <;> rfl
  split
  · unfold dcutF; (repeat' split) <;> rfl
  split
  · unfold drenF; (repeat' split) <;> rfl
  split
  · unfold dremF; (repeat' split) <;> rfl
  split
  · unfold ddirF; (repeat' split) <;> rfl
  split
  · unfold darmF; (repeat' split) <;> rfl
  split
  · rfl
  split
  · exact (dfall_rest x.cuts x.marks (dback D x.dir) 0 D).1
  · rfl
theorem ddo_fits {D : Dk} (h : DHist D) (hf : DFits D) (x : Ac) (hk : x.kind ≠ 9) : DFits (dDoF D x).1 := by
  unfold dDoF
  split
  · exact dcreate_fits h hf _
  split
  · exact dapp_fits h hf _ _
  split
  · exact dsync_fits h hf _
  split
  · exact dcut_fits h hf _ _
  split
  · exact drename_fits h hf _ _
  split
  · exact dremove_fits h hf _
  split
  · exact ddir_fits hf
  split
  · exact darm_fits hf _
  split
  · exact hf.of rfl rfl (Nat.le_refl _)
  exact hf
def dsyncs (E : Dk) (l : List (List UInt8)) : Dk := l.foldl (fun E s => (dsyncF E s).1) E
theorem dsyncs_snoc (E : Dk) (l : List (List UInt8)) (k : Nat) (h : k < l.length) : dsyncs E (l.take (k + 1)) = (dsyncF (dsyncs E (l.take k)) l[k]).1 := by
  unfold dsyncs
  rw [List.take_succ_eq_append_getElem h, List.foldl_append]
  rfl
theorem dsync_dead {E : Dk} (h : E.dead = true) (s : List UInt8) : (dsyncF E s).1 = E := by
  unfold dsyncF Dk.shut
  rw [if_pos h, if_pos (by decide)]
theorem dsyncs_dead : ∀ (l : List (List UInt8)) {E : Dk}, E.dead = true → dsyncs E l = E
  | [], _, _ => rfl
  | s :: t, E, h => by
    show dsyncs (dsyncF E s).1 t = E
    rw [dsync_dead h s]
    exact dsyncs_dead t h
theorem dsyncs_keep : ∀ (l : List Ent) (E : Dk), E.wf → DOne E.dir → (∀ e ∈ l, e ∈ E.dir) → (dsyncs E (l.map (·.1))).dead = false →
    (dsyncs E (l.map (·.1))).dir = E.dir ∧ (∀ n : Int, 0 ≤ n → (E.file n).1 = (E.file n).2 → ((dsyncs E (l.map (·.1))).file n).1 = ((dsyncs E (l.map (·.1))).file n).2) ∧ ∀ e ∈ l, ((dsyncs E (l.map (·.1))).file e.2).1 = ((dsyncs E (l.map (·.1))).file e.2).2
  | [], E, _, _, _, _ => ⟨rfl, fun _ _ h => h, fun e he => by cases he⟩
  | e :: t, E, hw, ho, hm, hd => by
    change (dsyncs (dsyncF E e.1).1 (t.map (·.1))).dead = false at hd
    have he := hm e (List.mem_cons_self ..)
    have hfind : E.find e.1 = e.2 := ho.find e he
    have hn := hw.dir e he
    have hE : E.dead = false := by
      cases h : E.dead with
      | false => rfl
      | true =>
        rw [dsync_dead h, dsyncs_dead _ h, h] at hd
        cases hd
    have hs : E.shut e.1 = 0 := by
      unfold Dk.shut
      rw [hE, if_neg (by decide), hfind, if_neg (by omega)]
    have hl : E.last = false := by
      cases h : E.last with
      | false => rfl
      | true =>
        have h2 : (dsyncF E e.1).1 = E.counted := by
          unfold dsyncF
          rw [if_neg (by rw [hs]; simp), if_pos h]
        have h3 : E.counted.dead = true := by
          show (E.dead || E.last) = true
          rw [h, Bool.or_true]
        rw [h2, dsyncs_dead _ h3, h3] at hd
        cases hd
    have h2 : (dsyncF E e.1).1 = E.counted.put e.2 ((E.file e.2).2, (E.file e.2).2) := by
      unfold dsyncF
      rw [if_neg (by rw [hs]; simp), if_neg (by rw [hl]; simp), hfind]
    have hw2 : (dsyncF E e.1).1.wf := dsync_wf hw e.1
    have hdir : (dsyncF E e.1).1.dir = E.dir := by rw [h2]; rfl
    obtain ⟨k1, k2, k3⟩ := dsyncs_keep t (dsyncF E e.1).1 hw2 (by rw [hdir]; exact ho) (fun x hx => by rw [hdir]; exact hm x (List.mem_cons_of_mem _ hx)) hd
    have hsame : ((dsyncF E e.1).1.file e.2).1 = ((dsyncF E e.1).1.file e.2).2 := by
      rw [h2, dfile_set_same (D := E.counted) _ hn.1 hn.2]
    show (dsyncs (dsyncF E e.1).1 (t.map (·.1))).dir = E.dir ∧ _
    refine ⟨by rw [k1, hdir], fun n hn0 hf => ?_, fun x hx => ?_⟩
    · refine k2 n hn0 ?_
      by_cases hne : e.2 = n
      · rw [← hne]; exact hsame
      · rw [h2, dfile_set_far (D := E.counted) _ hn0 hn.1 hne]
        exact hf
    · rcases List.mem_cons.1 hx with rfl | hx
      · exact k2 _ hn.1 hsame
      · exact k3 x hx
theorem dwhole_sync {E : Dk} (h : DHist E) (hE : E.dead = false) (hd : (ddirF (dsyncs E (dlistF E))).1.dead = false) (k : Int) (cuts : List Int) (marks : List (List UInt8)) :
    dbootF (doffF (ddirF (dsyncs E (dlistF E))).1) k cuts marks = { (ddirF (dsyncs E (dlistF E))).1 with armed := 0 } ∧ (ddirF (dsyncs E (dlistF E))).1.chg = [] := by
  have hl : dlistF E = E.dir.map (·.1) := by unfold dlistF; rw [hE, if_neg (by decide)]
  rw [hl] at hd ⊢
  have hd1 : (dsyncs E (E.dir.map (·.1))).dead = false := by
    cases h1 : (dsyncs E (E.dir.map (·.1))).dead with
    | false => rfl
    | true =>
      unfold ddirF at hd
      rw [if_pos h1, h1] at hd
      cases hd
  obtain ⟨k1, -, k3⟩ := dsyncs_keep E.dir E h.wf h.one (fun e he => he) hd1
  generalize dsyncs E (E.dir.map (·.1)) = F at *
  have hlast : F.last = false := by
    cases h1 : F.last with
    | false => rfl
    | true =>
      unfold ddirF at hd
      rw [if_neg (by rw [hd1]; decide), if_pos h1] at hd
      change (F.dead || F.last) = false at hd
      rw [h1, Bool.or_true] at hd
      cases hd
  have h2 : (ddirF F).1 = { F.counted with safe := F.dir, chg := [] } := by
    unfold ddirF
    rw [if_neg (by rw [hd1]; decide), if_neg (by rw [hlast]; decide)]
  refine ⟨dwhole ?_ ?_ ?_ hd k cuts marks, by rw [h2]⟩
  · rw [h2]
    rfl
  · rw [h2]
  · rw [h2]
    intro e he
    exact k3 e (by rw [← k1]; exact he)
end Go.Proofs.Ytgoahcmgpjacjaa
