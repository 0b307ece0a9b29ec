/-
  Layer 20, plain: what was synced by a name that was synced is there behind any fall, if no act cut, removed, renamed or replaced it (ahead of the code's landing).
-/
import Derived.Test.YtgoahcmgpjacjaaDisWh
import Derived.Test.YtgoahcmgpjacjaaDisN
import Derived.Test.YtgoahcmgpjacjaaDisTb
namespace Go.Proofs.Ytgoahcmgpjacjaa
set_option linter.unusedSimpArgs false
set_option linter.unusedVariables false
open Go.ChangeShapes Go.WideShapes Go.ChangeAt Go.RowKit Go.Joins Go.Deep
def DAl (D : Dk) : Prop := D.dead = false ∧ D.armed = 0
theorem DAl.last {D : Dk} (h : DAl D) : D.last = false := by
  unfold Dk.last
  rw [h.2]
  rfl
theorem DAl.counted {D : Dk} (h : DAl D) : DAl D.counted := by
  refine ⟨?_, ?_⟩
  · show (D.dead || D.last) = false
    rw [h.1, h.last]
    rfl
  · show (if 0 < D.armed then D.armed - 1 else D.armed) = 0
    rw [h.2]
    rfl
theorem dalive_do {D : Dk} (h : DAl D) (x : Ac) (h7 : x.kind ≠ 7) (h8 : x.kind ≠ 8) : DAl (dDoF D x).1 := by
  have hc := h.counted
  unfold dDoF
  split
  · unfold dcreateF; (repeat' split) <;> first | exact h | exact hc
  split
  · unfold dappF; (repeat' split) <;> first | exact h | exact hc
  split
  · unfold dsyncF; (repeat' split) <;> first | exact h | exact hc
  split
  · unfold dcutF; (repeat' split) <;> first | exact h | exact hc
  split
  · unfold drenF; (repeat' split) <;> first | exact h | exact hc
  split
  · unfold dremF; (repeat' split) <;> first | exact h | exact hc
  split
  · unfold ddirF; (repeat' split) <;> first | exact h | exact hc
  split
  · exact ⟨rfl, rfl⟩
  · exact h
theorem dsync_alive {D : Dk} (hw : D.wf) (ho : DOne D.dir) (h : DAl D) {e : Ent} (he : e ∈ D.dir) : (dsyncF D e.1).2 = 0 ∧ DAl (dsyncF D e.1).1 ∧ (dsyncF D e.1).1.dir = D.dir := by
  have hfind : D.find e.1 = e.2 := ho.find e he
  have hn := hw.dir e he
  have hs : D.shut e.1 = 0 := by
    unfold Dk.shut
    rw [h.1, if_neg (by decide), hfind, if_neg (by omega)]
  unfold dsyncF
  rw [if_neg (by rw [hs]; simp), if_neg (by rw [h.last]; decide)]
  exact ⟨rfl, h.counted, rfl⟩
theorem ddir_alive {D : Dk} (h : DAl D) : (ddirF D).2 = 0 ∧ DAl (ddirF D).1 := by
  unfold ddirF
  rw [if_neg (by rw [h.1]; decide), if_neg (by rw [h.last]; decide)]
  exact ⟨rfl, h.counted⟩
theorem dsyncs_alive {E : Dk} (hh : DHist E) (h : DAl E) : ∀ k, k ≤ E.dir.length → DAl (dsyncs E ((dlistF E).take k)) ∧ (dsyncs E ((dlistF E).take k)).dir = E.dir ∧ DHist (dsyncs E ((dlistF E).take k)) := by
  have hl : dlistF E = E.dir.map (·.1) := by unfold dlistF; rw [h.1, if_neg (by decide)]
  rw [hl]
  intro k
  induction k with
  | zero => exact fun _ => ⟨h, rfl, hh⟩
  | succ k ih =>
    intro hk
    obtain ⟨h1, h2, h3⟩ := ih (by omega)
    have hkl : k < (E.dir.map (·.1)).length := by rw [List.length_map]; omega
    rw [dsyncs_snoc E _ k hkl]
    have he : (E.dir.map (·.1))[k] = E.dir[k].1 := List.getElem_map ..
    rw [he]
    obtain ⟨k1, k2, k3⟩ := dsync_alive h3.wf (by rw [h2]; exact hh.one) h1 (e := E.dir[k]) (by rw [h2]; exact List.getElem_mem _)
    exact ⟨k2, by rw [k3, h2], dsync_hist h3 _⟩
theorem dsync_told {E : Dk} (hh : DHist E) (h : DAl E) (k : Nat) (hk : k < (dlistF E).length) : (dsyncF (dsyncs E ((dlistF E).take k)) (dlistF E)[k]).2 = 0 := by
  have hl : dlistF E = E.dir.map (·.1) := by unfold dlistF; rw [h.1, if_neg (by decide)]
  have hk2 : k < E.dir.length := by rw [hl, List.length_map] at hk; exact hk
  obtain ⟨h1, h2, h3⟩ := dsyncs_alive hh h k (by omega)
  have he : (dlistF E)[k] = E.dir[k].1 := by simp only [hl, List.getElem_map]
  rw [he]
  exact (dsync_alive h3.wf (by rw [h2]; exact hh.one) h1 (e := E.dir[k]) (by rw [h2]; exact List.getElem_mem _)).1
structure DDone (F : Dk) : Prop where
  hist : DHist F
  alive : DAl F
  safe : F.safe = F.dir
  chg : F.chg = []
  tight : ∀ e ∈ F.dir, (F.file e.2).1 = (F.file e.2).2
theorem ddone {E : Dk} (hh : DHist E) (h : DAl E) : DDone (ddirF (dsyncs E (dlistF E))).1 := by
  have hl : dlistF E = E.dir.map (·.1) := by unfold dlistF; rw [h.1, if_neg (by decide)]
  obtain ⟨h1, h2, h3⟩ := dsyncs_alive hh h E.dir.length (Nat.le_refl _)
  rw [List.take_of_length_le (by rw [hl, List.length_map]; exact Nat.le_refl _)] at h1 h2 h3
  obtain ⟨k1, -, k3⟩ := dsyncs_keep E.dir E hh.wf hh.one (fun e he => he) (by rw [← hl]; exact h1.1)
  rw [← hl] at k1 k3
  have hd := ddir_alive h1
  have hhi := ddir_hist h3
  generalize dsyncs E (dlistF E) = F at *
  have h5 : (ddirF F).1 = { F.counted with safe := F.dir, chg := [] } := by
    unfold ddirF
    rw [if_neg (by rw [h1.1]; decide), if_neg (by rw [h1.last]; decide)]
  refine ⟨hhi, hd.2, by rw [h5]; rfl, by rw [h5], fun e he => ?_⟩
  rw [h5] at he ⊢
  exact k3 e (by rw [← k1]; exact he)
theorem DDone.list {F : Dk} (h : DDone F) : dlistF F = F.dir.map (·.1) := by unfold dlistF; rw [h.alive.1, if_neg (by decide)]
theorem DDone.keep {F : Dk} (h : DDone F) (i : Nat) (hi : i < (dlistF F).length) (hj : i < (dtextsF F).length) : ∃ n, DKeep (dlistF F)[i] n (dtextsF F)[i] F := by
  have hi2 : i < F.dir.length := by rw [h.list, List.length_map] at hi; exact hi
  have e1 : (dlistF F)[i] = F.dir[i].1 := by simp only [h.list, List.getElem_map]
  have hm : F.dir[i] ∈ F.dir := List.getElem_mem hi2
  have hn := h.hist.wf.dir _ hm
  have hfind : F.find F.dir[i].1 = F.dir[i].2 := h.hist.one.find _ hm
  have e2 : (dtextsF F)[i] = (F.file F.dir[i].2).2 := by
    have : (dtextsF F)[i] = (dreadF F (dlistF F)[i]).1 := by
      simp only [dtextsF, List.getElem_map]
    rw [this, e1]
    unfold dreadF
    have hs : F.shut F.dir[i].1 = 0 := by
      unfold Dk.shut
      rw [h.alive.1, if_neg (by decide), hfind, if_neg (by omega)]
    rw [if_neg (by rw [hs]; simp), hfind]
  rw [e1, e2]
  refine ⟨F.dir[i].2, h.hist.wf, h.hist.named_dir _ hm, hn.1, hn.2, hfind, (by rw [h.safe]; exact hfind), (fun c hc => by rw [h.chg] at hc; cases hc), fun e he hen => ?_, ?_, List.prefix_refl _⟩
  · rw [h.hist.one.file e he _ hm hen]
  · rw [h.tight _ hm]
    exact List.prefix_refl _
theorem dkeep_do {s : List UInt8} {n : Int} {t : List UInt8} {D : Dk} (h : DKeep s n t D) (x : Ac) (hx : ¬ ourP x s) : DKeep s n t (dDoF D x).1 := by
  unfold ourP at hx
  unfold dDoF
  split
  · exact h.create _
  split
  · exact h.append _ _
  split
  · exact h.sync _
  split
  · rename_i h3
    exact h.cut (fun e => hx (.inl ⟨.inr (.inr h3), e⟩)) _
  split
  · rename_i h4
    exact h.rename (fun e => hx (.inl ⟨.inr (.inl h4), e⟩)) (fun e => hx (.inr (.inl ⟨h4, e⟩)))
  split
  · rename_i h5
    exact h.remove (fun e => hx (.inl ⟨.inl h5, e⟩))
  split
  · exact h.dirsync
  split
  · exact h.arm _
  split
  · exact h.off
  split
  · rename_i h9
    exact absurd (.inr (.inr h9)) hx
  · exact h
def ddos (D : Dk) (l : List Ac) : Dk := l.foldl (fun D x => (dDoF D x).1) D
theorem ddos_snoc (D : Dk) (l : List Ac) (k : Nat) (h : k < l.length) : ddos D (l.take (k + 1)) = (dDoF (ddos D (l.take k)) l[k]).1 := by
  unfold ddos
  rw [List.take_succ_eq_append_getElem h, List.foldl_append]
  rfl
theorem dkeep_dos {s : List UInt8} {n : Int} {t : List UInt8} : ∀ (l : List Ac) {D : Dk}, DKeep s n t D → (∀ x ∈ l, ¬ ourP x s) → DKeep s n t (ddos D l)
  | [], _, h, _ => h
  | x :: q, D, h, hx => dkeep_dos q (dkeep_do h x (hx x (List.mem_cons_self ..))) fun y hy => hx y (List.mem_cons_of_mem _ hy)
theorem dsafe_read {F : Dk} (h : DDone F) (more : List Ac) (k : Int) (cuts : List Int) (marks : List (List UInt8)) (i : Nat) (hi : i < (dlistF F).length) (hj : i < (dtextsF F).length) (hx : ∀ x ∈ more, ¬ ourP x (dlistF F)[i]) :
    ∃ x, dreadF (dbootF (ddos F more) k cuts marks) (dlistF F)[i] = (x, 0) ∧ x.take (dtextsF F)[i].length = (dtextsF F)[i] ∧ (dtextsF F)[i].length ≤ x.length := by
  obtain ⟨n, hk⟩ := h.keep i hi hj
  obtain ⟨x, h1, h2⟩ := (dkeep_dos more hk hx).boot k cuts marks
  exact ⟨x, h1, (List.prefix_iff_eq_take.1 h2).symm, h2.length_le⟩
end Go.Proofs.Ytgoahcmgpjacjaa
