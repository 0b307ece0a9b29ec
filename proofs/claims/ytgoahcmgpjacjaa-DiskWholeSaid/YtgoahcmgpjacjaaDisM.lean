/-
  Layer 20, plain: a disk (its files, its directory, as it is and as it was synced, the changes since), and what each call makes of it (ahead of the code's landing).
-/
import Derived.Test.YtgoahcmgpjacjaaFilM
import Derived.Test.YtgoahcmgpjacjaaSufM
import Derived.Test.YtgoahcmgpjacjaaNamM
namespace Go.Proofs.Ytgoahcmgpjacjaa
set_option linter.unusedSimpArgs false
set_option linter.unusedVariables false
open Go.ChangeShapes Go.WideShapes Go.ChangeAt Go.RowKit Go.Joins Go.Deep
abbrev Ent := List UInt8 × Int
abbrev Chg := List UInt8 × Ent
structure Dk where
  files : List Fl
  dir : List Ent
  safe : List Ent
  chg : List Chg
  cap : Int
  ops : Int
  armed : Int
  dead : Bool
def dnew (c : Int) : Dk := ⟨[], [], [], [], c, 0, 0, false⟩
def dwout (l : List Ent) (s : List UInt8) : List Ent := l.filter fun e => !(e.1 == s)
def dplace (s : List UInt8) : List Ent → Nat
  | [] => 0
  | e :: t => if Op.bytesLess e.1 s = true then dplace s t + 1 else 0
def dins (l : List Ent) (e : Ent) : List Ent := l.take (dplace e.1 l) ++ e :: l.drop (dplace e.1 l)
def dless (l : List Ent) (s : List UInt8) : List Ent := if s = [] then l else dwout l s
def dchgd (l : List Ent) (c : Chg) : List Ent := if c.2.1 = [] then dless l c.1 else dins (dwout (dless l c.1) c.2.1) c.2
def dfindL (s : List UInt8) : List Ent → Int
  | [] => -1
  | e :: t => if e.1 = s then e.2 else dfindL s t
def Dk.find (D : Dk) (s : List UInt8) : Int := dfindL s D.dir
def Dk.file (D : Dk) (n : Int) : Fl := D.files.getD n.toNat ([], [])
def dusedL (D : Dk) : List Ent → Nat
  | [] => 0
  | e :: t => (D.file e.2).2.length + dusedL D t
def Dk.used (D : Dk) : Nat := dusedL D D.dir
def Dk.last (D : Dk) : Bool := decide (D.armed = 1)
def Dk.counted (D : Dk) : Dk := { D with ops := D.ops + 1, armed := if 0 < D.armed then D.armed - 1 else D.armed, dead := D.dead || D.last }
def Dk.told (D : Dk) : Int := if D.last = true then 200 else 0
def Dk.change (D : Dk) (c : Chg) : Dk := { D.counted with dir := dchgd D.dir c, chg := D.chg ++ [c] }
def Dk.put (D : Dk) (n : Int) (f : Fl) : Dk := { D with files := D.files.set n.toNat f }
def Dk.shut (D : Dk) (s : List UInt8) : Int := if D.dead = true then 200 else if D.find s < 0 then 201 else 0
def dcreateF (D : Dk) (s : List UInt8) : Dk × Int :=
  if D.dead = true then (D, 200) else if nchkF s ≠ 0 then (D, nchkF s) else if 0 ≤ D.find s then (D, 202) else if 200 ≤ D.dir.length then (D, 203)
  else (({ D with files := D.files ++ [([], [])] } : Dk).change ([], (s, (D.files.length : Int))), D.told)
def dappF (D : Dk) (s t : List UInt8) : Dk × Int :=
  if D.shut s ≠ 0 then (D, D.shut s) else if (flappF (D.file (D.find s)) t).2 ≠ 0 then (D, (flappF (D.file (D.find s)) t).2)
  else if D.cap < (D.used : Int) + t.length then (D, 203) else (D.counted.put (D.find s) (flappF (D.file (D.find s)) t).1, D.told)
def dsyncF (D : Dk) (s : List UInt8) : Dk × Int :=
  if D.shut s ≠ 0 then (D, D.shut s) else if D.last = true then (D.counted, 200) else (D.counted.put (D.find s) ((D.file (D.find s)).2, (D.file (D.find s)).2), 0)
def dcutF (D : Dk) (s : List UInt8) (k : Int) : Dk × Int :=
  if D.shut s ≠ 0 then (D, D.shut s) else if (flcutF (D.file (D.find s)) k).2 ≠ 0 then (D, (flcutF (D.file (D.find s)) k).2)
  else (D.counted.put (D.find s) (flcutF (D.file (D.find s)) k).1, D.told)
def drenF (D : Dk) (a b : List UInt8) : Dk × Int :=
  if D.shut a ≠ 0 then (D, D.shut a) else if nchkF b ≠ 0 then (D, nchkF b) else if a = b then (D, 2) else (D.change (a, (b, D.find a)), D.told)
def dremF (D : Dk) (s : List UInt8) : Dk × Int := if D.shut s ≠ 0 then (D, D.shut s) else (D.change (s, ([], 0)), D.told)
def ddirF (D : Dk) : Dk × Int := if D.dead = true then (D, 200) else if D.last = true then (D.counted, 200) else ({ D.counted with safe := D.dir, chg := [] }, 0)
def dreadF (D : Dk) (s : List UInt8) : List UInt8 × Int := if D.shut s ≠ 0 then ([], D.shut s) else ((D.file (D.find s)).2, 0)
def dlistF (D : Dk) : List (List UInt8) := if D.dead = true then [] else D.dir.map (·.1)
def darmF (D : Dk) (n : Int) : Dk × Int := if D.dead = true then (D, 200) else if n < 1 then (D, 2) else ({ D with armed := n }, 0)
def doffF (D : Dk) : Dk := { D with dead := true, armed := 0 }
def dfall (cuts : List Int) (marks : List (List UInt8)) : List Ent → Nat → Dk → Dk
  | [], _, D => D
  | e :: t, k, D => if (D.file e.2).1 = (D.file e.2).2 then dfall cuts marks t k D
    else dfall cuts marks t (k + 1) (D.put e.2 (flleft (D.file e.2) (cuts.getD k 0) (marks.getD k []), flleft (D.file e.2) (cuts.getD k 0) (marks.getD k [])))
def dback (D : Dk) (k : Int) : List Ent := (D.chg.take k.toNat).foldl dchgd D.safe
def dbootF (D : Dk) (k : Int) (cuts : List Int) (marks : List (List UInt8)) : Dk :=
  { dfall cuts marks (dback D k) 0 D with dir := dback D k, safe := dback D k, chg := [], dead := false, armed := 0 }
def dokL (n : Nat) (l : List Ent) : Prop := ∀ e ∈ l, 0 ≤ e.2 ∧ e.2 < (n : Int)
structure Dk.wf (D : Dk) : Prop where
  dir : dokL D.files.length D.dir
  safe : dokL D.files.length D.safe
  chg : ∀ c ∈ D.chg, c.2.1 ≠ [] → 0 ≤ c.2.2 ∧ c.2.2 < (D.files.length : Int)
theorem dwout_mem {l : List Ent} {s : List UInt8} {e : Ent} : e ∈ dwout l s ↔ e ∈ l ∧ e.1 ≠ s := by
  unfold dwout
  rw [List.mem_filter]
  simp
theorem dins_mem {l : List Ent} {e x : Ent} : x ∈ dins l e ↔ x = e ∨ x ∈ l := by
  unfold dins
  rw [List.mem_append, List.mem_cons]
  constructor
  · rintro (h | h | h)
    · exact .inr (List.mem_of_mem_take h)
    · exact .inl h
    · exact .inr (List.mem_of_mem_drop h)
  · rintro (h | h)
    · exact .inr (.inl h)
    · rw [← List.take_append_drop (dplace e.1 l) l, List.mem_append] at h
      exact h.elim .inl fun h => .inr (.inr h)
theorem dless_mem {l : List Ent} {s : List UInt8} {e : Ent} (h : e ∈ dless l s) : e ∈ l := by
  unfold dless at h
  split at h
  · exact h
  · exact (dwout_mem.1 h).1
theorem dchgd_mem {l : List Ent} {c : Chg} {e : Ent} (h : e ∈ dchgd l c) : e ∈ l ∨ (e = c.2 ∧ c.2.1 ≠ []) := by
  unfold dchgd at h
  split at h
  · exact .inl (dless_mem h)
  · rename_i hc
    rcases dins_mem.1 h with h | h
    · exact .inr ⟨h, hc⟩
    · exact .inl (dless_mem (dwout_mem.1 h).1)
theorem dokL_more {n m : Nat} {l : List Ent} (h : dokL n l) (hm : n ≤ m) : dokL m l := fun e he => ⟨(h e he).1, by have := (h e he).2; omega⟩
theorem dokL_chgd {n : Nat} {l : List Ent} {c : Chg} (h : dokL n l) (hc : c.2.1 ≠ [] → 0 ≤ c.2.2 ∧ c.2.2 < (n : Int)) : dokL n (dchgd l c) := fun e he => by
  rcases dchgd_mem he with h1 | ⟨rfl, h2⟩
  · exact h e h1
  · exact hc h2
theorem dfindL_ok {n : Nat} {s : List UInt8} : ∀ {l : List Ent}, dokL n l → dfindL s l < (n : Int) ∧ (dfindL s l < 0 ∨ 0 ≤ dfindL s l)
  | [], _ => ⟨by unfold dfindL; omega, .inl (by unfold dfindL; omega)⟩
  | e :: t, h => by
    unfold dfindL
    have h1 := h e (List.mem_cons_self ..)
    have h2 := dfindL_ok (s := s) (l := t) fun x hx => h x (List.mem_cons_of_mem _ hx)
    split
    · exact ⟨h1.2, .inr h1.1⟩
    · exact h2
theorem Dk.wf.counted_ {D : Dk} (h : D.wf) : D.counted.wf := ⟨h.dir, h.safe, h.chg⟩
theorem Dk.wf.put_ {D : Dk} (h : D.wf) (n : Int) (f : Fl) : (D.put n f).wf := by
  have hl : (D.put n f).files.length = D.files.length := List.length_set
  exact ⟨by rw [hl]; exact h.dir, by rw [hl]; exact h.safe, by rw [hl]; exact h.chg⟩
theorem Dk.wf.change_ {D : Dk} (h : D.wf) {c : Chg} (hc : c.2.1 ≠ [] → 0 ≤ c.2.2 ∧ c.2.2 < (D.files.length : Int)) : (D.change c).wf :=
  ⟨dokL_chgd h.dir hc, h.safe, fun x hx hn => by
    rcases List.mem_append.1 hx with h1 | h1
    · exact h.chg x h1 hn
    · rw [List.mem_singleton] at h1
      subst h1
      exact hc hn⟩
theorem dnew_wf (c : Int) : (dnew c).wf := ⟨fun e h => (by cases h), fun e h => (by cases h), fun e h => (by cases h)⟩
theorem dshut_ok {D : Dk} (h : D.wf) {s : List UInt8} (hs : D.shut s = 0) : D.dead = false ∧ 0 ≤ D.find s ∧ D.find s < (D.files.length : Int) := by
  unfold Dk.shut at hs
  have h1 := dfindL_ok (s := s) h.dir
  cases hd : D.dead with
  | true => rw [hd, if_pos rfl] at hs; cases hs
  | false =>
    rw [hd, if_neg (by decide)] at hs
    by_cases h2 : D.find s < 0
    · rw [if_pos h2] at hs; cases hs
    · exact ⟨rfl, by omega, h1.1⟩
theorem dback_ok {D : Dk} (h : D.wf) (k : Int) : dokL D.files.length (dback D k) := by
  unfold dback
  have : ∀ (cs : List Chg) (l : List Ent), (∀ c ∈ cs, c ∈ D.chg) → dokL D.files.length l → dokL D.files.length (cs.foldl dchgd l) := by
    intro cs
    induction cs with
    | nil => intro l _ hl; exact hl
    | cons c cs ih =>
      intro l hc hl
      exact ih _ (fun x hx => hc x (List.mem_cons_of_mem _ hx)) (dokL_chgd hl (h.chg c (hc c (List.mem_cons_self ..))))
  exact this _ _ (fun c hc => List.mem_of_mem_take hc) h.safe
theorem dfall_files (cuts : List Int) (marks : List (List UInt8)) : ∀ (l : List Ent) (k : Nat) (D : Dk), (dfall cuts marks l k D).files.length = D.files.length
  | [], _, _ => rfl
  | e :: t, k, D => by
    unfold dfall
    split
    · exact dfall_files cuts marks t k D
    · rw [dfall_files cuts marks t (k + 1) _]
      exact List.length_set
theorem dcreate_wf {D : Dk} (h : D.wf) (s : List UInt8) : (dcreateF D s).1.wf := by
  unfold dcreateF
  split
  · exact h
  split
  · exact h
  split
  · exact h
  split
  · exact h
  refine Dk.wf.change_ (D := { D with files := D.files ++ [([], [])] }) ⟨?_, ?_, ?_⟩ ?_
  · exact dokL_more h.dir (by simp)
  · exact dokL_more h.safe (by simp)
  · intro c hc hn
    have := h.chg c hc hn
    exact ⟨this.1, by simp; omega⟩
  · intro _
    exact ⟨by simp, by simp; omega⟩
theorem dapp_wf {D : Dk} (h : D.wf) (s t : List UInt8) : (dappF D s t).1.wf := by
  unfold dappF
  split
  · exact h
  split
  · exact h
  split
  · exact h
  exact (h.counted_).put_ _ _
theorem dsync_wf {D : Dk} (h : D.wf) (s : List UInt8) : (dsyncF D s).1.wf := by
  unfold dsyncF
  split
  · exact h
  split
  · exact h.counted_
  exact (h.counted_).put_ _ _
theorem dcut_wf {D : Dk} (h : D.wf) (s : List UInt8) (k : Int) : (dcutF D s k).1.wf := by
  unfold dcutF
  split
  · exact h
  split
  · exact h
  exact (h.counted_).put_ _ _
theorem dren_wf {D : Dk} (h : D.wf) (a b : List UInt8) : (drenF D a b).1.wf := by
  unfold drenF
  by_cases h0 : D.shut a ≠ 0
  · rw [if_pos h0]; exact h
  rw [if_neg h0]
  split
  · exact h
  split
  · exact h
  have := dshut_ok h (Classical.not_not.1 h0)
  exact h.change_ fun _ => this.2
theorem drem_wf {D : Dk} (h : D.wf) (s : List UInt8) : (dremF D s).1.wf := by
  unfold dremF
  split
  · exact h
  exact h.change_ fun h => absurd rfl h
theorem ddir_wf {D : Dk} (h : D.wf) : (ddirF D).1.wf := by
  unfold ddirF
  split
  · exact h
  split
  · exact h.counted_
  exact ⟨h.dir, h.dir, fun c hc => by cases hc⟩
theorem darm_wf {D : Dk} (h : D.wf) (n : Int) : (darmF D n).1.wf := by
  unfold darmF
  split
  · exact h
  split
  · exact h
  exact ⟨h.dir, h.safe, h.chg⟩
theorem doff_wf {D : Dk} (h : D.wf) : (doffF D).wf := ⟨h.dir, h.safe, h.chg⟩
theorem dboot_wf {D : Dk} (h : D.wf) (k : Int) (cuts : List Int) (marks : List (List UInt8)) : (dbootF D k cuts marks).wf := by
  have hl : (dbootF D k cuts marks).files.length = D.files.length := dfall_files cuts marks _ 0 D
  refine ⟨?_, ?_, fun c hc => by cases hc⟩
  · rw [hl]; exact dback_ok h k
  · rw [hl]; exact dback_ok h k
end Go.Proofs.Ytgoahcmgpjacjaa
