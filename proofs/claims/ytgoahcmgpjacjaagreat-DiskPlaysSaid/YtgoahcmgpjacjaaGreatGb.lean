/-
  Layer 19, plain: a file, what is left of it; falls (P19.3), safe (P19.4) (ahead of the code's landing).
-/
/-
  Layer 12, plain: the order of texts; places in the order of their ends, laid one by one; a row in order is one list (ahead of the code's landing).
-/
/-
  Layer 18, plain: names of files; back (P18.3), one (P18.4) (ahead of the code's landing).
-/
/-
  Layer 20, plain: a disk (its files, its directory, as it is and as it was synced, the changes since), and what each call makes of it (ahead of the code's landing).
-/
/-
  Layer 20, plain: what was synced is there behind any fall (P20.6) (ahead of the code's landing).
-/
/-
  Layer 20, plain: a disk uses no more than it may; behind a sync of all a fall changes nothing (P20.7) (ahead of the code's landing).
-/
import Derived.Test.YtgoahcmgpjacjaaGreatGa
namespace Go.Proofs.YtgoahcmgpjacjaaGreat
set_option linter.unusedSimpArgs false
set_option linter.unusedVariables false
open Go.ChangeShapes Go.WideShapes Go.ChangeAt Go.RowKit Go.Joins Go.Deep
abbrev Fl := List UInt8 × List UInt8
def flappF (f : Fl) (s : List UInt8) : Fl × Int := if 1000000 < f.2.length + s.length then (([], []), 3) else ((f.1, f.2 ++ s), 0)
def flcutF (f : Fl) (n : Int) : Fl × Int := if n < 0 ∨ (f.2.length : Int) < n then (([], []), 2) else ((f.1, f.2.take n.toNat), 0)
def flpre (f : Fl) : Bool := decide (f.1.length ≤ f.2.length ∧ f.2.take f.1.length = f.1)
def fln (f : Fl) (cut : Int) : Nat := if cut < (f.2.length : Int) - f.1.length then cut.toNat else f.2.length - f.1.length
def flm (f : Fl) (cut : Int) (mark : List UInt8) : Nat := min (min mark.length 64) (fln f cut)
def flleft (f : Fl) (cut : Int) (mark : List UInt8) : List UInt8 :=
  if flpre f = true then f.1 ++ ((f.2.drop f.1.length).take (fln f cut - flm f cut mark) ++ mark.drop (mark.length - flm f cut mark)) else if 0 < cut then f.2 else f.1
theorem fln_le (f : Fl) (cut : Int) (h : f.1.length ≤ f.2.length) : fln f cut ≤ f.2.length - f.1.length := by
  unfold fln
  split <;> omega
theorem flm_le (f : Fl) (cut : Int) (mark : List UInt8) : flm f cut mark ≤ fln f cut ∧ flm f cut mark ≤ 64 ∧ flm f cut mark ≤ mark.length := by unfold flm; omega
theorem flleft_len {f : Fl} (h : flpre f = true) (cut : Int) (mark : List UInt8) : (flleft f cut mark).length = f.1.length + fln f cut := by
  have h1 := of_decide_eq_true h
  have h2 := fln_le f cut h1.1
  have h3 := flm_le f cut mark
  unfold flleft
  rw [if_pos h]
  simp only [List.length_append, List.length_take, List.length_drop]
  omega
end Go.Proofs.YtgoahcmgpjacjaaGreat

namespace Go.Proofs.YtgoahcmgpjacjaaGreat
set_option linter.unusedSimpArgs false
set_option linter.unusedVariables false
open Go.ChangeShapes Go.WideShapes Go.ChangeAt Go.RowKit Go.Joins Go.Deep
theorem slt_cons (a b : UInt8) (x y : List UInt8) : Op.bytesLess (a :: x) (b :: y) = (decide (a < b) || (a == b && Op.bytesLess x y)) := rfl
theorem slt_iff (a b : UInt8) (x y : List UInt8) : Op.bytesLess (a :: x) (b :: y) = true ↔ a.toNat < b.toNat ∨ (a = b ∧ Op.bytesLess x y = true) := by
  rw [slt_cons]
  simp [UInt8.lt_iff_toNat_lt]
theorem slt_nil (x : List UInt8) : Op.bytesLess x [] = false := by cases x <;> rfl
theorem slt_trans : ∀ x y z : List UInt8, Op.bytesLess x y = true → Op.bytesLess y z = true → Op.bytesLess x z = true
  | x, y, [], _, h => by rw [slt_nil] at h; cases h
  | x, [], _ :: _, h, _ => by rw [slt_nil] at h; cases h
  | [], _ :: _, _ :: _, _, _ => rfl
  | a :: x, b :: y, c :: z, h1, h2 => by
    rw [slt_iff] at h1 h2 ⊢
    rcases h1 with h1 | ⟨rfl, h1⟩
    · rcases h2 with h2 | ⟨rfl, h2⟩
      · exact Or.inl (by omega)
      · exact Or.inl h1
    · rcases h2 with h2 | ⟨rfl, h2⟩
      · exact Or.inl h2
      · exact Or.inr ⟨rfl, slt_trans x y z h1 h2⟩
theorem slt_total : ∀ x y : List UInt8, x ≠ y → Op.bytesLess x y = true ∨ Op.bytesLess y x = true
  | [], [], h => absurd rfl h
  | [], _ :: _, _ => Or.inl rfl
  | _ :: _, [], _ => Or.inr rfl
  | a :: x, b :: y, h => by
    rw [slt_iff, slt_iff]
    by_cases e : a = b
    · subst e
      rcases slt_total x y (fun e => h (by rw [e])) with h2 | h2
      · exact Or.inl (Or.inr ⟨rfl, h2⟩)
      · exact Or.inr (Or.inr ⟨rfl, h2⟩)
    · have : a.toNat ≠ b.toNat := fun e2 => e (UInt8.toNat_inj.1 e2)
      rcases Nat.lt_or_gt_of_ne this with h2 | h2
      · exact Or.inl (Or.inl h2)
      · exact Or.inr (Or.inl h2)
end Go.Proofs.YtgoahcmgpjacjaaGreat

namespace Go.Proofs.YtgoahcmgpjacjaaGreat
set_option linter.unusedSimpArgs false
set_option linter.unusedVariables false
open Go.ChangeShapes Go.WideShapes Go.ChangeAt Go.RowKit Go.Joins Go.Deep
def nchr (c : UInt8) : Bool := decide ((97 ≤ c.toNat ∧ c.toNat ≤ 122) ∨ (48 ≤ c.toNat ∧ c.toNat ≤ 57) ∨ c.toNat = 46 ∨ c.toNat = 45)
def nchkF (s : List UInt8) : Int := if 1 ≤ s.length ∧ s.length ≤ 64 ∧ s.all nchr = true then 0 else 180
end Go.Proofs.YtgoahcmgpjacjaaGreat

namespace Go.Proofs.YtgoahcmgpjacjaaGreat
set_option linter.unusedSimpArgs false
set_option linter.unusedVariables false
open Go.ChangeShapes Go.WideShapes Go.ChangeAt Go.RowKit Go.Joins Go.Deep
abbrev Ent := List UInt8 × Int
abbrev Chg := List UInt8 × Ent
structure Dk where
  files : List Fl
  dir : List Ent
  safe : List Ent
  chg : List Chg
  cap : Int
  ops : Int
  armed : Int
  dead : Bool
def dnew (c : Int) : Dk := ⟨[], [], [], [], c, 0, 0, false⟩
def dwout (l : List Ent) (s : List UInt8) : List Ent := l.filter fun e => !(e.1 == s)
def dplace (s : List UInt8) : List Ent → Nat
  | [] => 0
  | e :: t => if Op.bytesLess e.1 s = true then dplace s t + 1 else 0
def dins (l : List Ent) (e : Ent) : List Ent := l.take (dplace e.1 l) ++ e :: l.drop (dplace e.1 l)
def dless (l : List Ent) (s : List UInt8) : List Ent := if s = [] then l else dwout l s
def dchgd (l : List Ent) (c : Chg) : List Ent := if c.2.1 = [] then dless l c.1 else dins (dwout (dless l c.1) c.2.1) c.2
def dfindL (s : List UInt8) : List Ent → Int
  | [] => -1
  | e :: t => if e.1 = s then e.2 else dfindL s t
def Dk.find (D : Dk) (s : List UInt8) : Int := dfindL s D.dir
def Dk.file (D : Dk) (n : Int) : Fl := D.files.getD n.toNat ([], [])
def dusedL (D : Dk) : List Ent → Nat
  | [] => 0
  | e :: t => (D.file e.2).2.length + dusedL D t
def Dk.used (D : Dk) : Nat := dusedL D D.dir
def Dk.last (D : Dk) : Bool := decide (D.armed = 1)
def Dk.counted (D : Dk) : Dk := { D with ops := D.ops + 1, armed := if 0 < D.armed then D.armed - 1 else D.armed, dead := D.dead || D.last }
def Dk.told (D : Dk) : Int := if D.last = true then 200 else 0
def Dk.change (D : Dk) (c : Chg) : Dk := { D.counted with dir := dchgd D.dir c, chg := D.chg ++ [c] }
def Dk.put (D : Dk) (n : Int) (f : Fl) : Dk := { D with files := D.files.set n.toNat f }
def Dk.shut (D : Dk) (s : List UInt8) : Int := if D.dead = true then 200 else if D.find s < 0 then 201 else 0
def dcreateF (D : Dk) (s : List UInt8) : Dk × Int :=
  if D.dead = true then (D, 200) else if nchkF s ≠ 0 then (D, nchkF s) else if 0 ≤ D.find s then (D, 202) else if 200 ≤ D.dir.length then (D, 203)
  else (({ D with files := D.files ++ [([], [])] } : Dk).change ([], (s, (D.files.length : Int))), D.told)
def dappF (D : Dk) (s t : List UInt8) : Dk × Int :=
  if D.shut s ≠ 0 then (D, D.shut s) else if (flappF (D.file (D.find s)) t).2 ≠ 0 then (D, (flappF (D.file (D.find s)) t).2)
  else if D.cap < (D.used : Int) + t.length then (D, 203) else (D.counted.put (D.find s) (flappF (D.file (D.find s)) t).1, D.told)
def dsyncF (D : Dk) (s : List UInt8) : Dk × Int :=
  if D.shut s ≠ 0 then (D, D.shut s) else if D.last = true then (D.counted, 200) else (D.counted.put (D.find s) ((D.file (D.find s)).2, (D.file (D.find s)).2), 0)
def dcutF (D : Dk) (s : List UInt8) (k : Int) : Dk × Int :=
  if D.shut s ≠ 0 then (D, D.shut s) else if (flcutF (D.file (D.find s)) k).2 ≠ 0 then (D, (flcutF (D.file (D.find s)) k).2)
  else (D.counted.put (D.find s) (flcutF (D.file (D.find s)) k).1, D.told)
def drenF (D : Dk) (a b : List UInt8) : Dk × Int :=
  if D.shut a ≠ 0 then (D, D.shut a) else if nchkF b ≠ 0 then (D, nchkF b) else if a = b then (D, 2) else (D.change (a, (b, D.find a)), D.told)
def dremF (D : Dk) (s : List UInt8) : Dk × Int := if D.shut s ≠ 0 then (D, D.shut s) else (D.change (s, ([], 0)), D.told)
def ddirF (D : Dk) : Dk × Int := if D.dead = true then (D, 200) else if D.last = true then (D.counted, 200) else ({ D.counted with safe := D.dir, chg := [] }, 0)
def dreadF (D : Dk) (s : List UInt8) : List UInt8 × Int := if D.shut s ≠ 0 then ([], D.shut s) else ((D.file (D.find s)).2, 0)
def dlistF (D : Dk) : List (List UInt8) := if D.dead = true then [] else D.dir.map (·.1)
def darmF (D : Dk) (n : Int) : Dk × Int := if D.dead = true then (D, 200) else if n < 1 then (D, 2) else ({ D with armed := n }, 0)
def doffF (D : Dk) : Dk := { D with dead := true, armed := 0 }
def dfall (cuts : List Int) (marks : List (List UInt8)) : List Ent → Nat → Dk → Dk
  | [], _, D => D
  | e :: t, k, D => if (D.file e.2).1 = (D.file e.2).2 then dfall cuts marks t k D
    else dfall cuts marks t (k + 1) (D.put e.2 (flleft (D.file e.2) (cuts.getD k 0) (marks.getD k []), flleft (D.file e.2) (cuts.getD k 0) (marks.getD k [])))
def dback (D : Dk) (k : Int) : List Ent := (D.chg.take k.toNat).foldl dchgd D.safe
def dbootF (D : Dk) (k : Int) (cuts : List Int) (marks : List (List UInt8)) : Dk :=
  { dfall cuts marks (dback D k) 0 D with dir := dback D k, safe := dback D k, chg := [], dead := false, armed := 0 }
def dokL (n : Nat) (l : List Ent) : Prop := ∀ e ∈ l, 0 ≤ e.2 ∧ e.2 < (n : Int)
structure Dk.wf (D : Dk) : Prop where
  dir : dokL D.files.length D.dir
  safe : dokL D.files.length D.safe
  chg : ∀ c ∈ D.chg, c.2.1 ≠ [] → 0 ≤ c.2.2 ∧ c.2.2 < (D.files.length : Int)
theorem dwout_mem {l : List Ent} {s : List UInt8} {e : Ent} : e ∈ dwout l s ↔ e ∈ l ∧ e.1 ≠ s := by
  unfold dwout
  rw [List.mem_filter]
  simp
theorem dplace_le (s : List UInt8) : ∀ l, dplace s l ≤ l.length
  | [] => Nat.le_refl _
  | e :: t => by
    have := dplace_le s t
    unfold dplace
    split
    · rw [List.length_cons]; omega
    · exact Nat.zero_le _
theorem dins_mem {l : List Ent} {e x : Ent} : x ∈ dins l e ↔ x = e ∨ x ∈ l := by
  unfold dins
  rw [List.mem_append, List.mem_cons]
  constructor
  · rintro (h | h | h)
    · exact .inr (List.mem_of_mem_take h)
    · exact .inl h
    · exact .inr (List.mem_of_mem_drop h)
  · rintro (h | h)
    · exact .inr (.inl h)
    · rw [← List.take_append_drop (dplace e.1 l) l, List.mem_append] at h
      exact h.elim .inl fun h => .inr (.inr h)
theorem dless_mem {l : List Ent} {s : List UInt8} {e : Ent} (h : e ∈ dless l s) : e ∈ l := by
  unfold dless at h
  split at h
  · exact h
  · exact (dwout_mem.1 h).1
theorem dchgd_mem {l : List Ent} {c : Chg} {e : Ent} (h : e ∈ dchgd l c) : e ∈ l ∨ (e = c.2 ∧ c.2.1 ≠ []) := by
  unfold dchgd at h
  split at h
  · exact .inl (dless_mem h)
  · rename_i hc
    rcases dins_mem.1 h with h | h
    · exact .inr ⟨h, hc⟩
    · exact .inl (dless_mem (dwout_mem.1 h).1)
theorem dokL_more {n m : Nat} {l : List Ent} (h : dokL n l) (hm : n ≤ m) : dokL m l := fun e he => ⟨(h e he).1, by have := (h e he).2; omega⟩
theorem dokL_chgd {n : Nat} {l : List Ent} {c : Chg} (h : dokL n l) (hc : c.2.1 ≠ [] → 0 ≤ c.2.2 ∧ c.2.2 < (n : Int)) : dokL n (dchgd l c) := fun e he => by
  rcases dchgd_mem he with h1 | ⟨rfl, h2⟩
  · exact h e h1
  · exact hc h2
theorem dfindL_ok {n : Nat} {s : List UInt8} : ∀ {l : List Ent}, dokL n l → dfindL s l < (n : Int) ∧ (dfindL s l < 0 ∨ 0 ≤ dfindL s l)
  | [], _ => ⟨by unfold dfindL; omega, .inl (by unfold dfindL; omega)⟩
  | e :: t, h => by
    unfold dfindL
    have h1 := h e (List.mem_cons_self ..)
    have h2 := dfindL_ok (s := s) (l := t) fun x hx => h x (List.mem_cons_of_mem _ hx)
    split
    · exact ⟨h1.2, .inr h1.1⟩
    · exact h2
theorem Dk.wf.counted_ {D : Dk} (h : D.wf) : D.counted.wf := ⟨h.dir, h.safe, h.chg⟩
theorem Dk.wf.put_ {D : Dk} (h : D.wf) (n : Int) (f : Fl) : (D.put n f).wf := by
  have hl : (D.put n f).files.length = D.files.length := List.length_set
  exact ⟨by rw [hl]; exact h.dir, by rw [hl]; exact h.safe, by rw [hl]; exact h.chg⟩
theorem Dk.wf.change_ {D : Dk} (h : D.wf) {c : Chg} (hc : c.2.1 ≠ [] → 0 ≤ c.2.2 ∧ c.2.2 < (D.files.length : Int)) : (D.change c).wf :=
  ⟨dokL_chgd h.dir hc, h.safe, fun x hx hn => by
    rcases List.mem_append.1 hx with h1 | h1
    · exact h.chg x h1 hn
    · rw [List.mem_singleton] at h1
      subst h1
      exact hc hn⟩
theorem dnew_wf (c : Int) : (dnew c).wf := ⟨fun e h => (by cases h), fun e h => (by cases h), fun e h => (by cases h)⟩
theorem dshut_ok {D : Dk} (h : D.wf) {s : List UInt8} (hs : D.shut s = 0) : D.dead = false ∧ 0 ≤ D.find s ∧ D.find s < (D.files.length : Int) := by
  unfold Dk.shut at hs
  have h1 := dfindL_ok (s := s) h.dir
  cases hd : D.dead with
  | true => rw [hd, if_pos rfl] at hs; cases hs
  | false =>
    rw [hd, if_neg (by decide)] at hs
    by_cases h2 : D.find s < 0
    · rw [if_pos h2] at hs; cases hs
    · exact ⟨rfl, by omega, h1.1⟩
theorem dback_ok {D : Dk} (h : D.wf) (k : Int) : dokL D.files.length (dback D k) := by
  unfold dback
  have : ∀ (cs : List Chg) (l : List Ent), (∀ c ∈ cs, c ∈ D.chg) → dokL D.files.length l → dokL D.files.length (cs.foldl dchgd l) := by
    intro cs
    induction cs with
    | nil => intro l _ hl; exact hl
    | cons c cs ih =>
      intro l hc hl
      exact ih _ (fun x hx => hc x (List.mem_cons_of_mem _ hx)) (dokL_chgd hl (h.chg c (hc c (List.mem_cons_self ..))))
  exact this _ _ (fun c hc => List.mem_of_mem_take hc) h.safe
theorem dfall_files (cuts : List Int) (marks : List (List UInt8)) : ∀ (l : List Ent) (k : Nat) (D : Dk), (dfall cuts marks l k D).files.length = D.files.length
  | [], _, _ => rfl
  | e :: t, k, D => by
    unfold dfall
    split
    · exact dfall_files cuts marks t k D
    · rw [dfall_files cuts marks t (k + 1) _]
      exact List.length_set
theorem dcreate_wf {D : Dk} (h : D.wf) (s : List UInt8) : (dcreateF D s).1.wf := by
  unfold dcreateF
  split
  · exact h
  split
  · exact h
  split
  · exact h
  split
  · exact h
  refine Dk.wf.change_ (D := { D with files := D.files ++ [([], [])] }) ⟨?_, ?_, ?_⟩ ?_
  · exact dokL_more h.dir (by simp)
  · exact dokL_more h.safe (by simp)
  · intro c hc hn
    have := h.chg c hc hn
    exact ⟨this.1, by simp; omega⟩
  · intro _
    exact ⟨by simp, by simp; omega⟩
theorem dapp_wf {D : Dk} (h : D.wf) (s t : List UInt8) : (dappF D s t).1.wf := by
  unfold dappF
  split
  · exact h
  split
  · exact h
  split
  · exact h
  exact (h.counted_).put_ _ _
theorem dsync_wf {D : Dk} (h : D.wf) (s : List UInt8) : (dsyncF D s).1.wf := by
  unfold dsyncF
  split
  · exact h
  split
  · exact h.counted_
  exact (h.counted_).put_ _ _
theorem dcut_wf {D : Dk} (h : D.wf) (s : List UInt8) (k : Int) : (dcutF D s k).1.wf := by
  unfold dcutF
  split
  · exact h
  split
  · exact h
  exact (h.counted_).put_ _ _
theorem dren_wf {D : Dk} (h : D.wf) (a b : List UInt8) : (drenF D a b).1.wf := by
  unfold drenF
  by_cases h0 : D.shut a ≠ 0
  · rw [if_pos h0]; exact h
  rw [if_neg h0]
  split
  · exact h
  split
  · exact h
  have := dshut_ok h (Classical.not_not.1 h0)
  exact h.change_ fun _ => this.2
theorem drem_wf {D : Dk} (h : D.wf) (s : List UInt8) : (dremF D s).1.wf := by
  unfold dremF
  split
  · exact h
  exact h.change_ fun h => absurd rfl h
theorem ddir_wf {D : Dk} (h : D.wf) : (ddirF D).1.wf := by
  unfold ddirF
  split
  · exact h
  split
  · exact h.counted_
  exact ⟨h.dir, h.dir, fun c hc => by cases hc⟩
theorem darm_wf {D : Dk} (h : D.wf) (n : Int) : (darmF D n).1.wf := by
  unfold darmF
  split
  · exact h
  split
  · exact h
  exact ⟨h.dir, h.safe, h.chg⟩
theorem doff_wf {D : Dk} (h : D.wf) : (doffF D).wf := ⟨h.dir, h.safe, h.chg⟩
theorem dboot_wf {D : Dk} (h : D.wf) (k : Int) (cuts : List Int) (marks : List (List UInt8)) : (dbootF D k cuts marks).wf := by
  have hl : (dbootF D k cuts marks).files.length = D.files.length := dfall_files cuts marks _ 0 D
  refine ⟨?_, ?_, fun c hc => by cases hc⟩
  · rw [hl]; exact dback_ok h k
  · rw [hl]; exact dback_ok h k
end Go.Proofs.YtgoahcmgpjacjaaGreat

namespace Go.Proofs.YtgoahcmgpjacjaaGreat
set_option linter.unusedSimpArgs false
set_option linter.unusedVariables false
open Go.ChangeShapes Go.WideShapes Go.ChangeAt Go.RowKit Go.Joins Go.Deep
theorem dfindL_app (s : List UInt8) : ∀ (a b : List Ent), dfindL s (a ++ b) = if ∃ e ∈ a, e.1 = s then dfindL s a else dfindL s b
  | [], b => by rw [if_neg (by rintro ⟨e, h, _⟩; cases h)]; rfl
  | e :: a, b => by
    have ih := dfindL_app s a b
    show (if e.1 = s then e.2 else dfindL s (a ++ b)) = if ∃ x ∈ e :: a, x.1 = s then (if e.1 = s then e.2 else dfindL s a) else dfindL s b
    by_cases h : e.1 = s
    · rw [if_pos h, if_pos h, if_pos ⟨e, List.mem_cons_self .., h⟩]
    · rw [if_neg h, if_neg h, ih]
      by_cases h2 : ∃ x ∈ a, x.1 = s
      · rw [if_pos h2, if_pos]
        obtain ⟨x, h3, h4⟩ := h2
        exact ⟨x, List.mem_cons_of_mem _ h3, h4⟩
      · rw [if_neg h2, if_neg]
        rintro ⟨x, h3, h4⟩
        rcases List.mem_cons.1 h3 with rfl | h3
        · exact h h4
        · exact h2 ⟨x, h3, h4⟩
theorem dfindL_wout {s x : List UInt8} (h : s ≠ x) : ∀ l, dfindL s (dwout l x) = dfindL s l
  | [] => rfl
  | e :: t => by
    have ih := dfindL_wout h t
    unfold dwout at ih ⊢
    rw [List.filter_cons]
    by_cases h1 : e.1 = x
    · rw [if_neg (by simp [h1]), ih]
      conv => rhs; unfold dfindL
      rw [if_neg (by rw [h1]; exact fun e => h e.symm)]
    · rw [if_pos (by simp [h1])]
      unfold dfindL
      rw [ih]
theorem dfindL_ins {s : List UInt8} {e : Ent} (h : s ≠ e.1) (l : List Ent) : dfindL s (dins l e) = dfindL s l := by
  unfold dins
  have h1 := dfindL_app s (l.take (dplace e.1 l)) (e :: l.drop (dplace e.1 l))
  have h2 := dfindL_app s (l.take (dplace e.1 l)) (l.drop (dplace e.1 l))
  rw [List.take_append_drop] at h2
  rw [h1, h2]
  congr 1
  conv => lhs; unfold dfindL
  rw [if_neg (fun e => h e.symm)]
theorem dfindL_mem {s : List UInt8} : ∀ {l : List Ent}, 0 ≤ dfindL s l → (s, dfindL s l) ∈ l
  | [], h => by unfold dfindL at h; omega
  | e :: t, h => by
    unfold dfindL at h ⊢
    by_cases h1 : e.1 = s
    · rw [if_pos h1, ← h1]
      exact List.mem_cons_self ..
    · rw [if_neg h1] at h ⊢
      exact List.mem_cons_of_mem _ (dfindL_mem h)
end Go.Proofs.YtgoahcmgpjacjaaGreat

namespace Go.Proofs.YtgoahcmgpjacjaaGreat
set_option linter.unusedSimpArgs false
set_option linter.unusedVariables false
open Go.ChangeShapes Go.WideShapes Go.ChangeAt Go.RowKit Go.Joins Go.Deep
def DOne (l : List Ent) : Prop := l.Pairwise fun x y => x.1 ≠ y.1 ∧ x.2 ≠ y.2
theorem DOne.sub {a b : List Ent} (h : DOne b) (hs : a.Sublist b) : DOne a := List.Pairwise.sublist hs h
theorem dwout_sub (l : List Ent) (s : List UInt8) : (dwout l s).Sublist l := List.filter_sublist
theorem dless_sub (l : List Ent) (s : List UInt8) : (dless l s).Sublist l := by
  unfold dless
  split
  · exact List.Sublist.refl _
  · exact dwout_sub l s
theorem DOne.ins {l : List Ent} {e : Ent} (h : DOne l) (he : ∀ x ∈ l, x.1 ≠ e.1 ∧ x.2 ≠ e.2) : DOne (dins l e) := by
  have h0 : DOne (l.take (dplace e.1 l) ++ l.drop (dplace e.1 l)) := by rw [List.take_append_drop]; exact h
  unfold DOne at h0 ⊢
  unfold dins
  rw [List.pairwise_append] at h0 ⊢
  refine ⟨h0.1, List.pairwise_cons.2 ⟨fun x hx => ?_, h0.2.1⟩, fun x hx y hy => ?_⟩
  · have := he x (List.mem_of_mem_drop hx)
    exact ⟨fun e => this.1 e.symm, fun e => this.2 e.symm⟩
  · rcases List.mem_cons.1 hy with rfl | hy
    · exact he x (List.mem_of_mem_take hx)
    · exact h0.2.2 x hx y hy
theorem DOne.chgd {l : List Ent} {c : Chg} (h : DOne l) (hc : c.2.1 ≠ [] → ∀ x ∈ dless l c.1, x.2 ≠ c.2.2) : DOne (dchgd l c) := by
  unfold dchgd
  split
  · exact h.sub (dless_sub l c.1)
  · rename_i h1
    refine (h.sub ((dwout_sub _ _).trans (dless_sub l c.1))).ins fun x hx => ?_
    have := dwout_mem.1 hx
    exact ⟨this.2, hc h1 x this.1⟩
theorem DOne.find {l : List Ent} (h : DOne l) : ∀ e ∈ l, dfindL e.1 l = e.2 := by
  induction l with
  | nil => intro e he; cases he
  | cons a t ih =>
    obtain ⟨h1, h2⟩ := List.pairwise_cons.1 h
    intro e he
    unfold dfindL
    rcases List.mem_cons.1 he with rfl | he
    · rw [if_pos rfl]
    · rw [if_neg (h1 e he).1]
      exact ih h2 e he
theorem DOne.file {l : List Ent} (h : DOne l) : ∀ x ∈ l, ∀ y ∈ l, x.2 = y.2 → x = y := by
  induction l with
  | nil => intro x hx; cases hx
  | cons a t ih =>
    obtain ⟨h1, h2⟩ := List.pairwise_cons.1 h
    intro x hx y hy e
    rcases List.mem_cons.1 hx with hx2 | hx2 <;> rcases List.mem_cons.1 hy with hy2 | hy2
    · rw [hx2, hy2]
    · exact absurd (by rw [← hx2]; exact e) (h1 y hy2).2
    · exact absurd (by rw [← hy2]; exact e.symm) (h1 x hx2).2
    · exact ih h2 x hx2 y hy2 e
theorem dfold_named : ∀ (cs : List Chg) {l : List Ent}, (∀ e ∈ l, e.1 ≠ []) → ∀ e ∈ cs.foldl dchgd l, e.1 ≠ []
  | [], _, h => h
  | c :: cs, l, h => dfold_named cs (l := dchgd l c) fun e he => by
    rcases dchgd_mem he with h1 | ⟨rfl, h1⟩
    · exact h e h1
    · exact h1
structure DHist (D : Dk) : Prop where
  wf : D.wf
  back : ∀ k, DOne ((D.chg.take k).foldl dchgd D.safe)
  dir : D.dir = D.chg.foldl dchgd D.safe
  named : ∀ e ∈ D.safe, e.1 ≠ []
theorem DHist.one {D : Dk} (h : DHist D) : DOne D.dir := by
  have := h.back D.chg.length
  rw [List.take_length] at this
  rw [h.dir]
  exact this
theorem DHist.of {D E : Dk} (h : DHist D) (hw : E.wf) (h1 : E.chg = D.chg) (h2 : E.safe = D.safe) (h3 : E.dir = D.dir) : DHist E := ⟨hw, by rw [h1, h2]; exact h.back, by rw [h1, h2, h3]; exact h.dir, by rw [h2]; exact h.named⟩
theorem DHist.change {D : Dk} (h : DHist D) {c : Chg} (hw : (D.change c).wf) (hc : c.2.1 ≠ [] → ∀ x ∈ dless D.dir c.1, x.2 ≠ c.2.2) : DHist (D.change c) := by
  have hd : (D.chg ++ [c]).foldl dchgd D.safe = dchgd D.dir c := by rw [List.foldl_append, ← h.dir]; rfl
  refine ⟨hw, fun k => ?_, hd.symm, h.named⟩
  show DOne (((D.chg ++ [c]).take k).foldl dchgd D.safe)
  by_cases hk : k ≤ D.chg.length
  · rw [List.take_append_of_le_length hk]
    exact h.back k
  · rw [List.take_of_length_le (by rw [List.length_append, List.length_singleton]; omega), hd]
    exact h.one.chgd hc
theorem dnew_hist (c : Int) : DHist (dnew c) := ⟨dnew_wf c, fun k => by show DOne (([] : List Chg).take k |>.foldl dchgd []); rw [List.take_nil]; exact List.Pairwise.nil, rfl, fun e he => by cases he⟩
theorem dcreate_hist {D : Dk} (h : DHist D) (s : List UInt8) : DHist (dcreateF D s).1 := by
  have hw := dcreate_wf h.wf s
  unfold dcreateF at hw ⊢
  split
  · exact h
  split
  · exact h
  split
  · exact h
  split
  · exact h
  rename_i h1 h2 h3 h4
  rw [if_neg h1, if_neg h2, if_neg h3, if_neg h4] at hw
  have hw0 : ({ D with files := D.files ++ [([], [])] } : Dk).wf := ⟨dokL_more h.wf.dir (by simp), dokL_more h.wf.safe (by simp), fun c hc hn => ⟨(h.wf.chg c hc hn).1, by have := (h.wf.chg c hc hn).2; simp; omega⟩⟩
  refine DHist.change (D := { D with files := D.files ++ [([], [])] }) (h.of hw0 rfl rfl rfl) hw fun _ x hx => ?_
  have := (h.wf.dir x (dless_mem hx)).2
  dsimp only at this ⊢
  omega
theorem drename_hist {D : Dk} (h : DHist D) (a b : List UInt8) : DHist (drenF D a b).1 := by
  have hw := dren_wf h.wf a b
  unfold drenF at hw ⊢
  by_cases h0 : D.shut a ≠ 0
  · rw [if_pos h0]; exact h
  rw [if_neg h0] at hw ⊢
  split
  · exact h
  split
  · exact h
  rename_i h1 h2
  rw [if_neg h1, if_neg h2] at hw
  obtain ⟨_, h3, _⟩ := dshut_ok h.wf (Classical.not_not.1 h0)
  refine h.change hw fun _ x hx => ?_
  intro e
  have hm := dfindL_mem (s := a) (l := D.dir) h3
  have ha : a ≠ [] := by
    have := dfold_named D.chg h.named (a, D.find a) (by rw [← h.dir]; exact hm)
    exact this
  have hx2 : x ∈ dwout D.dir a := by unfold dless at hx; rwa [if_neg ha] at hx
  obtain ⟨m1, m2⟩ := dwout_mem.1 hx2
  have := h.one.file x m1 _ hm e
  rw [this] at m2
  exact m2 rfl
theorem dremove_hist {D : Dk} (h : DHist D) (s : List UInt8) : DHist (dremF D s).1 := by
  have hw := drem_wf h.wf s
  unfold dremF at hw ⊢
  split
  · exact h
  rename_i h1
  rw [if_neg h1] at hw
  exact h.change hw fun e => absurd rfl e
theorem dapp_hist {D : Dk} (h : DHist D) (s t : List UInt8) : DHist (dappF D s t).1 := by
  refine h.of (dapp_wf h.wf s t) ?_ ?_ ?_ <;> unfold dappF <;> (repeat' split) <;> rfl
theorem dsync_hist {D : Dk} (h : DHist D) (s : List UInt8) : DHist (dsyncF D s).1 := by
  refine h.of (dsync_wf h.wf s) ?_ ?_ ?_ <;> unfold dsyncF <;> (repeat' split) <;> rfl
theorem dcut_hist {D : Dk} (h : DHist D) (s : List UInt8) (k : Int) : DHist (dcutF D s k).1 := by
  refine h.of (dcut_wf h.wf s k) ?_ ?_ ?_ <;> unfold dcutF <;> (repeat' split) <;> rfl
theorem darm_hist {D : Dk} (h : DHist D) (n : Int) : DHist (darmF D n).1 := by
  refine h.of (darm_wf h.wf n) ?_ ?_ ?_ <;> unfold darmF <;> (repeat' split) <;> rfl
theorem doff_hist {D : Dk} (h : DHist D) : DHist (doffF D) := h.of (doff_wf h.wf) rfl rfl rfl
theorem DHist.new_ {E : Dk} (hw : E.wf) (h1 : DOne E.dir) (h2 : E.safe = E.dir) (h3 : E.chg = []) (h4 : ∀ e ∈ E.dir, e.1 ≠ []) : DHist E :=
  ⟨hw, fun k => by rw [h3, List.take_nil, h2]; exact h1, by rw [h3, h2]; rfl, by rw [h2]; exact h4⟩
theorem DHist.named_dir {D : Dk} (h : DHist D) : ∀ e ∈ D.dir, e.1 ≠ [] := by
  rw [h.dir]
  exact dfold_named D.chg h.named
theorem ddir_hist {D : Dk} (h : DHist D) : DHist (ddirF D).1 := by
  have hw := ddir_wf h.wf
  unfold ddirF at hw ⊢
  split
  · exact h
  split
  · exact h.of h.wf.counted_ rfl rfl rfl
  rename_i h1 h2
  rw [if_neg h1, if_neg h2] at hw
  exact DHist.new_ hw h.one rfl rfl h.named_dir
theorem dboot_hist {D : Dk} (h : DHist D) (k : Int) (cuts : List Int) (marks : List (List UInt8)) : DHist (dbootF D k cuts marks) :=
  DHist.new_ (dboot_wf h.wf k cuts marks) (h.back k.toNat) rfl rfl (dfold_named _ h.named)
theorem dusedL_sub {D : Dk} {a b : List Ent} (h : a.Sublist b) : dusedL D a ≤ dusedL D b := by
  induction h with
  | slnil => exact Nat.le_refl _
  | cons e _ ih => exact Nat.le_trans ih (Nat.le_add_left _ _)
  | cons_cons e _ ih => unfold dusedL; omega
theorem dusedL_app (D : Dk) : ∀ (a b : List Ent), dusedL D (a ++ b) = dusedL D a + dusedL D b
  | [], b => (Nat.zero_add _).symm
  | e :: a, b => by
    show (D.file e.2).2.length + dusedL D (a ++ b) = (D.file e.2).2.length + dusedL D a + dusedL D b
    rw [dusedL_app D a b, Nat.add_assoc]
end Go.Proofs.YtgoahcmgpjacjaaGreat
