/-
  Layer 20, the document's: Boot: what it holds on to; rows lie apart from a box (ahead of the code's landing).
-/
import Derived.Test.YtgoahcmgpjacjaaGreatDisT
import Derived.Test.YtgoahcmgpjacjaaGreatDisE
import Derived.Test.YtgoahcmgpjacjaaGreatFilR
import Derived.Deep.DeepCutAuto
namespace Go.Proofs.YtgoahcmgpjacjaaGreat
set_option linter.unusedSimpArgs false
set_option linter.unusedVariables false
open Go.ChangeShapes Go.WideShapes Go.ChangeAt Go.RowKit Go.Joins Go.Deep
theorem row_apart {α : Type} {f : α → List Value} {m n g : Nat} {t : TypeId} {A : Option Addr} {l : List α} {cs : Array Value} {W : World} (h1 : ∀ x, ∃ s, (f x)[0]? = some (.string s)) (hr : Reads W W.heap.size m A n (dcs f l)) (hl : l.length = n) (hb : Blk W g t cs) (hns : ∀ (j : Nat) s, cs[j]? ≠ some (.string s)) (hn : 0 < n) :
    ∃ b off, A = some ⟨b, off, none⟩ ∧ b < W.heap.size ∧ b ≠ g ∧ ∀ j u, (dcs f l)[j]? = some u → W.cell? ⟨b, off + j, none⟩ = some u := by
  obtain ⟨b, off, e, hlt, hc⟩ := hr.2 hn
  refine ⟨b, off, e, hlt, fun e2 => ?_, hc⟩
  subst e2
  match l, hl with
  | [], hl => simp at hl; omega
  | x :: q, _ =>
    obtain ⟨s, hs⟩ := h1 x
    have h0 : (dcs f (x :: q))[0]? = some (.string s) := by
      show (f x ++ dcs f q)[0]? = _
      have : 0 < (f x).length := by
        rcases Nat.eq_zero_or_pos (f x).length with h | h
        · rw [List.length_eq_zero_iff.1 h] at hs; cases hs
        · exact h
      rw [List.getElem?_append_left this]
      exact hs
    have h2 := hc 0 _ h0
    have h3 := hb.cell (off + 0)
    rw [h2] at h3
    exact hns _ _ h3.symm
theorem row_touch {α : Type} {f : α → List Value} {m n g : Nat} {t : TypeId} {A : Option Addr} {l : List α} {cs : Array Value} {W W' : World} (h1 : ∀ x, ∃ s, (f x)[0]? = some (.string s)) (hr : Reads W W.heap.size m A n (dcs f l)) (hl : l.length = n) (hb : Blk W g t cs) (hns : ∀ (j : Nat) s, cs[j]? ≠ some (.string s)) (ht : Touch W W' (fun k => k = g)) :
    Reads W' W'.heap.size m A n (dcs f l) :=
  ⟨hr.1, fun hn => by
    obtain ⟨b, off, e, hlt, hne, hc⟩ := row_apart h1 hr hl hb hns hn
    exact ⟨b, off, e, Nat.lt_of_lt_of_le hlt ht.size, fun j u hu => (World.cell?_of_block (w := W) (ht.block b hlt hne)).trans (hc j u hu)⟩⟩
theorem efc_text (e : Ent) : ∃ s, (efc e)[0]? = some (.string s) := ⟨_, rfl⟩
theorem cfc_text (e : Chg) : ∃ s, (cfc e)[0]? = some (.string s) := ⟨_, rfl⟩
theorem ffc_text (e : Fl) : ∃ s, (ffc e)[0]? = some (.string s) := ⟨_, rfl⟩
theorem dkc_text (E : Dk) (a : DAd) (j : Nat) (s : ByteArray) : (dkc E a)[j]? ≠ some (.string s) := by
  match j with
  | 0 => intro h; cases h
  | 1 => intro h; cases h
  | 2 => intro h; cases h
  | 3 => intro h; cases h
  | 4 => intro h; cases h
  | 5 => intro h; cases h
  | 6 => intro h; cases h
  | 7 => intro h; cases h
  | j + 8 => intro h; cases h
theorem DkMem.touch {W W' : World} {E : Dk} {a : DAd} {g : Nat} {t : TypeId} {cs : Array Value} (h : DkMem W E a) (hb : Blk W g t cs) (hns : ∀ (j : Nat) s, cs[j]? ≠ some (.string s)) (ht : Touch W W' (fun k => k = g)) : DkMem W' E a :=
  ⟨row_touch ffc_text h.files rfl hb hns ht, row_touch efc_text h.dir rfl hb hns ht, row_touch efc_text h.safe rfl hb hns ht, row_touch cfc_text h.chg rfl hb hns ht, h.k1, h.k2, h.k3, h.k4⟩
def DkB (w w' : World) (a a' : DAd) (A : Option Addr) : Prop := DkN w w' a a' ∧ ANs w w' a A
theorem DkB.late {w w2 w3 : World} {a a' : DAd} {A : Option Addr} (h : DkB w w2 a a' A) (ht : w2.heap.size ≤ w3.heap.size) : DkB w w3 a a' A := ⟨h.1.late ht, h.2.mono (Nat.le_refl _) ht⟩
theorem DkB.next {w w2 w3 : World} {a a' a'' : DAd} {A : Option Addr} (h : DkB w w2 a a' A) (ht : w2.heap.size ≤ w3.heap.size) (h2 : DkN w w3 a' a'') : DkB w w3 a a'' A := ⟨(h.1.late ht).trans h2, h.2.mono (Nat.le_refl _) ht⟩
structure DBt (w wr : World) (E : Dk) (a : DAd) (ch : Array Value) (lA : Option Addr) (l : List Ent) : Prop where
  box : Blk wr w.heap.size 33 (dkc E a)
  cho : Blk wr (w.heap.size + 1) 41 ch
  res : Blk wr (w.heap.size + 2) 33 #[.slice none 0 0, .slice none 0 0, .slice none 0 0, .slice none 0 0, .int .i64 0, .int .i64 0, .int .i64 0, .bool false]
  mem : DkMem wr E a
  row : Reads wr wr.heap.size 2 lA l.length (dcs efc l)
  below : Below w.heap.size w wr
theorem DBt.on {w wr w2 : World} {E : Dk} {a : DAd} {ch : Array Value} {lA : Option Addr} {l : List Ent} (h : DBt w wr E a ch lA l) (hb : Below wr.heap.size wr w2) : DBt w w2 E a ch lA l :=
  ⟨h.box.below hb h.box.lt, h.cho.below hb h.cho.lt, h.res.below hb h.res.lt, h.mem.on hb, dReads_on h.row hb, h.below.trans (hb.mono h.below.size)⟩
theorem DBt.next {w wr w2 : World} {E : Dk} {a : DAd} {ch : Array Value} {lA lB : Option Addr} {l k : List Ent} (h : DBt w wr E a ch lA l) (hb : Below wr.heap.size wr w2) (hr : Reads w2 w2.heap.size 2 lB k.length (dcs efc k)) : DBt w w2 E a ch lB k :=
  ⟨h.box.below hb h.box.lt, h.cho.below hb h.cho.lt, h.res.below hb h.res.lt, h.mem.on hb, hr, h.below.trans (hb.mono h.below.size)⟩
theorem DBt.put {w wr w2 : World} {E E2 : Dk} {a a2 : DAd} {ch : Array Value} {lA : Option Addr} {l : List Ent} (h : DBt w wr E a ch lA l) (ht : Touch wr w2 (fun k => k = w.heap.size)) (hx : Blk w2 w.heap.size 33 (dkc E2 a2)) (hm : DkMem wr E2 a2) : DBt w w2 E2 a2 ch lA l :=
  ⟨hx, h.cho.touch ht (by show ¬ w.heap.size + 1 = w.heap.size; omega), h.res.touch ht (by show ¬ w.heap.size + 2 = w.heap.size; omega), hm.touch h.box (dkc_text E a) ht, row_touch efc_text h.row rfl h.box (dkc_text E a) ht,
    h.below.trans (ht.below (fun k _ e => by show w.heap.size ≤ k; omega) h.below.size)⟩
theorem dchgd_len (l : List Ent) (c : Chg) : (dchgd l c).length ≤ l.length + 1 := by
  unfold dchgd
  split
  · have := dless_sub_len l c.1
    omega
  · have h1 := dless_sub_len l c.1
    have h2 := dwout_len (dless l c.1) c.2.1
    unfold dins
    rw [List.length_append, List.length_cons, List.length_take, List.length_drop]
    omega
theorem dfold_len (cs : List Chg) : ∀ l : List Ent, (cs.foldl dchgd l).length ≤ l.length + cs.length := by
  induction cs with
  | nil => intro l; simp
  | cons c t ih =>
    intro l
    have h1 := ih (dchgd l c)
    have h2 := dchgd_len l c
    rw [List.foldl_cons, List.length_cons]
    omega
theorem dfold_snoc (cs : List Chg) (l : List Ent) (k : Nat) (h : k < cs.length) : (cs.take (k + 1)).foldl dchgd l = dchgd ((cs.take k).foldl dchgd l) cs[k] := by
  rw [List.take_succ_eq_append_getElem h, List.foldl_append]
  rfl
theorem flleft_max (f : Fl) (cut : Int) (mark : List UInt8) {B : Nat} (h1 : f.1.length ≤ B) (h2 : f.2.length ≤ B) : (flleft f cut mark).length ≤ B := by
  cases h : flpre f with
  | true =>
    have h3 := of_decide_eq_true h
    have h4 := fln_le f cut h3.1
    rw [flleft_len h]
    omega
  | false =>
    unfold flleft
    rw [h, if_neg (by decide)]
    split
    · exact h2
    · exact h1
def DBnd (E : Dk) : Prop := ∀ f ∈ E.files, f.1.length ≤ 1000000 ∧ f.2.length ≤ 1000000
theorem DBnd.file {E : Dk} (h : DBnd E) (n : Int) : (E.file n).1.length ≤ 1000000 ∧ (E.file n).2.length ≤ 1000000 := by
  unfold Dk.file
  rw [List.getD_eq_getElem?_getD]
  cases hg : E.files[n.toNat]? with
  | none => exact ⟨by simp, by simp⟩
  | some f => exact h f (List.mem_of_getElem? hg)
theorem DBnd.put_ {E : Dk} (h : DBnd E) (n : Int) {f : Fl} (hf : f.1.length ≤ 1000000 ∧ f.2.length ≤ 1000000) : DBnd (E.put n f) := fun x hx => by
  rcases List.mem_or_eq_of_mem_set hx with h1 | h1
  · exact h x h1
  · rw [h1]; exact hf
end Go.Proofs.YtgoahcmgpjacjaaGreat
