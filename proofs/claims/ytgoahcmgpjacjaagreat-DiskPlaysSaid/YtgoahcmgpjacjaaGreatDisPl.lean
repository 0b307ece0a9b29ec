/-
  Layer 20: the law's two disks beside one another: where the document's rows lie (ahead of the code's landing).
-/
import Derived.Test.YtgoahcmgpjacjaaGreatDisWi
import Derived.Test.YtgoahcmgpjacjaaGreatDisSm
namespace Go.Proofs.YtgoahcmgpjacjaaGreat
set_option linter.unusedSimpArgs false
set_option linter.unusedVariables false
open Go.ChangeShapes Go.WideShapes Go.ChangeAt Go.RowKit Go.Joins Go.Deep
def AdF (S : Nat → Prop) (W : World) (A : Option Addr) : Prop := ∀ p, A = some p → ¬ S p.block ∧ p.block < W.heap.size
def DFar (S : Nat → Prop) (W : World) (a : DAd) : Prop := AdF S W a.a1 ∧ AdF S W a.a2 ∧ AdF S W a.a3 ∧ AdF S W a.a4
theorem DFar.on {S : Nat → Prop} {W W' : World} {a : DAd} (h : DFar S W a) (hs : W.heap.size ≤ W'.heap.size) : DFar S W' a :=
  ⟨fun p e => ⟨(h.1 p e).1, Nat.lt_of_lt_of_le (h.1 p e).2 hs⟩, fun p e => ⟨(h.2.1 p e).1, Nat.lt_of_lt_of_le (h.2.1 p e).2 hs⟩, fun p e => ⟨(h.2.2.1 p e).1, Nat.lt_of_lt_of_le (h.2.2.1 p e).2 hs⟩, fun p e => ⟨(h.2.2.2 p e).1, Nat.lt_of_lt_of_le (h.2.2.2 p e).2 hs⟩⟩
theorem ANs.far {S : Nat → Prop} {W W' : World} {a : DAd} {A : Option Addr} (h : ANs W W' a A) (hf : DFar S W a) (hS : ∀ k, S k → k < W.heap.size) (hs : W.heap.size ≤ W'.heap.size) : AdF S W' A := by
  have hf := hf.on hs
  rcases h with h | h | h | h | h | ⟨b, off, h1, h2, h3⟩
  · intro p e; rw [h] at e; cases e
  · rw [h]; exact hf.1
  · rw [h]; exact hf.2.1
  · rw [h]; exact hf.2.2.1
  · rw [h]; exact hf.2.2.2
  · intro p e
    rw [h1] at e
    injection e with e
    subst e
    exact ⟨fun hk => by have := hS b hk; omega, h3⟩
theorem DFar.ref {S : Nat → Prop} {W W' : World} {a a' : DAd} (h : DFar S W a) (hN : DkN W W' a a') (hS : ∀ k, S k → k < W.heap.size) (hs : W.heap.size ≤ W'.heap.size) : DFar S W' a' :=
  ⟨hN.1.far h hS hs, hN.2.1.far h hS hs, hN.2.2.1.far h hS hs, hN.2.2.2.far h hS hs⟩
theorem AdF.op {S S' : Nat → Prop} {W W' : World} {A : Option Addr} (h : AdF S W A) (hs : W.heap.size ≤ W'.heap.size) (hS : ∀ k, S' k → S k ∨ W.heap.size ≤ k) : AdF S' W' A := fun p e => by
  obtain ⟨h1, h2⟩ := h p e
  refine ⟨fun hk => ?_, Nat.lt_of_lt_of_le h2 hs⟩
  rcases hS _ hk with h3 | h3
  · exact h1 h3
  · omega
theorem DFar.op {S S' : Nat → Prop} {W W' : World} {a : DAd} (h : DFar S W a) (hs : W.heap.size ≤ W'.heap.size) (hS : ∀ k, S' k → S k ∨ W.heap.size ≤ k) : DFar S' W' a :=
  ⟨h.1.op hs hS, h.2.1.op hs hS, h.2.2.1.op hs hS, h.2.2.2.op hs hS⟩
theorem far_row {S : Nat → Prop} {W W' : World} {m n : Nat} {A : Option Addr} {xs : List Value} (h : Reads W W.heap.size m A n xs) (hf : AdF S W A) (ht : Touch W W' S) : Reads W' W'.heap.size m A n xs := by
  refine ⟨h.1, fun hn => ?_⟩
  obtain ⟨b, off, e, hb, hc⟩ := h.2 hn
  exact ⟨b, off, e, Nat.lt_of_lt_of_le hb ht.size, fun j u hu => (World.cell?_of_block (w := W) (ht.block b hb (hf _ e).1)).trans (hc j u hu)⟩
theorem DkMem.op {S : Nat → Prop} {W W' : World} {E : Dk} {a : DAd} (h : DkMem W E a) (hf : DFar S W a) (ht : Touch W W' S) : DkMem W' E a :=
  ⟨far_row h.files hf.1 ht, far_row h.dir hf.2.1 ht, far_row h.safe hf.2.2.1 ht, far_row h.chg hf.2.2.2 ht, h.k1, h.k2, h.k3, h.k4⟩
structure DPl (w wr : World) (S : Nat → Prop) (g gr : Nat) (E F : Dk) (c : DAd) (G : Dk) (a : DAd) (t : Nat) : Prop where
  disk : DAt w wr S g E t
  box : Blk wr gr 33 (dkc F c)
  mem : DkMem wr G a
  far : DFar S wr a
  apart : ¬ S gr
  low : w.heap.size ≤ gr
theorem DPl.on {w wr w2 : World} {S : Nat → Prop} {g gr : Nat} {E F : Dk} {c : DAd} {G : Dk} {a : DAd} {t : Nat} (h : DPl w wr S g gr E F c G a t) (hb : Below wr.heap.size wr w2) : DPl w w2 S g gr E F c G a t :=
  ⟨h.disk.on hb, h.box.below hb h.box.lt, h.mem.on hb, h.far.on hb.size, h.apart, h.low⟩
theorem DPl.ref {w wr w2 : World} {S : Nat → Prop} {g gr : Nat} {E F : Dk} {c : DAd} {G G2 : Dk} {a a2 : DAd} {t : Nat} (h : DPl w wr S g gr E F c G a t) (hb : Below wr.heap.size wr w2) (hm : DkMem w2 G2 a2) (hn : DkN wr w2 a a2) : DPl w w2 S g gr E F c G2 a2 t :=
  ⟨h.disk.on hb, h.box.below hb h.box.lt, hm, h.far.ref hn h.disk.dr.lt hb.size, h.apart, h.low⟩
theorem DPl.put {w wr w2 : World} {S : Nat → Prop} {g gr : Nat} {E F : Dk} {c : DAd} {G : Dk} {a : DAd} {t : Nat} (h : DPl w wr S g gr E F c G a t) (hx : Blk w2 gr 33 (dkc G a)) (ht : Touch wr w2 (fun k => k = gr)) : DPl w w2 S g gr E G a G a t := by
  have hlt := h.box.lt
  refine ⟨⟨h.disk.dr.keep fun k hk => ht.block k (h.disk.dr.lt k hk) (fun e => h.apart (e ▸ hk)), h.disk.sm, h.disk.new, h.disk.below.trans (ht.below (fun k _ e => by rw [e]; exact h.low) h.disk.below.size)⟩, hx, h.mem.touch h.box (dkc_text F c) ht, h.far.on ht.size, h.apart, h.low⟩
theorem DPl.op {w wr w2 : World} {S : Nat → Prop} {g gr : Nat} {E E2 F : Dk} {c : DAd} {G : Dk} {a : DAd} {t u : Nat} (h : DPl w wr S g gr E F c G a t) (ho : DOp wr w2 S g E2) (hs : DSm u E2) : ∃ S', DPl w w2 S' g gr E2 F c G a u := by
  obtain ⟨S', h1, h2, h3⟩ := h.disk.op ho hs
  refine ⟨S', h1, h.box.touch h2 h.apart, h.mem.op h.far h2, h.far.op h2.size h3, fun hk => ?_, h.low⟩
  rcases h3 _ hk with h4 | h4
  · exact h.apart h4
  · have := h.box.lt; omega
theorem DPl.side {w wr w2 : World} {S : Nat → Prop} {g gr gT : Nat} {E F : Dk} {c : DAd} {G : Dk} {a : DAd} {t : Nat} {u : TypeId} {cs : Array Value} (h : DPl w wr S g gr E F c G a t) (hT : Blk wr gT u cs) (hns : ∀ (j : Nat) s, cs[j]? ≠ some (.string s)) (ht : Touch wr w2 (fun k => k = gT)) (hne : gr ≠ gT) (hS : ¬ S gT) (hl : w.heap.size ≤ gT) : DPl w w2 S g gr E F c G a t :=
  ⟨⟨h.disk.dr.keep fun k hk => ht.block k (h.disk.dr.lt k hk) (fun e => hS (e ▸ hk)), h.disk.sm, h.disk.new, h.disk.below.trans (ht.below (fun k _ e => by rw [e]; exact hl) h.disk.below.size)⟩, h.box.touch ht hne, h.mem.touch hT hns ht, h.far.on ht.size, h.apart, h.low⟩
end Go.Proofs.YtgoahcmgpjacjaaGreat
