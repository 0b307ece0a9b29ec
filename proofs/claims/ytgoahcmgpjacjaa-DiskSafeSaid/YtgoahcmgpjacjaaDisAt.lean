/-
  Layer 20: a disk of a law's own, and what each act makes of it (ahead of the code's landing).
-/
import Derived.Test.YtgoahcmgpjacjaaDisY
namespace Go.Proofs.Ytgoahcmgpjacjaa
set_option linter.unusedSimpArgs false
set_option linter.unusedVariables false
open Go.ChangeShapes Go.WideShapes Go.ChangeAt Go.RowKit Go.Joins Go.Deep
structure DAt (w W : World) (S : Nat → Prop) (g : Nat) (D : Dk) (t : Nat) : Prop where
  dr : DR W S g D
  sm : DSm t D
  new : ∀ k, S k → w.heap.size ≤ k
  below : Below w.heap.size w W
theorem DAt.on {w W W' : World} {S : Nat → Prop} {g : Nat} {D : Dk} {t : Nat} (h : DAt w W S g D t) (hb : Below W.heap.size W W') : DAt w W' S g D t :=
  ⟨h.dr.keep fun k hk => hb.block k (h.dr.lt k hk), h.sm, h.new, h.below.trans (hb.mono h.below.size)⟩
theorem DAt.op {w W W' : World} {S : Nat → Prop} {g : Nat} {D E : Dk} {t u : Nat} (h : DAt w W S g D t) (ho : DOp W W' S g E) (hs : DSm u E) : ∃ S', DAt w W' S' g E u ∧ Touch W W' S ∧ ∀ k, S' k → S k ∨ W.heap.size ≤ k := by
  obtain ⟨h1, S', h2, h3⟩ := ho
  refine ⟨S', ⟨h2, hs, fun k hk => ?_, h.below.trans (h1.below (fun k _ hk => h.new k hk) h.below.size)⟩, h1, h3⟩
  rcases h3 k hk with h4 | h4
  · exact h.new k h4
  · exact Nat.le_trans h.below.size h4
structure DKp (W : World) (S : Nat → Prop) (m : Nat) (A : Option Addr) (n : Nat) (xs : List Value) : Prop where
  row : Reads W W.heap.size m A n xs
  far : 0 < n → ∃ b off, A = some ⟨b, off, none⟩ ∧ ¬ S b
theorem DKp.on {W W' : World} {S : Nat → Prop} {m n : Nat} {A : Option Addr} {xs : List Value} (h : DKp W S m A n xs) (hb : Below W.heap.size W W') : DKp W' S m A n xs := ⟨dReads_on h.row hb, h.far⟩
theorem DKp.op {W W' : World} {S S' : Nat → Prop} {m n : Nat} {A : Option Addr} {xs : List Value} (h : DKp W S m A n xs) (ht : Touch W W' S) (hs : ∀ k, S' k → S k ∨ W.heap.size ≤ k) : DKp W' S' m A n xs := by
  refine ⟨⟨h.row.1, fun hn => ?_⟩, fun hn => ?_⟩
  · obtain ⟨b, off, e, hb, hc⟩ := h.row.2 hn
    obtain ⟨b2, off2, e2, hf⟩ := h.far hn
    rw [e] at e2
    injection e2 with e2
    injection e2 with e2 e3
    subst e2
    exact ⟨b, off, e, Nat.lt_of_lt_of_le hb ht.size, fun j u hu => (World.cell?_of_block (w := W) (ht.block b hb hf)).trans (hc j u hu)⟩
  · obtain ⟨b, off, e, hb, hc⟩ := h.row.2 hn
    obtain ⟨b2, off2, e2, hf⟩ := h.far hn
    rw [e] at e2
    injection e2 with e2
    injection e2 with e2 e3
    subst e2
    refine ⟨b, off, e, fun hk => ?_⟩
    rcases hs b hk with h1 | h1
    · exact hf h1
    · omega
theorem DAt.kp {w W W' : World} {S : Nat → Prop} {g : Nat} {D : Dk} {t m n : Nat} {A : Option Addr} {xs : List Value} (h : DAt w W S g D t) (hr : Reads W' W'.heap.size m A n xs) (hn : 0 < n → ∃ b off, A = some ⟨b, off, none⟩ ∧ W.heap.size ≤ b) : DKp W' S m A n xs :=
  ⟨hr, fun h0 => by
    obtain ⟨b, off, e, hb⟩ := hn h0
    exact ⟨b, off, e, fun hs => by have := h.dr.lt b hs; omega⟩⟩
end Go.Proofs.Ytgoahcmgpjacjaa
