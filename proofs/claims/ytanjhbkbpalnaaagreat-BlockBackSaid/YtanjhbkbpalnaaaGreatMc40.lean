/-
 What the law of the last of these texts stands on, part 40.
-/
import Derived.Test.YtanjhbkbpalnaaaGreatMc24
import Derived.Test.YtanjhbkbpalnaaaGreatMc34
set_option maxRecDepth 100000
set_option maxHeartbeats 8000000
open Go.Proofs.Tryz
namespace Go.Proofs.YtanjhbkbpalnaaaGreat
set_option linter.unusedSimpArgs false
set_option linter.unusedVariables false
open Go.ChangeShapes Go.WideShapes Go.ChangeAt Go.RowKit Go.Joins Go.Deep
def QTook (W w' : World) (r : Ending) (l : List UInt8) (hb rb g : Nat) (a b c p E : Int) : Prop :=
 PEnd r E ∧ (E = 0 → Blk w' hb 62 #[.int .i64 a, .int .i64 b, .int .i64 c] ∧ Blk w' rb 9 #[.string ⟨(l.drop p.toNat).toArray⟩] ∧ Touch W w' (fun k => k = g ∨ k = hb ∨ k = rb)) ∧ (E ≠ 0 → Touch W w' (fun k => k = g))
theorem qtook_no {W w' : World} {l : List UInt8} {hb rb g : Nat} {a b c p E q : Int} (hE : E ≠ 0) (hT : Touch W w' (fun k => k = g)) : QTook W w' (.panicked [{ v := .iface 166 (.agg #[.int .i64 E, .int .i64 q]), recovered := false }]) l hb rb g a b c p E :=
 ⟨.inr ⟨q, rfl⟩, fun e => absurd e hE, fun _ => hT⟩
theorem qtook_set {W w3 : World} {l : List UInt8} {hb rb g : Nat} {p : Int} (a b c : Int) (hh : hb ≠ g) (hr : rb ≠ g) (hhr : hb ≠ rb) (HT : TAt W w3 l g p)
  (hH : Blk W hb 62 #[.int .i64 0, .int .i64 0, .int .i64 0]) (hR : Blk W rb 9 #[.string ⟨#[]⟩]) (X : World) (hX : ((w3.setCell ⟨hb, 0, none⟩ (.int .i64 a)).setCell ⟨hb, 1, none⟩ (.int .i64 b)).setCell ⟨hb, 2, none⟩ (.int .i64 c) = X) :
  Blk X g 208 #[.string ⟨l.toArray⟩, .int .i64 p] ∧ Blk X rb 9 #[.string ⟨#[]⟩] ∧ Blk X hb 62 #[.int .i64 a, .int .i64 b, .int .i64 c] ∧ Touch W X (fun k => k = g ∨ k = hb ∨ k = rb) := by
 subst hX
 refine ⟨((HT.blk.far (fun e => hh e.symm) _).far (fun e => hh e.symm) _).far (fun e => hh e.symm) _, (((HT.keep hR hr).far (fun e => hhr e.symm) _).far (fun e => hhr e.symm) _).far (fun e => hhr e.symm) _, by simpa using (((HT.keep hH hh).set_ 0 (.int .i64 a)).set_ 1 (.int .i64 b)).set_ 2 (.int .i64 c), ?_⟩
 exact ((((HT.touch.mono (S' := fun k => k = g ∨ k = hb ∨ k = rb) (fun k _ e => qas e)).set (p := ⟨hb, 0, none⟩) (qas (qaK (qas rfl))) _).set (p := ⟨hb, 1, none⟩) (qas (qaK (qas rfl))) _).set (p := ⟨hb, 2, none⟩) (qas (qaK (qas rfl))) _)
theorem q_took (l : List UInt8) (W : World) (hb rb g : Nat) (hl : l.length ≤ 4611686018427387904) (hh : hb ≠ g) (hr : rb ≠ g) (hhr : hb ≠ rb)
  (hH : Blk W hb 62 #[.int .i64 0, .int .i64 0, .int .i64 0]) (hR : Blk W rb 9 #[.string ⟨#[]⟩]) (hB : Blk W g 208 #[.string ⟨l.toArray⟩, .int .i64 0]) :
  Calls prog 83 #[.pointer (some ⟨g, 0, none⟩), .pointer (some ⟨hb, 0, none⟩), .pointer (some ⟨rb, 0, none⟩)] W fun r w' => QTook W w' r l hb rb g (ybl l).1.1 (ybl l).1.2.1 (ybl l).1.2.2 (ybl l).2.1 (ybl l).2.2 := by
 have hmf : ∀ (fn : Fn) (first cap : Array Value) (w : World), (Instr.makeFunc fn first cap).run prog w = .ok (.func fn first cap) w := fun _ _ _ _ => rfl
 have HT : Hid (TAt W W l g 0) := qaa ⟨hB, Touch.refl _ _, qcw _, by omega⟩
 obtain ⟨a, p1, e1, h1⟩ : ∃ a p e, getF l 0 = (a, p, e) := ⟨_, _, _, rfl⟩
 obtain ⟨b, p2, e2, h2⟩ : ∃ a p e, getF l p1 = (a, p, e) := ⟨_, _, _, rfl⟩
 obtain ⟨c, p3, e3, h3⟩ : ∃ a p e, getF l p2 = (a, p, e) := ⟨_, _, _, rfl⟩
 have N1 := qaa fun w h => yfo W w l g 0 hl h
 have N2 := qaa fun w h => yfo W w l g p1 hl h
 have N3 := qaa fun w h => yfo W w l g p2 hl h
 rw [h1] at N1
 rw [h2] at N2
 rw [h3] at N3
 have HR := qaa fun w h0 hp hB => pt_rest w l g p3 hl h0 hp hB
 have Hq : Hid (ybl l = if e1 ≠ 0 then ((0, 0, 0), 0, e1) else if e2 ≠ 0 then ((0, 0, 0), 0, e2) else if e3 ≠ 0 then ((0, 0, 0), 0, e3) else ((a, b, c), p3, 0)) := qaa (by
  unfold ybl
  simp only [h1, h2, h3])
 have HH := qaa hH
 have HRb := qaa hR
 dsimp only at N1 N2 N3
 clear hB hH hR hl h1 h2 h3
 go_enter func83, ntmps83
 go_wp2_with (first
  | (go_at_call 84; (with_reducible refine (N1.out _ HT.out).mono ?_); rintro e w1 (⟨hE, rfl, hT⟩ | ⟨hE, ⟨q, rfl⟩, hT⟩); replace HT := qaa hT; have HE1 := qaa hE; clear hE hT)
  | (go_at_call 84; (with_reducible refine (N2.out _ HT.out).mono ?_); rintro e w2 (⟨hE, rfl, hT⟩ | ⟨hE, ⟨q, rfl⟩, hT⟩); replace HT := qaa hT; have HE2 := qaa hE; clear hE hT)
  | (go_at_call 84; (with_reducible refine (N3.out _ HT.out).mono ?_); rintro e w3 (⟨hE, rfl, hT⟩ | ⟨hE, ⟨q, rfl⟩, hT⟩); replace HT := qaa hT; have HE3 := qaa hE; clear hE hT; have k0 := (HT.out.keep HH.out hh).cell 0; have k1 := (HT.out.keep HH.out hh).cell 1; have k2 := (HT.out.keep HH.out hh).cell 2; have z0 := (HT.out.keep HH.out hh).frozen 0; have z1 := (HT.out.keep HH.out hh).frozen 1; have z2 := (HT.out.keep HH.out hh).frozen 2)
  | (generalize hX : ((w3.setCell ⟨hb, 0, none⟩ (.int .i64 a)).setCell ⟨hb, 1, none⟩ (.int .i64 b)).setCell ⟨hb, 2, none⟩ (.int .i64 c) = X; obtain ⟨x1, x2, x3, x4⟩ := qtook_set a b c hh hr hhr HT.out HH.out HRb.out X hX; have HX := qaa (And.intro x1 (And.intro x2 (And.intro x3 x4))); clear x1 x2 x3 x4 hX k0 k1 k2 z0 z1 z2; go_at_call 85; (with_reducible refine (HR.out _ HT.out.low HT.out.high HX.out.1).mono ?_); rintro e w4 ⟨rfl, hT⟩; have k0 := (HX.out.2.1.touch hT hr).cell 0; have z0 := (HX.out.2.1.touch hT hr).frozen 0; have HT4 := qaa hT; clear hT))
 ·go_end0
  have h1 := HE1.out
  have h2 := HE2.out
  have h3 := HE3.out
  subst h1
  subst h2
  subst h3
  rw [Hq.out]
  exact ⟨.inl ⟨rfl, _, rfl⟩, fun _ => ⟨(HX.out.2.2.1.touch HT4.out hh).far hhr _, by simpa using (HX.out.2.1.touch HT4.out hr).set_ 0 (.string ⟨(l.drop p3.toNat).toArray⟩), (HX.out.2.2.2.next (HT4.out.mono (S' := fun k => k = g ∨ k = hb ∨ k = rb) (fun k _ e => qas e)) (fun _ _ e => e)).set (p := ⟨rb, 0, none⟩) (qas (qaK (qaK rfl))) _⟩, fun h => absurd rfl h⟩
 ·refine ybC rfl ?_
  rw [Hq.out, HE1.out, HE2.out, qag (by decide), qag (by decide), qah hE]
  exact qtook_no hE hT
 ·refine ybC rfl ?_
  rw [Hq.out, HE1.out, qag (by decide), qah hE]
  exact qtook_no hE hT
 ·refine ybC rfl ?_
  rw [Hq.out, qah hE]
  exact qtook_no hE hT
end Go.Proofs.YtanjhbkbpalnaaaGreat
