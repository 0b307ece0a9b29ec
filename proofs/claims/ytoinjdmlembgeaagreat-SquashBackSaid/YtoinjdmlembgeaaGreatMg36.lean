/-
 What the law of the last of these texts stands on, part 36.
-/
import Derived.Test.YtoinjdmlembgeaaGreatMg24
namespace Go.Proofs.YtoinjdmlembgeaaGreat
set_option linter.unusedSimpArgs false
set_option linter.unusedVariables false
open Go.ChangeShapes Go.WideShapes Go.ChangeAt Go.RowKit Go.Joins Go.Deep
set_option maxRecDepth 100000 in
set_option maxHeartbeats 1000000 in
theorem done_yes (l : List UInt8) (p g : Nat) (w : World) (hl : l.length ≤ 1099511627776) (hp : p ≤ 8 * l.length) (hB : RHold w g l p) (h8 : 8 * l.length - p < 8) (hz : lz ((yag l).drop p) = 8 * l.length - p) :
  Calls Tryz.prog 58 #[.pointer (some ⟨g, 0, none⟩)] w fun e w' => e = .returned (.bool true) ∧ ∃ k, w.drewN k = w' := by
 have hnou := fun v hB => ycG l p g v hl hp hB
 have hleft := fun v hB => ybV l p g v (by omega) hp hB
 rw [hz] at hnou
 have h8i : ((8 * l.length - p : Nat) : Int) < 8 := by omega
 have HB := Lib.hid hB
 clear hB hz hp hl h8
 generalize 8 * l.length - p = M at *
 go_enter Tryz.func58, Tryz.ntmps58
 go_wp2_with (first
  | (go_at_call 90; refine (ycw g _).mono ?_; rintro e w1 ⟨rfl, rfl⟩)
  | (go_at_call 92; refine (hnou _ (HB.out.drewN _)).mono ?_; rintro e w1 ⟨rfl, k0, rfl⟩)
  | (go_at_call 91; (first | (refine (hleft _ HB.out).mono ?_) | (refine (hleft _ (HB.out.drewN _)).mono ?_)); rintro e w1 ⟨rfl, k1, rfl⟩))
 go_ret
 exact ⟨by simp, _, rfl⟩
theorem tget_out (L : List Nat) (p : Nat) (N : Int) (h : N < 0 ∨ 257 < N) : ybF L p N = ([], p, 2) := by
 unfold ybF
 rw [if_pos h]
theorem tget_in (L : List Nat) (p M : Nat) (hM : M ≤ 257) (Z : List Int × Nat × Int) (hZ : ycy L M (M + 1) p (-1) [] = Z) : ybF L p (M : Int) = if trdE Z ≠ 0 then ([], p, trdE Z) else (trdL Z, Z.2.1, 0) := by
 unfold ybF trdE trdL
 rw [if_neg (by omega), Int.toNat_natCast, hZ]
 by_cases h : Z.2.2 ≠ 0
 ·rw [if_pos h, if_pos h, if_pos h]
 ·rw [if_neg h, if_neg h, if_neg h]
theorem trd_zero {Z : List Int × Nat × Int} (h : trdE Z = 0) : Z.2.2 = 0 := by
 unfold trdE at h
 by_cases h2 : Z.2.2 ≠ 0
 ·rw [if_pos h2] at h
  exact h
 ·omega
theorem treads_set {w : World} {size n : Nat} {A : Option Addr} {xs : List Value} (h : Reads w w.heap.size size A n xs) {p : Addr} (hp : ∀ a : Addr, A = some a → a.block ≠ p.block) (u : Value) : Reads (w.setCell p u) (w.setCell p u).heap.size size A n xs := by
 refine ⟨h.1, fun hn => ?_⟩
 obtain ⟨b, off, e, hb, hc⟩ := h.2 hn
 refine ⟨b, off, e, by simpa [World.setCell] using hb, fun j u2 hu => ?_⟩
 rw [World.cell?_setCell_other w p _ u (fun e2 => hp _ e (by rw [e2]))]
 exact hc j u2 hu
def TGot (w w' : World) (s : List UInt8) (g : Nat) (e : Ending) (F : List Int × Nat × Int) : Prop :=
 ∃ A' c', e = .returned (.tuple #[.slice A' F.1.length c', .int .i64 F.2.2]) ∧ F.1.length ≤ c' ∧ Reads w' w'.heap.size 1 A' F.1.length (ints F.1) ∧ RHold w' g s F.2.1 ∧ Touch w w' (fun k => k = g)
theorem tgot_bad {w w' : World} {s : List UInt8} {g p : Nat} {E : Int} (hR : RHold w' g s p) (ht : Touch w w' (fun k => k = g)) : TGot w w' s g (.returned (.tuple #[.slice none 0 0, .int .i64 E])) ([], p, E) :=
 ⟨none, 0, rfl, Nat.le_refl _, Reads.none_, hR, ht⟩
set_option maxRecDepth 100000 in
set_option maxHeartbeats 4000000 in
theorem tgot_any (s : List UInt8) (p g : Nat) (N : Int) (w : World) (hs : s.length ≤ 100000000000) (hp : p ≤ 8 * s.length) (hR : RHold w g s p) :
  Calls Tryz.prog 55 #[.pointer (some ⟨g, 0, none⟩), .int .i64 N] w fun e w' => TGot w w' s g e (ybF (yag s) p N) := by
 by_cases h1 : N < 0
 ·rw [tget_out _ _ _ (Or.inl h1)]
  go_enter Tryz.func55, Tryz.ntmps55
  go_wp2
  go_ret2
  exact tgot_bad hR (Touch.refl _ _)
 by_cases h2 : 257 < N
 ·rw [tget_out _ _ _ (Or.inr h2)]
  go_enter Tryz.func55, Tryz.ntmps55
  go_wp2
  go_ret2
  exact tgot_bad hR (Touch.refl _ _)
 obtain ⟨M, rfl⟩ := Int.eq_ofNat_of_zero_le (by omega : 0 ≤ N)
 obtain ⟨Z, hZ⟩ : ∃ Z, ycy (yag s) M (M + 1) p (-1) [] = Z := ⟨_, rfl⟩
 rw [tget_in _ _ _ (by omega) Z hZ]
 obtain ⟨c1, c2, z1, z2⟩ := Blk.two hR
 have hgl := Blk.lt hR
 have hMi : (0 : Int) ≤ (M : Int) ∧ (M : Int) ≤ 257 := by omega
 have Hread := Lib.hid (p_tread_any s p w.heap.size M (w.alloc (.cells #[.string ⟨s.toArray⟩, .int .i64 (p : Int)] 134)) (by omega) hs hp (Blk.new w _ _) Z hZ)
 have HR := Lib.hid hR
 have Hback : Hid (∀ w2, Touch (w.alloc (.cells #[.string ⟨s.toArray⟩, .int .i64 (p : Int)] 134)) w2 (fun k => k = w.heap.size) → RHold w2 g s p ∧ Touch w w2 (fun k => k = g)) := Lib.hid fun w2 h =>
  ⟨(Blk.alloc hR _).touch h (by omega), ((Touch.refl w _).alloc _).next h (fun k hk e => by omega)⟩
 clear hZ hR hs hp
 by_cases hE : trdE Z = 0
 ·rw [if_neg (by simpa using hE)]
  have hz := trd_zero hE
  have HE := Lib.hid hE
  have Hz := Lib.hid hz
  clear hE hz
  go_enter Tryz.func55, Tryz.ntmps55
  go_wp2_with (go_at_call 87; refine Hread.out.mono ?_; unfold yeb; rintro e w2 ⟨A2, cv2, q, rfl, h3, h4, h5, h6, h7, h8⟩; rw [HE.out]; have hq := h7 Hz.out; subst hq; obtain ⟨g1, g2⟩ := Hback.out _ h6; have H3 := Lib.hid h3; have H4 := Lib.hid h4; have G1 := Lib.hid g1; have G2 := Lib.hid g2; have H8 := Lib.hid h8; obtain ⟨d1, d2, _, _⟩ := Blk.two h5; obtain ⟨e1, e2, e3, e4⟩ := Blk.two g1; clear h3 h4 h5 h6 h7 h8 g1 g2)
  go_ret2
  refine ⟨A2, cv2, rfl, H3.out, ?_, ?_, ?_⟩
  ·exact treads_set (treads_set H4.out (fun a h => by have := H8.out a h; rw [World.size_alloc] at this; show a.block ≠ g; omega) _) (fun a h => by have := H8.out a h; rw [World.size_alloc] at this; show a.block ≠ g; omega) _
  ·exact ((Blk.set_ G1.out 0 _).set_ 1 _)
  ·exact (G2.out.set (p := ⟨g, 0, none⟩) (Or.inl rfl) _).set (p := ⟨g, 1, none⟩) (Or.inl rfl) _
 ·rw [if_pos (by simpa using hE)]
  have hb1 : (trdE Z == 0) = false := by simpa using hE
  have hb2 : (trdE Z != 0) = true := by simpa using hE
  go_enter Tryz.func55, Tryz.ntmps55
  go_wp2_with (go_at_call 87; refine Hread.out.mono ?_; unfold yeb; rintro e w2 ⟨A2, cv2, q, rfl, h3, h4, h5, h6, h7, h8⟩; obtain ⟨g1, g2⟩ := Hback.out _ h6; have G1 := Lib.hid g1; have G2 := Lib.hid g2; clear h3 h4 h5 h6 h7 h8 g1 g2)
  go_ret2
  exact tgot_bad G1.out G2.out
end Go.Proofs.YtoinjdmlembgeaaGreat
