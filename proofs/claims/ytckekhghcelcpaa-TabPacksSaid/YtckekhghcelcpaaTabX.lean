/-
  Layer 10: the program's Get and Unpack, for every text, place and number; the contracts that the layer's laws stand on.
-/
import Derived.Test.YtckekhghcelcpaaTabH
import Derived.Test.YtckekhghcelcpaaTabP
namespace Go.Proofs.Ytckekhghcelcpaa
set_option linter.unusedSimpArgs false
set_option linter.unusedVariables false
open Go.ChangeShapes Go.WideShapes Go.ChangeAt Go.RowKit Go.Joins Go.Deep

theorem tget_out (L : List Nat) (p : Nat) (N : Int) (h : N < 0 ∨ 257 < N) : tgetF L p N = ([], p, 2) := by
  unfold tgetF
  rw [if_pos h]
theorem tget_in (L : List Nat) (p M : Nat) (hM : M ≤ 257) (Z : List Int × Nat × Int) (hZ : tget1 L M (M + 1) p (-1) [] = Z) : tgetF L p (M : Int) = if trdE Z ≠ 0 then ([], p, trdE Z) else (trdL Z, Z.2.1, 0) := by
  unfold tgetF trdE trdL
  rw [if_neg (by omega), Int.toNat_natCast, hZ]
  by_cases h : Z.2.2 ≠ 0
  · rw [if_pos h, if_pos h, if_pos h]
  · rw [if_neg h, if_neg h, if_neg h]
theorem trd_zero {Z : List Int × Nat × Int} (h : trdE Z = 0) : Z.2.2 = 0 := by
  unfold trdE at h
  by_cases h2 : Z.2.2 ≠ 0
  · rw [if_pos h2] at h
    exact h
  · omega

theorem treads_set {w : World} {size n : Nat} {A : Option Addr} {xs : List Value} (h : Reads w w.heap.size size A n xs) {p : Addr} (hp : ∀ a : Addr, A = some a → a.block ≠ p.block) (u : Value) : Reads (w.setCell p u) (w.setCell p u).heap.size size A n xs := by
  refine ⟨h.1, fun hn => ?_⟩
  obtain ⟨b, off, e, hb, hc⟩ := h.2 hn
  refine ⟨b, off, e, by simpa [World.setCell] using hb, fun j u2 hu => ?_⟩
  rw [World.cell?_setCell_other w p _ u (fun e2 => hp _ e (by rw [e2]))]
  exact hc j u2 hu
/-- What Get answers, and where the reader is then. -/
def TGot (w w' : World) (s : List UInt8) (g : Nat) (e : Ending) (F : List Int × Nat × Int) : Prop :=
  ∃ A' c', e = .returned (.tuple #[.slice A' F.1.length c', .int .i64 F.2.2]) ∧ F.1.length ≤ c' ∧ Reads w' w'.heap.size 1 A' F.1.length (ints F.1) ∧ RHold w' g s F.2.1 ∧ Touch w w' (fun k => k = g)
theorem tgot_bad {w w' : World} {s : List UInt8} {g p : Nat} {E : Int} (hR : RHold w' g s p) (ht : Touch w w' (fun k => k = g)) : TGot w w' s g (.returned (.tuple #[.slice none 0 0, .int .i64 E])) ([], p, E) :=
  ⟨none, 0, rfl, Nat.le_refl _, Reads.none_, hR, ht⟩

set_option maxRecDepth 100000 in
set_option maxHeartbeats 4000000 in
theorem tgot_any (s : List UInt8) (p g : Nat) (N : Int) (w : World) (hs : s.length ≤ 100000000000) (hp : p ≤ 8 * s.length) (hR : RHold w g s p) :
    Calls Try.prog 17 #[.pointer (some ⟨g, 0, none⟩), .int .i64 N] w fun e w' => TGot w w' s g e (tgetF (rowOf s) p N) := by
  by_cases h1 : N < 0
  · rw [tget_out _ _ _ (Or.inl h1)]
    go_enter Try.func17, Try.ntmps17
    go_wp2
    go_ret2
    exact tgot_bad hR (Touch.refl _ _)
  by_cases h2 : 257 < N
  · rw [tget_out _ _ _ (Or.inr h2)]
    go_enter Try.func17, Try.ntmps17
    go_wp2
    go_ret2
    exact tgot_bad hR (Touch.refl _ _)
  obtain ⟨M, rfl⟩ := Int.eq_ofNat_of_zero_le (by omega : 0 ≤ N)
  obtain ⟨Z, hZ⟩ : ∃ Z, tget1 (rowOf s) M (M + 1) p (-1) [] = Z := ⟨_, rfl⟩
  rw [tget_in _ _ _ (by omega) Z hZ]
  obtain ⟨c1, c2, z1, z2⟩ := Blk.two hR
  have hgl := Blk.lt hR
  have hMi : (0 : Int) ≤ (M : Int) ∧ (M : Int) ≤ 257 := by omega
  have Hread := Lib.hid (p_tread_any s p w.heap.size M (w.alloc (.cells #[.string ⟨s.toArray⟩, .int .i64 (p : Int)] 59)) (by omega) hs hp (Blk.new w _ _) Z hZ)
  have HR := Lib.hid hR
  have Hback : Hid (∀ w2, Touch (w.alloc (.cells #[.string ⟨s.toArray⟩, .int .i64 (p : Int)] 59)) w2 (fun k => k = w.heap.size) → RHold w2 g s p ∧ Touch w w2 (fun k => k = g)) := Lib.hid fun w2 h =>
    ⟨(Blk.alloc hR _).touch h (by omega), ((Touch.refl w _).alloc _).next h (fun k hk e => by omega)⟩
  clear hZ hR hs hp
  by_cases hE : trdE Z = 0
  · rw [if_neg (by simpa using hE)]
    have hz := trd_zero hE
    have HE := Lib.hid hE
    have Hz := Lib.hid hz
    clear hE hz
    go_enter Try.func17, Try.ntmps17
    go_wp2_with (go_at_call 28; refine Hread.out.mono ?_; unfold TRdPost; rintro e w2 ⟨A2, cv2, q, rfl, h3, h4, h5, h6, h7, h8⟩; rw [HE.out]; have hq := h7 Hz.out; subst hq; obtain ⟨g1, g2⟩ := Hback.out _ h6; have H3 := Lib.hid h3; have H4 := Lib.hid h4; have G1 := Lib.hid g1; have G2 := Lib.hid g2; have H8 := Lib.hid h8; obtain ⟨d1, d2, _, _⟩ := Blk.two h5; obtain ⟨e1, e2, e3, e4⟩ := Blk.two g1; clear h3 h4 h5 h6 h7 h8 g1 g2)
    go_ret2
    refine ⟨A2, cv2, rfl, H3.out, ?_, ?_, ?_⟩
    · exact treads_set (treads_set H4.out (fun a h => by have := H8.out a h; rw [World.size_alloc] at this; show a.block ≠ g; omega) _) (fun a h => by have := H8.out a h; rw [World.size_alloc] at this; show a.block ≠ g; omega) _
    · exact ((Blk.set_ G1.out 0 _).set_ 1 _)
    · exact (G2.out.set (p := ⟨g, 0, none⟩) (Or.inl rfl) _).set (p := ⟨g, 1, none⟩) (Or.inl rfl) _
  · rw [if_pos (by simpa using hE)]
    have hb1 : (trdE Z == 0) = false := by simpa using hE
    have hb2 : (trdE Z != 0) = true := by simpa using hE
    go_enter Try.func17, Try.ntmps17
    go_wp2_with (go_at_call 28; refine Hread.out.mono ?_; unfold TRdPost; rintro e w2 ⟨A2, cv2, q, rfl, h3, h4, h5, h6, h7, h8⟩; obtain ⟨g1, g2⟩ := Hback.out _ h6; have G1 := Lib.hid g1; have G2 := Lib.hid g2; clear h3 h4 h5 h6 h7 h8 g1 g2)
    go_ret2
    exact tgot_bad G1.out G2.out
theorem p_tget_any (s : List UInt8) (p g : Nat) (N : Int) (w : World) (hs : s.length ≤ 100000000000) (hp : p ≤ 8 * s.length) (hR : RHold w g s p) :
    Calls Try.prog 17 #[.pointer (some ⟨g, 0, none⟩), .int .i64 N] w fun e w' => ∃ A' c', e = .returned (.tuple #[.slice A' (tgetF (rowOf s) p N).1.length c', .int .i64 (tgetF (rowOf s) p N).2.2]) ∧ (tgetF (rowOf s) p N).1.length ≤ c' ∧ Reads w' w'.heap.size 1 A' (tgetF (rowOf s) p N).1.length (ints (tgetF (rowOf s) p N).1) ∧ RHold w' g s (tgetF (rowOf s) p N).2.1 ∧ Touch w w' (fun k => k = g) :=
  tgot_any s p g N w hs hp hR
theorem tgetF_le (s : List UInt8) (N : Int) : (tgetF (rowOf s) 0 N).2.1 ≤ 8 * s.length := by
  by_cases he : (tgetF (rowOf s) 0 N).2.2 = 0
  · obtain ⟨l, m, h1, h2, _⟩ := tforms he
    rw [h1]
    exact h2
  · have : (tgetF (rowOf s) 0 N).2.1 = 0 := by
      unfold tgetF at he ⊢
      by_cases h1 : N < 0 ∨ 257 < N
      · rw [if_pos h1]
      rw [if_neg h1] at he ⊢
      by_cases h2 : (tget1 (rowOf s) N.toNat (N.toNat + 1) 0 (-1) []).2.2 ≠ 0
      · rw [if_pos h2]
      rw [if_neg h2] at he ⊢
      by_cases h3 : checkF (tget1 (rowOf s) N.toNat (N.toNat + 1) 0 (-1) []).1 ≠ 0
      · rw [if_pos h3]
      rw [if_neg h3] at he
      exact absurd rfl he
    omega
set_option maxRecDepth 100000 in
set_option maxHeartbeats 4000000 in
theorem p_tunpack_any (s : List UInt8) (N : Int) (w : World) (hs : s.length ≤ 100000000000) :
    Calls Try.prog 14 #[.string ⟨s.toArray⟩, .int .i64 N] w fun e w' => TGetPost w w' e (tgetF (rowOf s) 0 N) := by
  have hle := tgetF_le s N
  have Hget := Lib.hid (tgot_any s 0 w.heap.size N (w.alloc (.cells #[.string ⟨s.toArray⟩, .int .i64 0] 59)) hs (by omega) (Blk.new w _ _))
  generalize tgetF (rowOf s) 0 N = F at *
  have hq : (F.2.1 : Int) ≤ 8 * (s.length : Int) ∧ (s.length : Int) ≤ 100000000000 := by omega
  have Hleft := Lib.hid fun W hR => bleft_any s F.2.1 w.heap.size W (by omega) hle hR
  rw [show ((8 * s.length - F.2.1 : Nat) : Int) = 8 * (s.length : Int) - (F.2.1 : Int) from by omega] at Hleft
  have hsub : 8 * (s.length : Int) - (8 * (s.length : Int) - (F.2.1 : Int)) = (F.2.1 : Int) := by omega
  have hb := (Below.refl w.heap.size w).alloc (Nat.le_refl _) (.cells #[.string ⟨s.toArray⟩, .int .i64 0] 59)
  have Hb := Lib.hid hb
  clear hle hs hb
  obtain ⟨l, q, e⟩ := F
  dsimp only at *
  go_enter Try.func14, Try.ntmps14
  go_wp2_with (first
    | (go_at_call 16; refine (newreader_any _ _).mono ?_; rintro e w1 ⟨rfl, rfl⟩)
    | (go_at_call 17; refine Hget.out.mono ?_; unfold TGot; rintro e w2 ⟨A2, cv2, rfl, h3, h4, h5, h6⟩; have H3 := Lib.hid h3; have H4 := Lib.hid h4; have H5 := Lib.hid h5; have H6 := Lib.hid h6; clear h3 h4 h5 h6)
    | (go_at_call 18; refine (Hleft.out _ H5.out).mono ?_; rintro e w3 ⟨rfl, kd, rfl⟩))
  go_ret3
  refine ⟨A2, cv2, rfl, H3.out, H4.out.drewN kd, below_drewN (Hb.out.trans (H6.out.below (fun k _ e => by omega) Hb.out.size)) kd⟩
end Go.Proofs.Ytckekhghcelcpaa
