/-
  Layer 20: a disk's calls that find a file or change a directory.
-/
import Derived.Test.YtgoahcmgpjacjaaGreatDpD
import Derived.Test.YtgoahcmgpjacjaaGreatFilX
import Derived.Test.YtgoahcmgpjacjaaGreatNamA
namespace Go.Proofs.YtgoahcmgpjacjaaGreat
set_option linter.unusedSimpArgs false
set_option linter.unusedVariables false
open Go.ChangeShapes Go.WideShapes Go.ChangeAt Go.RowKit Go.Joins Go.Deep
section
variable {D : Dk} {fb : List Nat} {bn bs : Nat} {Mn Ms : DataW Unit} {A : Option Addr} {c g : Nat} {lf : Int} {S : Nat → Prop} {w w' : World}
theorem DMm.to (h : DMm w g D fb bn bs Mn Ms A c lf) (hS : ∀ k, DSet g fb bn bs A k → S k) (hb : Below w.heap.size w w') : DTo w w' S g D :=
  ⟨touch_below hb (Nat.le_refl _), fb, bn, bs, Mn, Ms, A, c, lf, h.on hb, fun k hk => .inl (hS k hk)⟩
theorem DMm.find_ (h : DMm w g D fb bn bs Mn Ms A c lf) (hH : DHist D) {s : List UInt8} (hs : D.shut s = 0) : D.dead = false ∧ 0 ≤ D.find s ∧ D.find s < (fb.length : Int) := by
  have := dshut_ok hH.wf hs
  rw [h.fln]
  exact this
end
set_option maxRecDepth 100000 in
theorem q_dop {D : Dk} {fb : List Nat} {bn bs : Nat} {Mn Ms : DataW Unit} {A : Option Addr} {c g : Nat} {lf : Int} (w : World) (h : DMm w g D fb bn bs Mn Ms A c lf) (hd : D.dead = false) (ho : 0 ≤ D.ops ∧ D.ops ≤ 1000000) :
    Calls Tryz.prog 48 #[.pointer (some ⟨g, 0, none⟩)] w fun e w' => e = .returned (.int .i64 D.told) ∧ DMm w' g D.counted fb bn bs Mn Ms A c (if 0 < lf then lf - 1 else lf) ∧ Touch w w' (fun k => k = g) := by
  have hb := h.box
  unfold dbx at hb
  rw [hd] at hb
  refine (p_dop D.ops lf w hb ho h.lf.2).mono fun e w' hx => ?_
  obtain ⟨h1, h2, h3⟩ := hx
  refine ⟨?_, h.counted_ hd h2 h3, h3⟩
  rw [h1, h.lf.1 hd]
  unfold Dk.told Dk.last
  by_cases h4 : D.armed = 1
  · rw [if_pos h4, decide_eq_true h4, if_pos rfl]
  · rw [if_neg h4, decide_eq_false h4, if_neg (by decide)]
theorem file_set {W X : World} {q : Nat} {f : Fl} (h : Blk W q 78 (flv f)) (a b : List UInt8) (hX : (W.setCell ⟨q, 0, none⟩ (.string ⟨a.toArray⟩)).setCell ⟨q, 1, none⟩ (.string ⟨b.toArray⟩) = X) :
    Blk X q 78 (flv (a, b)) ∧ Touch W X (fun k => k = q) := by
  subst hX
  unfold flv at h ⊢
  exact ⟨by simpa using (h.set_ 0 (.string ⟨a.toArray⟩)).set_ 1 (.string ⟨b.toArray⟩), ((Touch.refl W (fun k => k = q)).set (p := ⟨q, 0, none⟩) (.inl rfl) _).set (p := ⟨q, 1, none⟩) (.inl rfl) _⟩
theorem dfile_eta (D : Dk) (n : Int) : D.file n = ((D.file n).1, (D.file n).2) := rfl
set_option maxRecDepth 100000 in
set_option maxHeartbeats 8000000 in
theorem q_dsync_a {D : Dk} {fb : List Nat} {bn bs : Nat} {Mn Ms : DataW Unit} {A : Option Addr} {c g : Nat} {lf : Int} {S : Nat → Prop} (w : World) (h : DMm w g D fb bn bs Mn Ms A c lf) (hS : ∀ k, DSet g fb bn bs A k → S k) (hD : DSm 1000 D) (s : List UInt8)  (hl : s.length ≤ 100000) (hs : D.shut s ≠ 0) :
    Calls Tryz.prog 13 #[.pointer (some ⟨g, 0, none⟩), .string ⟨s.toArray⟩] w fun e w' => e = .returned (.int .i64 (D.shut s)) ∧ DTo w w' S g D := by
  have hf := p_dfind w h s (by omega)
  rw [if_neg hs] at hf
  have HF := Lib.hid hf
  have HT := Lib.hid (h.to hS (Below.refl _ _))
  generalize D.shut s = r at *
  have hr : ((r : Int) == 0) = false := by rw [beq_eq_false_iff_ne]; exact hs
  clear h hS hD hf hl
  go_enter Tryz.func13, Tryz.ntmps13
  go_wp2_with (first | (go_at_call 45; (with_reducible refine HF.out.mono ?_); rintro e w1 ⟨rfl, hw1⟩; obtain rfl := hw1.symm) | fail)
  go_ret
  exact ⟨rfl, HT.out⟩
set_option maxRecDepth 100000 in
set_option maxHeartbeats 8000000 in
theorem q_dcut_a {D : Dk} {fb : List Nat} {bn bs : Nat} {Mn Ms : DataW Unit} {A : Option Addr} {c g : Nat} {lf : Int} {S : Nat → Prop} (w : World) (h : DMm w g D fb bn bs Mn Ms A c lf) (hS : ∀ k, DSet g fb bn bs A k → S k) (hD : DSm 1000 D) (s : List UInt8) (k : Int) (hl : s.length ≤ 100000) (hs : D.shut s ≠ 0) :
    Calls Tryz.prog 31 #[.pointer (some ⟨g, 0, none⟩), .string ⟨s.toArray⟩, .int .i64 k] w fun e w' => e = .returned (.int .i64 (D.shut s)) ∧ DTo w w' S g D := by
  have hf := p_dfind w h s (by omega)
  rw [if_neg hs] at hf
  have HF := Lib.hid hf
  have HT := Lib.hid (h.to hS (Below.refl _ _))
  generalize D.shut s = r at *
  have hr : ((r : Int) == 0) = false := by rw [beq_eq_false_iff_ne]; exact hs
  clear h hS hD hf hl
  go_enter Tryz.func31, Tryz.ntmps31
  go_wp2_with (first | (go_at_call 45; (with_reducible refine HF.out.mono ?_); rintro e w1 ⟨rfl, hw1⟩; obtain rfl := hw1.symm) | fail)
  go_ret
  exact ⟨rfl, HT.out⟩
set_option maxRecDepth 100000 in
set_option maxHeartbeats 8000000 in
theorem q_dapp_a {D : Dk} {fb : List Nat} {bn bs : Nat} {Mn Ms : DataW Unit} {A : Option Addr} {c g : Nat} {lf : Int} {S : Nat → Prop} (w : World) (h : DMm w g D fb bn bs Mn Ms A c lf) (hS : ∀ k, DSet g fb bn bs A k → S k) (hD : DSm 1000 D) (s : List UInt8) (u : List UInt8) (hl : s.length ≤ 100000) (hs : D.shut s ≠ 0) :
    Calls Tryz.prog 12 #[.pointer (some ⟨g, 0, none⟩), .string ⟨s.toArray⟩, .string ⟨u.toArray⟩] w fun e w' => e = .returned (.int .i64 (D.shut s)) ∧ DTo w w' S g D := by
  have hf := p_dfind w h s (by omega)
  rw [if_neg hs] at hf
  have HF := Lib.hid hf
  have HT := Lib.hid (h.to hS (Below.refl _ _))
  generalize D.shut s = r at *
  have hr : ((r : Int) == 0) = false := by rw [beq_eq_false_iff_ne]; exact hs
  clear h hS hD hf hl
  go_enter Tryz.func12, Tryz.ntmps12
  go_wp2_with (first | (go_at_call 45; (with_reducible refine HF.out.mono ?_); rintro e w1 ⟨rfl, hw1⟩; obtain rfl := hw1.symm) | fail)
  go_ret
  exact ⟨rfl, HT.out⟩
set_option maxRecDepth 100000 in
set_option maxHeartbeats 8000000 in
theorem q_dren_a {D : Dk} {fb : List Nat} {bn bs : Nat} {Mn Ms : DataW Unit} {A : Option Addr} {c g : Nat} {lf : Int} {S : Nat → Prop} (w : World) (h : DMm w g D fb bn bs Mn Ms A c lf) (hS : ∀ k, DSet g fb bn bs A k → S k) (hD : DSm 1000 D) (s : List UInt8) (u : List UInt8) (hl : s.length ≤ 100000) (hs : D.shut s ≠ 0) :
    Calls Tryz.prog 32 #[.pointer (some ⟨g, 0, none⟩), .string ⟨s.toArray⟩, .string ⟨u.toArray⟩] w fun e w' => e = .returned (.int .i64 (D.shut s)) ∧ DTo w w' S g D := by
  have hf := p_dfind w h s (by omega)
  rw [if_neg hs] at hf
  have HF := Lib.hid hf
  have HT := Lib.hid (h.to hS (Below.refl _ _))
  generalize D.shut s = r at *
  have hr : ((r : Int) == 0) = false := by rw [beq_eq_false_iff_ne]; exact hs
  clear h hS hD hf hl
  go_enter Tryz.func32, Tryz.ntmps32
  go_wp2_with (first | (go_at_call 45; (with_reducible refine HF.out.mono ?_); rintro e w1 ⟨rfl, hw1⟩; obtain rfl := hw1.symm) | fail)
  go_ret
  exact ⟨rfl, HT.out⟩
set_option maxRecDepth 100000 in
set_option maxHeartbeats 8000000 in
theorem q_drem_a {D : Dk} {fb : List Nat} {bn bs : Nat} {Mn Ms : DataW Unit} {A : Option Addr} {c g : Nat} {lf : Int} {S : Nat → Prop} (w : World) (h : DMm w g D fb bn bs Mn Ms A c lf) (hS : ∀ k, DSet g fb bn bs A k → S k) (hD : DSm 1000 D) (s : List UInt8)  (hl : s.length ≤ 100000) (hs : D.shut s ≠ 0) :
    Calls Tryz.prog 33 #[.pointer (some ⟨g, 0, none⟩), .string ⟨s.toArray⟩] w fun e w' => e = .returned (.int .i64 (D.shut s)) ∧ DTo w w' S g D := by
  have hf := p_dfind w h s (by omega)
  rw [if_neg hs] at hf
  have HF := Lib.hid hf
  have HT := Lib.hid (h.to hS (Below.refl _ _))
  generalize D.shut s = r at *
  have hr : ((r : Int) == 0) = false := by rw [beq_eq_false_iff_ne]; exact hs
  clear h hS hD hf hl
  go_enter Tryz.func33, Tryz.ntmps33
  go_wp2_with (first | (go_at_call 45; (with_reducible refine HF.out.mono ?_); rintro e w1 ⟨rfl, hw1⟩; obtain rfl := hw1.symm) | fail)
  go_ret
  exact ⟨rfl, HT.out⟩
set_option maxRecDepth 100000 in
set_option maxHeartbeats 8000000 in
theorem q_dsync_b {D : Dk} {fb : List Nat} {bn bs : Nat} {Mn Ms : DataW Unit} {A : Option Addr} {c g : Nat} {lf : Int} {S : Nat → Prop} (w : World) (h : DMm w g D fb bn bs Mn Ms A c lf) (hS : ∀ k, DSet g fb bn bs A k → S k) (hD : DSm 1000 D) (s : List UInt8) (hl : s.length ≤ 100000) (hs : D.shut s = 0) (ha : D.last = true) :
    Calls Tryz.prog 13 #[.pointer (some ⟨g, 0, none⟩), .string ⟨s.toArray⟩] w fun e w' => e = .returned (.int .i64 200) ∧ DTo w w' S g D.counted := by
  have hf := p_dfind w h s (by omega)
  rw [if_pos hs, hs] at hf
  obtain ⟨hd, h0, hn⟩ := h.find_ hD.hist hs
  have HF := Lib.hid hf
  have HM := Lib.hid h
  have HS := Lib.hid hS
  have HFl := Lib.hid (h.fl _ h0 hn)
  have H0 := Lib.hid h0
  have HN := Lib.hid hn
  have HO := Lib.hid (q_dop w h hd ⟨hD.ops.1, by have := hD.ops.2; omega⟩)
  unfold Dk.told at HO
  rw [if_pos ha] at HO
  generalize D.find s = n at *
  generalize fbk fb n = q at *
  clear h hS hD hf hl hs ha h0 hn
  go_enter Tryz.func13, Tryz.ntmps13
  go_wp2_with (first | (go_at_call 45; (with_reducible refine HF.out.mono ?_); rintro e w1 ⟨rfl, hw1⟩; obtain rfl := hw1.symm) | (go_at_call 48; (with_reducible refine HO.out.mono ?_); rintro e w2 ⟨rfl, hm2, ht2⟩; have HM2 := Lib.hid hm2; have HT2 := Lib.hid ht2; clear hm2 ht2) | fail)
  go_ret
  exact ⟨rfl, HT2.out.mono (fun k _ e => by rw [e]; exact HS.out g (.inl rfl)), fb, bn, bs, Mn, Ms, A, c, _, HM2.out, fun k hk => .inl (HS.out k hk)⟩
set_option maxRecDepth 100000 in
set_option maxHeartbeats 8000000 in
theorem q_dsync_c {D : Dk} {fb : List Nat} {bn bs : Nat} {Mn Ms : DataW Unit} {A : Option Addr} {c g : Nat} {lf : Int} {S : Nat → Prop} (w : World) (h : DMm w g D fb bn bs Mn Ms A c lf) (hS : ∀ k, DSet g fb bn bs A k → S k) (hD : DSm 1000 D) (s : List UInt8) (hl : s.length ≤ 100000) (hs : D.shut s = 0) (ha : ¬ D.last = true) :
    Calls Tryz.prog 13 #[.pointer (some ⟨g, 0, none⟩), .string ⟨s.toArray⟩] w fun e w' => e = .returned (.int .i64 0) ∧ DTo w w' S g (D.counted.put (D.find s) ((D.file (D.find s)).2, (D.file (D.find s)).2)) := by
  have hf := p_dfind w h s (by omega)
  rw [if_pos hs, hs] at hf
  obtain ⟨hd, h0, hn⟩ := h.find_ hD.hist hs
  have HF := Lib.hid hf
  have HM := Lib.hid h
  have HS := Lib.hid hS
  have HFl := Lib.hid (h.fl _ h0 hn)
  have H0 := Lib.hid h0
  have HN := Lib.hid hn
  have HO := Lib.hid (q_dop w h hd ⟨hD.ops.1, by have := hD.ops.2; omega⟩)
  unfold Dk.told at HO
  rw [if_neg ha] at HO
  have hqg := (h.fg h0 hn).1
  have HP := Lib.hid fun W => p_flsync_any (D.file (D.find s)).1 (D.file (D.find s)).2 W
  unfold flc at HP
  generalize D.find s = n at *
  rw [dfile_eta] at HFl
  generalize (D.file n).1 = fa at *
  generalize (D.file n).2 = ft at *
  generalize hq : fbk fb n = q at *
  clear h hS hD hf hl hs ha h0 hn
  go_enter Tryz.func13, Tryz.ntmps13
  go_wp2_with (first
    | (go_at_call 45; (with_reducible refine HF.out.mono ?_); rintro e w1 ⟨rfl, hw1⟩; obtain rfl := hw1.symm)
    | (go_at_call 48; (with_reducible refine HO.out.mono ?_); rintro e w2 ⟨rfl, hm2, ht2⟩; have HM2 := Lib.hid hm2; have HT2 := Lib.hid ht2; have hf2 := HFl.out.touch ht2 hqg; have HF2 := Lib.hid hf2; have x0 := hf2.cell 0; have x1 := hf2.cell 1; unfold flv at x0 x1; simp only [List.getElem?_toArray, List.getElem?_cons_zero, List.getElem?_cons_succ] at x0 x1; clear hm2 ht2 hf2)
    | (go_at_call 49; (with_reducible refine (HP.out _).mono ?_); rintro e w3 ⟨rfl, hb3⟩; have HB3 := Lib.hid hb3; have hf3 := HF2.out.below hb3 HF2.out.lt; have HF3 := Lib.hid hf3; have y0 := hf3.cell 0; have y1 := hf3.cell 1; unfold flv at y0 y1; simp only [List.getElem?_toArray, List.getElem?_cons_zero, List.getElem?_cons_succ] at y0 y1; have z0 := hf3.frozen 0; have z1 := hf3.frozen 1; clear hb3 hf3 x0 x1) | fail)
  go_ret
  obtain ⟨k1, k2⟩ := file_set HF3.out ft ft rfl
  have hm4 := ((HM2.out.on HB3.out).file_ H0.out HN.out (f := (ft, ft)) (by rw [hq]; exact k1) (by rw [hq]; exact k2))
  refine ⟨rfl, ((HT2.out.mono (fun k _ e => by rw [e]; exact HS.out g (.inl rfl))).trans (touch_below HB3.out (Nat.le_refl _))).trans (k2.mono fun k _ e => HS.out k (.inr (.inr (.inr (.inl ⟨n, H0.out, HN.out, by rw [e, hq]⟩))))), fb, bn, bs, Mn, Ms, A, c, _, hm4, fun k hk => .inl (HS.out k hk)⟩
end Go.Proofs.YtgoahcmgpjacjaaGreat
