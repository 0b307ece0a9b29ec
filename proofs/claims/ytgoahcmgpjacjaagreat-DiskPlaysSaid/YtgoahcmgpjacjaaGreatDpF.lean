/-
  Layer 20: a disk's calls that write a file or change a directory.
-/
import Derived.Test.YtgoahcmgpjacjaaGreatDpE
namespace Go.Proofs.YtgoahcmgpjacjaaGreat
set_option linter.unusedSimpArgs false
set_option linter.unusedVariables false
open Go.ChangeShapes Go.WideShapes Go.ChangeAt Go.RowKit Go.Joins Go.Deep
section
variable {D : Dk} {fb : List Nat} {bn bs : Nat} {Mn Ms : DataW Unit} {A : Option Addr} {c g : Nat} {lf : Int} {S : Nat → Prop} {w w' : World}
theorem DMm.done (h : DMm w' g D fb bn bs Mn Ms A c lf) (ht : Touch w w' S) (hS : ∀ k, DSet g fb bn bs A k → S k) : DTo w w' S g D := ⟨ht, fb, bn, bs, Mn, Ms, A, c, lf, h, fun k hk => .inl (hS k hk)⟩
theorem DMm.put_ (h : DMm w g D fb bn bs Mn Ms A c lf) {n : Int} (h1 : 0 ≤ n) (h2 : n < (fb.length : Int)) (a b : List UInt8) :
    ∀ X, (w.setCell ⟨fbk fb n, 0, none⟩ (.string ⟨a.toArray⟩)).setCell ⟨fbk fb n, 1, none⟩ (.string ⟨b.toArray⟩) = X → DMm X g (D.put n (a, b)) fb bn bs Mn Ms A c lf ∧ Touch w X (fun k => k = fbk fb n) := fun X hX => by
  obtain ⟨k1, k2⟩ := file_set (h.fl n h1 h2) a b hX
  exact ⟨h.file_ h1 h2 k1 k2, k2⟩
theorem DMm.put_a (h : DMm w g D fb bn bs Mn Ms A c lf) {n : Int} (h1 : 0 ≤ n) (h2 : n < (fb.length : Int)) (a b : List UInt8) (o : Obj) :
    ∀ X, ((w.setCell ⟨fbk fb n, 0, none⟩ (.string ⟨a.toArray⟩)).setCell ⟨fbk fb n, 1, none⟩ (.string ⟨b.toArray⟩)).alloc o = X → DMm X g (D.put n (a, b)) fb bn bs Mn Ms A c lf ∧ Touch w X (fun k => k = fbk fb n) := fun X hX => by
  obtain ⟨k1, k2⟩ := h.put_ h1 h2 a b _ rfl
  subst hX
  exact ⟨k1.on ((Below.refl _ _).alloc (Nat.le_refl _) o), k2.alloc o⟩
theorem DMm.set_q (h : DMm w g D fb bn bs Mn Ms A c lf) (hS : ∀ k, DSet g fb bn bs A k → S k) {n : Int} (h1 : 0 ≤ n) (h2 : n < (fb.length : Int)) : S (fbk fb n) := hS _ (.inr (.inr (.inr (.inl ⟨n, h1, h2, rfl⟩))))
end
set_option maxRecDepth 100000 in
set_option maxHeartbeats 8000000 in
theorem q_dcut_b {D : Dk} {fb : List Nat} {bn bs : Nat} {Mn Ms : DataW Unit} {A : Option Addr} {c g : Nat} {lf : Int} {S : Nat → Prop} (w : World) (h : DMm w g D fb bn bs Mn Ms A c lf) (hS : ∀ k, DSet g fb bn bs A k → S k) (hD : DSm 1000 D) (s : List UInt8) (k : Int) (hl : s.length ≤ 100000) (hs : D.shut s = 0) (hr : (flcutF (D.file (D.find s)) k).2 ≠ 0) :
    Calls Tryz.prog 31 #[.pointer (some ⟨g, 0, none⟩), .string ⟨s.toArray⟩, .int .i64 k] w fun e w' => e = .returned (.int .i64 (flcutF (D.file (D.find s)) k).2) ∧ DTo w w' S g D := by
  have hf := p_dfind w h s (by omega)
  rw [if_pos hs, hs] at hf
  obtain ⟨hd, h0, hn⟩ := h.find_ hD.hist hs
  have HF := Lib.hid hf
  have HM := Lib.hid h
  have HS := Lib.hid hS
  have HFl := Lib.hid (h.fl _ h0 hn)
  have H0 := Lib.hid h0
  have HN := Lib.hid hn
  have HP := Lib.hid fun W => p_flcut_any (D.file (D.find s)).1 (D.file (D.find s)).2 k W
  rw [← dfile_eta] at HP
  unfold flc at HP
  have hf1 := h.fl _ h0 hn
  have x0 := hf1.cell 0
  have x1 := hf1.cell 1
  unfold flv at x0 x1
  simp only [List.getElem?_toArray, List.getElem?_cons_zero, List.getElem?_cons_succ] at x0 x1
  generalize flcutF (D.file (D.find s)) k = R at *
  obtain ⟨⟨ra, rb⟩, rr⟩ := R
  dsimp only at HP hr ⊢
  have hrr : ((rr : Int) == 0) = false := by rw [beq_eq_false_iff_ne]; exact hr
  generalize D.find s = n at *
  generalize hq : fbk fb n = q at *
  generalize (D.file n).1 = fa at *
  generalize (D.file n).2 = ft at *
  clear h hS hD hf hl hs h0 hn hd hf1 HFl
  go_enter Tryz.func31, Tryz.ntmps31
  go_wp2_with (first
    | (go_at_call 45; (with_reducible refine HF.out.mono ?_); rintro e w1 ⟨rfl, hw1⟩; obtain rfl := hw1.symm)
    | (go_at_call 66; (with_reducible refine (HP.out _).mono ?_); rintro e w3 ⟨rfl, hb3⟩; have HB3 := Lib.hid hb3; clear hb3)
    | fail)
  go_ret
  exact ⟨rfl, HM.out.to HS.out (by first | exact HB3.out | exact HB3.out.alloc HB3.out.size _)⟩
set_option maxRecDepth 100000 in
set_option maxHeartbeats 8000000 in
theorem q_dapp_b {D : Dk} {fb : List Nat} {bn bs : Nat} {Mn Ms : DataW Unit} {A : Option Addr} {c g : Nat} {lf : Int} {S : Nat → Prop} (w : World) (h : DMm w g D fb bn bs Mn Ms A c lf) (hS : ∀ k, DSet g fb bn bs A k → S k) (hD : DSm 1000 D) (s : List UInt8) (u : List UInt8) (hl : s.length ≤ 100000) (hu : u.length ≤ 100000) (hs : D.shut s = 0) (hr : (flappF (D.file (D.find s)) u).2 ≠ 0) :
    Calls Tryz.prog 12 #[.pointer (some ⟨g, 0, none⟩), .string ⟨s.toArray⟩, .string ⟨u.toArray⟩] w fun e w' => e = .returned (.int .i64 (flappF (D.file (D.find s)) u).2) ∧ DTo w w' S g D := by
  have hf := p_dfind w h s (by omega)
  rw [if_pos hs, hs] at hf
  obtain ⟨hd, h0, hn⟩ := h.find_ hD.hist hs
  have HF := Lib.hid hf
  have HM := Lib.hid h
  have HS := Lib.hid hS
  have HFl := Lib.hid (h.fl _ h0 hn)
  have H0 := Lib.hid h0
  have HN := Lib.hid hn
  have HP := Lib.hid fun W => p_flapp_any (D.file (D.find s)).1 (D.file (D.find s)).2 u W (by have := (hD.bnd.file (D.find s)).2; omega) (by omega)
  rw [← dfile_eta] at HP
  unfold flc at HP
  have hf1 := h.fl _ h0 hn
  have x0 := hf1.cell 0
  have x1 := hf1.cell 1
  unfold flv at x0 x1
  simp only [List.getElem?_toArray, List.getElem?_cons_zero, List.getElem?_cons_succ] at x0 x1
  generalize flappF (D.file (D.find s)) u = R at *
  obtain ⟨⟨ra, rb⟩, rr⟩ := R
  dsimp only at HP hr ⊢
  have hrr : ((rr : Int) == 0) = false := by rw [beq_eq_false_iff_ne]; exact hr
  generalize D.find s = n at *
  generalize hq : fbk fb n = q at *
  generalize (D.file n).1 = fa at *
  generalize (D.file n).2 = ft at *
  clear h hS hD hf hl hu hs h0 hn hd hf1 HFl
  go_enter Tryz.func12, Tryz.ntmps12
  go_wp2_with (first
    | (go_at_call 45; (with_reducible refine HF.out.mono ?_); rintro e w1 ⟨rfl, hw1⟩; obtain rfl := hw1.symm)
    | (go_at_call 46; (with_reducible refine (HP.out _).mono ?_); rintro e w3 ⟨rfl, hb3⟩; have HB3 := Lib.hid hb3; clear hb3)
    | fail)
  go_ret
  exact ⟨rfl, HM.out.to HS.out (by first | exact HB3.out | exact HB3.out.alloc HB3.out.size _)⟩
set_option maxRecDepth 100000 in
set_option maxHeartbeats 8000000 in
theorem q_dcut_c {D : Dk} {fb : List Nat} {bn bs : Nat} {Mn Ms : DataW Unit} {A : Option Addr} {c g : Nat} {lf : Int} {S : Nat → Prop} (w : World) (h : DMm w g D fb bn bs Mn Ms A c lf) (hS : ∀ k, DSet g fb bn bs A k → S k) (hD : DSm 1000 D) (s : List UInt8) (k : Int) (hl : s.length ≤ 100000) (hs : D.shut s = 0) (hr : (flcutF (D.file (D.find s)) k).2 = 0) :
    Calls Tryz.prog 31 #[.pointer (some ⟨g, 0, none⟩), .string ⟨s.toArray⟩, .int .i64 k] w fun e w' => e = .returned (.int .i64 D.told) ∧ DTo w w' S g (D.counted.put (D.find s) (flcutF (D.file (D.find s)) k).1) := by
  have hf := p_dfind w h s (by omega)
  rw [if_pos hs, hs] at hf
  obtain ⟨hd, h0, hn⟩ := h.find_ hD.hist hs
  have HF := Lib.hid hf
  have HM := Lib.hid h
  have HS := Lib.hid hS
  have HFl := Lib.hid (h.fl _ h0 hn)
  have H0 := Lib.hid h0
  have HN := Lib.hid hn
  have HP := Lib.hid fun W => p_flcut_any (D.file (D.find s)).1 (D.file (D.find s)).2 k W
  rw [← dfile_eta] at HP
  unfold flc at HP
  have hf1 := h.fl _ h0 hn
  have x0 := hf1.cell 0
  have x1 := hf1.cell 1
  unfold flv at x0 x1
  simp only [List.getElem?_toArray, List.getElem?_cons_zero, List.getElem?_cons_succ] at x0 x1
  have hqS := h.set_q hS h0 hn
  generalize flcutF (D.file (D.find s)) k = R at *
  obtain ⟨⟨ra, rb⟩, rr⟩ := R
  dsimp only at HP hr ⊢
  subst hr
  have HO : Hid (∀ W, DMm W g (D.put (D.find s) (ra, rb)) fb bn bs Mn Ms A c lf → Calls Tryz.prog 48 #[.pointer (some ⟨g, 0, none⟩)] W fun e w' => e = .returned (.int .i64 D.told) ∧ DMm w' g (D.counted.put (D.find s) (ra, rb)) fb bn bs Mn Ms A c (if 0 < lf then lf - 1 else lf) ∧ Touch W w' (fun k => k = g)) :=
    Lib.hid fun W hW => q_dop W hW hd ⟨hD.ops.1, by have := hD.ops.2; show D.ops ≤ _; omega⟩
  have HY : Hid (∀ W, DMm W g D fb bn bs Mn Ms A c lf → ∀ X, ((W.setCell ⟨fbk fb (D.find s), 0, none⟩ (.string ⟨ra.toArray⟩)).setCell ⟨fbk fb (D.find s), 1, none⟩ (.string ⟨rb.toArray⟩)).alloc (.cells #[.string ⟨ra.toArray⟩, .string ⟨rb.toArray⟩] 78) = X → DMm X g (D.put (D.find s) (ra, rb)) fb bn bs Mn Ms A c lf ∧ Touch W X (fun k => k = fbk fb (D.find s))) := Lib.hid fun W hW => hW.put_a h0 hn ra rb _
  generalize D.find s = n at *
  rw [dfile_eta] at HFl
  generalize hq : fbk fb n = q at *
  generalize (D.file n).1 = fa at *
  generalize (D.file n).2 = ft at *
  clear h hS hD hf hl hs h0 hn hd hf1
  go_enter Tryz.func31, Tryz.ntmps31
  go_wp2_with (first
    | (go_at_call 45; (with_reducible refine HF.out.mono ?_); rintro e w1 ⟨rfl, hw1⟩; obtain rfl := hw1.symm)
    | (go_at_call 66; (with_reducible refine (HP.out _).mono ?_); rintro e w3 ⟨rfl, hb3⟩; have HB3 := Lib.hid hb3; have hf3 := HFl.out.below hb3 HFl.out.lt; have hq3 := hf3.lt; have y0 := hf3.cell 0; have y1 := hf3.cell 1; unfold flv at y0 y1; simp only [List.getElem?_toArray, List.getElem?_cons_zero, List.getElem?_cons_succ] at y0 y1; have z0 := hf3.frozen 0; have z1 := hf3.frozen 1; have HX := Lib.hid (HY.out _ (HM.out.on hb3)); clear hb3 hf3 x0 x1)
    | (go_at_call 48; obtain ⟨hmx, htx⟩ := HX.out _ rfl; (with_reducible refine (HO.out _ hmx).mono ?_); rintro e w6 ⟨rfl, hm6, ht6⟩; have HM6 := Lib.hid hm6; have HT6 := Lib.hid (htx.mono (S' := S) (fun k _ e => by rw [e]; exact hqS) |>.trans (ht6.mono (fun k _ e => by rw [e]; exact HS.out g (.inl rfl)))); clear hm6 ht6 hmx htx)
    | fail)
  go_ret
  exact ⟨rfl, HM6.out.done ((touch_below HB3.out (Nat.le_refl _)).trans HT6.out) HS.out⟩
set_option maxRecDepth 100000 in
set_option maxHeartbeats 8000000 in
theorem q_dapp_c {D : Dk} {fb : List Nat} {bn bs : Nat} {Mn Ms : DataW Unit} {A : Option Addr} {c g : Nat} {lf : Int} {S : Nat → Prop} (w : World) (h : DMm w g D fb bn bs Mn Ms A c lf) (hS : ∀ k, DSet g fb bn bs A k → S k) (hD : DSm 1000 D) (s u : List UInt8) (hl : s.length ≤ 100000) (hu : u.length ≤ 100000) (hs : D.shut s = 0) (hr : (flappF (D.file (D.find s)) u).2 = 0) (hc : D.cap < (D.used : Int) + (u.length : Int)) :
    Calls Tryz.prog 12 #[.pointer (some ⟨g, 0, none⟩), .string ⟨s.toArray⟩, .string ⟨u.toArray⟩] w fun e w' => e = .returned (.int .i64 203) ∧ DTo w w' S g D := by
  have hf := p_dfind w h s (by omega)
  rw [if_pos hs, hs] at hf
  obtain ⟨hd, h0, hn⟩ := h.find_ hD.hist hs
  have HF := Lib.hid hf
  have HM := Lib.hid h
  have HS := Lib.hid hS
  have HFl := Lib.hid (h.fl _ h0 hn)
  have H0 := Lib.hid h0
  have HN := Lib.hid hn
  have HBy := Lib.hid fun W (hW : DMm W g D fb bn bs Mn Ms A c lf) => p_dbytes W hW hD.hist hD.bnd hD.dir
  have hused : (D.used : Int) ≤ 1000000000 := by
    have h1 := dcnt_le D (fun _ => false) hD.bnd D.dir
    rw [dcnt_end (fun _ => rfl)] at h1
    have h2 : D.dir.length * 1000000 ≤ 1000 * 1000000 := Nat.mul_le_mul_right _ hD.dir
    show ((dusedL D D.dir : Nat) : Int) ≤ _
    omega
  have hw9 : IntKind.i64.wrap ((D.used : Int) + (u.length : Int)) = (D.used : Int) + (u.length : Int) := by rw [IntKind.wrap_i64]; omega
  have HP := Lib.hid fun W => p_flapp_any (D.file (D.find s)).1 (D.file (D.find s)).2 u W (by have := (hD.bnd.file (D.find s)).2; omega) (by omega)
  rw [← dfile_eta] at HP
  unfold flc at HP
  have hf1 := h.fl _ h0 hn
  have x0 := hf1.cell 0
  have x1 := hf1.cell 1
  unfold flv at x0 x1
  simp only [List.getElem?_toArray, List.getElem?_cons_zero, List.getElem?_cons_succ] at x0 x1
  have hqS := h.set_q hS h0 hn
  generalize flappF (D.file (D.find s)) u = R at *
  obtain ⟨⟨ra, rb⟩, rr⟩ := R
  dsimp only at HP hr ⊢
  subst hr
  have HO : Hid (∀ W, DMm W g (D.put (D.find s) (ra, rb)) fb bn bs Mn Ms A c lf → Calls Tryz.prog 48 #[.pointer (some ⟨g, 0, none⟩)] W fun e w' => e = .returned (.int .i64 D.told) ∧ DMm w' g (D.counted.put (D.find s) (ra, rb)) fb bn bs Mn Ms A c (if 0 < lf then lf - 1 else lf) ∧ Touch W w' (fun k => k = g)) :=
    Lib.hid fun W hW => q_dop W hW hd ⟨hD.ops.1, by have := hD.ops.2; show D.ops ≤ _; omega⟩
  have HY : Hid (∀ W, DMm W g D fb bn bs Mn Ms A c lf → ∀ X, (W.setCell ⟨fbk fb (D.find s), 0, none⟩ (.string ⟨ra.toArray⟩)).setCell ⟨fbk fb (D.find s), 1, none⟩ (.string ⟨rb.toArray⟩) = X → DMm X g (D.put (D.find s) (ra, rb)) fb bn bs Mn Ms A c lf ∧ Touch W X (fun k => k = fbk fb (D.find s))) := Lib.hid fun W hW => hW.put_ h0 hn ra rb
  generalize D.find s = n at *
  rw [dfile_eta] at HFl
  generalize hq : fbk fb n = q at *
  generalize (D.file n).1 = fa at *
  generalize (D.file n).2 = ft at *
  generalize (D.used : Int) = us at *
  clear h hS hD hf hl hu hs h0 hn hd hf1
  go_enter Tryz.func12, Tryz.ntmps12
  go_wp2_with (first
    | (go_at_call 45; (with_reducible refine HF.out.mono ?_); rintro e w1 ⟨rfl, hw1⟩; obtain rfl := hw1.symm)
    | (go_at_call 46; (with_reducible refine (HP.out _).mono ?_); rintro e w3 ⟨rfl, hb3⟩; have HB3 := Lib.hid hb3; have hm3 := HM.out.on hb3; have ta := touch_below (S := S) (hb3.alloc hb3.size (.cells #[.string ⟨ra.toArray⟩, .string ⟨rb.toArray⟩] 78)) (Nat.le_refl _); have HA := Lib.hid (⟨ta.os, ta.tape, ta.output, ta.size, ta.block⟩ : Touch w (w3.alloc (.cells #[.string ⟨ra.toArray⟩, .string ⟨rb.toArray⟩] 78)).drew S); clear ta; have HM3 := Lib.hid ((hm3.on ((Below.refl _ _).alloc (Nat.le_refl _) (.cells #[.string ⟨ra.toArray⟩, .string ⟨rb.toArray⟩] 78))).keep (W' := (w3.alloc _).drew) (fun k _ => rfl)); have g0 := hm3.box.cell 0; have g2 := hm3.box.cell 2; unfold dbx at g0 g2; simp only [List.getElem?_toArray, List.getElem?_cons_zero, List.getElem?_cons_succ] at g0 g2; have hg3 := hm3.box.lt; have HBL := Lib.hid (Blk.new w3 78 #[.string ⟨ra.toArray⟩, .string ⟨rb.toArray⟩]).drew; clear hb3 hm3 x0 x1)
    | fail)
  go_region_with (go_at_call 47; (with_reducible refine (HBy.out _ HM3.out).mono ?_); rintro e w5 ⟨rfl, hb5⟩; have HB5 := Lib.hid hb5; have hm5 := HM3.out.on hb5; have HM5 := Lib.hid hm5; have hg5 := hm5.box.lt; have k0 := hm5.box.cell 0; unfold dbx at k0; simp only [List.getElem?_toArray, List.getElem?_cons_zero, List.getElem?_cons_succ] at k0; have hf5 := hm5.fl n H0.out HN.out; rw [hq] at hf5; have hq5 := hf5.lt; have y0 := hf5.cell 0; have y1 := hf5.cell 1; unfold flv at y0 y1; simp only [List.getElem?_toArray, List.getElem?_cons_zero, List.getElem?_cons_succ] at y0 y1; have z0 := hf5.frozen 0; have z1 := hf5.frozen 1; have HX := Lib.hid (HY.out _ hm5); have hbl := (HBL.out).below hb5 HBL.out.lt; have HBL5 := Lib.hid hbl; have l0 := hbl.cell 0; have l1 := hbl.cell 1; simp only [List.getElem?_toArray, List.getElem?_cons_zero, List.getElem?_cons_succ] at l0 l1; clear hb5 hm5 hf5 hbl)
  all_goals go_wp2_with (first | (go_at_call 48; obtain ⟨hmx, htx⟩ := HX.out _ rfl; (with_reducible refine (HO.out _ hmx).mono ?_); rintro e w6 ⟨rfl, hm6, ht6⟩; have HM6 := Lib.hid hm6; have HT6 := Lib.hid (htx.mono (S' := S) (fun k _ e => by rw [e]; exact hqS) |>.trans (ht6.mono (fun k _ e => by rw [e]; exact HS.out g (.inl rfl)))); clear hm6 ht6 hmx htx) | fail)
  all_goals go_ret
  all_goals exact ⟨rfl, HM5.out.done (HA.out.trans (touch_below HB5.out (Nat.le_refl _))) HS.out⟩
set_option maxRecDepth 100000 in
set_option maxHeartbeats 8000000 in
theorem q_dapp_d {D : Dk} {fb : List Nat} {bn bs : Nat} {Mn Ms : DataW Unit} {A : Option Addr} {c g : Nat} {lf : Int} {S : Nat → Prop} (w : World) (h : DMm w g D fb bn bs Mn Ms A c lf) (hS : ∀ k, DSet g fb bn bs A k → S k) (hD : DSm 1000 D) (s u : List UInt8) (hl : s.length ≤ 100000) (hu : u.length ≤ 100000) (hs : D.shut s = 0) (hr : (flappF (D.file (D.find s)) u).2 = 0) (hc : ¬ D.cap < (D.used : Int) + (u.length : Int)) :
    Calls Tryz.prog 12 #[.pointer (some ⟨g, 0, none⟩), .string ⟨s.toArray⟩, .string ⟨u.toArray⟩] w fun e w' => e = .returned (.int .i64 D.told) ∧ DTo w w' S g (D.counted.put (D.find s) (flappF (D.file (D.find s)) u).1) := by
  have hf := p_dfind w h s (by omega)
  rw [if_pos hs, hs] at hf
  obtain ⟨hd, h0, hn⟩ := h.find_ hD.hist hs
  have HF := Lib.hid hf
  have HM := Lib.hid h
  have HS := Lib.hid hS
  have HFl := Lib.hid (h.fl _ h0 hn)
  have H0 := Lib.hid h0
  have HN := Lib.hid hn
  have HBy := Lib.hid fun W (hW : DMm W g D fb bn bs Mn Ms A c lf) => p_dbytes W hW hD.hist hD.bnd hD.dir
  have hused : (D.used : Int) ≤ 1000000000 := by
    have h1 := dcnt_le D (fun _ => false) hD.bnd D.dir
    rw [dcnt_end (fun _ => rfl)] at h1
    have h2 : D.dir.length * 1000000 ≤ 1000 * 1000000 := Nat.mul_le_mul_right _ hD.dir
    show ((dusedL D D.dir : Nat) : Int) ≤ _
    omega
  have hw9 : IntKind.i64.wrap ((D.used : Int) + (u.length : Int)) = (D.used : Int) + (u.length : Int) := by rw [IntKind.wrap_i64]; omega
  have HP := Lib.hid fun W => p_flapp_any (D.file (D.find s)).1 (D.file (D.find s)).2 u W (by have := (hD.bnd.file (D.find s)).2; omega) (by omega)
  rw [← dfile_eta] at HP
  unfold flc at HP
  have hf1 := h.fl _ h0 hn
  have x0 := hf1.cell 0
  have x1 := hf1.cell 1
  unfold flv at x0 x1
  simp only [List.getElem?_toArray, List.getElem?_cons_zero, List.getElem?_cons_succ] at x0 x1
  have hqS := h.set_q hS h0 hn
  generalize flappF (D.file (D.find s)) u = R at *
  obtain ⟨⟨ra, rb⟩, rr⟩ := R
  dsimp only at HP hr ⊢
  subst hr
  have HO : Hid (∀ W, DMm W g (D.put (D.find s) (ra, rb)) fb bn bs Mn Ms A c lf → Calls Tryz.prog 48 #[.pointer (some ⟨g, 0, none⟩)] W fun e w' => e = .returned (.int .i64 D.told) ∧ DMm w' g (D.counted.put (D.find s) (ra, rb)) fb bn bs Mn Ms A c (if 0 < lf then lf - 1 else lf) ∧ Touch W w' (fun k => k = g)) :=
    Lib.hid fun W hW => q_dop W hW hd ⟨hD.ops.1, by have := hD.ops.2; show D.ops ≤ _; omega⟩
  have HY : Hid (∀ W, DMm W g D fb bn bs Mn Ms A c lf → ∀ X, (W.setCell ⟨fbk fb (D.find s), 0, none⟩ (.string ⟨ra.toArray⟩)).setCell ⟨fbk fb (D.find s), 1, none⟩ (.string ⟨rb.toArray⟩) = X → DMm X g (D.put (D.find s) (ra, rb)) fb bn bs Mn Ms A c lf ∧ Touch W X (fun k => k = fbk fb (D.find s))) := Lib.hid fun W hW => hW.put_ h0 hn ra rb
  generalize D.find s = n at *
  rw [dfile_eta] at HFl
  generalize hq : fbk fb n = q at *
  generalize (D.file n).1 = fa at *
  generalize (D.file n).2 = ft at *
  generalize (D.used : Int) = us at *
  clear h hS hD hf hl hu hs h0 hn hd hf1
  go_enter Tryz.func12, Tryz.ntmps12
  go_wp2_with (first
    | (go_at_call 45; (with_reducible refine HF.out.mono ?_); rintro e w1 ⟨rfl, hw1⟩; obtain rfl := hw1.symm)
    | (go_at_call 46; (with_reducible refine (HP.out _).mono ?_); rintro e w3 ⟨rfl, hb3⟩; have HB3 := Lib.hid hb3; have hm3 := HM.out.on hb3; have ta := touch_below (S := S) (hb3.alloc hb3.size (.cells #[.string ⟨ra.toArray⟩, .string ⟨rb.toArray⟩] 78)) (Nat.le_refl _); have HA := Lib.hid (⟨ta.os, ta.tape, ta.output, ta.size, ta.block⟩ : Touch w (w3.alloc (.cells #[.string ⟨ra.toArray⟩, .string ⟨rb.toArray⟩] 78)).drew S); clear ta; have HM3 := Lib.hid ((hm3.on ((Below.refl _ _).alloc (Nat.le_refl _) (.cells #[.string ⟨ra.toArray⟩, .string ⟨rb.toArray⟩] 78))).keep (W' := (w3.alloc _).drew) (fun k _ => rfl)); have g0 := hm3.box.cell 0; have g2 := hm3.box.cell 2; unfold dbx at g0 g2; simp only [List.getElem?_toArray, List.getElem?_cons_zero, List.getElem?_cons_succ] at g0 g2; have hg3 := hm3.box.lt; have HBL := Lib.hid (Blk.new w3 78 #[.string ⟨ra.toArray⟩, .string ⟨rb.toArray⟩]).drew; clear hb3 hm3 x0 x1)
    | fail)
  go_region_with (go_at_call 47; (with_reducible refine (HBy.out _ HM3.out).mono ?_); rintro e w5 ⟨rfl, hb5⟩; have HB5 := Lib.hid hb5; have hm5 := HM3.out.on hb5; have HM5 := Lib.hid hm5; have hg5 := hm5.box.lt; have k0 := hm5.box.cell 0; unfold dbx at k0; simp only [List.getElem?_toArray, List.getElem?_cons_zero, List.getElem?_cons_succ] at k0; have hf5 := hm5.fl n H0.out HN.out; rw [hq] at hf5; have hq5 := hf5.lt; have y0 := hf5.cell 0; have y1 := hf5.cell 1; unfold flv at y0 y1; simp only [List.getElem?_toArray, List.getElem?_cons_zero, List.getElem?_cons_succ] at y0 y1; have z0 := hf5.frozen 0; have z1 := hf5.frozen 1; have HX := Lib.hid (HY.out _ hm5); have hbl := (HBL.out).below hb5 HBL.out.lt; have HBL5 := Lib.hid hbl; have l0 := hbl.cell 0; have l1 := hbl.cell 1; simp only [List.getElem?_toArray, List.getElem?_cons_zero, List.getElem?_cons_succ] at l0 l1; clear hb5 hm5 hf5 hbl)
  all_goals go_wp2_with (first | (go_at_call 48; obtain ⟨hmx, htx⟩ := HX.out _ rfl; (with_reducible refine (HO.out _ hmx).mono ?_); rintro e w6 ⟨rfl, hm6, ht6⟩; have HM6 := Lib.hid hm6; have HT6 := Lib.hid (htx.mono (S' := S) (fun k _ e => by rw [e]; exact hqS) |>.trans (ht6.mono (fun k _ e => by rw [e]; exact HS.out g (.inl rfl)))); clear hm6 ht6 hmx htx) | fail)
  all_goals go_ret
  all_goals exact ⟨rfl, HM6.out.done ((HA.out.trans (touch_below HB5.out (Nat.le_refl _))).trans HT6.out) HS.out⟩
end Go.Proofs.YtgoahcmgpjacjaaGreat
