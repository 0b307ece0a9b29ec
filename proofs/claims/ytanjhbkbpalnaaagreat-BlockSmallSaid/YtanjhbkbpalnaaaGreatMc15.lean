/-
 What the law of the last of these texts stands on, part 15.
-/
import Derived.Test.YtanjhbkbpalnaaaGreatMc11
set_option maxRecDepth 100000
set_option maxHeartbeats 8000000
open Go.Proofs.Tryz
namespace Go.Proofs.YtanjhbkbpalnaaaGreat
set_option linter.unusedSimpArgs false
set_option linter.unusedVariables false
open Go.ChangeShapes Go.WideShapes Go.ChangeAt Go.RowKit Go.Joins Go.Deep Go.Shelf
structure RSrc where
 A : Option Addr
 n : Nat
 c : Nat
 E : List PEl
def rsrc (s : RSrc) : CSrc := ⟨s.A, s.n, s.c, ya8 s.E⟩
def rall (l : List RSrc) : List PEl := (l.map (·.E)).flatten
theorem rsum_all : ∀ (l : List RSrc), (∀ s ∈ l, s.E.length = s.n) → CSum (l.map rsrc) = (rall l).length
 | [], _ => rfl
 | s :: t, h => by
  have h1 := rsum_all t fun x hx => h x (qa3 _ hx)
  have h2 := h s (by simp)
  show s.n + CSum (t.map rsrc) = (s.E ++ rall t).length
  rw [qae, h1, h2]
theorem rall_cells : ∀ (l : List RSrc), CAll (l.map rsrc) = ya8 (rall l)
 | [] => rfl
 | s :: t => by
  show ya8 s.E ++ CAll (t.map rsrc) = ya8 (s.E ++ rall t)
  rw [yeX, rall_cells t]
theorem row_any (ok : Nat → Prop) (l : List RSrc) (AL : Option Addr) (K c : Nat) (w : World) (hK : l.length = K) (hKb : K ≤ 1000) (hrow : CRow w AL (l.map rsrc)) (hokn : ∀ b, w.heap.size ≤ b → ok b) (hsrc : ∀ s ∈ l, PRow ok w w.heap.size s.A s.n s.E) (hn : (rall l).length ≤ 100000) :
  Calls prog 144 #[.slice AL K c] w fun e w' => ∃ (Z : List PEl) (A' : Option Addr) (c' : Nat), e = .returned (.slice A' Z.length c') ∧ Z.length ≤ c' ∧ Z.Perm (yb2 0 (rall l)) ∧ Z.Pairwise (sord (ltOf pcf) (·.no)) ∧ PRow ok w' w'.heap.size A' Z.length Z ∧ Below w.heap.size w w' := by
 have hsum := rsum_all l fun s hs => (hsrc s hs).1
 have Hcat := qaa (tcat_any (l.map rsrc) AL K c w (by rw [qaM]; exact hK) (by rw [hsum]; omega) (by omega) hrow (fun s hs => by
  obtain ⟨x, hx, rfl⟩ := qbI.1 hs
  exact ⟨(hsrc x hx).2.1, pcells_one _⟩))
 rw [hsum, rall_cells] at Hcat
 have Hok : Hid (∀ x ∈ yb2 0 (rall l), POk ok w w.heap.size x) := qaa fun y hy => by
  obtain ⟨_, x, hx, e1, e2, e3⟩ := yfY _ _ _ hy
  obtain ⟨E, hE, hx⟩ := List.mem_flatten.1 hx
  obtain ⟨s, hs, rfl⟩ := qbI.1 hE
  have := (hsrc s hs).2.2.1 x hx
  exact ⟨by rw [e1, e3]; exact this.room, by rw [e1, e2]; exact this.reads, by rw [e1, e2]; exact this.ty⟩
 have Hsort := qaa fun (v : Value) (W : World) (hO : W.ownsRow w.heap.size 190 2 v (rall l).length (ya8 (rall l))) (hb : w.heap.size ≤ W.heap.size) =>
  sort_any v (rall l).length w.heap.size (yb2 0 (rall l)) W (by rw [yg7]; exact hO) hb (yfP _ _) (yfO _ _) (by omega)
 have Hlen := qaa (yfP (rall l) 0)
 have Hokn := qaa hokn
 clear hsum hrow hsrc hokn
 generalize rall l = E at *
 go_enter func144, ntmps144
 go_wp2_with (first
  | (go_at_call 182; refine Hcat.out.mono ?_; rintro e w1 ⟨A1, c1, rfl, hO1, hB1⟩; have HO1 := qaa hO1; have HB1 := qaa hB1; clear hO1 hB1)
  | (go_at_call 183; refine (Hsort.out _ _ HO1.out HB1.out.size).mono ?_; rintro e w2 ⟨rfl, Z, A2, c2, hv, hc2, hp, ho, hr, hb⟩; have HV := qaa hv; have HP := qaa hp; have HO := qaa ho; have HR := qaa hr; have HB := qaa hb; clear hv hp ho hr hb))
 go_ret
 have hv := HV.out
 injection hv with e1 _ e3
 subst e1 e3
 have hZ : Z.length = E.length := by rw [HP.out.length_eq, Hlen.out]
 have hbel : Below w.heap.size w w2 := HB1.out.trans HB.out
 refine ⟨Z, A1, c1, by rw [hZ]; rfl, by rw [hZ]; exact hc2, HP.out, HO.out, ⟨rfl, by rw [hZ]; exact HR.out, fun x hx => ?_, by rw [hZ]; exact lok_own HO1.out Hokn.out⟩, hbel⟩
 exact ((Hok.out x (HP.out.subset hx)).below hbel).more hbel.size
theorem lexp_le {k : Nat} (h : k ≤ 14) : (2 ^ k : Nat) ≤ 16384 := qaG (qaH (by omega) h) (by decide)
theorem ppk_len {Ep Z : List PEl} (h : pth Ep = yav (pth Z)) (hz : Z.length ≤ 2000) : Ep.length ≤ 1000 := by
 have h1 := qbD List.length h
 rw [ych] at h1
 unfold pth at h1
 rw [qaM, qaM] at h1
 omega
theorem last_any (ok : Nat → Prop) (counts : List Int) (E1 : List PEl) (rows : Nat) (A1 : Option Addr) (c1 : Nat) (w : World) (hl : counts.length ≤ 257) (hg : ygd counts = true) (h1 : pth E1 = yaa counts) (hokn : ∀ b, w.heap.size ≤ b → ok b) (hr : PRow ok w w.heap.size A1 E1.length E1) (hc1 : E1.length ≤ c1) (hrows : 1 ≤ rows ∧ rows ≤ 15) :
  Calls prog 146 #[.slice A1 E1.length c1, .int .i64 rows] w fun e w' => ∃ (Z : List PEl) (A' : Option Addr) (c' : Nat), e = .returned (.slice A' Z.length c') ∧ Z.length ≤ c' ∧ pth Z = lrow (yaa counts) (rows - 1) ∧ PRow ok w' w'.heap.size A' Z.length Z ∧ Below w.heap.size w w' := by
 have hll := yaV counts
 have hE1 : E1.length ≤ 257 := by
  have h2 := ydH counts
  rw [← h1] at h2
  unfold pth at h2
  rw [qaM] at h2
  omega
 have Hlen : Hid (∀ k (Z : List PEl), pth Z = lrow (yaa counts) k → Z.length ≤ 514) := qaa fun k Z hZ => by
  have h2 := yfh hll k
  rw [← hZ, ← h1] at h2
  unfold pth at h2
  rw [qaM, qaM] at h2
  omega
 have Hfit : Hid (∀ k (Z : List PEl), k ≤ 14 → pth Z = lrow (yaa counts) k → ∀ x ∈ Z, PFit x) := qaa fun k Z hk hZ x hx => by
  obtain ⟨f1, f2, f3, _⟩ := ygy counts hg k x.th (by rw [← hZ]; exact qbI.2 ⟨x, hx, rfl⟩)
  have := lexp_le hk
  refine ⟨by omega, f2, ?_⟩
  have : ((2 ^ k : Nat) : Int) * 1000000 ≤ 16384 * 1000000 := Int.mul_le_mul_of_nonneg_right (by omega) (by omega)
  omega
 have Hnext : Hid (∀ k (Z Ep Z2 : List PEl), pth Z = lrow (yaa counts) k → pth Ep = yav (pth Z) → Z2.Perm (yb2 0 (E1 ++ Ep)) → Z2.Pairwise (sord (ltOf pcf) (·.no)) → pth Z2 = lrow (yaa counts) (k + 1)) := qaa fun k Z Ep Z2 a1 a2 a3 a4 => by
  rw [a1] at a2
  exact prow_next (yaa counts) (lrow (yaa counts) k) E1 Ep Z2 hll (yeQ hll k) h1 a2 a3 a4
 have Hr := qaa hr
 have H1 : Hid (pth E1 = lrow (yaa counts) 0) := qaa h1
 have hri : (1 : Int) ≤ (rows : Int) ∧ (rows : Int) ≤ 15 := by omega
 have Hokn := qaa hokn
 clear hr h1 hll hg hokn
 generalize yaa counts = LV at *
 obtain ⟨n1, hn1⟩ : ∃ n1, E1.length = n1 := ⟨_, rfl⟩
 have En := qaa hn1
 rw [hn1] at Hr hc1 hE1 ⊢
 clear hn1
 go_enter func146, ntmps146
 go_wp2
 go_loopw [5, 9] (fun v i wr => ∃ (k nz cz : Nat) (Az : Option Addr) (Z : List PEl), k + 1 ≤ rows ∧ i = .int .i64 k ∧ v = .slice Az nz cz ∧ Z.length = nz ∧ nz ≤ cz ∧ Hid (pth Z = lrow LV k) ∧ Hid (PRow ok wr wr.heap.size Az nz Z) ∧ Hid (Below w.heap.size w wr)) (fun _ i _ => rows - (intOf i).toNat)
 case atStart => exact ⟨0, n1, c1, A1, E1, by omega, rfl, rfl, En.out, hc1, H1, Hr, qam _ _⟩
 case round =>
  obtain ⟨k, nz, cz, Az, Z, hk, rfl, rfl, hnz, hcz, HZ, HRz, HB⟩ := hrel
  by_cases hlt : k + 1 < rows
  ·have hlz : (k : Int) < (rows : Int) - 1 := by omega
   have hnz5 : nz ≤ 514 := by rw [← hnz]; exact Hlen.out k Z HZ.out
   have Hpk := qaa (packages_any ok Z Az nz cz wr (fun b hb => Hokn.out b (qaG HB.out.size hb)) HRz.out (by omega) (Hfit.out k Z (by omega) HZ.out))
   have Hrow := qaa fun (W : World) (Ep : List PEl) (Ap : Option Addr) (cp : Nat) (hb : Below wr.heap.size wr W) (hpr : PRow ok W W.heap.size Ap Ep.length Ep) (hpl : Ep.length ≤ 1000) =>
    row_any ok [⟨A1, n1, c1, E1⟩, ⟨Ap, Ep.length, cp, Ep⟩] (some ⟨W.heap.size, 0, none⟩) 2 2 (W.alloc (.cells #[.slice A1 n1 c1, .slice Ap Ep.length cp] 185)) rfl (by omega)
     (fun _ => ⟨W.heap.size, 0, rfl, by rw [qay]; omega, fun i hi => by
      have hi2 : i < 2 := hi
      have hB := (Blk.new W 185 #[.slice A1 n1 c1, .slice Ap Ep.length cp]).two
      rcases (show i = 0 ∨ i = 1 by omega) with rfl | rfl
      ·exact hB.1
      ·exact hB.2.1⟩)
     (fun b hb2 => Hokn.out b (by rw [qay] at hb2; have h1 := HB.out.size; have h2 := hb.size; omega))
     (fun s hs => by
      have hba : Below W.heap.size W (W.alloc (.cells #[.slice A1 n1 c1, .slice Ap Ep.length cp] 185)) := (qam _ _).alloc (qaf _) _
      have hwW : Below w.heap.size w W := HB.out.trans (hb.mono HB.out.size)
      rcases qaB.1 hs with rfl | hs
      ·exact ((Hr.out.below (hwW.trans (hba.mono hwW.size))).more (qaG hwW.size hba.size))
      ·rcases qaB.1 hs with rfl | hs
       ·exact (hpr.below hba).more hba.size
       ·cases hs)
     (by show (E1 ++ (Ep ++ [])).length ≤ _; rw [qa8, qae, En.out]; omega)
   go_wp2_with (first
    | (go_at_call 185; refine Hpk.out.mono ?_; rintro e w1 ⟨Ep, Ap, cp, rfl, hcp, hp1, hp2, hp3⟩; have HP1 := qaa hp1; have HP2 := qaa hp2; have HP3 := qaa hp3; have hepl : Ep.length ≤ 1000 := ppk_len hp1 (by omega); clear hp1 hp2 hp3)
    | (go_at_call 144; refine (Hrow.out _ _ _ _ HP3.out HP2.out hepl).mono ?_; rintro e w2 ⟨Z2, A2, c2, rfl, hc2, hq1, hq2, hq3, hq4⟩; have HQ1 := qaa hq1; have HQ2 := qaa hq2; have HQ3 := qaa hq3; have HQ4 := qaa hq4; clear hq1 hq2 hq3 hq4))
   have HB2 : Hid (Below w.heap.size w w2) := qaa (by
    have hb1 : Below w.heap.size w w1 := HB.out.trans (HP3.out.mono HB.out.size)
    have hb2 := hb1.alloc hb1.size (.cells #[.slice A1 n1 c1, .slice Ap Ep.length cp] 185)
    exact hb2.trans (HQ4.out.mono hb2.size))
   have HZ2 : Hid (pth Z2 = lrow LV (k + 1)) := qaa (Hnext.out k Z Ep Z2 HZ.out HP1.out (by have := HQ1.out; simpa [rall] using this) HQ2.out)
   go_roundw
   case rel => exact ⟨k + 1, Z2.length, c2, A2, Z2, by omega, iv (by omega), rfl, rfl, hc2, HZ2, HQ3, HB2⟩
   case measure => simp only [intOf]; omega
  ·obtain rfl : rows = k + 1 := by omega
   have hlz : ¬ (k : Int) < ((k + 1 : Nat) : Int) - 1 := by omega
   subst hnz
   go_wp2
   go_ret
   exact ⟨Z, Az, cz, rfl, hcz, HZ.out, HRz.out, HB.out⟩
end Go.Proofs.YtanjhbkbpalnaaaGreat
