/-
 What the law of the last of these texts stands on, part 19.
-/
import Derived.Test.YtanjhbkbpalnaaaGreatMb15
import Derived.Shelf.Abstract
set_option maxRecDepth 100000
set_option maxHeartbeats 8000000
open Go.Proofs.Tryz
namespace Go.Proofs.YtanjhbkbpalnaaaGreat
set_option linter.unusedSimpArgs false
set_option linter.unusedVariables false
open Go.ChangeShapes Go.WideShapes Go.ChangeAt Go.RowKit Go.Joins Go.Deep
theorem zrun_top {P : Program} {t e : TypeId} {i : TypeInfo} (ht : P.underlying t = some (.slice e)) (hi : P.info? e = some i) (hs : i.size = 1) (g off n c j : Nat) (hj : j ≤ c) (w : World) :
  (Instr.slice t (.slice (some ⟨g, off, none⟩) n c) none (some (.int .i64 (j : Int))) (some (.int .i64 (j : Int)))).run P w = .ok (.slice (some ⟨g, off, none⟩) j j) w := by
 have he : P.elem t = e := by simp [Program.elem, ht]
 rw [run_slice_hm w t (some ⟨g, off, none⟩) n c (by rw [he]; exact ht) .i64 .i64 j j (by omega) (by omega) (by omega), he]
 simp [sizeOf, typeInfo, hi, hs, sliced, yc9]
theorem ints_drop (l : List Int) (k : Nat) : (ints l).drop k = ints (l.drop k) := by simp [ints]
theorem ints_take (l : List Int) (k : Nat) : (ints l).take k = ints (l.take k) := by simp [ints]
theorem Reads.front {w : World} {B n m : Nat} {A : Option Addr} {xs : List Value} (h : Reads w B 1 A n xs) (hm : m ≤ n) : Reads w B 1 A m (xs.take m) := by
 refine ⟨by rw [qar, h.1]; omega, fun hp => ?_⟩
 obtain ⟨b, off, e, hb, hc⟩ := h.2 (by omega)
 refine ⟨b, off, e, hb, fun j u hu => hc j u ?_⟩
 rw [List.getElem?_take] at hu
 split at hu
 ·exact hu
 ·cases hu
structure ZWalk (l : List Int) (top : Int) (n N : Nat) (A : Option Addr) (fr fo : FuncId) (cr co : Array Value) (I : Nat → World → Prop) : Prop where
 er : ∀ args w, (callFunc fr args).run prog w = .ok (.enter fr args) w
 eo : ∀ args w, (callFunc fo args).run prog w = .ok (.enter fo args) w
 reads : ∀ k W, I k W → Reads W N 1 A n (ints l)
 run : ∀ k j W Ap, k ≤ j → j ≤ n → yaE top ((l.take j).drop k) = true → (∀ hj : j < l.length, zin top l[j] = false) → I k W → Reads W N 1 Ap (j - k) (ints ((l.take j).drop k)) →
  Calls prog fr (#[.slice Ap (j - k) (j - k)] ++ cr) W fun e W' => (∃ v, e = .returned v) ∧ I j W'
 other : ∀ j W (hj : j < l.length), zin top l[j] = false → I j W → Calls prog fo (#[.int .i64 l[j]] ++ co) W fun e W' => (∃ v, e = .returned v) ∧ I (j + 1) W'
theorem zr_walk_any (l : List Int) (top : Int) (n N c : Nat) (A : Option Addr) (fr fo : FuncId) (cr co : Array Value) (I : Nat → World → Prop) (hW : ZWalk l top n N A fr fo cr co I) (w : World)
  (hn : l.length = n) (hm : n ≤ 4611686018427387904) (hc : n ≤ c) (h0 : I 0 w) :
  Calls prog 71 #[.slice A n c, .int .i64 top, .func (.func fr) #[] cr, .func (.func fo) #[] co] w fun e W' => (∃ v, e = .returned v) ∧ I n W' := by
 obtain ⟨i0, hi, hz0, hz1, hz2⟩ := qbn yc5
 have Hn := qaa hn
 have HW := qaa hW
 have her := hW.er
 have heo := hW.eo
 clear hW
 go_enter func71, ntmps71
 go_wp2
 go_step3
 go_wp2
 go_step3
 go_wp2
 go_loopw [0] (fun v wr => ∃ (k m ck : Nat) (Ak : Option Addr), k + m = n ∧ v = .slice Ak m ck ∧ m ≤ ck ∧ Hid (∀ W, Reads W N 1 A n (ints l) → Reads W N 1 Ak m (ints (l.drop k))) ∧ Hid (I k wr)) (fun v _ => match v with | .slice _ m _ => m | _ => 0)
 case atStart => exact ⟨0, n, c, A, by omega, rfl, hc, fun W h => h, h0⟩
 case round =>
  obtain ⟨k, m, ck, Ak, hk, rfl, hck, Hr, HI⟩ := hrel
  by_cases hlt : 0 < m
  ·have hki : (0 : Int) < (m : Int) := by omega
   have hm2 : m ≤ 4611686018427387904 := by omega
   have hrd := Hr.out wr (HW.out.reads k wr HI.out)
   obtain ⟨b, off, rfl, hb, hcell⟩ := hrd.2 hlt
   have Hcell : Hid (∀ a (ha : k + a < l.length), a < m → wr.cell? ⟨b, off + a, none⟩ = some (.int .i64 l[k + a])) := qaa fun a ha _ => hcell a _ (by rw [yak _ a (by simp; omega)]; simp)
   have Hrd := qaa hrd
   clear hrd hcell
   go_wp2
   go_loop [0, 15] (fun v i => ∃ a : Nat, a ≤ m ∧ v = .slice (some ⟨b, off, none⟩) m ck ∧ i = .int .i64 a ∧ Hid (yaE top ((l.take (k + a)).drop k) = true)) (fun _ i => m - (intOf i).toNat)
   case atStart => exact ⟨0, by omega, rfl, rfl, qaa (by rw [qbr, qaJ (by simp; omega)]; rfl)⟩
   case round =>
    obtain ⟨a, ha, rfl, rfl, Hg⟩ := hrel
    by_cases hal : a < m
    ·have hai : (0 : Int) ≤ (a : Int) ∧ (a : Int) < m := by omega
     have hkl : k + a < l.length := by have := Hn.out; omega
     have hx := Hcell.out a hkl hal
     have hwi := fun W => yeb l[k + a] top W
     cases hz : zin top l[k + a] with
     | true =>
      have Hg2 : Hid (yaE top ((l.take (k + (a + 1))).drop k) = true) := qaa (by
       rw [show k + (a + 1) = k + a + 1 from rfl, qao hkl, qbd (by rw [qar]; omega), ygH, ybi]
       exact ⟨Hg.out, (ydz _ _).1 hz, rfl⟩)
      rw [hz] at hwi
      have Hwi := qaa hwi
      clear hwi hz
      generalize l[k + a] = x at *
      go_wp2_with (go_at_call 120; refine (Hwi.out _).mono ?_; rintro e w1 ⟨rfl, rfl⟩)
      go_round
      case rel => exact ⟨a + 1, by omega, rfl, iv (by omega), Hg2.out⟩
      case measure => simp only [intOf]; omega
     | false =>
      rw [hz] at hwi
      have Hwi := qaa hwi
      have htop := fun W => zrun_top (P := prog) underlying28 hi hz1 b off m ck a (by omega) W
      have hfrom := fun W => ybw (P := prog) underlying28 hi hz1 (some ⟨b, off, none⟩) m ck (a + 1) (by omega) W
      have hpc := HW.out.run k (k + a) wr (some ⟨b, off, none⟩) (by omega) (by omega) Hg.out (fun _ => hz) HI.out (by
       have := Hrd.out.front (m := a) (by omega)
       rw [ints_take] at this
       rwa [List.drop_take, qbF])
      rw [qbF] at hpc
      have Hpc := qaa hpc
      clear hpc
      have Hot := qaa fun W h => HW.out.other (k + a) W hkl hz h
      clear hwi hz
      generalize l[k + a] = x at *
      go_wp2_with (first
       | (go_at_call 120; refine (Hwi.out _).mono ?_; rintro e w1 ⟨rfl, rfl⟩)
       | (with_reducible refine (Hpc.out).mono ?_; rintro e w2 ⟨⟨v2, rfl⟩, hI2⟩; have HI2 := qaa hI2; clear hI2)
       | (with_reducible refine (Hot.out _ HI2.out).mono ?_; rintro e w3 ⟨⟨v3, rfl⟩, hI3⟩; have HI3 := qaa hI3; clear hI3))
      have hcut : ∀ W, Reads W N 1 A n (ints l) → Reads W N 1 (if ck = a + 1 then some ⟨b, off, none⟩ else some ⟨b, off + (a + 1), none⟩) (m - (a + 1)) (ints (l.drop (k + a + 1))) := fun W h => by
       have := (Hr.out W h).cut (k := a + 1) (cap := ck) (by omega) (by omega)
       rw [qc1, ints_drop, qbA, qb8, yc9] at this
       exact this
      refine ⟨⟨k + a + 1, m - (a + 1), ck - (a + 1), _, by omega, rfl, by omega, qaa hcut, HI3⟩, ?_⟩
      show m - (a + 1) < m
      omega
    ·obtain rfl : a = m := by omega
     have htop := fun W => zrun_top (P := prog) underlying28 hi hz1 b off a ck a (by omega) W
     have hpc := HW.out.run k (k + a) wr (some ⟨b, off, none⟩) (by omega) (by omega) Hg.out (fun hj => by have := Hn.out; omega) HI.out (by
      have := Hrd.out.front (m := a) (by omega)
      rw [ints_take] at this
      rwa [List.drop_take, qbF])
     rw [qbF, hk] at hpc
     have Hpc := qaa hpc
     clear hpc
     go_wp2_with (with_reducible refine (Hpc.out).mono ?_; rintro e w2 ⟨⟨v2, rfl⟩, hI2⟩; have HI2 := qaa hI2; clear hI2)
     rw [qbN]
     refine qaQ (results_none rfl _ _ _) rfl ?_
     exact ⟨⟨_, rfl⟩, HI2.out⟩
  ·obtain rfl : m = 0 := by omega
   obtain rfl : k = n := by omega
   go_wp2
   rw [Exit.noGoto_normal]
   go_end0
   exact ⟨⟨_, rfl⟩, HI.out⟩
end Go.Proofs.YtanjhbkbpalnaaaGreat
