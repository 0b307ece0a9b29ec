/-
 What the law of the last of these texts stands on, part 29.
-/
import Derived.Test.YtanjhbkbpalnaaaGreatMc21
set_option maxRecDepth 100000
set_option maxHeartbeats 8000000
open Go.Proofs.Tryz
namespace Go.Proofs.YtanjhbkbpalnaaaGreat
set_option linter.unusedSimpArgs false
set_option linter.unusedVariables false
open Go.ChangeShapes Go.WideShapes Go.ChangeAt Go.RowKit Go.Joins Go.Deep Go.Shelf
theorem zsplit (l : List Int) (k j : Nat) (h : k ≤ j) : l.drop k = (l.take j).drop k ++ l.drop j := by
 rw [List.drop_take]
 conv => lhs; rw [← qax (j - k) (l.drop k)]
 rw [qbh, show k + (j - k) = j from by omega]
theorem yeE (l : List Int) (j : Nat) (top : Int) (h : ∀ hj : j < l.length, zin top l[j] = false) : ∀ x s, l.drop j = x :: s → ¬(0 ≤ x ∧ x ≤ top) := fun x s e h2 => by
 have hj : j < l.length := by
  rcases qbz j l.length with hlt | hge
  ·exact hlt
  ·rw [qaO hge] at e; cases e
 rw [qa6 hj] at e
 injection e with e _
 have := h hj
 rw [e, (ybP _ _).2 h2] at this
 cases this
theorem zpk_step (l : List Int) (k j : Nat) (hkj : k ≤ j) (hj : j ≤ l.length) (hg : ya5 0 ((l.take j).drop k) = true) (hx : ∀ hj : j < l.length, zin 0 l[j] = false) : zpk 0 (l.drop k) = zd (j - k) ++ zpk 0 (l.drop j) := by
 have h0 : ∀ x ∈ (l.take j).drop k, x = 0 := fun x hx => by
  obtain ⟨i, hi, rfl⟩ := qaI hx
  have := ybm hg i hi
  omega
 rw [zsplit l k j hkj, zpk_run 0 _ _ h0, zpk_end _ _ (fun x s e e0 => yeE l j 0 hx x s e (by omega))]
 congr 2
 rw [qat, qao]
 omega
theorem zpk_next (l : List Int) (j : Nat) (hj : j < l.length) (hx : zin 0 l[j] = false) : zpk 0 (l.drop j) = (l[j] + 1) :: zpk 0 (l.drop (j + 1)) := by
 rw [qa6 hj]
 exact ydj _ _ fun e => by rw [(ybP _ _).2 (by omega)] at hx; cases hx
def zpw (w1 : World) : World := (w1.alloc (.cells #[.slice none 0 0] 28)).alloc (.cells #[zaddV w1.heap.size] 109)
theorem zr_pwalk_any (l : List Int) (A : Option Addr) (n c B : Nat) (w1 : World) (hn : l.length = n) (hm : n ≤ 1000000) (hc : n ≤ c) (hB : B ≤ w1.heap.size) (hg : ya5 255 l = true) (hr : Reads w1 B 1 A n (ints l)) :
  Calls prog 71 #[.slice A n c, .int .i64 0, .func (.func 72) #[] #[.pointer (some ⟨w1.heap.size + 1, 0, none⟩)], .func (.func 74) #[] #[.pointer (some ⟨w1.heap.size + 1, 0, none⟩)]] (zpw w1) fun e W' =>
   (∃ v, e = .returned v) ∧ ∃ v, ZPk B w1.heap.size (w1.heap.size + 1) v (zpk 0 l) W' ∧ Below B w1 W' := by
 have hT : (zpk 0 l).length ≤ 1000000 := by have := yhk l 0; omega
 have hlen : ∀ out k, out ++ zpk 0 (l.drop k) = zpk 0 l → out.length ≤ 1000000 := fun out k h => by
  have := qbD List.length h
  rw [qae] at this
  omega
 refine (ydD l 0 n B c A _ _ _ _ (fun k W => Below B w1 W ∧ ∃ v out, ZPk B w1.heap.size (w1.heap.size + 1) v out W ∧ out ++ zpk 0 (l.drop k) = zpk 0 l) ⟨?er, ?eo, ?reads, ?run, ?other⟩ (zpw w1) hn (by omega) hc ?h0).mono ?fin
 case er => exact enters_of func72 (by kernel_rfl) rfl
 case eo => exact enters_of func74 (by kernel_rfl) rfl
 case reads => exact fun k W h => hr.below h.1
 case run =>
  rintro k j W Ap hkj hjn hgp hx ⟨hb, v, out, hP, ho⟩ hrp
  refine (zr_prun_any B w1.heap.size (w1.heap.size + 1) (j - k) (j - k) Ap v out W (by omega) (hlen out k ho) hP).mono ?_
  rintro e W' ⟨he, v', hP', hb'⟩
  refine ⟨he, hb.trans hb', v', _, hP', ?_⟩
  rw [qak, ← zpk_step l k j hkj (by omega) hgp hx, ho]
 case other =>
  rintro j W hj hx ⟨hb, v, out, hP, ho⟩
  have h1 := ybm hg j hj
  refine (zr_pother_any B w1.heap.size (w1.heap.size + 1) v out l[j] W (by omega) (by have := hlen out j ho; omega) hP).mono ?_
  rintro e W' ⟨he, v', hP', hb'⟩
  refine ⟨he, hb.trans hb', v', _, hP', ?_⟩
  rw [← ho, zpk_next l j hj hx]
  simp
 case h0 =>
  have hbw : Below B w1 (zpw w1) := ((qam _ _).alloc hB _).alloc (by simp; omega) _
  refine ⟨hbw, .slice none 0 0, [], ⟨?_, qbS _ _ _ _, ?_, hB, by omega, qaG hB hbw.size⟩, rfl⟩
  ·exact (Blk.new w1 _ _).alloc _
  ·have := Blk.new (w1.alloc (.cells #[.slice none 0 0] 28)) 109 #[zaddV w1.heap.size]
   rwa [show (w1.alloc (.cells #[.slice none 0 0] 28)).heap.size = w1.heap.size + 1 from by simp] at this
 case fin =>
  rintro e W' ⟨he, hb, v, out, hP, ho⟩
  refine ⟨he, v, ?_, hb⟩
  rw [← ho, qaO (by omega)]
  simpa [zpk, yb5] using hP
theorem zr_pack_any (l : List Int) (A : Option Addr) (n c : Nat) (w : World) (hm : n ≤ 1000000) (hc : n ≤ c) (hr : Reads w w.heap.size 1 A n (ints l)) :
  Calls prog 40 #[.slice A n c] w fun e w' => ∃ A' c', e = .returned (.tuple #[.slice A' (yfZ l).1.length c', .int .i64 (yfZ l).2]) ∧ (yfZ l).1.length ≤ c' ∧ Reads w' w'.heap.size 1 A' (yfZ l).1.length (ints (yfZ l).1) ∧ Below w.heap.size w w' := by
 have hmf := ye0
 have en : l.length = n := by have := hr.1; rw [yac] at this; omega
 have Hall := qaa (zr_all_any l 255 A n c w (by omega) hr)
 unfold yfZ
 cases hg : ya5 255 l with
 | true =>
  rw [hg] at Hall
  have Hwalk := qaa fun w1 (hb : Below w.heap.size w w1) => zr_pwalk_any l A n c w.heap.size w1 en hm hc hb.size hg (hr.below hb)
  clear hg hr hm hc
  rw [qah rfl]
  show Calls _ _ _ _ fun e w' => ∃ A' c', e = .returned (.tuple #[.slice A' (zpk 0 l).length c', .int .i64 0]) ∧ (zpk 0 l).length ≤ c' ∧ Reads w' w'.heap.size 1 A' (zpk 0 l).length (ints (zpk 0 l)) ∧ Below w.heap.size w w'
  generalize zpk 0 l = T at *
  go_enter func40, ntmps40
  go_wp2_with (first
   | (go_at_call 69; refine Hall.out.mono ?_; rintro e w1 ⟨rfl, hb1⟩; have Hb1 := qaa hb1; clear hb1)
   | (go_at_call 71; refine (Hwalk.out _ Hb1.out).mono ?_; rintro e w2 ⟨⟨r, rfl⟩, v, hP, hb2⟩; have HP := qaa hP; have Hb2 := qaa hb2; obtain ⟨A2, c2, rfl, hc2, hr2⟩ := yag HP.out.own; have Hr2 := qaa hr2; have x1 := HP.out.box.cell 0; have Hc2 := qaa hc2; clear hP hb2 hr2 hc2))
  go_ret2
  exact ⟨A2, c2, rfl, Hc2.out, Hr2.out, Hb1.out.trans Hb2.out⟩
 | false =>
  rw [hg] at Hall
  clear hg hr hm hc
  rw [qag (by decide)]
  go_enter func40, ntmps40
  go_wp2_with (go_at_call 69; refine Hall.out.mono ?_; rintro e w1 ⟨rfl, hb1⟩; have Hb1 := qaa hb1; clear hb1)
  go_ret2
  exact ⟨none, 0, rfl, qaf _, Reads.none_, Hb1.out⟩
end Go.Proofs.YtanjhbkbpalnaaaGreat
