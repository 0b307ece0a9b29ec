/-
 What the law of the last of these texts stands on, part 43.
-/
import Derived.Test.YtanjhbkbpalnaaaGreatMa38
set_option maxRecDepth 100000
set_option maxHeartbeats 8000000
open Go.Proofs.Tryz
namespace Go.Proofs.YtanjhbkbpalnaaaGreat
set_option linter.unusedSimpArgs false
set_option linter.unusedVariables false
open Go.ChangeShapes Go.WideShapes Go.ChangeAt Go.RowKit Go.Joins Go.Deep Go.Shelf
theorem zun_step (l : List Int) (k j : Nat) (hkj : k ≤ j) (hg : ya2 1 ((l.take j).drop k) = true) (hx : ∀ hj : j < l.length, zin 1 l[j] = false) : zun [] (l.drop k) = List.replicate (zv ((l.take j).drop k)) 0 ++ zun [] (l.drop j) := by
 rw [zsplit l k j hkj, zun_run [] _ _ hg, qbc, zun_end _ _ (yfn l j 1 hx)]
theorem zun_next (l : List Int) (j : Nat) (hj : j < l.length) (hx : zin 1 l[j] = false) : zun [] (l.drop j) = (l[j] - 1) :: zun [] (l.drop (j + 1)) := by
 rw [qau hj]
 exact zun_cons _ _ fun h => by rw [(ybW _ _).2 h] at hx; cases hx
def zuw (w1 : World) (N : Nat) : World := ((w1.alloc (.cells (ints (List.replicate N 0)).toArray 3)).alloc (.cells #[.slice (some ⟨w1.heap.size, 0, none⟩) N N] 28)).alloc (.cells #[.int .i64 0] 3)
theorem zr_uwalk_any (l : List Int) (A : Option Addr) (n c B N : Nat) (w1 : World) (hn : l.length = n) (hm : n ≤ 1000000) (hc : n ≤ c) (hB : B ≤ w1.heap.size) (hg : ya2 256 l = true) (hN : N ≤ 100000) (hT : (zun [] l).length = N) (hr : Reads w1 B 1 A n (ints l)) :
  Calls prog 71 #[.slice A n c, .int .i64 1, .func (.func 133) #[] #[.pointer (some ⟨w1.heap.size + 2, 0, none⟩)], .func (.func 135) #[] #[.pointer (some ⟨w1.heap.size + 1, 0, none⟩), .pointer (some ⟨w1.heap.size + 2, 0, none⟩)]] (zuw w1 N) fun e W' =>
   (∃ v, e = .returned v) ∧ ZUn B w1.heap.size N (zun [] l) W' ∧ Below B w1 W' := by
 have hlen : ∀ out k, out ++ zun [] (l.drop k) = zun [] l → out.length + (zun [] (l.drop k)).length = N := fun out k h => by
  have := qbC List.length h
  rw [qab] at this
  omega
 refine (ydY l 1 n B c A _ _ _ _ (fun k W => Below B w1 W ∧ ∃ out, ZUn B w1.heap.size N out W ∧ out ++ zun [] (l.drop k) = zun [] l) ⟨?er, ?eo, ?reads, ?run, ?other⟩ (zuw w1 N) hn (by omega) hc ?h0).mono ?fin
 case er => exact enters_of func133 (by kernel_rfl) rfl
 case eo => exact enters_of func135 (by kernel_rfl) rfl
 case reads => exact fun k W h => hr.below h.1
 case run =>
  rintro k j W Ap hkj hjn hgp hx ⟨hb, out, hP, ho⟩ hrp
  have h1 := hlen out k ho
  have h2 := zun_step l k j hkj hgp hx
  rw [h2, qab, qav] at h1
  refine (zr_urun_any B w1.heap.size N (j - k) (j - k) out Ap _ W (by rw [qas, qao]; omega) (by omega) hN (by omega) hgp hrp hP).mono ?_
  rintro e W' ⟨he, hP', hb'⟩
  refine ⟨he, hb.trans hb', _, hP', ?_⟩
  rw [qam, ← h2, ho]
 case other =>
  rintro j W hj hx ⟨hb, out, hP, ho⟩
  have h1 := hlen out j ho
  have h2 := zun_next l j hj hx
  have h3 := yaX hg j hj
  rw [h2, qap] at h1
  refine (zr_uother_any B w1.heap.size N out l[j] W (by omega) hN (by omega) hP).mono ?_
  rintro e W' ⟨he, hP', hb'⟩
  refine ⟨he, hb.trans hb', _, hP', ?_⟩
  rw [← ho, h2]
  simp
 case h0 =>
  have hbw : Below B w1 (zuw w1 N) := (((qak _ _).alloc hB _).alloc (by simp; omega) _).alloc (by simp; omega) _
  refine ⟨hbw, [], ⟨?_, ?_, ?_, hB, by simp, qaA hB hbw.size⟩, rfl⟩
  ·have : zrow N [] = List.replicate N 0 := by simp [zrow]
   rw [this]
   exact ((Blk.new w1 _ _).alloc _).alloc _
  ·have := Blk.new (w1.alloc (.cells (ints (List.replicate N 0)).toArray 3)) 28 #[.slice (some ⟨w1.heap.size, 0, none⟩) N N]
   rw [show (w1.alloc (.cells (ints (List.replicate N 0)).toArray 3)).heap.size = w1.heap.size + 1 from by simp] at this
   exact this.alloc _
  ·have := Blk.new ((w1.alloc (.cells (ints (List.replicate N 0)).toArray 3)).alloc (.cells #[.slice (some ⟨w1.heap.size, 0, none⟩) N N] 28)) 3 #[.int .i64 0]
   rwa [show ((w1.alloc (.cells (ints (List.replicate N 0)).toArray 3)).alloc (.cells #[.slice (some ⟨w1.heap.size, 0, none⟩) N N] 28)).heap.size = w1.heap.size + 2 from by simp] at this
 case fin =>
  rintro e W' ⟨he, hb, out, hP, ho⟩
  refine ⟨he, ?_, hb⟩
  rw [← ho, qaH (by omega)]
  simpa [zun, zv] using hP
theorem zun_reads {B g N : Nat} {out : List Int} {W : World} (h : ZUn B g N out W) (hN : out.length = N) : Reads W W.heap.size 1 (some ⟨g, 0, none⟩) N (ints out) := by
 have hr := h.row
 rw [zrow_all N out hN] at hr
 refine ⟨by rw [yab, hN, qcK], fun _ => ⟨g, 0, rfl, hr.lt, fun j u hu => ?_⟩⟩
 rw [qaz, hr.cell]
 simpa using hu
theorem zr_unpack_any (l : List Int) (most : Int) (A : Option Addr) (n c : Nat) (w : World) (hm : n ≤ 1000000) (hc : n ≤ c) (hr : Reads w w.heap.size 1 A n (ints l)) :
  Calls prog 91 #[.slice A n c, .int .i64 most] w fun e w' => ∃ A' c', e = .returned (.tuple #[.slice A' (zunF l most).1.length c', .int .i64 (zunF l most).2]) ∧ (zunF l most).1.length ≤ c' ∧ Reads w' w'.heap.size 1 A' (zunF l most).1.length (ints (zunF l most).1) ∧ Below w.heap.size w w' := by
 have hmf := yeD
 have en : l.length = n := by have := hr.1; rw [yab] at this; omega
 have Hall := qaa (zr_all_any l 256 A n c w (by omega) hr)
 have Hcount := qaa fun w1 (hb : Below w.heap.size w w1) => zr_count_any l A n c w1 hm hc ((hr.below hb).more hb.size)
 unfold zunF
 cases hg : ya2 256 l with
 | true =>
  rw [hg] at Hall
  rw [qag rfl]
  by_cases hbig : (yaZ l : Int) > most ∨ (yaZ l : Int) > 100000
  ·rw [qag hbig]
   show Calls _ _ _ _ fun e w' => ∃ A' c', e = .returned (.tuple #[.slice A' 0 c', .int .i64 3]) ∧ 0 ≤ c' ∧ Reads w' w'.heap.size 1 A' 0 [] ∧ Below w.heap.size w w'
   clear hg hr hm hc
   generalize (yaZ l : Int) = z at *
   go_enter func91, ntmps91
   go_wp2_with (first
    | (go_at_call 69; refine Hall.out.mono ?_; rintro e w1 ⟨rfl, hb1⟩; have Hb1 := qaa hb1; clear hb1)
    | (go_at_call 132; refine (Hcount.out _ Hb1.out).mono ?_; rintro e w2 ⟨rfl, hb2⟩; have Hb2 := qaa (Hb1.out.trans (hb2.mono Hb1.out.size)); clear hb2))
   all_goals go_ret2
   all_goals exact ⟨none, ⟨0, rfl⟩, Reads.none_, Hb2.out⟩
  ·rw [qae hbig]
   show Calls _ _ _ _ fun e w' => ∃ A' c', e = .returned (.tuple #[.slice A' (zun [] l).length c', .int .i64 0]) ∧ (zun [] l).length ≤ c' ∧ Reads w' w'.heap.size 1 A' (zun [] l).length (ints (zun [] l)) ∧ Below w.heap.size w w'
   have hz : yaZ l = (zun [] l).length := by
    rw [zun_len l [] hg]
    unfold yaZ at hbig ⊢
    omega
   rw [hz] at Hcount hbig
   have hb2 : ((zun [] l).length : Int) ≤ most ∧ ((zun [] l).length : Int) ≤ 100000 := by omega
   have Hwalk := qaa fun w1 (hb : Below w.heap.size w w1) => zr_uwalk_any l A n c w.heap.size (zun [] l).length w1 en hm hc hb.size hg (by omega) rfl (hr.below hb)
   clear hg hr hm hc hbig hz
   generalize zun [] l = T at *
   have hmk := fun W => zmk_ints (T.length : Int) T.length rfl (by omega) W
   have HT : Hid (∀ (B g : Nat) (W : World), ZUn B g T.length T W → Reads W W.heap.size 1 (some ⟨g, 0, none⟩) T.length (ints T)) := qaa fun B g W h => zun_reads h rfl
   unfold zuw at Hwalk
   generalize (ints (List.replicate T.length 0)).toArray = Z0 at *
   obtain ⟨hz1, hz2⟩ := hb2
   go_enter func91, ntmps91
   go_wp2_with (first
    | (go_at_call 69; refine Hall.out.mono ?_; rintro e w1 ⟨rfl, hb1⟩; have Hb1 := qaa hb1; clear hb1)
    | (go_at_call 132; refine (Hcount.out _ Hb1.out).mono ?_; rintro e w2 ⟨rfl, hb2⟩; have Hb2 := qaa (Hb1.out.trans (hb2.mono Hb1.out.size)); clear hb2)
    | (go_at_call 71; refine (Hwalk.out _ Hb2.out).mono ?_; rintro e w3 ⟨⟨r, rfl⟩, hP, hb3⟩; have x1 := hP.box.cell 0; have Hr3 := qaa (HT.out _ _ _ hP); have Hb3 := qaa hb3; clear hP hb3))
   all_goals go_ret2
   all_goals exact ⟨_, _, rfl, qad _, Hr3.out, Hb2.out.trans Hb3.out⟩
 | false =>
  rw [hg] at Hall
  clear hg hr hm hc
  rw [qae (by decide)]
  go_enter func91, ntmps91
  go_wp2_with (go_at_call 69; refine Hall.out.mono ?_; rintro e w1 ⟨rfl, hb1⟩; have Hb1 := qaa hb1; clear hb1)
  go_ret2
  exact ⟨none, 0, rfl, qad _, Reads.none_, Hb1.out⟩
end Go.Proofs.YtanjhbkbpalnaaaGreat
