/-
  Layer 7: the probe that each statement of the layer asks beside itself returns true.
-/
import Derived.Test.YtaabmpmoioipaaaZrV
import Derived.Test.YtaabmpmoioipaaaSame
namespace Go.Proofs.Ytaabmpmoioipaaa
set_option linter.unusedSimpArgs false
set_option linter.unusedVariables false
open Go.ChangeShapes Go.WideShapes Go.ChangeAt Go.RowKit Go.Joins Go.Deep Go.Shelf

section
variable {cs : Array Value} {n N : Nat} {xs ys : List Int} {e : Int}
theorem zfresh (hcs : cs = (ints xs).toArray) (hn : xs.length = n) (w : World) : Reads (w.alloc (.cells cs 3)) (w.alloc (.cells cs 3)).heap.size 1 (some ⟨w.heap.size, 0, none⟩) n (ints xs) := by
  subst hcs
  have := reads_new w 3 (ints xs).toArray 1 n (by simp [ints_length, hn])
  exact this.more (by simp)
theorem zback_below {w w' : World} {o : Obj} (hb : Below (w.alloc o).heap.size (w.alloc o) w') : Below w.heap.size w w' := ((Below.refl _ _).alloc (Nat.le_refl _) o).trans (hb.mono (by simp))
theorem aw7_pack (hcs : cs = (ints xs).toArray) (hn : xs.length = n) (hm : n ≤ 5000) (hN : ys.length = N) (h : zpackF xs = (ys, e)) (w : World) :
    Calls Try.prog 8 #[.slice (some ⟨w.heap.size, 0, none⟩) n n] (w.alloc (.cells cs 3)) fun r w' => ∃ A c, r = .returned (.tuple #[.slice A N c, .int .i64 e]) ∧ Reads w' w'.heap.size 1 A N (ints ys) ∧ Below w.heap.size w w' := by
  refine (zr_pack_any xs _ n n (w.alloc (.cells cs 3)) (by omega) (Nat.le_refl _) (zfresh hcs hn w)).mono ?_
  rintro r w' ⟨A, c, rfl, _, hr, hb⟩
  rw [h] at hr ⊢
  subst hN
  exact ⟨A, c, rfl, hr, zback_below hb⟩
theorem aw7_unpack (most : Int) (hcs : cs = (ints xs).toArray) (hn : xs.length = n) (hm : n ≤ 1000) (hN : ys.length = N) (h : zunF xs most = (ys, e)) (w : World) :
    Calls Try.prog 13 #[.slice (some ⟨w.heap.size, 0, none⟩) n n, .int .i64 most] (w.alloc (.cells cs 3)) fun r w' => ∃ A c, r = .returned (.tuple #[.slice A N c, .int .i64 e]) ∧ Reads w' w'.heap.size 1 A N (ints ys) ∧ Below w.heap.size w w' := by
  refine (zr_unpack_any xs most _ n n (w.alloc (.cells cs 3)) (by omega) (Nat.le_refl _) (zfresh hcs hn w)).mono ?_
  rintro r w' ⟨A, c, rfl, _, hr, hb⟩
  rw [h] at hr ⊢
  subst hN
  exact ⟨A, c, rfl, hr, zback_below hb⟩
/-- What reads as a list is the same as that list, written out. -/
theorem aw7_same (A : Option Addr) (c : Nat) (hcs : cs = (ints xs).toArray) (hn : xs.length = n) (hm : n ≤ 1000) (w1 : World) (hr : Reads w1 w1.heap.size 1 A n (ints xs)) : ∀ W, Below w1.heap.size w1 W →
    Calls Try.prog 10 #[.slice A n c, .slice (some ⟨W.heap.size, 0, none⟩) n n] (W.alloc (.cells cs 3)) fun r w' => r = .returned (.bool true) ∧ Below W.heap.size W w' := fun W hb => by
  have h1 := (hr.below (hb.alloc hb.size (.cells cs 3))).more (B' := (W.alloc (.cells cs 3)).heap.size) (by have := hb.size; simp; omega)
  refine (same_any A (some ⟨W.heap.size, 0, none⟩) n n c n xs xs _ h1 (zfresh hcs hn W) (by omega) (by omega)).mono ?_
  rintro r w' ⟨rfl, hb2⟩
  exact ⟨by simp, zback_below hb2⟩
end
theorem zdig4 : zdigF 4 = [2, 1] := by
  unfold zdigF
  rw [show (4 : Int).toNat = 4 from rfl, zd_pos 4 (by decide), zd_pos ((4 - 1) / 2) (by decide), show ((4 - 1) / 2 - 1) / 2 = 0 from rfl, zd_zero]
  rfl
theorem zpk5 : zpackF [0, 0, 0, 5] = ([0, 0, 6], 0) := by
  have h3 : zd 3 = [0, 0] := by
    rw [zd_pos 3 (by decide), zd_pos ((3 - 1) / 2) (by decide), show ((3 - 1) / 2 - 1) / 2 = 0 from rfl, zd_zero]
    rfl
  unfold zpackF
  rw [if_pos (by decide)]
  simp [zpk, h3, zd_zero]

set_option maxRecDepth 100000 in
set_option maxHeartbeats 4000000 in
theorem awake7_any (w : World) : Calls Try.prog 7 #[] w fun e w' => e = .returned (.bool true) ∧ Below w.heap.size w w' := by
  have Hp1 := Lib.hid fun w => aw7_pack (cs := #[.int .i64 0, .int .i64 0, .int .i64 0, .int .i64 5]) (n := 4) (N := 3) rfl rfl (by decide) rfl zpk5 w
  have Hu1 := Lib.hid fun w => aw7_unpack (cs := #[.int .i64 0, .int .i64 0, .int .i64 6]) (n := 3) (N := 4) (xs := [0, 0, 6]) (ys := [0, 0, 0, 5]) (e := 0) 4 rfl rfl (by decide) rfl (by decide +kernel) w
  have Hu2 := Lib.hid fun w => aw7_unpack (cs := #[.int .i64 0, .int .i64 0, .int .i64 6]) (n := 3) (N := 0) (xs := [0, 0, 6]) (ys := []) (e := 3) 3 rfl rfl (by decide) rfl (by decide +kernel) w
  have Hp2 := Lib.hid fun w => aw7_pack (cs := #[.int .i64 256]) (n := 1) (N := 0) (xs := [256]) (ys := []) (e := 60) rfl rfl (by decide) rfl (by unfold zpackF; rw [if_neg (by decide)]) w
  have hd : ∀ w, Calls Try.prog 11 #[.int .i64 4] w fun e w' => ∃ A c, e = .returned (.slice A 2 c) ∧ Reads w' w'.heap.size 1 A 2 (ints [2, 1]) ∧ Below w.heap.size w w' := fun w => by
    refine (zr_digits_any 4 (by decide) w).mono ?_
    rintro r w' ⟨A, c, rfl, _, hown, hb⟩
    rw [zdig4] at hown ⊢
    exact ⟨A, c, rfl, zowns_reads hown, hb⟩
  have hc : ∀ w, Calls Try.prog 15 #[.slice (some ⟨w.heap.size, 0, none⟩) 3 3] (w.alloc (.cells #[.int .i64 1, .int .i64 300, .int .i64 1] 3)) fun e w' => e = .returned (.int .i64 4) ∧ Below w.heap.size w w' := fun w => by
    refine (zr_count_any [1, 300, 1] _ 3 3 (w.alloc (.cells #[.int .i64 1, .int .i64 300, .int .i64 1] 3)) (by decide) (Nat.le_refl _) (zfresh rfl rfl w)).mono ?_
    rintro r w' ⟨rfl, hb⟩
    exact ⟨by rw [show zcountF [1, 300, 1] = 4 from by decide +kernel]; rfl, zback_below hb⟩
  have Hd := Lib.hid hd
  have Hc := Lib.hid hc
  clear hd hc
  go_enter Try.func7, Try.ntmps7
  go_wp2_with (first
    | (go_at_call 8; (with_reducible refine (Hp1.out _).mono ?_); rintro e w1 ⟨A1, c1, rfl, hr1, hb1⟩; have Hs1 := Lib.hid (aw7_same (cs := #[.int .i64 0, .int .i64 0, .int .i64 6]) (n := 3) A1 c1 rfl rfl (by decide) w1 hr1); have Hb := Lib.hid hb1; clear hr1 hb1)
    | (go_at_call 13; (with_reducible refine (Hu1.out _).mono ?_); rintro e w2 ⟨A2, c2, rfl, hr2, hb2⟩; have Hs2 := Lib.hid (aw7_same (cs := #[.int .i64 0, .int .i64 0, .int .i64 0, .int .i64 5]) (n := 4) A2 c2 rfl rfl (by decide) w2 hr2); replace Hs1 := Lib.hid fun W (h : Below w2.heap.size w2 W) => Hs1.out W (hb2.trans (h.mono hb2.size)); replace Hb := Lib.hid (Hb.out.trans (hb2.mono Hb.out.size)); clear hr2 hb2)
    | (go_at_call 13; (with_reducible refine (Hu2.out _).mono ?_); rintro e w3 ⟨A3, c3, rfl, _, hb3⟩; replace Hs1 := Lib.hid fun W (h : Below w3.heap.size w3 W) => Hs1.out W (hb3.trans (h.mono hb3.size)); replace Hs2 := Lib.hid fun W (h : Below w3.heap.size w3 W) => Hs2.out W (hb3.trans (h.mono hb3.size)); replace Hb := Lib.hid (Hb.out.trans (hb3.mono Hb.out.size)); clear hb3)
    | (go_at_call 8; (with_reducible refine (Hp2.out _).mono ?_); rintro e w4 ⟨A4, c4, rfl, _, hb4⟩; replace Hs1 := Lib.hid fun W (h : Below w4.heap.size w4 W) => Hs1.out W (hb4.trans (h.mono hb4.size)); replace Hs2 := Lib.hid fun W (h : Below w4.heap.size w4 W) => Hs2.out W (hb4.trans (h.mono hb4.size)); replace Hb := Lib.hid (Hb.out.trans (hb4.mono Hb.out.size)); clear hb4)
    | (go_at_call 11; refine (Hd.out _).mono ?_; rintro e w5 ⟨A5, c5, rfl, hr5, hb5⟩; have Hs5 := Lib.hid (aw7_same (cs := #[.int .i64 2, .int .i64 1]) (n := 2) A5 c5 rfl rfl (by decide) w5 hr5); replace Hs1 := Lib.hid fun W (h : Below w5.heap.size w5 W) => Hs1.out W (hb5.trans (h.mono hb5.size)); replace Hs2 := Lib.hid fun W (h : Below w5.heap.size w5 W) => Hs2.out W (hb5.trans (h.mono hb5.size)); replace Hb := Lib.hid (Hb.out.trans (hb5.mono Hb.out.size)); clear hr5 hb5)
    | (go_at_call 10; (with_reducible refine (Hs1.out _ (Below.refl _ _)).mono ?_); rintro e w6 ⟨rfl, hb6⟩; replace Hs2 := Lib.hid fun W (h : Below w6.heap.size w6 W) => Hs2.out W (hb6.trans (h.mono hb6.size)); replace Hs5 := Lib.hid fun W (h : Below w6.heap.size w6 W) => Hs5.out W (hb6.trans (h.mono hb6.size)); replace Hb := Lib.hid (Hb.out.trans (hb6.mono Hb.out.size)); clear hb6 Hs1)
    | (go_at_call 10; (with_reducible refine (Hs2.out _ (Below.refl _ _)).mono ?_); rintro e w7 ⟨rfl, hb7⟩; replace Hs5 := Lib.hid fun W (h : Below w7.heap.size w7 W) => Hs5.out W (hb7.trans (h.mono hb7.size)); replace Hb := Lib.hid (Hb.out.trans (hb7.mono Hb.out.size)); clear hb7 Hs2)
    | (go_at_call 10; (with_reducible refine (Hs5.out _ (Below.refl _ _)).mono ?_); rintro e w8 ⟨rfl, hb8⟩; replace Hb := Lib.hid (Hb.out.trans (hb8.mono Hb.out.size)); clear hb8 Hs5)
    | (go_at_call 15; refine (Hc.out _).mono ?_; rintro e w9 ⟨rfl, hb9⟩; replace Hb := Lib.hid (Hb.out.trans (hb9.mono Hb.out.size)); clear hb9))
  go_ret
  exact ⟨rfl, Hb.out⟩
end Go.Proofs.Ytaabmpmoioipaaa
