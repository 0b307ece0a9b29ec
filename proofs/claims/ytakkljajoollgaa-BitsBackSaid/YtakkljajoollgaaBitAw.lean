/-
  Layer 4: the probe that each statement of the layer asks beside itself returns true.
-/
import Derived.Test.YtakkljajoollgaaBitP
import Derived.Test.YtakkljajoollgaaBitV
namespace Go.Proofs.Ytakkljajoollgaa
set_option linter.unusedSimpArgs false
set_option linter.unusedVariables false
open Go.ChangeShapes Go.WideShapes Go.ChangeAt Go.RowKit Go.Joins Go.Deep

theorem reads_lit2 (W : World) (ws : List (Int × Int)) (n : Nat) (hn : ws.length = n) (cs : Array Value) (hcs : (pairs .i64 ws).toArray = cs) (t : TypeId) : Reads (W.alloc (.cells cs t)) (W.alloc (.cells cs t)).heap.size 2 (some ⟨W.heap.size, 0, none⟩) n (pairs .i64 ws) := by
  subst hcs hn
  have h := Reads.new W t (pairs .i64 ws) 2 ws.length (pairs_length _ _)
  exact h.more (by simp)
theorem reads_lit1 (W : World) (ws : List Int) (n : Nat) (hn : ws.length = n) (cs : Array Value) (hcs : (ints ws).toArray = cs) (t : TypeId) : Reads (W.alloc (.cells cs t)) (W.alloc (.cells cs t)).heap.size 1 (some ⟨W.heap.size, 0, none⟩) n (ints ws) := by
  subst hcs hn
  have h := Reads.new W t (ints ws) 1 ws.length (by rw [ints_length]; omega)
  exact h.more (by simp)
theorem alloc_below {W w' : World} {o : Obj} (h : Below (W.alloc o).heap.size (W.alloc o) w') : Below W.heap.size W w' := ((Below.refl _ _).alloc (Nat.le_refl _) o).trans (h.mono (by simp))

theorem aw_pack (W : World) : Calls Try.prog 8 #[.slice (some ⟨W.heap.size, 0, none⟩) 2 2] (W.alloc (.cells #[.int .i64 5, .int .i64 3, .int .i64 1, .int .i64 2] 41)) fun e w' =>
    e = .returned (.tuple #[.string ⟨#[168]⟩, .int .i64 0]) ∧ Below W.heap.size W w' := by
  refine (pack_any [(5, 3), (1, 2)] _ 2 2 _ rfl (by decide) (reads_lit2 W _ 2 rfl _ rfl _)).mono ?_
  rintro e w' ⟨rfl, hb⟩
  exact ⟨by
    have h1 : packF [(5, 3), (1, 2)] = some [1, 0, 1, 0, 1] := by decide
    unfold packV
    rw [h1]
    have h2 : text [1, 0, 1, 0, 1] = [168] := by rw [text_short _ (by decide) (by decide)]; decide
    show Ending.returned (strInt (text [1, 0, 1, 0, 1]) 0) = _
    rw [h2]
    rfl, alloc_below hb⟩
theorem aw_unpack (W : World) : Calls Try.prog 10 #[.string ⟨#[168]⟩, .slice (some ⟨W.heap.size, 0, none⟩) 2 2] (W.alloc (.cells #[.int .i64 3, .int .i64 2] 3)) fun e w' =>
    ∃ b off c, e = .returned (.tuple #[.slice (some ⟨b, off, none⟩) 2 c, .int .i64 5, .int .i64 0]) ∧ b < w'.heap.size ∧ w'.cell? ⟨b, off, none⟩ = some (.int .i64 5) ∧ w'.cell? ⟨b, off + 1, none⟩ = some (.int .i64 1) ∧ Below W.heap.size W w' := by
  refine (unpack_any [168] [3, 2] _ 2 2 _ (by decide) rfl (by decide) (reads_lit1 W _ 2 rfl _ rfl _) ([5, 1], 5, 0) (by decide)).mono ?_
  rintro e w' ⟨A', c', rfl, hR, hb⟩
  obtain ⟨b, off, rfl, hlt, hc⟩ := hR.2 (by decide)
  exact ⟨b, off, c', rfl, hlt, hc 0 _ rfl, hc 1 _ rfl, alloc_below hb⟩
theorem gam5 : gam 5 = [0, 0, 1, 0, 1] := by decide
theorem aw_wgamma (W : World) : Calls Try.prog 14 #[.pointer (some ⟨W.heap.size, 0, none⟩), .int .i64 5] (W.alloc (.cells #[.slice none 0 0, .int .i64 0] 39)) fun e w' =>
    e = .returned (.int .i64 0) ∧ ∃ v', WHold w' 0 W.heap.size v' [0, 0, 1, 0, 1] ∧ Below W.heap.size W w' := by
  have hH0 : WHold (W.alloc (.cells #[.slice none 0 0, .int .i64 0] 39)) 0 W.heap.size (.slice none 0 0) [] := by
    refine ⟨by simpa [fr] using Blk.new W 39 #[.slice none 0 0, .int .i64 0], ?_, bin_nil⟩
    simpa [text_nil, bc] using World.ownsRow_nil (W.alloc (.cells #[.slice none 0 0, .int .i64 0] 39)) 0 5 1
  refine (wgamma_yes 0 W.heap.size 5 (.slice none 0 0) [] _ (by decide) hH0 (Nat.zero_le _) (by decide)).mono ?_
  rintro e w' ⟨rfl, v', hH, ht, _⟩
  refine ⟨rfl, v', ?_, ?_⟩
  · rw [← gam5]
    exact hH
  · refine ((Below.refl W.heap.size W).alloc (Nat.le_refl _) _).trans (ht.below (fun k _ h => ?_) (by simp))
    rcases h with h | h
    · omega
    · cases h
theorem aw_rgamma (W : World) : Calls Try.prog 21 #[.pointer (some ⟨W.heap.size, 0, none⟩)] (W.alloc (.cells #[.string ⟨#[40]⟩, .int .i64 0] 61)) fun e w' =>
    e = .returned (.tuple #[.int .i64 5, .int .i64 0]) ∧ RHold w' W.heap.size [40] 5 ∧ Below W.heap.size W w' := by
  have hR : RHold (W.alloc (.cells #[.string ⟨#[40]⟩, .int .i64 0] 61)) W.heap.size [40] 0 := Blk.new W _ _
  refine (rgamma_yes [40] 0 W.heap.size 5 _ (by decide) (by decide) hR 5 (by decide)).mono ?_
  rintro e w' ⟨rfl, hR', ht⟩
  exact ⟨rfl, hR', ((Below.refl W.heap.size W).alloc (Nat.le_refl _) _).trans (ht.below (fun k _ h => by omega) (by simp))⟩
theorem aw_get (W : World) (g : Nat) (hR : RHold W g [40] 5) : Calls Try.prog 23 #[.pointer (some ⟨g, 0, none⟩), .int .i64 4] W fun e w' =>
    e = .returned (.tuple #[.int .i64 0, .int .i64 4]) ∧ Below W.heap.size W w' := by
  refine (get_no [40] 5 g 4 4 W (by decide) (by decide) hR (by decide) (by decide)).mono ?_
  rintro e w' ⟨rfl, k, rfl⟩
  exact ⟨rfl, below_drewN (Below.refl _ _) _⟩
theorem quiet_is {f : FuncId} {args : Array Value} {w : World} {n : Nat} {v : Value} (h : Calls Try.prog f args (w.drewN n) fun e w' => e = .returned v ∧ ∃ k, (w.drewN n).drewN k = w') : Calls Try.prog f args (w.drewN n) fun e w'' => e = .returned v ∧ ∃ m, w'' = w.drewN m :=
  Calls.quiet_of (h.mono fun _ _ ⟨he, k, hk⟩ => ⟨he, k, hk.symm⟩)
theorem quiet_same {f : FuncId} {args : Array Value} {w : World} {n : Nat} {v : Value} (h : Calls Try.prog f args (w.drewN n) fun e w' => e = .returned v ∧ w.drewN n = w') : Calls Try.prog f args (w.drewN n) fun e w'' => e = .returned v ∧ ∃ m, w'' = w.drewN m :=
  Calls.quiet_of_same (h.mono fun _ _ ⟨he, hk⟩ => ⟨he, hk.symm⟩)
theorem text5 : text [0, 0, 1, 0, 1] = [40] := by rw [text_short _ (by decide) (by decide)]; decide

/-- What is known at the end of the probe's calls. -/
structure AwEnd (w w2 w3 w5 : World) (b off : Nat) : Prop where
  x1 : w5.cell? ⟨b, off, none⟩ = some (.int .i64 5)
  x2 : w5.cell? ⟨b, off + 1, none⟩ = some (.int .i64 1)
  len : ∀ n, Calls Try.prog 17 #[.pointer (some ⟨w2.heap.size, 0, none⟩)] (w5.drewN n) fun e w'' => e = .returned (.int .i64 5) ∧ ∃ m, w'' = w5.drewN m
  txt : ∀ n, Calls Try.prog 18 #[.pointer (some ⟨w2.heap.size, 0, none⟩)] (w5.drewN n) fun e w'' => e = .returned (.string ⟨#[40]⟩) ∧ ∃ m, w'' = w5.drewN m
  left : ∀ n, Calls Try.prog 24 #[.pointer (some ⟨w3.heap.size, 0, none⟩)] (w5.drewN n) fun e w'' => e = .returned (.int .i64 3) ∧ ∃ m, w'' = w5.drewN m
  done_ : ∀ n, Calls Try.prog 22 #[.pointer (some ⟨w3.heap.size, 0, none⟩)] (w5.drewN n) fun e w'' => e = .returned (.bool true) ∧ ∃ m, w'' = w5.drewN m
  end_ : Below w.heap.size w w5
theorem aw_end {w w1 w2 w3 w4 w5 : World} {b off : Nat} {v3 : Value} (H1 : Hid (Below w.heap.size w w1)) (H2 : Hid (Below w1.heap.size w1 w2)) (Hlt : Hid (b < w2.heap.size)) (Hx : Hid (w2.cell? ⟨b, off, none⟩ = some (.int .i64 5))) (Hy : Hid (w2.cell? ⟨b, off + 1, none⟩ = some (.int .i64 1)))
    (H3 : Hid (Below w2.heap.size w2 w3)) (HH3 : Hid (WHold w3 0 w2.heap.size v3 [0, 0, 1, 0, 1])) (H4 : Hid (Below w3.heap.size w3 w4)) (HR4 : Hid (RHold w4 w3.heap.size [40] 5)) (H5 : Hid (Below w4.heap.size w4 w5)) : AwEnd w w2 w3 w5 b off := by
  have s1 := H1.out.size
  have s2 := H2.out.size
  have s3 := H3.out.size
  have s4 := H4.out.size
  have k3 : Below w2.heap.size w2 w5 := H3.out.trans ((H4.out.trans (H5.out.mono s4)).mono s3)
  have x1 : w5.cell? ⟨b, off, none⟩ = some (.int .i64 5) := (k3.cell (p := ⟨b, off, none⟩) Hlt.out).trans Hx.out
  have x2 : w5.cell? ⟨b, off + 1, none⟩ = some (.int .i64 1) := (k3.cell (p := ⟨b, off + 1, none⟩) Hlt.out).trans Hy.out
  have hW5 : WHold w5 0 w2.heap.size v3 [0, 0, 1, 0, 1] := (HH3.out.below H4.out (Nat.le_refl _)).below H5.out (Nat.le_refl _)
  have hR5 : RHold w5 w3.heap.size [40] 5 := Blk.below HR4.out H5.out (Blk.lt HR4.out)
  have hlen : ∀ n, Calls Try.prog 17 #[.pointer (some ⟨w2.heap.size, 0, none⟩)] (w5.drewN n) fun e w'' => e = .returned (.int .i64 5) ∧ ∃ m, w'' = w5.drewN m := fun n => quiet_is (wlen_any 0 w2.heap.size v3 [0, 0, 1, 0, 1] _ hW5 (by decide))
  have htxt : ∀ n, Calls Try.prog 18 #[.pointer (some ⟨w2.heap.size, 0, none⟩)] (w5.drewN n) fun e w'' => e = .returned (.string ⟨#[40]⟩) ∧ ∃ m, w'' = w5.drewN m := fun n => by
    have h := wtext_any 0 w2.heap.size v3 [0, 0, 1, 0, 1] (w5.drewN n) hW5
    rw [text5] at h
    exact quiet_same h
  have hleft : ∀ n, Calls Try.prog 24 #[.pointer (some ⟨w3.heap.size, 0, none⟩)] (w5.drewN n) fun e w'' => e = .returned (.int .i64 3) ∧ ∃ m, w'' = w5.drewN m := fun n => quiet_is (left_any [40] 5 w3.heap.size _ (by decide) (by decide) hR5)
  have hdone : ∀ n, Calls Try.prog 22 #[.pointer (some ⟨w3.heap.size, 0, none⟩)] (w5.drewN n) fun e w'' => e = .returned (.bool true) ∧ ∃ m, w'' = w5.drewN m := fun n => quiet_is (done_yes [40] 5 w3.heap.size _ (by decide) (by decide) hR5 (by decide) (by decide))
  have hend : Below w.heap.size w w5 := H1.out.trans ((H2.out.trans (k3.mono s2)).mono s1)
  exact ⟨x1, x2, hlen, htxt, hleft, hdone, hend⟩

set_option maxRecDepth 100000 in
set_option maxHeartbeats 4000000 in
theorem awake_any (w : World) : Calls Try.prog 7 #[] w fun e w' => e = .returned (.bool true) ∧ Below w.heap.size w w' := by
  go_enter Try.func7, Try.ntmps7
  go_wp2_with (first
    | (go_at_call 8; (with_reducible refine (aw_pack _).mono ?_); rintro e w1 ⟨rfl, hb1⟩; have H1 := Lib.hid hb1; clear hb1)
    | (go_at_call 10; (with_reducible refine (aw_unpack _).mono ?_); rintro e w2 ⟨b, off, c, rfl, hlt, hx, hy, hb2⟩; have H2 := Lib.hid hb2; have Hlt := Lib.hid hlt; have Hx := Lib.hid hx; have Hy := Lib.hid hy; clear hb2 hlt hx hy)
    | (go_at_call 14; (with_reducible refine (aw_wgamma _).mono ?_); rintro e w3 ⟨rfl, v3, hH3, hb3⟩; have H3 := Lib.hid hb3; have HH3 := Lib.hid hH3; clear hb3 hH3)
    | (go_at_call 20; refine (newreader_any _ _).mono ?_; rintro e w1 ⟨rfl, rfl⟩)
    | (go_at_call 21; (with_reducible refine (aw_rgamma _).mono ?_); rintro e w4 ⟨rfl, hR4, hb4⟩; have H4 := Lib.hid hb4; have HR4 := Lib.hid hR4; clear hb4 hR4)
    | (go_at_call 23; refine (aw_get _ _ HR4.out).mono ?_; rintro e w5 ⟨rfl, hb5⟩; have He := Lib.hid (aw_end H1 H2 Hlt Hx Hy H3 HH3 H4 HR4 (Lib.hid hb5)); have x1 := He.out.x1; have x2 := He.out.x2; clear hb5)
    | (go_at_call 17; (first | (refine (He.out.len _).mono ?_) | (refine (He.out.len 0).mono ?_)); rintro e w6 ⟨rfl, m, rfl⟩)
    | (go_at_call 18; (first | (refine (He.out.txt _).mono ?_) | (refine (He.out.txt 0).mono ?_)); rintro e w6 ⟨rfl, m, rfl⟩)
    | (go_at_call 24; (first | (refine (He.out.left _).mono ?_) | (refine (He.out.left 0).mono ?_)); rintro e w6 ⟨rfl, m, rfl⟩)
    | (go_at_call 22; (first | (refine (He.out.done_ _).mono ?_) | (refine (He.out.done_ 0).mono ?_)); rintro e w6 ⟨rfl, m, rfl⟩))
  go_ret
  exact ⟨rfl, below_drewN He.out.end_ _⟩
end Go.Proofs.Ytakkljajoollgaa
