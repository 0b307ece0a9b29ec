/-
  Layer 20: a disk's blocks lie apart; what is left of a disk in memory where its box or a file is written; op.
-/
import Derived.Test.YtgoahcmgpjacjaaGreatDpA
namespace Go.Proofs.YtgoahcmgpjacjaaGreat
set_option linter.unusedSimpArgs false
set_option linter.unusedVariables false
open Go.ChangeShapes Go.WideShapes Go.ChangeAt Go.RowKit Go.Joins Go.Deep
theorem blk_map {w : World} {k b n : Nat} {t : TypeId} {cs : Array Value} {M : DataW Unit} (h : Blk w k t cs) (hm : w.ownsMap Tryz.prog 9 ptE b n M) : k ≠ b := by
  rintro rfl
  obtain ⟨es, clock, hb, _⟩ := hm
  unfold Blk at h
  rw [h] at hb
  cases hb
theorem row_map {w : World} {e : TypeId} {n m b k : Nat} {v : Value} {xs : List Value} {M : DataW Unit} (h : w.ownsRow 0 e 1 v n xs) (hm : w.ownsMap Tryz.prog 9 ptE b m M) (hk : v.ownBlock = some k) : k ≠ b := by
  rintro rfl
  obtain ⟨es, clock, hb, _⟩ := hm
  rcases h.2 with ⟨rfl, _⟩ | ⟨g, cap, cur, rfl, _, hg, _⟩
  · cases hk
  · injection hk with hk
    simp only at hk
    subst hk
    rw [hg] at hb
    cases hb
theorem blk_two {w : World} {k b : Nat} {t u : TypeId} {cs ds : Array Value} (h : Blk w k t cs) (hm : Blk w b u ds) (ht : t ≠ u) : k ≠ b := by
  rintro rfl
  unfold Blk at h hm
  rw [h] at hm
  injection hm with hm
  injection hm with _ h2
  exact ht h2
section
variable {w w' : World} {g : Nat} {D E : Dk} {fb : List Nat} {bn bs : Nat} {Mn Ms : DataW Unit} {A : Option Addr} {c : Nat} {lf lf' : Int}
theorem DMm.fg (h : DMm w g D fb bn bs Mn Ms A c lf) {n : Int} (h1 : 0 ≤ n) (h2 : n < (fb.length : Int)) : fbk fb n ≠ g ∧ fbk fb n ≠ bn ∧ fbk fb n ≠ bs :=
  ⟨blk_two (h.fl n h1 h2) h.box (by decide), blk_map (h.fl n h1 h2) h.now, blk_map (h.fl n h1 h2) h.syn⟩
theorem DMm.rg (h : DMm w g D fb bn bs Mn Ms A c lf) {k : Nat} (hk : (Value.slice A D.chg.length c).ownBlock = some k) : k ≠ g ∧ k ≠ bn ∧ k ≠ bs ∧ ∀ n : Int, 0 ≤ n → n < (fb.length : Int) → k ≠ fbk fb n :=
  ⟨fun e => owns_apart h.row h.box (by decide) (by rw [hk, e]), row_map h.row h.now hk, row_map h.row h.syn hk, fun n h1 h2 e => owns_apart h.row (h.fl n h1 h2) (by decide) (by rw [hk, e])⟩
theorem map_touch {S : Nat → Prop} {b n : Nat} {M : DataW Unit} (h : w.ownsMap Tryz.prog 9 ptE b n M) (ht : Touch w w' S) (hb : ¬ S b) : w'.ownsMap Tryz.prog 9 ptE b n M := map_keep h (ht.block b h.lt hb)
theorem DMm.turn (h : DMm w g D fb bn bs Mn Ms A c lf) (hB : Blk w' g 60 (dbx E bn bs A c lf')) (ht : Touch w w' (fun k => k = g)) (e1 : E.files = D.files) (e2 : E.dir = D.dir) (e3 : E.safe = D.safe) (e4 : E.chg = D.chg)
    (hl : (E.dead = false → lf' = E.armed) ∧ 0 ≤ lf' ∧ lf' < 9223372036854775808) : DMm w' g E fb bn bs Mn Ms A c lf' := by
  have hr := h.row
  have hr2 := fun k hk => (h.rg (k := k) hk).1
  rw [← e4] at hr hr2
  exact ⟨hB, map_touch h.now ht (fun e => blk_map h.box h.now e.symm), map_touch h.syn ht (fun e => blk_map h.box h.syn e.symm), owns_touch hr ht (fun k hk => hr2 k hk), by rw [e1]; exact h.fln,
    fun n h1 h2 => by
      have := (h.fl n h1 h2).touch ht (h.fg h1 h2).1
      unfold Dk.file at this ⊢
      rw [e1]
      exact this,
    h.inj, h.two, by rw [e2]; exact h.isn, by rw [e3]; exact h.iss, hl, h.gd.of e4 e3⟩
theorem dput_file (D : Dk) (n m : Int) (f : Fl) (h0 : 0 ≤ n) (hn : n < (D.files.length : Int)) (hm : 0 ≤ m) : (D.put n f).file m = if m = n then f else D.file m := by
  unfold Dk.put Dk.file
  dsimp only
  rw [List.getD_eq_getElem?_getD, List.getD_eq_getElem?_getD, List.getElem?_set]
  by_cases he : m = n
  · rw [if_pos he, he, if_pos rfl, if_pos (by omega)]
    rfl
  · rw [if_neg he, if_neg (by omega)]
theorem DMm.file_ (h : DMm w g D fb bn bs Mn Ms A c lf) {n : Int} {f : Fl} (h1 : 0 ≤ n) (h2 : n < (fb.length : Int)) (hB : Blk w' (fbk fb n) 78 (flv f)) (ht : Touch w w' (fun k => k = fbk fb n)) : DMm w' g (D.put n f) fb bn bs Mn Ms A c lf := by
  have hf := h.fg h1 h2
  have hl := h.fln
  refine ⟨h.box.touch ht (fun e => hf.1 e.symm), map_touch h.now ht (fun e => hf.2.1 e.symm), map_touch h.syn ht (fun e => hf.2.2 e.symm), owns_touch h.row ht (fun k hk => (h.rg hk).2.2.2 n h1 h2), ?_, fun m h3 h4 => ?_, h.inj, h.two, h.isn, h.iss, h.lf, h.gd.of rfl rfl⟩
  · rw [hl]
    exact List.length_set.symm
  · rw [dput_file D n m f h1 (by rw [← hl]; exact h2) h3]
    by_cases he : m = n
    · rw [if_pos he, he]
      exact hB
    · rw [if_neg he]
      exact (h.fl m h3 h4).touch ht (fun e => he (h.inj m n h3 h4 h1 h2 e))
theorem DMm.counted_ (h : DMm w g D fb bn bs Mn Ms A c lf) (hd : D.dead = false) (hB : Blk w' g 60 #[.int .i64 D.cap, .bool (!decide (lf = 1)), .map (some bn), .map (some bs), .slice A D.chg.length c, .int .i64 (D.ops + 1), .int .i64 (if 0 < lf then lf - 1 else lf)]) (ht : Touch w w' (fun k => k = g)) :
    DMm w' g D.counted fb bn bs Mn Ms A c (if 0 < lf then lf - 1 else lf) := by
  have hlf := h.lf.1 hd
  refine h.turn ?_ ht rfl rfl rfl rfl ⟨fun _ => ?_, ?_, ?_⟩
  · have e1 : dbx D.counted bn bs A c (if 0 < lf then lf - 1 else lf) = #[.int .i64 D.cap, .bool (!decide (lf = 1)), .map (some bn), .map (some bs), .slice A D.chg.length c, .int .i64 (D.ops + 1), .int .i64 (if 0 < lf then lf - 1 else lf)] := by
      unfold dbx Dk.counted Dk.last
      dsimp only
      rw [hd, Bool.false_or, hlf]
    rw [e1]
    exact hB
  · rw [hlf]
    rfl
  · have := h.lf.2.1
    split <;> omega
  · have := h.lf.2.2
    split <;> omega
end
set_option maxRecDepth 100000 in
set_option maxHeartbeats 2000000 in
theorem p_dop {x0 x2 x3 x4 : Value} {g : Nat} (ops lf : Int) (w : World) (hB : Blk w g 60 #[x0, .bool true, x2, x3, x4, .int .i64 ops, .int .i64 lf]) (ho : 0 ≤ ops ∧ ops ≤ 1000000) (hl : 0 ≤ lf ∧ lf < 9223372036854775808) :
    Calls Tryz.prog 48 #[.pointer (some ⟨g, 0, none⟩)] w fun e w' => e = .returned (.int .i64 (if lf = 1 then 200 else 0)) ∧ Blk w' g 60 #[x0, .bool (!decide (lf = 1)), x2, x3, x4, .int .i64 (ops + 1), .int .i64 (if 0 < lf then lf - 1 else lf)] ∧ Touch w w' (fun k => k = g) := by
  have x1 := hB.cell 1
  have x5 := hB.cell 5
  have x6 := hB.cell 6
  have z1 := hB.frozen 1
  have z5 := hB.frozen 5
  have z6 := hB.frozen 6
  simp only [List.getElem?_toArray, List.getElem?_cons_zero, List.getElem?_cons_succ] at x1 x5 x6
  have hw1 : IntKind.i64.wrap (ops + 1) = ops + 1 := by rw [IntKind.wrap_i64]; omega
  have HB := Lib.hid hB
  clear hB
  by_cases h0 : lf = 0
  · subst h0
    have F : Hid (∀ X, w.setCell ⟨g, 5, none⟩ (.int .i64 (ops + 1)) = X → Blk X g 60 #[x0, .bool true, x2, x3, x4, .int .i64 (ops + 1), .int .i64 0] ∧ Touch w X (fun k => k = g)) := Lib.hid fun X hX => by
      subst hX
      exact ⟨by simpa using HB.out.set_ 5 (.int .i64 (ops + 1)), (Touch.refl w (fun k => k = g)).set (p := ⟨g, 5, none⟩) (.inl rfl) _⟩
    rw [show (if (0 : Int) = 1 then (200 : Int) else 0) = 0 from rfl, show (!decide ((0 : Int) = 1)) = true from rfl, show (if (0 : Int) < 0 then (0 : Int) - 1 else 0) = 0 from rfl]
    clear HB hl
    go_enter Tryz.func48, Tryz.ntmps48
    go_wp2
    go_ret
    exact ⟨rfl, F.out _ rfl⟩
  · have hp : 0 < lf := by omega
    have hw2 : IntKind.i64.wrap (lf - 1) = lf - 1 := by rw [IntKind.wrap_i64]; omega
    rw [if_pos hp]
    by_cases h1 : lf = 1
    · subst h1
      have F : Hid (∀ X, ((w.setCell ⟨g, 5, none⟩ (.int .i64 (ops + 1))).setCell ⟨g, 6, none⟩ (.int .i64 0)).setCell ⟨g, 1, none⟩ (.bool false) = X → Blk X g 60 #[x0, .bool false, x2, x3, x4, .int .i64 (ops + 1), .int .i64 0] ∧ Touch w X (fun k => k = g)) := Lib.hid fun X hX => by
        subst hX
        exact ⟨by simpa using ((HB.out.set_ 5 (.int .i64 (ops + 1))).set_ 6 (.int .i64 0)).set_ 1 (.bool false), (((Touch.refl w (fun k => k = g)).set (p := ⟨g, 5, none⟩) (.inl rfl) _).set (p := ⟨g, 6, none⟩) (.inl rfl) _).set (p := ⟨g, 1, none⟩) (.inl rfl) _⟩
      rw [if_pos rfl, show (!decide ((1 : Int) = 1)) = false from rfl, show (1 : Int) - 1 = 0 from rfl]
      clear HB hl
      go_enter Tryz.func48, Tryz.ntmps48
      go_wp2
      go_ret
      exact ⟨rfl, F.out _ rfl⟩
    · have F : Hid (∀ X, (w.setCell ⟨g, 5, none⟩ (.int .i64 (ops + 1))).setCell ⟨g, 6, none⟩ (.int .i64 (lf - 1)) = X → Blk X g 60 #[x0, .bool true, x2, x3, x4, .int .i64 (ops + 1), .int .i64 (lf - 1)] ∧ Touch w X (fun k => k = g)) := Lib.hid fun X hX => by
        subst hX
        exact ⟨by simpa using (HB.out.set_ 5 (.int .i64 (ops + 1))).set_ 6 (.int .i64 (lf - 1)), ((Touch.refl w (fun k => k = g)).set (p := ⟨g, 5, none⟩) (.inl rfl) _).set (p := ⟨g, 6, none⟩) (.inl rfl) _⟩
      have hp2 : 0 < lf - 1 := by omega
      rw [if_neg h1, show (!decide (lf = 1)) = true from by rw [decide_eq_false h1]; rfl]
      clear HB hl
      go_enter Tryz.func48, Tryz.ntmps48
      go_wp2
      go_ret
      exact ⟨rfl, F.out _ rfl⟩
end Go.Proofs.YtgoahcmgpjacjaaGreat
