/-
  Layer 20: a disk's other calls; no disk.
-/
import Derived.Test.YtgoahcmgpjacjaaGreatDpG
import Derived.Test.YtgoahcmgpjacjaaGreatDpS
namespace Go.Proofs.YtgoahcmgpjacjaaGreat
set_option linter.unusedSimpArgs false
set_option linter.unusedVariables false
open Go.ChangeShapes Go.WideShapes Go.ChangeAt Go.RowKit Go.Joins Go.Deep
theorem DMm.synced {w X : World} {g : Nat} {D : Dk} {fb : List Nat} {bn bs b2 n : Nat} {Mn Ms : DataW Unit} {A : Option Addr} {c : Nat} {lf : Int} (h : DMm w g D fb bn bs Mn Ms A c lf) (hm : w.ownsMap Tryz.prog 9 ptE b2 n Mn) (hne : bn ≠ b2)
    (hg : DGd { D with safe := D.dir, chg := [] }) (hX : (w.setCell ⟨g, 3, none⟩ (.map (some b2))).setCell ⟨g, 4, none⟩ (.slice none 0 0) = X) :
    DMm X g { D with safe := D.dir, chg := [] } fb bn b2 Mn Mn none 0 lf ∧ Touch w X (fun k => k = g) := by
  subst hX
  have T : Touch w ((w.setCell ⟨g, 3, none⟩ (.map (some b2))).setCell ⟨g, 4, none⟩ (.slice none 0 0)) (fun k => k = g) := ((Touch.refl w (fun k => k = g)).set (p := ⟨g, 3, none⟩) (.inl rfl) _).set (p := ⟨g, 4, none⟩) (.inl rfl) _
  refine ⟨⟨?_, map_touch h.now T (fun e => blk_map h.box h.now e.symm), map_touch (map_tight hm) T (fun e => blk_map h.box hm e.symm), World.ownsRow_nil _ _ _ _, h.fln, fun n h1 h2 => (h.fl n h1 h2).touch T (h.fg h1 h2).1, h.inj, hne, h.isn, h.isn, h.lf, hg⟩, T⟩
  have := (h.box.set_ 3 (.map (some b2))).set_ 4 (.slice none 0 0)
  unfold dbx at this ⊢
  simpa using this
set_option maxRecDepth 100000 in
set_option maxHeartbeats 8000000 in
theorem q_ddirs_c {D : Dk} {fb : List Nat} {bn bs : Nat} {Mn Ms : DataW Unit} {A : Option Addr} {c g : Nat} {lf : Int} {S : Nat → Prop} (w : World) (h : DMm w g D fb bn bs Mn Ms A c lf) (hS : ∀ k, DSet g fb bn bs A k → S k) (hD : DSm 1000 D) (hd : D.dead = false) (ha : ¬ D.last = true) :
    Calls Tryz.prog 14 #[.pointer (some ⟨g, 0, none⟩)] w fun e w' => e = .returned (.int .i64 0) ∧ DTo w w' S g { D.counted with safe := D.dir, chg := [] } := by
  have HR := Lib.hid (p_dready w h)
  have HO := Lib.hid (q_dop w h hd ⟨hD.ops.1, by have := hD.ops.2; omega⟩)
  unfold Dk.told at HO
  rw [if_neg ha] at HO
  have HM := Lib.hid h
  have HS := Lib.hid hS
  have HG := Lib.hid (ddirs_gd (E := { D.counted with safe := D.dir, chg := [] }) h.gd hD.hist rfl rfl)
  rw [if_neg (by rw [hd]; decide)] at HR
  clear h hS hD hd ha
  go_enter Tryz.func14, Tryz.ntmps14
  go_wp2_with (first
    | (go_at_call 41; (with_reducible refine HR.out.mono ?_); rintro e w1 ⟨rfl, hw1⟩; obtain rfl := hw1.symm)
    | (go_at_call 48; (with_reducible refine HO.out.mono ?_); rintro e w2 ⟨rfl, hm2, ht2⟩; have HM2 := Lib.hid hm2; have HT2 := Lib.hid (ht2.mono (S' := S) (fun k _ e => by rw [e]; exact HS.out g (.inl rfl))); have g2 := hm2.box.cell 2; unfold dbx at g2; simp only [List.getElem?_toArray, List.getElem?_cons_zero, List.getElem?_cons_succ] at g2; clear hm2 ht2)
    | (go_at_call 50; (with_reducible refine (p_dclone _ HM2.out.now).mono ?_); rintro e w3 ⟨rfl, k1, k2, hb3⟩; have HB3 := Lib.hid hb3; have HK1 := Lib.hid k1; have hm3 := HM2.out.on hb3; have HM3 := Lib.hid hm3; have g3 := hm3.box.cell 3; have g4 := hm3.box.cell 4; unfold dbx at g3 g4; simp only [List.getElem?_toArray, List.getElem?_cons_zero, List.getElem?_cons_succ] at g3 g4; have z3 := hm3.box.frozen 3; have z4 := hm3.box.frozen 4; clear k1 k2 hb3 hm3)
    | fail)
  go_ret
  obtain ⟨k1, k2⟩ := HM3.out.synced HK1.out (by have := HM2.out.now.lt; omega) HG.out rfl
  refine ⟨rfl, (HT2.out.trans (touch_below HB3.out (Nat.le_refl _))).trans (k2.mono fun k _ e => by rw [e]; exact HS.out g (.inl rfl)), fb, bn, w2.heap.size, Mn, Mn, none, 0, _, k1, fun k hk => ?_⟩
  rcases hk with e | e | e | e | ⟨p, hp, -⟩
  · exact .inl (HS.out k (.inl e))
  · exact .inl (HS.out k (.inr (.inl e)))
  · exact .inr (by rw [e]; exact HT2.out.size)
  · exact .inl (HS.out k (.inr (.inr (.inr (.inl e)))))
  · cases hp
set_option maxRecDepth 100000 in
set_option maxHeartbeats 8000000 in
theorem q_darm_a {D : Dk} {fb : List Nat} {bn bs : Nat} {Mn Ms : DataW Unit} {A : Option Addr} {c g : Nat} {lf : Int} {S : Nat → Prop} (w : World) (h : DMm w g D fb bn bs Mn Ms A c lf) (hS : ∀ k, DSet g fb bn bs A k → S k) (hD : DSm 1000 D) (k : Int) (hk : -9223372036854775808 ≤ k ∧ k < 9223372036854775808) (hd : D.dead = true) :
    Calls Tryz.prog 34 #[.pointer (some ⟨g, 0, none⟩), .int .i64 k] w fun e w' => e = .returned (.int .i64 200) ∧ DTo w w' S g D := by
  have HR := Lib.hid (p_dready w h)
  have HM := Lib.hid h
  have HS := Lib.hid hS
  rw [if_pos hd] at HR
  clear h hS hD hd hk
  go_enter Tryz.func34, Tryz.ntmps34
  go_wp2_with (first | (go_at_call 41; (with_reducible refine HR.out.mono ?_); rintro e w1 ⟨rfl, hw1⟩; obtain rfl := hw1.symm) | fail)
  go_ret
  exact ⟨rfl, HM.out.to HS.out (Below.refl _ _)⟩
set_option maxRecDepth 100000 in
set_option maxHeartbeats 8000000 in
theorem q_darm_b {D : Dk} {fb : List Nat} {bn bs : Nat} {Mn Ms : DataW Unit} {A : Option Addr} {c g : Nat} {lf : Int} {S : Nat → Prop} (w : World) (h : DMm w g D fb bn bs Mn Ms A c lf) (hS : ∀ k, DSet g fb bn bs A k → S k) (hD : DSm 1000 D) (k : Int) (hk : -9223372036854775808 ≤ k ∧ k < 9223372036854775808) (hd : ¬ D.dead = true) (hn : k < 1) :
    Calls Tryz.prog 34 #[.pointer (some ⟨g, 0, none⟩), .int .i64 k] w fun e w' => e = .returned (.int .i64 2) ∧ DTo w w' S g D := by
  have HR := Lib.hid (p_dready w h)
  have HM := Lib.hid h
  have HS := Lib.hid hS
  rw [if_neg hd] at HR
  clear h hS hD hd hk
  go_enter Tryz.func34, Tryz.ntmps34
  go_wp2_with (first | (go_at_call 41; (with_reducible refine HR.out.mono ?_); rintro e w1 ⟨rfl, hw1⟩; obtain rfl := hw1.symm) | fail)
  go_ret
  exact ⟨rfl, HM.out.to HS.out (Below.refl _ _)⟩
set_option maxRecDepth 100000 in
set_option maxHeartbeats 8000000 in
theorem q_darm_c {D : Dk} {fb : List Nat} {bn bs : Nat} {Mn Ms : DataW Unit} {A : Option Addr} {c g : Nat} {lf : Int} {S : Nat → Prop} (w : World) (h : DMm w g D fb bn bs Mn Ms A c lf) (hS : ∀ k, DSet g fb bn bs A k → S k) (hD : DSm 1000 D) (k : Int) (hk : -9223372036854775808 ≤ k ∧ k < 9223372036854775808) (hd : ¬ D.dead = true) (hn : ¬ k < 1) :
    Calls Tryz.prog 34 #[.pointer (some ⟨g, 0, none⟩), .int .i64 k] w fun e w' => e = .returned (.int .i64 0) ∧ DTo w w' S g { D with armed := k } := by
  have HR := Lib.hid (p_dready w h)
  have HM := Lib.hid h
  have HS := Lib.hid hS
  have g6 := h.box.cell 6
  unfold dbx at g6
  simp only [List.getElem?_toArray, List.getElem?_cons_zero, List.getElem?_cons_succ] at g6
  have z6 := h.box.frozen 6
  rw [if_neg hd] at HR
  have hb6 : ∀ X, w.setCell ⟨g, 6, none⟩ (.int .i64 k) = X → DMm X g { D with armed := k } fb bn bs Mn Ms A c k ∧ Touch w X (fun k => k = g) := fun X hX => by
    subst hX
    have T := (Touch.refl w (fun k => k = g)).set (p := ⟨g, 6, none⟩) (.inl rfl) (.int .i64 k)
    refine ⟨h.turn (E := { D with armed := k }) ?_ T rfl rfl rfl rfl ⟨fun _ => rfl, by omega, hk.2⟩, T⟩
    have := h.box.set_ 6 (.int .i64 k)
    unfold dbx at this ⊢
    simpa using this
  have HX := Lib.hid hb6
  clear h hS hD hd hk hb6
  go_enter Tryz.func34, Tryz.ntmps34
  go_wp2_with (first | (go_at_call 41; (with_reducible refine HR.out.mono ?_); rintro e w1 ⟨rfl, hw1⟩; obtain rfl := hw1.symm) | fail)
  go_ret
  obtain ⟨k1, k2⟩ := HX.out _ rfl
  exact ⟨rfl, k1.done (k2.mono fun k _ e => by rw [e]; exact HS.out g (.inl rfl)) HS.out⟩
set_option maxRecDepth 100000 in
set_option maxHeartbeats 8000000 in
theorem q_doff {D : Dk} {fb : List Nat} {bn bs : Nat} {Mn Ms : DataW Unit} {A : Option Addr} {c g : Nat} {lf : Int} {S : Nat → Prop} (w : World) (h : DMm w g D fb bn bs Mn Ms A c lf) (hS : ∀ k, DSet g fb bn bs A k → S k) (hD : DSm 1000 D)  :
    Calls Tryz.prog 35 #[.pointer (some ⟨g, 0, none⟩)] w fun e w' => e = .returned (.int .i64 0) ∧ DTo w w' S g (doffF D) := by
  have HR := Lib.hid (p_dmade w h)
  have HM := Lib.hid h
  have HS := Lib.hid hS
  have g1 := h.box.cell 1
  unfold dbx at g1
  simp only [List.getElem?_toArray, List.getElem?_cons_zero, List.getElem?_cons_succ] at g1
  have z1 := h.box.frozen 1
  have hb6 : ∀ X, w.setCell ⟨g, 1, none⟩ (.bool false) = X → DMm X g (doffF D) fb bn bs Mn Ms A c lf ∧ Touch w X (fun k => k = g) := fun X hX => by
    subst hX
    have T := (Touch.refl w (fun k => k = g)).set (p := ⟨g, 1, none⟩) (.inl rfl) (.bool false)
    refine ⟨h.turn (E := doffF D) ?_ T rfl rfl rfl rfl ⟨fun e => absurd e (by simp [doffF]), h.lf.2⟩, T⟩
    have := h.box.set_ 1 (.bool false)
    unfold dbx at this
    unfold dbx doffF
    simpa using this
  have HX := Lib.hid hb6
  clear h hS hD hb6
  go_enter Tryz.func35, Tryz.ntmps35
  go_wp2_with (first | (go_at_call 51; (with_reducible refine HR.out.mono ?_); rintro e w1 ⟨rfl, hw1⟩; obtain rfl := hw1.symm) | fail)
  go_ret
  obtain ⟨k1, k2⟩ := HX.out _ rfl
  exact ⟨rfl, k1.done (k2.mono fun k _ e => by rw [e]; exact HS.out g (.inl rfl)) HS.out⟩
set_option maxRecDepth 100000 in
set_option maxHeartbeats 8000000 in
theorem q_dused {D : Dk} {fb : List Nat} {bn bs : Nat} {Mn Ms : DataW Unit} {A : Option Addr} {c g : Nat} {lf : Int} (w : World) (h : DMm w g D fb bn bs Mn Ms A c lf) (hD : DSm 1000 D)  :
    Calls Tryz.prog 16 #[.pointer (some ⟨g, 0, none⟩)] w fun e w' => e = .returned (.int .i64 (if D.dead = true then 0 else (D.used : Int))) ∧ Below w.heap.size w w' := by
  have HR := Lib.hid (p_dready w h)
  have HM := Lib.hid h
  have HBy := Lib.hid (p_dbytes w h hD.hist hD.bnd hD.dir)
  have g2 := h.box.cell 2
  unfold dbx at g2
  simp only [List.getElem?_toArray, List.getElem?_cons_zero, List.getElem?_cons_succ] at g2
  clear h hD
  cases hd : D.dead with
  | true =>
    rw [hd] at HR
    rw [show (if (true : Bool) = true then (200 : Int) else 0) = 200 from rfl] at HR
    rw [if_pos rfl]
    clear HBy
    go_enter Tryz.func16, Tryz.ntmps16
    go_wp2_with (first | (go_at_call 41; (with_reducible refine HR.out.mono ?_); rintro e w1 ⟨rfl, hw1⟩; obtain rfl := hw1.symm) | fail)
    go_ret
    exact ⟨rfl, Below.refl _ _⟩
  | false =>
    rw [hd] at HR
    rw [show (if (false : Bool) = true then (200 : Int) else 0) = 0 from rfl] at HR
    rw [if_neg (by decide)]
    go_enter Tryz.func16, Tryz.ntmps16
    go_wp2_with (first
      | (go_at_call 41; (with_reducible refine HR.out.mono ?_); rintro e w1 ⟨rfl, hw1⟩; obtain rfl := hw1.symm)
      | (go_at_call 47; (with_reducible refine HBy.out.mono ?_); rintro e w2 ⟨rfl, hb2⟩; have HB2 := Lib.hid hb2; clear hb2)
      | fail)
    go_ret
    exact ⟨rfl, HB2.out⟩
set_option maxRecDepth 100000 in
set_option maxHeartbeats 8000000 in
theorem q_dpend {D : Dk} {fb : List Nat} {bn bs : Nat} {Mn Ms : DataW Unit} {A : Option Addr} {c g : Nat} {lf : Int} (w : World) (h : DMm w g D fb bn bs Mn Ms A c lf) (hD : DSm 1000 D)  :
    Calls Tryz.prog 39 #[.pointer (some ⟨g, 0, none⟩)] w fun e w' => e = .returned (.int .i64 (if D.dead = true then 0 else (D.chg.length : Int))) ∧ Below w.heap.size w w' := by
  have HR := Lib.hid (p_dready w h)
  have HM := Lib.hid h
  have g4 := h.box.cell 4
  unfold dbx at g4
  simp only [List.getElem?_toArray, List.getElem?_cons_zero, List.getElem?_cons_succ] at g4
  clear h hD
  cases hd : D.dead with
  | true =>
    rw [hd] at HR
    rw [show (if (true : Bool) = true then (200 : Int) else 0) = 200 from rfl] at HR
    rw [if_pos rfl]
    go_enter Tryz.func39, Tryz.ntmps39
    go_wp2_with (first | (go_at_call 41; (with_reducible refine HR.out.mono ?_); rintro e w1 ⟨rfl, hw1⟩; obtain rfl := hw1.symm) | fail)
    go_ret
    exact ⟨rfl, Below.refl _ _⟩
  | false =>
    rw [hd] at HR
    rw [show (if (false : Bool) = true then (200 : Int) else 0) = 0 from rfl] at HR
    rw [if_neg (by decide)]
    go_enter Tryz.func39, Tryz.ntmps39
    go_wp2_with (first | (go_at_call 41; (with_reducible refine HR.out.mono ?_); rintro e w1 ⟨rfl, hw1⟩; obtain rfl := hw1.symm) | fail)
    go_ret
    exact ⟨rfl, Below.refl _ _⟩
set_option maxRecDepth 100000 in
set_option maxHeartbeats 8000000 in
theorem q_don {D : Dk} {fb : List Nat} {bn bs : Nat} {Mn Ms : DataW Unit} {A : Option Addr} {c g : Nat} {lf : Int} (w : World) (h : DMm w g D fb bn bs Mn Ms A c lf) (hD : DSm 1000 D)  :
    Calls Tryz.prog 20 #[.pointer (some ⟨g, 0, none⟩)] w fun e w' => e = .returned (.bool (!D.dead)) ∧ Below w.heap.size w w' := by
  have HR := Lib.hid (p_dready w h)
  have HM := Lib.hid h
  clear h hD
  cases hd : D.dead with
  | true =>
    rw [hd] at HR
    rw [show (if (true : Bool) = true then (200 : Int) else 0) = 200 from rfl] at HR
    go_enter Tryz.func20, Tryz.ntmps20
    go_wp2_with (first | (go_at_call 41; (with_reducible refine HR.out.mono ?_); rintro e w1 ⟨rfl, hw1⟩; obtain rfl := hw1.symm) | fail)
    go_ret
    exact ⟨rfl, Below.refl _ _⟩
  | false =>
    rw [hd] at HR
    rw [show (if (false : Bool) = true then (200 : Int) else 0) = 0 from rfl] at HR
    go_enter Tryz.func20, Tryz.ntmps20
    go_wp2_with (first | (go_at_call 41; (with_reducible refine HR.out.mono ?_); rintro e w1 ⟨rfl, hw1⟩; obtain rfl := hw1.symm) | fail)
    go_ret
    exact ⟨rfl, Below.refl _ _⟩
set_option maxRecDepth 100000 in
set_option maxHeartbeats 8000000 in
theorem q_dcap {D : Dk} {fb : List Nat} {bn bs : Nat} {Mn Ms : DataW Unit} {A : Option Addr} {c g : Nat} {lf : Int} (w : World) (h : DMm w g D fb bn bs Mn Ms A c lf) (hD : DSm 1000 D)  :
    Calls Tryz.prog 37 #[.pointer (some ⟨g, 0, none⟩)] w fun e w' => e = .returned (.int .i64 D.cap) ∧ Below w.heap.size w w' := by
  have HR := Lib.hid (p_dmade w h)
  have HM := Lib.hid h
  have g0 := h.box.cell 0
  unfold dbx at g0
  simp only [List.getElem?_toArray, List.getElem?_cons_zero, List.getElem?_cons_succ] at g0
  clear h hD
  go_enter Tryz.func37, Tryz.ntmps37
  go_wp2_with (first | (go_at_call 51; (with_reducible refine HR.out.mono ?_); rintro e w1 ⟨rfl, hw1⟩; obtain rfl := hw1.symm) | fail)
  go_ret
  exact ⟨rfl, Below.refl _ _⟩
set_option maxRecDepth 100000 in
set_option maxHeartbeats 8000000 in
theorem q_dops {D : Dk} {fb : List Nat} {bn bs : Nat} {Mn Ms : DataW Unit} {A : Option Addr} {c g : Nat} {lf : Int} (w : World) (h : DMm w g D fb bn bs Mn Ms A c lf) (hD : DSm 1000 D)  :
    Calls Tryz.prog 15 #[.pointer (some ⟨g, 0, none⟩)] w fun e w' => e = .returned (.int .i64 D.ops) ∧ Below w.heap.size w w' := by
  have HR := Lib.hid (p_dmade w h)
  have HM := Lib.hid h
  have g5 := h.box.cell 5
  unfold dbx at g5
  simp only [List.getElem?_toArray, List.getElem?_cons_zero, List.getElem?_cons_succ] at g5
  clear h hD
  go_enter Tryz.func15, Tryz.ntmps15
  go_wp2_with (first | (go_at_call 51; (with_reducible refine HR.out.mono ?_); rintro e w1 ⟨rfl, hw1⟩; obtain rfl := hw1.symm) | fail)
  go_ret
  exact ⟨rfl, Below.refl _ _⟩
set_option maxRecDepth 100000 in
set_option maxHeartbeats 8000000 in
theorem q_dlist {D : Dk} {fb : List Nat} {bn bs : Nat} {Mn Ms : DataW Unit} {A : Option Addr} {c g : Nat} {lf : Int} (w : World) (h : DMm w g D fb bn bs Mn Ms A c lf) (hD : DSm 1000 D)  :
    Calls Tryz.prog 19 #[.pointer (some ⟨g, 0, none⟩)] w fun e w' => DNewRow sfc 1 w w' e (dlistF D) := by
  have HR := Lib.hid (p_dready w h)
  have HM := Lib.hid h
  have HNa := Lib.hid (p_dnames w h.now h.isn hD.hist.one (fun e he => (hD.wf.dir e he).1) (h.gd.dir_ hD.hist).1 (by have := hD.dir; omega))
  have g2 := h.box.cell 2
  unfold dbx at g2
  simp only [List.getElem?_toArray, List.getElem?_cons_zero, List.getElem?_cons_succ] at g2
  unfold dlistF
  clear h hD
  generalize D.dir.map (·.1) = L at *
  cases hd : D.dead with
  | true =>
    rw [hd] at HR
    rw [show (if (true : Bool) = true then (200 : Int) else 0) = 200 from rfl] at HR
    rw [if_pos rfl]
    clear HNa
    go_enter Tryz.func19, Tryz.ntmps19
    go_wp2_with (first | (go_at_call 41; (with_reducible refine HR.out.mono ?_); rintro e w1 ⟨rfl, hw1⟩; obtain rfl := hw1.symm) | fail)
    go_ret
    exact ⟨none, 0, rfl, Nat.le_refl _, ⟨rfl, fun h => absurd h (by decide)⟩, fun h => absurd h (by decide), Below.refl _ _⟩
  | false =>
    rw [hd] at HR
    rw [show (if (false : Bool) = true then (200 : Int) else 0) = 0 from rfl] at HR
    rw [if_neg (by decide)]
    go_enter Tryz.func19, Tryz.ntmps19
    go_wp2_with (first
      | (go_at_call 41; (with_reducible refine HR.out.mono ?_); rintro e w1 ⟨rfl, hw1⟩; obtain rfl := hw1.symm)
      | (go_at_call 53; (with_reducible refine HNa.out.mono ?_); rintro e w2 ⟨A2, c2, rfl, hx⟩; have HX := Lib.hid hx; clear hx)
      | fail)
    go_ret
    exact ⟨A2, c2, rfl, HX.out⟩
set_option maxRecDepth 100000 in
set_option maxHeartbeats 8000000 in
theorem q_dread_a {D : Dk} {fb : List Nat} {bn bs : Nat} {Mn Ms : DataW Unit} {A : Option Addr} {c g : Nat} {lf : Int} (w : World) (h : DMm w g D fb bn bs Mn Ms A c lf) (hD : DSm 1000 D) (s : List UInt8) (hl : s.length ≤ 100000) (hs : D.shut s ≠ 0) :
    Calls Tryz.prog 18 #[.pointer (some ⟨g, 0, none⟩), .string ⟨s.toArray⟩] w fun e w' => e = .returned (.tuple #[.string ⟨#[]⟩, .int .i64 (D.shut s)]) ∧ Below w.heap.size w w' := by
  have hf := p_dfind w h s (by omega)
  rw [if_neg hs] at hf
  have HF := Lib.hid hf
  generalize D.shut s = r at *
  have hr : ((r : Int) == 0) = false := by rw [beq_eq_false_iff_ne]; exact hs
  clear h hD hf hl
  go_enter Tryz.func18, Tryz.ntmps18
  go_wp2_with (first | (go_at_call 45; (with_reducible refine HF.out.mono ?_); rintro e w1 ⟨rfl, hw1⟩; obtain rfl := hw1.symm) | fail)
  refine bodyPost_ret (v := .tuple #[.string ⟨#[]⟩, .int .i64 r]) (by simp [results, Tryz.results18, go_sem]) rfl ⟨rfl, Below.refl _ _⟩
set_option maxRecDepth 100000 in
set_option maxHeartbeats 8000000 in
theorem q_dread_b {D : Dk} {fb : List Nat} {bn bs : Nat} {Mn Ms : DataW Unit} {A : Option Addr} {c g : Nat} {lf : Int} (w : World) (h : DMm w g D fb bn bs Mn Ms A c lf) (hD : DSm 1000 D) (s : List UInt8) (hl : s.length ≤ 100000) (hs : D.shut s = 0) :
    Calls Tryz.prog 18 #[.pointer (some ⟨g, 0, none⟩), .string ⟨s.toArray⟩] w fun e w' => e = .returned (.tuple #[.string ⟨(D.file (D.find s)).2.toArray⟩, .int .i64 0]) ∧ Below w.heap.size w w' := by
  have hf := p_dfind w h s (by omega)
  rw [if_pos hs, hs] at hf
  obtain ⟨hd, h0, hn⟩ := h.find_ hD.hist hs
  have HF := Lib.hid hf
  have HM := Lib.hid h
  have HFl := Lib.hid (h.fl _ h0 hn)
  have H0 := Lib.hid h0
  have HN := Lib.hid hn
  have hf1 := h.fl _ h0 hn
  have x1 := hf1.cell 1
  unfold flv at x1
  simp only [List.getElem?_toArray, List.getElem?_cons_zero, List.getElem?_cons_succ] at x1
  generalize D.find s = n at *
  generalize fbk fb n = q at *
  generalize (D.file n).2 = ft at *
  clear h hD hf hl hs h0 hn hd hf1 HFl
  go_enter Tryz.func18, Tryz.ntmps18
  go_wp2_with (first | (go_at_call 45; (with_reducible refine HF.out.mono ?_); rintro e w1 ⟨rfl, hw1⟩; obtain rfl := hw1.symm) | fail)
  refine bodyPost_ret (v := .tuple #[.string ⟨ft.toArray⟩, .int .i64 0]) (by simp [results, Tryz.results18, go_sem]) rfl ⟨rfl, Below.refl _ _⟩
set_option maxRecDepth 100000 in
set_option maxHeartbeats 8000000 in
theorem p_dnew_no (c : Int) (w : World) (hc : ¬ (0 ≤ c ∧ c ≤ 10000000)) : Calls Tryz.prog 6 #[.int .i64 c] w fun e w' => e = .returned (.tuple #[.pointer none, .int .i64 2]) ∧ Below w.heap.size w w' := by
  by_cases h1 : c < 0
  · clear hc
    go_enter Tryz.func6, Tryz.ntmps6
    go_wp2
    refine bodyPost_ret (v := .tuple #[.pointer none, .int .i64 2]) (by simp [results, Tryz.results6, go_sem]) rfl ⟨rfl, by go_grown⟩
  · have h2 : 10000000 < c := by omega
    clear hc
    go_enter Tryz.func6, Tryz.ntmps6
    go_wp2
    refine bodyPost_ret (v := .tuple #[.pointer none, .int .i64 2]) (by simp [results, Tryz.results6, go_sem]) rfl ⟨rfl, by go_grown⟩
set_option maxRecDepth 100000 in
set_option maxHeartbeats 8000000 in
theorem p_dnew_yes (c : Int) (w : World) (hc : 0 ≤ c ∧ c ≤ 10000000) : Calls Tryz.prog 6 #[.int .i64 c] w fun e w' => ∃ g S, e = .returned (.tuple #[.pointer (some ⟨g, 0, none⟩), .int .i64 0]) ∧ DR w' S g (dnew c) ∧ (∀ k, S k → w.heap.size ≤ k) ∧ Below w.heap.size w w' := by
  have h1 : ¬ c < 0 := by omega
  have h2 : ¬ 10000000 < c := by omega
  have hmm := @run_makeMap Tryz.prog
  have HX : Hid (∀ X, ((w.alloc (.map #[] 0)).alloc (.map #[] 0)).alloc (.cells #[.int .i64 c, .bool true, .map (some w.heap.size), .map (some (w.heap.size + 1)), .slice none 0 0, .int .i64 0, .int .i64 0] 60) = X →
      DR X (fun k => w.heap.size ≤ k ∧ k < w.heap.size + 3) (w.heap.size + 2) (dnew c) ∧ Below w.heap.size w X) := Lib.hid fun X hX => by
    have k0 := World.ownsMap_made w Tryz.prog 9 ptE
    have k1 := World.ownsMap_made (w.alloc (.map #[] 0)) Tryz.prog 9 ptE
    have k2 := Blk.new ((w.alloc (.map #[] 0)).alloc (.map #[] 0)) 60 #[.int .i64 c, .bool true, .map (some w.heap.size), .map (some (w.heap.size + 1)), .slice none 0 0, .int .i64 0, .int .i64 0]
    have s1 : (w.alloc (.map #[] 0)).heap.size = w.heap.size + 1 := by simp
    have s2 : ((w.alloc (.map #[] 0)).alloc (.map #[] 0)).heap.size = w.heap.size + 2 := by simp
    rw [s1] at k1
    rw [s2, hX] at k2
    have k3 := ((k0.alloc (.map #[] 0)).alloc (.cells #[.int .i64 c, .bool true, .map (some w.heap.size), .map (some (w.heap.size + 1)), .slice none 0 0, .int .i64 0, .int .i64 0] 60))
    have k4 := k1.alloc (.cells #[.int .i64 c, .bool true, .map (some w.heap.size), .map (some (w.heap.size + 1)), .slice none 0 0, .int .i64 0, .int .i64 0] 60)
    rw [hX] at k3 k4
    have s3 : X.heap.size = w.heap.size + 3 := by rw [← hX]; simp
    refine ⟨⟨⟨[], w.heap.size, w.heap.size + 1, .map [], .map [], none, 0, 0, ⟨k2, map_tight k3, map_tight k4, World.ownsRow_nil _ _ _ _, rfl, fun n a b => ?_, fun n m a b => ?_, by omega, fun s zd => ?_, fun s zd => ?_, ⟨fun _ => rfl, Int.le_refl _, by decide⟩, dnew_gd c⟩, fun k hk => ?_⟩, fun k hk => by omega⟩, ?_⟩
    · simp at b; omega
    · simp at b; omega
    · rfl
    · rfl
    · rcases hk with rfl | rfl | rfl | ⟨n, a, b, -⟩ | ⟨p, hp, -⟩
      · omega
      · omega
      · omega
      · simp at b; omega
      · cases hp
    · rw [← hX]
      exact (((Below.refl _ _).alloc (Nat.le_refl _) _).alloc (by simp) _).alloc (by simp; omega) _
  clear hc
  go_enter Tryz.func6, Tryz.ntmps6
  go_wp2
  obtain ⟨r1, r2⟩ := HX.out _ rfl
  refine bodyPost_ret (v := .tuple #[.pointer (some ⟨w.heap.size + 2, 0, none⟩), .int .i64 0]) (by simp [results, Tryz.results6, go_sem]) rfl ⟨_, rfl, _, r1, fun k hk => hk.1, r2⟩
end Go.Proofs.YtgoahcmgpjacjaaGreat
