/-
 What the law of the last of these texts stands on, part 14.
-/
import Derived.Test.YtanjhbkbpalnaaaGreatMb09
set_option maxRecDepth 100000
set_option maxHeartbeats 8000000
open Go.Proofs.Tryz
namespace Go.Proofs.YtanjhbkbpalnaaaGreat
set_option linter.unusedSimpArgs false
set_option linter.unusedVariables false
open Go.ChangeShapes Go.WideShapes Go.ChangeAt Go.RowKit Go.Joins Go.Deep Go.Shelf Go.Lib
open Go.Sort (SWO swp size_swp HoldsK)
section
variable {P0 : Program} {k : Nat} {α : Type} [Inhabited α] {enc : α → List Value} {w0 : World} {blk off : Nat} {d0 : Array α} {cf : α → α → Int} {no : α → Nat}
theorem symm_any (L : ydw P0 k) (hO : SWO (ltOf cf)) (g : Nat) (cb : Array Value) (len cap : Nat) (eg : ∀ args w, (callFunc g args).run P0 w = .ok (.enter g args) w) (hC : CmpLays P0 g cb enc k cf blk off len w0)
  (hsz : len < 4611686018427387904) (R : RowK enc k w0 blk off d0) (hd : d0.size = len) : ∀ sz, SymmAt P0 k enc w0 blk off cf no g cb len cap sz
 | 0 => fun P X Y Q a m b w h h1 h2 _ _ => by omega
 | sz + 1 => fun P X Y Q a m b w h h1 h2 hA S => by
  by_cases e1 : X.length = 1
  ·obtain ⟨x0, hx⟩ := List.length_eq_one_iff.1 e1
   exact symm_one L hO g cb P X Y Q a m b len cap w eg hC x0 hx h2 hA hsz R hd S
  ·by_cases e2 : Y.length = 1
   ·obtain ⟨y0, hy⟩ := List.length_eq_one_iff.1 e2
    exact symm_two L hO g cb P X Y Q a m b len cap w eg hC y0 hy (by omega) hA hsz R hd S
   ·exact symm_step L hO g cb len cap eg hC hsz R hd sz (symm_any L hO g cb len cap eg hC hsz R hd sz) P X Y Q a m b w h (by omega) (by omega) hA S
theorem stLaysOf (L : ydw P0 k) : SlLaysF0.n20 P0 stRen where
 mixed := L.mixed
 f20 := ⟨Tryz.f205.name, by kernel_rfl, L.fin.trans (by kernel_rfl)⟩
 t0 := L.t0
 a0 := L.a0
 z0 := L.z0
 v0 := L.v0
 t3 := L.t3
 a3 := L.a3
 z3 := L.z3
 v3 := L.v3
 t4 := L.t4
 a4 := L.a4
 z4 := L.z4
 v4 := L.v4
 t22 := L.tS
 a22 := L.aS
 z22 := L.zS
 v22 := L.vS
 t25 := L.tF
 a25 := L.aF
 z25 := L.zF
 v25 := L.vF
theorem insert_any (L : ydw P0 k) (hO : SWO (ltOf cf)) (g : Nat) (cb : Array Value) (P U Q : List α) (a b len cap : Nat) (w : World) (eg : ∀ args w, (callFunc g args).run P0 w = .ok (.enter g args) w) (hC : CmpLays P0 g cb enc k cf blk off len w0)
  (hP : P.length = a) (hU : a + U.length = b) (hn : U.Pairwise (fun x y => no x < no y)) (hlen : (P ++ (U ++ Q)).length = len) (hsz : len < 4611686018427387904)
  (R : RowK enc k w0 blk off d0) (hd : d0.size = len) (S : SWK enc k w0 blk off (P ++ (U ++ Q)).toArray w) :
  Calls P0 205 #[.slice (some ⟨blk, off, none⟩) len cap, .int .i64 a, .int .i64 b, .func (.func g) #[] cb] w fun e w' =>
   e = .returned (.tuple #[]) ∧ ∃ Z, Z.Perm U ∧ Z.Pairwise (sord (ltOf cf) no) ∧ SWK enc k w0 blk off (P ++ (Z ++ Q)).toArray w' := by
 obtain ⟨Z, z1, z2, z3⟩ := insertion_list (lt := ltOf cf) (no := no) hO P U Q hn
 rw [hP, hU] at z3
 have hds : (P ++ (U ++ Q)).toArray.size = len := by rw [qa0]; exact hlen
 have hC2 : CmpLays P0 g cb enc k cf blk off len w := fun m os dk hdk x y => by
  obtain ⟨n0, os0, rfl⟩ := S
  rw [sortWorldK_on enc k w0 blk off n0 m (P ++ (U ++ Q)).toArray dk os0 os R.hblk (by rw [hds]; exact hdk)]
  exact hC _ _ dk hdk x y
 have hz3 : Sort.insertionSort (ltOf cf) (P ++ (U ++ Q)).toArray a b = (P ++ (Z ++ Q)).toArray := by
  rw [← qak, z3, qak]
 have h := AnyQ.insertionSortCmpFunc (stLaysOf L) k L.aE L.zE enc R.hk R.h1 cf g cb blk off cap a b (P ++ (U ++ Q)).toArray w eg (by rw [hds]; exact hC2) (S.holds R.hblk R.hH (by rw [hds, hd])) (S.lt R.hblk) (by omega) (by rw [hds]; simp only [qae] at hlen; omega) (by rw [hds]; exact hsz)
 rw [hds] at h
 refine h.mono ?_
 rintro e w' ⟨rfl, n, os, rfl⟩
 refine ⟨rfl, Z, z1, z2, ?_⟩
 rw [hz3]
 refine S.on R.hblk n _ os ?_
 rw [hds, qa0, ← hlen]
 simp [z1.length_eq]
omit [Inhabited α] in
theorem Blks.cut {lt : α → α → Bool} {bs : Nat} {U : List α} (h : Blks lt no bs U) (hb : bs ≤ U.length) : ∃ l t, U = l ++ t ∧ l.length = bs ∧ l.Pairwise (sord lt no) ∧ (∀ x ∈ l, ∀ y ∈ t, no x < no y) ∧ Blks lt no bs t := by
 rcases Nat.eq_or_lt_of_le hb with e | e
 ·exact ⟨U, [], by simp, e.symm, h.one (by omega), by simp, .last (by simp) qb0⟩
 ·exact h.more e
structure Rows2 (lt : α → α → Bool) (no : α → Nat) (l : List α) (bs : Nat) (D U : List α) : Prop where
 goes : ∀ V, Blks lt no bs V → (∀ x ∈ D, ∀ y ∈ V, no x < no y) → Blks lt no bs (D ++ V)
 cross : ∀ x ∈ D, ∀ y ∈ U, no x < no y
 perm : (D ++ U).Perm l
omit [Inhabited α] in
theorem Rows2.step {lt : α → α → Bool} {l : List α} {bs : Nat} {D W Z U : List α} (h : Rows2 lt no l bs D (W ++ U)) (hz : Z.Perm W) (ho : Z.Pairwise (sord lt no)) (hl : W.length = bs) (hc : ∀ x ∈ W, ∀ y ∈ U, no x < no y) : Rows2 lt no l bs (D ++ Z) U where
 goes V hV hx := by
  rw [qak]
  refine h.goes (Z ++ V) (.cons (by rw [hz.length_eq, hl]) ho (fun x hx1 y hy => hx x (qbe _ hx1) y hy) hV) ?_
  intro x hx1 y hy
  rcases qbf.1 hy with hy | hy
  ·exact h.cross x hx1 y (qbm _ (hz.subset hy))
  ·exact hx x (qbm _ hx1) y hy
 cross x hx y hy := by
  rcases qbf.1 hx with hx | hx
  ·exact h.cross x hx y (qbe _ hy)
  ·exact hc x (hz.subset hx) y hy
 perm := by
  refine List.Perm.trans ?_ h.perm
  rw [qak]
  exact qcm D (List.Perm.append_right U hz)
omit [Inhabited α] in
theorem Rows2.fin {lt : α → α → Bool} {l : List α} {bs : Nat} {D W Z : List α} (h : Rows2 lt no l bs D W) (hz : Z.Perm W) (ho : Z.Pairwise (sord lt no)) (hl : W.length ≤ bs) : Blks lt no bs (D ++ Z) ∧ (D ++ Z).Perm l :=
 ⟨h.goes Z (.last (by rw [hz.length_eq]; exact hl) ho) fun x hx y hy => h.cross x hx y (hz.subset hy), (qcm D hz).trans h.perm⟩
omit [Inhabited α] in
theorem Rows2.start {lt : α → α → Bool} {l l2 : List α} {bs : Nat} (h : l2.Perm l) : Rows2 lt no l bs [] l2 := ⟨fun V hV _ => by simpa using hV, by simp, by simpa using h⟩
theorem stable_any (L : ydw P0 k) (hO : SWO (ltOf cf)) (g : Nat) (cb : Array Value) (l : List α) (len cap : Nat) (w : World) (eg : ∀ args w, (callFunc g args).run P0 w = .ok (.enter g args) w) (hC : CmpLays P0 g cb enc k cf blk off len w0)
  (hlen : l.length = len) (hn : l.Pairwise (fun x y => no x < no y)) (hsz : len < 1000000000000000000)
  (R : RowK enc k w0 blk off d0) (hd : d0.size = len) (S : SWK enc k w0 blk off l.toArray w) :
  Calls P0 200 #[.slice (some ⟨blk, off, none⟩) len cap, .int .i64 len, .func (.func g) #[] cb] w fun e w' =>
   e = .returned (.tuple #[]) ∧ ∃ Z : List α, Z.Perm l ∧ Z.Pairwise (sord (ltOf cf) no) ∧ SWK enc k w0 blk off Z.toArray w' := by
 have Hins := qaa fun (P U Q : List α) (a b : Nat) (W : World) (h1 : P.length = a) (h2 : a + U.length = b) (h3 : U.Pairwise (fun x y => no x < no y)) (h4 : (P ++ (U ++ Q)).length = len) (h5 : SWK enc k w0 blk off (P ++ (U ++ Q)).toArray W) => insert_any (no := no) L hO g cb P U Q a b len cap W eg hC h1 h2 h3 h4 (by omega) R hd h5
 have Hsym := qaa fun sz => symm_any (no := no) L hO g cb len cap eg hC (show len < 4611686018427387904 by omega) R hd sz
 have Hst : Hid (∃ D U : List α, D.length = 0 ∧ D.length + U.length = len ∧ Rows2 (ltOf cf) no l 20 D U ∧ U.Pairwise (fun x y => no x < no y) ∧ SWK enc k w0 blk off (D ++ U).toArray w) := ⟨[], l, rfl, by simpa using hlen, Rows2.start (qcq _), hn, by simpa using S⟩
 clear hn S R hd hO hC hlen
 have mixed := L.mixed; have aE := L.aE; have zE := L.zE; have t0 := L.t0; have a0 := L.a0; have z0 := L.z0; have v0 := L.v0; have t3 := L.t3; have a3 := L.a3; have z3 := L.z3; have v3 := L.v3; have t4 := L.t4; have a4 := L.a4; have z4 := L.z4; have v4 := L.v4; have tS := L.tS; have aS := L.aS; have zS := L.zS; have vS := L.vS; have tF := L.tF; have aF := L.aF; have zF := L.zF; have vF := L.vF; have tU := L.tU; have aU := L.aU; have zU := L.zU; have vU := L.vU
 have uS := qba L.tS; have uU := qba L.tU; have u3 := qba L.t3
 have esy : ∀ args w, (callFunc 206 args).run P0 w = .ok (.enter 206 args) w := enters_of L.fsy (by kernel_rfl) rfl
 have ein : ∀ args w, (callFunc 205 args).run P0 w = .ok (.enter 205 args) w := enters_of L.fin (by kernel_rfl) rfl
 have FG := L.fst
 clear L
 go_enter FG, ntmps200
 go_wp2
 go_loopg [7, 8] (len + 20) (fun gk va vb wr => ∃ a : Nat, va = .int .i64 a ∧ vb = .int .i64 ((a : Int) + 20) ∧ a ≤ len ∧ len + 20 - a ≤ gk ∧ Hid (∃ D U : List α, D.length = a ∧ D.length + U.length = len ∧ Rows2 (ltOf cf) no l 20 D U ∧ U.Pairwise (fun x y => no x < no y) ∧ SWK enc k w0 blk off (D ++ U).toArray wr))
 case atStart => exact ⟨0, rfl, by simp, by omega, by omega, Hst⟩
 case round =>
  obtain ⟨a, rfl, rfl, ha, hg, Hr⟩ := hrel
  clear Hst
  by_cases hlt : a + 20 ≤ len
  ·have hlz : (a : Int) + 20 ≤ (len : Int) := by omega
   obtain ⟨b, hb⟩ : ∃ b, a + 20 = b := ⟨_, rfl⟩
   have hbz : (a : Int) + 20 = (b : Int) := by omega
   have Hcall : Hid (Calls P0 205 #[.slice (some ⟨blk, off, none⟩) len cap, .int .i64 a, .int .i64 b, .func (.func g) #[] cb] wr fun e w' => e = .returned (.tuple #[]) ∧ ∃ D U : List α, D.length = b ∧ D.length + U.length = len ∧ Rows2 (ltOf cf) no l 20 D U ∧ U.Pairwise (fun x y => no x < no y) ∧ SWK enc k w0 blk off (D ++ U).toArray w') := qaa (by
    obtain ⟨D, U, h1, h2, h3, h4, h5⟩ := Hr.out
    have eU := qa1 20 U
    have hl : (U.take 20).length = 20 ∧ (U.drop 20).length + b = len := by rw [qar, qaz]; omega
    generalize U.take 20 = W at eU hl
    generalize U.drop 20 = U2 at eU hl
    subst eU
    obtain ⟨o1, o2, o3⟩ := qa2.1 h4
    refine (Hins.out D W U2 a b wr h1 (by omega) o1 (by simp only [qae] at h2 ⊢; omega) h5).mono ?_
    rintro e w' ⟨rfl, Z, z1, z2, z3⟩
    refine ⟨rfl, D ++ Z, U2, ?_, ?_, h3.step z1 z2 hl.1 o3, o2, by simpa using z3⟩
    ·rw [qae, z1.length_eq]; omega
    ·rw [qae, z1.length_eq]; omega)
   clear Hr
   go_wp2_with (go_at_fn 205; refine Hcall.out.mono ?_; rintro e w1 ⟨rfl, hS1⟩; have HS1 := qaa hS1; clear hS1)
   go_roundg (len + 20 - b)
   case measure => omega
   case rel => exact ⟨b, rfl, rfl, by omega, by omega, HS1⟩
  ·have hlz : ¬ (a : Int) + 20 ≤ (len : Int) := by omega
   have Hcall : Hid (Calls P0 205 #[.slice (some ⟨blk, off, none⟩) len cap, .int .i64 a, .int .i64 len, .func (.func g) #[] cb] wr fun e w' => e = .returned (.tuple #[]) ∧ ∃ Z : List α, Z.length = len ∧ Blks (ltOf cf) no 20 Z ∧ Z.Perm l ∧ SWK enc k w0 blk off Z.toArray w') := qaa (by
    obtain ⟨D, U, h1, h2, h3, h4, h5⟩ := Hr.out
    refine (Hins.out D U [] a len wr h1 (by omega) h4 (by simp only [qae, qch]; omega) (by simpa using h5)).mono ?_
    rintro e w' ⟨rfl, Z, z1, z2, z3⟩
    obtain ⟨f1, f2⟩ := h3.fin z1 z2 (by omega)
    exact ⟨rfl, D ++ Z, by rw [qae, z1.length_eq]; omega, f1, f2, by simpa using z3⟩)
   clear Hr Hins hg
   go_wp2_with (go_at_fn 205; refine Hcall.out.mono ?_; rintro e w1 ⟨rfl, hS1⟩; have HS1 := qaa hS1; clear hS1)
   clear Hcall hlz
   go_loopg [6, 7, 8, 9] (len) (fun gk vs va vb vm wr => ∃ bs : Nat, vs = .int .i64 bs ∧ 20 ≤ bs ∧ bs ≤ 2 * len + 20 ∧ len - bs ≤ gk ∧ Hid (∃ Z : List α, Z.length = len ∧ Blks (ltOf cf) no bs Z ∧ Z.Perm l ∧ SWK enc k w0 blk off Z.toArray wr))
   case atStart => exact ⟨20, rfl, qaf _, by omega, by omega, HS1⟩
   case round =>
    obtain ⟨bs, rfl, hb1, hb2, hg, Hr⟩ := hrel
    clear HS1
    by_cases hlt2 : bs < len
    ·have hlz : (bs : Int) < (len : Int) := by omega
     have Hst : Hid (∃ D U : List α, D.length = 0 ∧ D.length + U.length = len ∧ Rows2 (ltOf cf) no l (2 * bs) D U ∧ Blks (ltOf cf) no bs U ∧ SWK enc k w0 blk off (D ++ U).toArray wr) := qaa (by
      obtain ⟨Z, z1, z2, z3, z4⟩ := Hr.out
      exact ⟨[], Z, rfl, by simpa using z1, Rows2.start z3, z2, by simpa using z4⟩)
     clear Hr
     go_wp2
     go_loopg [7, 8] (len + 2 * bs) (fun gk2 va vb wr => ∃ a : Nat, va = .int .i64 a ∧ vb = .int .i64 ((a : Int) + 2 * (bs : Int)) ∧ a ≤ len ∧ len + 2 * bs - a ≤ gk2 ∧ Hid (∃ D U : List α, D.length = a ∧ D.length + U.length = len ∧ Rows2 (ltOf cf) no l (2 * bs) D U ∧ Blks (ltOf cf) no bs U ∧ SWK enc k w0 blk off (D ++ U).toArray wr))
     case atStart => exact ⟨0, rfl, by simp, by omega, by omega, Hst⟩
     case round =>
      obtain ⟨a, rfl, rfl, ha, hg2, Hr⟩ := hrel
      clear Hst
      obtain ⟨mm, hmm⟩ : ∃ mm, a + bs = mm := ⟨_, rfl⟩
      have zmm : (a : Int) + (bs : Int) = (mm : Int) := by omega
      by_cases hlt3 : a + 2 * bs ≤ len
      ·obtain ⟨b, hb⟩ : ∃ b, a + 2 * bs = b := ⟨_, rfl⟩
       have hbz : (a : Int) + 2 * (bs : Int) = (b : Int) := by omega
       have hbz2 : (b : Int) ≤ (len : Int) := by omega
       have Hcall : Hid (Calls P0 206 #[.slice (some ⟨blk, off, none⟩) len cap, .int .i64 a, .int .i64 mm, .int .i64 b, .func (.func g) #[] cb] wr fun e w' => e = .returned (.tuple #[]) ∧ ∃ D U : List α, D.length = b ∧ D.length + U.length = len ∧ Rows2 (ltOf cf) no l (2 * bs) D U ∧ Blks (ltOf cf) no bs U ∧ SWK enc k w0 blk off (D ++ U).toArray w') := qaa (by
        obtain ⟨D, U, h1, h2, h3, h4, h5⟩ := Hr.out
        obtain ⟨X, t, rfl, x1, x2, x3, x4⟩ := h4.cut (by omega)
        rw [qae] at h2
        obtain ⟨Y, U2, rfl, y1, y2, y3, y4⟩ := x4.cut (by omega)
        rw [qae] at h2
        refine (Hsym.out _ D X Y U2 a mm b wr (qaf _) (by omega) (by omega) ⟨rfl, h1, by omega, by omega, by simp only [qa0, qae]; omega, x2, y2, fun x hx y hy => x3 x hx y (qbm _ hy)⟩ h5).mono ?_
        rintro e w' ⟨rfl, Z, z1, z2, z3⟩
        have h6 : Rows2 (ltOf cf) no l (2 * bs) D ((X ++ Y) ++ U2) := by rw [qak]; exact h3
        refine ⟨rfl, D ++ Z, U2, ?_, ?_, h6.step z1 z2 (by rw [qae]; omega) ?_, y4, by simpa using z3⟩
        ·rw [qae, z1.length_eq, qae]; omega
        ·rw [qae, z1.length_eq, qae]; omega
        ·intro x hx y hy
         rcases qbf.1 hx with hx | hx
         ·exact x3 x hx y (qbe _ hy)
         ·exact y3 x hx y hy)
       clear Hr
       go_wp2_with (go_at_fn 206; refine Hcall.out.mono ?_; rintro e w1 ⟨rfl, hS1⟩; have HS1 := qaa hS1; clear hS1)
       go_roundg (len + 2 * bs - b)
       case measure => omega
       case rel => exact ⟨b, rfl, rfl, by omega, by omega, HS1⟩
      ·have hbz2 : ¬ (a : Int) + 2 * (bs : Int) ≤ (len : Int) := by omega
       by_cases hlt4 : mm < len
       ·have hmz : (mm : Int) < (len : Int) := by omega
        have Hcall : Hid (Calls P0 206 #[.slice (some ⟨blk, off, none⟩) len cap, .int .i64 a, .int .i64 mm, .int .i64 len, .func (.func g) #[] cb] wr fun e w' => e = .returned (.tuple #[]) ∧ ∃ Z : List α, Z.length = len ∧ Blks (ltOf cf) no (2 * bs) Z ∧ Z.Perm l ∧ SWK enc k w0 blk off Z.toArray w') := qaa (by
         obtain ⟨D, U, h1, h2, h3, h4, h5⟩ := Hr.out
         obtain ⟨X, t, rfl, x1, x2, x3, x4⟩ := h4.more (by omega)
         rw [qae] at h2
         refine (Hsym.out _ D X t [] a mm len wr (qaf _) (by omega) (by omega) ⟨rfl, h1, by omega, by omega, by simp only [qa0, qae, qch]; omega, x2, x4.one (by omega), x3⟩ (by simpa using h5)).mono ?_
         rintro e w' ⟨rfl, Z, z1, z2, z3⟩
         obtain ⟨f1, f2⟩ := h3.fin z1 z2 (by rw [qae]; omega)
         exact ⟨rfl, D ++ Z, by rw [qae, z1.length_eq, qae]; omega, f1, f2, by simpa using z3⟩)
        clear Hr
        go_wp2_with (go_at_fn 206; refine Hcall.out.mono ?_; rintro e w1 ⟨rfl, hS1⟩; have HS1 := qaa hS1; clear hS1)
        go_roundg (len - 2 * bs)
        case measure => omega
        case rel => exact ⟨2 * bs, by first | rfl | go_num, by omega, by omega, by omega, HS1⟩
       ·have hmz : ¬ (mm : Int) < (len : Int) := by omega
        have HS1 : Hid (∃ Z : List α, Z.length = len ∧ Blks (ltOf cf) no (2 * bs) Z ∧ Z.Perm l ∧ SWK enc k w0 blk off Z.toArray wr) := qaa (by
         obtain ⟨D, U, h1, h2, h3, h4, h5⟩ := Hr.out
         obtain ⟨f1, f2⟩ := h3.fin (qcq U) (h4.one (by omega)) (by omega)
         exact ⟨D ++ U, by rw [qae]; omega, f1, f2, h5⟩)
        clear Hr
        go_wp2
        go_roundg (len - 2 * bs)
        case measure => omega
        case rel => exact ⟨2 * bs, by first | rfl | go_num, by omega, by omega, by omega, HS1⟩
    ·have hlz : ¬ (bs : Int) < (len : Int) := by omega
     go_wp2
     go_end0
     refine ⟨rfl, ?_⟩
     obtain ⟨Z, z1, z2, z3, z4⟩ := Hr.out
     exact ⟨Z, z3, z2.one (by omega), z4⟩
end
end Go.Proofs.YtanjhbkbpalnaaaGreat
