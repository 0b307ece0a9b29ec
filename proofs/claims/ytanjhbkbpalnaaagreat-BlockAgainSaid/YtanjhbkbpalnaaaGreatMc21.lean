/-
 What the law of the last of these texts stands on, part 21.
-/
import Derived.Test.YtanjhbkbpalnaaaGreatMc17
set_option maxRecDepth 100000
set_option maxHeartbeats 8000000
open Go.Proofs.Tryz
namespace Go.Proofs.YtanjhbkbpalnaaaGreat
set_option linter.unusedSimpArgs false
set_option linter.unusedVariables false
open Go.ChangeShapes Go.WideShapes Go.ChangeAt Go.RowKit Go.Joins Go.Deep Go.Shelf
theorem zowns_reads {w : World} {base size n c : Nat} {e : TypeId} {A : Option Addr} {xs : List Value} (h : w.ownsRow base e size (.slice A n c) n xs) : Reads w w.heap.size size A n xs := by
 obtain ⟨A2, c2, e2, _, hr⟩ := yag h
 injection e2 with e2 _ _
 subst e2
 exact hr
def zaddV (sb : Nat) : Value := .func (.func 70) #[] #[.pointer (some ⟨sb, 0, none⟩)]
structure ZPk (B sb ab : Nat) (v : Value) (out : List Int) (W : World) : Prop where
 box : Blk W sb 28 #[v]
 own : W.ownsRow B 3 1 v out.length (ints out)
 add : Blk W ab 109 #[zaddV sb]
 bs : B ≤ sb
 ba : B ≤ ab
 size : B ≤ W.heap.size
def ZS (sb : Nat) (v : Value) : Nat → Prop := fun k => k = sb ∨ v.ownBlock = some k
section
variable {B sb ab : Nat} {v : Value} {out : List Int} {W W' : World}
theorem ZPk.below (h : ZPk B sb ab v out W) (hb : Below W.heap.size W W') : ZPk B sb ab v out W' :=
 ⟨h.box.below hb h.box.lt, yah h.own hb (qaf _), h.add.below hb h.add.lt, h.bs, h.ba, qaG h.size hb.size⟩
theorem ZPk.touch (h : ZPk B sb ab v out W) (ht : Touch W W' (ZS sb v)) : Below B W W' :=
 ht.below (fun k hk hs => by
  rcases hs with rfl | hs
  ·exact h.bs
  ·exact (h.own.lt k hs).1) h.size
end
theorem zr_add_any (B sb ab : Nat) (v : Value) (out : List Int) (x : Int) (W : World) (hl : out.length ≤ 2000000) (hP : ZPk B sb ab v out W) :
  Calls prog 70 #[.int .i64 x, .pointer (some ⟨sb, 0, none⟩)] W fun e W' => (∃ r, e = .returned r) ∧ ∃ v', ZPk B sb ab v' (out ++ [x]) W' ∧ Touch W W' (ZS sb v) ∧ Sep W v v' := by
 obtain ⟨i0, hi, hz0, hz1, hz2⟩ := qb4 yeA
 have c1 : W.cell? ⟨sb, 0, none⟩ = some v := hP.box.cell 0
 have hsl := hP.box.lt
 have Hown : Hid ((W.alloc (.cells #[.int .i64 x] 3)).ownsRow B 3 1 v out.length (ints out)) := qaa (hP.own.alloc _)
 have Hsb : Hid (v.ownBlock ≠ some sb) := qaa (ya4 hP.own hP.box (by decide))
 have Hab : Hid (v.ownBlock ≠ some ab) := qaa (ya4 hP.own hP.add (by decide))
 have Hsab : Hid (ab ≠ sb) := qaa fun e => by
  have h1 := hP.box
  have h2 := hP.add
  rw [e] at h2
  unfold Blk at h1 h2
  rw [h1] at h2
  injection h2 with h2
  injection h2 with _ h2
  exact absurd h2 (by decide)
 have hsize := hP.size
 have HP := qaa hP
 clear hP
 go_enter func70, ntmps70
 go_wp2_with (at_builtin; refine yan _ rfl _ _ 28 rfl B 3 i0 (.int .i64 0) 1 8 underlying28 hi hz0 hz1 hz2 rfl (by decide) _ _ _ rfl Hown.out _ 1 1 _ _ rfl (yaB W 3 #[.int .i64 x] 1 1 rfl) ?c1 ?c2 ?c3 ?c4 ?_)
 case c1 => exact rfl
 case c2 => unfold maxLen; omega
 case c3 => omega
 case c4 => simp; omega
 intro v2 w2 hown2 hgrow hsep
 obtain ⟨A2, cp2, rfl, _, _⟩ := yag hown2
 have hb2 : Blk w2 sb 28 #[v] := (HP.out.box.alloc _).grow' hgrow Hsb.out
 have ha2 : Blk w2 ab 109 #[zaddV sb] := (HP.out.add.alloc _).grow' hgrow Hab.out
 have x1 : w2.cell? ⟨sb, 0, none⟩ = some v := hb2.cell 0
 have x2 := hb2.frozen 0
 have Hb2 := qaa hb2
 have Ha2 := qaa ha2
 have Hgr := qaa hgrow
 have Hown2 : Hid (w2.ownsRow B 3 1 (.slice A2 (out.length + 1) cp2) (out ++ [x]).length (ints (out ++ [x]))) := qaa (by
  rw [qae]
  simpa [ints] using hown2)
 have Hsep : Hid (Sep W v (.slice A2 (out.length + 1) cp2)) := qaa fun k hk => by
  rcases hsep k hk with h | h
  ·exact qas h
  ·simp at h
   exact qaK (by omega)
 clear hb2 ha2 hown2 hgrow hsep Hown
 go_wp2
 go_end0
 refine ⟨⟨_, rfl⟩, _, ⟨?_, ?_, Ha2.out.far Hsab.out _, HP.out.bs, HP.out.ba, ?_⟩, ?_, Hsep.out⟩
 ·simpa using Hb2.out.set_ 0 (.slice A2 (out.length + 1) cp2)
 ·refine yaG Hown2.out ((Touch.refl w2 (fun k => k = sb)).set (p := ⟨sb, 0, none⟩) (qas rfl) _) fun k hk e => ?_
  subst e
  exact ya4 Hown2.out Hb2.out (by decide) hk
 ·have := Hgr.out.size
  simp [World.setCell] at *
  omega
 ·have ht : Touch W w2 (ZS sb v) := ((Touch.refl W (ZS sb v)).alloc _).trans ((yaT Hgr.out).mono fun k _ e => qaK e.symm)
  exact ht.set (p := ⟨sb, 0, none⟩) (qas (qas rfl)) _
theorem zr_pother_any (B sb ab : Nat) (v : Value) (out : List Int) (x : Int) (W : World) (hx : -10 ≤ x ∧ x ≤ 1000) (hl : out.length ≤ 2000000) (hP : ZPk B sb ab v out W) :
  Calls prog 74 #[.int .i64 x, .pointer (some ⟨ab, 0, none⟩)] W fun e W' => (∃ r, e = .returned r) ∧ ∃ v', ZPk B sb ab v' (out ++ [x + 1]) W' ∧ Below B W W' := by
 have c1 : W.cell? ⟨ab, 0, none⟩ = some (.func (.func 70) #[] #[.pointer (some ⟨sb, 0, none⟩)]) := hP.add.cell 0
 have Hadd := qaa (zr_add_any B sb ab v out (x + 1) W hl hP)
 have HP := qaa hP
 clear hP
 go_enter func74, ntmps74
 go_wp2_with (go_at_call 70; refine Hadd.out.mono ?_; rintro e w1 ⟨⟨r, rfl⟩, v', hP', ht, hs⟩; have HP' := qaa hP'; have Ht := qaa ht; clear hP' ht hs)
 go_end0
 exact ⟨⟨_, rfl⟩, v', HP'.out, HP.out.touch Ht.out⟩
theorem zr_prun_any (B sb ab m c : Nat) (Ap : Option Addr) (v : Value) (out : List Int) (W : World) (hm : m ≤ 1000000) (hl : out.length ≤ 1000000) (hP : ZPk B sb ab v out W) :
  Calls prog 72 #[.slice Ap m c, .pointer (some ⟨ab, 0, none⟩)] W fun e W' => (∃ r, e = .returned r) ∧ ∃ v', ZPk B sb ab v' (out ++ zd m) W' ∧ Below B W W' := by
 have hD : ycH (m : Int) = (zd m).map (· + 1) := by unfold ycH; rw [qav]
 have hdl := zd_len m
 have hdig := fun W => zr_digits_any (m : Int) (by omega) W
 have hlen : (ycH (m : Int)).length = (zd m).length := by rw [hD, qaM]
 have hget : ∀ k (h : k < (zd m).length), (ints (ycH (m : Int)))[k]? = some (.int .i64 ((zd m)[k] + 1)) := fun k h => by
  rw [yao _ k (by rw [hlen]; exact h)]
  congr 2
  simp [hD]
 have hbd : ∀ k (h : k < (zd m).length), 0 ≤ (zd m)[k] ∧ (zd m)[k] ≤ 1 := fun k h => ybm (yei m) k h
 rw [hlen] at hdig
 have Hdig := qaa hdig
 have Hget := qaa hget
 have Hbd := qaa hbd
 have HP := qaa hP
 have hm63 : (m : Int) < 9223372036854775808 := by omega
 clear hD hdig hlen hget hbd hP
 generalize ycH (m : Int) = DF at *
 generalize hDD : zd m = D at *
 clear hDD
 go_enter func72, ntmps72
 go_wp2_with (go_at_call 73; refine (Hdig.out _).mono ?_; rintro e w1 ⟨Ad, cd, rfl, hcd, hown1, hb1⟩; have Hown1 := qaa hown1; have Hb1 := qaa hb1; clear hown1 hb1)
 go_loopw [9] (fun i wr => ∃ (k : Nat) (v' : Value), k ≤ D.length ∧ i = .int .i64 k ∧ Hid (ZPk B sb ab v' (out ++ D.take k) wr) ∧ Hid (Below B W wr) ∧ Hid (wr.ownsRow W.heap.size 3 1 (.slice Ad D.length cd) D.length (ints DF)) ∧ Hid (∀ b, v'.ownBlock = some b → (Value.slice Ad D.length cd).ownBlock ≠ some b)) (fun i _ => D.length - (intOf i).toNat)
 case atStart =>
  refine ⟨0, v, by omega, rfl, qaa (by simpa using HP.out.below Hb1.out), qaa (Hb1.out.mono HP.out.size), Hown1, qaa fun b hb e => ?_⟩
  have h1 := (HP.out.own.lt b hb).2
  have h2 := (Hown1.out.lt b e).1
  omega
 case round =>
  obtain ⟨k, v', hk, rfl, HPk, Hb, Hown, Hne⟩ := hrel
  by_cases hlt : k < D.length
  ·have hki : (0 : Int) ≤ (k : Int) ∧ (k : Int) < D.length := by omega
   obtain ⟨bd, od, rfl, hbl, hcell⟩ := (zowns_reads Hown.out).2 (by omega)
   have hx1 := hcell k _ (Hget.out k hlt)
   have hx2 := Hbd.out k hlt
   have hadd := zr_add_any B sb ab v' (out ++ D.take k) D[k] wr (by rw [qae, qao]; omega) HPk.out
   rw [qak, ← qap hlt] at hadd
   have c1 : wr.cell? ⟨ab, 0, none⟩ = some (.func (.func 70) #[] #[.pointer (some ⟨sb, 0, none⟩)]) := HPk.out.add.cell 0
   have Hadd := qaa hadd
   clear hcell hadd
   generalize D[k] = x at *
   go_wp2_with (go_at_call 70; refine Hadd.out.mono ?_; rintro e w2 ⟨⟨r, rfl⟩, v2, hP2, ht2, hs2⟩; have HP2 := qaa hP2; have Ht2 := qaa ht2; have Hs2 := qaa hs2; clear hP2 ht2 hs2)
   go_roundw
   case rel =>
    refine ⟨k + 1, v2, by omega, iv (by omega), HP2, qaa (Hb.out.trans (HPk.out.touch Ht2.out)), qaa (yaG Hown.out Ht2.out fun b hb e => ?_), qaa fun b hb e => ?_⟩
    ·rcases e with rfl | e
     ·exact ya4 Hown.out HPk.out.box (by decide) hb
     ·exact Hne.out b e hb
    ·rcases Hs2.out b hb with h | h
     ·exact Hne.out b h e
     ·have := (Hown.out.lt b e).2
      omega
   case measure => simp only [intOf]; omega
  ·obtain rfl : k = D.length := by omega
   have HP3 := HPk.out
   rw [qbQ] at HP3
   have HP4 := qaa HP3
   clear HP3
   go_wp2
   go_end0
   exact ⟨⟨_, rfl⟩, v', HP4.out, Hb.out⟩
end Go.Proofs.YtanjhbkbpalnaaaGreat
