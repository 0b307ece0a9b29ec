/-
 What the law of the last of these texts stands on, part 28.
-/
import Derived.Test.YtanjhbkbpalnaaaGreatMc24
import Derived.Test.YtanjhbkbpalnaaaGreatMc26
set_option maxRecDepth 100000
set_option maxHeartbeats 8000000
open Go.Proofs.Tryz
namespace Go.Proofs.YtanjhbkbpalnaaaGreat
set_option linter.unusedSimpArgs false
set_option linter.unusedVariables false
open Go.ChangeShapes Go.WideShapes Go.ChangeAt Go.RowKit Go.Joins Go.Deep
theorem pt_byte (W w : World) (l : List UInt8) (g : Nat) (p : Int) (hl : l.length ≤ 4611686018427387904) (h : TAt W w l g p) (x q E : Int) (hr : yba l p 1 0 = ((x, []), q, E)) (hq : E = 0 → 0 ≤ q ∧ q ≤ l.length) :
  Calls prog 98 #[.pointer (some ⟨g, 0, none⟩)] w fun r w' => TEnd W w' r l g (.int .i64 x) q E := by
 have hT := qaa h.touch
 by_cases hE : E = 0
 ·subst hE
  have hq := hq rfl
  refine (byte_ok l p g w hl h.low h.high h.blk x [] q hr).mono ?_
  rintro r w' ⟨rfl, hg, hB⟩
  exact .inl ⟨rfl, rfl, hB, hT.out.next (yaT hg) (fun i _ e => by injection e), hq.1, hq.2⟩
 ·have ht := qaa fun w hB => take_no l p 1 0 g w hl h.low h.high hB x [] q E hr hE
  have hB := h.blk
  have HE := qaa hE
  clear hr hq h hE
  go_enter func98, ntmps98
  go_wp2_with (refine (ht.out _ hB).mono ?_; rintro e w1 ⟨rfl, h1⟩)
  exact ⟨rfl, .inr ⟨HE.out, ⟨p, rfl⟩, hT.out.next (yai h1 (qaf _)) (fun i _ e => e)⟩⟩
theorem oflt_on {s : List UInt8} {k : Nat} (h : oflt s k ≠ 0) : ∀ j, oflt s (k + j) = oflt s k
 | 0 => rfl
 | j + 1 => by
  show (if oflt s (k + j) ≠ 0 then oflt s (k + j) else oer s (k + j)) = _
  rw [oflt_on h j, qah h]
theorem oflt_all {s : List UInt8} (h : s.length ≠ 0) : ∀ k, (∀ j, j < k → oer s j = 0) → oflt s k = 0
 | 0, _ => qag h
 | k + 1, hk => by
  show (if oflt s k ≠ 0 then oflt s k else oer s k) = 0
  rw [oflt_all h k (fun j hj => hk j (by omega)), qag (by decide), hk k (by omega)]
theorem ycj {s : List UInt8} (h : s.length ≠ 0) (k j : Nat) (hk : ∀ i, i < k → oer s i = 0) (hE : oer s k ≠ 0) : oflt s (k + 1 + j) = oer s k := by
 have h1 : oflt s (k + 1) = oer s k := by
  show (if oflt s k ≠ 0 then oflt s k else oer s k) = oer s k
  rw [oflt_all h k hk, qag (by decide)]
 rw [oflt_on (by rw [h1]; exact hE), h1]
def OTook (W w' : World) (r : Ending) (l : List UInt8) (pb g : Nat) (m a b c d e p E : Int) : Prop :=
 PEnd r E ∧ (E = 0 → Blk w' pb 82 (opc m a b c d e (l.drop p.toNat)) ∧ Touch W w' (fun k => k = g ∨ k = pb)) ∧ (E ≠ 0 → Touch W w' (fun k => k = g))
theorem ydx {W w' : World} {l : List UInt8} {pb g : Nat} {m a b c d e p E E5 q : Int} (h5 : E5 = E) (hE : E ≠ 0) (hT : Touch W w' (fun k => k = g)) : OTook W w' (.panicked [{ v := .iface 166 (.agg #[.int .i64 E, .int .i64 q]), recovered := false }]) l pb g m a b c d e p E5 := by
 subst h5
 exact ⟨.inr ⟨q, rfl⟩, fun e => absurd e hE, fun _ => hT⟩
theorem o_took (l : List UInt8) (W : World) (pb g : Nat) (hl : l.length ≤ 4611686018427387904) (hp : pb ≠ g)
  (hP : Blk W pb 82 (opc 0 0 0 0 0 0 [])) (hB : Blk W g 208 #[.string ⟨l.toArray⟩, .int .i64 0]) :
  Calls prog 97 #[.pointer (some ⟨g, 0, none⟩), .pointer (some ⟨pb, 0, none⟩)] W fun r w' => OTook W w' r l pb g (l.getD 0 0).toNat (ono l 0) (ono l 1) (ono l 2) (ono l 3) (ono l 4) (opl l 5) (oflt l 5) := by
 have hmf : ∀ (fn : Fn) (first cap : Array Value) (w : World), (Instr.makeFunc fn first cap).run prog w = .ok (.func fn first cap) w := fun _ _ _ _ => rfl
 have HT : Hid (TAt W W l g 0) := qaa ⟨hB, Touch.refl _ _, qcw _, by omega⟩
 have HP := qaa hP
 obtain ⟨eb, heb⟩ : ∃ e : Int, (if l.length = 0 then 4 else 0) = e := ⟨_, rfl⟩
 have NB : Hid (∀ w, TAt W w l g 0 → Calls prog 98 #[.pointer (some ⟨g, 0, none⟩)] w fun r w' => TEnd W w' r l g (.int .i64 (l.getD 0 0).toNat) (opl l 0) eb) := qaa fun w h => by
  by_cases h0 : l.length = 0
  ·rw [qah h0] at heb
   obtain rfl := qaz.1 h0
   subst heb
   obtain ⟨x, q, E, hr, hE⟩ : ∃ x q E, yba [] 0 1 0 = ((x, []), q, E) ∧ E = 4 := ⟨_, _, _, rfl, by decide⟩
   subst hE
   refine (pt_byte W w [] g 0 hl h x q 4 hr (fun e => by cases e)).mono ?_
   rintro r w' (⟨h1, _⟩ | h1)
   ·cases h1
   ·exact .inr h1
  ·rw [qag h0] at heb
   subst heb
   cases l with
   | nil => exact absurd rfl h0
   | cons b t =>
    have hv := u8_lt b
    have e : yau (b :: t) 0 1 = ((b.toNat : Int), 1, 0) := by
     unfold yau
     rw [qah ⟨by decide, by decide, by decide, by rw [qau]; omega⟩, qag (by rw [qau]; omega), qag (by simp [val8]; omega)]
     simp [val8]
    exact pt_byte W w (b :: t) g 0 hl h _ _ 0 (by
     show yba (b :: t) 0 1 0 = (((b.toNat : Int), []), 1, 0)
     unfold yba
     rw [qah rfl, e]) (fun _ => ⟨Int.zero_le_ofNat 1, by show (1 : Int) ≤ _; rw [qau]; omega⟩)
 have N0 : Hid (∀ w, TAt W w l g (opl l 0) → Calls prog 84 #[.pointer (some ⟨g, 0, none⟩)] w fun r w' => TEnd W w' r l g (.int .i64 (ono l 0)) (opl l 1) (oer l 0)) := qaa fun w h => yfo W w l g (opl l 0) hl h
 have N1 : Hid (∀ w, TAt W w l g (opl l 1) → Calls prog 84 #[.pointer (some ⟨g, 0, none⟩)] w fun r w' => TEnd W w' r l g (.int .i64 (ono l 1)) (opl l 2) (oer l 1)) := qaa fun w h => yfo W w l g (opl l 1) hl h
 have N2 : Hid (∀ w, TAt W w l g (opl l 2) → Calls prog 84 #[.pointer (some ⟨g, 0, none⟩)] w fun r w' => TEnd W w' r l g (.int .i64 (ono l 2)) (opl l 3) (oer l 2)) := qaa fun w h => yfo W w l g (opl l 2) hl h
 have N3 : Hid (∀ w, TAt W w l g (opl l 3) → Calls prog 84 #[.pointer (some ⟨g, 0, none⟩)] w fun r w' => TEnd W w' r l g (.int .i64 (ono l 3)) (opl l 4) (oer l 3)) := qaa fun w h => yfo W w l g (opl l 3) hl h
 have N4 : Hid (∀ w, TAt W w l g (opl l 4) → Calls prog 84 #[.pointer (some ⟨g, 0, none⟩)] w fun r w' => TEnd W w' r l g (.int .i64 (ono l 4)) (opl l 5) (oer l 4)) := qaa fun w h => yfo W w l g (opl l 4) hl h
 have HR := qaa fun w h0 hp hB => pt_rest w l g (opl l 5) hl h0 hp hB
 have F0 : Hid (eb ≠ 0 → oflt l 5 = eb) := qaa fun h => by
  by_cases h0 : l.length = 0
  ·have h1 : oflt l 0 = eb := heb
   rw [← h1] at h ⊢
   exact oflt_on h 5
  ·rw [qag h0] at heb
   exact absurd heb.symm h
 have hlen : eb = 0 → l.length ≠ 0 := fun h h0 => by
  rw [qah h0] at heb
  omega
 have F1 : Hid (eb = 0 → oer l 0 ≠ 0 → oflt l 5 = oer l 0) := qaa fun hb  h => ycj (hlen hb) 0 4 (fun i hi => by
  match i, hi with
  | i, hi => omega) h
 have F2 : Hid (eb = 0 → oer l 0 = 0 → oer l 1 ≠ 0 → oflt l 5 = oer l 1) := qaa fun hb h0 h => ycj (hlen hb) 1 3 (fun i hi => by
  match i, hi with
  | 0, _ => exact h0) h
 have F3 : Hid (eb = 0 → oer l 0 = 0 → oer l 1 = 0 → oer l 2 ≠ 0 → oflt l 5 = oer l 2) := qaa fun hb h0 h1 h => ycj (hlen hb) 2 2 (fun i hi => by
  match i, hi with
  | 0, _ => exact h0
  | 1, _ => exact h1) h
 have F4 : Hid (eb = 0 → oer l 0 = 0 → oer l 1 = 0 → oer l 2 = 0 → oer l 3 ≠ 0 → oflt l 5 = oer l 3) := qaa fun hb h0 h1 h2 h => ycj (hlen hb) 3 1 (fun i hi => by
  match i, hi with
  | 0, _ => exact h0
  | 1, _ => exact h1
  | 2, _ => exact h2) h
 have F5 : Hid (eb = 0 → oer l 0 = 0 → oer l 1 = 0 → oer l 2 = 0 → oer l 3 = 0 → oer l 4 ≠ 0 → oflt l 5 = oer l 4) := qaa fun hb h0 h1 h2 h3 h => ycj (hlen hb) 4 0 (fun i hi => by
  match i, hi with
  | 0, _ => exact h0
  | 1, _ => exact h1
  | 2, _ => exact h2
  | 3, _ => exact h3) h
 have F6 : Hid (eb = 0 → oer l 0 = 0 → oer l 1 = 0 → oer l 2 = 0 → oer l 3 = 0 → oer l 4 = 0 → oflt l 5 = 0) := qaa fun hb h0 h1 h2 h3 h4 => oflt_all (hlen hb) 5 (fun i hi => by
  match i, hi with
  | 0, _ => exact h0
  | 1, _ => exact h1
  | 2, _ => exact h2
  | 3, _ => exact h3
  | 4, _ => exact h4)
 clear hP hB hl heb hlen
 generalize ((l.getD 0 0).toNat : Int) = m at *
 generalize ono l 0 = x0 at *
 generalize oer l 0 = e0 at *
 generalize ono l 1 = x1 at *
 generalize oer l 1 = e1 at *
 generalize ono l 2 = x2 at *
 generalize oer l 2 = e2 at *
 generalize ono l 3 = x3 at *
 generalize oer l 3 = e3 at *
 generalize ono l 4 = x4 at *
 generalize oer l 4 = e4 at *
 generalize opl l 0 = q0 at *
 generalize opl l 1 = q1 at *
 generalize opl l 2 = q2 at *
 generalize opl l 3 = q3 at *
 generalize opl l 4 = q4 at *
 generalize opl l 5 = q5 at *
 generalize oflt l 5 = E5 at *
 go_enter func97, ntmps97
 go_wp2_with (first
  | (go_at_call 98; (with_reducible refine (NB.out _ HT.out).mono ?_); rintro e w1 (⟨hE, rfl, hT⟩ | ⟨hE, ⟨q, rfl⟩, hT⟩); replace HT := qaa hT; have EB := qaa hE; clear hE hT)
  | (go_at_call 84; (with_reducible refine (N0.out _ HT.out).mono ?_); rintro e w2 (⟨hE, rfl, hT⟩ | ⟨hE, ⟨q, rfl⟩, hT⟩); replace HT := qaa hT; have E0 := qaa hE; clear hE hT)
  | (go_at_call 84; (with_reducible refine (N1.out _ HT.out).mono ?_); rintro e w3 (⟨hE, rfl, hT⟩ | ⟨hE, ⟨q, rfl⟩, hT⟩); replace HT := qaa hT; have E1 := qaa hE; clear hE hT)
  | (go_at_call 84; (with_reducible refine (N2.out _ HT.out).mono ?_); rintro e w4 (⟨hE, rfl, hT⟩ | ⟨hE, ⟨q, rfl⟩, hT⟩); replace HT := qaa hT; have E2 := qaa hE; clear hE hT)
  | (go_at_call 84; (with_reducible refine (N3.out _ HT.out).mono ?_); rintro e w5 (⟨hE, rfl, hT⟩ | ⟨hE, ⟨q, rfl⟩, hT⟩); replace HT := qaa hT; have E3 := qaa hE; clear hE hT)
  | (go_at_call 84; (with_reducible refine (N4.out _ HT.out).mono ?_); rintro e w6 (⟨hE, rfl, hT⟩ | ⟨hE, ⟨q, rfl⟩, hT⟩); replace HT := qaa hT; have E4 := qaa hE; clear hE hT)
  | (go_at_call 85; (with_reducible refine (HR.out _ HT.out.low HT.out.high HT.out.blk).mono ?_); rintro e w7 ⟨rfl, hT⟩; have HP7 := qaa ((HT.out.keep HP.out hp).touch hT hp); have HT7 := qaa (HT.out.touch.next hT (fun _ _ e => e)); clear hT; have k0 := HP7.out.cell 0; have z0 := HP7.out.frozen 0; have k1 := HP7.out.cell 1; have z1 := HP7.out.frozen 1; have k2 := HP7.out.cell 2; have z2 := HP7.out.frozen 2; have k3 := HP7.out.cell 3; have z3 := HP7.out.frozen 3; have k4 := HP7.out.cell 4; have z4 := HP7.out.frozen 4; have k5 := HP7.out.cell 5; have z5 := HP7.out.frozen 5; have k6 := HP7.out.cell 6; have z6 := HP7.out.frozen 6))
 ·generalize hX : ((((((w7.setCell ⟨pb, 0, none⟩ (.int .i64 m)).setCell ⟨pb, 1, none⟩ (.int .i64 x0)).setCell ⟨pb, 2, none⟩ (.int .i64 x1)).setCell ⟨pb, 3, none⟩ (.int .i64 x2)).setCell ⟨pb, 4, none⟩ (.int .i64 x3)).setCell ⟨pb, 5, none⟩ (.int .i64 x4)).setCell ⟨pb, 6, none⟩ (.string ⟨(l.drop q5.toNat).toArray⟩) = X
  obtain ⟨y1, y2⟩ := oset7 HP7.out hX
  go_end0
  have h5 := F6.out EB.out E0.out E1.out E2.out E3.out E4.out
  subst h5
  exact ⟨.inl ⟨rfl, _, rfl⟩, fun _ => ⟨y1, (HT7.out.mono (S' := fun k => k = g ∨ k = pb) (fun _ _ e => qas e)).next y2 (fun _ _ e => qaK e)⟩, fun h => absurd rfl h⟩
 ·exact ybC rfl (ydx (F5.out EB.out E0.out E1.out E2.out E3.out hE) hE hT)
 ·exact ybC rfl (ydx (F4.out EB.out E0.out E1.out E2.out hE) hE hT)
 ·exact ybC rfl (ydx (F3.out EB.out E0.out E1.out hE) hE hT)
 ·exact ybC rfl (ydx (F2.out EB.out E0.out hE) hE hT)
 ·exact ybC rfl (ydx (F1.out EB.out  hE) hE hT)
 ·exact ybC rfl (ydx (F0.out hE) hE hT)
end Go.Proofs.YtanjhbkbpalnaaaGreat
