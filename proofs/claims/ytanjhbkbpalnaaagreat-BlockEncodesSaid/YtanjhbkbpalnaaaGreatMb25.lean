/-
 What the law of the last of these texts stands on, part 25.
-/
import Derived.Test.YtanjhbkbpalnaaaGreatMb21
import Derived.Test.YtanjhbkbpalnaaaGreatMb23
set_option maxRecDepth 100000
set_option maxHeartbeats 8000000
open Go.Proofs.Tryz
namespace Go.Proofs.YtanjhbkbpalnaaaGreat
set_option linter.unusedSimpArgs false
set_option linter.unusedVariables false
open Go.ChangeShapes Go.WideShapes Go.ChangeAt Go.RowKit Go.Joins Go.Deep
theorem pt_fault_is (v : Value) (w : World) : (Instr.typeAssert (.iface 166 v) 20 166 false).run prog w = .ok v w := by kernel_rfl
theorem pt_fault_f0 (a b : Value) (w : World) : (Instr.field 166 (.agg #[a, b]) 0).run prog w = .ok a w := by kernel_rfl
theorem pt_idle (a : Addr) (w : World) : CallsD prog 123 #[.pointer (some a)] .returning w fun e u' w' => e = .returned (.tuple #[]) ∧ u' = .returning ∧ w' = w := by
 refine callsD_of_wpS func123 rfl fun c₀ cs hu => ?_
 apply wpS_seq
 apply wpS_region
 simp [wpOpsS, go_sem, recoverD, hu, ntmps123, Exit.thenS]
 apply wpS_seq
 apply wpS_region
 simp [wpOpsS, go_sem, Exit.thenS, Array.replicate]
 refine wpS_cond (t := false) (by simp [Act.eval]) ?_
 simp only [Bool.false_eq_true, if_false]
 refine wpS_of_wp (wp_skip ?_)
 cases c₀
 simp_all [bodyPostS, results, results123]
theorem pt_fault (N : Nat) (x e p : Int) (older : List PanicEntry) (w : World) (hN : Blk w N 23 #[.int .i64 x]) :
  CallsD prog 123 #[.pointer (some ⟨N, 0, none⟩)] (.panicking ({ v := .iface 166 (.agg #[.int .i64 e, .int .i64 p]), recovered := false } :: older)) w fun r u' w' =>
   r = .returned (.tuple #[]) ∧ u' = .panicking ({ v := .iface 166 (.agg #[.int .i64 e, .int .i64 p]), recovered := true } :: older) ∧ w' = w.setCell ⟨N, 0, none⟩ (.int .i64 e) := by
 have c1 : w.cell? ⟨N, 0, none⟩ = some (.int .i64 x) := hN.cell 0
 have z1 := hN.frozen 0
 refine callsD_of_wpS func123 rfl fun c₀ cs hu => ?_
 apply wpS_seq
 apply wpS_region
 simp [wpOpsS, go_sem, recoverD, hu, ntmps123, Exit.thenS, Array.replicate]
 apply wpS_seq
 apply wpS_region
 simp [wpOpsS, go_sem, Exit.thenS, Array.replicate]
 refine wpS_cond (t := true) (by simp [Act.eval]) ?_
 simp only [if_true]
 refine wpS_of_wp ?_
 have hta := pt_fault_is
 have hf0 := pt_fault_f0
 go_wp2
 exact ⟨rfl, _, rfl, .tuple #[], by simp [results, results123], rfl, rfl, rfl⟩
theorem pt_enters {P : Program} {f : FuncId} {fn : Func} {c : Code} (hf : P.funcs[f]? = some fn) (hn : (fn.name == "runtime.NumGoroutine") = false) (hb : fn.body = some c) (args : Array Value) (w : World) : (callFunc f args).run P w = .ok (.enter f args) w := by
 have h1 : fn.name ≠ "runtime.NumGoroutine" := by simpa using hn
 simp [callFunc, hf, h1, hb, mark]
def PEnd (r : Ending) (E : Int) : Prop := (E = 0 ∧ ∃ u, r = .returned u) ∨ ∃ p : Int, r = .panicked [{ v := .iface 166 (.agg #[.int .i64 E, .int .i64 p]), recovered := false }]
theorem p_ptake (F : Nat) (cap : Array Value) (s : ByteArray) (E : Int) (W : World) (Q : World → Prop)
  (hF : ∀ args w, (callFunc F args).run prog w = .ok (.enter F args) w)
  (hc : Calls prog F (#[.pointer (some ⟨W.heap.size + 1, 0, none⟩)] ++ cap) ((W.alloc (.cells #[.int .i64 0] 23)).alloc (.cells #[.string s, .int .i64 0] 208)) fun r w' => PEnd r E ∧ Blk w' W.heap.size 23 #[.int .i64 0] ∧ Q w') :
  Calls prog 82 #[.string s, .func (.func F) #[] cap] W fun r w' => r = .returned (.int .i64 E) ∧ ∃ w1, Q w1 ∧ w' = w1.setCell ⟨W.heap.size, 0, none⟩ (.int .i64 E) := by
 have hmf : ∀ (fn : Fn) (first cap : Array Value) (w : World), (Instr.makeFunc fn first cap).run prog w = .ok (.func fn first cap) w := fun _ _ _ _ => rfl
 have Hc := qaa hc
 clear hc
 go_enter_defers func82, ntmps82
 go_wp2_with (first
  | (go_at_call 124; refine (new_any _ _).mono ?_; rintro e w1 ⟨rfl, rfl⟩)
  | ((with_reducible refine Hc.out.mono ?_); rintro e w1 ⟨⟨rfl, u, rfl⟩ | ⟨p, rfl⟩, hN, hQ⟩; have y1 := hN.cell 0; have z1 := hN.frozen 0))
 ·refine leaves_cons (f := 123) (args := #[.pointer (some ⟨W.heap.size, 0, none⟩)]) (by simp) (by simp [go_sem]) ?_
  refine (pt_idle _ _).mono ?_
  rintro e' u' w3 ⟨rfl, rfl, rfl⟩
  refine ⟨.int .i64 0, ?_, rfl, _, hQ, rfl⟩
  have hN2 := (hN.set_ 0 (.int .i64 0)).cell 0
  simp only [qab, qad, qaq, qaH] at hN2
  simp [results, results82, go_sem, hN2]
 ·refine leaves_cons (f := 123) (args := #[.pointer (some ⟨W.heap.size, 0, none⟩)]) (by simp) (by simp [go_sem]) ?_
  refine (pt_fault W.heap.size 0 E p [] _ hN).mono ?_
  rintro e' u' w3 ⟨rfl, rfl, rfl⟩
  refine ⟨.int .i64 E, ?_, rfl, _, hQ, rfl⟩
  have hN2 := (hN.set_ 0 (.int .i64 E)).cell 0
  simp only [qab, qad, qaq, qaH] at hN2
  simp [results, results82, go_sem, hN2]
theorem ycT {P : Program} {fn : Func} {R : Ending → World → Prop} {a : Act} {w : World} {ps : List PanicEntry} (hd : a.defers = []) (hR : R (.panicked ps) w) : bodyPost P fn R (.panic ps) a w := ⟨hd, hR⟩
structure TAt (W w : World) (l : List UInt8) (g : Nat) (p : Int) : Prop where
 blk : Blk w g 208 #[.string ⟨l.toArray⟩, .int .i64 p]
 touch : Touch W w (fun k => k = g)
 low : 0 ≤ p
 high : p ≤ l.length
theorem TAt.keep {W w : World} {l : List UInt8} {g b : Nat} {p : Int} {t : TypeId} {cs : Array Value} (h : TAt W w l g p) (hb : Blk W b t cs) (hn : b ≠ g) : Blk w b t cs := hb.touch h.touch hn
def TEnd (W w' : World) (r : Ending) (l : List UInt8) (g : Nat) (v : Value) (q E : Int) : Prop :=
 (E = 0 ∧ r = .returned v ∧ TAt W w' l g q) ∨ (E ≠ 0 ∧ (∃ p : Int, r = .panicked [{ v := .iface 166 (.agg #[.int .i64 E, .int .i64 p]), recovered := false }]) ∧ Touch W w' (fun k => k = g))
section
variable (W w : World) (l : List UInt8) (g : Nat) (p : Int) (hl : l.length ≤ 4611686018427387904) (h : TAt W w l g p)
include hl h
theorem pt_num : Calls prog 84 #[.pointer (some ⟨g, 0, none⟩)] w fun r w' => TEnd W w' r l g (.int .i64 (getF l p).1) (getF l p).2.1 (getF l p).2.2 := by
 obtain ⟨x, q, E, hr⟩ : ∃ x q E, getF l p = (x, q, E) := ⟨_, _, _, rfl⟩
 have hq : yba l p 2 0 = ((x, []), q, E) := by simp [yba, hr]
 have hT := qaa h.touch
 have hok := getF_ok' (l := l) (p := p)
 rw [hr] at hok ⊢
 dsimp only at hok ⊢
 by_cases hE : E = 0
 ·subst hE
  have hok := hok rfl
  refine (num_ok l p g w hl h.low h.high h.blk x [] q hq).mono ?_
  rintro r w' ⟨rfl, hg, hB⟩
  exact .inl ⟨rfl, rfl, hB, hT.out.next (yaN hg) (fun i _ e => by injection e), by omega, by omega⟩
 ·have ht := qaa fun w hB => take_no l p 2 0 g w hl h.low h.high hB x [] q E hq hE
  have hB := h.blk
  have HE := qaa hE
  clear hr hok hq h hE
  go_enter func84, ntmps84
  go_wp2_with (refine (ht.out _ hB).mono ?_; rintro e w1 ⟨rfl, h1⟩)
  exact ⟨rfl, .inr ⟨HE.out, ⟨p, rfl⟩, hT.out.next (yaP h1 (qaf _)) (fun i _ e => e)⟩⟩
end
theorem pt_rest (w : World) (l : List UInt8) (g : Nat) (p : Int) (hl : l.length ≤ 4611686018427387904) (h0 : 0 ≤ p) (hp : p ≤ l.length) (hB : Blk w g 208 #[.string ⟨l.toArray⟩, .int .i64 p]) :
  Calls prog 85 #[.pointer (some ⟨g, 0, none⟩)] w fun r w' => r = .returned (.string ⟨(l.drop p.toNat).toArray⟩) ∧ Touch w w' (fun k => k = g) := by
 refine (rest_ok l p g w hl h0 hp hB 0 (l.drop p.toNat) l.length (by simp [yba])).mono ?_
 rintro r w' ⟨rfl, hg, hB⟩
 exact ⟨rfl, (Touch.refl w (fun k => k = g)).next (yaN hg) (fun i _ e => by injection e)⟩
theorem pt_byte (W w : World) (l : List UInt8) (g : Nat) (p : Int) (hl : l.length ≤ 4611686018427387904) (h : TAt W w l g p) (x q E : Int) (hr : yba l p 1 0 = ((x, []), q, E)) (hq : E = 0 → 0 ≤ q ∧ q ≤ l.length) :
  Calls prog 98 #[.pointer (some ⟨g, 0, none⟩)] w fun r w' => TEnd W w' r l g (.int .i64 x) q E := by
 have hT := qaa h.touch
 by_cases hE : E = 0
 ·subst hE
  have hq := hq rfl
  refine (byte_ok l p g w hl h.low h.high h.blk x [] q hr).mono ?_
  rintro r w' ⟨rfl, hg, hB⟩
  exact .inl ⟨rfl, rfl, hB, hT.out.next (yaN hg) (fun i _ e => by injection e), hq.1, hq.2⟩
 ·have ht := qaa fun w hB => take_no l p 1 0 g w hl h.low h.high hB x [] q E hr hE
  have hB := h.blk
  have HE := qaa hE
  clear hr hq h hE
  go_enter func98, ntmps98
  go_wp2_with (refine (ht.out _ hB).mono ?_; rintro e w1 ⟨rfl, h1⟩)
  exact ⟨rfl, .inr ⟨HE.out, ⟨p, rfl⟩, hT.out.next (yaP h1 (qaf _)) (fun i _ e => e)⟩⟩
theorem oflt_on {s : List UInt8} {k : Nat} (h : oflt s k ≠ 0) : ∀ j, oflt s (k + j) = oflt s k
 | 0 => rfl
 | j + 1 => by
  show (if oflt s (k + j) ≠ 0 then oflt s (k + j) else oer s (k + j)) = _
  rw [oflt_on h j, qah h]
theorem oflt_all {s : List UInt8} (h : s.length ≠ 0) : ∀ k, (∀ j, j < k → oer s j = 0) → oflt s k = 0
 | 0, _ => qag h
 | k + 1, hk => by
  show (if oflt s k ≠ 0 then oflt s k else oer s k) = 0
  rw [oflt_all h k (fun j hj => hk j (by omega)), qag (by decide), hk k (by omega)]
theorem ycb {s : List UInt8} (h : s.length ≠ 0) (k j : Nat) (hk : ∀ i, i < k → oer s i = 0) (hE : oer s k ≠ 0) : oflt s (k + 1 + j) = oer s k := by
 have h1 : oflt s (k + 1) = oer s k := by
  show (if oflt s k ≠ 0 then oflt s k else oer s k) = oer s k
  rw [oflt_all h k hk, qag (by decide)]
 rw [oflt_on (by rw [h1]; exact hE), h1]
def OTook (W w' : World) (r : Ending) (l : List UInt8) (pb g : Nat) (m a b c d e p E : Int) : Prop :=
 PEnd r E ∧ (E = 0 → Blk w' pb 82 (opc m a b c d e (l.drop p.toNat)) ∧ Touch W w' (fun k => k = g ∨ k = pb)) ∧ (E ≠ 0 → Touch W w' (fun k => k = g))
theorem ycU {W w' : World} {l : List UInt8} {pb g : Nat} {m a b c d e p E E5 q : Int} (h5 : E5 = E) (hE : E ≠ 0) (hT : Touch W w' (fun k => k = g)) : OTook W w' (.panicked [{ v := .iface 166 (.agg #[.int .i64 E, .int .i64 q]), recovered := false }]) l pb g m a b c d e p E5 := by
 subst h5
 exact ⟨.inr ⟨q, rfl⟩, fun e => absurd e hE, fun _ => hT⟩
theorem o_took (l : List UInt8) (W : World) (pb g : Nat) (hl : l.length ≤ 4611686018427387904) (hp : pb ≠ g)
  (hP : Blk W pb 82 (opc 0 0 0 0 0 0 [])) (hB : Blk W g 208 #[.string ⟨l.toArray⟩, .int .i64 0]) :
  Calls prog 97 #[.pointer (some ⟨g, 0, none⟩), .pointer (some ⟨pb, 0, none⟩)] W fun r w' => OTook W w' r l pb g (l.getD 0 0).toNat (ono l 0) (ono l 1) (ono l 2) (ono l 3) (ono l 4) (opl l 5) (oflt l 5) := by
 have hmf : ∀ (fn : Fn) (first cap : Array Value) (w : World), (Instr.makeFunc fn first cap).run prog w = .ok (.func fn first cap) w := fun _ _ _ _ => rfl
 have HT : Hid (TAt W W l g 0) := qaa ⟨hB, Touch.refl _ _, qc2 _, by omega⟩
 have HP := qaa hP
 obtain ⟨eb, heb⟩ : ∃ e : Int, (if l.length = 0 then 4 else 0) = e := ⟨_, rfl⟩
 have NB : Hid (∀ w, TAt W w l g 0 → Calls prog 98 #[.pointer (some ⟨g, 0, none⟩)] w fun r w' => TEnd W w' r l g (.int .i64 (l.getD 0 0).toNat) (opl l 0) eb) := qaa fun w h => by
  by_cases h0 : l.length = 0
  ·rw [qah h0] at heb
   obtain rfl := qay.1 h0
   subst heb
   obtain ⟨x, q, E, hr, hE⟩ : ∃ x q E, yba [] 0 1 0 = ((x, []), q, E) ∧ E = 4 := ⟨_, _, _, rfl, by decide⟩
   subst hE
   refine (pt_byte W w [] g 0 hl h x q 4 hr (fun e => by cases e)).mono ?_
   rintro r w' (⟨h1, _⟩ | h1)
   ·cases h1
   ·exact .inr h1
  ·rw [qag h0] at heb
   subst heb
   cases l with
   | nil => exact absurd rfl h0
   | cons b t =>
    have hv := u8_lt b
    have e : ya0 (b :: t) 0 1 = ((b.toNat : Int), 1, 0) := by
     unfold ya0
     rw [qah ⟨by decide, by decide, by decide, by rw [qau]; omega⟩, qag (by rw [qau]; omega), qag (by simp [val8]; omega)]
     simp [val8]
    exact pt_byte W w (b :: t) g 0 hl h _ _ 0 (by
     show yba (b :: t) 0 1 0 = (((b.toNat : Int), []), 1, 0)
     unfold yba
     rw [qah rfl, e]) (fun _ => ⟨Int.zero_le_ofNat 1, by show (1 : Int) ≤ _; rw [qau]; omega⟩)
 have N0 : Hid (∀ w, TAt W w l g (opl l 0) → Calls prog 84 #[.pointer (some ⟨g, 0, none⟩)] w fun r w' => TEnd W w' r l g (.int .i64 (ono l 0)) (opl l 1) (oer l 0)) := qaa fun w h => pt_num W w l g (opl l 0) hl h
 have N1 : Hid (∀ w, TAt W w l g (opl l 1) → Calls prog 84 #[.pointer (some ⟨g, 0, none⟩)] w fun r w' => TEnd W w' r l g (.int .i64 (ono l 1)) (opl l 2) (oer l 1)) := qaa fun w h => pt_num W w l g (opl l 1) hl h
 have N2 : Hid (∀ w, TAt W w l g (opl l 2) → Calls prog 84 #[.pointer (some ⟨g, 0, none⟩)] w fun r w' => TEnd W w' r l g (.int .i64 (ono l 2)) (opl l 3) (oer l 2)) := qaa fun w h => pt_num W w l g (opl l 2) hl h
 have N3 : Hid (∀ w, TAt W w l g (opl l 3) → Calls prog 84 #[.pointer (some ⟨g, 0, none⟩)] w fun r w' => TEnd W w' r l g (.int .i64 (ono l 3)) (opl l 4) (oer l 3)) := qaa fun w h => pt_num W w l g (opl l 3) hl h
 have N4 : Hid (∀ w, TAt W w l g (opl l 4) → Calls prog 84 #[.pointer (some ⟨g, 0, none⟩)] w fun r w' => TEnd W w' r l g (.int .i64 (ono l 4)) (opl l 5) (oer l 4)) := qaa fun w h => pt_num W w l g (opl l 4) hl h
 have HR := qaa fun w h0 hp hB => pt_rest w l g (opl l 5) hl h0 hp hB
 have F0 : Hid (eb ≠ 0 → oflt l 5 = eb) := qaa fun h => by
  by_cases h0 : l.length = 0
  ·have h1 : oflt l 0 = eb := heb
   rw [← h1] at h ⊢
   exact oflt_on h 5
  ·rw [qag h0] at heb
   exact absurd heb.symm h
 have hlen : eb = 0 → l.length ≠ 0 := fun h h0 => by
  rw [qah h0] at heb
  omega
 have F1 : Hid (eb = 0 → oer l 0 ≠ 0 → oflt l 5 = oer l 0) := qaa fun hb  h => ycb (hlen hb) 0 4 (fun i hi => by
  match i, hi with
  | i, hi => omega) h
 have F2 : Hid (eb = 0 → oer l 0 = 0 → oer l 1 ≠ 0 → oflt l 5 = oer l 1) := qaa fun hb h0 h => ycb (hlen hb) 1 3 (fun i hi => by
  match i, hi with
  | 0, _ => exact h0) h
 have F3 : Hid (eb = 0 → oer l 0 = 0 → oer l 1 = 0 → oer l 2 ≠ 0 → oflt l 5 = oer l 2) := qaa fun hb h0 h1 h => ycb (hlen hb) 2 2 (fun i hi => by
  match i, hi with
  | 0, _ => exact h0
  | 1, _ => exact h1) h
 have F4 : Hid (eb = 0 → oer l 0 = 0 → oer l 1 = 0 → oer l 2 = 0 → oer l 3 ≠ 0 → oflt l 5 = oer l 3) := qaa fun hb h0 h1 h2 h => ycb (hlen hb) 3 1 (fun i hi => by
  match i, hi with
  | 0, _ => exact h0
  | 1, _ => exact h1
  | 2, _ => exact h2) h
 have F5 : Hid (eb = 0 → oer l 0 = 0 → oer l 1 = 0 → oer l 2 = 0 → oer l 3 = 0 → oer l 4 ≠ 0 → oflt l 5 = oer l 4) := qaa fun hb h0 h1 h2 h3 h => ycb (hlen hb) 4 0 (fun i hi => by
  match i, hi with
  | 0, _ => exact h0
  | 1, _ => exact h1
  | 2, _ => exact h2
  | 3, _ => exact h3) h
 have F6 : Hid (eb = 0 → oer l 0 = 0 → oer l 1 = 0 → oer l 2 = 0 → oer l 3 = 0 → oer l 4 = 0 → oflt l 5 = 0) := qaa fun hb h0 h1 h2 h3 h4 => oflt_all (hlen hb) 5 (fun i hi => by
  match i, hi with
  | 0, _ => exact h0
  | 1, _ => exact h1
  | 2, _ => exact h2
  | 3, _ => exact h3
  | 4, _ => exact h4)
 clear hP hB hl heb hlen
 generalize ((l.getD 0 0).toNat : Int) = m at *
 generalize ono l 0 = x0 at *
 generalize oer l 0 = e0 at *
 generalize ono l 1 = x1 at *
 generalize oer l 1 = e1 at *
 generalize ono l 2 = x2 at *
 generalize oer l 2 = e2 at *
 generalize ono l 3 = x3 at *
 generalize oer l 3 = e3 at *
 generalize ono l 4 = x4 at *
 generalize oer l 4 = e4 at *
 generalize opl l 0 = q0 at *
 generalize opl l 1 = q1 at *
 generalize opl l 2 = q2 at *
 generalize opl l 3 = q3 at *
 generalize opl l 4 = q4 at *
 generalize opl l 5 = q5 at *
 generalize oflt l 5 = E5 at *
 go_enter func97, ntmps97
 go_wp2_with (first
  | (go_at_call 98; (with_reducible refine (NB.out _ HT.out).mono ?_); rintro e w1 (⟨hE, rfl, hT⟩ | ⟨hE, ⟨q, rfl⟩, hT⟩); replace HT := qaa hT; have EB := qaa hE; clear hE hT)
  | (go_at_call 84; (with_reducible refine (N0.out _ HT.out).mono ?_); rintro e w2 (⟨hE, rfl, hT⟩ | ⟨hE, ⟨q, rfl⟩, hT⟩); replace HT := qaa hT; have E0 := qaa hE; clear hE hT)
  | (go_at_call 84; (with_reducible refine (N1.out _ HT.out).mono ?_); rintro e w3 (⟨hE, rfl, hT⟩ | ⟨hE, ⟨q, rfl⟩, hT⟩); replace HT := qaa hT; have E1 := qaa hE; clear hE hT)
  | (go_at_call 84; (with_reducible refine (N2.out _ HT.out).mono ?_); rintro e w4 (⟨hE, rfl, hT⟩ | ⟨hE, ⟨q, rfl⟩, hT⟩); replace HT := qaa hT; have E2 := qaa hE; clear hE hT)
  | (go_at_call 84; (with_reducible refine (N3.out _ HT.out).mono ?_); rintro e w5 (⟨hE, rfl, hT⟩ | ⟨hE, ⟨q, rfl⟩, hT⟩); replace HT := qaa hT; have E3 := qaa hE; clear hE hT)
  | (go_at_call 84; (with_reducible refine (N4.out _ HT.out).mono ?_); rintro e w6 (⟨hE, rfl, hT⟩ | ⟨hE, ⟨q, rfl⟩, hT⟩); replace HT := qaa hT; have E4 := qaa hE; clear hE hT)
  | (go_at_call 85; (with_reducible refine (HR.out _ HT.out.low HT.out.high HT.out.blk).mono ?_); rintro e w7 ⟨rfl, hT⟩; have HP7 := qaa ((HT.out.keep HP.out hp).touch hT hp); have HT7 := qaa (HT.out.touch.next hT (fun _ _ e => e)); clear hT; have k0 := HP7.out.cell 0; have z0 := HP7.out.frozen 0; have k1 := HP7.out.cell 1; have z1 := HP7.out.frozen 1; have k2 := HP7.out.cell 2; have z2 := HP7.out.frozen 2; have k3 := HP7.out.cell 3; have z3 := HP7.out.frozen 3; have k4 := HP7.out.cell 4; have z4 := HP7.out.frozen 4; have k5 := HP7.out.cell 5; have z5 := HP7.out.frozen 5; have k6 := HP7.out.cell 6; have z6 := HP7.out.frozen 6))
 ·generalize hX : ((((((w7.setCell ⟨pb, 0, none⟩ (.int .i64 m)).setCell ⟨pb, 1, none⟩ (.int .i64 x0)).setCell ⟨pb, 2, none⟩ (.int .i64 x1)).setCell ⟨pb, 3, none⟩ (.int .i64 x2)).setCell ⟨pb, 4, none⟩ (.int .i64 x3)).setCell ⟨pb, 5, none⟩ (.int .i64 x4)).setCell ⟨pb, 6, none⟩ (.string ⟨(l.drop q5.toNat).toArray⟩) = X
  obtain ⟨y1, y2⟩ := oset7 HP7.out hX
  go_end0
  have h5 := F6.out EB.out E0.out E1.out E2.out E3.out E4.out
  subst h5
  exact ⟨.inl ⟨rfl, _, rfl⟩, fun _ => ⟨y1, (HT7.out.mono (S' := fun k => k = g ∨ k = pb) (fun _ _ e => qat e)).next y2 (fun _ _ e => qaT e)⟩, fun h => absurd rfl h⟩
 ·exact ycT rfl (ycU (F5.out EB.out E0.out E1.out E2.out E3.out hE) hE hT)
 ·exact ycT rfl (ycU (F4.out EB.out E0.out E1.out E2.out hE) hE hT)
 ·exact ycT rfl (ycU (F3.out EB.out E0.out E1.out hE) hE hT)
 ·exact ycT rfl (ycU (F2.out EB.out E0.out hE) hE hT)
 ·exact ycT rfl (ycU (F1.out EB.out  hE) hE hT)
 ·exact ycT rfl (ycU (F0.out hE) hE hT)
end Go.Proofs.YtanjhbkbpalnaaaGreat
