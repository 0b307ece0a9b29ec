/-
  Layer 20, the document's: a disk in memory; Find, told, counted (ahead of the code's landing).
-/
import Derived.Test.YtgoahcmgpjacjaaGreatDisC
namespace Go.Proofs.YtgoahcmgpjacjaaGreat
set_option linter.unusedSimpArgs false
set_option linter.unusedVariables false
open Go.ChangeShapes Go.WideShapes Go.ChangeAt Go.RowKit Go.Joins Go.Deep
structure DAd where
  a1 : Option Addr
  a2 : Option Addr
  a3 : Option Addr
  a4 : Option Addr
  c1 : Nat
  c2 : Nat
  c3 : Nat
  c4 : Nat
abbrev dkc (D : Dk) (a : DAd) : Array Value := #[.slice a.a1 D.files.length a.c1, .slice a.a2 D.dir.length a.c2, .slice a.a3 D.safe.length a.c3, .slice a.a4 D.chg.length a.c4, .int .i64 D.cap, .int .i64 D.ops, .int .i64 D.armed, .bool D.dead]
structure DkMem (W : World) (D : Dk) (a : DAd) : Prop where
  files : Reads W W.heap.size 2 a.a1 D.files.length (dcs ffc D.files)
  dir : Reads W W.heap.size 2 a.a2 D.dir.length (dcs efc D.dir)
  safe : Reads W W.heap.size 2 a.a3 D.safe.length (dcs efc D.safe)
  chg : Reads W W.heap.size 3 a.a4 D.chg.length (dcs cfc D.chg)
  k1 : D.files.length ≤ a.c1
  k2 : D.dir.length ≤ a.c2
  k3 : D.safe.length ≤ a.c3
  k4 : D.chg.length ≤ a.c4
theorem DkMem.on {W W' : World} {D : Dk} {a : DAd} (h : DkMem W D a) (hb : Below W.heap.size W W') : DkMem W' D a := ⟨dReads_on h.files hb, dReads_on h.dir hb, dReads_on h.safe hb, dReads_on h.chg hb, h.k1, h.k2, h.k3, h.k4⟩
def ANs (w w' : World) (a : DAd) (A : Option Addr) : Prop := A = none ∨ A = a.a1 ∨ A = a.a2 ∨ A = a.a3 ∨ A = a.a4 ∨ ∃ b off, A = some ⟨b, off, none⟩ ∧ w.heap.size ≤ b ∧ b < w'.heap.size
theorem AN.up {w w' : World} {a : DAd} {A0 A : Option Addr} (h : AN w w' A0 A) (h0 : ANs w w' a A0) : ANs w w' a A := by
  rcases h with h | h | h
  · rw [h]; exact h0
  · exact .inl h
  · exact .inr (.inr (.inr (.inr (.inr h))))
theorem ANs.mono {w w1 w2 w3 : World} {a : DAd} {A : Option Addr} (h : ANs w1 w2 a A) (hs : w.heap.size ≤ w1.heap.size) (ht : w2.heap.size ≤ w3.heap.size) : ANs w w3 a A := by
  rcases h with h | h | h | h | h | ⟨b, off, h1, h2, h3⟩
  · exact .inl h
  · exact .inr (.inl h)
  · exact .inr (.inr (.inl h))
  · exact .inr (.inr (.inr (.inl h)))
  · exact .inr (.inr (.inr (.inr (.inl h))))
  · exact .inr (.inr (.inr (.inr (.inr ⟨b, off, h1, Nat.le_trans hs h2, Nat.lt_of_lt_of_le h3 ht⟩))))
def DkN (w w' : World) (a a' : DAd) : Prop := ANs w w' a a'.a1 ∧ ANs w w' a a'.a2 ∧ ANs w w' a a'.a3 ∧ ANs w w' a a'.a4
theorem ANs.one (w w' : World) (a : DAd) : ANs w w' a a.a1 := .inr (.inl rfl)
theorem ANs.two (w w' : World) (a : DAd) : ANs w w' a a.a2 := .inr (.inr (.inl rfl))
theorem ANs.three (w w' : World) (a : DAd) : ANs w w' a a.a3 := .inr (.inr (.inr (.inl rfl)))
theorem ANs.four (w w' : World) (a : DAd) : ANs w w' a a.a4 := .inr (.inr (.inr (.inr (.inl rfl))))
theorem DkN.refl (w w' : World) (a : DAd) : DkN w w' a a := ⟨.one w w' a, .two w w' a, .three w w' a, .four w w' a⟩
theorem DkN.mono {w w1 w2 w3 : World} {a a' : DAd} (h : DkN w1 w2 a a') (hs : w.heap.size ≤ w1.heap.size) (ht : w2.heap.size ≤ w3.heap.size) : DkN w w3 a a' := ⟨h.1.mono hs ht, h.2.1.mono hs ht, h.2.2.1.mono hs ht, h.2.2.2.mono hs ht⟩
theorem DkN.late {w w2 w3 : World} {a a' : DAd} (h : DkN w w2 a a') (ht : w2.heap.size ≤ w3.heap.size) : DkN w w3 a a' := h.mono (Nat.le_refl _) ht
theorem ANs.trans {w w' : World} {a a' : DAd} {A : Option Addr} (h : DkN w w' a a') (h2 : ANs w w' a' A) : ANs w w' a A := by
  rcases h2 with h2 | h2 | h2 | h2 | h2 | h2
  · exact .inl h2
  · rw [h2]; exact h.1
  · rw [h2]; exact h.2.1
  · rw [h2]; exact h.2.2.1
  · rw [h2]; exact h.2.2.2
  · exact .inr (.inr (.inr (.inr (.inr h2))))
theorem DkN.trans {w w' : World} {a a' a'' : DAd} (h : DkN w w' a a') (h2 : DkN w w' a' a'') : DkN w w' a a'' := ⟨ANs.trans h h2.1, ANs.trans h h2.2.1, ANs.trans h h2.2.2.1, ANs.trans h h2.2.2.2⟩
def DPost (a : DAd) (w w' : World) (e : Ending) (F : Dk × Int) : Prop := ∃ a', e = .returned (.tuple #[.agg (dkc F.1 a'), .int .i64 F.2]) ∧ DkMem w' F.1 a' ∧ Below w.heap.size w w' ∧ DkN w w' a a'
theorem dfindL_at (s : List UInt8) : ∀ (l : List Ent) (k : Nat) (h : k < l.length), (∀ j (hj : j < l.length), j < k → l[j].1 ≠ s) → l[k].1 = s → dfindL s l = l[k].2
  | [], k, h, _, _ => by cases h
  | e :: t, 0, h, _, h2 => by
    unfold dfindL
    rw [if_pos (show e.1 = s from h2)]
    rfl
  | e :: t, k + 1, h, h1, h2 => by
    unfold dfindL
    rw [if_neg (show ¬ e.1 = s from h1 0 (by simp) (by omega))]
    exact dfindL_at s t k (by simpa using h) (fun j hj hk => h1 (j + 1) (by simpa using hj) (by omega)) h2
theorem dfindL_none (s : List UInt8) : ∀ (l : List Ent), (∀ j (hj : j < l.length), l[j].1 ≠ s) → dfindL s l = -1
  | [], _ => rfl
  | e :: t, h => by
    unfold dfindL
    rw [if_neg (show ¬ e.1 = s from h 0 (by simp))]
    exact dfindL_none s t fun j hj => h (j + 1) (by simpa using hj)
set_option maxRecDepth 100000 in
set_option maxHeartbeats 4000000 in
theorem dref_find_any (D : Dk) (a : DAd) (s : List UInt8) (w : World) (hM : DkMem w D a) (hn : D.dir.length ≤ 1000000) :
    Calls Tryz.prog 55 #[.agg (dkc D a), .string ⟨s.toArray⟩] w fun e w' => e = .returned (.int .i64 (D.find s)) ∧ Below w.heap.size w w' := by
  unfold Dk.find dkc
  obtain ⟨fs, dr, sf, cg, cap, ops, arm, dd⟩ := D
  dsimp only at hn ⊢
  have hdir := hM.dir
  dsimp only at hdir
  have HAt := Lib.hid fun k h h1 h2 => dfindL_at s dr k h h1 h2
  have HNo := Lib.hid fun h => dfindL_none s dr h
  have HX := Lib.hid (Blk.new w 33 #[.slice a.a1 fs.length a.c1, .slice a.a2 dr.length a.c2, .slice a.a3 sf.length a.c3, .slice a.a4 cg.length a.c4, .int .i64 cap, .int .i64 ops, .int .i64 arm, .bool dd])
  obtain ⟨a1, a2, a3, a4, c1, c2, c3, c4⟩ := a
  dsimp only at hdir HX ⊢
  obtain ⟨n, hl⟩ : ∃ n, dr.length = n := ⟨_, rfl⟩
  rw [hl] at hdir hn HX
  have HL := Lib.hid hl
  have HC : Hid (0 < n → ∃ b off, a2 = some ⟨b, off, none⟩ ∧ b < w.heap.size ∧ ∀ i (hi : i < dr.length), w.cell? ⟨b, off + i * 2, none⟩ = some (.string ⟨dr[i].1.toArray⟩) ∧ w.cell? ⟨b, off + i * 2 + 1, none⟩ = some (.int .i64 dr[i].2)) := Lib.hid fun h => ent_cells hdir hl h
  have HB0 := Lib.hid ((Below.refl w.heap.size w).alloc (Nat.le_refl _) (.cells #[.slice a1 fs.length c1, .slice a2 n c2, .slice a3 sf.length c3, .slice a4 cg.length c4, .int .i64 cap, .int .i64 ops, .int .i64 arm, .bool dd] 33))
  rw [hl]
  clear hl hdir hM
  generalize fs.length = n1 at *
  generalize sf.length = n3 at *
  generalize cg.length = n4 at *
  generalize dfindL s dr = R at *
  go_enter Tryz.func55, Tryz.ntmps55
  go_wp2
  go_loopw [5] (fun i wr => ∃ k : Nat, k ≤ n ∧ i = .int .i64 (k : Int) ∧ Hid (Blk wr w.heap.size 33 #[.slice a1 n1 c1, .slice a2 n c2, .slice a3 n3 c3, .slice a4 n4 c4, .int .i64 cap, .int .i64 ops, .int .i64 arm, .bool dd]) ∧ Hid (Below w.heap.size w wr) ∧ Hid (∀ j (hj : j < dr.length), j < k → dr[j].1 ≠ s)) (fun i _ => n - (intOf i).toNat)
  case atStart => exact ⟨0, by omega, rfl, HX, HB0, Lib.hid fun j _ h => absurd h (Nat.not_lt_zero _)⟩
  case round =>
    obtain ⟨k, hk, rfl, HX2, HB, HP⟩ := hrel
    have x1 : wr.cell? ⟨w.heap.size, 1, none⟩ = some (.slice a2 n c2) := HX2.out.cell 1
    by_cases hlt : k < n
    · have hkl : k < dr.length := by have := HL.out; omega
      obtain ⟨b, off, rfl, hb, hcell⟩ := HC.out (by omega)
      obtain ⟨d0, d1⟩ := hcell k hkl
      have y0 := (HB.out.cell (p := ⟨b, off + k * 2, none⟩) hb).trans d0
      have y1 := (HB.out.cell (p := ⟨b, off + k * 2 + 1, none⟩) hb).trans d1
      have hki : (0 : Int) ≤ (k : Int) ∧ (k : Int) < (n : Int) := by omega
      by_cases h1 : dr[k].1 = s
      · have HF := Lib.hid (HAt.out k hkl HP.out h1)
        have hq : (s == s) = true := beq_self_eq_true s
        rw [h1] at y0
        clear hcell d0 d1 HC HAt HNo h1 HP
        generalize dr[k].2 = v at *
        go_wp2
        go_ret
        exact ⟨by rw [HF.out]; rfl, HB.out⟩
      · have hq : (dr[k].1 == s) = false := by rw [beq_eq_false_iff_ne]; exact h1
        have HP2 : Hid (∀ j (hj : j < dr.length), j < k + 1 → dr[j].1 ≠ s) := Lib.hid fun j hj hjk => by
          by_cases e : j = k
          · subst e; exact h1
          · exact HP.out j hj (by omega)
        clear hcell d0 d1 HC HAt HNo h1 HP
        generalize dr[k].1 = u at *
        generalize dr[k].2 = v at *
        go_wp2
        go_roundw
        case rel => exact ⟨k + 1, by omega, iv (by omega), HX2, HB, HP2⟩
        case measure => simp only [intOf]; omega
    · obtain rfl : k = n := by omega
      have HF := Lib.hid (HNo.out fun j hj => HP.out j hj (by have := HL.out; omega))
      clear HAt HNo HC
      go_wp2
      go_ret
      exact ⟨by rw [HF.out]; rfl, HB.out⟩
theorem dref_told_any (t : Bool) (w : World) : Calls Tryz.prog 61 #[.bool t] w fun e w' => e = .returned (.int .i64 (if t = true then 200 else 0)) ∧ Below w.heap.size w w' := by
  cases t
  · go_enter Tryz.func61, Tryz.ntmps61
    go_wp2
    go_ret
    exact ⟨rfl, Below.refl _ _⟩
  · go_enter Tryz.func61, Tryz.ntmps61
    go_wp2
    go_ret
    exact ⟨rfl, Below.refl _ _⟩
set_option maxRecDepth 100000 in
set_option maxHeartbeats 4000000 in
theorem dref_counted_any (D : Dk) (a : DAd) (w : World) (ho : 0 ≤ D.ops ∧ D.ops ≤ 1000000) (ha : -9223372036854775808 ≤ D.armed ∧ D.armed < 9223372036854775808) :
    Calls Tryz.prog 59 #[.agg (dkc D a)] w fun e w' => e = .returned (.tuple #[.agg (dkc D.counted a), .bool D.last]) ∧ Below w.heap.size w w' := by
  unfold dkc Dk.counted Dk.last
  obtain ⟨fs, dr, sf, cg, cap, ops, arm, dd⟩ := D
  obtain ⟨a1, a2, a3, a4, c1, c2, c3, c4⟩ := a
  dsimp only at ho ha ⊢
  have hw1 : IntKind.i64.wrap (ops + 1) = ops + 1 := by rw [IntKind.wrap_i64]; omega
  generalize fs.length = n1 at *
  generalize dr.length = n2 at *
  generalize sf.length = n3 at *
  generalize cg.length = n4 at *
  by_cases h1 : arm = 1
  · subst h1
    go_enter Tryz.func59, Tryz.ntmps59
    go_wp2
    refine bodyPost_ret (v := .tuple #[.agg #[.slice a1 n1 c1, .slice a2 n2 c2, .slice a3 n3 c3, .slice a4 n4 c4, .int .i64 cap, .int .i64 (ops + 1), .int .i64 0, .bool true], .bool true]) (by simp [results, Tryz.results59, go_sem]) rfl ⟨by simp, by go_grown⟩
  · by_cases h2 : 0 < arm
    · have hw2 : IntKind.i64.wrap (arm - 1) = arm - 1 := by rw [IntKind.wrap_i64]; omega
      have hq : (arm == 1) = false := by rw [beq_eq_false_iff_ne]; exact h1
      clear ha ho
      go_enter Tryz.func59, Tryz.ntmps59
      go_wp2
      refine bodyPost_ret (v := .tuple #[.agg #[.slice a1 n1 c1, .slice a2 n2 c2, .slice a3 n3 c3, .slice a4 n4 c4, .int .i64 cap, .int .i64 (ops + 1), .int .i64 (arm - 1), .bool dd], .bool false]) (by simp [results, Tryz.results59, go_sem]) rfl ⟨by simp [h1, h2], by go_grown⟩
    · have hq : (arm == 1) = false := by rw [beq_eq_false_iff_ne]; exact h1
      clear ha ho
      go_enter Tryz.func59, Tryz.ntmps59
      go_wp2
      refine bodyPost_ret (v := .tuple #[.agg #[.slice a1 n1 c1, .slice a2 n2 c2, .slice a3 n3 c3, .slice a4 n4 c4, .int .i64 cap, .int .i64 (ops + 1), .int .i64 arm, .bool dd], .bool false]) (by simp [results, Tryz.results59, go_sem]) rfl ⟨by simp [h1, h2], by go_grown⟩
end Go.Proofs.YtgoahcmgpjacjaaGreat
