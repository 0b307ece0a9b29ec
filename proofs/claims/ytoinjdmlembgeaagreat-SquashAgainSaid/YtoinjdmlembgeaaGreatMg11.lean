/-
 What the law of the last of these texts stands on, part 11.
-/
import Derived.Test.YtoinjdmlembgeaaGreatMg08
namespace Go.Proofs.YtoinjdmlembgeaaGreat
set_option linter.unusedSimpArgs false
set_option linter.unusedVariables false
open Go.ChangeShapes Go.WideShapes Go.ChangeAt Go.RowKit Go.Joins Go.Deep
theorem sbyteD {s : List UInt8} {p : Nat} (h : p < s.length) : s.getD p 0 = s[p] := by rw [List.getD_eq_getElem?_getD, List.getElem?_eq_getElem h]; rfl
set_option maxRecDepth 100000 in
set_option maxHeartbeats 2000000 in
theorem s_same1_any (s : List UInt8) (a b pb : Nat) (w : World) (ha : a ≤ s.length) (hb : b < s.length) (hs : s.length ≤ 1000000) (hP : w.cell? ⟨pb, 0, none⟩ = some (.string ⟨s.toArray⟩)) :
  Calls Tryz.prog 116 #[.int .i64 (a : Int), .int .i64 (b : Int), .pointer (some ⟨pb, 0, none⟩)] w fun e w' => e = .returned (.bool (ycM s a b)) ∧ ∃ m, w' = w.drewN m := by
 have hi : (0 : Int) ≤ (a : Int) ∧ (a : Int) ≤ (s.length : Int) ∧ (0 : Int) ≤ (b : Int) ∧ (b : Int) < (s.length : Int) ∧ (s.length : Int) ≤ 1000000 := by omega
 by_cases h1 : a < s.length
 ·have b1 : decide ((a : Int) < (s.length : Int)) = true := by rw [decide_eq_true_eq]; omega
  have h1i : (a : Int) < (s.length : Int) := by omega
  have e1 : ∀ h, ((⟨s.toArray⟩ : ByteArray)[a]'h) = s[a] := fun h => rfl
  have e2 : ∀ h, ((⟨s.toArray⟩ : ByteArray)[b]'h) = s[b] := fun h => rfl
  by_cases h3 : s[a] = s[b]
  ·have b3 : ((s[a].toNat : Int) == (s[b].toNat : Int)) = true := by rw [h3]; simp
   have fin : ycM s a b = true := by unfold ycM; rw [sbyteD h1, sbyteD hb, h3]; simp [h1]
   rw [fin]
   clear fin h3
   go_enter Tryz.func116, Tryz.ntmps116
   go_wp2
   go_quiet (fail)
   go_wp2
   go_ret
   exact ⟨rfl, _, rfl⟩
  ·have b3 : ((s[a].toNat : Int) == (s[b].toNat : Int)) = false := by
    rw [beq_eq_false_iff_ne]
    intro e
    exact h3 (UInt8.toNat_inj.1 (by omega))
   have fin : ycM s a b = false := by unfold ycM; rw [sbyteD h1, sbyteD hb]; simp [h3]
   rw [fin]
   clear fin h3
   go_enter Tryz.func116, Tryz.ntmps116
   go_wp2
   go_quiet (fail)
   go_wp2
   go_ret
   exact ⟨rfl, _, rfl⟩
 ·have b1 : decide ((a : Int) < (s.length : Int)) = false := by rw [decide_eq_false_iff_not]; omega
  have fin : ycM s a b = false := by unfold ycM; simp [h1]
  rw [fin]
  clear fin
  go_enter Tryz.func116, Tryz.ntmps116
  go_wp2
  go_quiet (fail)
  go_wp2
  go_ret
  exact ⟨rfl, _, rfl⟩
def kL (kd : Nat → Nat) (n : Nat) : List Int := rng n fun p => (kd p : Int)
theorem kL_len (kd : Nat → Nat) (n : Nat) : (kL kd n).length = n := yce _ _
theorem kL_get (kd : Nat → Nat) (n p : Nat) (h : p < (kL kd n).length) : (kL kd n)[p] = (kd p : Int) := ycJ _ _ _ h
theorem ydj {w : World} {g n : Nat} {t : TypeId} {kd : Nat → Nat} (h : Blk w g t (ints (kL kd n)).toArray) (p : Nat) (hp : p < n) : w.cell? ⟨g, p, none⟩ = some (.int .i64 (kd p : Int)) := by
 have hl : p < (kL kd n).length := by rw [kL_len]; exact hp
 have := yaN h p hl
 rwa [kL_get] at this
set_option maxRecDepth 100000 in
set_option maxHeartbeats 4000000 in
theorem s_same2_any (kd : Nat → Nat) (n h a b pb g c : Nat) (A : Option Addr) (w : World) (hn : n ≤ 1000001) (hh : h ≤ 1000001) (ha : a < n) (hb : b < n) (hr : kd a = kd b → a + h < n ∧ b + h < n)
  (hP : Blk w pb 114 #[.slice A n c, .slice (some ⟨g, 0, none⟩) n n, .int .i64 (h : Int)]) (hG : Blk w g 3 (ints (kL kd n)).toArray) :
  Calls Tryz.prog 119 #[.int .i64 (a : Int), .int .i64 (b : Int), .pointer (some ⟨pb, 0, none⟩)] w fun e w' => e = .returned (.bool (ygB kd h a b)) ∧ ∃ m, w' = w.drewN m := by
 have hi : (0 : Int) ≤ (a : Int) ∧ (a : Int) < (n : Int) ∧ (0 : Int) ≤ (b : Int) ∧ (b : Int) < (n : Int) ∧ (n : Int) ≤ 1000001 ∧ (0 : Int) ≤ (h : Int) ∧ (h : Int) ≤ 1000001 := by omega
 have p1 : w.cell? ⟨pb, 1, none⟩ = some (.slice (some ⟨g, 0, none⟩) n n) := hP.cell 1
 have p2 : w.cell? ⟨pb, 2, none⟩ = some (.int .i64 (h : Int)) := hP.cell 2
 have c1 := ydj hG a ha
 have c2 := ydj hG b hb
 by_cases h1 : kd a = kd b
 ·obtain ⟨h2, h3⟩ := hr h1
  have c3 := ydj hG (a + h) h2
  have c4 := ydj hG (b + h) h3
  have hw1 : IntKind.i64.wrap ((a : Int) + (h : Int)) = (a : Int) + (h : Int) := by rw [IntKind.wrap_i64]; omega
  have hw2 : IntKind.i64.wrap ((b : Int) + (h : Int)) = (b : Int) + (h : Int) := by rw [IntKind.wrap_i64]; omega
  have hi2 : (a : Int) + (h : Int) < (n : Int) ∧ (b : Int) + (h : Int) < (n : Int) := by omega
  have b1 : ((kd a : Int) == (kd b : Int)) = true := by rw [h1]; simp
  by_cases h4 : kd (a + h) = kd (b + h)
  ·have b2 : ((kd (a + h) : Int) == (kd (b + h) : Int)) = true := by rw [h4]; simp
   have fin : ygB kd h a b = true := by unfold ygB; rw [h1, h4]; simp
   rw [fin]
   clear fin hP hG hr h1 h4
   generalize kd a = ka at *
   generalize kd b = kb at *
   generalize kd (a + h) = kc at *
   generalize kd (b + h) = ke at *
   go_enter Tryz.func119, Tryz.ntmps119
   go_wp2
   go_quiet (fail)
   go_wp2
   go_ret
   exact ⟨rfl, _, rfl⟩
  ·have b2 : ((kd (a + h) : Int) == (kd (b + h) : Int)) = false := by rw [beq_eq_false_iff_ne]; omega
   have fin : ygB kd h a b = false := by unfold ygB; simp [h4]
   rw [fin]
   clear fin hP hG hr h1 h4
   generalize kd a = ka at *
   generalize kd b = kb at *
   generalize kd (a + h) = kc at *
   generalize kd (b + h) = ke at *
   go_enter Tryz.func119, Tryz.ntmps119
   go_wp2
   go_quiet (fail)
   go_wp2
   go_ret
   exact ⟨rfl, _, rfl⟩
 ·have b1 : ((kd a : Int) == (kd b : Int)) = false := by rw [beq_eq_false_iff_ne]; omega
  have fin : ygB kd h a b = false := by unfold ygB; simp [h1]
  rw [fin]
  clear fin hP hG hr h1
  generalize kd a = ka at *
  generalize kd b = kb at *
  go_enter Tryz.func119, Tryz.ntmps119
  go_wp2
  go_quiet (fail)
  go_wp2
  go_ret
  exact ⟨rfl, _, rfl⟩
theorem ygP {P : Program} {f : FuncId} {args : Array Value} {w : World} {a n : Nat} {v : Value}
  (h : Calls P f args (w.drewN (a + n)) fun e w' => e = .returned v ∧ ∃ m, w' = (w.drewN (a + n)).drewN m) :
  Calls P f args (w.drewN (a + n)) fun e w'' => e = .returned v ∧ ∃ m, w'' = w.drewN (a + m) :=
 h.mono fun e w' ⟨he, m, hm⟩ => ⟨he, n + m, by rw [hm, World.drewN_drewN, Nat.add_assoc]⟩
theorem knum_next (row : List Nat) (sm : Nat → Nat → Bool) (n k : Nat) (hk : k + 1 < row.length) (v : Int) (hv : v = (knum row sm k row[k] : Nat) + (if sm row[k] row[k + 1] = true then 0 else 1)) :
  (kL (knum row sm k) n).set row[k + 1] v = kL (knum row sm (k + 1)) n := by
 subst hv
 refine yhA _ _ fun p _ => ?_
 show ((if k + 1 < row.length ∧ p = row.getD (k + 1) 0 then knum row sm k (row.getD k 0) + (if sm (row.getD k 0) (row.getD (k + 1) 0) = true then 0 else 1) else knum row sm k p : Nat) : Int) = _
 rw [yeI _ hk, yeI _ (show k < row.length by omega)]
 by_cases e : p = row[k + 1]
 ·rw [if_pos ⟨hk, e⟩, if_pos e]
  split <;> omega
 ·rw [if_neg fun h => e h.2, if_neg e]
theorem knum_zero (row : List Nat) (sm : Nat → Nat → Bool) (n : Nat) : List.replicate n (0 : Int) = kL (knum row sm 0) n := rng_zero n
theorem knum_le {row : List Nat} (hn : row.Nodup) (sm : Nat → Nat → Bool) (k : Nat) (hk : k < row.length) : knum row sm k row[k] ≤ k := by
 rw [knum_at hn sm k k hk (Nat.le_refl _)]
 exact kN_le _ _ _
set_option maxRecDepth 100000 in
set_option maxHeartbeats 4000000 in
theorem ya4 (row : List Nat) (sm : Nat → Nat → Bool) (A : Option Addr) (n c pb : Nat) (G : FuncId) (w : World)
  (hS : ∀ W, Below w.heap.size w W → ∀ k (hk : k + 1 < row.length), Calls Tryz.prog G #[.int .i64 ((row[k] : Nat) : Int), .int .i64 ((row[k + 1] : Nat) : Int), .pointer (some ⟨pb, 0, none⟩)] W fun e W' => e = .returned (.bool (sm row[k] row[k + 1])) ∧ ∃ m, W' = W.drewN m)
  (hn : row.length = n) (hm : n ≤ 1000001) (hnd : row.Nodup) (hb : ∀ p ∈ row, p < n) (hr : Reads w w.heap.size 1 A n (ints (splc row)))
  (eg : ∀ args w, (callFunc G args).run Tryz.prog w = .ok (.enter G args) w)
  :
  Calls Tryz.prog 117 #[.slice A n c, .func (.func G) #[] #[.pointer (some ⟨pb, 0, none⟩)]] w fun e w' => ∃ g, e = .returned (.slice (some ⟨g, 0, none⟩) n n) ∧ w.heap.size ≤ g ∧ Blk w' g 3 (ints (kL (knum row sm (n - 1)) n)).toArray ∧ Below w.heap.size w w' := by
 have hni : (n : Int) ≤ 1000001 := by omega
 have Hrow := Lib.hid (ydO hn hr)
 have Hn := Lib.hid hn
 have HS := Lib.hid hS
 have Hbd : Hid (∀ k (hk : k < row.length), row[k] < n) := Lib.hid fun k hk => hb _ (List.getElem_mem hk)
 have Hle := Lib.hid (knum_le hnd sm)
 have Hnext := Lib.hid (knum_next row sm n)
 have hmk := fun w => ycU (n : Int) n rfl (by omega) w
 rw [knum_zero row sm n] at hmk
 have HB0 := Lib.hid (Blk.new w 3 (ints (kL (knum row sm 0) n)).toArray)
 have HO0 := Lib.hid ((Below.refl w.heap.size w).alloc (Nat.le_refl _) (.cells (ints (kL (knum row sm 0) n)).toArray 3))
 clear hr hS hb hnd hn
 generalize hg : w.heap.size = g at *
 go_enter Tryz.func117, Tryz.ntmps117
 go_wp2
 clear hmk
 by_cases hn0 : n = 0
 ·subst hn0
  go_loopw [6] (fun i wr => i = .int .i64 1 ∧ Hid (Blk wr g 3 (ints (kL (knum row sm 0) 0)).toArray) ∧ Hid (Below g w wr)) (fun _ _ => 0)
  case atStart => exact ⟨rfl, HB0, HO0⟩
  case round =>
   obtain ⟨rfl, HB, HO⟩ := hrel
   go_wp2
   go_ret
   exact ⟨g, rfl, Nat.le_refl _, HB.out, HO.out⟩
 ·have hn1 : 1 ≤ n := by omega
  go_loopw [6] (fun i wr => ∃ k m : Nat, k + 1 = m ∧ m ≤ n ∧ i = .int .i64 m ∧ Hid (Blk wr g 3 (ints (kL (knum row sm k) n)).toArray) ∧ Hid (Below g w wr)) (fun i _ => n - (intOf i).toNat)
  case atStart => exact ⟨0, 1, rfl, hn1, rfl, HB0, HO0⟩
  case round =>
   obtain ⟨k, m, hkm, hk, rfl, HB, HO⟩ := hrel
   clear HB0 HO0
   by_cases hlt : m < n
   ·have hki : ((0 : Int) ≤ (k : Int) ∧ (k : Int) < (n : Int)) ∧ (0 : Int) ≤ (m : Int) ∧ (m : Int) < (n : Int) := by omega
    have hkk := hki.1
    have hkl : k + 1 < row.length := by rw [Hn.out]; omega
    obtain ⟨b0, off, rfl, hbl, x1⟩ := Hrow.out wr HO.out (k + 1) hkl
    obtain ⟨_, _, e9, _, x2⟩ := Hrow.out wr HO.out k (by omega)
    injection e9 with e9
    injection e9 with e9 e10
    subst e9
    subst e10
    have ha := Hbd.out k (by omega)
    have hb := Hbd.out (k + 1) hkl
    have hna := Hle.out k (by omega)
    have x3 := ydj HB.out _ ha
    have x5 := ydj HB.out _ hb
    have x4 := HB.out.frozen row[k + 1]
    have Hs := Lib.hid (Hnext.out k hkl)
    have HC := Lib.hid fun W hW => HS.out W hW k hkl
    generalize hra : row[k] = a at *
    generalize hrb : row[k + 1] = b at *
    rw [hkm] at x1
    have hgl := HB.out.lt
    have hai : (0 : Int) ≤ (a : Int) ∧ (a : Int) < (n : Int) ∧ (0 : Int) ≤ (b : Int) ∧ (b : Int) < (n : Int) := by omega
    have hnai : (0 : Int) ≤ (knum row sm k a : Int) ∧ (knum row sm k a : Int) ≤ 1000001 := by omega
    have HW1 : Hid (∀ q v, Below g w ((wr.setCell ⟨g, b, none⟩ v).drewN q)) := Lib.hid fun q v => yaj (HO.out.setCell (p := ⟨g, b, none⟩) (Nat.le_refl _) v) q
    generalize knum row sm k a = na at *
    generalize knum row sm k b = nb at *
    have hsub : (m : Int) - 1 = (k : Int) := by omega
    have hw1 : IntKind.i64.wrap ((m : Int) - 1) = (k : Int) := by rw [IntKind.wrap_i64]; omega
    have hw2 : IntKind.i64.wrap (k : Int) = (k : Int) := by rw [IntKind.wrap_i64]; omega
    clear hra hrb hna Hle
    cases hsm : sm a b with
    | true =>
     rw [hsm] at HC Hs
     have Hs2 := Lib.hid (Hs.out na (by simp))
     clear Hs hsm
     go_wp2
     refine wp_region_still_tail 14 (by kernel_rfl) (by kernel_rfl) ?_
     simp only [List.take_succ_cons, List.take_zero, List.drop_succ_cons, List.drop_zero]
     change wpStill _ _ (World.drew _) (fun a' => wpList _ _ _ _ a' (World.drew _)) _ _
     repeat still_step
     refine wpStill_nil ?_
     go_wp2
     go_quiet (exact ygP (HC.out _ (HW1.out _ _)))
     go_wp2
     go_roundw
     case rel => exact ⟨k + 1, m + 1, by omega, by omega, iv (by omega), Lib.hid (by rw [← Hs2.out, ← yaM]; exact (HB.out.set_ b _).drewN _), Lib.hid (HW1.out _ _)⟩
     case measure => simp only [intOf]; omega
    | false =>
     rw [hsm] at HC Hs
     have Hs2 := Lib.hid (Hs.out ((na : Int) + 1) (by simp))
     clear Hs hsm
     go_wp2
     refine wp_region_still_tail 14 (by kernel_rfl) (by kernel_rfl) ?_
     simp only [List.take_succ_cons, List.take_zero, List.drop_succ_cons, List.drop_zero]
     change wpStill _ _ (World.drew _) (fun a' => wpList _ _ _ _ a' (World.drew _)) _ _
     repeat still_step
     refine wpStill_nil ?_
     go_wp2
     go_quiet (exact ygP (HC.out _ (HW1.out _ _)))
     go_wp2
     go_roundw
     case rel => exact ⟨k + 1, m + 1, by omega, by omega, iv (by omega), Lib.hid (by rw [← Hs2.out, ← List.set_set (a := (na : Int)), ← yaM, ← yaM]; exact ((HB.out.set_ b _).drewN _).set_ b _), Lib.hid ((HW1.out _ _).setCell (p := ⟨g, b, none⟩) (Nat.le_refl _) _)⟩
     case measure => simp only [intOf]; omega
   ·obtain rfl : m = n := by omega
    have hii : ¬ (m : Int) < (m : Int) := by omega
    have HF : Hid (Blk wr g 3 (ints (kL (knum row sm (m - 1)) m)).toArray) := Lib.hid (by rw [show m - 1 = k from by omega]; exact HB.out)
    go_wp2
    go_ret
    exact ⟨g, rfl, Nat.le_refl _, HF.out, HO.out⟩
end Go.Proofs.YtoinjdmlembgeaaGreat
