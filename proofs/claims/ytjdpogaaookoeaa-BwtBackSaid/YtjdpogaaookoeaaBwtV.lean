/-
  Layer 13: how often each byte comes, as the statement BwtBack counts it; '!=' on arrays that are the same.
-/
import Derived.Test.YtjdpogaaookoeaaBwtV0
import Derived.Laws.StructEq
namespace Go.Proofs.Ytjdpogaaookoeaa
set_option linter.unusedSimpArgs false
set_option linter.unusedVariables false
open Go.ChangeShapes Go.WideShapes Go.ChangeAt Go.RowKit Go.Joins Go.Deep

section
variable {P : Program}
theorem run_equalIn_ints (w : World) (d : Nat) (t e : TypeId) (n : Nat) (ht : P.underlying t = some (.array n e)) (he : P.underlying e = some (.int .i64)) (hsz : ∀ w, (sizeOf e).run P w = .ok 1 w)
    (C : List Value) (hC : ∀ i, i < n → ∃ x, C[i]? = some (.int .i64 x)) : (Op.equalIn (d + 2) t (.agg C.toArray) (.agg C.toArray)).run P w = .ok true w := by
  rw [Op.equalIn]
  simp only [Sem.run_bind, run_underlying ht, Result.andThen_ok, hsz, Std.Legacy.Range.forIn_eq_forIn_range', Std.Legacy.Range.size, Nat.sub_zero, Nat.add_sub_cancel, Nat.div_one]
  have hl : ∀ i ∈ List.range' 0 n 1, i < n := fun i hi => by simpa using (List.mem_range'_1.1 hi).2
  generalize List.range' 0 n 1 = l at hl ⊢
  induction l with
  | nil => simp
  | cons i l ih =>
    obtain ⟨x, hx⟩ := hC i (hl i (by simp))
    have px : (part e C.toArray (i * 1)).run P w = .ok (.int .i64 x) w := by
      simp [part, isAgg, run_underlying he, hx]
    have pe : (Op.equalIn (d + 1) e (.int .i64 x) (.int .i64 x)).run P w = .ok true w := by
      rw [run_equalIn_int w d e .i64 .i64 _ _ he]
      simp
    simp only [List.forIn_cons, Sem.run_bind, px, pe, Result.andThen_ok, Bool.not_true, Bool.false_eq_true, if_false, Sem.run_pure]
    exact ih fun j hj => hl j (by simp [hj])
end
theorem bcv_perm {a b : List UInt8} (h : a.Perm b) : bcv a a.length = bcv b b.length := by
  unfold bcv
  rw [List.take_length, List.take_length]
  congr 1
  funext x
  rw [h.countP_eq]
set_option maxRecDepth 100000 in
set_option maxHeartbeats 1000000 in
theorem counts13_any (l : List UInt8) (w : World) (hs : l.length ≤ 1000000) : Calls Try.prog 16 #[.string ⟨l.toArray⟩] w fun e w' => e = .returned (.agg (ints (bcv l l.length)).toArray) ∧ Below w.heap.size w w' := by
  have hz := zero_ints256.1
  rw [← bcv_zero l] at hz
  have Hset : Hid (∀ k (hk : k < l.length), ∃ (x : Nat) (b : UInt8) (c : Nat), l[k] = b ∧ b.toNat = x ∧ x < 256 ∧ c ≤ 1000000 ∧ (ints (bcv l k))[x]? = some (.int .i64 (c : Int)) ∧ (ints (bcv l k)).set x (.int .i64 ((c : Int) + 1)) = ints (bcv l (k + 1))) := Lib.hid fun k hk => by
    have hlt := l[k].toNat_lt
    have hbl : l[k].toNat < (bcv l k).length := by rw [bcv_len]; exact hlt
    refine ⟨l[k].toNat, l[k], _, rfl, rfl, hlt, Nat.le_trans (bcv_le l k l[k].toNat) hs, ?_, ?_⟩
    · rw [ints_get _ _ hbl, bcv_get]
    · rw [← bcv_set l k hk]
      simp [ints, List.map_set]
  have Hlen : Hid (∀ k, (ints (bcv l k)).length = 256) := Lib.hid fun k => by rw [ints_length, bcv_len]
  have Hone : Hid (∀ k, (ints (bcv l k)).toArray.all (·.oneCell') = true) := Lib.hid fun k => ints_one13 _
  have Hinfo := Lib.hid zero_ints256.2
  generalize hf : (fun k => ints (bcv l k)) = f at *
  have hf' : ∀ k, ints (bcv l k) = f k := fun k => by rw [← hf]
  simp only [hf'] at *
  clear hf' hf
  generalize hZ : f 0 = Z at *
  have HZ := Lib.hid hZ
  clear hZ
  generalize hD : f l.length = D at *
  have HD := Lib.hid hD
  clear hD
  have hli : (l.length : Int) ≤ 1000000 := by omega
  go_enter Try.func16, Try.ntmps16
  go_wp2
  go_loopw [4] (fun i wr => ∃ k : Nat, k ≤ l.length ∧ i = .int .i64 k ∧ Hid (wr = (w.alloc (.cells Z.toArray 40)).alloc (.cells (f k).toArray 40))) (fun i _ => l.length - (intOf i).toNat)
  case atStart => exact ⟨0, by omega, rfl, Lib.hid (by rw [HZ.out])⟩
  case round =>
    obtain ⟨k, hk, rfl, Hw⟩ := hrel
    obtain rfl := Hw.out
    by_cases hlt : k < l.length
    · have hki : (0 : Int) ≤ (k : Int) ∧ (k : Int) < (l.length : Int) := by omega
      obtain ⟨x, b, c, e1, e2, hx, hc, hv, hs2⟩ := Hset.out k hlt
      have b1 : ∀ h, ((⟨l.toArray⟩ : ByteArray)[k]'h) = b := fun _ => e1
      have b2 : (b.toNat : Int) = (x : Int) := by omega
      have Hs := Lib.hid hs2
      have hci : (0 : Int) ≤ (c : Int) ∧ (c : Int) ≤ 1000000 ∧ (0 : Int) ≤ (x : Int) ∧ (x : Int) < 256 := by omega
      clear e1 e2 hs2 hlt Hw hx hc
      go_wp2
      go_roundw
      case rel => exact ⟨k + 1, by omega, iv (by omega), Lib.hid (by rw [← Hs.out])⟩
      case measure => simp only [intOf]; omega
    · obtain rfl : k = l.length := by omega
      have hl0 := Hlen.out 0
      have h1 := Hlen.out l.length
      have ho := Hone.out l.length
      rw [HZ.out] at hl0
      rw [HD.out] at h1 ho ⊢
      have hi : (Try.prog.info? 40).map (·.size) = some D.length := by rw [h1]; exact Hinfo.out
      clear Hw hlt
      have Hhi := Lib.hid hi
      have Hl0 := Lib.hid hl0
      have Hl1 := Lib.hid h1
      have Hho := Lib.hid ho
      clear hi hl0 h1 ho
      have hsz : Z.toArray.size = D.toArray.size := by simp [Hl0.out, Hl1.out]
      have Hsz := Lib.hid hsz
      have hi2 : Hid ((Try.prog.info? 40).map (·.size) = some D.toArray.size) := Lib.hid (by rw [Hhi.out]; simp)
      have hli2 : ¬ ((l.length : Nat) : Int) < (l.length : Int) := by omega
      clear hsz
      go_wp2_with (first
        | (refine wpList_load_mid rfl 40 _ rfl _ 0 rfl D _ (range_two13 _ _ _ _) Try.underlying40 rfl Hhi.out ?_)
        | (refine wpList_store_row13 rfl 40 _ _ rfl _ _ Z.toArray D.toArray rfl rfl (heap_alloc2_old _ _ _) hi2.out Hsz.out Hho.out ?_))
      refine bodyPost_ret (v := .agg D.toArray) (results_cell_row rfl _ _ _ 40 _ _ _ rfl (setRow_heap _ _ _ _ _ _ (heap_alloc2_old _ _ _)) Try.underlying40 rfl hi2.out) rfl ⟨rfl, below_setRow (by go_grown) (Nat.le_refl _) _⟩
end Go.Proofs.Ytjdpogaaookoeaa
