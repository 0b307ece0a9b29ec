/-
  Layer 19, the program's: garbled, strings.CutPrefix, left.
-/
import Derived.Test.YtgoahcmgpjacjaaGreatFilR
import Derived.Test.YtgoahcmgpjacjaaGreatGa
import Derived.Lib.BufferWrite
import Derived.Lib.LazyBuf
import Derived.Deep.RegionLaw
namespace Go.Proofs.YtgoahcmgpjacjaaGreat
set_option linter.unusedSimpArgs false
set_option linter.unusedVariables false
open Go.ChangeShapes Go.WideShapes Go.ChangeAt Go.RowKit Go.Joins Go.Deep
def flover : List UInt8 → Nat → List UInt8 → List UInt8
  | l, _, [] => l
  | l, o, b :: m => flover (l.set o b) (o + 1) m
theorem flover_is : ∀ (m l : List UInt8) (o : Nat), o + m.length = l.length → flover l o m = l.take o ++ m
  | [], l, o, h => by
    show l = _
    rw [List.append_nil, List.take_of_length_le (by simp at h; omega)]
  | b :: m, l, o, h => by
    show flover (l.set o b) (o + 1) m = _
    rw [List.length_cons] at h
    rw [flover_is m (l.set o b) (o + 1) (by rw [List.length_set]; omega)]
    have e : (l.set o b).take (o + 1) = l.take o ++ [b] := by
      rw [List.take_add_one, List.take_set_of_le (Nat.le_refl _), List.getElem?_set_self (by omega)]
      rfl
    rw [e, List.append_assoc]
    rfl
theorem BRow.over {w : World} {g : Nat} : ∀ (m l : List UInt8) (o : Nat) (w : World), o + m.length ≤ l.length → BRow w g l → BRow (w.setCells g o (m.map fun x => Value.int .u8 (x.toNat : Int))) g (flover l o m)
  | [], _, _, _, _, h => h
  | b :: m, l, o, w, ho, h => by
    rw [List.length_cons] at ho
    exact BRow.over (w := w) m (l.set o b) (o + 1) _ (by rw [List.length_set]; omega) (h.set o b (by omega))
theorem step_copy_str {P : Program} {ops : Array Oper} {o : Oper} {a : Act} {w : World} {K : Act → World → Prop} {Q : Exit → Act → World → Prop} {E : Prop}
    (hg : o.guard = none) (d x : Operand) (dT sT : TypeId) (hop : o.op = Op.call { callee := Callee.builtin Builtin.copy, args := #[d, x], argTypes := #[dT, sT] })
    (elem : TypeId) (hu : P.underlying dT = some (.slice elem)) (hs : (P.info? elem).map (·.size) = some 1)
    (b off dLen dCap : Nat) (dp : Option Addr) (hd : a.eval d = .slice dp dLen dCap) (t : ByteArray) (hx : a.eval x = .string t) (hle : t.size ≤ dLen) (hp : 0 < t.size → dp = some ⟨b, off, none⟩)
    (hc : ∀ j, j < t.size → (w.cell? ⟨b, off + j, none⟩).isSome = true) (hf : ∀ j, j < t.size → w.frozen? ⟨b, off + j, none⟩ = false)
    (hK : K (a.put o.dst (goInt t.size)) (w.setCells b off (t.data.toList.map fun x => Value.int .u8 (x.toNat : Int)))) :
    if Region.wanted o (yielded ops a.tmps) = true then Oper.wp P o a w K Q else E := by
  by_cases h0 : t.size = 0
  · have hw : Region.wanted o (yielded ops a.tmps) = true := by simp [Region.wanted, hg]
    rw [if_pos hw]
    have hrun := Lib.run_copy_empty_string (P := P) w dT sT o.type elem dp dLen dCap t hu (by cases hq : P.info? elem with
      | none => simp [hq] at hs
      | some i => rfl) h0
    have he : t.data.toList = [] := List.eq_nil_of_length_eq_zero (by rw [Array.length_toList]; exact h0)
    rw [h0, he] at hK
    unfold Oper.wp
    simp [execOp, hop, resolve, invoke, builtin, hd, hx, hrun, Result.andThen]
    exact hK
  · obtain rfl := hp (by omega)
    exact step_copy_string hg d x dT sT hop elem hu (fun w => by
      cases hq : P.info? elem with
      | none => simp [hq] at hs
      | some i =>
        have hi : i.size = 1 := by simpa [hq] using hs
        simp [sizeOf, typeInfo, hq, hi]) b off dLen dCap hd t hx hle hc hf hK
def flgn (s mark : List UInt8) : Nat := min (min mark.length 64) s.length
def flgF (s mark : List UInt8) : List UInt8 := s.take (s.length - flgn s mark) ++ mark.drop (mark.length - flgn s mark)
set_option maxRecDepth 100000 in
set_option maxHeartbeats 2000000 in
theorem p_flgarb_any (s mark : List UInt8) (w : World) (hs : s.length ≤ 1000000000) (hm : mark.length ≤ 1000000000) :
    Calls Tryz.prog 85 #[.string ⟨s.toArray⟩, .string ⟨mark.toArray⟩] w fun e w' => e = .returned (.string ⟨(flgF s mark).toArray⟩) ∧ Below w.heap.size w w' := by
  obtain ⟨n, hn⟩ : ∃ n, flgn s mark = n := ⟨_, rfl⟩
  have hg : flgF s mark = s.take (s.length - n) ++ mark.drop (mark.length - n) := by unfold flgF; rw [hn]
  rw [hg]
  have hn1 : n ≤ s.length ∧ n ≤ mark.length ∧ n ≤ 64 := by rw [← hn]; unfold flgn; omega
  have hn2 : (if (s.length : Int) < (if (64 : Int) < (mark.length : Int) then (64 : Int) else (mark.length : Int)) then (s.length : Int) else if (64 : Int) < (mark.length : Int) then (64 : Int) else (mark.length : Int)) = (n : Int) := by
    rw [← hn]
    unfold flgn
    by_cases h1 : (64 : Int) < (mark.length : Int)
    · rw [if_pos h1]
      by_cases h2 : (s.length : Int) < 64
      · rw [if_pos h2]; omega
      · rw [if_neg h2]; omega
    · rw [if_neg h1]
      by_cases h2 : (s.length : Int) < (mark.length : Int)
      · rw [if_pos h2]; omega
      · rw [if_neg h2]; omega
  obtain ⟨cap, W1, hconv, hrow, hb1, hcap⟩ := run_bytes_row (P := Tryz.prog) w 9 50 5 s Tryz.underlying9 Tryz.underlying50 Tryz.underlying5
  have htail := fun W => fl_tail mark (mark.length - n) (by omega) W
  have hov := flover_is (mark.drop (mark.length - n)) s (s.length - n) (by rw [List.length_drop]; omega)
  have hover := BRow.over (w := W1.drew) (mark.drop (mark.length - n)) s (s.length - n) W1.drew (by rw [List.length_drop]; omega) hrow.drew
  rw [hov] at hover
  have hl2 : (s.take (s.length - n) ++ mark.drop (mark.length - n)).length = s.length := by rw [List.length_append, List.length_take, List.length_drop]; omega
  have hbo := below_setCells (b := w.heap.size) (Nat.le_refl _) ((mark.drop (mark.length - n)).map fun x => Value.int .u8 (x.toNat : Int)) (s.length - n) W1.drew hb1.drew
  have hstr := hover.str (P := Tryz.prog) (src := 50) (dst := 9) Tryz.underlying50 Tryz.underlying5 Tryz.underlying9 s.length cap hl2
  obtain ⟨i0, hi, _, hz1, _⟩ := info_parts mbyte_info
  have hcut := fun W => run_slice_from (P := Tryz.prog) (t := 50) Tryz.underlying50 hi hz1 (some ⟨w.heap.size, 0, none⟩) s.length cap (s.length - n) (by omega) W
  obtain ⟨dp, hdp⟩ : ∃ dp, (if cap = s.length - n then (some ⟨w.heap.size, 0, none⟩ : Option Addr) else (some ⟨w.heap.size, 0, none⟩ : Option Addr).map (·.add ((s.length - n) * 1))) = dp := ⟨_, rfl⟩
  rw [hdp] at hcut
  have hpos : 0 < n → dp = some ⟨w.heap.size, s.length - n, none⟩ := fun h => by
    rw [← hdp, if_neg (by omega), Option.map_some, add_mk, Nat.zero_add, Nat.mul_one]
  have hsl : s.length - (s.length - n) = n := by omega
  rw [hsl] at hcut
  have hcell : ∀ j, j < n → (W1.drew.cell? ⟨w.heap.size, s.length - n + j, none⟩).isSome = true := fun j hj => by
    rw [hrow.drew.cell _ s[s.length - n + j] (List.getElem?_eq_getElem (by omega))]
    rfl
  have hfree : ∀ j, j < n → W1.drew.frozen? ⟨w.heap.size, s.length - n + j, none⟩ = false := fun j hj => hrow.drew.free _ (by omega)
  have hsize : (ByteArray.mk (mark.drop (mark.length - n)).toArray).size = n := by rw [ByteArray.size_mk', List.size_toArray, List.length_drop]; omega
  have hdata : (ByteArray.mk (mark.drop (mark.length - n)).toArray).data.toList = mark.drop (mark.length - n) := rfl
  have hsub1 : IntKind.i64.wrap ((s.length : Int) - (n : Int)) = ((s.length - n : Nat) : Int) := by rw [IntKind.wrap_i64]; omega
  have hsub2 : IntKind.i64.wrap ((mark.length : Int) - (n : Int)) = ((mark.length - n : Nat) : Int) := by rw [IntKind.wrap_i64]; omega
  generalize s.take (s.length - n) ++ mark.drop (mark.length - n) = R at *
  go_enter Tryz.func85, Tryz.ntmps85
  have HX := Lib.hid (And.intro hpos (And.intro hcell (And.intro hfree (And.intro hsize (And.intro hbo hstr)))))
  generalize hM : mark.drop (mark.length - n) = M at *
  generalize hq1 : s.length - n = q1 at *
  generalize hq2 : mark.length - n = q2 at *
  clear hn hov hover hM hdp hpos hcell hfree hsize hbo hstr hrow hl2 hsl hcap hdata hq1 hq2
  go_wp2
  go_region_law (refine step_copy_str rfl (.tmp 19) (.tmp 25) 50 9 rfl 5 Tryz.underlying50 (by rw [hi, Option.map_some, hz1]) w.heap.size q1 n (cap - q1) dp (by simp [Act.eval, Act.put]) ⟨M.toArray⟩ (by simp [Act.eval, Act.put]) (by rw [HX.out.2.2.2.1]; exact Nat.le_refl _) (by rw [HX.out.2.2.2.1]; exact HX.out.1) (by rw [HX.out.2.2.2.1]; exact HX.out.2.1) (by rw [HX.out.2.2.2.1]; exact HX.out.2.2.1) ?_)
  all_goals (have hstr := HX.out.2.2.2.2.2; have hbo := Lib.hid HX.out.2.2.2.2.1; clear HX; generalize W1.drew.setCells w.heap.size q1 _ = W2 at *; go_wp2; go_ret; exact ⟨rfl, hbo.out⟩)
set_option maxRecDepth 100000 in
set_option maxHeartbeats 2000000 in
theorem p_flhas_any (a b : List UInt8) (w : World) :
    Calls Tryz.prog 101 #[.string ⟨b.toArray⟩, .string ⟨a.toArray⟩] w fun e w' => e = .returned (.bool (flpre (a, b))) ∧ Below w.heap.size w w' := by
  by_cases h1 : b.length < a.length
  · rw [show flpre (a, b) = false from decide_eq_false (fun h => by dsimp only at h; omega)]
    have h1i : ¬ ((a.length : Int) ≤ (b.length : Int)) := by omega
    have h1d : decide ((a.length : Int) ≤ (b.length : Int)) = false := decide_eq_false h1i
    have h1n : decide (a.length ≤ b.length) = false := decide_eq_false (by omega)
    have h1g : decide ((b.length : Int) < (a.length : Int)) = true := decide_eq_true (by omega)
    go_enter Tryz.func101, Tryz.ntmps101
    go_wp2
    go_ret
    exact ⟨rfl, by go_grown⟩
  · obtain ⟨q, hq⟩ : ∃ q, flpre (a, b) = q := ⟨_, rfl⟩
    have hq2 : (b.take a.length == a) = q := by
      rw [← hq]
      unfold flpre
      by_cases h : b.take a.length = a
      · rw [decide_eq_true ⟨by dsimp only; omega, h⟩, h]
        exact beq_self_eq_true a
      · rw [decide_eq_false (fun hh => h hh.2), beq_eq_false_iff_ne]
        exact h
    have hsl := fun W => fl_head b a.length (by omega) W
    have h1i : ((a.length : Int) ≤ (b.length : Int)) := by omega
    have h1d : decide ((a.length : Int) ≤ (b.length : Int)) = true := decide_eq_true h1i
    have h1n : decide (a.length ≤ b.length) = true := decide_eq_true (by omega)
    have h1g : decide ((b.length : Int) < (a.length : Int)) = false := decide_eq_false (by omega)
    rw [hq]
    clear hq h1
    generalize b.take a.length = T at *
    go_enter Tryz.func101, Tryz.ntmps101
    go_wp2
    go_ret
    refine ⟨?_, by go_grown⟩
    subst hq2
    first | rfl | simp
set_option maxRecDepth 100000 in
set_option maxHeartbeats 2000000 in
theorem p_flcp_lite (a b : List UInt8) (w : World) :
    Calls Tryz.prog 89 #[.string ⟨b.toArray⟩, .string ⟨a.toArray⟩] w fun e w' => e = .returned (.tuple #[.string ⟨(if flpre (a, b) = true then b.drop a.length else b).toArray⟩, .bool (flpre (a, b))]) ∧ Below w.heap.size w w' := by
  have P := Lib.hid (fun W => p_flhas_any a b W)
  cases h : flpre (a, b) with
  | false =>
    rw [h] at P
    rw [if_neg (by decide)]
    go_enter Tryz.func89, Tryz.ntmps89
    go_wp2_with (go_at_call 101; (with_reducible refine (P.out _).mono ?_); rintro e w1 ⟨rfl, hb1⟩; have HB := Lib.hid hb1; clear hb1)
    refine bodyPost_ret (v := .tuple #[.string ⟨b.toArray⟩, .bool false]) (by simp [results, Tryz.results89, go_sem]) rfl ⟨rfl, HB.out⟩
  | true =>
    have hn := of_decide_eq_true h
    dsimp only at hn
    rw [h] at P
    rw [if_pos rfl]
    have htl := fun W => fl_tail b a.length hn.1 W
    clear h hn
    generalize b.drop a.length = T at *
    go_enter Tryz.func89, Tryz.ntmps89
    go_wp2_with (go_at_call 101; (with_reducible refine (P.out _).mono ?_); rintro e w1 ⟨rfl, hb1⟩; have HB := Lib.hid hb1; clear hb1)
    refine bodyPost_ret (v := .tuple #[.string ⟨T.toArray⟩, .bool true]) (by simp [results, Tryz.results89, go_sem]) rfl ⟨rfl, HB.out⟩
set_option maxRecDepth 100000 in
set_option maxHeartbeats 2000000 in
theorem p_flcp_any (a b : List UInt8) (w : World) :
    Calls Tryz.prog 84 #[.string ⟨b.toArray⟩, .string ⟨a.toArray⟩] w fun e w' => e = .returned (.tuple #[.string ⟨(if flpre (a, b) = true then b.drop a.length else b).toArray⟩, .bool (flpre (a, b))]) ∧ Below w.heap.size w w' := by
  have P := Lib.hid (fun W => p_flcp_lite a b W)
  generalize (if flpre (a, b) = true then b.drop a.length else b) = T at *
  generalize flpre (a, b) = q at *
  go_enter Tryz.func84, Tryz.ntmps84
  go_wp2_with (go_at_call 89; (with_reducible refine (P.out _).mono ?_); rintro e w1 ⟨rfl, hb1⟩; have HB := Lib.hid hb1; clear hb1)
  refine bodyPost_ret (v := .tuple #[.string ⟨T.toArray⟩, .bool q]) (by simp [results, Tryz.results84, go_sem]) rfl ⟨rfl, HB.out⟩
end Go.Proofs.YtgoahcmgpjacjaaGreat
