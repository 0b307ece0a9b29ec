/-
  Layer 8, the program's: things in memory, their order, and their stable sort.
-/
import Derived.Test.YtehpnfijpddcfaaStabF
import Derived.Test.YtehpnfijpddcfaaCatT
import Derived.Test.YtehpnfijpddcfaaCatI
import Derived.Lib.OwnBridge
import Derived.Shelf.SlSorted.Search
namespace Go.Proofs.Ytehpnfijpddcfaa
set_option linter.unusedSimpArgs false
set_option linter.unusedVariables false
open Go.ChangeShapes Go.WideShapes Go.ChangeAt Go.RowKit Go.Joins Go.Deep Go.Shelf
open Go.Sort (SWO swp size_swp HoldsK)

/-- A thing, where its symbols lie, and its place. -/
structure PEl where
  th : LTh
  A : Option Addr
  c : Nat
  no : Nat
instance : Inhabited PEl := ⟨⟨⟨0, [], false⟩, none, 0, 0⟩⟩
def penc (x : PEl) : List Value := [.int .i64 x.th.w, .slice x.A x.th.syms.length x.c]
def pcf (x y : PEl) : Int := Lib.compareInt x.th.w y.th.w
def pcells (E : List PEl) : List Value := (E.map penc).flatten
theorem pcells_cons (x : PEl) (E : List PEl) : pcells (x :: E) = .int .i64 x.th.w :: .slice x.A x.th.syms.length x.c :: pcells E := rfl
theorem pcells_app (E E2 : List PEl) : pcells (E ++ E2) = pcells E ++ pcells E2 := by simp [pcells]
theorem pcells_len : ∀ E : List PEl, (pcells E).length = E.length * 2
  | [] => rfl
  | x :: E => by rw [pcells_cons, List.length_cons, List.length_cons, pcells_len E, List.length_cons]; omega
theorem pcells_one : ∀ (E : List PEl), ∀ u ∈ pcells E, u.oneCell' = true
  | [], u, h => by cases h
  | x :: E, u, h => by
    rw [pcells_cons] at h
    simp only [List.mem_cons] at h
    rcases h with rfl | rfl | h
    · rfl
    · rfl
    · exact pcells_one E u h
theorem pcells_get : ∀ (E : List PEl) (i : Nat) (h : i < E.length), (pcells E)[i * 2]? = some (.int .i64 E[i].th.w) ∧ (pcells E)[i * 2 + 1]? = some (.slice E[i].A E[i].th.syms.length E[i].c)
  | x :: E, 0, _ => ⟨rfl, rfl⟩
  | x :: E, i + 1, h => by
    obtain ⟨h1, h2⟩ := pcells_get E i (by simpa using h)
    rw [pcells_cons, show (i + 1) * 2 = i * 2 + 1 + 1 from by omega]
    exact ⟨by simpa using h1, by simpa using h2⟩
theorem pcells_flat (E : List PEl) : (Go.Sort.flatK penc 2 E.toArray).toList = pcells E := by
  apply List.ext_getElem?
  intro t
  by_cases ht : t < E.length * 2
  · have h1 : (Go.Sort.flatK penc 2 E.toArray).toList[t]? = some (Go.Sort.flatK penc 2 E.toArray)[t]! := by
      rw [Array.getElem?_toList, getElem!_pos _ t (by simpa using ht), Array.getElem?_eq_getElem (by simpa using ht)]
    rw [h1, Go.Sort.get_flatK _ _ _ _ (by simpa using ht)]
    have hd : t / 2 < E.length := by omega
    obtain ⟨g1, g2⟩ := pcells_get E (t / 2) hd
    rw [get_list hd]
    rcases Nat.mod_two_eq_zero_or_one t with e | e
    · have et : t = t / 2 * 2 := by omega
      rw [e]
      conv => rhs; rw [et]
      rw [g1]
      rfl
    · have et : t = t / 2 * 2 + 1 := by omega
      rw [e]
      conv => rhs; rw [et]
      rw [g2]
      rfl
  · rw [List.getElem?_eq_none (by simp; omega), List.getElem?_eq_none (by rw [pcells_len]; omega)]

theorem pcf_lt (x y : PEl) : ltOf pcf x y = decide (x.th.w < y.th.w) := by
  unfold ltOf pcf Lib.compareInt
  by_cases h : x.th.w < y.th.w
  · rw [if_pos h]; simp [h]
  · rw [if_neg h]
    split <;> simp [h]
theorem pcf_swo : SWO (ltOf pcf) where
  irrefl x := by rw [pcf_lt]; simp
  trans x y z h k := by rw [pcf_lt] at *; simp only [decide_eq_true_eq] at *; omega
  ntrans x y z h k := by rw [pcf_lt] at *; simp only [decide_eq_false_iff_not] at *; omega

theorem isnan_any (a : Int) (W : World) : Calls Try.prog 41 #[.int .i64 a] W fun e w' => e = .returned (.bool false) ∧ w' = W := by
  have h : (a == a) = true := by simp
  go_enter Try.func41, Try.ntmps41
  go_wp2
  go_ret
  exact ⟨by simp, rfl⟩
theorem compare_any (a b : Int) (W : World) : Calls Try.prog 37 #[.int .i64 a, .int .i64 b] W fun e w' => e = .returned (.int .i64 (Lib.compareInt a b)) ∧ w' = W := by
  obtain ⟨r, hr⟩ : ∃ r, Lib.compareInt a b = r := ⟨_, rfl⟩
  rw [hr]
  unfold Lib.compareInt at hr
  by_cases h : a < b
  · rw [if_pos h] at hr
    subst hr
    go_enter Try.func37, Try.ntmps37
    go_wp2_with (go_at_call 41; refine (isnan_any _ _).mono ?_; rintro e w1 ⟨rfl, rfl⟩)
    go_ret
    exact ⟨rfl, rfl⟩
  · rw [if_neg h] at hr
    by_cases h2 : b < a
    · rw [if_pos h2] at hr
      subst hr
      go_enter Try.func37, Try.ntmps37
      go_wp2_with (go_at_call 41; refine (isnan_any _ _).mono ?_; rintro e w1 ⟨rfl, rfl⟩)
      go_ret
      exact ⟨rfl, rfl⟩
    · rw [if_neg h2] at hr
      subst hr
      go_enter Try.func37, Try.ntmps37
      go_wp2_with (go_at_call 41; refine (isnan_any _ _).mono ?_; rintro e w1 ⟨rfl, rfl⟩)
      go_ret
      exact ⟨rfl, rfl⟩
theorem order_any (x y : PEl) (W : World) : Calls Try.prog 31 #[.agg (penc x).toArray, .agg (penc y).toArray] W fun e w' => e = .returned (.int .i64 (pcf x y)) ∧ ∃ q os', w' = Sort.grow (W.drewN q) os' := by
  have hcon := fun W' => compare_any x.th.w y.th.w W'
  unfold pcf penc
  generalize Lib.compareInt x.th.w y.th.w = r at hcon ⊢
  generalize Value.slice x.A x.th.syms.length x.c = vx
  generalize Value.slice y.A y.th.syms.length y.c = vy
  go_enter Try.func31, Try.ntmps31
  go_wp2_with (go_at_call 37; refine (hcon _).mono ?_; rintro e w' ⟨rfl, rfl⟩)
  go_ret
  exact ⟨rfl, 0, _, by rw [Sort.alloc_eq_grow, Sort.alloc_eq_grow, Sort.grow_grow]; rfl⟩
theorem stable_nil (fv : Value) (w : World) : Calls Try.prog 36 #[.slice none 0 0, .int .i64 0, fv] w fun e w' => e = .returned (.tuple #[]) ∧ w' = w := by
  have hins : ∀ W, Calls Try.prog 39 #[.slice none 0 0, .int .i64 0, .int .i64 0, fv] W fun e w' => e = .returned (.tuple #[]) ∧ w' = W := fun W => by
    go_enter Try.func39, Try.ntmps39
    go_wp2
    refine wp_loop_rounds 1 ?_
    rw [rounds_succ]
    go_wp2
    go_end0
    exact ⟨rfl, rfl⟩
  go_enter Try.func36, Try.ntmps36
  go_wp2
  refine wp_loop_rounds 1 ?_
  rw [rounds_succ]
  go_wp2_with (go_at_call 39; refine (hins _).mono ?_; rintro e w' ⟨rfl, rfl⟩)
  refine wp_loop_rounds 1 ?_
  rw [rounds_succ]
  go_wp2
  go_end0
  exact ⟨rfl, rfl⟩
theorem below_sorted {B blk off n : Nat} {w : World} {d : Array PEl} {os : Array Obj} (hB : B ≤ blk) (hw : B ≤ w.heap.size) : Below B w (sortWorldK penc 2 w blk off n d os) := by
  refine ⟨rfl, rfl, rfl, ?_, fun k hk => ?_⟩
  · unfold sortWorldK
    rw [Go.Sort.size_grow, Go.Sort.size_putRowK]
    exact Nat.le_add_right _ _
  · have e : (sortWorldK penc 2 w blk off n d os).heap[k]? = (Go.Sort.putRowK penc 2 (Sort.ahead w n) blk off d).heap[k]? := by
      unfold sortWorldK Sort.grow
      rw [Array.getElem?_append_left (by rw [Go.Sort.size_putRowK]; exact Nat.lt_of_lt_of_le hk hw)]
    rw [e]
    simp [Go.Sort.putRowK, Go.Sort.putRow, Go.Sort.mapBlock, Sort.ahead, Array.getElem?_modify, show blk ≠ k by omega]
/-- slices.SortStableFunc of a row of things by their weights. -/
theorem sort_any (v : Value) (n base : Nat) (E : List PEl) (w : World) (hO : w.ownsRow base 40 2 v n (pcells E)) (hb : base ≤ w.heap.size) (hE : E.length = n) (hn : E.Pairwise (fun x y => x.no < y.no)) (hsz : n ≤ 1000000) :
    Calls Try.prog 30 #[v, .func (.func 31) #[] #[]] w fun e w' =>
      e = .returned (.tuple #[]) ∧ ∃ (Z : List PEl) (A : Option Addr) (c : Nat), v = .slice A n c ∧ n ≤ c ∧ Z.Perm E ∧ Z.Pairwise (sord (ltOf pcf) (·.no)) ∧ Reads w' w'.heap.size 2 A n (pcells Z) ∧ Below base w w' := by
  have ho := hO
  rcases hO.2 with ⟨rfl, rfl⟩ | ⟨g, cap, cur, rfl, hbg, hg, hnc, hcm, hcs, htake⟩
  · have e : E = [] := List.length_eq_zero_iff.1 hE
    subst e
    go_enter Try.func30, Try.ntmps30
    go_wp2_with (go_at_call 36; refine (stable_nil _ _).mono ?_; rintro e w' ⟨rfl, rfl⟩)
    go_end0
    exact ⟨rfl, [], none, 0, rfl, Nat.le_refl _, List.Perm.refl _, List.Pairwise.nil, Reads.none_, Below.refl _ _⟩
  · have hlt : g < w.heap.size := Blk.lt (cs := cur) hg
    have hH : HoldsK penc 2 w g 0 E.toArray := by
      intro j hj
      have hj2 : j < n * 2 := by simpa [hE] using hj
      refine ⟨?_, by rw [Nat.zero_add]; exact ho.frozenAt j⟩
      rw [Nat.zero_add, ho.cellAt j hj2]
      have hj3 : j < (Go.Sort.flatK penc 2 E.toArray).size := hj
      rw [← pcells_flat, Array.getElem?_toList, Array.getElem?_eq_getElem hj3, getElem!_pos _ j hj3]
      rfl
    have R : RowK penc 2 w g 0 E.toArray := ⟨fun _ => rfl, fun x u hu => by simp [penc] at hu; rcases hu with rfl | rfl <;> rfl, hH, hlt⟩
    have eg : ∀ args w, (callFunc 31 args).run Try.prog w = .ok (.enter 31 args) w := enters_of Try.func31 (by kernel_rfl) rfl
    have hst := stable_any (no := fun x : PEl => x.no) stAll pcf_swo 31 #[] E n cap w eg (fun m os dk _ x y => order_any x y _) hE hn (by omega) R (by simpa using hE) (SWK.start hH)
    have Hfin : Hid (∀ w' (Z : List PEl), Z.Perm E → Z.Pairwise (sord (ltOf pcf) (·.no)) → SWK penc 2 w g 0 Z.toArray w' → Reads w' w'.heap.size 2 (some ⟨g, 0, none⟩) n (pcells Z) ∧ Below base w w') := Lib.hid fun w' Z hp ho hS => by
      have hZ : Z.length = n := by rw [hp.length_eq]; exact hE
      have hh := hS.holds hlt hH (by simp [hZ, hE])
      refine ⟨⟨by rw [pcells_len, hZ], fun _ => ⟨g, 0, rfl, hS.lt hlt, fun j u hu => ?_⟩⟩, ?_⟩
      · have hj : j < (Go.Sort.flatK penc 2 Z.toArray).size := by
          rw [← pcells_flat, Array.getElem?_toList] at hu
          exact (Array.getElem?_eq_some_iff.1 hu).1
        rw [(hh j hj).1, ← hu, ← pcells_flat, Array.getElem?_toList, Array.getElem?_eq_getElem hj, getElem!_pos _ j hj]
        rfl
      · obtain ⟨q, os, rfl⟩ := hS
        exact below_sorted hbg hb
    clear ho hO hH R eg htake hcs hg hn
    go_enter Try.func30, Try.ntmps30
    go_wp2_with (go_at_call 36; refine hst.mono ?_; rintro e w' ⟨rfl, Z, hp, ho, hS⟩; have HS := Lib.hid hS; clear hS)
    go_end0
    obtain ⟨f1, f2⟩ := Hfin.out _ Z hp ho HS.out
    exact ⟨rfl, Z, _, cap, rfl, hnc, hp, ho, f1, f2⟩
end Go.Proofs.Ytehpnfijpddcfaa
