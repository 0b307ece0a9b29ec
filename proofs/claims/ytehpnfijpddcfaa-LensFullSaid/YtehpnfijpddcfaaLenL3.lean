/-
  No lengths of the same limit, in which each symbol that comes has one, and that leave room for all of them, cost less than the best ones; the layer's probe holds (LensBest). No condition.
-/
import Derived.Test.YtehpnfijpddcfaaLenPl
namespace Go.Proofs.Ytehpnfijpddcfaa
set_option linter.unusedSimpArgs false
set_option linter.unusedVariables false
open Go.ChangeShapes Go.WideShapes Go.ChangeAt Go.RowKit Go.Joins Go.Deep
set_option maxHeartbeats 2000000 in
/-- Beyond the sizes that the statement looks at: the probe alone. -/
theorem lensBest_far0 (A : Option Addr) (n c : Nat) (m : Int) (A2 : Option Addr) (n2 c2 : Nat) (w : World) (h : 300 < n) :
    Calls Try.prog 5 #[.slice A n c, .int .i64 m, .slice A2 n2 c2] w fun e w' => e = .returned (.bool true) ∧ Below w.heap.size w w' := by
  have h1 : (300 : Int) < n := by omega
  go_enter Try.func5, Try.ntmps5
  go_wp2_with (go_at_call 7; refine (awake8_any _).mono ?_; rintro e w9 ⟨rfl, hb9⟩)
  go_ret
  exact ⟨rfl, hb9⟩
set_option maxHeartbeats 2000000 in
/-- Beyond the sizes that the statement looks at: the probe alone. -/
theorem lensBest_far1 (A : Option Addr) (n c : Nat) (m : Int) (A2 : Option Addr) (n2 c2 : Nat) (w : World) (h : n ≤ 300) (k : n2 < n) :
    Calls Try.prog 5 #[.slice A n c, .int .i64 m, .slice A2 n2 c2] w fun e w' => e = .returned (.bool true) ∧ Below w.heap.size w w' := by
  have h1 : ¬ (300 : Int) < n := by omega
  have h2 : (n2 : Int) < (n : Int) := by omega
  go_enter Try.func5, Try.ntmps5
  go_wp2_with (go_at_call 7; refine (awake8_any _).mono ?_; rintro e w9 ⟨rfl, hb9⟩)
  go_ret
  exact ⟨rfl, hb9⟩
set_option maxHeartbeats 2000000 in
/-- Beyond the sizes that the statement looks at: the probe alone. -/
theorem lensBest_far2 (A : Option Addr) (n c : Nat) (m : Int) (A2 : Option Addr) (n2 c2 : Nat) (w : World) (h : n ≤ 300) (k : n ≤ n2) (k2 : 300 < n2) :
    Calls Try.prog 5 #[.slice A n c, .int .i64 m, .slice A2 n2 c2] w fun e w' => e = .returned (.bool true) ∧ Below w.heap.size w w' := by
  have h1 : ¬ (300 : Int) < n := by omega
  have h2 : ¬ (n2 : Int) < (n : Int) := by omega
  have h3 : (300 : Int) < n2 := by omega
  go_enter Try.func5, Try.ntmps5
  go_wp2_with (go_at_call 7; refine (awake8_any _).mono ?_; rintro e w9 ⟨rfl, hb9⟩)
  go_ret
  exact ⟨rfl, hb9⟩

theorem pbest_bad (l : List Int) (m : Int) (h : (lbestF l m).2 ≠ 0) (A : Option Addr) (n c : Nat) (w : World) (hm : n ≤ 100000) (hr : Reads w w.heap.size 1 A n (ints l)) :
    Calls Try.prog 8 #[.slice A n c, .int .i64 m] w fun e w' => ∃ A' c', e = .returned (.tuple #[.slice A' 0 c', .int .i64 (lbestF l m).2]) ∧ Below w.heap.size w w' := by
  refine (p_best_any l m A n c w hm hr).mono ?_
  rintro e w' ⟨A', c', rfl, _, _, hb⟩
  exact ⟨A', c', by rw [lbestF_bad l m h]; rfl, hb⟩
theorem pbest_good {N : Nat} (l : List Int) (m : Int) (b : List Int) (h : lbestF l m = (b, 0)) (hl : b.length = N) (A : Option Addr) (n c : Nat) (w : World) (hm : n ≤ 100000) (hr : Reads w w.heap.size 1 A n (ints l)) :
    Calls Try.prog 8 #[.slice A n c, .int .i64 m] w fun e w' => ∃ A' c', e = .returned (.tuple #[.slice A' N c', .int .i64 0]) ∧ Reads w' w'.heap.size 1 A' N (ints b) ∧ Below w.heap.size w w' := by
  subst hl
  have := p_best_any l m A n c w hm hr
  rw [h] at this
  refine this.mono ?_
  rintro e w' ⟨A', c', rfl, _, hr, hb⟩
  exact ⟨A', c', rfl, hr, hb⟩
set_option maxRecDepth 100000 in
set_option maxHeartbeats 4000000 in
theorem lensBest_none (A : Option Addr) (n c : Nat) (m : Int) (A2 : Option Addr) (n2 c2 : Nat) (l : List Int) (w : World) (hr : Reads w w.heap.size 1 A n (ints l)) (h : n ≤ 300) (k : n ≤ n2) (k2 : n2 ≤ 300) (hb : (lbestF l m).2 ≠ 0) :
    Calls Try.prog 5 #[.slice A n c, .int .i64 m, .slice A2 n2 c2] w fun e w' => e = .returned (.bool true) ∧ Below w.heap.size w w' := by
  have h1 : ¬ (300 : Int) < n := by omega
  have h2 : ¬ (n2 : Int) < (n : Int) := by omega
  have h3 : ¬ (300 : Int) < n2 := by omega
  have Hp := Lib.hid (pbest_bad l m hb A n c w (by omega) hr)
  clear hr
  generalize (lbestF l m).2 = E at *
  have hE : (E == 0) = false := by simpa using hb
  have hE2 : (E != 0) = true := by simpa using hb
  go_enter Try.func5, Try.ntmps5
  go_wp2_with (first
    | (go_at_call 8; refine Hp.out.mono ?_; rintro e w1 ⟨A1, c1, rfl, hb1⟩; have Hb := Lib.hid hb1; clear hb1)
    | (go_at_call 7; refine (awake8_any _).mono ?_; rintro e w9 ⟨rfl, hb9⟩; replace Hb := Lib.hid (Hb.out.trans (hb9.mono Hb.out.size)); clear hb9))
  go_ret
  exact ⟨rfl, Hb.out⟩
/-- The lengths that are held against the best ones. -/
def ownL : List Int → List Int → List Int
  | c :: t, x :: u => (if c = 0 then 0 else x) :: ownL t u
  | _, _ => []
theorem ownL_len : ∀ (l k : List Int), l.length ≤ k.length → (ownL l k).length = l.length
  | [], k, _ => by cases k <;> rfl
  | c :: t, [], h => by simp at h
  | c :: t, x :: u, h => by
    show (ownL t u).length + 1 = t.length + 1
    rw [ownL_len t u (by simpa using h)]
theorem ownL_get : ∀ (l k : List Int) (j : Nat) (h : j < (ownL l k).length) (h1 : j < l.length) (h2 : j < k.length), (ownL l k)[j] = if l[j] = 0 then 0 else k[j]
  | c :: t, x :: u, 0, _, _, _ => rfl
  | c :: t, x :: u, j + 1, h, h1, h2 => by
    have := ownL_get t u j (by simpa [ownL] using h) (by simpa using h1) (by simpa using h2)
    simpa [ownL] using this
theorem oint_info : (Try.prog.info? 3).map (fun i => (i.zero, i.size, i.bytes)) = some (some (.int .i64 0), 1, 8) := by kernel_rfl
theorem oints_take (l : List Int) (k : Nat) (h : k < l.length) : ints (l.take k) ++ [Value.int .i64 l[k]] = ints (l.take (k + 1)) := by
  unfold ints
  rw [List.take_succ_eq_append_getElem h, List.map_append]
  rfl
set_option maxRecDepth 100000 in
set_option maxHeartbeats 16000000 in
theorem lensBest_near (A : Option Addr) (n c : Nat) (L : Nat) (A2 : Option Addr) (n2 c2 : Nat) (l s : List Int) (w : World) (hr : Reads w w.heap.size 1 A n (ints l)) (hr2 : Reads w w.heap.size 1 A2 n2 (ints s)) (h : n ≤ 300) (k : n ≤ n2) (k2 : n2 ≤ 300)
    (hn : l.length ≤ 257) (hg : cgood l = true) (hL : 1 ≤ L ∧ L ≤ 15) (hmL : (lleaves l).length ≤ 2 ^ L) (hF : lbestF l L = (lbestL l L, 0)) :
    Calls Try.prog 5 #[.slice A n c, .int .i64 L, .slice A2 n2 c2] w fun e w' => e = .returned (.bool true) ∧ Below w.heap.size w w' := by
  obtain ⟨i0, hi, hz0, hz1, hz2⟩ : ∃ i0, Try.prog.info? 3 = some i0 ∧ i0.zero = some (.int .i64 0) ∧ i0.size = 1 ∧ i0.bytes = 8 := by
    have h := oint_info
    cases hi : Try.prog.info? 3 with
    | none => rw [hi] at h; cases h
    | some i0 =>
      rw [hi] at h
      simp only [Option.map_some, Option.some.injEq, Prod.mk.injEq] at h
      exact ⟨i0, rfl, h.1, h.2.1, h.2.2⟩
  have h1 : ¬ (300 : Int) < n := by omega
  have h2 : ¬ (n2 : Int) < (n : Int) := by omega
  have h3 : ¬ (300 : Int) < n2 := by omega
  have el : l.length = n := by have := hr.1; rw [ints_length] at this; omega
  have es : s.length = n2 := by have := hr2.1; rw [ints_length] at this; omega
  have hLi : (1 : Int) ≤ (L : Int) ∧ (L : Int) ≤ 15 := by omega
  obtain ⟨o, ho⟩ : ∃ o, ownL l s = o := ⟨_, rfl⟩
  have hol : o.length = n := by rw [← ho, ownL_len l s (by omega), el]
  have Hog : Hid (∀ j (h : j < o.length) (h1 : j < l.length) (h2 : j < s.length), o[j] = if l[j] = 0 then 0 else s[j]) := Lib.hid (by subst ho; exact ownL_get l s)
  have Hp := Lib.hid (pbest_good (N := n) l L (lbestL l L) hF (by rw [lbestL_len, el]) A n c w (by omega) hr)
  have Hc1 : Hid (0 < n → ∃ b off, A = some ⟨b, off, none⟩ ∧ ∀ wr, Below w.heap.size w wr → ∀ k, (hk : k < l.length) → wr.cell? ⟨b, off + k, none⟩ = some (.int .i64 l[k])) := Lib.hid fun h => by
    obtain ⟨b, off, e, hb, hc⟩ := hr.2 h
    exact ⟨b, off, e, fun wr hw k hk => (hw.cell (p := ⟨b, off + k, none⟩) hb).trans (hc k _ (ints_get l k hk))⟩
  have Hc2 : Hid (0 < n2 → ∃ b off, A2 = some ⟨b, off, none⟩ ∧ ∀ wr, Below w.heap.size w wr → ∀ k, (hk : k < s.length) → wr.cell? ⟨b, off + k, none⟩ = some (.int .i64 s[k])) := Lib.hid fun h => by
    obtain ⟨b, off, e, hb, hc⟩ := hr2.2 h
    exact ⟨b, off, e, fun wr hw k hk => (hw.cell (p := ⟨b, off + k, none⟩) hb).trans (hc k _ (ints_get s k hk))⟩
  have Hcg := Lib.hid fun j hj => cgood_get hg j hj
  have Hleast : Hid ((∀ j (h : j < o.length), 0 ≤ o[j] ∧ o[j] ≤ L) → (∀ j (h : j < o.length) (hc : j < l.length), 0 < o[j] ↔ 0 < l[j]) → (partF o : Int) ≤ 32768 → costF l (lbestL l L) ≤ costF l o) := Lib.hid fun a1 a2 a3 => lbestL_least hL hg hmL hn o (by omega) a1 a2 a3
  have Hr := Lib.hid hr
  have Hel := Lib.hid el
  have Hes := Lib.hid es
  have Hol := Lib.hid hol
  have Hsum := Lib.hid fun (v : Option Addr) (cv : Nat) (W : World) hr => lref_sum_any o v n cv W (by omega) hr
  have Hk1 := Lib.hid fun (v : Option Addr) (cv : Nat) (W : World) hr hr2 => p_cost_any l (lbestL l L) A v n n c cv W (by omega) (by omega) hr hr2
  have Hk2 := Lib.hid fun (v : Option Addr) (cv : Nat) (W : World) hr hr2 => p_cost_any l o A v n n c cv W (by omega) (by omega) hr hr2
  clear hr hr2 hF hmL hg hn ho el es hol
  generalize lbestL l L = BL at *
  go_enter Try.func5, Try.ntmps5
  go_wp2_with (go_at_call 8; refine Hp.out.mono ?_; rintro e w1 ⟨A1, c1, rfl, hr1, hb1⟩; have Hr1 := Lib.hid hr1; have Hb1 := Lib.hid hb1; clear hb1 hr1)
  go_loopw [9, 10, 11] (fun v i x wr => ∃ (q cp : Nat) (Ap : Option Addr), q ≤ n ∧ v = .slice Ap q cp ∧ i = .int .i64 q ∧ Hid (wr.ownsRow w1.heap.size 3 1 (.slice Ap q cp) q (ints (o.take q))) ∧ Hid (∀ j (h : j < o.length) (h1 : j < l.length), j < q → (0 ≤ o[j] ∧ o[j] ≤ L) ∧ (0 < o[j] ↔ 0 < l[j])) ∧ Hid (Below w1.heap.size w1 wr)) (fun _ i _ _ => n - (intOf i).toNat)
  case atStart => exact ⟨0, 0, none, by omega, rfl, rfl, ⟨rfl, Or.inl ⟨rfl, rfl⟩⟩, Lib.hid (fun j _ _ h => absurd h (by omega)), Below.refl _ _⟩
  case round =>
    obtain ⟨q, cp, Ap, hq, rfl, rfl, HO, HQ, HB⟩ := hrel
    have HBw : Hid (Below w.heap.size w wr) := Lib.hid (Hb1.out.trans (HB.out.mono Hb1.out.size))
    by_cases hlt : q < n
    · have hqi : (0 : Int) ≤ (q : Int) ∧ (q : Int) < (n : Int) ∧ (q : Int) < (n2 : Int) := by omega
      have hql : q < l.length := by rw [Hel.out]; exact hlt
      have hqs : q < s.length := by rw [Hes.out]; omega
      have hqo : q < o.length := by rw [Hol.out]; exact hlt
      obtain ⟨b1, o1, rfl, hcell1⟩ := Hc1.out (by omega)
      obtain ⟨b2, o2, rfl, hcell2⟩ := Hc2.out (by omega)
      have x1 := hcell1 wr HBw.out q hql
      have x2 := hcell2 wr HBw.out q hqs
      have hog := Hog.out q hqo hql hqs
      have hcg := Hcg.out q hql
      have HT := Lib.hid (oints_take o q hqo)
      have HQ2 : Hid (((0 ≤ o[q] ∧ o[q] ≤ L) ∧ (0 < o[q] ↔ 0 < l[q])) → ∀ j (h : j < o.length) (h1 : j < l.length), j < q + 1 → (0 ≤ o[j] ∧ o[j] ≤ L) ∧ (0 < o[j] ↔ 0 < l[j])) := Lib.hid fun hx j hj h1 hjq => by
        rcases Nat.lt_or_ge j q with h2 | h2
        · exact HQ.out j hj h1 h2
        · obtain rfl : j = q := by omega
          exact hx
      have Hog2 := Lib.hid hog
      clear hcell1 hcell2 hog HQ
      generalize o[q] = ov at *
      generalize l[q] = cv at *
      generalize s[q] = sv at *
      by_cases hc0 : cv = 0
      · subst hc0
        have hov : ov = 0 := by rw [Hog2.out, if_pos rfl]
        subst hov
        have HQ3 := Lib.hid (HQ2.out (by omega))
        have hb0 : ((0 : Int) == 0) = true := by decide
        have hn1 : ¬ (L : Int) < 0 := by omega
        clear HQ2 Hog2
        go_wp2_with (at_builtin; refine wpList_append_sep _ rfl _ _ 22 rfl w1.heap.size 3 i0 (.int .i64 0) 1 8 Try.underlying22 hi hz0 hz1 hz2 rfl (by decide) _ _ _ rfl (HO.out.alloc _) _ 1 1 _ _ rfl (reads_new wr 3 #[.int .i64 (0 : Int)] 1 1 rfl) ?c1 ?c2 ?c3 ?c4 ?_)
        case c1 => first | rfl | exact (by intro u hu; obtain rfl := List.mem_singleton.1 hu; rfl)
        case c2 => unfold maxLen; omega
        case c3 => omega
        case c4 => have := HB.out.size; omega
        intro v6 w6 hO6 hg6 _
        have hbb : Below wr.heap.size wr (wr.alloc (.cells #[.int .i64 (0 : Int)] 3)) := (Below.refl _ _).alloc (Nat.le_refl _) _
        have HB6 : Hid (Below w1.heap.size w1 w6) := Lib.hid ((HB.out.trans (hbb.mono HB.out.size)).trans (own_below (HO.out.alloc _) hg6 (by rw [World.size_alloc]; exact Nat.le_succ_of_le HB.out.size)))
        obtain ⟨A6, c6, rfl, _, _⟩ := owns_cells hO6
        have HO7 : Hid (w6.ownsRow w1.heap.size 3 1 (.slice A6 (q + 1) c6) (q + 1) (ints (o.take (q + 1)))) := Lib.hid (by rw [← HT.out]; exact hO6)
        clear hO6 hg6 hbb HO HT
        go_wp2
        go_roundw
        case rel => exact ⟨q + 1, c6, A6, by omega, rfl, iv (by omega), HO7, HQ3, HB6⟩
        case measure => simp only [intOf]; omega
      · have hcp : 0 < cv := by omega
        have hov : ov = sv := by rw [Hog2.out, if_neg hc0]
        subst hov
        have hb0 : (cv == 0) = false := by simpa using hc0
        by_cases hneg : ov < 0
        · clear HQ2 Hog2 HT HO
          go_wp2_with (go_at_call 7; refine (awake8_any _).mono ?_; rintro e w9 ⟨rfl, hb9⟩; have Hb := Lib.hid (HBw.out.trans (hb9.mono HBw.out.size)); clear hb9)
          go_ret
          exact ⟨rfl, Hb.out⟩
        · by_cases hbig : (L : Int) < ov
          · clear HQ2 Hog2 HT HO
            go_wp2_with (go_at_call 7; refine (awake8_any _).mono ?_; rintro e w9 ⟨rfl, hb9⟩; have Hb := Lib.hid (HBw.out.trans (hb9.mono HBw.out.size)); clear hb9)
            go_ret
            exact ⟨rfl, Hb.out⟩
          · by_cases hz : ov = 0
            · subst hz
              have hb1 : ((0 : Int) == 0) = true := by decide
              clear HQ2 Hog2 HT HO
              go_wp2_with (go_at_call 7; refine (awake8_any _).mono ?_; rintro e w9 ⟨rfl, hb9⟩; have Hb := Lib.hid (HBw.out.trans (hb9.mono HBw.out.size)); clear hb9)
              go_ret
              exact ⟨rfl, Hb.out⟩
            · have hb1 : (ov == 0) = false := by simpa using hz
              have HQ3 := Lib.hid (HQ2.out (by omega))
              clear HQ2 Hog2
              go_wp2_with (at_builtin; refine wpList_append_sep _ rfl _ _ 22 rfl w1.heap.size 3 i0 (.int .i64 0) 1 8 Try.underlying22 hi hz0 hz1 hz2 rfl (by decide) _ _ _ rfl (HO.out.alloc _) _ 1 1 _ _ rfl (reads_new wr 3 #[.int .i64 ov] 1 1 rfl) ?c1 ?c2 ?c3 ?c4 ?_)
              case c1 => first | rfl | exact (by intro u hu; obtain rfl := List.mem_singleton.1 hu; rfl)
              case c2 => unfold maxLen; omega
              case c3 => omega
              case c4 => have := HB.out.size; omega
              intro v6 w6 hO6 hg6 _
              have hbb : Below wr.heap.size wr (wr.alloc (.cells #[.int .i64 (ov : Int)] 3)) := (Below.refl _ _).alloc (Nat.le_refl _) _
              have HB6 : Hid (Below w1.heap.size w1 w6) := Lib.hid ((HB.out.trans (hbb.mono HB.out.size)).trans (own_below (HO.out.alloc _) hg6 (by rw [World.size_alloc]; exact Nat.le_succ_of_le HB.out.size)))
              obtain ⟨A6, c6, rfl, _, _⟩ := owns_cells hO6
              have HO7 : Hid (w6.ownsRow w1.heap.size 3 1 (.slice A6 (q + 1) c6) (q + 1) (ints (o.take (q + 1)))) := Lib.hid (by rw [← HT.out]; exact hO6)
              clear hO6 hg6 hbb HO HT
              go_wp2
              go_roundw
              case rel => exact ⟨q + 1, c6, A6, by omega, rfl, iv (by omega), HO7, HQ3, HB6⟩
              case measure => simp only [intOf]; omega
    · obtain rfl : q = n := by omega
      have hqz : ¬ (q : Int) < (q : Int) := by omega
      have hot : o.take q = o := List.take_of_length_le (by rw [Hol.out]; exact Nat.le_refl _)
      have ho2 := HO.out
      rw [hot] at ho2
      obtain ⟨A7, c7, e7, hc7, hr7⟩ := owns_cells ho2
      injection e7 with e8 _ e9
      subst e8 e9
      have HR7 := Lib.hid hr7
      have hall : (∀ j (h : j < o.length), 0 ≤ o[j] ∧ o[j] ≤ L) ∧ (∀ j (h : j < o.length) (hc : j < l.length), 0 < o[j] ↔ 0 < l[j]) := ⟨fun j hj => (HQ.out j hj (by rw [Hel.out, ← Hol.out]; exact hj) (by rw [← Hol.out]; exact hj)).1, fun j hj hc => (HQ.out j hj hc (by rw [← Hol.out]; exact hj)).2⟩
      have hlg : lgood o = true := lgood_of fun j hj => by have := hall.1 j hj; omega
      have hsf : sumF o = (partF o : Int) := if_pos hlg
      have hlast : (partF o : Int) ≤ 32768 → costF l BL ≤ costF l o := fun h => Hleast.out hall.1 hall.2 h
      have HR8 : Hid (Reads wr wr.heap.size 1 A1 q (ints BL)) := Lib.hid ((Hr1.out.below HB.out).more HB.out.size)
      have HR9 : Hid (Reads wr wr.heap.size 1 A q (ints l)) := Lib.hid ((Hr.out.below HBw.out).more HBw.out.size)
      rw [hsf] at Hsum
      have Hlast := Lib.hid hlast
      have hp0 : (0 : Int) ≤ (partF o : Int) := by omega
      clear hot ho2 HO HQ hr7 hall hlg hsf hlast Hog Hleast Hcg Hc1 Hc2
      generalize (partF o : Int) = S at *
      generalize costF l BL = K1 at *
      generalize costF l o = K2 at *
      have hS0 : ¬ S < 0 := by omega
      by_cases hS : 32768 < S
      · go_wp2_with (first
          | (go_at_call 17; refine (Hsum.out _ _ _ HR7.out).mono ?_; rintro e w5 ⟨rfl, rfl⟩)
          | (go_at_call 7; refine (awake8_any _).mono ?_; rintro e w9 ⟨rfl, hb9⟩; have Hb := Lib.hid (HBw.out.trans (hb9.mono HBw.out.size)); clear hb9))
        go_ret
        exact ⟨rfl, Hb.out⟩
      · have hle : K1 ≤ K2 := Hlast.out (by omega)
        go_wp2_with (first
          | (go_at_call 17; refine (Hsum.out _ _ _ HR7.out).mono ?_; rintro e w5 ⟨rfl, rfl⟩)
          | (go_at_call 15; (with_reducible refine (Hk1.out _ _ _ HR9.out HR8.out).mono ?_); rintro e w6 ⟨rfl, hb6⟩; replace HR9 := Lib.hid ((HR9.out.below hb6).more hb6.size); replace HR7 := Lib.hid ((HR7.out.below hb6).more hb6.size); replace HBw := Lib.hid (HBw.out.trans (hb6.mono HBw.out.size)); clear hb6 HR8)
          | (go_at_call 15; (with_reducible refine (Hk2.out _ _ _ HR9.out HR7.out).mono ?_); rintro e w7 ⟨rfl, hb7⟩; replace HBw := Lib.hid (HBw.out.trans (hb7.mono HBw.out.size)); clear hb7)
          | (go_at_call 7; refine (awake8_any _).mono ?_; rintro e w9 ⟨rfl, hb9⟩; have Hb := Lib.hid (HBw.out.trans (hb9.mono HBw.out.size)); clear hb9))
        go_ret
        exact ⟨rfl, Hb.out⟩
theorem lensBest_walk (A : Option Addr) (n c : Nat) (m : Int) (A2 : Option Addr) (n2 c2 : Nat) (l s : List Int) (w : World) (hr : Reads w w.heap.size 1 A n (ints l)) (hr2 : Reads w w.heap.size 1 A2 n2 (ints s)) :
    Calls Try.prog 5 #[.slice A n c, .int .i64 m, .slice A2 n2 c2] w fun e w' => e = .returned (.bool true) ∧ Below w.heap.size w w' := by
  by_cases h : n ≤ 300
  · by_cases k : n ≤ n2
    · by_cases k2 : n2 ≤ 300
      · by_cases hz : (lbestF l m).2 = 0
        · obtain ⟨g1, g2, L, rfl, g4, g5, g6, g7⟩ := lbestF_ok l m hz
          exact lensBest_near A n c L A2 n2 c2 l s w hr hr2 h k k2 g1 g2 ⟨g4, g5⟩ g6 g7
        · exact lensBest_none A n c m A2 n2 c2 l w hr h k k2 hz
      · exact lensBest_far2 A n c m A2 n2 c2 w h k (by omega)
    · exact lensBest_far1 A n c m A2 n2 c2 w h (by omega)
  · exact lensBest_far0 A n c m A2 n2 c2 w (by omega)

namespace LensBest
set_option maxRecDepth 100000 in
theorem lifted (os : Os) (started : os.Started) (H : Type) (enc : TypeId × Value → H) :
    ReturnsInHanded {} Try.checked os 5 .any (Rows.lensBestSpec.pre6 enc Try.prog Try.f5 Rows.lensBestRow.domain false) (Rows.lensBestSpec.post enc Try.prog Try.f5 false true false false) := by
  refine law_sized (C := Try.checked) (tb := 4) ownP started (by kernel_rfl) Try.func5
    (ChangeSpec.witness6 (enc := enc) (C := Try.checked) false ⟨#[], #[.slice none 0 0, .int .i64 0, .slice none 0 0], []⟩ 8 (by kernel_rfl) (by kernel_rfl) (by kernel_rfl) (by kernel_rfl))
    laidP (by kernel_rfl) rfl (by kernel_rfl) Try.underlying4 (by intro ds h; match ds, h with | [_, _, _], _ => rfl) ?_
  intro W base args ds p hval0 hA0 hlt _
  have hval : ∀ (j : Nat) t v, Try.f5.params[j]? = some t → args[j]? = some v → Value.okWide Try.prog W .any base t v := hval0
  have hA : DataW.TrodAll enc Try.prog W 0 (fun _ => true) true Try.f5.params.toList args.toList ds p := hA0
  rw [Try.params5] at hA hval
  obtain ⟨v0, v1, v2, d0, d1, d2, p0, p1, p2, rfl, rfl, rfl, h0, h1, h2⟩ := trodAll_three hA
  obtain ⟨Aks, nks, cks, ks, rfl, eks, hnks, hmks, hrks, hbks⟩ := open_nums rfl Try.underlying22 Try.underlying3 (by kernel_rfl) (hval 0 22 v0 rfl rfl) h0
  obtain ⟨m, rfl, rfl, rfl, wm⟩ := open_int Try.underlying3 (hval 1 3 v1 rfl rfl) h1
  obtain ⟨Ass, nss, css, ss, rfl, ess, hnss, hmss, hrss, hbss⟩ := open_nums rfl Try.underlying22 Try.underlying3 (by kernel_rfl) (hval 2 22 v2 rfl rfl) h2
  exact lensBest_walk Aks nks cks m Ass nss css ks ss W hrks hrss

theorem holds : Rows.LensBestSaid :=
  OpenClaim.holds_of_wide 5 Try.f5 rfl rfl rfl rfl rfl rfl rfl ⟨rfl, rfl, rfl, rfl, rfl⟩ rfl rfl rfl rfl rfl (by kernel_rfl) Try.func5 (by kernel_rfl)
    (of_decide_eq_true (by kernel_rfl)) (by unfold Func.isWrapper; first | (rw [if_pos (by decide +kernel)]; kernel_rfl) | (rw [if_neg (by decide +kernel)]; exact ⟨rfl, rfl⟩))
    (fun os started H enc _ => lifted os started H enc)
end LensBest
end Go.Proofs.Ytehpnfijpddcfaa
