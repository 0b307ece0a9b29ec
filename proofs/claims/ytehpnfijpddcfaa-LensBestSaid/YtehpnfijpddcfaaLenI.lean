/-
  Layer 8, the program's: the leaves of counts.
-/
import Derived.Test.YtehpnfijpddcfaaLenH
namespace Go.Proofs.Ytehpnfijpddcfaa
set_option linter.unusedSimpArgs false
set_option linter.unusedVariables false
open Go.ChangeShapes Go.WideShapes Go.ChangeAt Go.RowKit Go.Joins Go.Deep Go.Shelf

/-- The leaves as they come. -/
def plv : Nat → List Int → List LTh
  | _, [] => []
  | i, c :: t => if 0 < c then ⟨c, [i], true⟩ :: plv (i + 1) t else plv (i + 1) t
theorem plv_yes (i : Nat) (c : Int) (t : List Int) (h : 0 < c) : plv i (c :: t) = ⟨c, [i], true⟩ :: plv (i + 1) t := if_pos h
theorem plv_no (i : Nat) (c : Int) (t : List Int) (h : ¬ 0 < c) : plv i (c :: t) = plv (i + 1) t := if_neg h

theorem reads_new1 (W : World) (o : Obj) (t : TypeId) (cs : Array Value) (size n : Nat) (hl : cs.size = n * size) : Reads ((W.alloc o).alloc (.cells cs t)) (W.heap.size + 1 + 1) size (some ⟨W.heap.size + 1, 0, none⟩) n cs.toList := by
  have h := reads_new (W.alloc o) t cs size n hl
  rw [World.size_alloc] at h
  exact h

set_option maxRecDepth 100000 in
set_option maxHeartbeats 8000000 in
theorem leaves_any (ok : Nat → Prop) (counts : List Int) (A : Option Addr) (n c : Nat) (w : World) (hok : ∀ b, w.heap.size ≤ b → ok b) (hr : Reads w w.heap.size 1 A n (ints counts)) (hn : n ≤ 100000) :
    Calls Try.prog 20 #[.slice A n c] w fun e w' => ∃ (E : List PEl) (A' : Option Addr) (c' : Nat), e = .returned (.slice A' E.length c') ∧ E.length ≤ c' ∧ pth E = plv 0 counts ∧ PRow ok w' w'.heap.size A' E.length E ∧ Below w.heap.size w w' := by
  obtain ⟨j0, hj, hy0, hy1, hy2⟩ : ∃ i0, Try.prog.info? 40 = some i0 ∧ i0.zero = some (.agg #[.int .i64 0, .slice none 0 0]) ∧ i0.size = 2 ∧ i0.bytes = 32 := by
    have h := pthing_info
    cases hi : Try.prog.info? 40 with
    | none => rw [hi] at h; cases h
    | some i0 =>
      rw [hi] at h
      simp only [Option.map_some, Option.some.injEq, Prod.mk.injEq] at h
      exact ⟨i0, rfl, h.1, h.2.1, h.2.2⟩
  have en : counts.length = n := by have := hr.1; rw [ints_length] at this; omega
  have En := Lib.hid en
  have Hcell : Hid (0 < n → ∃ b off, A = some ⟨b, off, none⟩ ∧ ∀ wr, Below w.heap.size w wr → ∀ k, (hk : k < counts.length) → wr.cell? ⟨b, off + k, none⟩ = some (.int .i64 counts[k])) := Lib.hid fun h => by
    obtain ⟨b, off, e, hb, hc⟩ := hr.2 h
    exact ⟨b, off, e, fun wr hw k hk => (hw.cell (p := ⟨b, off + k, none⟩) hb).trans (hc k _ (ints_get counts k hk))⟩
  have Hst : Hid (pth [] ++ plv 0 (counts.drop 0) = plv 0 counts) := Lib.hid rfl
  have hni : (n : Int) ≤ 100000 := by omega
  have Hok := Lib.hid hok
  clear hr en hok
  generalize plv 0 counts = T at *
  go_enter Try.func20, Try.ntmps20
  go_wp2
  go_loopw [3, 4, 5, 8] (fun v s x i wr => ∃ (k q cp : Nat) (Ap : Option Addr) (Ep : List PEl), k ≤ n ∧ q ≤ k ∧ Ep.length = q ∧ v = .slice Ap q cp ∧ i = .int .i64 k ∧ Hid (pth Ep ++ plv k (counts.drop k) = T) ∧ Hid (wr.ownsRow w.heap.size 40 2 (.slice Ap q cp) q (pcells Ep)) ∧ Hid (∀ x ∈ Ep, POk ok wr wr.heap.size x) ∧ Hid (Below w.heap.size w wr)) (fun _ _ _ i _ => n - (intOf i).toNat)
  case atStart => exact ⟨0, 0, 0, none, [], by omega, by omega, rfl, rfl, rfl, Hst, ⟨rfl, Or.inl ⟨rfl, rfl⟩⟩, Lib.hid (fun x hx => absurd hx (by simp)), Below.refl _ _⟩
  case round =>
    obtain ⟨k, q, cp, Ap, Ep, hk, hqk, hEp, rfl, rfl, HT, HO, HP, HB⟩ := hrel
    by_cases hlt : k < n
    · have hki : (0 : Int) ≤ (k : Int) ∧ (k : Int) < n := by omega
      have hkl : k < counts.length := by rw [En.out]; exact hlt
      obtain ⟨b, off, rfl, hcell⟩ := Hcell.out (by omega)
      have hx := hcell wr HB.out k hkl
      have hT := HT.out
      rw [List.drop_eq_getElem_cons hkl] at hT
      clear hcell HT
      generalize counts[k] = x at *
      by_cases hx0 : 0 < x
      · rw [plv_yes _ _ _ hx0] at hT
        have HT2 : Hid (∀ y : PEl, y.th = ⟨x, [k], true⟩ → pth (Ep ++ [y]) ++ plv (k + 1) (counts.drop (k + 1)) = T) := Lib.hid fun y hy => by rw [← hT, ← hy]; simp [pth]
        clear hT
        go_wp2_with (at_builtin; refine wpList_append_sep _ rfl _ _ 35 rfl w.heap.size 40 j0 (.agg #[.int .i64 0, .slice none 0 0]) 2 32 Try.underlying35 hj hy0 hy1 hy2 rfl (by decide) _ _ _ rfl ((HO.out.alloc _).alloc _) _ 1 1 _ _ rfl (reads_new1 wr (.cells #[.int .i64 (k : Int)] 3) 40 #[.int .i64 x, .slice (some ⟨wr.heap.size, 0, none⟩) 1 1] 2 1 rfl) ?c1 ?c2 ?c3 ?c4 ?_)
        case c1 => exact ⟨rfl, rfl⟩
        case c2 => unfold maxLen; omega
        case c3 => omega
        case c4 => rw [World.size_alloc, World.size_alloc]; have := HB.out.size; omega
        intro v6 w6 hO6 hg6 _
        have hbb : Below wr.heap.size wr ((wr.alloc (.cells #[.int .i64 (k : Int)] 3)).alloc (.cells #[.int .i64 x, .slice (some ⟨wr.heap.size, 0, none⟩) 1 1] 40)) := by go_grown
        have hO5 := (HO.out.alloc (.cells #[.int .i64 (k : Int)] 3)).alloc (.cells #[.int .i64 x, .slice (some ⟨wr.heap.size, 0, none⟩) 1 1] 40)
        have hsz := hg6.size
        simp only [World.size_alloc] at hsz
        have hbase := HB.out.size
        have HB6 : Hid (Below w.heap.size w w6) := Lib.hid ((HB.out.trans (hbb.mono hbase)).trans (own_below hO5 hg6 (by simp only [World.size_alloc] at *; omega)))
        have HP6 : Hid (∀ y ∈ Ep ++ [⟨⟨x, [k], true⟩, some ⟨wr.heap.size, 0, none⟩, 1, 0⟩], POk ok w6 w6.heap.size y) := Lib.hid fun y hy => by
          rcases List.mem_append.1 hy with hy | hy
          · exact (((HP.out y hy).below hbb).grown (by simp only [World.size_alloc] at *; omega) hO5 hg6).more (by omega)
          · rw [List.mem_singleton.1 hy]
            have hnew : POk ok (wr.alloc (.cells #[.int .i64 (k : Int)] 3)) (wr.alloc (.cells #[.int .i64 (k : Int)] 3)).heap.size ⟨⟨x, [k], true⟩, some ⟨wr.heap.size, 0, none⟩, 1, 0⟩ :=
              ⟨Nat.le_refl _, lone_reads wr k, fun _ => ⟨_, _, _, rfl, Blk.new wr _ _, Hok.out _ HB.out.size⟩⟩
            exact ((hnew.alloc' _ (Nat.le_refl _)).grown (by simp only [World.size_alloc] at *; omega) hO5 hg6).more (by simp only [World.size_alloc] at *; omega)
        obtain ⟨A6, c6, rfl, _, _⟩ := owns_cells hO6
        have HO7 : Hid (w6.ownsRow w.heap.size 40 2 (.slice A6 (q + 1) c6) (q + 1) (pcells (Ep ++ [⟨⟨x, [k], true⟩, some ⟨wr.heap.size, 0, none⟩, 1, 0⟩]))) := Lib.hid (by
          rw [pcells_app]
          exact hO6)
        have HT6 := Lib.hid (HT2.out ⟨⟨x, [k], true⟩, some ⟨wr.heap.size, 0, none⟩, 1, 0⟩ rfl)
        have hlen6 : (Ep ++ [(⟨⟨x, [k], true⟩, some ⟨wr.heap.size, 0, none⟩, 1, 0⟩ : PEl)]).length = q + 1 := by rw [List.length_append, hEp]; rfl
        generalize Ep ++ [(⟨⟨x, [k], true⟩, some ⟨wr.heap.size, 0, none⟩, 1, 0⟩ : PEl)] = Ep6 at *
        clear hO6 hg6 hO5 hbb hsz HT2
        go_wp2
        go_roundw
        case rel => exact ⟨k + 1, q + 1, c6, A6, Ep6, by omega, by omega, hlen6, rfl, iv (by omega), HT6.out, HO7.out, HP6.out, HB6.out⟩
        case measure => simp only [intOf]; omega
      · rw [plv_no _ _ _ hx0] at hT
        have HT6 := Lib.hid hT
        clear hT
        go_wp2
        go_roundw
        case rel => exact ⟨k + 1, q, cp, Ap, Ep, by omega, by omega, hEp, rfl, iv (by omega), HT6.out, HO.out, HP.out, HB.out⟩
        case measure => simp only [intOf]; omega
    · obtain rfl : k = n := by omega
      have hT := HT.out
      rw [List.drop_of_length_le (by rw [En.out]; exact Nat.le_refl _)] at hT
      have hT2 : pth Ep = T := by rw [← hT]; simp [plv]
      obtain ⟨A7, c7, e7, hc7, hr7⟩ := owns_cells HO.out
      injection e7 with e8 _ e9
      subst e8 e9
      have HR7 := Lib.hid hr7
      have HTT := Lib.hid hT2
      clear hr7 hT HT hT2
      subst hEp
      go_wp2
      go_ret
      exact ⟨Ep, _, _, rfl, hc7, HTT.out, ⟨rfl, HR7.out, HP.out, lok_own HO.out Hok.out⟩, HB.out⟩
end Go.Proofs.Ytehpnfijpddcfaa
