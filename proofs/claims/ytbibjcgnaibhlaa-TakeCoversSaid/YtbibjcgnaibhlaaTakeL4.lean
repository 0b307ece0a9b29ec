/-
  For any bytes, any sizes and any bytes behind: the bytes and texts that were taken, one behind the other, are what stands ahead of the place; what stands behind plays no part, and the layer's probe holds (TakeCovers). No condition.
-/
import Derived.Test.YtbibjcgnaibhlaaTakeL3
namespace Go.Proofs.Ytbibjcgnaibhlaa
set_option linter.unusedSimpArgs false
set_option linter.unusedVariables false
open Go.ChangeShapes Go.WideShapes Go.ChangeAt Go.RowKit Go.Joins Go.Deep

theorem add_two (a b r : List UInt8) (hr : a ++ b = r) (h : a.length + b.length ≤ 9223372036854775807) (w : World) : (Op.stringOp .add ⟨a.toArray⟩ ⟨b.toArray⟩).run Try.prog w = .ok (.string ⟨r.toArray⟩) w := by
  subst hr
  rw [run_string_add_sum w _ _ (by rw [ByteArray.size_mk', ByteArray.size_mk', List.size_toArray, List.size_toArray]; exact h), ByteArray.mk_append_mk]
/-- string([]byte{byte(x)}) of a byte's number. -/
theorem byte_str (b : UInt8) (W : World) :
    (convert 45 9 (.slice (some ⟨W.heap.size, 0, none⟩) 1 1)).run Try.prog (W.alloc (.cells #[.int .u8 ((b.toNat : Int) % 256)] 5)) = .ok (.string ⟨#[b]⟩) (W.alloc (.cells #[.int .u8 ((b.toNat : Int) % 256)] 5)) := by
  have e : (b.toNat : Int) % 256 = (b.toNat : Int) := by have := UInt8.toNat_lt b; omega
  rw [e]
  have h := Blk.new W 5 (bc [b])
  exact run_bytes_str Try.underlying45 Try.underlying5 Try.underlying9 _ W.heap.size 0 1 [b] 1 rfl fun j u hj => by rw [Nat.zero_add]; exact blk_byte h hj
/-- A string's beginning. -/
theorem run_front (l : List UInt8) (p : Nat) (hp : p ≤ l.length) (w : World) :
    (Instr.slice 9 (.string ⟨l.toArray⟩) none (some (.int .i64 (p : Int))) none).run Try.prog w = .ok (.string ⟨(l.take p).toArray⟩) w := by
  rw [run_slice_string_h w 9 ⟨l.toArray⟩ Try.underlying9 .i64 (p : Int) (by omega) (by rw [ByteArray.size_mk', List.size_toArray]; omega), ByteArray.extract_mk, List.drop_zero, Nat.sub_zero, Int.toNat_natCast]

/-- What is known of a piece of a size, where it is taken. -/
theorem piece_size (l : List UInt8) (p : Nat) (n : Int) (hp : p ≤ l.length) (h : (pieceF l p (wantOf n).1 (wantOf n).2).2.2 = 0) :
    ∃ (x : Int) (s : List UInt8) (p' : Nat), pieceF l p (wantOf n).1 (wantOf n).2 = ((x, s), (p' : Int), 0) ∧ p' ≤ l.length ∧
      ((n < 0 ∧ s = [] ∧ ∃ b : UInt8, x = b.toNat ∧ l.take p ++ [b] = l.take p') ∨ (¬ n < 0 ∧ l.take p ++ s = l.take p')) := by
  have hc := piece_cover l p n (by omega) (by omega) h
  have ho := pieceF_ok h (by omega) (by omega)
  obtain ⟨x, s, q, e, hpc⟩ : ∃ x s q e, pieceF l p (wantOf n).1 (wantOf n).2 = ((x, s), q, e) := ⟨_, _, _, _, rfl⟩
  rw [hpc] at hc ho h
  simp only at hc ho h
  subst h
  rw [Int.toNat_natCast] at hc
  obtain ⟨p', rfl⟩ := Int.eq_ofNat_of_zero_le (by omega : 0 ≤ q)
  rw [Int.toNat_natCast] at hc
  refine ⟨x, s, p', hpc, by omega, ?_⟩
  by_cases hn : n < 0
  · have hw : wantOf n = (1, 0) := by unfold wantOf; rw [if_pos hn]
    rw [hw] at hpc
    have hlt : (p : Int) < l.length := by
      by_cases h1 : (p : Int) < l.length
      · exact h1
      · rw [pieceF_byte_no l p (by omega) (by omega)] at hpc
        simp at hpc
    rw [pieceF_byte l p (by omega) hlt] at hpc
    simp only [Prod.mk.injEq] at hpc
    obtain ⟨⟨hx, hs⟩, _⟩ := hpc
    subst hs
    refine Or.inl ⟨hn, rfl, _, hx.symm, ?_⟩
    unfold textOf at hc
    rw [if_pos hn, ← hx] at hc
    simpa using hc
  · refine Or.inr ⟨hn, ?_⟩
    unfold textOf at hc
    rw [if_neg hn] at hc
    exact hc

set_option maxHeartbeats 2000000 in
/-- Beyond the sizes that the statement looks at: the probe alone. -/
theorem takeCovers_far (l t : List UInt8) (A : Option Addr) (n c : Nat) (w : World) (h : 200 < n ∨ 10000 < l.length ∨ 10000 < t.length) :
    Calls Try.prog 6 #[.string ⟨l.toArray⟩, .slice A n c, .string ⟨t.toArray⟩] w fun e w' => e = .returned (.bool true) ∧ Below w.heap.size w w' := by
  by_cases h1 : 200 < n
  · clear h
    go_enter Try.func6, Try.ntmps6
    go_wp2_with (go_at_call 8; refine (awake_any _).mono ?_; rintro e w9 ⟨rfl, hb9⟩)
    go_ret
    exact ⟨rfl, hb9⟩
  · by_cases h2 : 10000 < l.length
    · have h1' : n ≤ 200 := by omega
      clear h h1
      go_enter Try.func6, Try.ntmps6
      go_wp2_with (go_at_call 8; refine (awake_any _).mono ?_; rintro e w9 ⟨rfl, hb9⟩)
      go_ret
      exact ⟨rfl, hb9⟩
    · have h1' : n ≤ 200 := by omega
      have h2' : l.length ≤ 10000 := by omega
      have h3 : 10000 < t.length := by omega
      clear h h1 h2
      go_enter Try.func6, Try.ntmps6
      go_wp2_with (go_at_call 8; refine (awake_any _).mono ?_; rintro e w9 ⟨rfl, hb9⟩)
      go_ret
      exact ⟨rfl, hb9⟩

theorem runF_stop (l : List UInt8) : ∀ (ws : List (Int × Int)) (p : Int), (runF l p ws).1 = [] → (runF l p ws).2.1 = p
  | [], p, _ => rfl
  | w :: ws, p, h => by
    by_cases h0 : (pieceF l p w.1 w.2).2.2 = 0
    · rw [runF_ok h0] at h
      cases h
    · rw [runF_no h0]
theorem pairs_next (ns : List Int) (k : Nat) (hk : k < ns.length) : pairs .i64 ((ns.map wantOf).take (k + 1)) = pairs .i64 ((ns.map wantOf).take k) ++ [.int .i64 (wantOf ns[k]).1, .int .i64 (wantOf ns[k]).2] := by
  rw [List.take_succ_eq_append_getElem (by simpa using hk), pairs_append, List.getElem_map]
  rfl

set_option maxRecDepth 100000 in
set_option maxHeartbeats 20000000 in
theorem takeCovers_near (l t : List UInt8) (A : Option Addr) (n c : Nat) (ns : List Int) (w : World) (hn : ns.length = n) (h1 : n ≤ 200) (h2 : l.length ≤ 10000) (h3 : t.length ≤ 10000) (hr : Reads w w.heap.size 1 A n (ints ns))
    (gs : List (Int × List UInt8)) (q e : Int) (hR : runF l 0 (ns.map wantOf) = (gs, q, e)) :
    Calls Try.prog 6 #[.string ⟨l.toArray⟩, .slice A n c, .string ⟨t.toArray⟩] w fun e w' => e = .returned (.bool true) ∧ Below w.heap.size w w' := by
  obtain ⟨i0, hi, hz0, hz1, hz2⟩ := info_parts want_info
  have Hn := Lib.hid hn
  have Hr := Lib.hid hr
  have HR := Lib.hid hR
  clear hn hr hR
  go_enter Try.func6, Try.ntmps6
  go_wp2
  go_loopw [7, 8] (fun v i wr => ∃ k : Nat, k ≤ n ∧ i = .int .i64 k ∧ Hid (wr.ownsRow w.heap.size 36 2 v k (pairs .i64 ((ns.map wantOf).take k))) ∧ Hid (Below w.heap.size w wr)) (fun _ i _ => n - (intOf i).toNat)
  case atStart => exact ⟨0, by omega, rfl, World.ownsRow_nil _ _ _ _, Below.refl _ _⟩
  case round =>
    obtain ⟨k, hk, rfl, Hown, Hb⟩ := hrel
    by_cases hlt : k < n
    · have hkw : k < ns.length := by have := Hn.out; omega
      obtain ⟨b, off, rfl, hb, hcl⟩ := Hr.out.2 (by omega)
      have x1 : wr.cell? ⟨b, off + k, none⟩ = some (.int .i64 ns[k]) := (Hb.out.cell (p := ⟨b, off + k, none⟩) hb).trans (hcl _ _ (ints_get ns k hkw))
      have Hp := Lib.hid (pairs_next ns k hkw)
      have hnk : (k : Int) < n := by omega
      clear hcl
      generalize ns[k] = x at *
      by_cases hx : x < 0
      · have Hp' : Hid (pairs .i64 ((ns.map wantOf).take (k + 1)) = pairs .i64 ((ns.map wantOf).take k) ++ [.int .i64 1, .int .i64 0]) := Lib.hid (by rw [Hp.out]; unfold wantOf; rw [if_pos hx])
        clear Hp
        go_wp2_with (at_builtin; refine wpList_append_own _ rfl _ _ 22 rfl w.heap.size 36 i0 (.agg #[.int .i64 0, .int .i64 0]) 2 16 Try.underlying22 hi hz0 hz1 hz2 rfl (by decide) _ _ _ rfl (Hown.out.alloc _) ⟨wr.heap.size, 0, none⟩ 1 1 [.int .i64 1, .int .i64 0] rfl rfl ?c1 ?c2 ?c3 ?c4 ?c5 ?_)
        case c1 =>
          intro j u hj
          match j, hj with
          | 0, hj => simp at hj; subst hj; simp [Addr.add]
          | 1, hj => simp at hj; subst hj; simp [Addr.add]
        case c2 =>
          intro u hu
          simp at hu
          rcases hu with rfl | rfl <;> rfl
        case c3 => unfold maxLen; omega
        case c4 => omega
        case c5 => have := Hb.out.size; simp; omega
        · intro v' w2 hown' hgrow _
          have Hb' : Hid (Below w.heap.size w w2) := Lib.hid ((Hb.out.alloc Hb.out.size _).grown hgrow (by have := Hb.out.size; simp; omega) (fun g hg => (Hown.out.lt g hg).1))
          have Hown' : Hid (w2.ownsRow w.heap.size 36 2 v' (k + 1) (pairs .i64 ((ns.map wantOf).take (k + 1)))) := Lib.hid (by rw [Hp'.out]; exact hown')
          clear hown' hgrow
          go_wp2
          go_roundw
          case rel => exact ⟨k + 1, by omega, iv (by omega), Hown'.out, Hb'.out⟩
          case measure => simp [intOf]; omega
      · have Hp' : Hid (pairs .i64 ((ns.map wantOf).take (k + 1)) = pairs .i64 ((ns.map wantOf).take k) ++ [.int .i64 4, .int .i64 x]) := Lib.hid (by rw [Hp.out]; unfold wantOf; rw [if_neg hx])
        clear Hp
        go_wp2_with (at_builtin; refine wpList_append_own _ rfl _ _ 22 rfl w.heap.size 36 i0 (.agg #[.int .i64 0, .int .i64 0]) 2 16 Try.underlying22 hi hz0 hz1 hz2 rfl (by decide) _ _ _ rfl (Hown.out.alloc _) ⟨wr.heap.size, 0, none⟩ 1 1 [.int .i64 4, .int .i64 x] rfl rfl ?c1 ?c2 ?c3 ?c4 ?c5 ?_)
        case c2 => exact ⟨rfl, rfl⟩
        case c3 => unfold maxLen; omega
        case c4 => omega
        case c5 => have := Hb.out.size; simp; omega
        · intro v' w2 hown' hgrow _
          have Hb' : Hid (Below w.heap.size w w2) := Lib.hid ((Hb.out.alloc Hb.out.size _).grown hgrow (by have := Hb.out.size; simp; omega) (fun g hg => (Hown.out.lt g hg).1))
          have Hown' : Hid (w2.ownsRow w.heap.size 36 2 v' (k + 1) (pairs .i64 ((ns.map wantOf).take (k + 1)))) := Lib.hid (by rw [Hp'.out]; exact hown')
          clear hown' hgrow
          go_wp2
          go_roundw
          case rel => exact ⟨k + 1, by omega, iv (by omega), Hown'.out, Hb'.out⟩
          case measure => simp [intOf]; omega
    · obtain rfl : k = n := by omega
      have hown : wr.ownsRow w.heap.size 36 2 u7 k (pairs .i64 (ns.map wantOf)) := by
        have := Hown.out
        rwa [List.take_of_length_le (by rw [List.length_map]; have := Hn.out; omega)] at this
      obtain ⟨A', c', rfl, hRw⟩ := owns_reads hown
      have HRw := Lib.hid hRw
      have hrunA := fun w0 hr0 => run_any l A' k c' (ns.map wantOf) w0 (by omega) (by rw [List.length_map]; exact Hn.out) (by omega) hr0 _ HR.out
      have Hgl : Hid (gs.length ≤ ns.length) := Lib.hid (by
        have := (runF_len (l := l) (ns.map wantOf) 0).1
        rw [HR.out, List.length_map] at this
        exact this)
      clear Hown hown hRw
      go_wp2_with (go_at_call 9; (with_reducible refine (hrunA _ HRw.out).mono ?_); rintro e' w1 ⟨A1, c1, rfl, hr1, hb1⟩)
      have Hr1 := Lib.hid hr1
      have HRw1 := Lib.hid ((HRw.out.below hb1).more hb1.size)
      have HbW : Hid (Below w.heap.size w w1) := Lib.hid (Hb.out.trans (hb1.mono Hb.out.size))
      clear hr1 hb1 HRw Hb hrunA
      go_loopw [12, 13] (fun s i wr => ∃ (j p : Nat), j ≤ gs.length ∧ i = .int .i64 j ∧ s = .string ⟨(l.take p).toArray⟩ ∧ p ≤ l.length ∧ Hid (runF l p ((ns.map wantOf).drop j) = (gs.drop j, q, e)) ∧ Hid (Below w1.heap.size w1 wr)) (fun _ i _ => gs.length - (intOf i).toNat)
      case atStart => exact ⟨0, 0, by omega, rfl, by simp, by omega, HR.out, Below.refl _ _⟩
      case round =>
        obtain ⟨j, p, hj, rfl, rfl, hpl, Hrest, Hb2⟩ := hrel
        by_cases hjlt : j < gs.length
        · have hjn : j < ns.length := by have := Hgl.out; omega
          have hjg : (j : Int) < gs.length := by omega
          have hjk : ¬ (k : Int) ≤ j := by have := Hn.out; omega
          obtain ⟨b2, o2, rfl, hlt2, hc2⟩ := HRw1.out.2 (by have := Hn.out; omega)
          obtain ⟨b1, o1, rfl, hlt1, hc1⟩ := Hr1.out.2 (by omega)
          have y1 : wr.cell? ⟨b2, o2 + j * 2, none⟩ = some (.int .i64 (wantOf ns[j]).1) := (Hb2.out.cell (p := ⟨b2, o2 + j * 2, none⟩) hlt2).trans (hc2 _ _ (by rw [pairs_fst .i64 (ns.map wantOf) j (by simpa using hjn), List.getElem_map]))
          have z1 : wr.cell? ⟨b1, o1 + j * 2, none⟩ = some (.int .i64 gs[j].1) := (Hb2.out.cell (p := ⟨b1, o1 + j * 2, none⟩) hlt1).trans (hc1 _ _ (gots_fst gs j hjlt))
          have z2 : wr.cell? ⟨b1, o1 + j * 2 + 1, none⟩ = some (.string ⟨gs[j].2.toArray⟩) := (Hb2.out.cell (p := ⟨b1, o1 + (j * 2 + 1), none⟩) hlt1).trans (hc1 _ _ (gots_snd gs j hjlt))
          have hrs := Hrest.out
          rw [List.drop_eq_getElem_cons (by simpa using hjn : j < (ns.map wantOf).length), List.drop_eq_getElem_cons hjlt, List.getElem_map] at hrs
          have hp0 : (pieceF l p (wantOf ns[j]).1 (wantOf ns[j]).2).2.2 = 0 := by
            by_cases h0 : (pieceF l p (wantOf ns[j]).1 (wantOf ns[j]).2).2.2 = 0
            · exact h0
            · rw [runF_no h0] at hrs
              cases (show ([] : List (Int × List UInt8)) = gs[j] :: gs.drop (j + 1) from congrArg Prod.fst hrs)
          obtain ⟨x, s, p', hpc, hp'l, hcase⟩ := piece_size l p ns[j] hpl hp0
          rw [runF_ok hp0, hpc] at hrs
          simp only [Prod.mk.injEq, List.cons.injEq] at hrs
          have Hnext : Hid (runF l p' ((ns.map wantOf).drop (j + 1)) = (gs.drop (j + 1), q, e)) := Lib.hid (Prod.ext hrs.1.2 hrs.2)
          rw [← hrs.1.1] at z1 z2
          simp only at z1 z2
          clear hrs hp0 hpc hc1 hc2 Hrest
          generalize ns[j] = nj at *
          rcases hcase with ⟨hneg, rfl, b, rfl, htk⟩ | ⟨hneg, htk⟩
          · have hw : (wantOf nj).1 = 1 := by unfold wantOf; rw [if_pos hneg]
            rw [hw] at y1
            have hbs := byte_str b
            have ha1 : ∀ w, (Op.stringOp .add ⟨(l.take p).toArray⟩ ⟨#[b]⟩).run Try.prog w = .ok (.string ⟨(l.take p').toArray⟩) w := add_two (l.take p) [b] (l.take p') htk (by simp; omega)
            have ha2 : ∀ w, (Op.stringOp .add ⟨(l.take p').toArray⟩ ⟨#[]⟩).run Try.prog w = .ok (.string ⟨(l.take p').toArray⟩) w := add_two (l.take p') [] (l.take p') (List.append_nil _) (by simp; omega)
            have Hb3 : Hid (Below w1.heap.size w1 (wr.alloc (.cells #[.int .u8 ((b.toNat : Int) % 256)] 5))) := Lib.hid (Hb2.out.alloc Hb2.out.size _)
            have z3 : (wr.alloc (.cells #[.int .u8 ((b.toNat : Int) % 256)] 5)).cell? ⟨b1, o1 + j * 2 + 1, none⟩ = some (.string ⟨#[]⟩) := (Hb3.out.cell (p := ⟨b1, o1 + j * 2 + 1, none⟩) hlt1).trans ((Hb2.out.cell (p := ⟨b1, o1 + j * 2 + 1, none⟩) hlt1).symm.trans z2)
            clear hw htk hneg
            go_wp2
            go_roundw
            case rel => exact ⟨j + 1, p', by omega, iv (by omega), rfl, hp'l, Hnext.out, Hb3.out⟩
            case measure => simp [intOf]; omega
          · have hw : (wantOf nj).1 = 4 := by unfold wantOf; rw [if_neg hneg]
            rw [hw] at y1
            have hslen : p + s.length ≤ l.length := by
              have := congrArg List.length htk
              rw [List.length_append, List.length_take, List.length_take] at this
              omega
            have ha1 : ∀ w, (Op.stringOp .add ⟨(l.take p).toArray⟩ ⟨s.toArray⟩).run Try.prog w = .ok (.string ⟨(l.take p').toArray⟩) w := add_two (l.take p) s (l.take p') htk (by simp; omega)
            clear hw htk hneg
            go_wp2
            go_roundw
            case rel => exact ⟨j + 1, p', by omega, iv (by omega), rfl, hp'l, Hnext.out, Hb2.out⟩
            case measure => simp [intOf]; omega
        · obtain rfl : j = gs.length := by omega
          have hjg : ¬ (gs.length : Int) < gs.length := by omega
          have hq : q = (p : Int) := by
            have hrs := Hrest.out
            rw [List.drop_of_length_le (Nat.le_refl _)] at hrs
            have := runF_stop l ((ns.map wantOf).drop gs.length) p (by rw [hrs])
            rw [hrs] at this
            exact this
          subst hq
          have hfr := run_front l p hpl
          have ha3 := add_two l t (l ++ t) rfl (by omega)
          have hq0 : ¬ (p : Int) < 0 := by omega
          have hq1 : ¬ (l.length : Int) < p := by omega
          obtain ⟨ms, to, f, hS⟩ : ∃ ms to f, runF (l ++ t) 0 (ns.map wantOf) = (ms, to, f) := ⟨_, _, _, rfl⟩
          have hrunB := fun w0 hr0 => run_any (l ++ t) A' k c' (ns.map wantOf) w0 (by rw [List.length_append]; omega) (by rw [List.length_map]; exact Hn.out) (by omega) hr0 _ hS
          have HRw2 := Lib.hid ((HRw1.out.below Hb2.out).more Hb2.out.size)
          have HbW2 : Hid (Below w.heap.size w wr) := Lib.hid (HbW.out.trans (Hb2.out.mono HbW.out.size))
          by_cases he : e = 0
          · subst he
            have hb := run_behind l t ns 0 (Int.le_refl _) (by omega) (by rw [HR.out])
            rw [hS, HR.out] at hb
            simp only [Prod.mk.injEq] at hb
            obtain ⟨rfl, rfl, rfl⟩ := hb
            have hsame := fun A2 c2 w0 h1 h2 => sameGot_any A1 A2 ms.length ms.length c1 c2 ms ms w0 h1 h2 (by have := Hgl.out; have := Hn.out; omega) (by have := Hgl.out; have := Hn.out; omega)
            rw [show decide (ms = ms) = true from decide_eq_true rfl] at hsame
            clear hS Hrest
            go_wp2_with (first
              | (go_at_call 9; (with_reducible refine (hrunB _ HRw2.out).mono ?_); rintro e' w2 ⟨A2, c2, rfl, hr2, hb2⟩; have Hr2 := Lib.hid hr2; have Hr12 := Lib.hid (((Hr1.out.below Hb2.out).more Hb2.out.size |>.below hb2).more hb2.size); have HbE : Hid (Below w.heap.size w w2) := Lib.hid (HbW2.out.trans (hb2.mono HbW2.out.size)); clear hr2 hb2)
              | (go_at_call 11; refine (hsame A2 c2 _ Hr12.out Hr2.out).mono ?_; rintro e' w3 ⟨rfl, hb3⟩)
              | (go_at_call 8; refine (awake_any _).mono ?_; rintro e w9 ⟨rfl, hb9⟩))
            go_ret
            exact ⟨rfl, HbE.out.trans ((hb3.trans (hb9.mono hb3.size)).mono HbE.out.size)⟩
          · have hen : (e != 0) = true := by simpa using he
            clear hS Hrest
            go_wp2_with (first
              | (go_at_call 9; (with_reducible refine (hrunB _ HRw2.out).mono ?_); rintro e' w2 ⟨A2, c2, rfl, hr2, hb2⟩; have HbE : Hid (Below w.heap.size w w2) := Lib.hid (HbW2.out.trans (hb2.mono HbW2.out.size)); clear hr2 hb2)
              | (go_at_call 8; refine (awake_any _).mono ?_; rintro e w9 ⟨rfl, hb9⟩))
            go_ret
            exact ⟨rfl, HbE.out.trans (hb9.mono HbE.out.size)⟩

theorem takeCovers_walk (l t : List UInt8) (A : Option Addr) (n c : Nat) (ns : List Int) (w : World) (hn : ns.length = n) (hr : Reads w w.heap.size 1 A n (ints ns)) :
    Calls Try.prog 6 #[.string ⟨l.toArray⟩, .slice A n c, .string ⟨t.toArray⟩] w fun e w' => e = .returned (.bool true) ∧ Below w.heap.size w w' := by
  by_cases h : 200 < n ∨ 10000 < l.length ∨ 10000 < t.length
  · exact takeCovers_far l t A n c w h
  · obtain ⟨gs, q, e, hR⟩ : ∃ gs q e, runF l 0 (ns.map wantOf) = (gs, q, e) := ⟨_, _, _, rfl⟩
    exact takeCovers_near l t A n c ns w hn (by omega) (by omega) (by omega) hr gs q e hR

namespace TakeCovers
set_option maxRecDepth 100000 in
theorem lifted (os : Os) (started : os.Started) (H : Type) (enc : TypeId × Value → H) :
    ReturnsInHanded {} Try.checked os 6 .any (Rows.takeCoversSpec.pre6 enc Try.prog Try.f6 Rows.takeCoversRow.domain false) (Rows.takeCoversSpec.post enc Try.prog Try.f6 false true false false) := by
  refine law_sized (C := Try.checked) (tb := 4) ownP started (by kernel_rfl) Try.func6
    (ChangeSpec.witness6 (enc := enc) (C := Try.checked) false ⟨#[], #[.string ⟨#[]⟩, .slice none 0 0, .string ⟨#[]⟩], []⟩ 8 (by kernel_rfl) (by kernel_rfl) (by kernel_rfl) (by kernel_rfl))
    laidP (by kernel_rfl) rfl (by kernel_rfl) Try.underlying4 (by intro ds h; match ds, h with | [_, _, _], _ => rfl) ?_
  intro W base args ds p hval0 hA0 hlt _
  have hval : ∀ (j : Nat) t v, Try.f6.params[j]? = some t → args[j]? = some v → Value.okWide Try.prog W .any base t v := hval0
  have hA : DataW.TrodAll enc Try.prog W 0 (fun _ => true) true Try.f6.params.toList args.toList ds p := hA0
  rw [Try.params6] at hA hval
  obtain ⟨v0, v1, v2, d0, d1, d2, p0, p1, p2, rfl, rfl, rfl, h0, h1, h2⟩ := trodAll_three hA
  obtain ⟨l, rfl, rfl⟩ := open_bytes Try.underlying9 (hval 0 9 v0 rfl rfl) h0
  obtain ⟨Ans, nns, cns, ns, rfl, ens, hnns, hmns, hrns, hbns⟩ := open_nums rfl Try.underlying42 Try.underlying3 (by kernel_rfl) (hval 1 42 v1 rfl rfl) h1
  obtain ⟨t, rfl, rfl⟩ := open_bytes Try.underlying9 (hval 2 9 v2 rfl rfl) h2
  exact takeCovers_walk l t Ans nns cns ns W ens hrns

theorem holds : Rows.TakeCoversSaid :=
  OpenClaim.holds_of_wide 6 Try.f6 rfl rfl rfl rfl rfl rfl rfl ⟨rfl, rfl, rfl, rfl, rfl⟩ rfl rfl rfl rfl rfl (by kernel_rfl) Try.func6 (by kernel_rfl)
    (of_decide_eq_true (by kernel_rfl)) (by unfold Func.isWrapper; first | (rw [if_pos (by decide +kernel)]; kernel_rfl) | (rw [if_neg (by decide +kernel)]; exact ⟨rfl, rfl⟩))
    (fun os started H enc _ => lifted os started H enc)
end TakeCovers
end Go.Proofs.Ytbibjcgnaibhlaa
