/-
  Layer 21, the program's: GetFoot.
-/
import Derived.Test.YtjodckinfoldgaaHdE
import Derived.Test.YtjodckinfoldgaaHdB
import Derived.Test.YtjodckinfoldgaaStep
import Derived.Test.YtjodckinfoldgaaGrow
namespace Go.Proofs.Ytjodckinfoldgaa
set_option linter.unusedSimpArgs false
set_option linter.unusedVariables false
open Go.ChangeShapes Go.WideShapes Go.ChangeAt Go.RowKit Go.Joins Go.Deep
theorem meta_info2 : (Try.prog.info? 55).map (fun i => (i.zero, i.size, i.bytes)) = some (some (.agg #[.int .i64 0, .int .i64 0, .int .i64 0, .int .i64 0, .int .i64 0, .int .i64 0, .int .i64 0]), 7, 56) := by kernel_rfl
theorem hfs_cons2 (s : List UInt8) (k : Nat) (p : Int) (acc : List Mt) : hfs s (k + 1) p acc = if (gets s 7 p []).2.2 = 0 then hfs s k (gets s 7 p []).2.1 (acc ++ [hmof (gets s 7 p []).1]) else ([], 0, (gets s 7 p []).2.2) := rfl
theorem mtc_one (l : List Mt) : ∀ u ∈ dcs mtc l, u.oneCell' = true := fun u hu => by
  obtain ⟨e, _, h⟩ := List.mem_flatMap.1 hu
  simp only [List.mem_cons, List.not_mem_nil, or_false] at h
  rcases h with rfl | rfl | rfl | rfl | rfl | rfl | rfl <;> rfl
structure HFs (W w : World) (s : List UInt8) (g lb : Nat) (q : Int) (u v : Value) (acc : List Mt) : Prop where
  tk : Blk w g 88 #[.string ⟨s.toArray⟩, .int .i64 q]
  bx : Blk w lb 37 #[u]
  own : w.ownsRow W.heap.size 55 7 v acc.length (dcs mtc acc)
  touch : Touch W w (fun k => k = g ∨ k = lb)
  low : 0 ≤ q
  high : q ≤ s.length
section
variable {W w w' : World} {s : List UInt8} {g lb : Nat} {q q' : Int} {u v v' : Value} {acc : List Mt}
theorem HFs.drew (h : HFs W w s g lb q u v acc) : HFs W w.drew s g lb q u v acc := ⟨h.tk.drew, h.bx.drew, owns_touch h.own (touch_below (S := fun _ => False) (Below.refl _ _).drew (Nat.le_refl _)) (fun _ _ e => e), h.touch.drewN 1, h.low, h.high⟩
theorem HFs.alloc (h : HFs W w s g lb q u v acc) (o : Obj) : HFs W (w.alloc o) s g lb q u v acc := ⟨h.tk.alloc _, h.bx.alloc _, h.own.alloc _, h.touch.alloc _, h.low, h.high⟩
theorem HFs.tat (h : HFs W w s g lb q u v acc) : TAt w w s g q := ⟨h.tk, Touch.refl _ _, h.low, h.high⟩
theorem HFs.call (h : HFs W w s g lb q u v acc) (hg : g < W.heap.size) (hn : lb ≠ g) (k : TAt w w' s g q') : HFs W w' s g lb q' u v acc :=
  ⟨k.blk, h.bx.touch k.touch hn, owns_touch h.own k.touch (fun j hj e => by have := (h.own.lt j hj).1; omega), h.touch.next k.touch (fun _ _ e => Or.inl e), k.low, k.high⟩
theorem HFs.app (h : HFs W w s g lb q u v acc) (hg : g < W.heap.size) (hl : lb < W.heap.size) (m : Mt) {N : Nat} (hN : N = acc.length + 1) (ho : w'.ownsRow W.heap.size 55 7 v' N (dcs mtc acc ++ dcs mtc [m])) (hw : w.grownBy w' v.ownBlock) : HFs W w' s g lb q u v' (acc ++ [m]) := by
  have hgo : v.ownBlock ≠ some g := fun e => by have := (h.own.lt g e).1; omega
  have hlo : v.ownBlock ≠ some lb := fun e => by have := (h.own.lt lb e).1; omega
  refine ⟨h.tk.grow' hw hgo, h.bx.grow' hw hlo, ?_, h.touch.next (touch_grow hw) (fun i hi e => by have := (h.own.lt i e.symm).1; omega), h.low, h.high⟩
  rw [List.length_append, List.length_singleton, ← hN, dcs_app]
  exact ho
theorem HFs.put (h : HFs W w s g lb q u v acc) (hn : lb ≠ g) (hl : lb < W.heap.size) : HFs W (w.setCell ⟨lb, 0, none⟩ v) s g lb q v v acc := by
  have ht : Touch w (w.setCell ⟨lb, 0, none⟩ v) (fun k => k = lb) := (Touch.refl w (fun k => k = lb)).set (p := ⟨lb, 0, none⟩) (.inl rfl) _
  exact ⟨h.tk.touch ht (fun e => hn e.symm), by simpa using h.bx.set_ 0 v, owns_touch h.own ht (fun j hj e => by have := (h.own.lt j hj).1; omega), h.touch.next ht (fun _ _ e => Or.inr e), h.low, h.high⟩
end
theorem hmt_row (w : World) (m : Mt) : Reads (w.alloc (.cells (mtc m).toArray 55)) (w.alloc (.cells (mtc m).toArray 55)).heap.size 7 (some ⟨w.heap.size, 0, none⟩) 1 (dcs mtc [m]) :=
  ⟨dcs_length mtc 7 mtc_len [m], fun _ => ⟨w.heap.size, 0, rfl, by rw [World.size_alloc]; exact Nat.lt_succ_self _, fun j u hj => by rw [Nat.zero_add, (Blk.new w 55 (mtc m).toArray).cell j, List.getElem?_toArray]; simpa [dcs] using hj⟩⟩
def hGE (s : List UInt8) : Int := if (getF s 0).2.2 ≠ 0 then (getF s 0).2.2 else if 1000 < (getF s 0).1 then 3 else if (hfs s (getF s 0).1.toNat (getF s 0).2.1 []).2.2 ≠ 0 then (hfs s (getF s 0).1.toNat (getF s 0).2.1 []).2.2 else if (hfs s (getF s 0).1.toNat (getF s 0).2.1 []).2.1 < s.length then 6 else 0
def hGL (s : List UInt8) : List Mt := (hfs s (getF s 0).1.toNat (getF s 0).2.1 []).1
theorem hgf_is (s : List UInt8) : hgfF s = if hGE s ≠ 0 then ([], hGE s) else if hrow (hGL s) = true then (hGL s, 0) else ([], 211) := by
  unfold hgfF hfend hGE hGL
  by_cases h0 : (getF s 0).2.2 = 0
  case neg => simp [h0]
  by_cases h1 : 1000 < (getF s 0).1
  · simp [h0, h1]
  by_cases h2 : (hfs s (getF s 0).1.toNat (getF s 0).2.1 []).2.2 = 0
  case neg => simp [h0, h1, h2]
  by_cases h3 : (hfs s (getF s 0).1.toNat (getF s 0).2.1 []).2.1 < s.length
  · simp [h0, h1, h2, h3]
  · simp [h0, h1, h2, h3]
def HFook (W w' : World) (r : Ending) (lb g : Nat) (L : List Mt) (E : Int) : Prop :=
  PEnd r E ∧ Touch W w' (fun k => k = g ∨ k = lb) ∧ (E = 0 → L.length ≤ 1000 ∧ ∃ v, Blk w' lb 37 #[v] ∧ w'.ownsRow W.heap.size 55 7 v L.length (dcs mtc L))
theorem hfook_no {W w' : World} {lb g : Nat} {L : List Mt} {E E5 p : Int} (h5 : E5 = E) (hE : E ≠ 0) (hT : Touch W w' (fun k => k = g ∨ k = lb)) : HFook W w' (.panicked [{ v := .iface 69 (.agg #[.int .i64 E, .int .i64 p]), recovered := false }]) lb g L E5 := by
  subst h5
  exact ⟨.inr ⟨p, rfl⟩, hT, fun e => absurd e hE⟩
set_option maxRecDepth 100000 in
set_option maxHeartbeats 16000000 in
theorem h_fook (s : List UInt8) (W : World) (lb g : Nat) (hs : s.length ≤ 1000000) (hlg : lb ≠ g)
    (hP : Blk W lb 37 #[.slice none 0 0]) (hB : Blk W g 88 #[.string ⟨s.toArray⟩, .int .i64 0]) :
    Calls Try.prog 34 #[.pointer (some ⟨g, 0, none⟩), .pointer (some ⟨lb, 0, none⟩)] W fun r w' => HFook W w' r lb g (hGL s) (hGE s) := by
  have hmf : ∀ (fn : Fn) (first cap : Array Value) (w : World), (Instr.makeFunc fn first cap).run Try.prog w = .ok (.func fn first cap) w := fun _ _ _ _ => rfl
  obtain ⟨i0, hi, hz0, hz1, hz2⟩ := info_parts meta_info2
  have hgW : Hid (g < W.heap.size) := Lib.hid hB.lt
  have hlW : Hid (lb < W.heap.size) := Lib.hid hP.lt
  replace hlg := Lib.hid hlg
  have HT0 : Hid (TAt W W s g 0) := Lib.hid ⟨hB, Touch.refl _ _, Int.le_refl _, by omega⟩
  have HP := Lib.hid hP
  have hl : s.length ≤ 4611686018427387904 := by omega
  have N0 : Hid (∀ X w, TAt X w s g 0 → Calls Try.prog 30 #[.pointer (some ⟨g, 0, none⟩)] w fun r w' => TEnd X w' r s g (.int .i64 (getF s 0).1) (getF s 0).2.1 (getF s 0).2.2) := Lib.hid fun X w h => pt_num X w s g 0 hl h
  have PT : Hid (∀ q w, TAt w w s g q → Calls Try.prog 35 #[.func (.func 30) #[.pointer (some ⟨g, 0, none⟩)] #[]] w fun r w' => TEnd w w' r s g (.agg (mtc (hmof (gets s 7 q []).1)).toArray) (gets s 7 q []).2.1 (gets s 7 q []).2.2) := Lib.hid fun q w h => p_htaken w w s g q hl h
  have PE : Hid (∀ q w, TAt w w s g q → Calls Try.prog 31 #[.pointer (some ⟨g, 0, none⟩)] w fun r w' => TEnd w w' r s g (.tuple #[]) q (if q < s.length then 6 else 0)) := Lib.hid fun q w h => pt_end w w s g q hl h
  have HE : Hid (hGE s = if (getF s 0).2.2 ≠ 0 then (getF s 0).2.2 else if 1000 < (getF s 0).1 then 3 else if (hfs s (getF s 0).1.toNat (getF s 0).2.1 []).2.2 ≠ 0 then (hfs s (getF s 0).1.toNat (getF s 0).2.1 []).2.2 else if (hfs s (getF s 0).1.toNat (getF s 0).2.1 []).2.1 < s.length then 6 else 0) := Lib.hid rfl
  have HL : Hid (hGL s = (hfs s (getF s 0).1.toNat (getF s 0).2.1 []).1) := Lib.hid rfl
  have hn := fun h => (rnum_ok (s := s) (p := 0) h).2.2.1
  generalize hGE s = GE at *
  generalize hGL s = GL at *
  obtain ⟨⟨x, q0, e0⟩, hg⟩ : ∃ G, getF s 0 = G := ⟨_, rfl⟩
  rw [hg] at N0 HE HL hn
  dsimp only at N0 HE HL hn
  clear hP hB hl hg
  by_cases h0 : e0 = 0
  case neg =>
    have hq : GE = e0 := by rw [HE.out, if_pos h0]
    replace N0 : Hid (∀ X w, TAt X w s g 0 → Calls Try.prog 30 #[.pointer (some ⟨g, 0, none⟩)] w fun r w' => (∃ p : Int, r = (.panicked [{ v := .iface 69 (.agg #[.int .i64 e0, .int .i64 p]), recovered := false }])) ∧ Touch X w' (fun k => k = g)) := Lib.hid fun X w h => (N0.out X w h).mono fun r w' k => k.elim (fun k => absurd k.1 h0) (fun k => k.2)
    clear PT PE HE HL hn
    go_enter Try.func34, Try.ntmps34
    go_wp2_with (first | (go_at_call 30; (with_reducible refine (N0.out _ _ HT0.out).mono ?_); rintro e w1 ⟨⟨p, rfl⟩, hT⟩) | fail)
    exact pt_panic rfl (hfook_no hq h0 (hT.mono (fun _ _ e => Or.inl e)))
  case pos =>
    have hx := hn h0
    subst h0
    rw [if_neg (by simp)] at HE
    replace N0 : Hid (∀ X w, TAt X w s g 0 → Calls Try.prog 30 #[.pointer (some ⟨g, 0, none⟩)] w fun r w' => r = .returned (.int .i64 x) ∧ TAt X w' s g q0) := Lib.hid fun X w h => (N0.out X w h).mono fun r w' k => k.elim (fun k => k.2) (fun k => absurd rfl k.1)
    obtain ⟨n, rfl⟩ := Int.eq_ofNat_of_zero_le hx
    rw [Int.toNat_natCast] at HE HL
    by_cases hbig : 1000 < n
    case pos =>
      have hq : GE = 3 := by rw [HE.out, if_pos (by omega)]
      have hni : (1000 : Int) < (n : Int) := by omega
      clear PT PE HE HL hn
      go_enter Try.func34, Try.ntmps34
      go_wp2_with (first | (go_at_call 30; (with_reducible refine (N0.out _ _ HT0.out).mono ?_); rintro e w1 ⟨rfl, hT⟩; have HT1 := Lib.hid hT; clear hT N0) | fail)
      exact pt_panic rfl (hfook_no hq (by decide) (HT1.out.touch.mono (fun _ _ e => Or.inl e)))
    case neg =>
      have hni : ¬ (1000 : Int) < (n : Int) := by omega
      rw [if_neg hni] at HE
      obtain ⟨r, hr⟩ : ∃ r, hfs s n q0 [] = r := ⟨_, rfl⟩
      rw [hr] at HE HL
      have HR := Lib.hid hr
      clear hr hn
      go_enter Try.func34, Try.ntmps34
      go_wp2_with (first | (go_at_call 30; (with_reducible refine (N0.out _ _ HT0.out).mono ?_); rintro e w1 ⟨rfl, hT⟩; have HT1 := Lib.hid hT; clear hT N0) | fail)
      have HF0 : Hid (HFs W w1 s g lb q0 (.slice none 0 0) (.slice none 0 0) []) := Lib.hid ⟨HT1.out.blk, HP.out.touch HT1.out.touch hlg.out, World.ownsRow_nil _ _ _ _, HT1.out.touch.mono (fun _ _ e => Or.inl e), HT1.out.low, HT1.out.high⟩
      clear HT0 HP HT1
      go_loopw [14] (fun iv wr => ∃ (k : Nat) (q : Int) (acc : List Mt) (v : Value), k ≤ n ∧ iv = .int .i64 (k : Int) ∧ Hid (acc.length = k) ∧ Hid (HFs W wr s g lb q v v acc) ∧ Hid (hfs s (n - k) q acc = r)) (fun iv _ => n - (intOf iv).toNat)
      case atStart => exact ⟨0, q0, [], _, by omega, rfl, Lib.hid rfl, HF0, HR⟩
      case round =>
        clear HF0
        obtain ⟨k, q, acc, v, hk, rfl, Hacc, HF, Hg⟩ := hrel
        by_cases hlt : k < n
        case pos =>
          have hki : (0 : Int) ≤ (k : Int) ∧ (k : Int) < (n : Int) := by omega
          have hacc := Hacc.out
          have hstep := hfs_cons2 s (n - (k + 1)) q acc
          rw [show n - (k + 1) + 1 = n - k from by omega, Hg.out] at hstep
          have PQ := Lib.hid (fun w => PT.out q w)
          obtain ⟨⟨g7, tq, er⟩, hG⟩ : ∃ G, gets s 7 q [] = G := ⟨_, rfl⟩
          rw [hG] at hstep PQ
          dsimp only at hstep PQ
          clear hG PT PE Hg HR
          by_cases her : er = 0
          case neg =>
            rw [if_neg her] at hstep
            have Hgo : Hid (GE = er) := Lib.hid (by rw [HE.out, hstep]; dsimp only; rw [if_pos her])
            replace PQ : Hid (∀ w, TAt w w s g q → Calls Try.prog 35 #[.func (.func 30) #[.pointer (some ⟨g, 0, none⟩)] #[]] w fun r w' => (∃ p : Int, r = (.panicked [{ v := .iface 69 (.agg #[.int .i64 er, .int .i64 p]), recovered := false }])) ∧ Touch w w' (fun k => k = g)) := Lib.hid fun w h => (PQ.out w h).mono fun r w' k => k.elim (fun k => absurd k.1 her) (fun k => k.2)
            clear HE HL hstep hacc
            go_wp2
            replace HF := Lib.hid HF.out.drew
            refine wp_region_held_drew (S := (fun _ => True)) (by kernel_rfl) (trivial) (fun hHeld => ?_)
            refine wpAnyH_take (i := 1) (oi := _) (v := ?_) rfl (by kernel_rfl) (by kernel_rfl) (by kernel_rfl) (fun _ _ _ h => h) (Or.inl ⟨by rfl, ?_⟩) hHeld ?_
            rotate_left
            · (intro wz hSw; go_simp; try (with_reducible rfl))
            (try dsimp only [List.getElem_toArray, List.getElem_cons_zero, List.getElem_cons_succ]); (try simp only [Act.put, List.setIfInBounds_toArray, List.set_cons_zero, List.set_cons_succ])
            refine wpAnyH_ready (rs := [0, 2]) (by kernel_rfl) (by simp) ?_
            refine AllReadyH.cons (o := _) rfl (fun K hK => ?_) ?_
            · skip
              have k0 := HF.out.bx.cell 0
              simp only [List.getElem?_toArray, List.getElem?_cons_zero] at k0
              go_simp
              refine hK.out _ _ (trivial) (fun hH => ?_)
              clear hK K hHeld
              have hHeld := hH
              clear hH
              clear k0
              (try dsimp only [List.getElem_toArray, List.getElem_cons_zero, List.getElem_cons_succ]); (try simp only [Act.put, List.setIfInBounds_toArray, List.set_cons_zero, List.set_cons_succ])
              refine wpAnyH_ready (rs := [2]) (by kernel_rfl) (by simp) ?_
              refine AllReadyH.cons (o := _) rfl (fun K hK => ?_) AllReadyH.nil
              go_simp
              go_at_call 35
              (with_reducible refine (PQ.out _ HF.out.tat).mono ?_)
              rintro e w2 ⟨⟨p, rfl⟩, hT⟩
              exact pt_panic (P := Try.prog) (fn := Try.f34) (R := fun r w' => HFook W w' r lb g GL GE) rfl (hfook_no Hgo.out her (HF.out.touch.next hT (fun _ _ e => Or.inl e)))
            refine AllReadyH.cons (o := _) rfl (fun K hK => ?_) AllReadyH.nil
            go_simp
            go_at_call 35
            (with_reducible refine (PQ.out _ HF.out.tat).mono ?_)
            rintro e w2 ⟨⟨p, rfl⟩, hT⟩
            exact pt_panic (P := Try.prog) (fn := Try.f34) (R := fun r w' => HFook W w' r lb g GL GE) rfl (hfook_no Hgo.out her (HF.out.touch.next hT (fun _ _ e => Or.inl e)))
          case pos =>
            subst her
            rw [if_pos rfl] at hstep
            replace PQ : Hid (∀ w, TAt w w s g q → Calls Try.prog 35 #[.func (.func 30) #[.pointer (some ⟨g, 0, none⟩)] #[]] w fun r w' => r = .returned (.agg (mtc (hmof g7)).toArray) ∧ TAt w w' s g tq) := Lib.hid fun w h => (PQ.out w h).mono fun r w' k => k.elim (fun k => k.2) (fun k => absurd rfl k.1)
            generalize hmof g7 = mm at *
            obtain ⟨a0, a1, a2, a3, a4, a5, a6⟩ := mm
            replace PQ : Hid (∀ w, TAt w w s g q → Calls Try.prog 35 #[.func (.func 30) #[.pointer (some ⟨g, 0, none⟩)] #[]] w fun r w' => r = .returned (.agg #[.int .i64 a0, .int .i64 a1, .int .i64 a2, .int .i64 a3, .int .i64 a4, .int .i64 a5, .int .i64 a6]) ∧ TAt w w' s g tq) := PQ
            have HS := Lib.hid hstep.symm
            clear HE HL hstep
            go_wp2
            replace HF := Lib.hid HF.out.drew
            refine wp_region_held_drew (S := (fun _ => True)) (by kernel_rfl) (trivial) (fun hHeld => ?_)
            refine wpAnyH_take (i := 1) (oi := _) (v := ?_) rfl (by kernel_rfl) (by kernel_rfl) (by kernel_rfl) (fun _ _ _ h => h) (Or.inl ⟨by rfl, ?_⟩) hHeld ?_
            rotate_left
            · (intro wz hSw; go_simp; try (with_reducible rfl))
            (try dsimp only [List.getElem_toArray, List.getElem_cons_zero, List.getElem_cons_succ]); (try simp only [Act.put, List.setIfInBounds_toArray, List.set_cons_zero, List.set_cons_succ])
            refine wpAnyH_ready (rs := [0, 2]) (by kernel_rfl) (by simp) ?_
            refine AllReadyH.cons (o := _) rfl (fun K hK => ?_) ?_
            · skip
              have k0 := HF.out.bx.cell 0
              simp only [List.getElem?_toArray, List.getElem?_cons_zero] at k0
              go_simp
              refine hK.out _ _ (trivial) (fun hH => ?_)
              clear hK K hHeld
              have hHeld := hH
              clear hH
              clear k0
              (try dsimp only [List.getElem_toArray, List.getElem_cons_zero, List.getElem_cons_succ]); (try simp only [Act.put, List.setIfInBounds_toArray, List.set_cons_zero, List.set_cons_succ])
              refine wpAnyH_ready (rs := [2]) (by kernel_rfl) (by simp) ?_
              refine AllReadyH.cons (o := _) rfl (fun K hK => ?_) AllReadyH.nil
              go_simp
              go_at_call 35
              (with_reducible refine (PQ.out _ HF.out.tat).mono ?_)
              rintro e w2 ⟨rfl, hT⟩
              replace HF := Lib.hid (HF.out.call hgW.out hlg.out hT)
              clear hT PQ
              have hb1 : True := trivial
              refine hK.out _ _ (trivial) (fun hH => ?_)
              clear hHeld hK K hb1
              have hHeld := hH
              clear hH
              (try dsimp only [List.getElem_toArray, List.getElem_cons_zero, List.getElem_cons_succ]); (try simp only [Act.put, List.setIfInBounds_toArray, List.set_cons_zero, List.set_cons_succ])
              refine wpAnyH_ready (rs := [3]) (by kernel_rfl) (by simp) ?_
              refine AllReadyH.cons (o := _) rfl (fun K hK => ?_) AllReadyH.nil
              go_simp
              refine hK.out _ _ (trivial) (fun hH => ?_)
              clear hK K hHeld
              have hHeld := hH
              clear hH
              have HRd := Lib.hid (hmt_row w2 ((a0, a1, a2, a3, a4, a5, a6) : Mt))
              replace HF := Lib.hid (HF.out.alloc (.cells #[.int .i64 a0, .int .i64 a1, .int .i64 a2, .int .i64 a3, .int .i64 a4, .int .i64 a5, .int .i64 a6] 55))
              have HRd2 : Hid (Reads (w2.alloc (.cells #[.int .i64 a0, .int .i64 a1, .int .i64 a2, .int .i64 a3, .int .i64 a4, .int .i64 a5, .int .i64 a6] 55)) (w2.alloc (.cells #[.int .i64 a0, .int .i64 a1, .int .i64 a2, .int .i64 a3, .int .i64 a4, .int .i64 a5, .int .i64 a6] 55)).heap.size 7 (some ⟨w2.heap.size, 0, none⟩) 1 (dcs mtc [((a0, a1, a2, a3, a4, a5, a6) : Mt)])) := HRd
              clear HRd
              have HRd := HRd2
              clear HRd2
              generalize w2.alloc (.cells #[.int .i64 a0, .int .i64 a1, .int .i64 a2, .int .i64 a3, .int .i64 a4, .int .i64 a5, .int .i64 a6] 55) = w2b at *
              generalize w2.heap.size = N at *
              (try dsimp only [List.getElem_toArray, List.getElem_cons_zero, List.getElem_cons_succ]); (try simp only [Act.put, List.setIfInBounds_toArray, List.set_cons_zero, List.set_cons_succ])
              refine wpAnyH_ready (rs := [4]) (by kernel_rfl) (by simp) ?_
              refine AllReadyH.cons (o := _) rfl (fun K hK => ?_) AllReadyH.nil
              refine lstep_append (by rfl) (.tmp 16) (.tmp 19) 37 (by rfl) W.heap.size 55 i0 (.agg #[.int .i64 0, .int .i64 0, .int .i64 0, .int .i64 0, .int .i64 0, .int .i64 0, .int .i64 0]) 7 56 Try.underlying37 hi hz0 hz1 hz2 rfl (by decide) v acc.length (dcs mtc acc) (by rfl) HF.out.own (some ⟨N, 0, none⟩) 1 1 _ (dcs mtc [((a0, a1, a2, a3, a4, a5, a6) : Mt)]) (by rfl) HRd.out (mtc_one _) (by unfold maxLen; omega) (by omega) HF.out.touch.size (acc.length + 1) rfl ?_
              intro A2 c2 w3 ho_ hg_ hs_
              refine hK.out _ _ (trivial) (fun hH => ?_)
              clear hK K hHeld
              have hHeld := hH
              clear hH
              replace HF := Lib.hid (HF.out.app hgW.out hlW.out ((a0, a1, a2, a3, a4, a5, a6) : Mt) rfl ho_ hg_)
              clear ho_ hg_ hs_
              have k0 := HF.out.bx.cell 0; have z0 := HF.out.bx.frozen 0
              simp only [List.getElem?_toArray, List.getElem?_cons_zero] at k0
              (try dsimp only [List.getElem_toArray, List.getElem_cons_zero, List.getElem_cons_succ]); (try simp only [Act.put, List.setIfInBounds_toArray, List.set_cons_zero, List.set_cons_succ])
              refine wpAnyH_ready (rs := [5]) (by kernel_rfl) (by simp) ?_
              refine AllReadyH.cons (o := _) rfl (fun K hK => ?_) AllReadyH.nil
              go_simp
              refine hK.out _ _ (trivial) (fun hH => ?_)
              clear hK K hHeld
              have hHeld := hH
              clear hH
              clear k0 z0
              (try dsimp only [List.getElem_toArray, List.getElem_cons_zero, List.getElem_cons_succ]); (try simp only [Act.put, List.setIfInBounds_toArray, List.set_cons_zero, List.set_cons_succ])
              refine wpAnyH_done (by kernel_rfl) ?_ _
              clear hHeld
              have HF4 := Lib.hid (HF.out.put hlg.out hlW.out)
              rw [hacc] at HF4
              clear HF HRd
              go_wp2
              go_roundw
              case rel => exact ⟨k + 1, tq, acc ++ [((a0, a1, a2, a3, a4, a5, a6) : Mt)], _, by omega, iv (by omega), Lib.hid (by rw [List.length_append, List.length_singleton, hacc]), HF4, HS⟩
              case measure => simp only [intOf]; omega
            refine AllReadyH.cons (o := _) rfl (fun K hK => ?_) AllReadyH.nil
            go_simp
            go_at_call 35
            (with_reducible refine (PQ.out _ HF.out.tat).mono ?_)
            rintro e w2 ⟨rfl, hT⟩
            replace HF := Lib.hid (HF.out.call hgW.out hlg.out hT)
            clear hT PQ
            have hb1 : True := trivial
            refine hK.out _ _ (trivial) (fun hH => ?_)
            clear hHeld hK K hb1
            have hHeld := hH
            clear hH
            (try dsimp only [List.getElem_toArray, List.getElem_cons_zero, List.getElem_cons_succ]); (try simp only [Act.put, List.setIfInBounds_toArray, List.set_cons_zero, List.set_cons_succ])
            refine wpAnyH_ready (rs := [0, 3]) (by kernel_rfl) (by simp) ?_
            refine AllReadyH.cons (o := _) rfl (fun K hK => ?_) ?_
            · skip
              have k0 := HF.out.bx.cell 0
              simp only [List.getElem?_toArray, List.getElem?_cons_zero] at k0
              go_simp
              refine hK.out _ _ (trivial) (fun hH => ?_)
              clear hK K hHeld
              have hHeld := hH
              clear hH
              clear k0
              (try dsimp only [List.getElem_toArray, List.getElem_cons_zero, List.getElem_cons_succ]); (try simp only [Act.put, List.setIfInBounds_toArray, List.set_cons_zero, List.set_cons_succ])
              refine wpAnyH_ready (rs := [3]) (by kernel_rfl) (by simp) ?_
              refine AllReadyH.cons (o := _) rfl (fun K hK => ?_) AllReadyH.nil
              go_simp
              refine hK.out _ _ (trivial) (fun hH => ?_)
              clear hK K hHeld
              have hHeld := hH
              clear hH
              have HRd := Lib.hid (hmt_row w2 ((a0, a1, a2, a3, a4, a5, a6) : Mt))
              replace HF := Lib.hid (HF.out.alloc (.cells #[.int .i64 a0, .int .i64 a1, .int .i64 a2, .int .i64 a3, .int .i64 a4, .int .i64 a5, .int .i64 a6] 55))
              have HRd2 : Hid (Reads (w2.alloc (.cells #[.int .i64 a0, .int .i64 a1, .int .i64 a2, .int .i64 a3, .int .i64 a4, .int .i64 a5, .int .i64 a6] 55)) (w2.alloc (.cells #[.int .i64 a0, .int .i64 a1, .int .i64 a2, .int .i64 a3, .int .i64 a4, .int .i64 a5, .int .i64 a6] 55)).heap.size 7 (some ⟨w2.heap.size, 0, none⟩) 1 (dcs mtc [((a0, a1, a2, a3, a4, a5, a6) : Mt)])) := HRd
              clear HRd
              have HRd := HRd2
              clear HRd2
              generalize w2.alloc (.cells #[.int .i64 a0, .int .i64 a1, .int .i64 a2, .int .i64 a3, .int .i64 a4, .int .i64 a5, .int .i64 a6] 55) = w2b at *
              generalize w2.heap.size = N at *
              (try dsimp only [List.getElem_toArray, List.getElem_cons_zero, List.getElem_cons_succ]); (try simp only [Act.put, List.setIfInBounds_toArray, List.set_cons_zero, List.set_cons_succ])
              refine wpAnyH_ready (rs := [4]) (by kernel_rfl) (by simp) ?_
              refine AllReadyH.cons (o := _) rfl (fun K hK => ?_) AllReadyH.nil
              refine lstep_append (by rfl) (.tmp 16) (.tmp 19) 37 (by rfl) W.heap.size 55 i0 (.agg #[.int .i64 0, .int .i64 0, .int .i64 0, .int .i64 0, .int .i64 0, .int .i64 0, .int .i64 0]) 7 56 Try.underlying37 hi hz0 hz1 hz2 rfl (by decide) v acc.length (dcs mtc acc) (by rfl) HF.out.own (some ⟨N, 0, none⟩) 1 1 _ (dcs mtc [((a0, a1, a2, a3, a4, a5, a6) : Mt)]) (by rfl) HRd.out (mtc_one _) (by unfold maxLen; omega) (by omega) HF.out.touch.size (acc.length + 1) rfl ?_
              intro A2 c2 w3 ho_ hg_ hs_
              refine hK.out _ _ (trivial) (fun hH => ?_)
              clear hK K hHeld
              have hHeld := hH
              clear hH
              replace HF := Lib.hid (HF.out.app hgW.out hlW.out ((a0, a1, a2, a3, a4, a5, a6) : Mt) rfl ho_ hg_)
              clear ho_ hg_ hs_
              have k0 := HF.out.bx.cell 0; have z0 := HF.out.bx.frozen 0
              simp only [List.getElem?_toArray, List.getElem?_cons_zero] at k0
              (try dsimp only [List.getElem_toArray, List.getElem_cons_zero, List.getElem_cons_succ]); (try simp only [Act.put, List.setIfInBounds_toArray, List.set_cons_zero, List.set_cons_succ])
              refine wpAnyH_ready (rs := [5]) (by kernel_rfl) (by simp) ?_
              refine AllReadyH.cons (o := _) rfl (fun K hK => ?_) AllReadyH.nil
              go_simp
              refine hK.out _ _ (trivial) (fun hH => ?_)
              clear hK K hHeld
              have hHeld := hH
              clear hH
              clear k0 z0
              (try dsimp only [List.getElem_toArray, List.getElem_cons_zero, List.getElem_cons_succ]); (try simp only [Act.put, List.setIfInBounds_toArray, List.set_cons_zero, List.set_cons_succ])
              refine wpAnyH_done (by kernel_rfl) ?_ _
              clear hHeld
              have HF4 := Lib.hid (HF.out.put hlg.out hlW.out)
              rw [hacc] at HF4
              clear HF HRd
              go_wp2
              go_roundw
              case rel => exact ⟨k + 1, tq, acc ++ [((a0, a1, a2, a3, a4, a5, a6) : Mt)], _, by omega, iv (by omega), Lib.hid (by rw [List.length_append, List.length_singleton, hacc]), HF4, HS⟩
              case measure => simp only [intOf]; omega
            refine AllReadyH.cons (o := _) rfl (fun K hK => ?_) AllReadyH.nil
            go_simp
            refine hK.out _ _ (trivial) (fun hH => ?_)
            clear hK K hHeld
            have hHeld := hH
            clear hH
            have HRd := Lib.hid (hmt_row w2 ((a0, a1, a2, a3, a4, a5, a6) : Mt))
            replace HF := Lib.hid (HF.out.alloc (.cells #[.int .i64 a0, .int .i64 a1, .int .i64 a2, .int .i64 a3, .int .i64 a4, .int .i64 a5, .int .i64 a6] 55))
            have HRd2 : Hid (Reads (w2.alloc (.cells #[.int .i64 a0, .int .i64 a1, .int .i64 a2, .int .i64 a3, .int .i64 a4, .int .i64 a5, .int .i64 a6] 55)) (w2.alloc (.cells #[.int .i64 a0, .int .i64 a1, .int .i64 a2, .int .i64 a3, .int .i64 a4, .int .i64 a5, .int .i64 a6] 55)).heap.size 7 (some ⟨w2.heap.size, 0, none⟩) 1 (dcs mtc [((a0, a1, a2, a3, a4, a5, a6) : Mt)])) := HRd
            clear HRd
            have HRd := HRd2
            clear HRd2
            generalize w2.alloc (.cells #[.int .i64 a0, .int .i64 a1, .int .i64 a2, .int .i64 a3, .int .i64 a4, .int .i64 a5, .int .i64 a6] 55) = w2b at *
            generalize w2.heap.size = N at *
            (try dsimp only [List.getElem_toArray, List.getElem_cons_zero, List.getElem_cons_succ]); (try simp only [Act.put, List.setIfInBounds_toArray, List.set_cons_zero, List.set_cons_succ])
            refine wpAnyH_ready (rs := [0]) (by kernel_rfl) (by simp) ?_
            refine AllReadyH.cons (o := _) rfl (fun K hK => ?_) AllReadyH.nil
            have k0 := HF.out.bx.cell 0
            simp only [List.getElem?_toArray, List.getElem?_cons_zero] at k0
            go_simp
            refine hK.out _ _ (trivial) (fun hH => ?_)
            clear hK K hHeld
            have hHeld := hH
            clear hH
            clear k0
            (try dsimp only [List.getElem_toArray, List.getElem_cons_zero, List.getElem_cons_succ]); (try simp only [Act.put, List.setIfInBounds_toArray, List.set_cons_zero, List.set_cons_succ])
            refine wpAnyH_ready (rs := [4]) (by kernel_rfl) (by simp) ?_
            refine AllReadyH.cons (o := _) rfl (fun K hK => ?_) AllReadyH.nil
            refine lstep_append (by rfl) (.tmp 16) (.tmp 19) 37 (by rfl) W.heap.size 55 i0 (.agg #[.int .i64 0, .int .i64 0, .int .i64 0, .int .i64 0, .int .i64 0, .int .i64 0, .int .i64 0]) 7 56 Try.underlying37 hi hz0 hz1 hz2 rfl (by decide) v acc.length (dcs mtc acc) (by rfl) HF.out.own (some ⟨N, 0, none⟩) 1 1 _ (dcs mtc [((a0, a1, a2, a3, a4, a5, a6) : Mt)]) (by rfl) HRd.out (mtc_one _) (by unfold maxLen; omega) (by omega) HF.out.touch.size (acc.length + 1) rfl ?_
            intro A2 c2 w3 ho_ hg_ hs_
            refine hK.out _ _ (trivial) (fun hH => ?_)
            clear hK K hHeld
            have hHeld := hH
            clear hH
            replace HF := Lib.hid (HF.out.app hgW.out hlW.out ((a0, a1, a2, a3, a4, a5, a6) : Mt) rfl ho_ hg_)
            clear ho_ hg_ hs_
            have k0 := HF.out.bx.cell 0; have z0 := HF.out.bx.frozen 0
            simp only [List.getElem?_toArray, List.getElem?_cons_zero] at k0
            (try dsimp only [List.getElem_toArray, List.getElem_cons_zero, List.getElem_cons_succ]); (try simp only [Act.put, List.setIfInBounds_toArray, List.set_cons_zero, List.set_cons_succ])
            refine wpAnyH_ready (rs := [5]) (by kernel_rfl) (by simp) ?_
            refine AllReadyH.cons (o := _) rfl (fun K hK => ?_) AllReadyH.nil
            go_simp
            refine hK.out _ _ (trivial) (fun hH => ?_)
            clear hK K hHeld
            have hHeld := hH
            clear hH
            clear k0 z0
            (try dsimp only [List.getElem_toArray, List.getElem_cons_zero, List.getElem_cons_succ]); (try simp only [Act.put, List.setIfInBounds_toArray, List.set_cons_zero, List.set_cons_succ])
            refine wpAnyH_done (by kernel_rfl) ?_ _
            clear hHeld
            have HF4 := Lib.hid (HF.out.put hlg.out hlW.out)
            rw [hacc] at HF4
            clear HF HRd
            go_wp2
            go_roundw
            case rel => exact ⟨k + 1, tq, acc ++ [((a0, a1, a2, a3, a4, a5, a6) : Mt)], _, by omega, iv (by omega), Lib.hid (by rw [List.length_append, List.length_singleton, hacc]), HF4, HS⟩
            case measure => simp only [intOf]; omega
        case neg =>
          obtain rfl : k = n := by omega
          have hz : ¬ (k : Int) < (k : Int) := by omega
          have hend : r = (acc, q, 0) := by rw [← Hg.out, Nat.sub_self]; rfl
          subst hend
          replace HE : Hid (GE = if q < s.length then 6 else 0) := Lib.hid (by rw [HE.out]; rfl)
          replace HL : Hid (GL = acc) := HL
          have PEq := Lib.hid (PE.out q wr HF.out.tat)
          have hacc := Hacc.out
          clear PT PE HR Hg
          by_cases hq : q < s.length
          case pos =>
            rw [if_pos hq] at HE PEq
            replace PEq : Hid (Calls Try.prog 31 #[.pointer (some ⟨g, 0, none⟩)] wr fun r w' => (∃ p : Int, r = (.panicked [{ v := .iface 69 (.agg #[.int .i64 6, .int .i64 p]), recovered := false }])) ∧ Touch wr w' (fun k => k = g)) := Lib.hid (PEq.out.mono fun r w' k => k.elim (fun k => absurd k.1 (by decide)) (fun k => k.2))
            go_wp2_with (first | (go_at_call 31; (with_reducible refine PEq.out.mono ?_); rintro e w6 ⟨⟨p, rfl⟩, hT⟩) | fail)
            exact pt_panic rfl (hfook_no HE.out (by decide) (HF.out.touch.next hT (fun _ _ e => Or.inl e)))
          case neg =>
            rw [if_neg hq] at HE PEq
            replace PEq : Hid (Calls Try.prog 31 #[.pointer (some ⟨g, 0, none⟩)] wr fun r w' => r = .returned (.tuple #[]) ∧ TAt wr w' s g q) := Lib.hid (PEq.out.mono fun r w' k => k.elim (fun k => k.2) (fun k => absurd rfl k.1))
            go_wp2_with (first | (go_at_call 31; (with_reducible refine PEq.out.mono ?_); rintro e w6 ⟨rfl, hT⟩; replace HF := Lib.hid (HF.out.call hgW.out hlg.out hT); clear hT PEq) | fail)
            go_end0
            rw [HE.out, HL.out]
            exact ⟨.inl ⟨rfl, _, rfl⟩, HF.out.touch, fun _ => ⟨by omega, v, HF.out.bx, HF.out.own⟩⟩
theorem h_takef (s : List UInt8) (w : World) (hs : s.length ≤ 1000000) :
    Calls Try.prog 28 #[.string ⟨s.toArray⟩, .func (.func 34) #[] #[.pointer (some ⟨w.heap.size, 0, none⟩)]] (w.alloc (.cells #[.slice none 0 0] 37)) fun r w' =>
      r = .returned (.int .i64 (hGE s)) ∧ (hGE s = 0 → (hGL s).length ≤ 1000 ∧ ∃ A c, Blk w' w.heap.size 37 #[.slice A (hGL s).length c] ∧ (hGL s).length ≤ c ∧ Reads w' w'.heap.size 7 A (hGL s).length (dcs mtc (hGL s))) ∧ Below w.heap.size w w' := by
  have hs1 : (w.alloc (.cells #[.slice none 0 0] 37)).heap.size = w.heap.size + 1 := by rw [World.size_alloc]
  have b1 : Blk (w.alloc (.cells #[.slice none 0 0] 37)) w.heap.size 37 #[.slice none 0 0] := Blk.new w _ _
  have hb : Below w.heap.size w (w.alloc (.cells #[.slice none 0 0] 37)) := (Below.refl _ _).alloc (Nat.le_refl _) _
  generalize w.alloc (.cells #[.slice none 0 0] 37) = W at *
  have b3 := Blk.new W 25 #[.int .i64 0]
  have b4 : Blk ((W.alloc (.cells #[.int .i64 0] 25)).alloc (.cells #[.string ⟨s.toArray⟩, .int .i64 0] 88)) (W.heap.size + 1) 88 #[.string ⟨s.toArray⟩, .int .i64 0] := by
    have := Blk.new (W.alloc (.cells #[.int .i64 0] 25)) 88 #[.string ⟨s.toArray⟩, .int .i64 0]
    rwa [World.size_alloc] at this
  refine (p_ptake 34 #[.pointer (some ⟨w.heap.size, 0, none⟩)] ⟨s.toArray⟩ (hGE s) W
    (fun w1 => (hGE s = 0 → (hGL s).length ≤ 1000 ∧ ∃ v, Blk w1 w.heap.size 37 #[v] ∧ w1.ownsRow (W.heap.size + 2) 55 7 v (hGL s).length (dcs mtc (hGL s))) ∧ Below w.heap.size w w1) (pt_enters Try.func34 (by kernel_rfl) rfl) ?_).mono ?_
  · have hb2 : Below w.heap.size w ((W.alloc (.cells #[.int .i64 0] 25)).alloc (.cells #[.string ⟨s.toArray⟩, .int .i64 0] 88)) := (hb.alloc (by omega) _).alloc (by rw [World.size_alloc]; omega) _
    have hs2 : ((W.alloc (.cells #[.int .i64 0] 25)).alloc (.cells #[.string ⟨s.toArray⟩, .int .i64 0] 88)).heap.size = W.heap.size + 2 := by simp only [World.size_alloc]
    refine (h_fook s _ w.heap.size (W.heap.size + 1) hs (by omega) ((b1.alloc _).alloc _) b4).mono ?_
    rintro r w' ⟨h1, h2, h3⟩
    rw [hs2] at h3
    exact ⟨h1, (b3.alloc _).touch h2 (by omega), h3, hb2.trans (h2.below (fun k _ e => by omega) (by omega))⟩
  · rintro r w' ⟨rfl, w1, ⟨h1, h2⟩, rfl⟩
    have ht : Touch w1 (w1.setCell ⟨W.heap.size, 0, none⟩ (.int .i64 (hGE s))) (fun k => k = W.heap.size) := (Touch.refl w1 (fun k => k = W.heap.size)).set (p := ⟨W.heap.size, 0, none⟩) (.inl rfl) _
    refine ⟨rfl, fun e => ?_, h2.setCell (p := ⟨W.heap.size, 0, none⟩) (by show w.heap.size ≤ W.heap.size; omega) _⟩
    obtain ⟨k1, v, k2, k3⟩ := h1 e
    obtain ⟨A, c, rfl, hc, hr⟩ := owns_cells (owns_touch k3 ht (fun j hj e => by have := (k3.lt j hj).1; omega))
    exact ⟨k1, A, c, k2.touch ht (by omega), hc, hr⟩
def HMP2 (w w' : World) (e : Ending) (F : List Mt × Int) : Prop := ∃ A c, e = .returned (.tuple #[.slice A F.1.length c, .int .i64 F.2]) ∧ F.1.length ≤ c ∧ Reads w' w'.heap.size 7 A F.1.length (dcs mtc F.1) ∧ Below w.heap.size w w'
set_option maxRecDepth 100000 in
set_option maxHeartbeats 4000000 in
theorem p_hgf2 (s : List UInt8) (w : World) (hs : s.length ≤ 1000000) : Calls Try.prog 16 #[.string ⟨s.toArray⟩] w fun e w' => HMP2 w w' e (hgfF s) := by
  have hmf : ∀ (fn : Fn) (first cap : Array Value) (w : World), (Instr.makeFunc fn first cap).run Try.prog w = .ok (.func fn first cap) w := fun _ _ _ _ => rfl
  have Hc := Lib.hid (h_takef s w hs)
  rw [hgf_is]
  clear hs
  by_cases hE : hGE s ≠ 0
  case pos =>
    rw [if_pos hE]
    have hq : (hGE s == 0) = false := by rw [beq_eq_false_iff_ne]; exact hE
    generalize hGE s = E at *
    go_enter Try.func16, Try.ntmps16
    go_wp2_with (first | (go_at_call 28; (with_reducible refine Hc.out.mono ?_); rintro r w2 ⟨rfl, h1, h2⟩; have HW := Lib.hid h2; clear h1 h2 Hc) | fail)
    go_ret2
    unfold HMP2
    exact ⟨none, 0, rfl, Nat.le_refl _, Reads.none_, HW.out⟩
  case neg =>
    have hE0 : hGE s = 0 := by simpa using hE
    rw [if_neg hE]
    rw [hE0] at Hc
    have C : Hid (∀ A c W, (hGL s).length ≤ 1000 → Reads W W.heap.size 7 A (hGL s).length (dcs mtc (hGL s)) → Calls Try.prog 20 #[.slice A (hGL s).length c] W fun e w' => e = .returned (.int .i64 (hblkF (hGL s))) ∧ Below W.heap.size W w') := Lib.hid fun A c W hl hr => p_hblk_any (hGL s) A (hGL s).length c W rfl (by omega) hr
    unfold hblkF at C
    generalize hGL s = L at *
    clear hE hE0
    by_cases hk : hrow L = true
    case pos =>
      rw [if_pos hk] at C ⊢
      clear hk
      go_enter Try.func16, Try.ntmps16
      go_wp2_with (first | (go_at_call 28; (with_reducible refine Hc.out.mono ?_); rintro r w2 ⟨rfl, h1, h2⟩; have HW := Lib.hid h2; obtain ⟨hL, A, c, k1, k2, k3⟩ := h1 rfl; have HX := Lib.hid k1; have HRd := Lib.hid k3; have HLc := Lib.hid k2; have HL1 := Lib.hid hL; clear hL k1 k2 k3; have k0 := HX.out.cell 0; have z0 := HX.out.frozen 0; simp only [List.getElem?_toArray, List.getElem?_cons_zero] at k0; clear h1 h2 Hc) | (go_at_call 20; (with_reducible refine (C.out _ _ _ HL1.out HRd.out).mono ?_); rintro e w3 ⟨rfl, hb⟩; replace HW := Lib.hid (HW.out.trans (hb.mono HW.out.size)); replace HRd := Lib.hid (dReads_on HRd.out hb); replace HX := Lib.hid (HX.out.below hb HX.out.lt); clear hb C k0 z0; have k0 := HX.out.cell 0; have z0 := HX.out.frozen 0; simp only [List.getElem?_toArray, List.getElem?_cons_zero] at k0) | fail)
      go_ret2
      unfold HMP2
      exact ⟨A, c, rfl, HLc.out, HRd.out, HW.out⟩
    case neg =>
      rw [if_neg hk] at C ⊢
      clear hk
      go_enter Try.func16, Try.ntmps16
      go_wp2_with (first | (go_at_call 28; (with_reducible refine Hc.out.mono ?_); rintro r w2 ⟨rfl, h1, h2⟩; have HW := Lib.hid h2; obtain ⟨hL, A, c, k1, k2, k3⟩ := h1 rfl; have HX := Lib.hid k1; have HRd := Lib.hid k3; have HLc := Lib.hid k2; have HL1 := Lib.hid hL; clear hL k1 k2 k3; have k0 := HX.out.cell 0; have z0 := HX.out.frozen 0; simp only [List.getElem?_toArray, List.getElem?_cons_zero] at k0; clear h1 h2 Hc) | (go_at_call 20; (with_reducible refine (C.out _ _ _ HL1.out HRd.out).mono ?_); rintro e w3 ⟨rfl, hb⟩; replace HW := Lib.hid (HW.out.trans (hb.mono HW.out.size)); replace HRd := Lib.hid (dReads_on HRd.out hb); replace HX := Lib.hid (HX.out.below hb HX.out.lt); clear hb C k0 z0; have k0 := HX.out.cell 0; have z0 := HX.out.frozen 0; simp only [List.getElem?_toArray, List.getElem?_cons_zero] at k0) | fail)
      go_ret2
      unfold HMP2
      exact ⟨none, 0, rfl, Nat.le_refl _, Reads.none_, HW.out⟩
end Go.Proofs.Ytjodckinfoldgaa
