/-
  Layer 20: bytes (a range over a directory, in whatever order).
-/
import Derived.Test.YtgoahcmgpjacjaaGreatDpC
import Derived.Sort.EncStr
namespace Go.Proofs.YtgoahcmgpjacjaaGreat
set_option linter.unusedSimpArgs false
set_option linter.unusedVariables false
open Go.ChangeShapes Go.WideShapes Go.ChangeAt Go.RowKit Go.Joins Go.Deep
theorem dat_is {fb : List Nat} {M : DataW Unit} {l : List Ent} (h : DIs fb M l) {s : List UInt8} {y : DataW Unit} (hat : ∀ zd, M.atKey (.string s) zd = y) : 0 ≤ dfindL s l ∧ y = pv (fbk fb (dfindL s l)) := by
  by_cases h1 : 0 ≤ dfindL s l
  · exact ⟨h1, by rw [← hat nv, h s nv, if_pos h1]⟩
  · have h2 := hat nv
    have h3 := hat (pv 0)
    rw [h s, if_neg h1] at h2 h3
    exact absurd (h3.trans h2.symm) pv_nv
set_option maxRecDepth 100000 in
set_option maxHeartbeats 4000000 in
theorem p_dbytes {D : Dk} {fb : List Nat} {bn bs : Nat} {Mn Ms : DataW Unit} {A : Option Addr} {c g : Nat} {lf : Int} (w : World) (h : DMm w g D fb bn bs Mn Ms A c lf) (hH : DHist D) (hb : DBnd D) (hl : D.dir.length ≤ 1000) :
    Calls Tryz.prog 47 #[.map (some bn)] w fun e w' => e = .returned (.int .i64 (D.used : Int)) ∧ Below w.heap.size w w' := by
  have HM := Lib.hid h
  have HH := Lib.hid hH
  have HL : Hid (∀ left, dcntL D left D.dir ≤ 1000000000) := Lib.hid fun left => by
    have := dcnt_le D left hb D.dir
    have : D.dir.length * 1000000 ≤ 1000 * 1000000 := Nat.mul_le_mul_right _ hl
    omega
  have HB := Lib.hid hb
  have HN := Lib.hid h.now
  have h0 : (0 : Int) = ((dcntL D (Maps.has Mn) D.dir : Nat) : Int) := by
    rw [dcnt_start fun e he => by rw [h.isn.has, decide_eq_true_eq, ← dfind_iff hH.one (fun x hx => (hH.wf.dir x hx).1)]; exact List.mem_map_of_mem he]
    rfl
  have HZ := Lib.hid h0
  clear h hH hb hl h0
  go_enter Tryz.func47, Tryz.ntmps47
  go_wp2_with (first | (at_range; refine wpList_range_own _ rfl _ 57 rfl 9 74 dlaw Tryz.underlying57 ptE bn _ Mn rfl HN.out ?_; intro w0 hrg0 hg0 hs0) | fail)
  go_frame
  go_loopw [3, 5] (fun v _ wr => ∃ left cnt, v = .int .i64 ((dcntL D left D.dir : Nat) : Int) ∧ wr.ranges Tryz.prog 9 ptE bn w.heap.size (Maps.size Mn) Mn left cnt ∧ Hid (Below w.heap.size w wr)) (fun _ _ wr => wr.rangeLeft bn w.heap.size)
  case atStart => exact ⟨_, _, iv HZ.out, hrg0, Lib.hid ((Below.refl _ _).grown hg0 (Nat.le_refl _) (fun j hj => by cases hj))⟩
  case round =>
    clear hrg0 hg0 hs0 HZ HN
    obtain ⟨left, cnt, rfl, hrg, hgw⟩ := hrel
    go_wp2_with (first
      | (at_next; refine wpList_next_ranges _ rfl _ rfl 9 dlaw ptE encStr mkP (fun key kl hk => by obtain ⟨x, hx, _⟩ := Maps.keyOf_str Tryz.underlying9 hk; exact ⟨x, hx⟩) (fun v y hv => ptE_shape hv) bn w.heap.size _ _ _ _ rfl hrg ?_ ?_)
      | fail)
    · intro _ hl0
      have hu : ((dcntL D left D.dir : Nat) : Int) = (D.used : Int) := by rw [dcnt_end hl0]; rfl
      go_wp2
      go_ret
      exact ⟨congrArg (fun z => Ending.returned (Value.int .i64 z)) hu, hgw.out⟩
    · intro x c kl yd yp w2 cnt2 hkey hlk hv hat hrg2 hlt hg2 hs2 hen
      obtain ⟨x', ex, rfl, _⟩ := Maps.keyOf_str Tryz.underlying9 hkey
      obtain rfl : x = x' := encStr_inj ex
      obtain ⟨hf0, rfl⟩ := dat_is HM.out.isn hat
      have hp := ptE_at hv
      obtain ⟨q, rfl⟩ : ∃ q, c = some q := by
        cases c with
        | none => cases hp
        | some q => exact ⟨q, rfl⟩
      obtain rfl : q = fbk fb (dfindL x D.dir) := by injection hp with hp; injection hp with hp; injection hp
      have hfn : dfindL x D.dir < (fb.length : Int) := by rw [HM.out.fln]; exact (dfindL_ok HH.out.wf.dir).1
      have hbl : Below w.heap.size w w2 := hgw.out.grown hg2 hgw.out.size (fun j hj => by cases hj; exact Nat.le_refl _)
      have hfl := HM.out.fl _ hf0 hfn
      have hf2 := hfl.below hbl hfl.lt
      have x1 := hf2.cell 1
      unfold flv at x1
      simp only [List.getElem?_toArray, List.getElem?_cons_zero, List.getElem?_cons_succ] at x1
      have hst := dcnt_step (D := D) hlk HH.out.one hf0
      have hb1 := HL.out left
      have hb2 := HL.out (fun z => left z && !z.sameKey (.string x))
      rw [hst] at hb2
      have hw : IntKind.i64.wrap (((dcntL D left D.dir : Nat) : Int) + ((D.file (dfindL x D.dir)).2.length : Int)) = ((dcntL D left D.dir : Nat) : Int) + ((D.file (dfindL x D.dir)).2.length : Int) := by rw [IntKind.wrap_i64]; omega
      have HST := Lib.hid hst
      have HBL := Lib.hid hbl
      dsimp only [mkP, Option.map_some] at hen ⊢
      clear hkey hlk hv hat hf0 hp hfn hbl hfl hf2 hst hb1 hb2 hs2 hg2 hgw
      generalize (D.file (dfindL x D.dir)).2 = txt at *
      generalize fbk fb (dfindL x D.dir) = q at *
      go_wp2_with fail
      go_roundw
      case rel => exact ⟨_, cnt2, iv (by rw [HST.out]; rfl), hrg2, HBL⟩
      case measure => rw [hrg2.left_eq, hrg.left_eq]; exact hlt
end Go.Proofs.YtgoahcmgpjacjaaGreat
