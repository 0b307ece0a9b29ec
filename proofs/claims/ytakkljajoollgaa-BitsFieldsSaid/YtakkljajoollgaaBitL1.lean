/-
  For any fields, bytes and widths: Pack and Unpack answer as the document's own do, and the layer's probe holds (BitsFields). No condition.
-/
import Derived.Test.YtakkljajoollgaaBitAw
import Derived.Test.YtakkljajoollgaaBitW
import Derived.Test.YtakkljajoollgaaSame
import Derived.Test.YtakkljajoollgaaFrame
namespace Go.Proofs.Ytakkljajoollgaa
set_option linter.unusedSimpArgs false
set_option linter.unusedVariables false
open Go.ChangeShapes Go.WideShapes Go.ChangeAt Go.RowKit Go.Joins Go.Deep

theorem bt {w w1 w2 : World} (h : Below w.heap.size w w1) (k : Below w1.heap.size w1 w2) : Below w.heap.size w w2 := h.trans (k.mono h.size)
theorem packV_is (l : List (Int × Int)) : ∃ t e, packV l = .tuple #[.string ⟨(t : List UInt8).toArray⟩, .int .i64 e] := by
  unfold packV
  cases packF l with
  | some r => exact ⟨text r, 0, rfl⟩
  | none => exact ⟨[], 2, rfl⟩
theorem unpack_len (L : List Nat) : ∀ (ws : List Int) (p : Int), (unpackF L p ws).1.length ≤ ws.length
  | [], p => by simp [unpackF]
  | w :: t, p => by
    unfold unpackF
    split
    · simpa using unpack_len L t (p + w)
    · simp
set_option maxHeartbeats 2000000 in
/-- Beyond the sizes that the statement looks at: the probe alone. -/
theorem bitsFields_far0 (A1 A2 : Option Addr) (n1 c1 n2 c2 : Nat) (l : List UInt8) (w : World) (h : 1000 < n1) :
    Calls Try.prog 3 #[.slice A1 n1 c1, .string ⟨l.toArray⟩, .slice A2 n2 c2] w fun e w' => e = .returned (.bool true) ∧ Below w.heap.size w w' := by
  have h1 : (1000 : Int) < n1 := by omega
  go_enter Try.func3, Try.ntmps3
  go_wp2_with (go_at_call 7; refine (awake_any _).mono ?_; rintro e w9 ⟨rfl, hb9⟩)
  go_ret
  exact ⟨rfl, hb9⟩
set_option maxHeartbeats 2000000 in
/-- Beyond the sizes that the statement looks at: the probe alone. -/
theorem bitsFields_far1 (A1 A2 : Option Addr) (n1 c1 n2 c2 : Nat) (l : List UInt8) (w : World) (h : n1 ≤ 1000) (k : 5000 < l.length) :
    Calls Try.prog 3 #[.slice A1 n1 c1, .string ⟨l.toArray⟩, .slice A2 n2 c2] w fun e w' => e = .returned (.bool true) ∧ Below w.heap.size w w' := by
  have h1 : ¬ (1000 : Int) < n1 := by omega
  have h2 : (5000 : Int) < l.length := by omega
  go_enter Try.func3, Try.ntmps3
  go_wp2_with (go_at_call 7; refine (awake_any _).mono ?_; rintro e w9 ⟨rfl, hb9⟩)
  go_ret
  exact ⟨rfl, hb9⟩
set_option maxHeartbeats 2000000 in
/-- Beyond the sizes that the statement looks at: the probe alone. -/
theorem bitsFields_far2 (A1 A2 : Option Addr) (n1 c1 n2 c2 : Nat) (l : List UInt8) (w : World) (h : n1 ≤ 1000) (k : l.length ≤ 5000) (k2 : 1000 < n2) :
    Calls Try.prog 3 #[.slice A1 n1 c1, .string ⟨l.toArray⟩, .slice A2 n2 c2] w fun e w' => e = .returned (.bool true) ∧ Below w.heap.size w w' := by
  have h1 : ¬ (1000 : Int) < n1 := by omega
  have h2 : ¬ (5000 : Int) < l.length := by omega
  have h3 : (1000 : Int) < n2 := by omega
  go_enter Try.func3, Try.ntmps3
  go_wp2_with (go_at_call 7; refine (awake_any _).mono ?_; rintro e w9 ⟨rfl, hb9⟩)
  go_ret
  exact ⟨rfl, hb9⟩

set_option maxHeartbeats 4000000 in
theorem bitsFields_near (A1 A2 : Option Addr) (n1 c1 n2 c2 : Nat) (l : List UInt8) (fs : List (Int × Int)) (ws : List Int) (w : World) (hn1 : fs.length = n1) (hn2 : ws.length = n2) (h1 : n1 ≤ 1000) (h2 : l.length ≤ 5000) (h3 : n2 ≤ 1000)
    (hr1 : Reads w w.heap.size 2 A1 n1 (pairs .i64 fs)) (hr2 : Reads w w.heap.size 1 A2 n2 (ints ws)) (hwf : ∀ f ∈ fs, f.1 < 9223372036854775808) :
    Calls Try.prog 3 #[.slice A1 n1 c1, .string ⟨l.toArray⟩, .slice A2 n2 c2] w fun e w' => e = .returned (.bool true) ∧ Below w.heap.size w w' := by
  obtain ⟨t, e, hp⟩ := packV_is fs
  obtain ⟨gs, q, f, hR⟩ : ∃ gs q f, unpackF (rowOf l) 0 ws = (gs, q, f) := ⟨_, _, _, rfl⟩
  have hgl := unpack_len (rowOf l) ws 0
  rw [hR] at hgl
  have Hgl : Hid (gs.length ≤ 4611686018427387904) := Lib.hid (by simp only at hgl; omega)
  have hpack := fun w0 hr0 => pack_any fs A1 n1 c1 w0 hn1 h1 hr0
  have hrpack := fun w0 hr0 => refPack_any fs A1 n1 c1 w0 hn1 h1 hr0 hwf
  have hun := fun w0 hr0 => unpack_any l ws A2 n2 c2 w0 (by omega) hn2 h3 hr0 _ hR
  have hrun := fun w0 hr0 => refUnpack_any l ws A2 n2 c2 w0 (by omega) hn2 h3 hr0 _ hR
  rw [hp] at hpack hrpack
  have Hr1 := Lib.hid hr1
  have Hr2 := Lib.hid hr2
  have i1 : ¬ (1000 : Int) < n1 := by omega
  have i2 : ¬ (5000 : Int) < l.length := by omega
  have i3 : ¬ (1000 : Int) < n2 := by omega
  have Hpack := Lib.hid hpack
  have Hrpack := Lib.hid hrpack
  have Hun := Lib.hid hun
  have Hrun := Lib.hid hrun
  clear hp hR hgl hpack hrpack hun hrun hr1 hr2 hwf hn1 hn2 h1 h2 h3
  go_enter Try.func3, Try.ntmps3
  go_wp2_with (first
    | (go_at_call 8; refine (Hpack.out _ Hr1.out).mono ?_; rintro e w1 ⟨rfl, hb1⟩; have Hb1 := Lib.hid hb1; clear hb1)
    | (go_at_call 9; refine (Hrpack.out _ ((Hr1.out.below Hb1.out).more Hb1.out.size)).mono ?_; rintro e w2 ⟨rfl, hb2⟩; have Hb2 := Lib.hid (bt Hb1.out hb2); clear hb2)
    | (go_at_call 10; refine (Hun.out _ ((Hr2.out.below Hb2.out).more Hb2.out.size)).mono ?_; rintro e w3 ⟨A3, c3, rfl, hr3, hb3⟩; have Hb3 := Lib.hid (bt Hb2.out hb3); have Hr3 := Lib.hid hr3; clear hb3 hr3)
    | (go_at_call 11; refine (Hrun.out _ ((Hr2.out.below Hb3.out).more Hb3.out.size)).mono ?_; rintro e w4 ⟨A4, c4, rfl, hr4, hb4⟩; have Hb4 := Lib.hid (bt Hb3.out hb4); have Hr4 := Lib.hid hr4; have Hr5 := Lib.hid ((Hr3.out.below hb4).more hb4.size); clear hb4 hr4)
    | (go_at_call 12; refine (same_any A3 A4 _ _ c3 c4 gs gs _ Hr5.out Hr4.out Hgl.out Hgl.out).mono ?_; rintro e w5 ⟨rfl, hb5⟩; have Hb5 := Lib.hid (bt Hb4.out hb5); clear hb5)
    | (go_at_call 7; refine (awake_any _).mono ?_; rintro e w9 ⟨rfl, hb9⟩))
  go_ret
  exact ⟨rfl, bt Hb5.out hb9⟩

theorem bitsFields_walk (A1 A2 : Option Addr) (n1 c1 n2 c2 : Nat) (l : List UInt8) (fs : List (Int × Int)) (ws : List Int) (w : World) (hn1 : fs.length = n1) (hn2 : ws.length = n2)
    (hr1 : Reads w w.heap.size 2 A1 n1 (pairs .i64 fs)) (hr2 : Reads w w.heap.size 1 A2 n2 (ints ws)) (hwf : ∀ f ∈ fs, f.1 < 9223372036854775808) :
    Calls Try.prog 3 #[.slice A1 n1 c1, .string ⟨l.toArray⟩, .slice A2 n2 c2] w fun e w' => e = .returned (.bool true) ∧ Below w.heap.size w w' := by
  by_cases h1 : n1 ≤ 1000
  · by_cases h2 : l.length ≤ 5000
    · by_cases h3 : n2 ≤ 1000
      · exact bitsFields_near A1 A2 n1 c1 n2 c2 l fs ws w hn1 hn2 h1 h2 h3 hr1 hr2 hwf
      · exact bitsFields_far2 A1 A2 n1 c1 n2 c2 l w h1 h2 (by omega)
    · exact bitsFields_far1 A1 A2 n1 c1 n2 c2 l w h1 (by omega)
  · exact bitsFields_far0 A1 A2 n1 c1 n2 c2 l w (by omega)
theorem wf_lt {l : List (Int × Int)} (h : ∀ r ∈ l, (Lit.int .i64 r.1).wf = true ∧ (Lit.int .i64 r.2).wf = true) : ∀ f ∈ l, f.1 < 9223372036854775808 := fun f hf => by
  have := (bounds_i64 (h f hf).1).2
  omega

namespace BitsFields
set_option maxRecDepth 100000 in
theorem lifted (os : Os) (started : os.Started) (H : Type) (enc : TypeId × Value → H) :
    ReturnsInHanded {} Try.checked os 3 .any (Rows.bitsFieldsSpec.pre6 enc Try.prog Try.f3 Rows.bitsFieldsRow.domain false) (Rows.bitsFieldsSpec.post enc Try.prog Try.f3 false true false false) := by
  refine law_sized (C := Try.checked) (tb := 4) ownP started (by kernel_rfl) Try.func3
    (ChangeSpec.witness6 (enc := enc) (C := Try.checked) false ⟨#[], #[.slice none 0 0, .string ⟨#[]⟩, .slice none 0 0], []⟩ 8 (by kernel_rfl) (by kernel_rfl) (by kernel_rfl) (by kernel_rfl))
    laidP (by kernel_rfl) rfl (by kernel_rfl) Try.underlying4 (by intro ds h; match ds, h with | [_, _, _], _ => rfl) ?_
  intro W base args ds p hval0 hA0 hlt _
  have hval : ∀ (j : Nat) t v, Try.f3.params[j]? = some t → args[j]? = some v → Value.okWide Try.prog W .any base t v := hval0
  have hA : DataW.TrodAll enc Try.prog W 0 (fun _ => true) true Try.f3.params.toList args.toList ds p := hA0
  rw [Try.params3] at hA hval
  obtain ⟨v0, v1, v2, d0, d1, d2, p0, p1, p2, rfl, rfl, rfl, h0, h1, h2⟩ := trodAll_three hA
  obtain ⟨Afs, nfs, cfs, fs, rfl, efs, hnfs, hmfs, hrfs, hbfs⟩ := open_pair_slice Try.underlying22 Try.underlying41 (by kernel_rfl) rfl rfl (by kernel_rfl) (by kernel_rfl) Try.underlying3 Try.underlying3 (hval 0 22 v0 rfl rfl) h0
  obtain ⟨l, rfl, rfl⟩ := open_bytes Try.underlying9 (hval 1 9 v1 rfl rfl) h1
  obtain ⟨Aws, nws, cws, ws, rfl, ews, hnws, hmws, hrws, hbws⟩ := open_nums rfl Try.underlying23 Try.underlying3 (by kernel_rfl) (hval 2 23 v2 rfl rfl) h2
  exact bitsFields_walk Afs Aws nfs cfs nws cws l fs ws W efs ews hrfs hrws (wf_lt hbfs)

theorem holds : Rows.BitsFieldsSaid :=
  OpenClaim.holds_of_wide 3 Try.f3 rfl rfl rfl rfl rfl rfl rfl ⟨rfl, rfl, rfl, rfl, rfl⟩ rfl rfl rfl rfl rfl (by kernel_rfl) Try.func3 (by kernel_rfl)
    (of_decide_eq_true (by kernel_rfl)) (by unfold Func.isWrapper; first | (rw [if_pos (by decide +kernel)]; kernel_rfl) | (rw [if_neg (by decide +kernel)]; exact ⟨rfl, rfl⟩))
    (fun os started H enc _ => lifted os started H enc)
end BitsFields
end Go.Proofs.Ytakkljajoollgaa
