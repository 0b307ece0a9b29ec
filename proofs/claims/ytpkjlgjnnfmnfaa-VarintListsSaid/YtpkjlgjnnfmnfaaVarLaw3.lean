/-
  For any list, any bytes, any place and any most: the program's List and Unlist answer as the document's own do, and the layer's probe holds (VarintLists). No condition.
-/
import Derived.Test.YtpkjlgjnnfmnfaaVarAw
import Derived.Test.YtpkjlgjnnfmnfaaFrame
namespace Go.Proofs.Ytpkjlgjnnfmnfaa
set_option linter.unusedSimpArgs false
set_option linter.unusedVariables false
open Go.ChangeShapes Go.WideShapes Go.ChangeAt Go.RowKit Go.Joins Go.Deep

theorem list_tuple (A : Option Addr) (n c : Nat) (l : List Int) (w : World) (hn : l.length = n) (hlen : n ≤ 17592186044416) (hr : Reads w w.heap.size 1 A n (ints l)) (hbd : ∀ x ∈ l, x < 9223372036854775808) :
    Calls Try.prog 19 #[.slice A n c] w fun e w' => e = .returned (.tuple #[.string ⟨(listB l).toArray⟩, .int .i64 (listE l)]) ∧ Below w.heap.size w w' := list_any A n c l w hn hlen hr hbd
theorem refList_tuple (A : Option Addr) (n c : Nat) (l : List Int) (w : World) (hn : l.length = n) (hlen : n ≤ 17592186044416) (hr : Reads w w.heap.size 1 A n (ints l)) (hbd : ∀ x ∈ l, x < 9223372036854775808) :
    Calls Try.prog 20 #[.slice A n c] w fun e w' => e = .returned (.tuple #[.string ⟨(listB l).toArray⟩, .int .i64 (listE l)]) ∧ Below w.heap.size w w' := refList_any A n c l w hn hlen hr hbd

set_option maxHeartbeats 4000000 in
/-- Beyond the sizes that the statement looks at: the probe alone. -/
theorem lists_far (A : Option Addr) (n c : Nat) (s : List UInt8) (p q : Int) (w : World) (h : 1000 < n ∨ 5000 < s.length ∨ 5000 < q) :
    Calls Try.prog 5 #[.slice A n c, .string ⟨s.toArray⟩, .agg #[.int .i64 p, .int .i64 q]] w fun e w' => e = .returned (.bool true) ∧ Below w.heap.size w w' := by
  by_cases h1 : 1000 < n
  · clear h
    go_enter Try.func5, Try.ntmps5
    go_wp2_with (go_at_call 14; refine (awake_any _).mono ?_; rintro e w5 ⟨rfl, hb5⟩)
    go_ret
    exact ⟨rfl, Below.trans (by go_grown) (hb5.mono (by simp))⟩
  · have h1' : n ≤ 1000 := by omega
    by_cases h2 : 5000 < s.length
    · clear h h1
      go_enter Try.func5, Try.ntmps5
      go_wp2_with (go_at_call 14; refine (awake_any _).mono ?_; rintro e w5 ⟨rfl, hb5⟩)
      go_ret
      exact ⟨rfl, Below.trans (by go_grown) (hb5.mono (by simp))⟩
    · have h2' : s.length ≤ 5000 := by omega
      have h3 : 5000 < q := by omega
      clear h h1 h2
      go_enter Try.func5, Try.ntmps5
      go_wp2_with (go_at_call 14; refine (awake_any _).mono ?_; rintro e w5 ⟨rfl, hb5⟩)
      go_ret
      exact ⟨rfl, Below.trans (by go_grown) (hb5.mono (by simp))⟩

theorem gets_len (s : List UInt8) : ∀ (k : Nat) (p : Int) (acc : List Int), (gets s k p acc).1.length ≤ acc.length + k
  | 0, p, acc => by simp [gets]
  | k + 1, p, acc => by
    unfold gets
    split
    · have := gets_len s k (getF s p).2.1 (acc ++ [(getF s p).1])
      rw [List.length_append] at this
      simp at this
      omega
    · simp
theorem unlistF_len (s : List UInt8) (p q : Int) : (unlistF s p q).1.length ≤ q.toNat := by
  unfold unlistF
  split
  · split
    · simp
    · have := gets_len s (getF s p).1.toNat (getF s p).2.1 []
      simp at this
      omega
  · simp

set_option maxHeartbeats 4000000 in
theorem lists_near (A : Option Addr) (n c : Nat) (l : List Int) (s : List UInt8) (p q : Int) (w : World) (hn : l.length = n) (h1 : n ≤ 1000) (h2 : s.length ≤ 5000) (h3 : q ≤ 5000) (hr : Reads w w.heap.size 1 A n (ints l)) (hbd : ∀ x ∈ l, x < 9223372036854775808) :
    Calls Try.prog 5 #[.slice A n c, .string ⟨s.toArray⟩, .agg #[.int .i64 p, .int .i64 q]] w fun e w' => e = .returned (.bool true) ∧ Below w.heap.size w w' := by
  obtain ⟨r, hur⟩ : ∃ r, unlistF s p q = r := ⟨_, rfl⟩
  have Hlen : Hid (r.1.length ≤ 4611686018427387904) := Lib.hid (by rw [← hur]; have := unlistF_len s p q; omega)
  have Hn := Lib.hid hn
  have Hr := Lib.hid hr
  have Hbd := Lib.hid hbd
  have Hu := Lib.hid hur
  have H2 := Lib.hid h2
  clear hn hr hbd hur
  have Hb0 : Hid (Below w.heap.size w (w.alloc (.cells #[.int .i64 p, .int .i64 q] 40))) := Lib.hid (by go_grown)
  have Hk0 : Hid (Blk (w.alloc (.cells #[.int .i64 p, .int .i64 q] 40)) w.heap.size 40 #[.int .i64 p, .int .i64 q]) := Lib.hid (Blk.new _ _ _)
  go_enter Try.func5, Try.ntmps5
  go_wp2_with (first
    | (go_at_call 19; refine (list_tuple A n c l _ Hn.out (by omega) ((Hr.out.below Hb0.out).more (by simp)) Hbd.out).mono ?_; rintro e w1 ⟨rfl, hb1⟩; have Hb1 : Hid (Below w.heap.size w w1) := Lib.hid (Hb0.out.trans (hb1.mono (by simp))); have Hk1 := Lib.hid (Hk0.out.below hb1 (by simp)); have hs1 := hb1.size)
    | (go_at_call 20; refine (refList_tuple A n c l _ Hn.out (by omega) ((Hr.out.below Hb1.out).more Hb1.out.size) Hbd.out).mono ?_; rintro e w2 ⟨rfl, hb2⟩; have Hb2 : Hid (Below w.heap.size w w2) := Lib.hid (Hb1.out.trans (hb2.mono Hb1.out.size)); have Hk2 := Lib.hid (Hk1.out.below hb2 Hk1.out.lt); obtain ⟨z0, z1, z2, z3⟩ := Hk2.out.two)
    | (go_at_call 21; refine (unlist_any s p q _ (by omega) r Hu.out).mono ?_; rintro e w3 ⟨A3, c3, rfl, hr3, hb3⟩; have Hr3 := Lib.hid hr3; have Hb3 : Hid (Below w.heap.size w w3) := Lib.hid (Hb2.out.trans (hb3.mono Hb2.out.size)); have Hk3 := Lib.hid (Hk2.out.below hb3 Hk2.out.lt); clear hr3; obtain ⟨y0, y1, y2, y3⟩ := Hk3.out.two)
    | (go_at_call 22; refine (refUnlist_any s p q _ (by omega) r Hu.out).mono ?_; rintro e w4 ⟨A4, c4, rfl, hr4, hb4⟩; have Hr4 := Lib.hid hr4; have Hr3' := Lib.hid ((Hr3.out.below hb4).more hb4.size); have Hb4 : Hid (Below w.heap.size w w4) := Lib.hid (Hb3.out.trans (hb4.mono Hb3.out.size)); clear hr4)
    | (go_at_call 23; refine (same_any A3 A4 _ _ c3 c4 r.1 r.1 _ Hr3'.out Hr4.out Hlen.out Hlen.out).mono ?_; rintro e w5 ⟨rfl, hb5⟩)
    | (go_at_call 14; refine (awake_any _).mono ?_; rintro e w6 ⟨rfl, hb6⟩))
  go_ret
  exact ⟨rfl, (Hb4.out.trans (hb5.mono Hb4.out.size)).trans (hb6.mono (Nat.le_trans Hb4.out.size hb5.size))⟩

theorem lists_walk (A : Option Addr) (n c : Nat) (l : List Int) (s : List UInt8) (p q : Int) (w : World) (hn : l.length = n) (hr : Reads w w.heap.size 1 A n (ints l)) (hbd : ∀ x ∈ l, x < 9223372036854775808) :
    Calls Try.prog 5 #[.slice A n c, .string ⟨s.toArray⟩, .agg #[.int .i64 p, .int .i64 q]] w fun e w' => e = .returned (.bool true) ∧ Below w.heap.size w w' := by
  by_cases h : 1000 < n ∨ 5000 < s.length ∨ 5000 < q
  · exact lists_far A n c s p q w h
  · exact lists_near A n c l s p q w hn (by omega) (by omega) (by omega) hr hbd

namespace VarintLists
set_option maxRecDepth 100000 in
theorem lifted (os : Os) (started : os.Started) (H : Type) (enc : TypeId × Value → H) :
    ReturnsInHanded {} Try.checked os 5 .any (Rows.varintListsSpec.pre6 enc Try.prog Try.f5 Rows.varintListsRow.domain false) (Rows.varintListsSpec.post enc Try.prog Try.f5 false true false false) := by
  refine law_sized (C := Try.checked) (tb := 4) ownP started (by kernel_rfl) Try.func5
    (ChangeSpec.witness6 (enc := enc) (C := Try.checked) false ⟨#[], #[.slice none 0 0, .string ⟨#[]⟩, .agg #[.int .i64 0, .int .i64 0]], []⟩ 8 (by kernel_rfl) (by kernel_rfl) (by kernel_rfl) (by kernel_rfl))
    laidP (by kernel_rfl) rfl (by kernel_rfl) Try.underlying4 (by intro ds h; match ds, h with | [_, _, _], _ => rfl) ?_
  intro W base args ds p hval0 hA0 hlt _
  have hval : ∀ (j : Nat) t v, Try.f5.params[j]? = some t → args[j]? = some v → Value.okWide Try.prog W .any base t v := hval0
  have hA : DataW.TrodAll enc Try.prog W 0 (fun _ => true) true Try.f5.params.toList args.toList ds p := hA0
  rw [Try.params5] at hA hval
  obtain ⟨v0, v1, v2, d0, d1, d2, p0, p1, p2, rfl, rfl, rfl, h0, h1, h2⟩ := trodAll_three hA
  obtain ⟨Al, nl, cl, l, rfl, el, hnl, hml, hrl, hbl⟩ := open_nums rfl Try.underlying39 Try.underlying3 (by kernel_rfl) (hval 0 39 v0 rfl rfl) h0
  obtain ⟨s, rfl, rfl⟩ := open_bytes Try.underlying9 (hval 1 9 v1 rfl rfl) h1
  obtain ⟨p, q, rfl, wp, wq⟩ := open_two Try.underlying40 Try.underlying3 (by kernel_rfl) (by kernel_rfl) (hval 2 40 v2 rfl rfl) h2
  exact lists_walk Al nl cl l s p q W el hrl hbl

theorem holds : Rows.VarintListsSaid :=
  OpenClaim.holds_of_wide 5 Try.f5 rfl rfl rfl rfl rfl rfl rfl ⟨rfl, rfl, rfl, rfl, rfl⟩ rfl rfl rfl rfl rfl (by kernel_rfl) Try.func5 (by kernel_rfl)
    (of_decide_eq_true (by kernel_rfl)) (by unfold Func.isWrapper; first | (rw [if_pos (by decide +kernel)]; kernel_rfl) | (rw [if_neg (by decide +kernel)]; exact ⟨rfl, rfl⟩))
    (fun os started H enc _ => lifted os started H enc)
end VarintLists
end Go.Proofs.Ytpkjlgjnnfmnfaa
