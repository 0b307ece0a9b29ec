/-
  Layer 9: the probe that each statement of the layer asks beside itself returns true.
-/
import Derived.Test.YtlnlahnglkeaiaaCanK
import Derived.Test.YtlnlahnglkeaiaaSame
namespace Go.Proofs.Ytlnlahnglkeaiaa
set_option linter.unusedSimpArgs false
set_option linter.unusedVariables false
open Go.ChangeShapes Go.WideShapes Go.ChangeAt Go.RowKit Go.Joins Go.Deep

section
variable {cs ds : Array Value} {n m N : Nat} {xs ys zs : List Int} {e : Int}
theorem qfresh (hcs : cs = (ints xs).toArray) (hn : xs.length = n) (w : World) : Reads (w.alloc (.cells cs 3)) (w.alloc (.cells cs 3)).heap.size 1 (some ⟨w.heap.size, 0, none⟩) n (ints xs) := by
  subst hcs
  have := reads_new w 3 (ints xs).toArray 1 n (by simp [ints_length, hn])
  exact this.more (by simp)
theorem qback {w w' : World} {o : Obj} (hb : Below (w.alloc o).heap.size (w.alloc o) w') : Below w.heap.size w w' := ((Below.refl _ _).alloc (Nat.le_refl _) o).trans (hb.mono (by simp))
theorem aw9_new (hcs : cs = (ints xs).toArray) (hn : xs.length = n) (hm : n ≤ 1000) (h : checkF xs = 0) (w : World) :
    Calls Try.prog 24 #[.slice (some ⟨w.heap.size, 0, none⟩) n n] (w.alloc (.cells cs 3)) fun r w' => ∃ g, r = .returned (.tuple #[.pointer (some ⟨g, 0, none⟩), .int .i64 0]) ∧ CCode w' w'.heap.size g (xs.map Int.toNat) ∧ Below w.heap.size w w' := by
  refine (c_new_yes (c := n) (by omega) (qfresh hcs hn w) h).mono ?_
  rintro r w' ⟨g, rfl, hc, hb⟩
  exact ⟨g, rfl, hc, qback hb⟩
theorem aw9_newno (hcs : cs = (ints xs).toArray) (hn : xs.length = n) (hm : n ≤ 1000) (h : checkF xs = e) (he : e ≠ 0) (w : World) :
    Calls Try.prog 24 #[.slice (some ⟨w.heap.size, 0, none⟩) n n] (w.alloc (.cells cs 3)) fun r w' => r = .returned (.tuple #[.pointer none, .int .i64 e]) ∧ Below w.heap.size w w' := by
  subst h
  refine (c_new_no (c := n) (by omega) (qfresh hcs hn w) he).mono ?_
  rintro r w' ⟨rfl, hb⟩
  exact ⟨rfl, qback hb⟩
theorem aw9_words {ps : List (Int × Int)} (hcs : cs = (ints xs).toArray) (hn : xs.length = n) (hm : n ≤ 1000) (hN : ps.length = N) (h : cwordsF xs = (ps, e)) (w : World) :
    Calls Try.prog 10 #[.slice (some ⟨w.heap.size, 0, none⟩) n n] (w.alloc (.cells cs 3)) fun r w' => ∃ A c, r = .returned (.tuple #[.slice A N c, .int .i64 e]) ∧ Reads w' w'.heap.size 2 A N (pairs .i64 ps) ∧ Below w.heap.size w w' := by
  refine (p_cwords_any xs _ n n (w.alloc (.cells cs 3)) (by omega) (qfresh hcs hn w)).mono ?_
  rintro r w' ⟨A, c, rfl, _, hr, hb⟩
  rw [h] at hr ⊢
  subst hN
  exact ⟨A, c, rfl, hr, qback hb⟩
theorem aw9_pack {s : List UInt8} (hcs : cs = (ints xs).toArray) (hn : xs.length = n) (hm : n ≤ 1000) (hds : ds = (ints ys).toArray) (hm1 : ys.length = m) (hm2 : m ≤ 1000) (h : cpackF xs ys = (s, e)) (w : World) :
    Calls Try.prog 12 #[.slice (some ⟨w.heap.size, 0, none⟩) n n, .slice (some ⟨w.heap.size + 1, 0, none⟩) m m] ((w.alloc (.cells cs 3)).alloc (.cells ds 3)) fun r w' => r = .returned (.tuple #[.string ⟨s.toArray⟩, .int .i64 e]) ∧ Below w.heap.size w w' := by
  have hb : Below (w.alloc (.cells cs 3)).heap.size (w.alloc (.cells cs 3)) ((w.alloc (.cells cs 3)).alloc (.cells ds 3)) := (Below.refl _ _).alloc (Nat.le_refl _) _
  have h2 := qfresh hds hm1 (w.alloc (.cells cs 3))
  rw [show (w.alloc (.cells cs 3)).heap.size = w.heap.size + 1 from by simp] at h2
  refine (p_cpack_any xs ys _ _ n n m m _ (by omega) (by omega) (((qfresh hcs hn w).below hb).more hb.size) (by simpa using h2)).mono ?_
  rintro r w' ⟨rfl, hb⟩
  rw [h]
  exact ⟨rfl, qback (qback hb)⟩
theorem aw9_unpack {s : List UInt8} {k : Int} {p : Nat} (hcs : cs = (ints xs).toArray) (hn : xs.length = n) (hm : n ≤ 1000) (hs : s.length ≤ 1000) (hN : ys.length = N) (h : cunpackF xs s k = (ys, p, e)) (w : World) :
    Calls Try.prog 15 #[.slice (some ⟨w.heap.size, 0, none⟩) n n, .string ⟨s.toArray⟩, .int .i64 k] (w.alloc (.cells cs 3)) fun r w' => ∃ A c, r = .returned (.tuple #[.slice A N c, .int .i64 p, .int .i64 e]) ∧ Reads w' w'.heap.size 1 A N (ints ys) ∧ Below w.heap.size w w' := by
  refine (p_cunpack_any xs s k _ n n (w.alloc (.cells cs 3)) (by omega) (by omega) (qfresh hcs hn w)).mono ?_
  rintro r w' ⟨A, c, rfl, _, hr, hb⟩
  rw [h] at hr ⊢
  subst hN
  exact ⟨A, c, rfl, hr, qback hb⟩
theorem aw9_word {ls : List Nat} {g : Nat} {k x y : Int} (hl : ls.length ≤ 1000) (h : pwordF (wat ls 16 0) k = ((x, y), e)) (W : World) (hc : CCode W W.heap.size g ls) :
    Calls Try.prog 18 #[.pointer (some ⟨g, 0, none⟩), .int .i64 k] W fun r w' => r = .returned (.tuple #[.agg #[.int .i64 x, .int .i64 y], .int .i64 e]) ∧ Below W.heap.size W w' := by
  have := c_word_any ls _ g k W hc (by omega)
  rw [h] at this
  exact this
theorem aw9_get {ls : List Nat} {g p : Nat} {s : List UInt8} {x k : Int} (h15 : ∀ x ∈ ls, x ≤ 15) (hca : call ls = 32768) (hlen : ls.length ≤ 257) (hs : s.length ≤ 1000) (h : cgetF (wat ls 16 0) (rowOf s) 0 = (x, k, e)) (W : World) (hc : CCode W W.heap.size g ls) :
    Calls Try.prog 19 #[.pointer (some ⟨g, 0, none⟩), .pointer (some ⟨W.heap.size, 0, none⟩)] (W.alloc (.cells #[.string ⟨s.toArray⟩, .int .i64 0] 79)) fun r w' => r = .returned (.tuple #[.int .i64 x, .int .i64 e]) ∧ Below W.heap.size W w' := by
  have hb : Below W.heap.size W (W.alloc (.cells #[.string ⟨s.toArray⟩, .int .i64 0] 79)) := (Below.refl _ _).alloc (Nat.le_refl _) _
  refine (c_get_any ls W.heap.size g W.heap.size s 0 _ (hc.below hb) h15 (by omega) (Or.inr hca) hlen (Nat.le_refl _) (Blk.new W _ _) (by omega) (by omega)).mono ?_
  rintro r w' ⟨rfl, _, ht⟩
  rw [h]
  exact ⟨rfl, hb.trans (ht.below (fun k _ e => by omega) hb.size)⟩
theorem aw9_same (A : Option Addr) (c : Nat) (hcs : cs = (ints xs).toArray) (hn : xs.length = n) (hm : n ≤ 1000) (W : World) (hr : Reads W W.heap.size 1 A n (ints xs)) :
    Calls Try.prog 17 #[.slice A n c, .slice (some ⟨W.heap.size, 0, none⟩) n n] (W.alloc (.cells cs 3)) fun r w' => r = .returned (.bool true) ∧ Below W.heap.size W w' := by
  have hb : Below W.heap.size W (W.alloc (.cells cs 3)) := (Below.refl _ _).alloc (Nat.le_refl _) _
  refine (same_any A (some ⟨W.heap.size, 0, none⟩) n n c n xs xs _ ((hr.below hb).more hb.size) (qfresh hcs hn W) (by omega) (by omega)).mono ?_
  rintro r w' ⟨rfl, hb2⟩
  exact ⟨by simp, qback hb2⟩
theorem Reads.on {w w' : World} {size n : Nat} {A : Option Addr} {xs : List Value} (h : Reads w w.heap.size size A n xs) (hb : Below w.heap.size w w') : Reads w' w'.heap.size size A n xs := (h.below hb).more hb.size
theorem CCode.on {w w' : World} {g : Nat} {ls : List Nat} (h : CCode w w.heap.size g ls) (hb : Below w.heap.size w w') : CCode w' w'.heap.size g ls := (h.below hb).more hb.size
theorem CCode.alloc {w : World} {g : Nat} {ls : List Nat} (h : CCode w w.heap.size g ls) (o : Obj) : CCode (w.alloc o) (w.alloc o).heap.size g ls := h.on ((Below.refl _ _).alloc (Nat.le_refl _) o)
end
theorem aw9_x {w5 w6 : World} (x y : Value) (hb : Below (w5.alloc (.cells #[x, y] 48)).heap.size (w5.alloc (.cells #[x, y] 48)) w6) : Blk w6 w5.heap.size 48 #[x, y] ∧ Below w5.heap.size w5 w6 :=
  have h := Blk.new w5 48 #[x, y]
  ⟨h.below hb h.lt, qback hb⟩
theorem Blk.on {w w' : World} {g : Nat} {t : TypeId} {cs : Array Value} (h : Blk w g t cs) (hb : Below w.heap.size w w') : Blk w' g t cs := h.below hb h.lt
theorem aw9_cells {W : World} {B : Nat} {A : Option Addr} {f : Int × Int} {t : List (Int × Int)} {n : Nat} (hn : 0 < n) (h : Reads W B 2 A n (pairs .i64 (f :: t))) : ∃ b off, A = some ⟨b, off, none⟩ ∧ W.cell? ⟨b, off, none⟩ = some (.int .i64 f.1) ∧ W.cell? ⟨b, off + 1, none⟩ = some (.int .i64 f.2) := by
  obtain ⟨b, off, e, _, hc⟩ := h.2 hn
  exact ⟨b, off, e, hc 0 _ rfl, hc 1 _ rfl⟩
theorem aw9_1 : checkF [2, 1, 2] = 0 := by decide +kernel
theorem aw9_2 : cwordsF [2, 1, 2] = ([(2, 2), (0, 1), (3, 2)], 0) := by decide +kernel
theorem aw9_3 : cpackF [2, 1, 2] [0, 1, 2] = ([152], 0) := by
  have h : cpack1 [(2, 2), (0, 1), (3, 2)] [0, 1, 2] [] = ([1, 0, 0, 1, 1], 0) := by decide +kernel
  unfold cpackF
  rw [aw9_2]
  dsimp only
  rw [h, if_pos rfl]
  dsimp only
  rw [if_pos rfl, text_short _ (by decide) (by decide)]
  decide
theorem aw9_4 : cunpackF [2, 1, 2] [152] 3 = ([0, 1, 2], 5, 0) := by decide +kernel
theorem aw9_5 : pwordF (wat [2, 1, 2] 16 0) 2 = ((3, 2), 0) := by decide +kernel
theorem aw9_6 : pwordF (wat [2, 1, 2] 16 0) 3 = ((0, 0), 70) := by decide +kernel
theorem aw9_7 : cgetF (wat [2, 1, 2] 16 0) (rowOf [152]) 0 = (0, 2, 0) := by decide +kernel
theorem aw9_8 : checkF [1, 2] = 80 := by decide +kernel
theorem aw9_9 : call [2, 1, 2] = 32768 := by decide +kernel

set_option maxRecDepth 100000 in
set_option maxHeartbeats 4000000 in
theorem awake9_any (w : World) : Calls Try.prog 9 #[] w fun e w' => e = .returned (.bool true) ∧ Below w.heap.size w w' := by
  have N1 := Lib.hid fun w => aw9_new (cs := #[.int .i64 2, .int .i64 1, .int .i64 2]) (n := 3) rfl rfl (by decide) aw9_1 w
  have N2 := Lib.hid fun w => aw9_newno (cs := #[.int .i64 1, .int .i64 2]) (n := 2) rfl rfl (by decide) aw9_8 (by decide) w
  have W1 := Lib.hid fun w => aw9_words (cs := #[.int .i64 2, .int .i64 1, .int .i64 2]) (n := 3) (N := 3) rfl rfl (by decide) rfl aw9_2 w
  have P1 := Lib.hid fun w => aw9_pack (cs := #[.int .i64 2, .int .i64 1, .int .i64 2]) (ds := #[.int .i64 0, .int .i64 1, .int .i64 2]) (n := 3) (m := 3) rfl rfl (by decide) rfl rfl (by decide) aw9_3 w
  have U1 := Lib.hid fun w => aw9_unpack (cs := #[.int .i64 2, .int .i64 1, .int .i64 2]) (n := 3) (N := 3) rfl rfl (by decide) (by decide) rfl aw9_4 w
  have D1 := Lib.hid fun g W hc => aw9_word (g := g) (ls := [2, 1, 2]) (by decide) aw9_5 W hc
  have D2 := Lib.hid fun g W hc => aw9_word (g := g) (ls := [2, 1, 2]) (by decide) aw9_6 W hc
  have G1 : Hid (∀ g W o, CCode W W.heap.size g [2, 1, 2] → Calls Try.prog 19 #[.pointer (some ⟨g, 0, none⟩), .pointer (some ⟨W.heap.size + 1, 0, none⟩)] ((W.alloc o).alloc (.cells #[.string ⟨#[152]⟩, .int .i64 0] 79)) fun r w' => r = .returned (.tuple #[.int .i64 0, .int .i64 0]) ∧ Below W.heap.size W w') := Lib.hid fun g W o hc => by
    have h := aw9_get (g := g) (p := 0) (ls := [2, 1, 2]) (by decide) aw9_9 (by decide) (by decide) aw9_7 (W.alloc o) (hc.alloc o)
    rw [World.size_alloc] at h
    refine h.mono ?_
    rintro r w' ⟨rfl, hb⟩
    exact ⟨rfl, qback (by rw [World.size_alloc]; exact hb)⟩
  have S1 := Lib.hid fun A c W h => aw9_same (cs := #[.int .i64 0, .int .i64 1, .int .i64 2]) (n := 3) (xs := [0, 1, 2]) A c rfl rfl (by decide) W h
  go_enter Try.func9, Try.ntmps9
  go_wp2_with (first
    | (go_at_call 24; (with_reducible refine (N1.out _).mono ?_); rintro e w1 ⟨g, rfl, hc1, hb1⟩; have HC : Hid (CCode w1 w1.heap.size g [2, 1, 2]) := Lib.hid hc1; have Hb := Lib.hid hb1; clear hc1 hb1 N1)
    | (go_at_call 10; (with_reducible refine (W1.out _).mono ?_); rintro e w2 ⟨A2, c2, rfl, hr2, hb2⟩; have H2 := Lib.hid hr2; replace HC := Lib.hid (HC.out.on hb2); replace Hb := Lib.hid (Hb.out.trans (hb2.mono Hb.out.size)); clear hr2 hb2 W1)
    | (go_at_call 12; (with_reducible refine (P1.out _).mono ?_); rintro e w3 ⟨rfl, hb3⟩; replace H2 := Lib.hid (H2.out.on hb3); replace HC := Lib.hid (HC.out.on hb3); replace Hb := Lib.hid (Hb.out.trans (hb3.mono Hb.out.size)); clear hb3 P1)
    | (go_at_call 15; (with_reducible refine (U1.out _).mono ?_); rintro e w4 ⟨A4, c4, rfl, hr4, hb4⟩; have H4 := Lib.hid hr4; replace H2 := Lib.hid (H2.out.on hb4); replace HC := Lib.hid (HC.out.on hb4); replace Hb := Lib.hid (Hb.out.trans (hb4.mono Hb.out.size)); clear hr4 hb4 U1)
    | (go_at_call 18; (with_reducible refine (D1.out _ _ HC.out).mono ?_); rintro e w5 ⟨rfl, hb5⟩; replace H4 := Lib.hid (H4.out.on hb5); replace H2 := Lib.hid (H2.out.on hb5); replace HC := Lib.hid (HC.out.on hb5); replace Hb := Lib.hid (Hb.out.trans (hb5.mono Hb.out.size)); clear hb5 D1)
    | (go_at_call 18; (with_reducible refine (D2.out _ _ (HC.out.alloc _)).mono ?_); rintro e w6 ⟨rfl, hb6⟩; obtain ⟨hx6, hy6⟩ := aw9_x _ _ hb6; have HX := Lib.hid hx6; replace H4 := Lib.hid (H4.out.on hy6); replace H2 := Lib.hid (H2.out.on hy6); replace HC := Lib.hid (HC.out.on hy6); replace Hb := Lib.hid (Hb.out.trans (hy6.mono Hb.out.size)); clear hb6 hx6 hy6 D2)
    | (go_at_call 20; refine (newreader_any _ _).mono ?_; rintro e w7 ⟨rfl, rfl⟩)
    | (go_at_call 19; (with_reducible refine (G1.out _ _ _ HC.out).mono ?_); rintro e w8 ⟨rfl, hy8⟩; replace HX := Lib.hid (HX.out.on hy8); replace H4 := Lib.hid (H4.out.on hy8); replace H2 := Lib.hid (H2.out.on hy8); replace Hb := Lib.hid (Hb.out.trans (hy8.mono Hb.out.size)); clear hy8 G1 HC)
    | (go_at_call 24; (with_reducible refine (N2.out _).mono ?_); rintro e w9 ⟨rfl, hb9⟩; replace HX := Lib.hid (HX.out.on hb9); replace H4 := Lib.hid (H4.out.on hb9); replace H2 := Lib.hid (H2.out.on hb9); replace Hb := Lib.hid (Hb.out.trans (hb9.mono Hb.out.size)); clear hb9 N2; obtain ⟨b9, o9, rfl, x91, x92⟩ := aw9_cells (by decide) H2.out)
    | (go_at_call 17; (with_reducible refine (S1.out _ _ _ H4.out).mono ?_); rintro e w10 ⟨rfl, hb10⟩; have hx10 := (HX.out.on hb10).two; have hl10 := (HX.out.on hb10).lt; obtain ⟨x101, x102, _, _⟩ := hx10; replace Hb := Lib.hid (Hb.out.trans (hb10.mono Hb.out.size)); clear hb10 S1))
  go_ret
  exact ⟨rfl, Hb.out⟩
end Go.Proofs.Ytlnlahnglkeaiaa
