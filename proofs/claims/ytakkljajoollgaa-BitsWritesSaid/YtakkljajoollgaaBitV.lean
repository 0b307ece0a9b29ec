/-
  Layer 4: Unpack of package bits, for every text and widths.
-/
import Derived.Test.YtakkljajoollgaaBitQ
import Derived.RegionTactic
import Derived.ChangeAlike
namespace Go.Proofs.Ytakkljajoollgaa
set_option linter.unusedSimpArgs false
set_option linter.unusedVariables false
open Go.ChangeShapes Go.WideShapes Go.ChangeAt Go.RowKit Go.Joins Go.Deep

set_option maxRecDepth 100000 in
set_option maxHeartbeats 2000000 in
theorem unpack_any (l : List UInt8) (ws : List Int) (A : Option Addr) (n c : Nat) (w : World) (hl : l.length ≤ 1099511627776) (hn : ws.length = n) (hn1 : n ≤ 1000) (hr : Reads w w.heap.size 1 A n (ints ws)) (R : List Int × Int × Int) (hR : unpackF (rowOf l) 0 ws = R) :
    Calls Try.prog 10 #[.string ⟨l.toArray⟩, .slice A n c] w fun e w' => ∃ A' c', e = .returned (.tuple #[.slice A' R.1.length c', .int .i64 R.2.1, .int .i64 R.2.2]) ∧ Reads w' w'.heap.size 1 A' R.1.length (ints R.1) ∧ Below w.heap.size w w' := by
  have hmf : ∀ (fn : Fn) (first cap : Array Value) (w : World), (Instr.makeFunc fn first cap).run Try.prog w = .ok (.func fn first cap) w := fun _ _ _ _ => rfl
  have hb0 := Blk.new w 23 #[.slice none 0 0]
  have hb1 := Blk.new (w.alloc (.cells #[.slice none 0 0] 23)) 61 #[.string ⟨l.toArray⟩, .int .i64 0]
  have hb2 := Blk.new ((w.alloc (.cells #[.slice none 0 0] 23)).alloc (.cells #[.string ⟨l.toArray⟩, .int .i64 0] 61)) 56 #[getV (w.heap.size + 1)]
  rw [show (w.alloc (.cells #[.slice none 0 0] 23)).heap.size = w.heap.size + 1 from by simp] at hb1
  rw [show ((w.alloc (.cells #[.slice none 0 0] 23)).alloc (.cells #[.string ⟨l.toArray⟩, .int .i64 0] 61)).heap.size = w.heap.size + 1 + 1 from by simp] at hb2
  have hU : UHold (((w.alloc (.cells #[.slice none 0 0] 23)).alloc (.cells #[.string ⟨l.toArray⟩, .int .i64 0] 61)).alloc (.cells #[getV (w.heap.size + 1)] 56)) w.heap.size (w.heap.size + 1) (w.heap.size + 1 + 1) w.heap.size l 0 (.slice none 0 0) [] :=
    ⟨hb1.alloc _, hb2, (hb0.alloc _).alloc _, World.ownsRow_nil _ _ _ _⟩
  have hbel : Below w.heap.size w (((w.alloc (.cells #[.slice none 0 0] 23)).alloc (.cells #[.string ⟨l.toArray⟩, .int .i64 0] 61)).alloc (.cells #[getV (w.heap.size + 1)] 56)) := by go_grown
  have heach := eachI_any l ws A n c w.heap.size w.heap.size (w.heap.size + 1) (w.heap.size + 1 + 1) w.heap.size (.slice none 0 0) _ hl hn hn1 (hr.below hbel) (by omega) (Nat.le_refl _) (Nat.le_refl _) hbel.size hU R hR
  have Heach := Lib.hid heach
  have Hbel := Lib.hid hbel
  clear heach hU hb0 hb1 hb2 hbel hr hn hl hR hn1
  go_enter Try.func10, Try.ntmps10
  go_wp2_with (first
    | (go_at_call 20; refine (newreader_any _ _).mono ?_; rintro e w1 ⟨rfl, rfl⟩)
    | (go_at_call 27; refine Heach.out.mono ?_; rintro e w1 ⟨ht1, rfl, v1, p1, hp1, hU1⟩; have HU1 := Lib.hid hU1; have Ht1 := Lib.hid ht1; have Hp1 := Lib.hid hp1; clear hU1 ht1 hp1))
  obtain ⟨A', c', rfl, hc', hr'⟩ := owns_cells HU1.out.own
  have c1 := HU1.out.lbox.cell 0
  rw [show (#[Value.slice A' R.1.length c'] : Array Value)[0]? = some (.slice A' R.1.length c') from rfl] at c1
  have z1 := HU1.out.lbox.frozen 0
  have hl1 := HU1.out.lbox.lt
  obtain ⟨d1, d2, _, _⟩ := Blk.two HU1.out.rd
  rw [← Hp1.out] at d2
  have hbl : Below w.heap.size w w1 := Hbel.out.trans (Ht1.out.below (fun k _ h => by
    rcases h with h | h | h
    · omega
    · omega
    · cases h) Hbel.out.size)
  have hrs : Reads (w1.setCell ⟨w.heap.size, 0, none⟩ (.slice A' R.1.length c')) w1.heap.size 1 A' R.1.length (ints R.1) :=
    ⟨hr'.1, fun hn => by
      obtain ⟨b, off, e, hb, hc⟩ := hr'.2 hn
      refine ⟨b, off, e, hb, fun j u hu => ?_⟩
      rw [← hc j u hu]
      refine World.cell?_setCell_other w1 _ _ _ (fun e2 => ?_)
      have h5 := owns_apart HU1.out.own HU1.out.lbox (by decide)
      injection e2 with e3
      exact h5 (by rw [e]; simp only [Value.ownBlock]; rw [e3])⟩
  have Hbl := Lib.hid hbl
  have Hrs := Lib.hid hrs
  clear hbl hrs hr' hc'
  have hx : (w1.setCell ⟨w.heap.size, 0, none⟩ (.slice A' R.1.length c')).cell? ⟨w.heap.size, 0, none⟩ = some (.slice A' R.1.length c') := by go_simp
  generalize hm : R.1.length = m at *
  generalize hq : R.2.1 = q at *
  generalize he : R.2.2 = e at *
  have HE := Lib.hid (And.intro hm (And.intro hq he))
  have Hx := Lib.hid hx
  clear hm hq he hx
  go_region
  go_wp2
  have hx := Hx.out
  generalize hX : w1.setCell ⟨w.heap.size, 0, none⟩ (.slice A' m c') = X at *
  refine bodyPost_ret (v := .tuple #[.slice A' m c', .int .i64 q, .int .i64 e]) (by simp [results, Try.results10, go_sem, hx]) rfl ⟨A', c', ?_, ?_, ?_⟩
  · rw [HE.out.1, HE.out.2.1, HE.out.2.2]
  · have h5 := Hrs.out
    rw [HE.out.1]
    exact h5.more (by rw [← hX]; simp [World.setCell])
  · have h6 := Hbl.out.setCell (p := ⟨w.heap.size, 0, none⟩) (Nat.le_refl _) (.slice A' m c')
    rw [hX] at h6
    exact h6.drew
end Go.Proofs.Ytakkljajoollgaa
