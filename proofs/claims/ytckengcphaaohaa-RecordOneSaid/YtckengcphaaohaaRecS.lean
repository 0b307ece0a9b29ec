/-
  Layer 15, the document's: Get of a record, at every place of any bytes (ahead of the code's landing).
-/
import Derived.Test.YtckengcphaaohaaRecR
import Derived.Test.YtckengcphaaohaaVarS
namespace Go.Proofs.Ytckengcphaaohaa
set_option linter.unusedSimpArgs false
set_option linter.unusedVariables false
open Go.ChangeShapes Go.WideShapes Go.ChangeAt Go.RowKit Go.Joins Go.Deep
def RGPost (w w' : World) (e : Ending) (F : Rc × Int × Int) : Prop := e = .returned (.tuple #[.agg #[.int .i64 F.1.1, .int .i64 F.1.2.1, .string ⟨F.1.2.2.toArray⟩], .int .i64 F.2.1, .int .i64 F.2.2]) ∧ Below w.heap.size w w'
theorem rrun_part (l : List UInt8) (p n : Int) (h0 : 0 ≤ p) (hn : 0 ≤ n) (hl : p + n ≤ l.length) (w : World) :
    (Instr.slice 9 (.string ⟨l.toArray⟩) (some (.int .i64 p)) (some (.int .i64 (p + n))) none).run Try.prog w = .ok (.string ⟨((l.drop p.toNat).take n.toNat).toArray⟩) w := by
  rw [run_slice_string w 9 ⟨l.toArray⟩ .i64 .i64 p (p + n) Try.underlying9 h0 (by omega) (by rw [ByteArray.size_mk', List.size_toArray]; exact hl), ByteArray.extract_mk]
  congr 5
  omega
set_option maxRecDepth 100000 in
set_option maxHeartbeats 4000000 in
theorem rref_get_any (s : List UInt8) (p : Int) (w : World) (hs : s.length ≤ 1000000) :
    Calls Try.prog 12 #[.string ⟨s.toArray⟩, .int .i64 p] w fun e w' => RGPost w w' e (rgetF s p) := by
  unfold RGPost
  have g1 := fun W => refGet_any s p W (by omega)
  unfold trip at g1
  have k1 := rnum_ok (s := s) (p := p)
  unfold rgetF
  generalize getF s p = u at *
  obtain ⟨x, a, e1⟩ := u
  dsimp only at *
  by_cases n1 : e1 ≠ 0
  · rw [if_pos n1]
    replace g1 := Lib.hid g1
    dsimp only [rnone]
    clear k1
    go_enter Try.func12, Try.ntmps12
    go_wp2_with (go_at_call 29; (with_reducible refine (g1.out _).mono ?_); rintro e w1 ⟨rfl, rfl⟩; clear g1)
    refine bodyPost_ret (v := .tuple #[.agg #[.int .i64 0, .int .i64 0, .string ⟨#[]⟩], .int .i64 0, .int .i64 e1]) (by simp [results, Try.results12, go_sem]) rfl ⟨rfl, by go_grown⟩
  obtain rfl : e1 = 0 := by omega
  rw [if_neg n1]
  replace k1 := k1 rfl
  unfold rg1
  have g2 := fun W => refGet_any s a W (by omega)
  unfold trip at g2
  have k2 := rnum_ok (s := s) (p := a)
  generalize getF s a = u at *
  obtain ⟨y, b, e2⟩ := u
  dsimp only at *
  by_cases n2 : e2 ≠ 0
  · rw [if_pos n2]
    replace g1 := Lib.hid g1
    replace g2 := Lib.hid g2
    dsimp only [rnone]
    clear k1 k2
    go_enter Try.func12, Try.ntmps12
    go_wp2_with (first
      | (go_at_call 29; (with_reducible refine (g1.out _).mono ?_); rintro e w1 ⟨rfl, rfl⟩; clear g1)
      | (go_at_call 29; (with_reducible refine (g2.out _).mono ?_); rintro e w2 ⟨rfl, rfl⟩; clear g2))
    refine bodyPost_ret (v := .tuple #[.agg #[.int .i64 0, .int .i64 0, .string ⟨#[]⟩], .int .i64 0, .int .i64 e2]) (by simp [results, Try.results12, go_sem]) rfl ⟨rfl, by go_grown⟩
  obtain rfl : e2 = 0 := by omega
  rw [if_neg n2]
  replace k2 := k2 rfl
  unfold rg2
  have g3 := fun W => refGet_any s b W (by omega)
  unfold trip at g3
  have k3 := rnum_ok (s := s) (p := b)
  generalize getF s b = u at *
  obtain ⟨n, c, e3⟩ := u
  dsimp only at *
  by_cases n3 : e3 ≠ 0
  · rw [if_pos n3]
    replace g1 := Lib.hid g1
    replace g2 := Lib.hid g2
    replace g3 := Lib.hid g3
    dsimp only [rnone]
    clear k1 k2 k3
    go_enter Try.func12, Try.ntmps12
    go_wp2_with (first
      | (go_at_call 29; (with_reducible refine (g1.out _).mono ?_); rintro e w1 ⟨rfl, rfl⟩; clear g1)
      | (go_at_call 29; (with_reducible refine (g2.out _).mono ?_); rintro e w2 ⟨rfl, rfl⟩; clear g2)
      | (go_at_call 29; (with_reducible refine (g3.out _).mono ?_); rintro e w3 ⟨rfl, rfl⟩; clear g3))
    refine bodyPost_ret (v := .tuple #[.agg #[.int .i64 0, .int .i64 0, .string ⟨#[]⟩], .int .i64 0, .int .i64 e3]) (by simp [results, Try.results12, go_sem]) rfl ⟨rfl, by go_grown⟩
  obtain rfl : e3 = 0 := by omega
  rw [if_neg n3]
  replace k3 := k3 rfl
  replace g1 := Lib.hid g1
  replace g2 := Lib.hid g2
  replace g3 := Lib.hid g3
  clear n1 n2 n3
  obtain ⟨_, _, x0, _, _, _, _⟩ := k1
  obtain ⟨_, _, y0, _, _, _, _⟩ := k2
  obtain ⟨_, _, m0, _, c0, c1, _⟩ := k3
  unfold rg3
  by_cases h0 : x < 1
  · rw [if_neg (by omega)]
    dsimp only [rnone]
    go_enter Try.func12, Try.ntmps12
    go_wp2_with (first
      | (go_at_call 29; (with_reducible refine (g1.out _).mono ?_); rintro e w1 ⟨rfl, rfl⟩; clear g1)
      | (go_at_call 29; (with_reducible refine (g2.out _).mono ?_); rintro e w2 ⟨rfl, rfl⟩; clear g2)
      | (go_at_call 29; (with_reducible refine (g3.out _).mono ?_); rintro e w3 ⟨rfl, rfl⟩; clear g3))
    refine bodyPost_ret (v := .tuple #[.agg #[.int .i64 0, .int .i64 0, .string ⟨#[]⟩], .int .i64 0, .int .i64 150]) (by simp [results, Try.results12, go_sem]) rfl ⟨rfl, by go_grown⟩
  by_cases h1 : 1000000000 < x
  · rw [if_neg (by omega)]
    dsimp only [rnone]
    go_enter Try.func12, Try.ntmps12
    go_wp2_with (first
      | (go_at_call 29; (with_reducible refine (g1.out _).mono ?_); rintro e w1 ⟨rfl, rfl⟩; clear g1)
      | (go_at_call 29; (with_reducible refine (g2.out _).mono ?_); rintro e w2 ⟨rfl, rfl⟩; clear g2)
      | (go_at_call 29; (with_reducible refine (g3.out _).mono ?_); rintro e w3 ⟨rfl, rfl⟩; clear g3))
    refine bodyPost_ret (v := .tuple #[.agg #[.int .i64 0, .int .i64 0, .string ⟨#[]⟩], .int .i64 0, .int .i64 150]) (by simp [results, Try.results12, go_sem]) rfl ⟨rfl, by go_grown⟩
  by_cases h2 : 1000000000 < y
  · rw [if_neg (by omega)]
    dsimp only [rnone]
    go_enter Try.func12, Try.ntmps12
    go_wp2_with (first
      | (go_at_call 29; (with_reducible refine (g1.out _).mono ?_); rintro e w1 ⟨rfl, rfl⟩; clear g1)
      | (go_at_call 29; (with_reducible refine (g2.out _).mono ?_); rintro e w2 ⟨rfl, rfl⟩; clear g2)
      | (go_at_call 29; (with_reducible refine (g3.out _).mono ?_); rintro e w3 ⟨rfl, rfl⟩; clear g3))
    refine bodyPost_ret (v := .tuple #[.agg #[.int .i64 0, .int .i64 0, .string ⟨#[]⟩], .int .i64 0, .int .i64 150]) (by simp [results, Try.results12, go_sem]) rfl ⟨rfl, by go_grown⟩
  by_cases h3 : 2000 < n
  · rw [if_neg (by omega)]
    dsimp only [rnone]
    go_enter Try.func12, Try.ntmps12
    go_wp2_with (first
      | (go_at_call 29; (with_reducible refine (g1.out _).mono ?_); rintro e w1 ⟨rfl, rfl⟩; clear g1)
      | (go_at_call 29; (with_reducible refine (g2.out _).mono ?_); rintro e w2 ⟨rfl, rfl⟩; clear g2)
      | (go_at_call 29; (with_reducible refine (g3.out _).mono ?_); rintro e w3 ⟨rfl, rfl⟩; clear g3))
    refine bodyPost_ret (v := .tuple #[.agg #[.int .i64 0, .int .i64 0, .string ⟨#[]⟩], .int .i64 0, .int .i64 150]) (by simp [results, Try.results12, go_sem]) rfl ⟨rfl, by go_grown⟩
  rw [if_pos (by omega)]
  have hci : (0 : Int) ≤ c ∧ c ≤ 1000000 ∧ 0 ≤ n ∧ n ≤ 2000 := by omega
  by_cases h4 : (s.length : Int) < c + n
  · rw [if_pos h4]
    dsimp only [rnone]
    go_enter Try.func12, Try.ntmps12
    go_wp2_with (first
      | (go_at_call 29; (with_reducible refine (g1.out _).mono ?_); rintro e w1 ⟨rfl, rfl⟩; clear g1)
      | (go_at_call 29; (with_reducible refine (g2.out _).mono ?_); rintro e w2 ⟨rfl, rfl⟩; clear g2)
      | (go_at_call 29; (with_reducible refine (g3.out _).mono ?_); rintro e w3 ⟨rfl, rfl⟩; clear g3))
    refine bodyPost_ret (v := .tuple #[.agg #[.int .i64 0, .int .i64 0, .string ⟨#[]⟩], .int .i64 0, .int .i64 4]) (by simp [results, Try.results12, go_sem]) rfl ⟨rfl, by go_grown⟩
  rw [if_neg h4]
  have hsl := rrun_part s c n (by omega) (by omega) (by omega)
  dsimp only
  go_enter Try.func12, Try.ntmps12
  go_wp2_with (first
    | (go_at_call 29; (with_reducible refine (g1.out _).mono ?_); rintro e w1 ⟨rfl, rfl⟩; clear g1)
    | (go_at_call 29; (with_reducible refine (g2.out _).mono ?_); rintro e w2 ⟨rfl, rfl⟩; clear g2)
    | (go_at_call 29; (with_reducible refine (g3.out _).mono ?_); rintro e w3 ⟨rfl, rfl⟩; clear g3))
  refine bodyPost_ret (v := .tuple #[.agg #[.int .i64 x, .int .i64 y, .string ⟨((s.drop c.toNat).take n.toNat).toArray⟩], .int .i64 (c + n), .int .i64 0]) (by simp [results, Try.results12, go_sem]) rfl ⟨rfl, by go_grown⟩
end Go.Proofs.Ytckengcphaaohaa
