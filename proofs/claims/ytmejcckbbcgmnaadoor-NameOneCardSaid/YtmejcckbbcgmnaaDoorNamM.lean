/-
  Layer 18, plain: names of files; back (P18.3), one (P18.4) (ahead of the code's landing).
-/
import Derived.Test.YtmejcckbbcgmnaaDoorSufM
namespace Go.Proofs.YtmejcckbbcgmnaaDoor
set_option linter.unusedSimpArgs false
set_option linter.unusedVariables false
open Go.ChangeShapes Go.WideShapes Go.ChangeAt Go.RowKit Go.Joins Go.Deep
def nsx : Nat → Nat → List UInt8
  | 0, _ => []
  | k + 1, n => UInt8.ofNat (48 + n / 10 ^ k % 10) :: nsx k n
theorem nsx_len : ∀ k n, (nsx k n).length = k
  | 0, _ => rfl
  | k + 1, n => by
    show (nsx k n).length + 1 = k + 1
    rw [nsx_len k n]
theorem nsx_add : ∀ (k a n : Nat), nsx k (a * 10 ^ k + n) = nsx k n
  | 0, _, _ => rfl
  | k + 1, a, n => by
    have e : a * 10 ^ (k + 1) + n = (a * 10) * 10 ^ k + n := by rw [Nat.pow_succ, Nat.mul_comm (10 ^ k) 10, Nat.mul_assoc]
    have hp : 0 < 10 ^ k := Nat.pow_pos (by omega)
    show UInt8.ofNat (48 + (a * 10 ^ (k + 1) + n) / 10 ^ k % 10) :: nsx k (a * 10 ^ (k + 1) + n) = UInt8.ofNat (48 + n / 10 ^ k % 10) :: nsx k n
    rw [e, nsx_add k (a * 10) n, Nat.add_comm (a * 10 * 10 ^ k) n, Nat.add_mul_div_right _ _ hp, Nat.add_mul_mod_self_right]
theorem nsx_mod (k n : Nat) : nsx k (n % 10 ^ k) = nsx k n := by
  have := nsx_add k (n / 10 ^ k) (n % 10 ^ k)
  rw [Nat.mul_comm, Nat.div_add_mod] at this
  exact this.symm
def nun : List UInt8 → Nat → Int
  | [], m => m
  | c :: t, m => if 48 ≤ c.toNat ∧ c.toNat ≤ 57 then nun t (10 * m + (c.toNat - 48)) else -1
theorem ndig (d : Nat) (h : d < 10) : (UInt8.ofNat (48 + d)).toNat = 48 + d := u8_ofNat _ (by omega)
theorem nun_sx : ∀ (k n m : Nat), nun (nsx k n) m = ((m * 10 ^ k + n % 10 ^ k : Nat) : Int)
  | 0, n, m => by
    show (m : Int) = _
    rw [Nat.pow_zero, Nat.mod_one]
    simp
  | k + 1, n, m => by
    have hd : n / 10 ^ k % 10 < 10 := Nat.mod_lt _ (by omega)
    have e : (10 * m + n / 10 ^ k % 10) * 10 ^ k + n % 10 ^ k = m * 10 ^ (k + 1) + n % 10 ^ (k + 1) := by
      rw [Nat.mod_pow_succ, Nat.pow_succ, Nat.add_mul, Nat.mul_comm (10 ^ k) (n / 10 ^ k % 10), Nat.mul_comm 10 m, Nat.mul_assoc, Nat.mul_comm 10 (10 ^ k)]
      omega
    show (if 48 ≤ (UInt8.ofNat (48 + n / 10 ^ k % 10)).toNat ∧ (UInt8.ofNat (48 + n / 10 ^ k % 10)).toNat ≤ 57 then nun (nsx k n) (10 * m + ((UInt8.ofNat (48 + n / 10 ^ k % 10)).toNat - 48)) else -1) = _
    rw [ndig _ hd, if_pos (by omega), show 48 + n / 10 ^ k % 10 - 48 = n / 10 ^ k % 10 from by omega, nun_sx k n, e]
theorem nun_ok : ∀ (l : List UInt8) (m : Nat), 0 ≤ nun l m → ∃ n, n < 10 ^ l.length ∧ nun l m = ((m * 10 ^ l.length + n : Nat) : Int) ∧ l = nsx l.length n
  | [], m, _ => ⟨0, by simp, by simp [nun], rfl⟩
  | c :: t, m, h => by
    change 0 ≤ (if 48 ≤ c.toNat ∧ c.toNat ≤ 57 then nun t (10 * m + (c.toNat - 48)) else -1) at h
    by_cases hc : 48 ≤ c.toNat ∧ c.toNat ≤ 57
    · rw [if_pos hc] at h
      obtain ⟨n, hn, hv, hl⟩ := nun_ok t _ h
      obtain ⟨d, hd⟩ : ∃ d, c.toNat - 48 = d := ⟨_, rfl⟩
      rw [hd] at hv
      have hp : 0 < 10 ^ t.length := Nat.pow_pos (by omega)
      have hk : 10 ^ (t.length + 1) = 10 * 10 ^ t.length := by rw [Nat.pow_succ, Nat.mul_comm]
      have hdv : (d * 10 ^ t.length + n) / 10 ^ t.length = d := by rw [Nat.add_comm, Nat.add_mul_div_right _ _ hp, Nat.div_eq_of_lt hn, Nat.zero_add]
      refine ⟨d * 10 ^ t.length + n, ?_, ?_, ?_⟩
      · rw [List.length_cons, hk]
        have : d * 10 ^ t.length ≤ 9 * 10 ^ t.length := Nat.mul_le_mul_right _ (by omega)
        omega
      · change (if 48 ≤ c.toNat ∧ c.toNat ≤ 57 then nun t (10 * m + (c.toNat - 48)) else -1) = _
        rw [if_pos hc, hd, hv, List.length_cons, hk, Nat.add_mul, Nat.mul_comm 10 m, Nat.mul_assoc]
        congr 1
        omega
      · show c :: t = UInt8.ofNat (48 + (d * 10 ^ t.length + n) / 10 ^ t.length % 10) :: nsx t.length (d * 10 ^ t.length + n)
        rw [hdv, nsx_add, ← hl, Nat.mod_eq_of_lt (by omega)]
        congr 1
        exact u8_eq (by rw [ndig d (by omega)]; omega)
    · rw [if_neg hc] at h
      omega
theorem nsx_lt : ∀ (k a b : Nat) (u v : List UInt8), a < 10 ^ k → b < 10 ^ k → (Op.bytesLess (nsx k a ++ u) (nsx k b ++ v) = true ↔ a < b ∨ (a = b ∧ Op.bytesLess u v = true))
  | 0, a, b, u, v, ha, hb => by
    have e1 : a = 0 := by simpa using ha
    have e2 : b = 0 := by simpa using hb
    subst e1
    subst e2
    simp [nsx]
  | k + 1, a, b, u, v, ha, hb => by
    have hp : 0 < 10 ^ k := Nat.pow_pos (by omega)
    rw [Nat.pow_succ, Nat.mul_comm] at ha hb
    have da : a / 10 ^ k < 10 := (Nat.div_lt_iff_lt_mul hp).2 ha
    have db : b / 10 ^ k < 10 := (Nat.div_lt_iff_lt_mul hp).2 hb
    have ra := Nat.mod_lt a hp
    have rb := Nat.mod_lt b hp
    have ea := Nat.div_add_mod a (10 ^ k)
    have eb := Nat.div_add_mod b (10 ^ k)
    have ih := nsx_lt k (a % 10 ^ k) (b % 10 ^ k) u v ra rb
    rw [nsx_mod, nsx_mod] at ih
    show Op.bytesLess (UInt8.ofNat (48 + a / 10 ^ k % 10) :: (nsx k a ++ u)) (UInt8.ofNat (48 + b / 10 ^ k % 10) :: (nsx k b ++ v)) = true ↔ _
    rw [slt_iff, ih, Nat.mod_eq_of_lt da, Nat.mod_eq_of_lt db, ndig _ da, ndig _ db]
    generalize a / 10 ^ k = x at *
    generalize b / 10 ^ k = y at *
    generalize a % 10 ^ k = r at *
    generalize b % 10 ^ k = q at *
    generalize 10 ^ k = P at *
    have hxy : UInt8.ofNat (48 + x) = UInt8.ofNat (48 + y) ↔ x = y := ⟨fun e => by have := congrArg UInt8.toNat e; rw [ndig _ da, ndig _ db] at this; omega, fun e => by rw [e]⟩
    rw [hxy]
    rcases Nat.lt_trichotomy x y with h | h | h
    · have h2 : P * (x + 1) ≤ P * y := Nat.mul_le_mul_left _ h
      rw [Nat.mul_add, Nat.mul_one] at h2
      have : a < b := by omega
      simp only [h, this, true_or, Nat.add_lt_add_iff_left]
    · subst h
      have h1 : a < b ↔ r < q := by omega
      have h2 : a = b ↔ r = q := by omega
      rw [h1, h2]
      simp
    · have h2 : P * (y + 1) ≤ P * x := Nat.mul_le_mul_left _ h
      rw [Nat.mul_add, Nat.mul_one] at h2
      have h3 : ¬ a < b := by omega
      have h4 : ¬ a = b := by omega
      have h5 : ¬ x < y := by omega
      have h6 : ¬ x = y := by omega
      simp only [h3, h4, h5, h6, false_and, or_false, Nat.add_lt_add_iff_left]
def nchr (c : UInt8) : Bool := decide ((97 ≤ c.toNat ∧ c.toNat ≤ 122) ∨ (48 ≤ c.toNat ∧ c.toNat ≤ 57) ∨ c.toNat = 46 ∨ c.toNat = 45)
def nchkF (s : List UInt8) : Int := if 1 ≤ s.length ∧ s.length ≤ 64 ∧ s.all nchr = true then 0 else 180
def nhead : List UInt8 := [115, 101, 103, 45]
def ntail : List UInt8 := [46, 108, 111, 103]
def nmani : List UInt8 := [109, 97, 110, 105, 102, 101, 115, 116]
def ntemp : List UInt8 := [109, 97, 110, 105, 102, 101, 115, 116, 46, 110, 101, 119]
def nmB (a b : Nat) : List UInt8 := nhead ++ (nsx 6 a ++ (45 :: (nsx 6 b ++ ntail)))
def nsegF (a b : Int) : List UInt8 × Int := if 1 ≤ a ∧ a ≤ 999999 ∧ 1 ≤ b ∧ b ≤ 999999 then (nmB a.toNat b.toNat, 0) else ([], 2)
def nform (s : List UInt8) : Bool := decide (s.length = 21 ∧ s.take 4 = nhead ∧ s.getD 10 0 = 45 ∧ s.drop 17 = ntail)
def nparF (s : List UInt8) : Int × Int × Bool :=
  if nform s = true ∧ 1 ≤ nun ((s.drop 4).take 6) 0 ∧ 1 ≤ nun ((s.drop 11).take 6) 0 then (nun ((s.drop 4).take 6) 0, nun ((s.drop 11).take 6) 0, true) else (0, 0, false)
def nkindF (s : List UInt8) : Int := if (nparF s).2.2 = true then 1 else if s = nmani then 2 else if s = ntemp then 3 else 0
theorem nmB_len (a b : Nat) : (nmB a b).length = 21 := by
  unfold nmB
  simp only [List.length_append, List.length_cons, nsx_len]
  decide
theorem nmB_parts (a b : Nat) : (nmB a b).take 4 = nhead ∧ ((nmB a b).drop 4).take 6 = nsx 6 a ∧ (nmB a b).getD 10 0 = 45 ∧ ((nmB a b).drop 11).take 6 = nsx 6 b ∧ (nmB a b).drop 17 = ntail := by
  have h4 : (nmB a b).drop 4 = nsx 6 a ++ (45 :: (nsx 6 b ++ ntail)) := by unfold nmB; exact List.drop_left' rfl
  have h10 : (nmB a b).drop 10 = 45 :: (nsx 6 b ++ ntail) := by
    rw [show 10 = 4 + 6 from rfl, ← List.drop_drop, h4]
    exact List.drop_left' (nsx_len 6 a)
  have h11 : (nmB a b).drop 11 = nsx 6 b ++ ntail := by rw [show 11 = 10 + 1 from rfl, ← List.drop_drop, h10]; rfl
  refine ⟨by unfold nmB; exact List.take_left' rfl, by rw [h4]; exact List.take_left' (nsx_len 6 a), ?_, by rw [h11]; exact List.take_left' (nsx_len 6 b), ?_⟩
  · have := congrArg (fun l => l.getD 0 0) h10
    simp only [List.getD_eq_getElem?_getD, List.getElem?_drop, Nat.add_zero] at this ⊢
    rw [this]
    rfl
  · rw [show 17 = 11 + 6 from rfl, ← List.drop_drop, h11]
    exact List.drop_left' (nsx_len 6 b)
theorem nback (a b : Nat) (ha : 1 ≤ a ∧ a ≤ 999999) (hb : 1 ≤ b ∧ b ≤ 999999) : nparF (nmB a b) = ((a : Int), (b : Int), true) := by
  obtain ⟨h1, h2, h3, h4, h5⟩ := nmB_parts a b
  have ea : nun (nsx 6 a) 0 = (a : Int) := by rw [nun_sx, Nat.mod_eq_of_lt (by omega)]; simp
  have eb : nun (nsx 6 b) 0 = (b : Int) := by rw [nun_sx, Nat.mod_eq_of_lt (by omega)]; simp
  have hf : nform (nmB a b) = true := decide_eq_true ⟨nmB_len a b, h1, h3, h5⟩
  unfold nparF
  rw [h2, h4, ea, eb, if_pos ⟨hf, by omega, by omega⟩]
theorem nforth {s : List UInt8} (h : (nparF s).2.2 = true) : ∃ a b : Nat, (1 ≤ a ∧ a ≤ 999999) ∧ (1 ≤ b ∧ b ≤ 999999) ∧ nparF s = ((a : Int), (b : Int), true) ∧ s = nmB a b := by
  unfold nparF at h ⊢
  by_cases hc : nform s = true ∧ 1 ≤ nun ((s.drop 4).take 6) 0 ∧ 1 ≤ nun ((s.drop 11).take 6) 0
  · rw [if_pos hc]
    obtain ⟨h0, h1, h2⟩ := hc
    obtain ⟨f1, f2, f3, f4⟩ := of_decide_eq_true h0
    have l1 : ((s.drop 4).take 6).length = 6 := by rw [List.length_take, List.length_drop]; omega
    have l2 : ((s.drop 11).take 6).length = 6 := by rw [List.length_take, List.length_drop]; omega
    obtain ⟨a, ha, va, sa⟩ := nun_ok _ 0 (by omega : 0 ≤ nun ((s.drop 4).take 6) 0)
    obtain ⟨b, hb, vb, sb⟩ := nun_ok _ 0 (by omega : 0 ≤ nun ((s.drop 11).take 6) 0)
    rw [l1] at ha va sa
    rw [l2] at hb vb sb
    rw [Nat.zero_mul, Nat.zero_add] at va vb
    rw [va] at h1 ⊢
    rw [vb] at h2 ⊢
    refine ⟨a, b, by omega, by omega, rfl, ?_⟩
    have e10 : s.drop 10 = 45 :: s.drop 11 := by
      rw [List.drop_eq_getElem_cons (by omega : 10 < s.length)]
      rw [List.getD_eq_getElem?_getD, List.getElem?_eq_getElem (by omega : 10 < s.length), Option.getD_some] at f3
      rw [f3]
    have e1 : s = s.take 4 ++ ((s.drop 4).take 6 ++ s.drop 10) := by
      have h := List.take_append_drop 6 (s.drop 4)
      rw [List.drop_drop] at h
      rw [h, List.take_append_drop]
    have e2 : s.drop 11 = (s.drop 11).take 6 ++ s.drop 17 := by
      have h := List.take_append_drop 6 (s.drop 11)
      rw [List.drop_drop] at h
      exact h.symm
    rw [e1, e10, e2, f2, sa, sb, f4]
    rfl
  · rw [if_neg hc] at h
    cases h
theorem nchr_dig (d : Nat) (h : d < 10) : nchr (UInt8.ofNat (48 + d)) = true := by
  unfold nchr
  rw [ndig d h]
  exact decide_eq_true (by omega)
theorem nsx_all : ∀ k n, (nsx k n).all nchr = true
  | 0, _ => rfl
  | k + 1, n => by
    show (nchr (UInt8.ofNat (48 + n / 10 ^ k % 10)) && (nsx k n).all nchr) = true
    rw [nchr_dig _ (Nat.mod_lt _ (by omega)), nsx_all k n]
    rfl
theorem nchk_B (a b : Nat) : nchkF (nmB a b) = 0 := by
  unfold nchkF
  refine if_pos ⟨by rw [nmB_len]; omega, by rw [nmB_len]; omega, ?_⟩
  unfold nmB
  rw [List.all_append, List.all_append, List.all_cons, List.all_append, nsx_all, nsx_all]
  decide
theorem nlt_B (a b c d : Nat) (ha : a ≤ 999999) (hb : b ≤ 999999) (hc : c ≤ 999999) (hd : d ≤ 999999) : Op.bytesLess (nmB a b) (nmB c d) = true ↔ a < c ∨ (a = c ∧ b < d) := by
  have h1 : Op.bytesLess (nmB a b) (nmB c d) = Op.bytesLess (nsx 6 a ++ (45 :: (nsx 6 b ++ ntail))) (nsx 6 c ++ (45 :: (nsx 6 d ++ ntail))) := by
    show Op.bytesLess (115 :: 101 :: 103 :: 45 :: (nsx 6 a ++ (45 :: (nsx 6 b ++ ntail)))) (115 :: 101 :: 103 :: 45 :: (nsx 6 c ++ (45 :: (nsx 6 d ++ ntail)))) = _
    rw [slt_cons, slt_cons, slt_cons, slt_cons]
    simp
  rw [h1, nsx_lt 6 a c _ _ (by omega) (by omega), slt_iff, nsx_lt 6 b d _ _ (by omega) (by omega), slt_irrefl]
  simp
theorem ninj_B (a b c d : Nat) (ha : a ≤ 999999) (hb : b ≤ 999999) (hc : c ≤ 999999) (hd : d ≤ 999999) (h : nmB a b = nmB c d) : a = c ∧ b = d := by
  have k1 := nlt_B a b c d ha hb hc hd
  have k2 := nlt_B c d a b hc hd ha hb
  rw [h, slt_irrefl] at k1 k2
  have n1 : ¬ (a < c ∨ (a = c ∧ b < d)) := fun h => by cases k1.2 h
  have n2 : ¬ (c < a ∨ (c = a ∧ d < b)) := fun h => by cases k2.2 h
  omega
theorem nmB_mani (a b : Nat) : nmB a b ≠ nmani ∧ nmB a b ≠ ntemp := by
  have h := nmB_len a b
  constructor <;> (intro e; rw [e] at h; cases h)
theorem nkind_B (a b : Nat) (ha : 1 ≤ a ∧ a ≤ 999999) (hb : 1 ≤ b ∧ b ≤ 999999) : nkindF (nmB a b) = 1 := by
  unfold nkindF
  rw [nback a b ha hb]
  rfl
end Go.Proofs.YtmejcckbbcgmnaaDoor
