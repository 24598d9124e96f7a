/- Numbers as sets of places, digit sums, and the steps of a column of the table: plain mathematics, no program in it. -/
import Derived.Test.YtfcolmjjfoaeeaaDist
namespace Go.Proofs.Ytfcolmjjfoaeeaa
set_option linter.unusedSimpArgs false
set_option linter.unusedVariables false

/-- the sum of 2^k over the places k below n at which p holds -/
def maskN (p : Nat → Bool) : Nat → Nat
  | 0 => 0
  | n + 1 => maskN p n + if p n = true then 2 ^ n else 0
theorem maskN_lt (p : Nat → Bool) (n : Nat) : maskN p n < 2 ^ n := by
  induction n with
  | zero => simp [maskN]
  | succ n ih => rw [maskN, Nat.pow_succ]; split <;> omega
theorem maskN_congr {p q : Nat → Bool} {n : Nat} (h : ∀ k, k < n → p k = q k) : maskN p n = maskN q n := by
  induction n with
  | zero => rfl
  | succ n ih => rw [maskN, maskN, ih (fun k hk => h k (by omega)), h n (by omega)]
theorem maskN_or (p : Nat → Bool) (n : Nat) : maskN p n ||| 2 ^ n = maskN p n + 2 ^ n := by
  have := Nat.two_pow_add_eq_or_of_lt (maskN_lt p n) 1
  rw [Nat.mul_one] at this
  rw [Nat.or_comm, ← this, Nat.add_comm]
theorem maskN_bit (p : Nat → Bool) (n k : Nat) : (maskN p n).testBit k = (decide (k < n) && p k) := by
  induction n with
  | zero => simp [maskN]
  | succ n ih =>
    rw [maskN]
    by_cases hp : p n = true
    · rw [if_pos hp, ← maskN_or, Nat.testBit_or, ih, Nat.testBit_two_pow]
      by_cases h : n = k
      · subst h; simp [hp]
      · have : decide (k < n + 1) = decide (k < n) := by rw [decide_eq_decide]; omega
        rw [this]; simp [h]
    · rw [if_neg hp, Nat.add_zero, ih]
      by_cases h : n = k
      · subst h; simp at hp; simp [hp]
      · have : decide (k < n + 1) = decide (k < n) := by rw [decide_eq_decide]; omega
        rw [this]
theorem maskN_of (x n : Nat) (h : x < 2 ^ n) : maskN (fun k => x.testBit k) n = x := by
  apply Nat.eq_of_testBit_eq
  intro k
  rw [maskN_bit]
  by_cases hk : k < n
  · simp [hk]
  · have : x.testBit k = false := Nat.testBit_lt_two_pow (Nat.lt_of_lt_of_le h (Nat.pow_le_pow_right (by omega) (by omega)))
    simp [hk, this]
theorem maskN_all (n : Nat) : maskN (fun _ => true) n = 2 ^ n - 1 := by
  induction n with
  | zero => rfl
  | succ n ih => rw [maskN, ih, if_pos rfl, Nat.pow_succ]; have := Nat.two_pow_pos n; omega
theorem maskN_none (n : Nat) : maskN (fun _ => false) n = 0 := by
  induction n with
  | zero => rfl
  | succ n ih => rw [maskN, ih]; simp
theorem maskN_eq_zero {p : Nat → Bool} {n : Nat} (h : ∀ k, k < n → p k = false) : maskN p n = 0 := by rw [maskN_congr h]; exact maskN_none n
theorem maskN_and {p q : Nat → Bool} {n : Nat} (h : ∀ k, k < n → ¬ (p k = true ∧ q k = true)) : maskN p n &&& maskN q n = 0 := by
  apply Nat.eq_of_testBit_eq
  intro k
  rw [Nat.testBit_and, maskN_bit, maskN_bit, Nat.zero_testBit]
  by_cases hk : k < n
  · have := h k hk
    cases hp : p k <;> cases hq : q k <;> simp_all
  · simp [hk]
theorem maskN_orr (p q : Nat → Bool) (n : Nat) : maskN p n ||| maskN q n = maskN (fun k => p k || q k) n := by
  apply Nat.eq_of_testBit_eq
  intro k
  rw [Nat.testBit_or, maskN_bit, maskN_bit, maskN_bit]
  cases decide (k < n) <;> cases p k <;> cases q k <;> rfl

/-- the number of digits 1 below n -/
def digits (x : Nat) : Nat → Nat
  | 0 => 0
  | n + 1 => digits x n + x / 2 ^ n % 2
theorem digit_bit (x k : Nat) : x / 2 ^ k % 2 = if x.testBit k = true then 1 else 0 := by
  rw [Nat.testBit_eq_decide_div_mod_eq]
  by_cases h : x / 2 ^ k % 2 = 1
  · simp [h]
  · simp [h]; omega
theorem digits_le (x n : Nat) : digits x n ≤ n := by
  induction n with
  | zero => exact Nat.le_refl 0
  | succ n ih => rw [digits]; omega
theorem digits_zero (n : Nat) : digits 0 n = 0 := by
  induction n with
  | zero => rfl
  | succ n ih => rw [digits, ih]; simp
theorem digits_congr {x y n : Nat} (h : ∀ k, k < n → x.testBit k = y.testBit k) : digits x n = digits y n := by
  induction n with
  | zero => rfl
  | succ n ih => rw [digits, digits, ih (fun k hk => h k (by omega)), digit_bit, digit_bit, h n (by omega)]
/-- a digit more -/
theorem digits_more (x k n : Nat) (hk : k < n) (h0 : x / 2 ^ k % 2 = 0) : digits (x ||| 2 ^ k) n = digits x n + 1 := by
  have hb : x.testBit k = false := by rw [digit_bit] at h0; cases h : x.testBit k <;> simp_all
  induction n with
  | zero => omega
  | succ n ih =>
    rw [digits, digits]
    by_cases e : k = n
    · subst e
      rw [digits_congr (x := x ||| 2 ^ k) (y := x) (fun j hj => by rw [Nat.testBit_or, Nat.testBit_two_pow]; simp; omega), digit_bit (x ||| 2 ^ k), Nat.testBit_or, Nat.testBit_two_pow_self, h0]
      simp
    · rw [ih (by omega), digit_bit (x ||| 2 ^ k) n, Nat.testBit_or, Nat.testBit_two_pow, digit_bit x n]
      have : decide (k = n) = false := by simpa using e
      rw [this, Bool.or_false]
      omega
theorem digit_more_lt (x k n : Nat) (hk : k < n) (hx : x < 2 ^ n) : x ||| 2 ^ k < 2 ^ n := Nat.or_lt_two_pow hx (Nat.pow_lt_pow_right (by omega) hk)
theorem digit_more_and (x y k : Nat) (h : x &&& y = 0) (h0 : y / 2 ^ k % 2 = 0) : (x ||| 2 ^ k) &&& y = 0 := by
  have hb : y.testBit k = false := by rw [digit_bit] at h0; cases h : y.testBit k <;> simp_all
  apply Nat.eq_of_testBit_eq
  intro j
  have hj := congrArg (fun z => z.testBit j) h
  simp only [Nat.testBit_and, Nat.zero_testBit] at hj
  rw [Nat.testBit_and, Nat.testBit_or, Nat.testBit_two_pow, Nat.zero_testBit]
  by_cases e : k = j
  · subst e; rw [hb]; simp
  · simp [e]; simpa using hj

/-- the column of a word: the distances of its beginnings from another word, and where they grow and sink -/
noncomputable def colN (a b : List UInt8) (k : Nat) : Nat := cell false a b k b.length
noncomputable def upP (a b : List UInt8) (k : Nat) : Bool := decide (colN a b (k + 1) = colN a b k + 1)
noncomputable def downP (a b : List UInt8) (k : Nat) : Bool := decide (colN a b (k + 1) + 1 = colN a b k)
noncomputable def upN (a b : List UInt8) : Nat := maskN (upP a b) a.length
noncomputable def downN (a b : List UInt8) : Nat := maskN (downP a b) a.length
theorem ed_snoc (a b : List UInt8) (x : UInt8) : ed false (a ++ [x]) b ≤ ed false a b + 1 ∧ ed false a b ≤ ed false (a ++ [x]) b + 1 := by
  have h1 : ed false (a ++ [x]) b ≤ ed false a b + 1 := by
    have h := (ed_al false a b).app (Al.del x (Al.refl false []))
    rw [List.append_nil] at h
    have := ed_le h
    omega
  have h2 : ed false a b ≤ ed false (a ++ [x]) b + 1 := by
    have hr := ed_al false (a ++ [x]).reverse b.reverse
    rw [ed_rev] at hr
    obtain ⟨m, hm, hal⟩ := hr.dropLeft x (a := a.reverse) (by simp) rfl
    have := ed_le hal
    rw [ed_rev] at this
    omega
  exact ⟨h1, h2⟩
theorem colN_step (a b : List UInt8) (k : Nat) (hk : k < a.length) : colN a b (k + 1) ≤ colN a b k + 1 ∧ colN a b k ≤ colN a b (k + 1) + 1 := by
  unfold colN cell
  rw [List.take_of_length_le (Nat.le_refl b.length), ← List.take_append_getElem hk]
  exact ed_snoc _ _ _
theorem colN_zero (a b : List UInt8) : colN a b 0 = b.length := cell_top _ _ _ _ (Nat.le_refl _)
theorem colN_last (a b : List UInt8) : colN a b a.length = ed false a b := cell_last _ _ _
theorem updown (a b : List UInt8) : upN a b &&& downN a b = 0 := maskN_and fun k _ => by
  intro ⟨h1, h2⟩
  simp only [upP, downP, decide_eq_true_eq] at h1 h2
  omega
theorem col_sum (a b : List UInt8) (n : Nat) (hn : n ≤ a.length) : colN a b n + digits (downN a b) n = b.length + digits (upN a b) n := by
  induction n with
  | zero => rw [colN_zero]; simp [digits]
  | succ n ih =>
    have h := ih (by omega)
    have hs := colN_step a b n (by omega)
    rw [digits, digits, digit_bit, digit_bit]
    unfold upN downN at *
    rw [maskN_bit, maskN_bit]
    have hd : decide (n < a.length) = true := by simp; omega
    rw [hd, Bool.true_and, Bool.true_and]
    simp only [upP, downP, decide_eq_true_eq]
    split <;> split <;> omega
theorem col_dist (a b : List UInt8) : (b.length : Int) + digits (upN a b) a.length - digits (downN a b) a.length = ed false a b := by
  have h := col_sum a b a.length (Nat.le_refl _)
  rw [colN_last] at h
  omega
theorem colN_empty (a : List UInt8) (k : Nat) (hk : k ≤ a.length) : colN a [] k = k := cell_left _ _ _ _ hk
theorem up_empty (a : List UInt8) : upN a [] = 2 ^ a.length - 1 := by
  unfold upN
  rw [← maskN_all]
  exact maskN_congr fun k hk => by simp [upP, colN_empty a (k + 1) (by omega), colN_empty a k (by omega)]
theorem down_empty (a : List UInt8) : downN a [] = 0 := by
  unfold downN
  exact maskN_eq_zero fun k hk => by simp [downP, colN_empty a (k + 1) (by omega), colN_empty a k (by omega)]; omega
theorem ed_longer (a b : List UInt8) (x : UInt8) : ed false a (b ++ [x]) ≤ ed false a b + 1 ∧ ed false a b ≤ ed false a (b ++ [x]) + 1 := by
  rw [ed_symm false a, ed_symm false a]; exact ed_snoc b a x
end Go.Proofs.Ytfcolmjjfoaeeaa
