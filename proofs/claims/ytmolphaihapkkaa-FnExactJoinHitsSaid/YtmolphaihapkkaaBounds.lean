/- Letters that are in one word and missing in the other one, and bands of a table: no program in it. -/
import Derived.Test.YtmolphaihapkkaaDist
namespace Go.Proofs.Ytmolphaihapkkaa

/-- the letter of number i -/
def letterN (i : Nat) : UInt8 := UInt8.ofNat (97 + i)
theorem letterN_nat {i : Nat} (h : i < 26) : (letterN i).toNat = 97 + i := by unfold letterN; rw [UInt8.toNat_ofNat']; omega
/-- how many of the first k letters' occurrences are in a and missing in b -/
def moreN (a b : List UInt8) : Nat → Nat
  | 0 => 0
  | k + 1 => moreN a b k + (a.count (letterN k) - b.count (letterN k))
/-- the place of x is below k -/
def under (k : Nat) (x : UInt8) : Nat := if 97 ≤ x.toNat ∧ x.toNat < 97 + k then 1 else 0
theorem under_le (k : Nat) (x : UInt8) : under k x ≤ 1 := by unfold under; split <;> omega
theorem under_next {k : Nat} (hk : k < 26) (x : UInt8) : under k x + (if x = letterN k then 1 else 0) = under (k + 1) x := by
  have e : x = letterN k ↔ x.toNat = 97 + k := by
    rw [← UInt8.toNat_inj, letterN_nat hk]
  unfold under
  simp only [e]
  split <;> split <;> split <;> omega
theorem count_cons (x c : UInt8) (a : List UInt8) : (x :: a).count c = a.count c + (if x = c then 1 else 0) := by
  rw [List.count_cons]
  by_cases h : x = c <;> simp [h]
theorem moreN_left (x : UInt8) (a b : List UInt8) : ∀ k, k ≤ 26 → moreN (x :: a) b k ≤ moreN a b k + under k x
  | 0, _ => by simp [moreN]
  | k + 1, hk => by
    have h1 := moreN_left x a b k (by omega)
    have h2 := under_next (show k < 26 by omega) x
    have h3 := count_cons x (letterN k) a
    unfold moreN
    split at h2 <;> simp_all <;> omega
theorem moreN_right (y : UInt8) (a b : List UInt8) : ∀ k, moreN a (y :: b) k ≤ moreN a b k
  | 0 => by simp [moreN]
  | k + 1 => by
    have h1 := moreN_right y a b k
    have h3 := count_cons y (letterN k) b
    unfold moreN
    split at h3 <;> omega
theorem moreN_same (x : UInt8) (a b : List UInt8) : ∀ k, moreN (x :: a) (x :: b) k = moreN a b k
  | 0 => by simp [moreN]
  | k + 1 => by
    have h1 := moreN_same x a b k
    unfold moreN
    rw [h1, count_cons, count_cons]
    omega
theorem moreN_swap (x y : UInt8) (a b : List UInt8) : ∀ k, moreN (x :: y :: a) (y :: x :: b) k = moreN a b k
  | 0 => by simp [moreN]
  | k + 1 => by
    have h1 := moreN_swap x y a b k
    unfold moreN
    rw [h1, count_cons, count_cons, count_cons, count_cons]
    omega
theorem more_al {sw : Bool} {a b : List UInt8} {n : Nat} (h : Al sw a b n) : moreN a b 26 ≤ n := by
  induction h with
  | nil => decide
  | same x _ ih => rw [moreN_same]; exact ih
  | @rep a b n x y _ ih =>
    have h1 := moreN_left x a (y :: b) 26 (Nat.le_refl _)
    have h2 := moreN_right y a b 26
    have h3 := under_le 26 x
    omega
  | @ins a b n y _ ih => exact Nat.le_trans (moreN_right y a b 26) (by omega)
  | @del a b n x _ ih =>
    have h1 := moreN_left x a b 26 (Nat.le_refl _)
    have h3 := under_le 26 x
    omega
  | swp x y _ _ ih => rw [moreN_swap]; omega
/-- the bound that letters alone tell -/
def leastD (a b : List UInt8) : Nat := max (moreN a b 26) (moreN b a 26)
theorem leastD_symm (a b : List UInt8) : leastD a b = leastD b a := by unfold leastD; exact Nat.max_comm _ _
theorem leastD_le (sw : Bool) (a b : List UInt8) : leastD a b ≤ ed sw a b := by
  have h1 := more_al (ed_al sw a b)
  have h2 := more_al (ed_al sw a b).symm
  unfold leastD
  omega
/-- occurrences of the first k letters -/
def sumN (a : List UInt8) : Nat → Nat
  | 0 => 0
  | k + 1 => sumN a k + a.count (letterN k)
theorem sumN_nil : ∀ k, sumN [] k = 0
  | 0 => rfl
  | k + 1 => by unfold sumN; rw [sumN_nil k]; rfl
theorem sumN_cons (x : UInt8) (a : List UInt8) : ∀ k, k ≤ 26 → sumN (x :: a) k = sumN a k + under k x
  | 0, _ => by unfold sumN under; split <;> omega
  | k + 1, hk => by
    have h1 := sumN_cons x a k (by omega)
    have h2 := under_next (show k < 26 by omega) x
    unfold sumN
    rw [h1, count_cons]
    omega
theorem sumN_le (a : List UInt8) : sumN a 26 ≤ a.length := by
  induction a with
  | nil => rw [sumN_nil]; exact Nat.zero_le _
  | cons x a ih =>
    rw [sumN_cons x a 26 (Nat.le_refl _), List.length_cons]
    have := under_le 26 x
    omega
theorem sumN_all {a : List UInt8} (h : ∀ x ∈ a, 97 ≤ x.toNat ∧ x.toNat ≤ 122) : sumN a 26 = a.length := by
  induction a with
  | nil => rw [sumN_nil]; rfl
  | cons x a ih =>
    rw [sumN_cons x a 26 (Nat.le_refl _), List.length_cons, ih fun y hy => h y (List.mem_cons_of_mem _ hy)]
    have := h x List.mem_cons_self
    unfold under
    rw [if_pos (by omega)]
theorem sum_more (a b : List UInt8) : ∀ k, sumN a k ≤ sumN b k + moreN a b k
  | 0 => Nat.le_refl _
  | k + 1 => by have := sum_more a b k; unfold sumN moreN; omega
theorem leastD_diff {a b : List UInt8} (ha : ∀ x ∈ a, 97 ≤ x.toNat ∧ x.toNat ≤ 122) (hb : ∀ x ∈ b, 97 ≤ x.toNat ∧ x.toNat ≤ 122) : a.length ≤ b.length + leastD a b ∧ b.length ≤ a.length + leastD a b := by
  have h1 := sum_more a b 26
  have h2 := sum_more b a 26
  rw [sumN_all ha, sumN_all hb] at h1 h2
  unfold leastD
  omega
theorem moreN_none {a b : List UInt8} (h : ∀ c, a.count c = b.count c) : ∀ k, moreN a b k = 0
  | 0 => rfl
  | k + 1 => by unfold moreN; rw [moreN_none h k, h]; omega
theorem leastD_rev (a : List UInt8) : leastD a a.reverse = 0 := by
  unfold leastD
  rw [moreN_none fun c => by rw [List.count_reverse], moreN_none fun c => by rw [List.count_reverse]]
  rfl

/-- i and j differ by at most e -/
def nearB (i j e : Nat) : Bool := decide (i ≤ j + e ∧ j ≤ i + e)
/-- the places j < m in the band of row i -/
def rowN (i e : Nat) : Nat → Nat
  | 0 => 0
  | m + 1 => rowN i e m + (if nearB i m e then 1 else 0)
/-- the cells of the rows below n with m places each -/
def bandN (m e : Nat) : Nat → Nat
  | 0 => 0
  | n + 1 => bandN m e n + rowN n e m
theorem rowN_le (i e : Nat) : ∀ m, rowN i e m ≤ m
  | 0 => Nat.le_refl _
  | m + 1 => by have := rowN_le i e m; unfold rowN; split <;> omega
theorem rowN_width (i e : Nat) : ∀ m, rowN i e m + (i - e) ≤ max m (i - e) ∧ rowN i e m + (i - e) ≤ i + e + 1
  | 0 => by unfold rowN; omega
  | m + 1 => by
    have := rowN_width i e m
    unfold rowN nearB
    by_cases h : i ≤ m + e ∧ m ≤ i + e
    · simp only [h, and_self, decide_true, if_true]
      omega
    · simp only [h, decide_false, Bool.false_eq_true, if_false]
      omega
theorem bandN_table (m e : Nat) : ∀ n, bandN m e n ≤ n * m
  | 0 => by simp [bandN]
  | n + 1 => by
    have h1 := bandN_table m e n
    have h2 := rowN_le n e m
    unfold bandN
    rw [Nat.succ_mul]
    omega
theorem bandN_width (m e : Nat) : ∀ n, bandN m e n ≤ (2 * e + 1) * n
  | 0 => by simp [bandN]
  | n + 1 => by
    have h1 := bandN_width m e n
    have h2 := (rowN_width n e m).2
    unfold bandN
    rw [Nat.mul_succ]
    omega
/-- the column's part -/
theorem bandN_col (e m : Nat) : ∀ n, bandN (m + 1) e n = bandN m e n + rowN m e n
  | 0 => rfl
  | n + 1 => by
    have h1 := bandN_col e m n
    have h2 : nearB n m e = nearB m n e := by unfold nearB; congr 1; exact propext ⟨fun h => ⟨h.2, h.1⟩, fun h => ⟨h.2, h.1⟩⟩
    have e1 : bandN (m + 1) e (n + 1) = bandN (m + 1) e n + rowN n e (m + 1) := rfl
    have e2 : bandN m e (n + 1) = bandN m e n + rowN n e m := rfl
    have e3 : rowN n e (m + 1) = rowN n e m + (if nearB n m e then 1 else 0) := rfl
    have e4 : rowN m e (n + 1) = rowN m e n + (if nearB m n e then 1 else 0) := rfl
    rw [h2] at e3
    omega
theorem bandN_zero (e : Nat) : ∀ n, bandN 0 e n = 0
  | 0 => rfl
  | n + 1 => by unfold bandN; rw [bandN_zero e n]; rfl
theorem bandN_symm (e : Nat) : ∀ m n, bandN m e n = bandN n e m
  | 0, n => by rw [bandN_zero]; rfl
  | m + 1, n => by rw [bandN_col, bandN_symm e m n]; rfl
theorem rowN_more (i : Nat) {e f : Nat} (h : e ≤ f) : ∀ m, rowN i e m ≤ rowN i f m
  | 0 => Nat.le_refl _
  | m + 1 => by
    have h1 := rowN_more i h m
    unfold rowN nearB
    by_cases g : i ≤ m + e ∧ m ≤ i + e
    · rw [if_pos (by simpa using g), if_pos (by simp; omega)]; omega
    · rw [if_neg (by simpa using g)]; omega
theorem bandN_more (m : Nat) {e f : Nat} (h : e ≤ f) : ∀ n, bandN m e n ≤ bandN m f n
  | 0 => Nat.le_refl _
  | n + 1 => by have h1 := bandN_more m h n; have h2 := rowN_more n h m; unfold bandN; omega
theorem rowN_pos (e : Nat) : ∀ m, 1 ≤ rowN 0 e (m + 1)
  | 0 => by unfold rowN nearB; simp
  | m + 1 => by have := rowN_pos e m; unfold rowN; omega
theorem bandN_pos (m e : Nat) : ∀ n, 1 ≤ bandN (m + 1) e (n + 1)
  | 0 => by
    show 1 ≤ bandN (m + 1) e 0 + rowN 0 e (m + 1)
    have := rowN_pos e m
    omega
  | n + 1 => by
    show 1 ≤ bandN (m + 1) e (n + 1) + rowN (n + 1) e (m + 1)
    have := bandN_pos m e n
    omega
end Go.Proofs.Ytmolphaihapkkaa
