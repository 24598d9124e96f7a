/- Distances of lists of bytes: the least number of changes that turn one into the other, with or without exchanges. -/
import Derived.Test.YtmolphaihapkkaaRows
namespace Go.Proofs.Ytmolphaihapkkaa

inductive Al (sw : Bool) : List UInt8 → List UInt8 → Nat → Prop
  | nil : Al sw [] [] 0
  | same {a b : List UInt8} {n : Nat} (x : UInt8) (h : Al sw a b n) : Al sw (x :: a) (x :: b) n
  | rep {a b : List UInt8} {n : Nat} (x y : UInt8) (h : Al sw a b n) : Al sw (x :: a) (y :: b) (n + 1)
  | ins {a b : List UInt8} {n : Nat} (y : UInt8) (h : Al sw a b n) : Al sw a (y :: b) (n + 1)
  | del {a b : List UInt8} {n : Nat} (x : UInt8) (h : Al sw a b n) : Al sw (x :: a) b (n + 1)
  | swp {a b : List UInt8} {n : Nat} (x y : UInt8) (hs : sw = true) (h : Al sw a b n) : Al sw (x :: y :: a) (y :: x :: b) (n + 1)

theorem Al.symm {sw : Bool} {a b : List UInt8} {n : Nat} (h : Al sw a b n) : Al sw b a n := by
  induction h with
  | nil => exact .nil
  | same x _ ih => exact .same x ih
  | rep x y _ ih => exact .rep y x ih
  | ins y _ ih => exact .del y ih
  | del x _ ih => exact .ins x ih
  | swp x y hs _ ih => exact .swp y x hs ih

theorem Al.app {sw : Bool} {a b c d : List UInt8} {n m : Nat} (h : Al sw a b n) (g : Al sw c d m) : Al sw (a ++ c) (b ++ d) (n + m) := by
  induction h with
  | nil => simpa using g
  | same x _ ih => exact .same x ih
  | rep x y _ ih => rw [Nat.add_right_comm]; exact .rep x y ih
  | ins y _ ih => rw [Nat.add_right_comm]; exact .ins y ih
  | del x _ ih => rw [Nat.add_right_comm]; exact .del x ih
  | swp x y hs _ ih => rw [Nat.add_right_comm]; exact .swp x y hs ih

theorem Al.rev {sw : Bool} {a b : List UInt8} {n : Nat} (h : Al sw a b n) : Al sw a.reverse b.reverse n := by
  induction h with
  | nil => exact .nil
  | same x _ ih => simpa using ih.app (.same x .nil)
  | rep x y _ ih => simpa using ih.app (.rep x y .nil)
  | ins y _ ih => simpa using ih.app (.ins y .nil)
  | del x _ ih => simpa using ih.app (.del x .nil)
  | swp x y hs _ ih => simpa using ih.app (.swp y x hs .nil)

theorem Al.refl (sw : Bool) (a : List UInt8) : Al sw a a 0 := by
  induction a with
  | nil => exact .nil
  | cons x a ih => exact .same x ih

theorem Al.inss (sw : Bool) (b : List UInt8) : Al sw [] b b.length := by
  induction b with
  | nil => exact .nil
  | cons x b ih => exact .ins x ih

theorem Al.most (sw : Bool) (a b : List UInt8) : Al sw a b (max a.length b.length) := by
  induction a generalizing b with
  | nil => simpa using Al.inss sw b
  | cons x a ih =>
    cases b with
    | nil => simpa using (Al.inss sw (x :: a)).symm
    | cons y b =>
      have h := Al.rep x y (ih b)
      have e : max a.length b.length + 1 = max (x :: a).length (y :: b).length := by simp only [List.length_cons]; omega
      rw [e] at h; exact h

theorem Al.diff {sw : Bool} {a b : List UInt8} {n : Nat} (h : Al sw a b n) : a.length ≤ b.length + n ∧ b.length ≤ a.length + n := by
  induction h <;> simp_all only [List.length_cons, List.length_nil] <;> omega

theorem Al.zero {sw : Bool} {a b : List UInt8} {n : Nat} (h : Al sw a b n) (hn : n = 0) : a = b := by
  induction h with
  | nil => rfl
  | same x _ ih => rw [ih hn]
  | rep => omega
  | ins => omega
  | del => omega
  | swp => omega

theorem Al.swap {a b : List UInt8} {n : Nat} (h : Al false a b n) : Al true a b n := by
  induction h with
  | nil => exact .nil
  | same x _ ih => exact .same x ih
  | rep x y _ ih => exact .rep x y ih
  | ins y _ ih => exact .ins y ih
  | del x _ ih => exact .del x ih
  | swp x y hs _ _ => exact absurd hs (by decide)

theorem Al.plain {a b : List UInt8} {n : Nat} (h : Al true a b n) : ∃ m, m ≤ 2 * n ∧ Al false a b m := by
  induction h with
  | nil => exact ⟨0, by omega, .nil⟩
  | same x _ ih => obtain ⟨m, hm, h⟩ := ih; exact ⟨m, hm, .same x h⟩
  | rep x y _ ih => obtain ⟨m, hm, h⟩ := ih; exact ⟨m + 1, by omega, .rep x y h⟩
  | ins y _ ih => obtain ⟨m, hm, h⟩ := ih; exact ⟨m + 1, by omega, .ins y h⟩
  | del x _ ih => obtain ⟨m, hm, h⟩ := ih; exact ⟨m + 1, by omega, .del x h⟩
  | swp x y _ _ ih => obtain ⟨m, hm, h⟩ := ih; exact ⟨m + 2, by omega, .rep x y (.rep y x h)⟩

theorem Al.dropLeft {sw : Bool} {a b c : List UInt8} {n : Nat} (h : Al sw c b n) (x : UInt8) (hc : c = x :: a) (hs : sw = false) : ∃ m, m ≤ n + 1 ∧ Al sw a b m := by
  induction h generalizing a with
  | nil => cases hc
  | same z h ih => injection hc with h1 h2; subst h2; exact ⟨_, Nat.le_refl _, .ins z h⟩
  | rep z y h ih => injection hc with h1 h2; subst h2; exact ⟨_, by omega, .ins y h⟩
  | ins y h ih => obtain ⟨m, hm, g⟩ := ih hc; exact ⟨m + 1, by omega, .ins y g⟩
  | del z h ih => injection hc with h1 h2; subst h2; exact ⟨_, by omega, h⟩
  | swp z y hs' => rw [hs] at hs'; cases hs'

theorem Al.uncons {a b : List UInt8} {n : Nat} {x : UInt8} (h : Al false (x :: a) (x :: b) n) : ∃ m, m ≤ n ∧ Al false a b m := by
  cases h with
  | same _ h => exact ⟨n, Nat.le_refl _, h⟩
  | rep _ _ h => exact ⟨_, by omega, h⟩
  | ins _ h => exact h.dropLeft x rfl rfl
  | del _ h => obtain ⟨m, hm, g⟩ := h.symm.dropLeft x rfl rfl; exact ⟨m, hm, g.symm⟩
  | swp _ _ hs => cases hs

theorem least_of {p : Nat → Prop} (n : Nat) (h : p n) : ∃ m, p m ∧ ∀ k, p k → m ≤ k := by
  induction n using Nat.strongRecOn with
  | ind n ih =>
    by_cases hk : ∃ k, k < n ∧ p k
    · obtain ⟨k, hk, hp⟩ := hk; exact ih k hk hp
    · exact ⟨n, h, fun k hp => Nat.le_of_not_lt fun hl => hk ⟨k, hl, hp⟩⟩

noncomputable def ed (sw : Bool) (a b : List UInt8) : Nat := Classical.choose (least_of _ (Al.most sw a b))
theorem ed_al (sw : Bool) (a b : List UInt8) : Al sw a b (ed sw a b) := (Classical.choose_spec (least_of _ (Al.most sw a b))).1
theorem ed_le {sw : Bool} {a b : List UInt8} {n : Nat} (h : Al sw a b n) : ed sw a b ≤ n := (Classical.choose_spec (least_of _ (Al.most sw a b))).2 n h

theorem ed_symm (sw : Bool) (a b : List UInt8) : ed sw a b = ed sw b a := Nat.le_antisymm (ed_le (ed_al sw b a).symm) (ed_le (ed_al sw a b).symm)
theorem ed_rev (sw : Bool) (a b : List UInt8) : ed sw a.reverse b.reverse = ed sw a b := by
  apply Nat.le_antisymm (ed_le (ed_al sw a b).rev)
  have h := (ed_al sw a.reverse b.reverse).rev
  simp only [List.reverse_reverse] at h
  exact ed_le h
theorem ed_most (sw : Bool) (a b : List UInt8) : ed sw a b ≤ max a.length b.length := ed_le (Al.most sw a b)
theorem ed_diff (sw : Bool) (a b : List UInt8) : a.length ≤ b.length + ed sw a b ∧ b.length ≤ a.length + ed sw a b := (ed_al sw a b).diff
theorem ed_zero (sw : Bool) (a b : List UInt8) : ed sw a b = 0 ↔ a = b :=
  ⟨fun h => (ed_al sw a b).zero h, fun h => by subst h; exact Nat.le_zero.1 (ed_le (Al.refl sw a))⟩
theorem ed_nil_left (sw : Bool) (b : List UInt8) : ed sw [] b = b.length := by
  have h1 := ed_le (Al.inss sw b)
  have h2 := (ed_diff sw [] b).2
  simp only [List.length_nil] at h2; omega
theorem ed_nil_right (sw : Bool) (a : List UInt8) : ed sw a [] = a.length := by rw [ed_symm, ed_nil_left]
theorem sd_le_ed (a b : List UInt8) : ed true a b ≤ ed false a b := ed_le (ed_al false a b).swap
theorem ed_le_sd (a b : List UInt8) : ed false a b ≤ 2 * ed true a b := by
  obtain ⟨m, hm, h⟩ := (ed_al true a b).plain
  exact Nat.le_trans (ed_le h) hm
theorem ed_same (x : UInt8) (a b : List UInt8) : ed false (x :: a) (x :: b) = ed false a b := by
  apply Nat.le_antisymm (ed_le (.same x (ed_al false a b)))
  obtain ⟨m, hm, h⟩ := (ed_al false (x :: a) (x :: b)).uncons
  exact Nat.le_trans (ed_le h) hm
theorem ed_same_start (p a b : List UInt8) : ed false (p ++ a) (p ++ b) = ed false a b := by
  induction p with
  | nil => rfl
  | cons x p ih => simpa [ed_same] using ih
theorem ed_same_end (p a b : List UInt8) : ed false (a ++ p) (b ++ p) = ed false a b := by
  rw [← ed_rev, List.reverse_append, List.reverse_append, ed_same_start, ed_rev]
theorem sd_swapped (p : List UInt8) (x y : UInt8) : ed true (p ++ [x, y]) (p ++ [y, x]) ≤ 1 := by
  have h := (Al.refl true p).app (.swp x y rfl .nil)
  exact ed_le h

theorem ed_cons (x y : UInt8) (a b : List UInt8) : ed false (x :: a) (y :: b) = min (ed false a b + if x = y then 0 else 1) (min (ed false a (y :: b)) (ed false (x :: a) b) + 1) := by
  apply Nat.le_antisymm
  · have h1 : ed false (x :: a) (y :: b) ≤ ed false a b + if x = y then 0 else 1 := by
      split
      · rename_i h; subst h; exact ed_le (.same x (ed_al _ _ _))
      · exact ed_le (.rep x y (ed_al _ _ _))
    have h2 := ed_le (Al.del x (ed_al false a (y :: b)))
    have h3 := ed_le (Al.ins y (ed_al false (x :: a) b))
    omega
  · generalize hn : ed false (x :: a) (y :: b) = n
    have h := ed_al false (x :: a) (y :: b)
    rw [hn] at h
    cases h with
    | same _ h => have := ed_le h; simp; omega
    | rep _ _ h => have := ed_le h; split <;> omega
    | ins _ h => have := ed_le h; omega
    | del _ h => have := ed_le h; omega
    | swp _ _ hs => cases hs

theorem sd_cons (x y : UInt8) (a b : List UInt8) (hno : ¬ ∃ a' b', a = y :: a' ∧ b = x :: b') : ed true (x :: a) (y :: b) = min (ed true a b + if x = y then 0 else 1) (min (ed true a (y :: b)) (ed true (x :: a) b) + 1) := by
  apply Nat.le_antisymm
  · have h1 : ed true (x :: a) (y :: b) ≤ ed true a b + if x = y then 0 else 1 := by
      split
      · rename_i h; subst h; exact ed_le (.same x (ed_al _ _ _))
      · exact ed_le (.rep x y (ed_al _ _ _))
    have h2 := ed_le (Al.del x (ed_al true a (y :: b)))
    have h3 := ed_le (Al.ins y (ed_al true (x :: a) b))
    omega
  · generalize hn : ed true (x :: a) (y :: b) = n
    have h := ed_al true (x :: a) (y :: b)
    rw [hn] at h
    cases h with
    | same _ h => have := ed_le h; simp; omega
    | rep _ _ h => have := ed_le h; split <;> omega
    | ins _ h => have := ed_le h; omega
    | del _ h => have := ed_le h; omega
    | swp _ _ hs h => exact absurd ⟨_, _, rfl, rfl⟩ hno

theorem sd_cons_swap (x y : UInt8) (a b : List UInt8) : ed true (x :: y :: a) (y :: x :: b) = min (min (ed true (y :: a) (x :: b) + if x = y then 0 else 1) (min (ed true (y :: a) (y :: x :: b)) (ed true (x :: y :: a) (x :: b)) + 1)) (ed true a b + 1) := by
  apply Nat.le_antisymm
  · have h1 : ed true (x :: y :: a) (y :: x :: b) ≤ ed true (y :: a) (x :: b) + if x = y then 0 else 1 := by
      split
      · rename_i h; subst h; exact ed_le (.same x (ed_al _ _ _))
      · exact ed_le (.rep x y (ed_al _ _ _))
    have h2 := ed_le (Al.del x (ed_al true (y :: a) (y :: x :: b)))
    have h3 := ed_le (Al.ins y (ed_al true (x :: y :: a) (x :: b)))
    have h4 := ed_le (Al.swp x y rfl (ed_al true a b))
    omega
  · generalize hn : ed true (x :: y :: a) (y :: x :: b) = n
    have h := ed_al true (x :: y :: a) (y :: x :: b)
    rw [hn] at h
    cases h with
    | same _ h => have := ed_le h; simp; omega
    | rep _ _ h => have := ed_le h; split <;> omega
    | ins _ h => have := ed_le h; omega
    | del _ h => have := ed_le h; omega
    | swp _ _ hs h => have := ed_le h; omega

/- The table: what stands at a place, for the beginnings of two words. -/
noncomputable def cell (sw : Bool) (a b : List UInt8) (i j : Nat) : Nat := ed sw (a.take i) (b.take j)
theorem cell_top (sw : Bool) (a b : List UInt8) (j : Nat) (hj : j ≤ b.length) : cell sw a b 0 j = j := by
  unfold cell; rw [List.take_zero, ed_nil_left, List.length_take]; omega
theorem cell_left (sw : Bool) (a b : List UInt8) (i : Nat) (hi : i ≤ a.length) : cell sw a b i 0 = i := by
  unfold cell; rw [List.take_zero, ed_nil_right, List.length_take]; omega
theorem cell_last (sw : Bool) (a b : List UInt8) : cell sw a b a.length b.length = ed sw a b := by
  unfold cell; rw [List.take_length, List.take_length]
theorem cell_le (sw : Bool) (a b : List UInt8) (i j : Nat) : cell sw a b i j ≤ max i j := by
  have h := ed_most sw (a.take i) (b.take j)
  rw [List.length_take, List.length_take] at h
  unfold cell; omega
theorem take_rev (a : List UInt8) (i : Nat) (hi : i < a.length) : (a.take (i + 1)).reverse = a[i] :: (a.take i).reverse := by
  rw [← List.take_append_getElem hi, List.reverse_append]; rfl
theorem cell_rev (sw : Bool) (a b : List UInt8) (i j : Nat) : cell sw a b i j = ed sw (a.take i).reverse (b.take j).reverse := (ed_rev _ _ _).symm
theorem cell_step (a b : List UInt8) (i j : Nat) (hi : i < a.length) (hj : j < b.length) : cell false a b (i + 1) (j + 1) = min (cell false a b i j + if a[i] = b[j] then 0 else 1) (min (cell false a b i (j + 1)) (cell false a b (i + 1) j) + 1) := by
  simp only [cell_rev, take_rev a i hi, take_rev b j hj, ed_cons]
theorem cell_same (a b : List UInt8) (i j : Nat) (hi : i < a.length) (hj : j < b.length) (h : a[i] = b[j]) : cell false a b (i + 1) (j + 1) = cell false a b i j := by
  simp only [cell_rev, take_rev a i hi, take_rev b j hj, h, ed_same]
theorem scell_step (a b : List UInt8) (i j : Nat) (hi : i < a.length) (hj : j < b.length) (hno : ¬ ∃ (h1 : 0 < i) (h2 : 0 < j), a[i] = b[j - 1] ∧ a[i - 1] = b[j]) : cell true a b (i + 1) (j + 1) = min (cell true a b i j + if a[i] = b[j] then 0 else 1) (min (cell true a b i (j + 1)) (cell true a b (i + 1) j) + 1) := by
  simp only [cell_rev, take_rev a i hi, take_rev b j hj]
  refine sd_cons _ _ _ _ ?_
  rintro ⟨a', b', ha, hb⟩
  cases i with
  | zero => simp at ha
  | succ i =>
    cases j with
    | zero => simp at hb
    | succ j =>
      rw [take_rev a i (by omega)] at ha
      rw [take_rev b j (by omega)] at hb
      injection ha with h1 _; injection hb with h2 _
      exact hno ⟨by omega, by omega, by simpa using h2.symm, by simpa using h1⟩
theorem scell_swap (a b : List UInt8) (i j : Nat) (hi : i + 1 < a.length) (hj : j + 1 < b.length) (h1 : a[i + 1] = b[j]) (h2 : a[i] = b[j + 1]) : cell true a b (i + 2) (j + 2) = min (min (cell true a b (i + 1) (j + 1) + if a[i + 1] = b[j + 1] then 0 else 1) (min (cell true a b (i + 1) (j + 2)) (cell true a b (i + 2) (j + 1)) + 1)) (cell true a b i j + 1) := by
  simp only [cell_rev, take_rev a (i + 1) hi, take_rev b (j + 1) hj, take_rev a i (by omega), take_rev b j (by omega), ← h1, ← h2]
  exact sd_cons_swap _ _ _ _
end Go.Proofs.Ytmolphaihapkkaa
