/- Common letters of lists of bytes, and places with different ones; both beside the distance. -/
import Derived.Test.YtmolphaihapkkaaDist
namespace Go.Proofs.Ytmolphaihapkkaa

inductive Lc : List UInt8 → List UInt8 → Nat → Prop
  | nil : Lc [] [] 0
  | same {a b : List UInt8} {n : Nat} (x : UInt8) (h : Lc a b n) : Lc (x :: a) (x :: b) (n + 1)
  | left {a b : List UInt8} {n : Nat} (x : UInt8) (h : Lc a b n) : Lc (x :: a) b n
  | right {a b : List UInt8} {n : Nat} (y : UInt8) (h : Lc a b n) : Lc a (y :: b) n

theorem Lc.symm {a b : List UInt8} {n : Nat} (h : Lc a b n) : Lc b a n := by
  induction h with
  | nil => exact .nil
  | same x _ ih => exact .same x ih
  | left x _ ih => exact .right x ih
  | right x _ ih => exact .left x ih
theorem Lc.app {a b c d : List UInt8} {n m : Nat} (h : Lc a b n) (g : Lc c d m) : Lc (a ++ c) (b ++ d) (n + m) := by
  induction h with
  | nil => simpa using g
  | same x _ ih => rw [Nat.add_right_comm]; exact .same x ih
  | left x _ ih => exact .left x ih
  | right x _ ih => exact .right x ih
theorem Lc.rev {a b : List UInt8} {n : Nat} (h : Lc a b n) : Lc a.reverse b.reverse n := by
  induction h with
  | nil => exact .nil
  | same x _ ih => simpa using ih.app (.same x .nil)
  | left x _ ih => simpa using ih.app (.left x .nil)
  | right x _ ih => simpa using ih.app (.right x .nil)
theorem Lc.none (a b : List UInt8) : Lc a b 0 := by
  induction a with
  | nil =>
    induction b with
    | nil => exact .nil
    | cons y b ih => exact .right y ih
  | cons x a ih => exact .left x ih
theorem Lc.refl (a : List UInt8) : Lc a a a.length := by
  induction a with
  | nil => exact .nil
  | cons x a ih => exact .same x ih
theorem Lc.most {a b : List UInt8} {n : Nat} (h : Lc a b n) : n ≤ a.length ∧ n ≤ b.length := by
  induction h with
  | nil => exact ⟨Nat.le_refl _, Nat.le_refl _⟩
  | same x _ ih => rw [List.length_cons, List.length_cons]; omega
  | left x _ ih => rw [List.length_cons]; omega
  | right x _ ih => rw [List.length_cons]; omega
/-- A way of changes out of common letters. -/
theorem Lc.al {a b : List UInt8} {n : Nat} (h : Lc a b n) : ∃ m, m + 2 * n = a.length + b.length ∧ Al false a b m := by
  induction h with
  | nil => exact ⟨0, rfl, .nil⟩
  | same x _ ih => obtain ⟨m, hm, h⟩ := ih; exact ⟨m, by simp only [List.length_cons]; omega, .same x h⟩
  | left x _ ih => obtain ⟨m, hm, h⟩ := ih; exact ⟨m + 1, by simp only [List.length_cons]; omega, .del x h⟩
  | right x _ ih => obtain ⟨m, hm, h⟩ := ih; exact ⟨m + 1, by simp only [List.length_cons]; omega, .ins x h⟩
/-- Common letters out of a way of changes. -/
theorem Al.lc {a b : List UInt8} {n : Nat} (h : Al false a b n) : ∃ k, a.length ≤ n + k ∧ b.length ≤ n + k ∧ Lc a b k := by
  induction h with
  | nil => exact ⟨0, by simp, by simp, .nil⟩
  | same x _ ih => obtain ⟨k, h1, h2, h⟩ := ih; exact ⟨k + 1, by simp only [List.length_cons]; omega, by simp only [List.length_cons]; omega, .same x h⟩
  | rep x y _ ih => obtain ⟨k, h1, h2, h⟩ := ih; exact ⟨k, by simp only [List.length_cons]; omega, by simp only [List.length_cons]; omega, .left x (.right y h)⟩
  | ins y _ ih => obtain ⟨k, h1, h2, h⟩ := ih; exact ⟨k, by omega, by simp only [List.length_cons]; omega, .right y h⟩
  | del x _ ih => obtain ⟨k, h1, h2, h⟩ := ih; exact ⟨k, by simp only [List.length_cons]; omega, by omega, .left x h⟩
  | swp x y hs => cases hs
theorem Lc.dropLeft {a b c : List UInt8} {n : Nat} (h : Lc c b n) (x : UInt8) (hc : c = x :: a) : ∃ m, n ≤ m + 1 ∧ Lc a b m := by
  induction h generalizing a with
  | nil => cases hc
  | same z h ih => injection hc with h1 h2; subst h2; exact ⟨_, Nat.le_refl _, .right z h⟩
  | left z h ih => injection hc with h1 h2; subst h2; exact ⟨_, by omega, h⟩
  | right y h ih => obtain ⟨m, hm, g⟩ := ih hc; exact ⟨m, hm, .right y g⟩
theorem Lc.uncons {a b : List UInt8} {n : Nat} {x : UInt8} (h : Lc (x :: a) (x :: b) n) : ∃ m, n ≤ m + 1 ∧ Lc a b m := by
  cases h with
  | same _ h => exact ⟨_, Nat.le_refl _, h⟩
  | left _ h => obtain ⟨m, hm, g⟩ := h.symm.dropLeft x rfl; exact ⟨m, hm, g.symm⟩
  | right _ h => exact h.dropLeft x rfl

theorem greatest_of {p : Nat → Prop} (top : Nat) (ht : ∀ k, p k → k ≤ top) (n : Nat) (h : p n) : ∃ m, p m ∧ ∀ k, p k → k ≤ m := by
  obtain ⟨m, ⟨hm, hm2⟩, hl⟩ := least_of (p := fun k => k ≤ top ∧ p (top - k)) (top - n) ⟨by omega, by rw [Nat.sub_sub_self (ht n h)]; exact h⟩
  refine ⟨top - m, hm2, fun k hk => ?_⟩
  have := ht k hk
  have := hl (top - k) ⟨by omega, by rw [Nat.sub_sub_self this]; exact hk⟩
  omega
noncomputable def lc (a b : List UInt8) : Nat := Classical.choose (greatest_of (p := Lc a b) a.length (fun _ h => h.most.1) 0 (Lc.none a b))
theorem lc_lc (a b : List UInt8) : Lc a b (lc a b) := (Classical.choose_spec (greatest_of (p := Lc a b) a.length (fun _ h => h.most.1) 0 (Lc.none a b))).1
theorem le_lc {a b : List UInt8} {n : Nat} (h : Lc a b n) : n ≤ lc a b := (Classical.choose_spec (greatest_of (p := Lc a b) a.length (fun _ h => h.most.1) 0 (Lc.none a b))).2 n h
theorem lc_symm (a b : List UInt8) : lc a b = lc b a := Nat.le_antisymm (le_lc (lc_lc a b).symm) (le_lc (lc_lc b a).symm)
theorem lc_rev (a b : List UInt8) : lc a.reverse b.reverse = lc a b := by
  apply Nat.le_antisymm _ (le_lc (lc_lc a b).rev)
  have h := (lc_lc a.reverse b.reverse).rev
  simp only [List.reverse_reverse] at h
  exact le_lc h
theorem lc_most (a b : List UInt8) : lc a b ≤ a.length ∧ lc a b ≤ b.length := (lc_lc a b).most
theorem lc_self (a : List UInt8) : lc a a = a.length := Nat.le_antisymm (lc_most a a).1 (le_lc (Lc.refl a))
theorem lc_nil_left (b : List UInt8) : lc [] b = 0 := Nat.le_zero.1 (lc_most [] b).1
theorem lc_nil_right (a : List UInt8) : lc a [] = 0 := Nat.le_zero.1 (lc_most a []).2
theorem lc_start (p a b : List UInt8) : p.length ≤ lc (p ++ a) (p ++ b) := le_lc ((Lc.refl p).app (Lc.none a b))
theorem ed_lc (a b : List UInt8) : ed false a b + 2 * lc a b ≤ a.length + b.length := by
  obtain ⟨m, hm, h⟩ := (lc_lc a b).al
  have := ed_le h; omega
theorem lc_ed (a b : List UInt8) : a.length ≤ ed false a b + lc a b ∧ b.length ≤ ed false a b + lc a b := by
  obtain ⟨k, h1, h2, h⟩ := (ed_al false a b).lc
  have := le_lc h; omega
theorem lc_same (x : UInt8) (a b : List UInt8) : lc (x :: a) (x :: b) = lc a b + 1 := by
  apply Nat.le_antisymm _ (le_lc (.same x (lc_lc a b)))
  obtain ⟨m, hm, h⟩ := (lc_lc (x :: a) (x :: b)).uncons
  have := le_lc h; omega
theorem lc_other (x y : UInt8) (a b : List UInt8) (hne : x ≠ y) : lc (x :: a) (y :: b) = max (lc a (y :: b)) (lc (x :: a) b) := by
  apply Nat.le_antisymm
  · generalize hn : lc (x :: a) (y :: b) = n
    have h := lc_lc (x :: a) (y :: b)
    rw [hn] at h
    cases h with
    | same _ h => exact absurd rfl hne
    | left _ h => have := le_lc h; omega
    | right _ h => have := le_lc h; omega
  · have h1 := le_lc (Lc.left x (lc_lc a (y :: b)))
    have h2 := le_lc (Lc.right y (lc_lc (x :: a) b))
    omega

noncomputable def lcell (a b : List UInt8) (i j : Nat) : Nat := lc (a.take i) (b.take j)
theorem lcell_top (a b : List UInt8) (j : Nat) : lcell a b 0 j = 0 := by unfold lcell; rw [List.take_zero, lc_nil_left]
theorem lcell_left (a b : List UInt8) (i : Nat) : lcell a b i 0 = 0 := by unfold lcell; rw [List.take_zero, lc_nil_right]
theorem lcell_last (a b : List UInt8) : lcell a b a.length b.length = lc a b := by unfold lcell; rw [List.take_length, List.take_length]
theorem lcell_le (a b : List UInt8) (i j : Nat) : lcell a b i j ≤ i ∧ lcell a b i j ≤ j := by
  have h := lc_most (a.take i) (b.take j)
  rw [List.length_take, List.length_take] at h
  unfold lcell; omega
theorem lcell_rev (a b : List UInt8) (i j : Nat) : lcell a b i j = lc (a.take i).reverse (b.take j).reverse := (lc_rev _ _).symm
theorem lcell_same (a b : List UInt8) (i j : Nat) (hi : i < a.length) (hj : j < b.length) (h : a[i] = b[j]) : lcell a b (i + 1) (j + 1) = lcell a b i j + 1 := by
  simp only [lcell_rev, take_rev a i hi, take_rev b j hj, h, lc_same]
theorem lcell_other (a b : List UInt8) (i j : Nat) (hi : i < a.length) (hj : j < b.length) (h : a[i] ≠ b[j]) : lcell a b (i + 1) (j + 1) = max (lcell a b i (j + 1)) (lcell a b (i + 1) j) := by
  simp only [lcell_rev, take_rev a i hi, take_rev b j hj]
  exact lc_other _ _ _ _ h

/- Different places. -/
def dp : List UInt8 → List UInt8 → Nat
  | x :: a, y :: b => dp a b + if x = y then 0 else 1
  | _, _ => 0
theorem dp_symm (a b : List UInt8) : dp a b = dp b a := by
  induction a generalizing b with
  | nil => cases b <;> rfl
  | cons x a ih =>
    cases b with
    | nil => rfl
    | cons y b => simp only [dp, ih b, eq_comm]
theorem dp_al (a b : List UInt8) (h : a.length = b.length) : Al false a b (dp a b) := by
  induction a generalizing b with
  | nil => cases b with
    | nil => exact .nil
    | cons y b => simp at h
  | cons x a ih =>
    cases b with
    | nil => simp at h
    | cons y b =>
      simp only [List.length_cons, Nat.add_right_cancel_iff] at h
      simp only [dp]
      split
      · rename_i he; subst he; exact .same x (ih b h)
      · exact .rep x y (ih b h)
theorem ed_dp (a b : List UInt8) (h : a.length = b.length) : ed false a b ≤ dp a b := ed_le (dp_al a b h)
theorem dp_most (a b : List UInt8) : dp a b ≤ a.length := by
  induction a generalizing b with
  | nil => cases b <;> exact Nat.le_refl _
  | cons x a ih =>
    cases b with
    | nil => exact Nat.zero_le _
    | cons y b => have := ih b; simp only [dp, List.length_cons]; split <;> omega
theorem dp_zero (a b : List UInt8) (h : a.length = b.length) : dp a b = 0 ↔ a = b := by
  induction a generalizing b with
  | nil => cases b with
    | nil => simp [dp]
    | cons y b => simp at h
  | cons x a ih =>
    cases b with
    | nil => simp at h
    | cons y b =>
      simp only [List.length_cons, Nat.add_right_cancel_iff] at h
      have := ih b h
      simp only [dp, List.cons.injEq]
      split
      · rename_i he; simp [he, this]
      · rename_i he; simp [he]
theorem dp_app (a b c d : List UInt8) (h : a.length = b.length) : dp (a ++ c) (b ++ d) = dp a b + dp c d := by
  induction a generalizing b with
  | nil => cases b with
    | nil => simp [dp]
    | cons y b => simp at h
  | cons x a ih =>
    cases b with
    | nil => simp at h
    | cons y b =>
      simp only [List.length_cons, Nat.add_right_cancel_iff] at h
      simp only [dp, List.cons_append, ih b h]; omega
theorem dp_rev (a b : List UInt8) (h : a.length = b.length) : dp a.reverse b.reverse = dp a b := by
  induction a generalizing b with
  | nil => cases b with
    | nil => rfl
    | cons y b => simp at h
  | cons x a ih =>
    cases b with
    | nil => simp at h
    | cons y b =>
      simp only [List.length_cons, Nat.add_right_cancel_iff] at h
      rw [List.reverse_cons, List.reverse_cons, dp_app _ _ _ _ (by simp [h]), ih b h]
      simp [dp]
theorem dp_step (a b : List UInt8) (k : Nat) (h1 : k < a.length) (h2 : k < b.length) : dp (a.take (k + 1)) (b.take (k + 1)) = dp (a.take k) (b.take k) + if a[k] = b[k] then 0 else 1 := by
  rw [← List.take_append_getElem h1, ← List.take_append_getElem h2, dp_app _ _ _ _ (by simp [List.length_take]; omega)]
  simp [dp]
end Go.Proofs.Ytmolphaihapkkaa
