/- Changes of texts and scripts of changes: plain mathematics, no program in it. -/
import Derived.Test.YtmdmjhnjhelccaaDist
namespace Go.Proofs.Ytmdmjhnjhelccaa
set_option linter.unusedSimpArgs false
set_option linter.unusedVariables false

/-- a change: its kind, its place, its letter -/
structure Chg where
  k : Int
  p : Int
  c : UInt8
deriving DecidableEq

def smallB (c : UInt8) : Bool := decide (97 ≤ (c.toNat : Int)) && decide ((c.toNat : Int) ≤ 122)
/-- a text that can be changed -/
def longB (l : List UInt8) : Bool := (l.all smallB) && decide (l.length ≤ 24)
def insOk (s : List UInt8) (e : Chg) : Bool := decide (e.k = 1) && smallB e.c && decide (e.p ≤ s.length) && decide (s.length < 24)
def delOk (s : List UInt8) (e : Chg) : Bool := decide (e.k = 2) && decide (e.c = 0) && decide (e.p < s.length)
def repOk (s : List UInt8) (e : Chg) : Bool := decide (e.k = 3) && smallB e.c && decide (e.p < s.length) && decide (s[e.p.toNat]? ≠ some e.c)
/-- the text after a change -/
def applyL (s : List UInt8) (e : Chg) : Option (List UInt8) :=
  if (longB s && decide (0 ≤ e.p)) = true then
    if insOk s e = true then some (s.take e.p.toNat ++ e.c :: s.drop e.p.toNat)
    else if delOk s e = true then some (s.take e.p.toNat ++ s.drop (e.p.toNat + 1))
    else if repOk s e = true then some (s.take e.p.toNat ++ e.c :: s.drop (e.p.toNat + 1))
    else none
  else none
/-- the change that leads back -/
def reverseL (s : List UInt8) (e : Chg) : Option Chg :=
  if (applyL s e).isSome = true then
    if e.k = 1 then some ⟨2, e.p, 0⟩ else if e.k = 2 then some ⟨1, e.p, s.getD e.p.toNat 0⟩ else some ⟨3, e.p, s.getD e.p.toNat 0⟩
  else none
/-- one change after the other -/
def applyAll : List UInt8 → List Chg → Option (List UInt8)
  | s, [] => some s
  | s, e :: l => match applyL s e with
    | some x => applyAll x l
    | none => none
def scriptL (s : List UInt8) (l : List Chg) : Option (List UInt8) := if (longB s && decide (l.length ≤ 24)) = true then applyAll s l else none

theorem applyAll_append (s : List UInt8) (l m : List Chg) : applyAll s (l ++ m) = (applyAll s l).bind fun x => applyAll x m := by
  induction l generalizing s with
  | nil => rfl
  | cons e l ih =>
    simp only [List.cons_append, applyAll]
    cases applyL s e with
    | none => rfl
    | some x => exact ih x
theorem all_take {p : UInt8 → Bool} {l : List UInt8} (h : l.all p = true) (n : Nat) : (l.take n).all p = true := by
  rw [List.all_eq_true] at h ⊢
  exact fun x hx => h x (List.mem_of_mem_take hx)
theorem all_drop {p : UInt8 → Bool} {l : List UInt8} (h : l.all p = true) (n : Nat) : (l.drop n).all p = true := by
  rw [List.all_eq_true] at h ⊢
  exact fun x hx => h x (List.mem_of_mem_drop hx)

/-- what a change that can be made does: three ways -/
theorem applyL_cases {s x : List UInt8} {e : Chg} (h : applyL s e = some x) :
    ∃ n : Nat, e.p = n ∧ s.all smallB = true ∧ s.length ≤ 24 ∧
      ((e.k = 1 ∧ smallB e.c = true ∧ n ≤ s.length ∧ s.length < 24 ∧ x = s.take n ++ e.c :: s.drop n) ∨
       (e.k = 2 ∧ e.c = 0 ∧ n < s.length ∧ x = s.take n ++ s.drop (n + 1)) ∨
       (e.k = 3 ∧ smallB e.c = true ∧ n < s.length ∧ s[n]? ≠ some e.c ∧ x = s.take n ++ e.c :: s.drop (n + 1))) := by
  unfold applyL at h
  by_cases h0 : (longB s && decide (0 ≤ e.p)) = true
  · rw [if_pos h0] at h
    simp only [longB, Bool.and_eq_true, decide_eq_true_eq] at h0
    obtain ⟨⟨ha, hl⟩, hp⟩ := h0
    refine ⟨e.p.toNat, by omega, ha, hl, ?_⟩
    by_cases h1 : insOk s e = true
    · rw [if_pos h1] at h
      simp only [insOk, Bool.and_eq_true, decide_eq_true_eq] at h1
      injection h with h
      exact .inl ⟨h1.1.1.1, h1.1.1.2, by omega, h1.2, h.symm⟩
    · rw [if_neg h1] at h
      by_cases h2 : delOk s e = true
      · rw [if_pos h2] at h
        simp only [delOk, Bool.and_eq_true, decide_eq_true_eq] at h2
        injection h with h
        exact .inr (.inl ⟨h2.1.1, h2.1.2, by omega, h.symm⟩)
      · rw [if_neg h2] at h
        by_cases h3 : repOk s e = true
        · rw [if_pos h3] at h
          simp only [repOk, Bool.and_eq_true, decide_eq_true_eq] at h3
          injection h with h
          exact .inr (.inr ⟨h3.1.1.1, h3.1.1.2, by omega, h3.2, h.symm⟩)
        · rw [if_neg h3] at h; cases h
  · rw [if_neg h0] at h; cases h
theorem applyL_ins {s : List UInt8} {n : Nat} {c : UInt8} (ha : s.all smallB = true) (hl : s.length < 24) (hc : smallB c = true) (hn : n ≤ s.length) : applyL s ⟨1, n, c⟩ = some (s.take n ++ c :: s.drop n) := by
  unfold applyL
  rw [if_pos (by simp only [longB, ha, Bool.true_and, Bool.and_eq_true, decide_eq_true_eq]; omega), if_pos (by simp only [insOk, hc, Bool.and_eq_true, decide_eq_true_eq, true_and]; omega)]
  simp
theorem applyL_del {s : List UInt8} {n : Nat} (ha : s.all smallB = true) (hl : s.length ≤ 24) (hn : n < s.length) : applyL s ⟨2, n, 0⟩ = some (s.take n ++ s.drop (n + 1)) := by
  unfold applyL
  rw [if_pos (by simp only [longB, ha, Bool.true_and, Bool.and_eq_true, decide_eq_true_eq]; omega), if_neg (by simp [insOk]), if_pos (by simp only [delOk, Bool.and_eq_true, decide_eq_true_eq, true_and]; omega)]
  simp
theorem applyL_rep {s : List UInt8} {n : Nat} {c : UInt8} (ha : s.all smallB = true) (hl : s.length ≤ 24) (hc : smallB c = true) (hn : n < s.length) (hd : s[n]? ≠ some c) : applyL s ⟨3, n, c⟩ = some (s.take n ++ c :: s.drop (n + 1)) := by
  unfold applyL
  rw [if_pos (by simp only [longB, ha, Bool.true_and, Bool.and_eq_true, decide_eq_true_eq]; omega), if_neg (by simp [insOk]), if_neg (by simp [delOk]), if_pos (by simp only [repOk, hc, Bool.and_eq_true, decide_eq_true_eq, true_and, Int.toNat_natCast]; exact ⟨by omega, hd⟩)]
  simp
/-- a changed text can be changed again -/
theorem applyL_text {s x : List UInt8} {e : Chg} (h : applyL s e = some x) : longB s = true ∧ longB x = true := by
  obtain ⟨n, hp, ha, hl, h⟩ := applyL_cases h
  refine ⟨by simp [longB, ha, hl], ?_⟩
  rcases h with ⟨_, hc, hn, hl2, rfl⟩ | ⟨_, _, hn, rfl⟩ | ⟨_, hc, hn, _, rfl⟩
  · simp only [longB, List.all_append, List.all_cons, all_take ha, all_drop ha, hc, Bool.true_and, decide_eq_true_eq, List.length_append, List.length_cons, List.length_take, List.length_drop]; omega
  · simp only [longB, List.all_append, all_take ha, all_drop ha, Bool.true_and, decide_eq_true_eq, List.length_append, List.length_take, List.length_drop]; omega
  · simp only [longB, List.all_append, List.all_cons, all_take ha, all_drop ha, hc, Bool.true_and, decide_eq_true_eq, List.length_append, List.length_cons, List.length_take, List.length_drop]; omega
theorem applyAll_text {s x : List UInt8} {l : List Chg} (ht : longB s = true) (h : applyAll s l = some x) : longB x = true := by
  induction l generalizing s with
  | nil => simp only [applyAll, Option.some.injEq] at h; rw [← h]; exact ht
  | cons e l ih =>
    simp only [applyAll] at h
    cases hy : applyL s e with
    | none => rw [hy] at h; cases h
    | some y => rw [hy] at h; exact ih (applyL_text hy).2 h
/-- back, and what the change did to the length and the distance -/
theorem apply_back {s x : List UInt8} {e : Chg} (h : applyL s e = some x) :
    ∃ r, reverseL s e = some r ∧ applyL x r = some s ∧ reverseL x r = some e ∧ x.length ≤ s.length + 1 ∧ s.length ≤ x.length + 1 ∧ x ≠ s ∧ Al false s x 1 := by
  obtain ⟨n, hp, ha, hl, hc⟩ := applyL_cases h
  have hk := h
  unfold reverseL
  simp only [h, Option.isSome_some, if_true]
  have key : ∀ (r : Chg) (y : List UInt8), applyL x r = some y → (applyL x r).isSome = true := fun r y hy => by rw [hy]; rfl
  obtain ⟨ek, ep, ec⟩ := e
  simp only at hp hc
  subst hp
  rcases hc with ⟨rfl, hc, hn, hl2, hx⟩ | ⟨rfl, rfl, hn, hx⟩ | ⟨rfl, hc, hn, hd, hx⟩
  · have hax : x.all smallB = true := by rw [hx]; simp only [List.all_append, List.all_cons, all_take ha, all_drop ha, hc, Bool.true_and]
    have hlx : x.length = s.length + 1 := by rw [hx]; simp only [List.length_append, List.length_cons, List.length_take, List.length_drop]; omega
    have ht : (s.take n).length = n := by rw [List.length_take]; omega
    have hg : x[n]? = some ec := by rw [hx, List.getElem?_append_right (by omega), ht, Nat.sub_self]; rfl
    have hb : applyL x ⟨2, n, 0⟩ = some s := by
      rw [applyL_del hax (by omega) (by omega), hx, List.take_append_of_le_length (by omega), List.take_of_length_le (by omega), List.drop_append, List.drop_of_length_le (by omega), ht]
      simp
    refine ⟨⟨2, n, 0⟩, by simp, hb, ?_, by omega, by omega, fun e => by rw [e] at hlx; omega, ?_⟩
    · simp [reverseL, hb, List.getD_eq_getElem?_getD, hg]
    · rw [hx]
      conv => lhs; rw [← List.take_append_drop n s]
      have h1 := (Al.refl false (s.take n)).app (Al.ins ec (Al.refl false (s.drop n)))
      simpa using h1
  · have hg0 : s[n]? = some s[n] := List.getElem?_eq_getElem hn
    have hsm : smallB s[n] = true := by rw [List.all_eq_true] at ha; exact ha _ (List.getElem_mem hn)
    have hax : x.all smallB = true := by rw [hx]; simp only [List.all_append, all_take ha, all_drop ha, Bool.true_and]
    have hlx : x.length + 1 = s.length := by rw [hx]; simp only [List.length_append, List.length_take, List.length_drop]; omega
    have ht : (s.take n).length = n := by rw [List.length_take]; omega
    have hb : applyL x ⟨1, n, s[n]⟩ = some s := by
      rw [applyL_ins hax (by omega) hsm (by omega), hx, List.take_append_of_le_length (by omega), List.take_of_length_le (by omega), List.drop_append, List.drop_of_length_le (by omega), ht]
      simp only [Nat.sub_self, List.drop_zero, List.nil_append, List.getElem_cons_drop, List.take_append_drop]
    refine ⟨⟨1, n, s[n]⟩, by simp [List.getD_eq_getElem?_getD, hg0], hb, by simp [reverseL, hb], by omega, by omega, fun e => by rw [e] at hlx; omega, ?_⟩
    rw [hx]
    have h1 := (Al.refl false (s.take n)).app (Al.del s[n] (Al.refl false (s.drop (n + 1))))
    simp only [List.getElem_cons_drop, List.take_append_drop] at h1
    simpa using h1
  · have hg0 : s[n]? = some s[n] := List.getElem?_eq_getElem hn
    have hsm : smallB s[n] = true := by rw [List.all_eq_true] at ha; exact ha _ (List.getElem_mem hn)
    have hax : x.all smallB = true := by rw [hx]; simp only [List.all_append, List.all_cons, all_take ha, all_drop ha, hc, Bool.true_and]
    have hlx : x.length = s.length := by rw [hx]; simp only [List.length_append, List.length_cons, List.length_take, List.length_drop]; omega
    have ht : (s.take n).length = n := by rw [List.length_take]; omega
    have hg : x[n]? = some ec := by rw [hx, List.getElem?_append_right (by omega), ht, Nat.sub_self]; rfl
    have hne : x[n]? ≠ some s[n] := by rw [hg, ← hg0]; exact fun e => hd e.symm
    have hb : applyL x ⟨3, n, s[n]⟩ = some s := by
      rw [applyL_rep hax (by omega) hsm (by omega) hne, hx, List.take_append_of_le_length (by omega), List.take_of_length_le (by omega), List.drop_append, List.drop_of_length_le (by omega), ht]
      simp only [show n + 1 - n = 1 by omega, List.drop_succ_cons, List.drop_zero, List.nil_append, List.getElem_cons_drop, List.take_append_drop]
    refine ⟨⟨3, n, s[n]⟩, by simp [List.getD_eq_getElem?_getD, hg0], hb, by simp [reverseL, hb, List.getD_eq_getElem?_getD, hg], by omega, by omega, fun e => hne (by rw [e]; exact hg0), ?_⟩
    rw [hx]
    have h1 := (Al.refl false (s.take n)).app (Al.rep s[n] ec (Al.refl false (s.drop (n + 1))))
    simp only [List.getElem_cons_drop, List.take_append_drop] at h1
    simpa using h1
theorem ed_of_apply {s x : List UInt8} {e : Chg} (h : applyL s e = some x) : ed false s x = 1 := by
  obtain ⟨r, _, _, _, _, _, hne, hal⟩ := apply_back h
  have h1 := ed_le hal
  have h2 : ed false s x ≠ 0 := fun h0 => hne ((ed_zero false s x).1 h0).symm
  omega

/-- the script for the first n letters of the one and the first m of the other word, from the ends -/
noncomputable def scr (a b : List UInt8) (n m : Nat) : List Chg :=
  if h0 : n = 0 ∧ m = 0 then []
  else if h1 : 0 < n ∧ 0 < m ∧ a[n - 1]? = b[m - 1]? then scr a b (n - 1) (m - 1)
  else if h2 : 0 < n ∧ cell false a b (n - 1) m + 1 = cell false a b n m then ⟨2, (n : Int) - 1, 0⟩ :: scr a b (n - 1) m
  else if h3 : 0 < m ∧ cell false a b n (m - 1) + 1 = cell false a b n m then ⟨1, n, b.getD (m - 1) 0⟩ :: scr a b n (m - 1)
  else ⟨3, (n : Int) - 1, b.getD (m - 1) 0⟩ :: scr a b (n - 1) (m - 1)
termination_by n + m
decreasing_by all_goals omega

theorem cell_zero (a b : List UInt8) : cell false a b 0 0 = 0 := cell_top false a b 0 (by omega)
theorem scr_len (a b : List UInt8) : ∀ (k n m : Nat), n + m = k → n ≤ a.length → m ≤ b.length → (scr a b n m).length = cell false a b n m := by
  intro k
  induction k using Nat.strongRecOn with
  | ind k ih =>
    intro n m hk hn hm
    rw [scr]
    split
    · rename_i h0; obtain ⟨rfl, rfl⟩ := h0; rw [cell_zero]; rfl
    · rename_i h0
      split
      · rename_i h1
        obtain ⟨n, rfl⟩ : ∃ n', n = n' + 1 := ⟨n - 1, by omega⟩
        obtain ⟨m, rfl⟩ : ∃ m', m = m' + 1 := ⟨m - 1, by omega⟩
        have he : a[n] = b[m] := by
          have := h1.2.2
          simp only [Nat.add_sub_cancel] at this
          rw [List.getElem?_eq_getElem (by omega), List.getElem?_eq_getElem (by omega)] at this
          injection this
        rw [Nat.add_sub_cancel, Nat.add_sub_cancel, ih (n + m) (by omega) n m rfl (by omega) (by omega), cell_same a b n m (by omega) (by omega) he]
      · rename_i h1
        split
        · rename_i h2
          rw [List.length_cons, ih (n - 1 + m) (by omega) (n - 1) m rfl (by omega) (by omega)]; exact h2.2
        · rename_i h2
          split
          · rename_i h3
            rw [List.length_cons, ih (n + (m - 1)) (by omega) n (m - 1) rfl (by omega) (by omega)]; exact h3.2
          · rename_i h3
            have hn0 : 0 < n := by
              by_cases h : n = 0
              · subst h
                exact absurd ⟨by omega, by rw [cell_top _ _ _ _ (by omega), cell_top _ _ _ _ (by omega)]; omega⟩ h3
              · omega
            have hm0 : 0 < m := by
              by_cases h : m = 0
              · subst h
                exact absurd ⟨by omega, by rw [cell_left _ _ _ _ (by omega), cell_left _ _ _ _ (by omega)]; omega⟩ h2
              · omega
            obtain ⟨n, rfl⟩ : ∃ n', n = n' + 1 := ⟨n - 1, by omega⟩
            obtain ⟨m, rfl⟩ : ∃ m', m = m' + 1 := ⟨m - 1, by omega⟩
            have hne : a[n] ≠ b[m] := by
              intro he
              refine h1 ⟨by omega, by omega, ?_⟩
              simp only [Nat.add_sub_cancel]
              rw [List.getElem?_eq_getElem (by omega), List.getElem?_eq_getElem (by omega), he]
            have hst := cell_step a b n m (by omega) (by omega)
            rw [if_neg hne] at hst
            simp only [Nat.add_sub_cancel] at h2 h3
            rw [List.length_cons, Nat.add_sub_cancel, Nat.add_sub_cancel, ih (n + m) (by omega) n m rfl (by omega) (by omega)]
            have q2 : ¬ cell false a b n (m + 1) + 1 = cell false a b (n + 1) (m + 1) := fun h => h2 ⟨by omega, h⟩
            have q3 : ¬ cell false a b (n + 1) m + 1 = cell false a b (n + 1) (m + 1) := fun h => h3 ⟨by omega, h⟩
            omega
theorem scr_apply (a b : List UInt8) (ha : a.all smallB = true) (hb : b.all smallB = true) (la : a.length ≤ 12) (lb : b.length ≤ 12) : ∀ (k n m : Nat), n + m = k → n ≤ a.length → m ≤ b.length → applyAll (a.take n ++ b.drop m) (scr a b n m) = some b := by
  intro k
  induction k using Nat.strongRecOn with
  | ind k ih =>
    intro n m hk hn hm
    have hall : (a.take n ++ b.drop m).all smallB = true := by simp only [List.all_append, all_take ha, all_drop hb, Bool.true_and]
    have hlen : (a.take n ++ b.drop m).length = n + (b.length - m) := by simp only [List.length_append, List.length_take, List.length_drop]; omega
    have tl : (a.take n).length = n := by rw [List.length_take]; omega
    rw [scr]
    split
    · rename_i h0; obtain ⟨rfl, rfl⟩ := h0; simp [applyAll]
    · rename_i h0
      split
      · rename_i h1
        obtain ⟨n, rfl⟩ : ∃ n', n = n' + 1 := ⟨n - 1, by omega⟩
        obtain ⟨m, rfl⟩ : ∃ m', m = m' + 1 := ⟨m - 1, by omega⟩
        have he : a[n] = b[m] := by
          have := h1.2.2
          simp only [Nat.add_sub_cancel] at this
          rw [List.getElem?_eq_getElem (by omega), List.getElem?_eq_getElem (by omega)] at this
          injection this
        have ht : a.take (n + 1) ++ b.drop (m + 1) = a.take n ++ b.drop m := by
          rw [← List.take_append_getElem (show n < a.length by omega), ← List.getElem_cons_drop (show m < b.length by omega), he]; simp
        rw [ht, Nat.add_sub_cancel, Nat.add_sub_cancel]
        exact ih (n + m) (by omega) n m rfl (by omega) (by omega)
      · rename_i h1
        split
        · rename_i h2
          obtain ⟨n, rfl⟩ : ∃ n', n = n' + 1 := ⟨n - 1, by omega⟩
          have e : applyL (a.take (n + 1) ++ b.drop m) ⟨2, ((n + 1 : Nat) : Int) - 1, 0⟩ = some (a.take n ++ b.drop m) := by
            rw [show ((n + 1 : Nat) : Int) - 1 = (n : Int) by omega, applyL_del hall (by omega) (by omega)]
            rw [List.take_append_of_le_length (by omega), List.take_take, List.drop_append, List.drop_of_length_le (by omega), tl]
            simp [show min n (n + 1) = n by omega]
          simp only [applyAll, e, Nat.add_sub_cancel]
          exact ih (n + m) (by omega) n m rfl (by omega) (by omega)
        · rename_i h2
          split
          · rename_i h3
            obtain ⟨m, rfl⟩ : ∃ m', m = m' + 1 := ⟨m - 1, by omega⟩
            have hg : b.getD m 0 = b[m] := by rw [List.getD_eq_getElem?_getD, List.getElem?_eq_getElem (by omega)]; rfl
            have hs : smallB b[m] = true := by rw [List.all_eq_true] at hb; exact hb _ (List.getElem_mem _)
            have e : applyL (a.take n ++ b.drop (m + 1)) ⟨1, n, b.getD m 0⟩ = some (a.take n ++ b.drop m) := by
              rw [hg, applyL_ins hall (by omega) hs (by omega)]
              rw [List.take_append_of_le_length (by omega), List.take_take, List.drop_append, List.drop_of_length_le (by omega), tl]
              simp
            simp only [applyAll, Nat.add_sub_cancel, e]
            exact ih (n + m) (by omega) n m rfl (by omega) (by omega)
          · rename_i h3
            have hn0 : 0 < n := by
              by_cases h : n = 0
              · subst h
                exact absurd ⟨by omega, by rw [cell_top _ _ _ _ (by omega), cell_top _ _ _ _ (by omega)]; omega⟩ h3
              · omega
            have hm0 : 0 < m := by
              by_cases h : m = 0
              · subst h
                exact absurd ⟨by omega, by rw [cell_left _ _ _ _ (by omega), cell_left _ _ _ _ (by omega)]; omega⟩ h2
              · omega
            obtain ⟨n, rfl⟩ : ∃ n', n = n' + 1 := ⟨n - 1, by omega⟩
            obtain ⟨m, rfl⟩ : ∃ m', m = m' + 1 := ⟨m - 1, by omega⟩
            have hne : a[n] ≠ b[m] := by
              intro he
              refine h1 ⟨by omega, by omega, ?_⟩
              simp only [Nat.add_sub_cancel]
              rw [List.getElem?_eq_getElem (by omega), List.getElem?_eq_getElem (by omega), he]
            have hg : b.getD m 0 = b[m] := by rw [List.getD_eq_getElem?_getD, List.getElem?_eq_getElem (by omega)]; rfl
            have hs : smallB b[m] = true := by rw [List.all_eq_true] at hb; exact hb _ (List.getElem_mem _)
            have hat : (a.take (n + 1) ++ b.drop (m + 1))[n]? = some a[n] := by rw [List.getElem?_append_left (by omega), List.getElem?_take_of_lt (by omega), List.getElem?_eq_getElem (by omega)]
            have e : applyL (a.take (n + 1) ++ b.drop (m + 1)) ⟨3, ((n + 1 : Nat) : Int) - 1, b.getD m 0⟩ = some (a.take n ++ b.drop m) := by
              rw [show ((n + 1 : Nat) : Int) - 1 = (n : Int) by omega, hg, applyL_rep hall (by omega) hs (by omega) (by rw [hat]; exact fun h => hne (by injection h))]
              rw [List.take_append_of_le_length (by omega), List.take_take, List.drop_append, List.drop_of_length_le (by omega), tl]
              simp [show min n (n + 1) = n by omega]
            simp only [applyAll, Nat.add_sub_cancel, e]
            exact ih (n + m) (by omega) n m rfl (by omega) (by omega)
/-- the script of two words -/
noncomputable def script (a b : List UInt8) : List Chg := scr a b a.length b.length
theorem script_len (a b : List UInt8) : (script a b).length = ed false a b := by unfold script; rw [scr_len a b _ _ _ rfl (by omega) (by omega), cell_last]
theorem script_apply {a b : List UInt8} (ha : longB a = true) (hb : longB b = true) (la : a.length ≤ 12) (lb : b.length ≤ 12) : scriptL a (script a b) = some b := by
  unfold scriptL
  have hl : (script a b).length ≤ 24 := by have := ed_most false a b; rw [script_len]; omega
  simp only [longB, Bool.and_eq_true] at ha hb
  rw [if_pos (by simp only [longB, ha.1, ha.2, Bool.true_and, decide_eq_true_eq]; exact hl)]
  have h := scr_apply a b ha.1 hb.1 la lb _ a.length b.length rfl (by omega) (by omega)
  rw [List.take_length, List.drop_length, List.append_nil] at h
  exact h
end Go.Proofs.Ytmdmjhnjhelccaa
