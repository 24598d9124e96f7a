/- Plain facts on the order of texts, on ascending lists, and on the place of a text in a list. -/
import Derived.Test.YtmolphaihapkkaaLst
import Derived.Shelf.Spec.SearchS
namespace Go.Proofs.Ytmolphaihapkkaa
open Go.RowKit
set_option linter.unusedSimpArgs false
set_option linter.unusedVariables false

theorem bytesLess_lt : ∀ (x y : List UInt8), Op.bytesLess x y = decide (x < y)
  | [], [] => by simp [Op.bytesLess]
  | _ :: _, [] => by simp [Op.bytesLess]
  | [], _ :: _ => by simp [Op.bytesLess]
  | a :: x, b :: y => by
    unfold Op.bytesLess
    rw [bytesLess_lt x y, Bool.eq_iff_iff]
    simp [List.cons_lt_cons_iff]
theorem ltS_eq (s t : ByteArray) : ltS s t = decide (s.data.toList < t.data.toList) := by
  unfold ltS; rw [bytesLess_lt, ByteArray.toList_eq, ByteArray.toList_eq]
theorem ltS_irrefl (s : ByteArray) : ltS s s = false := by rw [ltS_eq]; simp
theorem ltS_trans {s t u : ByteArray} (h : ltS s t = true) (k : ltS t u = true) : ltS s u = true := by
  rw [ltS_eq, decide_eq_true_iff] at *
  exact List.lt_trans h k
theorem bytes_ext {s t : ByteArray} (h : s.data.toList = t.data.toList) : s = t := by cases s; cases t; simp at h; simp [h]
theorem ltS_tri {s t : ByteArray} (h : ltS s t = false) (hne : s ≠ t) : ltS t s = true := by
  rw [ltS_eq] at *
  simp only [decide_eq_false_iff_not, decide_eq_true_eq] at *
  rcases Std.lt_trichotomy s.data.toList t.data.toList with h1 | h1 | h1
  · exact absurd h1 h
  · exact absurd (bytes_ext h1) hne
  · exact h1
theorem ltS_ne {s t : ByteArray} (h : ltS s t = true) : s ≠ t := by rintro rfl; rw [ltS_irrefl] at h; cases h

/-- in an ascending list the elements ascend over any distance -/
theorem asc_lt {ss : List ByteArray} (h : ascB ss = true) : ∀ (d i : Nat) (s t : ByteArray), ss[i]? = some s → ss[i + d + 1]? = some t → ltS s t = true
  | 0, i, s, t, hs, ht => asc_iff.1 h i s t hs ht
  | d + 1, i, s, t, hs, ht => by
    have hl := (List.getElem?_eq_some_iff.1 ht).1
    have hm : ss[i + d + 1]? = some (ss[i + d + 1]'(by omega)) := List.getElem?_eq_getElem (by omega)
    exact ltS_trans (asc_lt h d i s _ hs hm) (asc_iff.1 h (i + d + 1) _ t hm ht)

def posOf (x : ByteArray) : List ByteArray → Nat
  | [] => 0
  | s :: r => if s = x then 0 else posOf x r + 1
theorem posOf_at {x : ByteArray} : ∀ {ss : List ByteArray} {k : Nat}, ss[k]? = some x → (∀ j, j < k → ss[j]? ≠ some x) → posOf x ss = k
  | [], k, h, _ => by simp at h
  | s :: r, 0, h, _ => by simp at h; simp [posOf, h]
  | s :: r, k + 1, h, hn => by
    have h0 := hn 0 (by omega)
    have : s ≠ x := by simpa using h0
    simp only [posOf, if_neg this]
    rw [posOf_at (ss := r) (k := k) (by simpa using h) (fun j hj => by simpa using hn (j + 1) (by omega))]
theorem posOf_none {x : ByteArray} : ∀ {ss : List ByteArray}, (∀ j : Nat, ss[j]? ≠ some x) → posOf x ss = ss.length
  | [], _ => rfl
  | s :: r, hn => by
    have : s ≠ x := by simpa using hn 0
    simp only [posOf, if_neg this, List.length_cons]
    rw [posOf_none (ss := r) (fun j => by simpa using hn (j + 1))]
/-- the answer of ListFind -/
def findI (ss : List ByteArray) (x : ByteArray) : Int := if listB ss && decide (posOf x ss < ss.length) then (posOf x ss : Int) else -1
theorem findI_bad {ss : List ByteArray} {x : ByteArray} (h : listB ss = false) : findI ss x = -1 := by unfold findI; rw [h]; rfl
theorem findI_at {ss : List ByteArray} {x : ByteArray} {k : Nat} (h : listB ss = true) (hk : ss[k]? = some x) (hn : ∀ j, j < k → ss[j]? ≠ some x) : findI ss x = k := by
  have hl := (List.getElem?_eq_some_iff.1 hk).1
  unfold findI
  rw [posOf_at hk hn, h, decide_eq_true hl]
  rfl
theorem findI_none {ss : List ByteArray} {x : ByteArray} (hn : ∀ j : Nat, ss[j]? ≠ some x) : findI ss x = -1 := by
  unfold findI
  rw [posOf_none hn]
  simp

/-- where a test that goes down along the list turns -/
theorem turn_of (less : Nat → Bool) (hmono : ∀ t, less (t + 1) = true → less t = true) : ∀ m : Nat, ∃ k, k ≤ m ∧ (∀ t, t < k → less t = true) ∧ (∀ t, k ≤ t → t < m → less t = false)
  | 0 => ⟨0, Nat.le_refl _, fun t ht => absurd ht (by omega), fun t _ ht => absurd ht (by omega)⟩
  | m + 1 => by
    obtain ⟨k, hk, h1, h2⟩ := turn_of less hmono m
    cases hm : less m
    · refine ⟨k, by omega, h1, fun t hkt ht => ?_⟩
      by_cases h : t = m
      · subst h; exact hm
      · exact h2 t hkt (by omega)
    · have all : ∀ d t, t + d = m → less t = true := by
        intro d
        induction d with
        | zero => intro t ht; obtain rfl : t = m := by omega
                  exact hm
        | succ d ih => intro t ht; exact hmono t (ih (t + 1) (by omega))
      exact ⟨m + 1, Nat.le_refl _, fun t ht => all (m - t) t (by omega), fun t a b => absurd b (by omega)⟩

/-- what the library's halving finds in a valid list -/
theorem search_find {ss : List ByteArray} {x : ByteArray} (hb : listB ss = true) (I : Nat) (hI : Lib.bsGo (fun t => Op.bytesLess ((ss[t]?).getD x).toList x.toList) ss.length 0 ss.length = I) :
    I ≤ ss.length ∧ (if decide (I < ss.length ∧ (ss[I]?).getD x = x) then findI ss x = (I : Int) else findI ss x = -1) := by
  have hasc : ascB ss = true := by unfold listB at hb; simp at hb; exact hb.2
  let less : Nat → Bool := fun t => Op.bytesLess ((ss[t]?).getD x).toList x.toList
  have hlt : ∀ t s, ss[t]? = some s → less t = ltS s x := by intro t s h; simp [less, h, ltS]
  have hout : ∀ t, ss[t]? = none → less t = false := by intro t h; simp only [less, h, Option.getD_none]; exact ltS_irrefl x
  have hmono : ∀ t, less (t + 1) = true → less t = true := by
    intro t h
    cases h1 : ss[t + 1]? with
    | none => rw [hout _ h1] at h; cases h
    | some u =>
      have hl := (List.getElem?_eq_some_iff.1 h1).1
      have h0 : ss[t]? = some (ss[t]'(by omega)) := List.getElem?_eq_getElem (by omega)
      rw [hlt _ _ h0]
      rw [hlt _ _ h1] at h
      exact ltS_trans (asc_iff.1 hasc t _ u h0 h1) h
  obtain ⟨k, hk, h1, h2⟩ := turn_of less hmono ss.length
  have hfin : Lib.bsGo less ss.length 0 ss.length = k := Lib.bsGo_spec less k h1 (fun t ht => by
    by_cases h : t < ss.length
    · exact h2 t ht h
    · exact hout t (List.getElem?_eq_none (by omega))) ss.length 0 ss.length (by omega) (by omega) hk
  have hIk : I = k := by rw [← hI]; exact hfin
  subst hIk
  refine ⟨hk, ?_⟩
  have hbefore : ∀ j, j < I → ss[j]? ≠ some x := by
    intro j hj e
    have := h1 j hj
    rw [hlt _ _ e, ltS_irrefl] at this
    cases this
  by_cases hf : I < ss.length ∧ (ss[I]?).getD x = x
  · rw [decide_eq_true hf, if_pos rfl]
    have h0 : ss[I]? = some (ss[I]'hf.1) := List.getElem?_eq_getElem hf.1
    have he := hf.2
    rw [h0] at he
    simp only [Option.getD_some] at he
    exact findI_at hb (by rw [h0, he]) hbefore
  · rw [decide_eq_false hf, if_neg (by simp)]
    refine findI_none fun j e => ?_
    have hjl := (List.getElem?_eq_some_iff.1 e).1
    by_cases hji : j < I
    · exact hbefore j hji e
    · have hIl : I < ss.length := by omega
      have h0 : ss[I]? = some (ss[I]'hIl) := List.getElem?_eq_getElem hIl
      have hne : ss[I]'hIl ≠ x := fun h => hf ⟨hIl, by rw [h0]; exact h⟩
      have hg : ltS x (ss[I]'hIl) = true := by
        refine ltS_tri ?_ hne
        rw [← hlt _ _ h0]
        exact h2 I (Nat.le_refl _) hIl
      by_cases hjI : j = I
      · subst hjI; rw [h0] at e; injection e with e; exact hne e
      · have := asc_lt hasc (j - I - 1) I _ x h0 (by rw [← e]; congr 1; omega)
        have := ltS_trans hg this
        rw [ltS_irrefl] at this
        cases this
end Go.Proofs.Ytmolphaihapkkaa
