/- Dictionaries: ascending lists of words with counts. Plain mathematics, no program in it. -/
import Derived.Test.YtopjhdgpdcdklaaOrd
namespace Go.Proofs.Ytopjhdgpdcdklaa
open Go.RowKit
set_option linter.unusedSimpArgs false
set_option linter.unusedVariables false

abbrev Item := ByteArray × Int
def wordsD (d : List Item) : List ByteArray := d.map Prod.fst
def countB (n : Int) : Bool := decide (1 ≤ n) && decide (n ≤ 1000000)
def dictB (d : List Item) : Bool := d.all (fun x => countB x.2) && listB (wordsD d)
def lookD : List Item → ByteArray → Option Int
  | [], _ => none
  | (w, c) :: r, s => if w = s then some c else lookD r s
def addL : List Item → ByteArray → Int → List Item
  | [], s, m => [(s, m)]
  | (w, c) :: r, s, m => if w = s then (w, c + m) :: r else if ltS s w = true then (s, m) :: (w, c) :: r else (w, c) :: addL r s m
def dropL (d : List Item) (s : ByteArray) : List Item := d.filter fun x => decide (x.1 ≠ s)

theorem asc_pairs {ss : List ByteArray} : ascB ss = true ↔ ss.Pairwise (fun a b => ltS a b = true) := by
  constructor
  · intro h
    rw [List.pairwise_iff_getElem]
    intro i j hi hj hij
    have := asc_lt h (j - i - 1) i ss[i] ss[j] (List.getElem?_eq_getElem hi) (by rw [show i + (j - i - 1) + 1 = j by omega]; exact List.getElem?_eq_getElem hj)
    exact this
  · intro h
    rw [asc_iff]
    intro j s t hs ht
    rw [List.pairwise_iff_getElem] at h
    obtain ⟨h1, rfl⟩ := List.getElem?_eq_some_iff.1 hs
    obtain ⟨h2, rfl⟩ := List.getElem?_eq_some_iff.1 ht
    exact h j (j + 1) h1 h2 (by omega)
/-- the words of a dictionary ascend -/
def ascD (d : List Item) : Prop := d.Pairwise (fun a b => ltS a.1 b.1 = true)
theorem ascD_iff {d : List Item} : ascB (wordsD d) = true ↔ ascD d := by
  rw [asc_pairs]; unfold wordsD ascD; rw [List.pairwise_map]
theorem dict_parts {d : List Item} (h : dictB d = true) : (∀ x ∈ d, countB x.2 = true) ∧ d.length ≤ 60 ∧ (∀ x ∈ d, filledS x.1 = true) ∧ ascD d := by
  unfold dictB listB filledB at h
  simp only [Bool.and_eq_true, List.all_eq_true, decide_eq_true_eq] at h
  obtain ⟨h1, ⟨h2, h3⟩, h4⟩ := h
  refine ⟨h1, by simpa [wordsD] using h2, fun x hx => h3 x.1 (List.mem_map_of_mem hx), ascD_iff.1 h4⟩
theorem dict_of {d : List Item} (h1 : ∀ x ∈ d, countB x.2 = true) (h2 : d.length ≤ 60) (h3 : ∀ x ∈ d, filledS x.1 = true) (h4 : ascD d) : dictB d = true := by
  unfold dictB listB filledB
  simp only [Bool.and_eq_true, List.all_eq_true, decide_eq_true_eq]
  refine ⟨h1, ⟨by simpa [wordsD] using h2, fun s hs => ?_⟩, ascD_iff.2 h4⟩
  obtain ⟨x, hx, rfl⟩ := List.mem_map.1 hs
  exact h3 x hx
theorem dict_list {d : List Item} (h : dictB d = true) : listB (wordsD d) = true := by
  unfold dictB at h; simp only [Bool.and_eq_true] at h; exact h.2
theorem ltS_asymm {s t : ByteArray} (h : ltS s t = true) : ltS t s = false := by
  cases h2 : ltS t s
  · rfl
  · have := ltS_trans h h2; rw [ltS_irrefl] at this; cases this

theorem look_none {d : List Item} {s : ByteArray} (h : ∀ x ∈ d, x.1 ≠ s) : lookD d s = none := by
  induction d with
  | nil => rfl
  | cons x d ih =>
    obtain ⟨w, c⟩ := x
    rw [lookD, if_neg (h (w, c) (List.mem_cons_self)), ih (fun x hx => h x (List.mem_cons_of_mem _ hx))]
theorem look_none_iff {d : List Item} {s : ByteArray} : lookD d s = none ↔ ∀ x ∈ d, x.1 ≠ s := by
  constructor
  · intro h
    induction d with
    | nil => simp
    | cons x d ih =>
      obtain ⟨w, c⟩ := x
      rw [lookD] at h
      by_cases e : w = s
      · rw [if_pos e] at h; cases h
      · rw [if_neg e] at h
        intro y hy
        rcases List.mem_cons.1 hy with rfl | hy
        · exact e
        · exact ih h y hy
  · exact look_none
theorem look_mem {d : List Item} {s : ByteArray} {c : Int} (h : lookD d s = some c) : (s, c) ∈ d := by
  induction d with
  | nil => cases h
  | cons x d ih =>
    obtain ⟨w, k⟩ := x
    rw [lookD] at h
    by_cases e : w = s
    · rw [if_pos e] at h; injection h with h; subst e h; exact List.mem_cons_self
    · rw [if_neg e] at h; exact List.mem_cons_of_mem _ (ih h)
theorem look_of {d : List Item} (ha : ascD d) {s : ByteArray} {c : Int} (h : (s, c) ∈ d) : lookD d s = some c := by
  induction d with
  | nil => cases h
  | cons x d ih =>
    obtain ⟨w, k⟩ := x
    obtain ⟨h1, h2⟩ := List.pairwise_cons.1 ha
    rw [lookD]
    rcases List.mem_cons.1 h with e | h
    · injection e with e1 e2; subst e1 e2; rw [if_pos rfl]
    · have hne : w ≠ s := ltS_ne (h1 _ h)
      rw [if_neg hne]; exact ih h2 h
theorem look_before {w : ByteArray} {c : Int} {r : List Item} (ha : ascD ((w, c) :: r)) {s : ByteArray} (h : ltS s w = true) : lookD ((w, c) :: r) s = none := by
  refine look_none fun x hx => ?_
  rcases List.mem_cons.1 hx with rfl | hx
  · exact (ltS_ne h).symm
  · exact (ltS_ne (ltS_trans h ((List.pairwise_cons.1 ha).1 x hx))).symm
/-- two dictionaries with the same counts are one -/
theorem dict_ext {d e : List Item} (hd : ascD d) (he : ascD e) (h : ∀ s, lookD d s = lookD e s) : d = e := by
  induction d generalizing e with
  | nil =>
    cases e with
    | nil => rfl
    | cons x e => obtain ⟨w, c⟩ := x; have := h w; rw [lookD, lookD, if_pos rfl] at this; cases this
  | cons x d ih =>
    obtain ⟨w, c⟩ := x
    cases e with
    | nil => have := h w; rw [lookD, lookD, if_pos rfl] at this; cases this
    | cons y e =>
      obtain ⟨v, k⟩ := y
      have hwv : w = v := by
        by_cases hne : w = v
        · exact hne
        · exfalso
          cases hl : ltS w v
          · have hlt := ltS_tri hl hne
            have h1 := h v
            rw [look_before hd hlt, lookD, if_pos rfl] at h1
            cases h1
          · have h1 := h w
            rw [look_before he hl, lookD, if_pos rfl] at h1
            cases h1
      subst hwv
      have hck : c = k := by have := h w; rw [lookD, lookD, if_pos rfl, if_pos rfl] at this; injection this
      subst hck
      rw [ih (List.pairwise_cons.1 hd).2 (List.pairwise_cons.1 he).2 (fun s => ?_)]
      by_cases e : w = s
      · subst e
        rw [look_none (fun x hx => (ltS_ne ((List.pairwise_cons.1 hd).1 x hx)).symm), look_none (fun x hx => (ltS_ne ((List.pairwise_cons.1 he).1 x hx)).symm)]
      · have := h s; rw [lookD, lookD, if_neg e, if_neg e] at this; exact this

theorem look_add {d : List Item} (ha : ascD d) (s t : ByteArray) (m : Int) : lookD (addL d s m) t = if s = t then some ((lookD d s).getD 0 + m) else lookD d t := by
  induction d with
  | nil => simp [addL, lookD]
  | cons x d ih =>
    obtain ⟨w, c⟩ := x
    rw [addL]
    by_cases e : w = s
    · subst e
      rw [if_pos rfl, lookD]
      by_cases e2 : w = t
      · rw [if_pos e2, if_pos e2, lookD, if_pos rfl]; rfl
      · rw [if_neg e2, if_neg e2, lookD, if_neg e2]
    · rw [if_neg e]
      by_cases hl : ltS s w = true
      · rw [if_pos hl, lookD]
        by_cases e2 : s = t
        · rw [if_pos e2, if_pos e2, look_before ha hl]; simp
        · rw [if_neg e2, if_neg e2]
      · rw [if_neg hl, lookD, ih (List.pairwise_cons.1 ha).2]
        by_cases e2 : w = t
        · subst e2; rw [if_pos rfl, if_neg (fun h => e h.symm), lookD, if_pos rfl]
        · rw [if_neg e2]
          by_cases e3 : s = t
          · rw [if_pos e3, if_pos e3, lookD, if_neg e]
          · rw [if_neg e3, if_neg e3, lookD, if_neg e2]
theorem mem_add {d : List Item} {s : ByteArray} {m : Int} {x : Item} (h : x ∈ addL d s m) : x.1 = s ∨ x ∈ d := by
  induction d with
  | nil => simp [addL] at h; subst h; exact .inl rfl
  | cons y d ih =>
    obtain ⟨w, c⟩ := y
    rw [addL] at h
    by_cases e : w = s
    · rw [if_pos e] at h
      rcases List.mem_cons.1 h with rfl | h
      · exact .inl e
      · exact .inr (List.mem_cons_of_mem _ h)
    · rw [if_neg e] at h
      by_cases hl : ltS s w = true
      · rw [if_pos hl] at h
        rcases List.mem_cons.1 h with rfl | h
        · exact .inl rfl
        · exact .inr h
      · rw [if_neg hl] at h
        rcases List.mem_cons.1 h with rfl | h
        · exact .inr List.mem_cons_self
        · rcases ih h with h | h
          · exact .inl h
          · exact .inr (List.mem_cons_of_mem _ h)
theorem asc_add {d : List Item} (ha : ascD d) (s : ByteArray) (m : Int) : ascD (addL d s m) := by
  induction d with
  | nil => simp [addL, ascD]
  | cons y d ih =>
    obtain ⟨w, c⟩ := y
    obtain ⟨h1, h2⟩ := List.pairwise_cons.1 ha
    rw [addL]
    by_cases e : w = s
    · rw [if_pos e]; exact List.pairwise_cons.2 ⟨h1, h2⟩
    · rw [if_neg e]
      by_cases hl : ltS s w = true
      · rw [if_pos hl]
        refine List.pairwise_cons.2 ⟨fun x hx => ?_, ha⟩
        rcases List.mem_cons.1 hx with rfl | hx
        · exact hl
        · exact ltS_trans hl (h1 x hx)
      · rw [if_neg hl]
        refine List.pairwise_cons.2 ⟨fun x hx => ?_, ih h2⟩
        rcases mem_add hx with h | h
        · rw [h]; exact ltS_tri (by simpa using hl) (fun e2 => e e2.symm)
        · exact h1 x h
theorem len_add {d : List Item} (ha : ascD d) {s : ByteArray} (m : Int) (h : (lookD d s).isSome = true) : (addL d s m).length = d.length := by
  induction d with
  | nil => cases h
  | cons y d ih =>
    obtain ⟨w, c⟩ := y
    rw [addL]
    by_cases e : w = s
    · rw [if_pos e]; rfl
    · rw [lookD, if_neg e] at h
      by_cases hl : ltS s w = true
      · have := look_before ha hl
        rw [lookD, if_neg e] at this
        rw [this] at h; cases h
      · rw [if_neg e, if_neg hl, List.length_cons, ih (List.pairwise_cons.1 ha).2 h, List.length_cons]
theorem len_add_le (d : List Item) (s : ByteArray) (m : Int) : (addL d s m).length ≤ d.length + 1 := by
  induction d with
  | nil => simp [addL]
  | cons y d ih =>
    obtain ⟨w, c⟩ := y
    rw [addL]
    split
    · simp
    · split
      · simp
      · simp; omega
/-- a dictionary with a word added is one, if there is room and the count is not too great -/
theorem dict_add {d : List Item} {s : ByteArray} {m : Int} (h : dictB d = true) (hs : filledS s = true) (hm : 1 ≤ m) (hc : (lookD d s).getD 0 + m ≤ 1000000) (hr : (lookD d s).isSome = true ∨ d.length < 60) : dictB (addL d s m) = true := by
  obtain ⟨h1, h2, h3, h4⟩ := dict_parts h
  have hA := asc_add h4 s m
  refine dict_of (fun x hx => ?_) ?_ (fun x hx => ?_) hA
  · have hl : lookD (addL d s m) x.1 = some x.2 := look_of hA hx
    rw [look_add h4] at hl
    by_cases e : s = x.1
    · rw [if_pos e] at hl
      injection hl with hl
      rw [← hl]
      have h0 : 0 ≤ (lookD d s).getD 0 := by
        cases hk : lookD d s with
        | none => simp
        | some c =>
          have := h1 _ (look_mem hk)
          simp [countB] at this ⊢
          omega
      simp [countB]; omega
    · rw [if_neg e] at hl
      exact h1 _ (look_mem hl)
  · rcases hr with hr | hr
    · have := len_add h4 m hr
      omega
    · have := len_add_le d s m; omega
  · rcases mem_add hx with e | hx
    · rw [e]; exact hs
    · exact h3 x hx

theorem look_drop (d : List Item) (s t : ByteArray) : lookD (dropL d s) t = if s = t then none else lookD d t := by
  unfold dropL
  induction d with
  | nil => simp [lookD]
  | cons y d ih =>
    obtain ⟨w, c⟩ := y
    by_cases e : w = s
    · subst e
      rw [List.filter_cons_of_neg (by simp), ih, lookD]
      by_cases e2 : w = t
      · rw [if_pos e2, if_pos e2]
      · rw [if_neg e2, if_neg e2, if_neg e2]
    · rw [List.filter_cons_of_pos (by simpa using e), lookD, ih, lookD]
      by_cases e2 : w = t
      · subst e2; rw [if_pos rfl, if_neg (fun h => e h.symm), if_pos rfl]
      · rw [if_neg e2, if_neg e2]
theorem dict_filter {d : List Item} (h : dictB d = true) (p : Item → Bool) : dictB (d.filter p) = true := by
  obtain ⟨h1, h2, h3, h4⟩ := dict_parts h
  exact dict_of (fun x hx => h1 x ((List.mem_filter.1 hx).1)) (by have := List.length_filter_le p d; omega) (fun x hx => h3 x ((List.mem_filter.1 hx).1)) (List.Pairwise.filter p h4)
theorem dict_part {d : List Item} (h : dictB d = true) (k : Nat) : dictB (d.drop k) = true := by
  obtain ⟨h1, h2, h3, h4⟩ := dict_parts h
  exact dict_of (fun x hx => h1 x (List.mem_of_mem_drop hx)) (by rw [List.length_drop]; omega) (fun x hx => h3 x (List.mem_of_mem_drop hx)) (List.Pairwise.sublist (List.drop_sublist k d) h4)
theorem dict_bad {d : List Item} {x : Item} (hx : x ∈ d) (hc : countB x.2 = false) : dictB d = false := by
  unfold dictB
  rw [show d.all (fun x => countB x.2) = false from List.all_eq_false.2 ⟨x, hx, by rw [hc]; simp⟩]
  rfl
/-- dropping leaves as many words but one -/
theorem drop_shorter (d : List Item) (s : ByteArray) : (dropL d s).length < d.length ↔ (lookD d s).isSome = true := by
  unfold dropL
  rw [List.length_filter_lt_length_iff_exists]
  constructor
  · rintro ⟨x, hx, hp⟩
    cases hl : lookD d s with
    | none => exact absurd (look_none_iff.1 hl x hx) (by simpa using hp)
    | some c => rfl
  · intro h
    obtain ⟨c, hc⟩ := Option.isSome_iff_exists.1 h
    exact ⟨(s, c), look_mem hc, by simp⟩
theorem drop_none {d : List Item} {s : ByteArray} (h : lookD d s = none) : dropL d s = d := by
  unfold dropL
  rw [List.filter_eq_self]
  intro x hx
  simpa using look_none_iff.1 h x hx
end Go.Proofs.Ytopjhdgpdcdklaa
