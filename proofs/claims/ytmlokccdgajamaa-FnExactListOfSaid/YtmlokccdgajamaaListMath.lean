/- Plain facts: an ascending list is fixed by its members; the insertion one by one, and the sort with compaction, make the same list. -/
import Derived.Test.YtmlokccdgajamaaSpecListOf
import Derived.Lib.SlicesCompact
namespace Go.Proofs.Ytmlokccdgajamaa
open Go.RowKit
set_option linter.unusedSimpArgs false
set_option linter.unusedVariables false

theorem asc_pair {l : List ByteArray} : ascB l = true ↔ l.Pairwise fun s t => ltS s t = true := by
  rw [List.pairwise_iff_getElem]
  constructor
  · intro h i j hi hj hij
    exact asc_lt h (j - i - 1) i _ _ (List.getElem?_eq_getElem hi) (by rw [show i + (j - i - 1) + 1 = j by omega]; exact List.getElem?_eq_getElem hj)
  · intro h
    rw [asc_iff]
    intro j s t hs ht
    obtain ⟨h1, e1⟩ := List.getElem?_eq_some_iff.1 hs
    obtain ⟨h2, e2⟩ := List.getElem?_eq_some_iff.1 ht
    rw [← e1, ← e2]
    exact h j (j + 1) h1 h2 (by omega)

theorem asc_unique : ∀ l1 l2 : List ByteArray, l1.Pairwise (fun s t => ltS s t = true) → l2.Pairwise (fun s t => ltS s t = true) → (∀ x, x ∈ l1 ↔ x ∈ l2) → l1 = l2
  | [], [], _, _, _ => rfl
  | [], b :: m, _, _, h => absurd ((h b).2 List.mem_cons_self) (by simp)
  | a :: l, [], _, _, h => absurd ((h a).1 List.mem_cons_self) (by simp)
  | a :: l, b :: m, h1, h2, h => by
    rw [List.pairwise_cons] at h1 h2
    have hab : a = b := by
      rcases List.mem_cons.1 ((h a).1 List.mem_cons_self) with e | ha
      · exact e
      · rcases List.mem_cons.1 ((h b).2 List.mem_cons_self) with e | hb
        · exact e.symm
        · have := ltS_trans (h1.1 b hb) (h2.1 a ha)
          rw [ltS_irrefl] at this; cases this
    subst hab
    rw [asc_unique l m h1.2 h2.2 fun x => ?_]
    constructor
    · intro hx
      rcases List.mem_cons.1 ((h x).1 (List.mem_cons_of_mem _ hx)) with e | hm
      · subst e; have := h1.1 x hx; rw [ltS_irrefl] at this; cases this
      · exact hm
    · intro hx
      rcases List.mem_cons.1 ((h x).2 (List.mem_cons_of_mem _ hx)) with e | hm
      · subst e; have := h2.1 x hx; rw [ltS_irrefl] at this; cases this
      · exact hm

theorem atFrom_above (x : ByteArray) (l : List ByteArray) : ∀ n, n ≤ l.length → ∀ j y, atFrom x l n ≤ j → j < n → l[j]? = some y → ltS y x = false
  | 0, _, j, y, _, h, _ => absurd h (by omega)
  | n + 1, hn, j, y, h1, h2, hy => by
    have hz : l[n]? = some (l[n]'(by omega)) := List.getElem?_eq_getElem (by omega)
    cases hlt : ltS (l[n]'(by omega)) x with
    | true => rw [atFrom_stop hz hlt] at h1; omega
    | false =>
      rw [atFrom_on hz hlt] at h1
      by_cases hj : j = n
      · subst hj; rw [hz] at hy; injection hy with hy; rw [← hy]; exact hlt
      · exact atFrom_above x l n (by omega) j y h1 (by omega) hy
theorem atFrom_below (x : ByteArray) (l : List ByteArray) : ∀ n, n ≤ l.length → 0 < atFrom x l n → ∃ y, l[atFrom x l n - 1]? = some y ∧ ltS y x = true
  | 0, _, h => absurd h (by simp [atFrom])
  | n + 1, hn, h => by
    have hz : l[n]? = some (l[n]'(by omega)) := List.getElem?_eq_getElem (by omega)
    cases hlt : ltS (l[n]'(by omega)) x with
    | true => rw [atFrom_stop hz hlt]; exact ⟨_, hz, hlt⟩
    | false =>
      rw [atFrom_on hz hlt] at h ⊢
      exact atFrom_below x l n (by omega) h
theorem insOf_asc {x : ByteArray} {l : List ByteArray} (h : l.Pairwise fun s t => ltS s t = true) : (insOf x l).Pairwise fun s t => ltS s t = true := by
  unfold insOf
  split
  · exact h
  · rename_i hne
    have ha := asc_pair.2 h
    have hle := atFrom_le x l l.length
    generalize hk : atFrom x l l.length = k at hne hle ⊢
    have lo : ∀ s ∈ l.take k, ltS s x = true := by
      intro s hs
      obtain ⟨j, hj, e⟩ := List.getElem_of_mem hs
      have hjk : j < k := by simp at hj; omega
      obtain ⟨y, hy, hlt⟩ := atFrom_below x l l.length (Nat.le_refl _) (by omega)
      rw [hk] at hy
      have hs' : l[j]? = some s := by
        rw [List.getElem_take] at e
        rw [← e]; exact List.getElem?_eq_getElem _
      by_cases hjl : j = k - 1
      · subst hjl; rw [hs'] at hy; injection hy with hy; rw [hy]; exact hlt
      · exact ltS_trans (asc_lt ha (k - 1 - j - 1) j s y hs' (by rw [show j + (k - 1 - j - 1) + 1 = k - 1 by omega]; exact hy)) hlt
    have hi : ∀ s ∈ l.drop k, ltS x s = true := by
      intro s hs
      obtain ⟨j, hj, e⟩ := List.getElem_of_mem hs
      have hjl : k + j < l.length := by simp at hj; omega
      have hs' : l[k + j]? = some s := by
        rw [List.getElem_drop] at e
        rw [← e]; exact List.getElem?_eq_getElem _
      have h0 := atFrom_above x l l.length (Nat.le_refl _) (k + j) s (by omega) hjl hs'
      refine ltS_tri h0 fun e => ?_
      subst e
      by_cases hj0 : j = 0
      · subst hj0; exact hne hs'
      · have hz : l[k]? = some (l[k]'(by omega)) := List.getElem?_eq_getElem (by omega)
        have h1 := atFrom_above s l l.length (Nat.le_refl _) k _ (by omega) (by omega) hz
        have := asc_lt ha (j - 1) k _ s hz (by rw [show k + (j - 1) + 1 = k + j by omega]; exact hs')
        rw [h1] at this; cases this
    rw [List.pairwise_append, List.pairwise_append]
    refine ⟨⟨h.sublist (List.take_sublist _ _), List.pairwise_singleton _ _, fun s hs t ht => ?_⟩, h.sublist (List.drop_sublist _ _), fun s hs t ht => ?_⟩
    · rw [List.mem_singleton.1 ht]; exact lo s hs
    · rcases List.mem_append.1 hs with hs | hs
      · exact ltS_trans (lo s hs) (hi t ht)
      · rw [List.mem_singleton.1 hs]; exact hi t ht
theorem insOf_mem (x y : ByteArray) (l : List ByteArray) : y ∈ insOf x l ↔ y = x ∨ y ∈ l := by
  unfold insOf
  split
  · rename_i h
    constructor
    · exact .inr
    · rintro (rfl | h2)
      · exact List.mem_of_getElem? h
      · exact h2
  · have e : y ∈ l ↔ y ∈ l.take (atFrom x l l.length) ∨ y ∈ l.drop (atFrom x l l.length) := by
      rw [← List.mem_append, List.take_append_drop]
    rw [List.mem_append, List.mem_append, List.mem_singleton, e]
    constructor
    · rintro ((h | h) | h)
      · exact .inr (.inl h)
      · exact .inl h
      · exact .inr (.inr h)
    · rintro (h | h | h)
      · exact .inl (.inr h)
      · exact .inl (.inl h)
      · exact .inr h
theorem fold_asc : ∀ (ss l : List ByteArray), l.Pairwise (fun s t => ltS s t = true) → (ss.foldl (fun l x => insOf x l) l).Pairwise fun s t => ltS s t = true
  | [], l, h => h
  | x :: ss, l, h => fold_asc ss _ (insOf_asc h)
theorem fold_mem : ∀ (ss l : List ByteArray) (y : ByteArray), y ∈ ss.foldl (fun l x => insOf x l) l ↔ y ∈ ss ∨ y ∈ l
  | [], l, y => by simp
  | x :: ss, l, y => by
    rw [List.foldl_cons, fold_mem ss, insOf_mem, List.mem_cons]
    constructor
    · rintro (h | h | h)
      · exact .inl (.inr h)
      · exact .inl (.inl h)
      · exact .inr h
    · rintro ((h | h) | h)
      · exact .inr (.inl h)
      · exact .inl h
      · exact .inr (.inr h)
theorem foldIns_asc (ss : List ByteArray) : (foldIns ss).Pairwise fun s t => ltS s t = true := fold_asc ss [] List.Pairwise.nil
theorem foldIns_mem (ss : List ByteArray) (y : ByteArray) : y ∈ foldIns ss ↔ y ∈ ss := by unfold foldIns; rw [fold_mem]; simp

/-- the texts as lists of bytes, and back -/
def bytesOf (s : ByteArray) : List UInt8 := s.data.toList
def ofBytes (l : List UInt8) : ByteArray := ⟨l.toArray⟩
theorem ofBytes_bytesOf (s : ByteArray) : ofBytes (bytesOf s) = s := by cases s; simp [ofBytes, bytesOf]
theorem bytesOf_ofBytes (l : List UInt8) : bytesOf (ofBytes l) = l := by simp [ofBytes, bytesOf]

theorem compact_facts {L : List (List UInt8)} (h : L.Pairwise (· ≤ ·)) : (Lib.compact L).Pairwise (· < ·) ∧ ∀ x, x ∈ Lib.compact L ↔ x ∈ L := by
  have hget : ∀ j (hj : j < L.length), L.toArray[j]! = L[j] := fun j hj => by simp [getElem!_pos, hj]
  unfold Lib.compact Lib.compactUpTo
  constructor
  · rw [List.pairwise_map]
    have hr : (List.range L.length).Pairwise (· < ·) := List.pairwise_lt_range
    rw [List.pairwise_filter]
    refine hr.imp_of_mem ?_
    intro i j hi hj hij ki kj
    have hil : i < L.length := List.mem_range.1 hi
    have hjl : j < L.length := List.mem_range.1 hj
    simp only [Lib.keeps, decide_eq_true_eq] at kj
    rcases kj with kj | kj
    · omega
    · rw [hget j hjl, hget (j - 1) (by omega)] at kj
      rw [hget i hil, hget j hjl]
      rw [List.pairwise_iff_getElem] at h
      have h1 : L[i] ≤ L[j - 1]'(by omega) := by
        by_cases e : i = j - 1
        · subst e; exact List.le_refl _
        · exact h i (j - 1) hil (by omega) (by omega)
      have h2 : L[j - 1]'(by omega) ≤ L[j] := h (j - 1) j (by omega) hjl (by omega)
      have h3 : L[j - 1]'(by omega) < L[j] := by
        rcases Std.lt_trichotomy (L[j - 1]'(by omega)) L[j] with g | g | g
        · exact g
        · exact absurd g.symm kj
        · exact absurd g h2
      exact List.lt_of_le_of_lt h1 h3
  · intro x
    rw [List.mem_map]
    constructor
    · rintro ⟨j, hj, rfl⟩
      have hjl : j < L.length := List.mem_range.1 (List.mem_filter.1 hj).1
      rw [hget j hjl]
      exact List.getElem_mem hjl
    · intro hx
      have hfi : L.idxOf x < L.length := List.idxOf_lt_length_of_mem hx
      refine ⟨L.idxOf x, List.mem_filter.2 ⟨List.mem_range.2 hfi, ?_⟩, by rw [hget _ hfi]; exact List.getElem_idxOf hfi⟩
      simp only [Lib.keeps, decide_eq_true_eq]
      by_cases h0 : L.idxOf x = 0
      · exact .inl h0
      · right
        rw [hget _ hfi, hget (L.idxOf x - 1) (by omega), List.getElem_idxOf hfi]
        intro e
        have := List.not_of_lt_findIdx (p := (· == x)) (xs := L) (i := L.idxOf x - 1) (by show _ < L.idxOf x; omega)
        rw [← e] at this
        simp at this
end Go.Proofs.Ytmlokccdgajamaa
