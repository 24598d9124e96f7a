/- Plain facts: an ascending list is fixed by its members; texts as lists of bytes; sorting. -/
import Derived.Test.YtopjhdgpdcdklaaOrd
import Derived.Sort.EncStr
namespace Go.Proofs.Ytopjhdgpdcdklaa
open Go.RowKit
set_option linter.unusedSimpArgs false
set_option linter.unusedVariables false

theorem asc_unique : ∀ l1 l2 : List ByteArray, l1.Pairwise (fun s t => ltS s t = true) → l2.Pairwise (fun s t => ltS s t = true) → (∀ x, x ∈ l1 ↔ x ∈ l2) → l1 = l2
  | [], [], _, _, _ => rfl
  | [], b :: m, _, _, h => absurd ((h b).2 List.mem_cons_self) (by simp)
  | a :: l, [], _, _, h => absurd ((h a).1 List.mem_cons_self) (by simp)
  | a :: l, b :: m, h1, h2, h => by
    rw [List.pairwise_cons] at h1 h2
    have hab : a = b := by
      rcases List.mem_cons.1 ((h a).1 List.mem_cons_self) with e | ha
      · exact e
      · rcases List.mem_cons.1 ((h b).2 List.mem_cons_self) with e | hb
        · exact e.symm
        · have := ltS_trans (h1.1 b hb) (h2.1 a ha)
          rw [ltS_irrefl] at this; cases this
    subst hab
    rw [asc_unique l m h1.2 h2.2 fun x => ?_]
    constructor
    · intro hx
      rcases List.mem_cons.1 ((h x).1 (List.mem_cons_of_mem _ hx)) with e | hm
      · subst e; have := h1.1 x hx; rw [ltS_irrefl] at this; cases this
      · exact hm
    · intro hx
      rcases List.mem_cons.1 ((h x).2 (List.mem_cons_of_mem _ hx)) with e | hm
      · subst e; have := h2.1 x hx; rw [ltS_irrefl] at this; cases this
      · exact hm

/-- the texts as lists of bytes, and back -/
def bytesOf (s : ByteArray) : List UInt8 := s.data.toList
def ofBytes (l : List UInt8) : ByteArray := ⟨l.toArray⟩
theorem ofBytes_bytesOf (s : ByteArray) : ofBytes (bytesOf s) = s := by cases s; simp [ofBytes, bytesOf]
theorem bytesOf_ofBytes (l : List UInt8) : bytesOf (ofBytes l) = l := by simp [ofBytes, bytesOf]

theorem ltS_ofBytes (a b : List UInt8) : ltS (ofBytes a) (ofBytes b) = decide (a < b) := by
  have h1 : ∀ l, (ofBytes l).data.toList = l := fun l => by simp [ofBytes]
  rw [ltS_eq, Bool.eq_iff_iff, decide_eq_true_iff, decide_eq_true_iff, h1, h1]
theorem enc_bytesOf (s : ByteArray) : encStr (bytesOf s) = .string s := by cases s; simp [encStr, bytesOf]
theorem enc_list (ss : List ByteArray) : (ss.map bytesOf).map encStr = ss.map Value.string := by
  rw [List.map_map]; exact List.map_congr_left fun s _ => enc_bytesOf s
theorem enc_ofBytes (L : List (List UInt8)) : L.map encStr = (L.map ofBytes).map Value.string := by
  rw [List.map_map]; exact List.map_congr_left fun s _ => rfl


/-- the texts of a list, sorted -/
def sortS (ss : List ByteArray) : List ByteArray := ((ss.map bytesOf).mergeSort fun x y => decide (x ≤ y)).map ofBytes
theorem sortS_len (ss : List ByteArray) : (sortS ss).length = ss.length := by unfold sortS; rw [List.length_map, List.length_mergeSort, List.length_map]
theorem sortS_mem (ss : List ByteArray) (x : ByteArray) : x ∈ sortS ss ↔ x ∈ ss := by
  unfold sortS
  rw [List.mem_map]
  constructor
  · rintro ⟨a, ha, rfl⟩
    rw [List.mem_mergeSort, List.mem_map] at ha
    obtain ⟨s, hs, rfl⟩ := ha
    rw [ofBytes_bytesOf]; exact hs
  · intro hx
    exact ⟨bytesOf x, by rw [List.mem_mergeSort]; exact List.mem_map_of_mem hx, ofBytes_bytesOf x⟩
theorem sortS_asc {ss : List ByteArray} (h : ss.Nodup) : (sortS ss).Pairwise fun s t => ltS s t = true := by
  unfold sortS
  rw [List.pairwise_map]
  have h1 : ((ss.map bytesOf).mergeSort fun x y => decide (x ≤ y)).Pairwise (· ≤ ·) := by
    have := List.pairwise_mergeSort (le := fun (x y : List UInt8) => decide (x ≤ y)) (fun a b c h1 h2 => by simp at *; exact List.le_trans h1 h2) (fun a b => by simp; exact List.le_total a b) (ss.map bytesOf)
    simpa using this
  have h2 : ((ss.map bytesOf).mergeSort fun x y => decide (x ≤ y)).Nodup := by
    rw [(List.mergeSort_perm _ _).nodup_iff]
    refine List.pairwise_map.2 (h.imp fun {a b} hab he => hab ?_)
    have := congrArg ofBytes he
    rwa [ofBytes_bytesOf, ofBytes_bytesOf] at this
  refine (h1.and h2).imp fun {a b} hab => ?_
  rw [ltS_ofBytes, decide_eq_true_eq]
  by_cases h3 : a < b
  · exact h3
  · exact absurd (List.le_antisymm hab.1 (List.not_lt.1 h3)) hab.2
theorem sortS_is {ss l : List ByteArray} (h : ss.Nodup) (hl : l.Pairwise fun s t => ltS s t = true) (hm : ∀ x, x ∈ ss ↔ x ∈ l) : sortS ss = l :=
  asc_unique _ _ (sortS_asc h) hl fun x => by rw [sortS_mem]; exact hm x
end Go.Proofs.Ytopjhdgpdcdklaa
