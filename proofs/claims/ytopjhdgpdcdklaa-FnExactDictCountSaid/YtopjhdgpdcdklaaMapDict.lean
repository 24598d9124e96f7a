/- A dictionary and the map that holds its counts; the keys that a range over a map has collected. -/
import Derived.Test.YtopjhdgpdcdklaaMapSI
import Derived.Test.YtopjhdgpdcdklaaItems
namespace Go.Proofs.Ytopjhdgpdcdklaa
open Go.RowKit
set_option maxHeartbeats 800000
set_option linter.unusedSimpArgs false
set_option linter.unusedVariables false

/-- what a map holds after the items of d have been laid in, one after the other -/
def mapD (d : List Item) : List UInt8 → Option Int := d.foldl (fun f x t => if t = x.1.data.toList then some x.2 else f t) fun _ => none
theorem mapD_snoc (d : List Item) (x : Item) : mapD (d ++ [x]) = fun t => if t = x.1.data.toList then some x.2 else mapD d t := by
  unfold mapD; rw [List.foldl_append]; rfl

/-- the items of the words of a list, with the counts that f tells -/
def itemsW (ss : List ByteArray) (f : List UInt8 → Option Int) : List Item := ss.map fun s => (s, (f s.data.toList).getD 0)
theorem itemsW_next {ss : List ByteArray} {k : Nat} {s : ByteArray} (h : ss[k]? = some s) (f : List UInt8 → Option Int) : itemsW (ss.take (k + 1)) f = itemsW (ss.take k) f ++ [(s, (f s.data.toList).getD 0)] := by
  unfold itemsW
  rw [List.take_succ_eq_append_getElem (List.getElem?_eq_some_iff.1 h).1, (List.getElem?_eq_some_iff.1 h).2, List.map_append]
  rfl

/-- the keys of f that p takes and that are no longer left -/
def Coll (f : List UInt8 → Option Int) (p : List UInt8 → Bool) (left : List UInt8 → Bool) (ts : List ByteArray) : Prop :=
  ts.Nodup ∧ ∀ s : ByteArray, s ∈ ts ↔ ((f s.data.toList).isSome = true ∧ p s.data.toList = true ∧ left s.data.toList = false)
theorem Coll.start (f : List UInt8 → Option Int) (p : List UInt8 → Bool) : Coll f p (fun s => (f s).isSome) [] :=
  ⟨List.nodup_nil, fun s => by simp; intro h; cases hf : f s.data.toList <;> simp_all⟩
theorem Coll.take {f : List UInt8 → Option Int} {p left : List UInt8 → Bool} {ts : List ByteArray} (h : Coll f p left ts) {s : ByteArray} {v : Int} (hf : f s.data.toList = some v) (hl : left s.data.toList = true) (hp : p s.data.toList = true) :
    Coll f p (fun t => left t && !decide (t = s.data.toList)) (ts ++ [s]) := by
  refine ⟨?_, fun t => ?_⟩
  · rw [List.nodup_append]
    refine ⟨h.1, by simp, fun a ha b hb => ?_⟩
    rw [List.mem_singleton] at hb
    subst hb
    rintro rfl
    have := ((h.2 a).1 ha).2.2
    rw [hl] at this; cases this
  · rw [List.mem_append, List.mem_singleton, h.2 t]
    by_cases e : t = s
    · subst e; simp [hf, hp]
    · have e2 : t.data.toList ≠ s.data.toList := fun x => e (bytes_ext x)
      simp [e, e2]
theorem Coll.pass {f : List UInt8 → Option Int} {p left : List UInt8 → Bool} {ts : List ByteArray} (h : Coll f p left ts) {s : ByteArray} (hp : p s.data.toList = false) :
    Coll f p (fun t => left t && !decide (t = s.data.toList)) ts := by
  refine ⟨h.1, fun t => ?_⟩
  rw [h.2 t]
  by_cases e : t = s
  · subst e; simp [hp]
  · have e2 : t.data.toList ≠ s.data.toList := fun x => e (bytes_ext x)
    simp [e2]
theorem Coll.all {f : List UInt8 → Option Int} {p left : List UInt8 → Bool} {ts : List ByteArray} (h : Coll f p left ts) (hl : ∀ s, left s = false) : ts.Nodup ∧ ∀ s : ByteArray, s ∈ ts ↔ ((f s.data.toList).isSome = true ∧ p s.data.toList = true) :=
  ⟨h.1, fun s => by rw [h.2 s, hl]; simp⟩

theorem mapD_none {d : List Item} {s : ByteArray} (h : ∀ x ∈ d, x.1 ≠ s) (f : List UInt8 → Option Int) : d.foldl (fun f x t => if t = x.1.data.toList then some x.2 else f t) f s.data.toList = f s.data.toList := by
  induction d generalizing f with
  | nil => rfl
  | cons x d ih =>
    rw [List.foldl_cons, ih (fun y hy => h y (List.mem_cons_of_mem _ hy))]
    have : s.data.toList ≠ x.1.data.toList := fun e => h x List.mem_cons_self (bytes_ext e.symm)
    rw [if_neg this]
theorem mapD_fold {d : List Item} (h : ascD d) (s : ByteArray) (f : List UInt8 → Option Int) (hf : f s.data.toList = none) : d.foldl (fun f x t => if t = x.1.data.toList then some x.2 else f t) f s.data.toList = lookD d s := by
  induction d generalizing f with
  | nil => exact hf
  | cons x d ih =>
    obtain ⟨u, c⟩ := x
    have h2 := List.pairwise_cons.1 h
    rw [List.foldl_cons, lookD]
    by_cases e : u = s
    · subst e
      rw [if_pos rfl, mapD_none (fun y hy => (ltS_ne (h2.1 y hy)).symm), if_pos rfl]
    · rw [if_neg e]
      refine ih h2.2 _ ?_
      have : s.data.toList ≠ u.data.toList := fun x => e (bytes_ext x.symm)
      dsimp only
      rw [if_neg this]; exact hf
/-- the map of a dictionary tells its counts -/
theorem mapD_look {d : List Item} (h : ascD d) (s : ByteArray) : mapD d s.data.toList = lookD d s := mapD_fold h s _ rfl
/-- the items of a dictionary's words, with counts that are its own, are the dictionary -/
theorem itemsW_of {d : List Item} {f : List UInt8 → Option Int} (hf : ∀ x ∈ d, f x.1.data.toList = some x.2) : itemsW (wordsD d) f = d := by
  unfold itemsW wordsD
  rw [List.map_map]
  conv => rhs; rw [← List.map_id d]
  refine List.map_congr_left fun x hx => ?_
  show (x.1, (f x.1.data.toList).getD 0) = x
  rw [hf x hx]
  rfl
end Go.Proofs.Ytopjhdgpdcdklaa
