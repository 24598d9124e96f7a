/- A table of rows of ints that a call owns: a slice of rows, each whole; the numbers of the distance with exchanges. -/
import Derived.Test.YtacnaipcjihkkaaInts2
import Derived.Test.YtacnaipcjihkkaaDistSpec
namespace Go.Proofs.Ytacnaipcjihkkaa
open Go.RowKit
set_option maxHeartbeats 400000
set_option linter.unusedSimpArgs false
set_option linter.unusedVariables false

/-- the number at a place of the table of two texts, with exchanges -/
noncomputable def sdist (a b : ByteArray) (i j : Nat) : Nat := cell true a.data.toList b.data.toList i j
theorem sdist_top (a b : ByteArray) {j : Nat} (hj : j ≤ b.size) : sdist a b 0 j = j := cell_top _ _ _ _ (by simpa using hj)
theorem sdist_left (a b : ByteArray) {i : Nat} (hi : i ≤ a.size) : sdist a b i 0 = i := cell_left _ _ _ _ (by simpa using hi)
theorem sdist_le (a b : ByteArray) (i j : Nat) : sdist a b i j ≤ max i j := cell_le _ _ _ _ _
theorem sdist_last (a b : ByteArray) : sdist a b a.size b.size = ed true a.data.toList b.data.toList := by
  have h := cell_last true a.data.toList b.data.toList
  simpa [sdist] using h
theorem sdist_step (a b : ByteArray) (i j : Nat) (hi : i < a.size) (hj : j < b.size) (hno : ¬ ∃ (h1 : 0 < i) (h2 : 0 < j), a[i] = b[j - 1] ∧ a[i - 1] = b[j]) :
    sdist a b (i + 1) (j + 1) = min (sdist a b i j + if a[i] = b[j] then 0 else 1) (min (sdist a b i (j + 1)) (sdist a b (i + 1) j) + 1) :=
  scell_step _ _ i j (by simpa using hi) (by simpa using hj) hno
theorem sdist_swap (a b : ByteArray) (i j : Nat) (hi : i + 1 < a.size) (hj : j + 1 < b.size) (h1 : a[i + 1] = b[j]) (h2 : a[i] = b[j + 1]) :
    sdist a b (i + 2) (j + 2) = min (min (sdist a b (i + 1) (j + 1) + if a[i + 1] = b[j + 1] then 0 else 1) (min (sdist a b (i + 1) (j + 2)) (sdist a b (i + 2) (j + 1)) + 1)) (sdist a b i j + 1) :=
  scell_swap _ _ i j (by simpa using hi) (by simpa using hj) h1 h2

/-- block gd holds i rows of n numbers each, row k those of f k; none of them lies in block ex -/
def Table (w : World) (base gd cap n i ex : Nat) (f : Nat → Nat → Nat) : Prop :=
  gd ≠ ex ∧ ∃ vs, OwnV w base gd i cap vs ∧ ∀ k, k < i → ∃ g c, vs[k]? = some (.slice (some ⟨g, 0, none⟩) n c) ∧ g ≠ ex ∧ g ≠ gd ∧ OwnI w base g n c (upto (f k) n)
/-- a row of the table, and where it is found -/
theorem Table.row {w : World} {base gd cap n i ex k : Nat} {f : Nat → Nat → Nat} (h : Table w base gd cap n i ex f) (hk : k < i) :
    ∃ g c, w.cell? ⟨gd, k, none⟩ = some (.slice (some ⟨g, 0, none⟩) n c) ∧ g ≠ ex ∧ g ≠ gd ∧ OwnI w base g n c (upto (f k) n) := by
  obtain ⟨_, vs, ho, hr⟩ := h
  obtain ⟨g, c, hv, h1, h2, h3⟩ := hr k hk
  exact ⟨g, c, ho.at_ hv, h1, h2, h3⟩
theorem Table.below {w w' : World} {base gd cap n i ex : Nat} {f : Nat → Nat → Nat} (h : Table w base gd cap n i ex f) (hb : Below w.heap.size w w') : Table w' base gd cap n i ex f := by
  obtain ⟨h0, vs, ho, hr⟩ := h
  refine ⟨h0, vs, ho.below hb, fun k hk => ?_⟩
  obtain ⟨g, c, hv, h1, h2, h3⟩ := hr k hk
  exact ⟨g, c, hv, h1, h2, h3.below hb⟩
theorem Table.drawn {w w' : World} {base gd cap n i ex : Nat} {f : Nat → Nat → Nat} (h : Table w base gd cap n i ex f) (hd : Drawn w w') : Table w' base gd cap n i ex f := h.below hd.below
/-- a new block is none of the table's -/
theorem Table.new {w : World} {base gd cap n i ex ex' : Nat} {f : Nat → Nat → Nat} (h : Table w base gd cap n i ex f) (he : w.heap.size ≤ ex') : Table w base gd cap n i ex' f := by
  obtain ⟨h0, vs, ho, hr⟩ := h
  refine ⟨by have := ho.lt; omega, vs, ho, fun k hk => ?_⟩
  obtain ⟨g, c, hv, h1, h2, h3⟩ := hr k hk
  exact ⟨g, c, hv, by have := h3.lt; omega, h2, h3⟩
/-- the row outside the table grows -/
theorem Table.grown {w w' : World} {base gd cap n i ex : Nat} {f : Nat → Nat → Nat} (h : Table w base gd cap n i ex f) (hg : w.grownBy w' (some ex)) : Table w' base gd cap n i ex f := by
  obtain ⟨h0, vs, ho, hr⟩ := h
  refine ⟨h0, vs, ho.grown hg h0, fun k hk => ?_⟩
  obtain ⟨g, c, hv, h1, h2, h3⟩ := hr k hk
  exact ⟨g, c, hv, h1, h2, h3.grown hg h1⟩
/-- the row outside the table becomes its last one -/
theorem table_push {W w' : World} {base gd gd' cap' n i g2 c2 : Nat} {f : Nat → Nat → Nat} {vs : List Value} (hr : ∀ k, k < i → ∃ g c, vs[k]? = some (.slice (some ⟨g, 0, none⟩) n c) ∧ g ≠ g2 ∧ g ≠ gd ∧ OwnI W base g n c (upto (f k) n))
    (h0 : gd ≠ g2) (hl : vs.length = i) (hrow : OwnI W base g2 n c2 (upto (f i) n)) (ho : OwnV w' base gd' (i + 1) cap' (vs ++ [.slice (some ⟨g2, 0, none⟩) n c2])) (hg : W.grownBy w' (some gd)) (hat : gd' = gd ∨ gd' = W.heap.size) :
    Table w' base gd' cap' n (i + 1) w'.heap.size f := by
  have hz := hg.size
  have hgd := ho.lt
  refine ⟨by omega, _, ho, fun k hk => ?_⟩
  by_cases hki : k < i
  · obtain ⟨g, c, hv, h1, h2, h3⟩ := hr k hki
    have hlt := h3.lt
    exact ⟨g, c, by rw [List.getElem?_append_left (by omega)]; exact hv, by omega, by omega, h3.grown hg h2⟩
  · obtain rfl : k = i := by omega
    have hlt := hrow.lt
    exact ⟨g2, c2, by rw [List.getElem?_append_right (by omega), hl, Nat.sub_self]; rfl, by omega, by omega, hrow.grown hg (Ne.symm h0)⟩
theorem Table.empty (w : World) (n : Nat) (f : Nat → Nat → Nat) : Table (w.alloc (.cells #[] 40)) w.heap.size w.heap.size 0 n 0 (w.heap.size + 1) f :=
  ⟨by omega, [], OwnV.empty w, fun k hk => absurd hk (by omega)⟩
end Go.Proofs.Ytacnaipcjihkkaa
