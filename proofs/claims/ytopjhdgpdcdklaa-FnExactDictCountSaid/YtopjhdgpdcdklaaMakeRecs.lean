/- make of slices of records: of n zero ones, and of none with room for n. -/
import Derived.Test.YtopjhdgpdcdklaaRecs
namespace Go.Proofs.Ytopjhdgpdcdklaa
open Go.RowKit
set_option maxHeartbeats 400000
set_option linter.unusedSimpArgs false
set_option linter.unusedVariables false

section
variable {α : Type} {ops : Array Oper} {rest : List Oper} {o : Oper} {a : Act} {w : World} {Q : Exit → Act → World → Prop}
/-- make([]T, 0, n) -/
theorem wp_make_room (R : Rec α) (hg : o.guard = none) (l c : Operand) (hop : o.op = .makeSlice R.S l c) (n : Nat) (C : Int) (hl : a.eval l = .int .i64 0) (hc : a.eval c = .int .i64 C) (hC : C = (n : Int)) (hn : n ≤ 1000000000)
    (hK : ∀ w', OwnR R w' w.heap.size (some ⟨w.heap.size, 0, none⟩) 0 n [] → w.grownBy w' none → w.heap.size < w'.heap.size → wpList Try.prog ops Q rest (a.put o.dst (.slice (some ⟨w.heap.size, 0, none⟩) 0 n)) w') : wpList Try.prog ops Q (o :: rest) a w := by
  obtain ⟨i0, hi0, hz0, hz1, hz2⟩ := info_parts R.info
  have hsm := R.small
  have hb : i0.bytes * n ≤ 281474976710656 := by
    rw [hz2]
    have := Nat.mul_le_mul hsm hn
    omega
  exact wpList_make_own w hg l c R.S hop w.heap.size R.E i0 R.z R.k R.under hi0 hz0 hz1 .i64 .i64 C n hl hc hC hb (by unfold maxLen; omega) (Nat.le_refl _) fun w' h1 h2 => hK w' ⟨by simpa [Rec.row] using h1, by simp⟩ h2 (World.ownsRow.lt h1 w.heap.size rfl).2
/-- make([]T, n) -/
theorem wp_make_recs (R : Rec α) (z0 : α) (hz : R.z.cells.toList = R.enc z0) (hok : R.ok z0) (hg : o.guard = none) (l c : Operand) (hop : o.op = .makeSlice R.S l c) (n : Nat) (L C : Int) (hl : a.eval l = .int .i64 L) (hc : a.eval c = .int .i64 C) (hL : L = (n : Int)) (hC : C = (n : Int)) (hn : n ≤ 1000000000)
    (hK : ∀ w', OwnR R w' w.heap.size (some ⟨w.heap.size, 0, none⟩) n n (List.replicate n z0) → w.grownBy w' none → w.heap.size < w'.heap.size → wpList Try.prog ops Q rest (a.put o.dst (.slice (some ⟨w.heap.size, 0, none⟩) n n)) w') : wpList Try.prog ops Q (o :: rest) a w := by
  obtain ⟨i0, hi0, hz0, hz1, hz2⟩ := info_parts R.info
  have hsm := R.small
  have hb : i0.bytes * n ≤ 281474976710656 := by
    rw [hz2]
    have := Nat.mul_le_mul hsm hn
    omega
  have hmade := R.made z0 hz n
  refine wpList_make_full w hg l c R.S hop w.heap.size R.E i0 R.z R.k R.under hi0 hz0 hz1 .i64 .i64 _ _ n hl hc hL hC hb (by unfold maxLen; omega) (Nat.le_refl _) fun w' h1 h2 => hK w' ⟨?_, fun x hx => ?_⟩ h2 (World.ownsRow.lt h1 w.heap.size rfl).2
  · rw [← hmade]; exact h1
  · obtain ⟨_, rfl⟩ := List.mem_replicate.1 hx
    exact hok
end
end Go.Proofs.Ytopjhdgpdcdklaa
