/- Rows of texts of the call's own, at the head of their block, or none. -/
import Derived.Test.YtmolphaihapkkaaOwn
namespace Go.Proofs.Ytmolphaihapkkaa
open Go.RowKit
set_option maxHeartbeats 800000
set_option linter.unusedSimpArgs false
set_option linter.unusedVariables false

/-- a row of texts of the call's own, at the head of its block, or none -/
def OwnTx (w : World) (base : Nat) (A : Option Addr) (n cap : Nat) (ss : List ByteArray) : Prop :=
  w.ownsRow base 9 1 (.slice A n cap) n (ss.map Value.string) ∧ ∀ s ∈ ss, s.size ≤ maxLen
section
variable {w w' : World} {base base' n cap : Nat} {A : Option Addr} {ss : List ByteArray}
theorem OwnTx.of {g : Nat} (h : OwnS w base g n cap ss) : OwnTx w base (some ⟨g, 0, none⟩) n cap ss := h
theorem OwnTx.len (h : OwnTx w base A n cap ss) : ss.length = n := by have := h.1.1; simpa using this
theorem OwnTx.mono (h : OwnTx w base' A n cap ss) (hb : base ≤ base') : OwnTx w base A n cap ss := ⟨own_mono h.1 hb, h.2⟩
theorem OwnTx.below (h : OwnTx w base A n cap ss) (hb : Below w.heap.size w w') : OwnTx w' base A n cap ss :=
  ⟨World.ownsRow.kept h.1 (row := none) ⟨hb.os, hb.tape, hb.output, hb.size, fun i hi _ => hb.block i hi⟩ (by
    cases hv : (Value.slice A n cap).ownBlock with
    | none => exact .inl rfl
    | some g => exact .inr (by simp)), h.2⟩
theorem OwnTx.grown {b : Nat} (h : OwnTx w base A n cap ss) (hg : w.grownBy w' (some b)) (hne : (Value.slice A n cap).ownBlock ≠ some b) : OwnTx w' base A n cap ss :=
  ⟨World.ownsRow.kept h.1 hg (by
    cases hv : (Value.slice A n cap).ownBlock with
    | none => exact .inl rfl
    | some g => exact .inr (by intro e; exact hne (by rw [hv, e]))), h.2⟩
theorem OwnTx.blockAt {g : Nat} (h : OwnTx w base A n cap ss) (hg : (Value.slice A n cap).ownBlock = some g) : base ≤ g ∧ g < w.heap.size := World.ownsRow.lt h.1 g hg
theorem OwnTx.recs (h : OwnTx w base A n cap ss) : Strs w w.heap.size A n ss := Strs.of_own h.1 h.2
theorem OwnTx.shape (h : OwnTx w base A n cap ss) : (A = none ∧ n = 0 ∧ cap = 0) ∨ ∃ g, A = some ⟨g, 0, none⟩ ∧ base ≤ g ∧ g < w.heap.size ∧ n ≤ cap ∧ cap ≤ maxLen := by
  rcases h.1.2 with ⟨hv, h0⟩ | ⟨g, cap', cur, hv, hb, hh, hn, hc, _⟩
  · injection hv with e1 e2 e3; exact .inl ⟨e1, e2, e3⟩
  · injection hv with e1 e2 e3
    subst e3
    exact .inr ⟨g, e1, hb, (Array.getElem?_eq_some_iff.1 hh).1, hn, hc⟩
theorem OwnTx.caps (h : OwnTx w base A n cap ss) : n ≤ cap ∧ cap ≤ maxLen := by
  rcases h.shape with ⟨_, h1, h2⟩ | ⟨g, _, _, _, h1, h2⟩
  · subst h1; subst h2; exact ⟨Nat.le_refl _, Nat.zero_le _⟩
  · exact ⟨h1, h2⟩
theorem Strs.len' {B : Nat} (h : Strs w B A n ss) : ss.length = n := h.1
end
end Go.Proofs.Ytmolphaihapkkaa
