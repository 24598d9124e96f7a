/- The drawing of the inputs of chapter 4's laws. -/
import Derived.Test.YtmolphaihapkkaaDrawDist
namespace Go.Proofs.Ytmolphaihapkkaa
open Go.RowKit
set_option maxHeartbeats 800000
set_option linter.unusedSimpArgs false
set_option linter.unusedVariables false

def ErrPost (b p : Nat) (w : World) (e : Ending) (w' : World) : Prop := ∃ k : Int, e = .returned (.int .i64 k) ∧ -1 ≤ k ∧ k ≤ 5 ∧ Drew b p 3 w w'
theorem errors_any (b p : Nat) (n : Int) (w : World) (hr : Rd w b p) (hp : p ≤ 800000) (hn0 : 0 ≤ n) (hn : n ≤ 1000) :
    Calls Try.prog 51 #[.pointer (some ⟨b, 0, none⟩), .int .i64 n] w (ErrPost b p w) := by
  have hbl := hr.lt
  go_enter Try.func51, Try.ntmps51
  go_wp2_with fail
  refine (odd_any b p _ _ hr (by omega) (by omega) (by omega)).mono ?_
  rintro e w1 ⟨v, rfl, -, hd1⟩
  obtain ⟨q1, hq1a, hq1b, g1⟩ := (Got.refl hr).step hd1
  clear hd1
  cases v
  · go_wp2_with fail
    refine (pick_any b q1 _ _ g1.rd (by omega) (by omega)).mono ?_
    rintro e w2 ⟨v2, rfl, h20, h21, -, hd2⟩
    have h21 := h21 (by omega)
    obtain ⟨q2, hq2a, hq2b, g2⟩ := g1.step hd2
    go_wp2_with fail
    go_ret
    exact ⟨v2, rfl, by omega, by omega, g2.done (by omega)⟩
  · have hbl1 := g1.rd.lt
    go_wp2_with fail
    refine (pick_any b q1 _ _ ((g1.alloc _).rd) (by omega) (by omega)).mono ?_
    rintro e w2 ⟨v2, rfl, h20, h21, -, hd2⟩
    have h21 := h21 (by omega)
    have hblk := hd2.block hbl1
    have c0 : w2.cell? ⟨w1.heap.size, 0, none⟩ = some (.int .i64 (-1)) := by rw [cell_of_row _ _ 0 _ _ _ hblk]; rfl
    have c1 : w2.cell? ⟨w1.heap.size, 1, none⟩ = some (.int .i64 5) := by rw [cell_of_row _ _ 1 _ _ _ hblk]; rfl
    obtain ⟨q2, hq2a, hq2b, g2⟩ := (g1.alloc _).step hd2
    clear hd2 hblk
    rcases (show v2 = 0 ∨ v2 = 1 by omega) with rfl | rfl
    · go_wp2_with fail
      go_ret
      exact ⟨-1, rfl, by omega, by omega, g2.done (by omega)⟩
    · go_wp2_with fail
      go_ret
      exact ⟨5, rfl, by omega, by omega, g2.done (by omega)⟩
/-- two texts and a number of errors -/
def ThreePost (w : World) (e : Ending) (w' : World) : Prop :=
  ∃ (s t : ByteArray) (k : Int), e = .returned (.tuple #[.string s, .string t, .int .i64 k]) ∧ s.size ≤ 13 ∧ t.size ≤ 13 ∧ -1 ≤ k ∧ k ≤ 5 ∧ Below w.heap.size w w'
end Go.Proofs.Ytmolphaihapkkaa
