/- The hits of the laws that came in. -/
import Derived.Test.YtmolphaihapkkaaLawHits
import Derived.Test.YtmolphaihapkkaaOpenRec
namespace Go.Proofs.Ytmolphaihapkkaa
open Go.RowKit
set_option maxRecDepth 8192
set_option linter.unusedVariables false

theorem hits_of_trod {H : Type} {enc : TypeId × Value → H} {W : World} {base : Nat} {spare : Nat → Bool} {held : Bool} {fuel : Nat} {A : Option Addr} {n c : Nat} {x : DataW H × List MemPlace}
    (h : DataW.trod enc Try.prog W base spare held fuel 47 [.slice A n c] = some x) :
    ∃ l, Recs hitL W W.heap.size A n l ∧ n ≤ c ∧ c ≤ maxLen := by
  refine recs_of_trod hitL (by kernel_rfl) (fun fuel cs y hy => ?_) h
  obtain ⟨y0, y1, m, -, hl, t0, t1⟩ := Go.ChangeShapes.trod_struct2 Try.underlying79 hy
  have h2 : Try.prog.cellsOf 79 = 2 := by kernel_rfl
  have g0 : Try.prog.cellsOf 9 = 1 := by kernel_rfl
  have g1 : Try.prog.cellsOf 3 = 1 := by kernel_rfl
  rw [h2] at hl
  match cs, hl with
  | [c0, c1], _ =>
    simp only [g0, g1] at t0 t1
    obtain ⟨s, e0, -, hs⟩ := DataW.trod_string Try.underlying9 t0
    obtain ⟨q, e1, -, hw⟩ := DataW.trod_int Try.underlying3 t1
    have hb : I64 q := by unfold I64; simpa [Lit.wf, IntKind.min, IntKind.max, IntKind.signed, IntKind.bits] using hw
    simp at e0 e1
    subst e0 e1
    exact ⟨(s, q), rfl, hs, hb⟩
end Go.Proofs.Ytmolphaihapkkaa
