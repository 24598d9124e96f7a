/- Contracts of ListFind, of the program and of the model. -/
import Derived.Test.YtmolphaihapkkaaOrd
import Derived.Test.YtmolphaihapkkaaShelf
namespace Go.Proofs.Ytmolphaihapkkaa
open Go.RowKit
set_option maxHeartbeats 400000
set_option linter.unusedSimpArgs false
set_option linter.unusedVariables false

theorem listValid_impl_is {A : Option Addr} {n B : Nat} {ss : List ByteArray} {v : Bool} (hv : listB ss = v) (c : Nat) (w : World) (hn : n ≤ maxLen) (h : Strs w B A n ss) :
    Calls Try.prog 52 #[.slice A n c] w fun e w' => e = .returned (.bool v) ∧ Drawn w w' := hv ▸ listValid_impl A n c B ss w hn h
theorem listValid_spec_is {A : Option Addr} {n B : Nat} {ss : List ByteArray} {v : Bool} (hv : listB ss = v) (c : Nat) (w : World) (hn : n ≤ maxLen) (h : Strs w B A n ss) :
    Calls Try.prog 21 #[.slice A n c] w fun e w' => e = .returned (.bool v) ∧ Drawn w w' := hv ▸ listValid_spec A n c B ss w hn h
theorem listB_len {ss : List ByteArray} (h : listB ss = true) : ss.length ≤ 60 := by
  unfold listB filledB at h; simp at h; exact h.1.1

end Go.Proofs.Ytmolphaihapkkaa
