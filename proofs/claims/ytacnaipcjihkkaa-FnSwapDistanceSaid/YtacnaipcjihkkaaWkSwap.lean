/- The walks of the laws of exchanges over the landed code. -/
import Derived.Test.YtacnaipcjihkkaaWk2
import Derived.Test.YtacnaipcjihkkaaLwSwap
import Derived.Test.YtacnaipcjihkkaaImplSwap
import Derived.Test.YtacnaipcjihkkaaSwapSpec
namespace Go.Proofs.Ytacnaipcjihkkaa
open Go.RowKit
set_option maxHeartbeats 1600000
set_option linter.unusedSimpArgs false
set_option linter.unusedVariables false

theorem walkFnSwapDistance' (A : Option Addr) (n c : Nat) (w : World) (h : Bytes w w.heap.size A n) (hnc : n ≤ c) (hc : c ≤ maxLen) :
    Calls Try.prog 4 #[.slice A n c] w fun e w' => e = .returned (.bool true) ∧ Below w.heap.size w w' := walkFnSwapDistance swapDistance_impl swapDistance_spec editDistance_impl A n c w h hnc hc
theorem walkFnExactSwapDistance (a b : ByteArray) (w : World) (ha : a.size ≤ maxLen) (hb : b.size ≤ maxLen) :
    Calls Try.prog 9 #[.string a, .string b] w fun e w' => e = .returned (.bool true) ∧ Below w.heap.size w w' := by
  have ha' := ha
  have hb' := hb
  unfold maxLen at ha hb
  by_cases h1 : (1048576 : Int) < a.size
  · go_enter Try.func9, Try.ntmps9
    go_wp2
    go_ret
    exact ⟨rfl, Below.refl _ _⟩
  · by_cases h2 : (1048576 : Int) < b.size
    · go_enter Try.func9, Try.ntmps9
      go_wp2
      go_ret
      exact ⟨rfl, Below.refl _ _⟩
    · go_enter Try.func9, Try.ntmps9
      go_wp2_with fail
      refine (swapDistance_spec _ _ _ ha' hb').mono ?_
      rintro e w1 ⟨rfl, hd1⟩
      go_wp2_with fail
      refine (swapDistance_impl _ _ _ ha' hb').mono ?_
      rintro e w2 ⟨rfl, hd2⟩
      go_wp2_with fail
      go_ret
      exact ⟨rfl, below_step hd1 (Nat.le_refl _) hd2⟩
end Go.Proofs.Ytacnaipcjihkkaa
