/- The walks of stage 2's laws over the landed code: the contracts handed in; the exact laws. -/
import Derived.Test.YtacnaipcjihkkaaLwEdit
import Derived.Test.YtacnaipcjihkkaaLwCommon
import Derived.Test.YtacnaipcjihkkaaLwDiff
import Derived.Test.YtacnaipcjihkkaaLwEnds
import Derived.Test.YtacnaipcjihkkaaImplEdit
import Derived.Test.YtacnaipcjihkkaaImplCommon
import Derived.Test.YtacnaipcjihkkaaImplDiff
import Derived.Test.YtacnaipcjihkkaaDistFns
import Derived.Test.YtacnaipcjihkkaaLcSpec
namespace Go.Proofs.Ytacnaipcjihkkaa
open Go.RowKit
set_option maxHeartbeats 1600000
set_option linter.unusedSimpArgs false
set_option linter.unusedVariables false

theorem walkFnEditDistance' (A : Option Addr) (n c : Nat) (w : World) (h : Bytes w w.heap.size A n) (hnc : n ≤ c) (hc : c ≤ maxLen) :
    Calls Try.prog 3 #[.slice A n c] w fun e w' => e = .returned (.bool true) ∧ Below w.heap.size w w' := walkFnEditDistance editDistance_impl A n c w h hnc hc
theorem walkFnLongestCommon' (A : Option Addr) (n c : Nat) (w : World) (h : Bytes w w.heap.size A n) (hnc : n ≤ c) (hc : c ≤ maxLen) :
    Calls Try.prog 5 #[.slice A n c] w fun e w' => e = .returned (.bool true) ∧ Below w.heap.size w w' := walkFnLongestCommon longestCommon_impl editDistance_impl A n c w h hnc hc
theorem diffC : DiffC := fun a b w ha hb => (differentPlaces_impl a b w ha hb).mono fun _ _ ⟨he, hd⟩ => ⟨he, hd.below⟩
theorem walkFnDifferentPlaces' (A : Option Addr) (n c : Nat) (w : World) (h : Bytes w w.heap.size A n) (hnc : n ≤ c) (hc : c ≤ maxLen) :
    Calls Try.prog 6 #[.slice A n c] w fun e w' => e = .returned (.bool true) ∧ Below w.heap.size w w' := walkFnDifferentPlaces diffC editDistance_impl A n c w h hnc hc
theorem walkFnEditEnds' (A : Option Addr) (n c : Nat) (A2 : Option Addr) (n2 c2 : Nat) (w : World) (h : Bytes w w.heap.size A n) (hnc : n ≤ c) (hc : c ≤ maxLen) (h2 : Bytes w w.heap.size A2 n2) (hn2c : n2 ≤ c2) (hc2 : c2 ≤ maxLen) :
    Calls Try.prog 7 #[.slice A n c, .slice A2 n2 c2] w fun e w' => e = .returned (.bool true) ∧ Below w.heap.size w w' := walkFnEditEnds editDistance_impl A n c A2 n2 c2 w h hnc hc hn2c hc2

theorem walkFnExactEditDistance (a b : ByteArray) (w : World) (ha : a.size ≤ maxLen) (hb : b.size ≤ maxLen) :
    Calls Try.prog 8 #[.string a, .string b] w fun e w' => e = .returned (.bool true) ∧ Below w.heap.size w w' := by
  have ha' := ha
  have hb' := hb
  unfold maxLen at ha hb
  by_cases h1 : (1048576 : Int) < a.size
  · go_enter Try.func8, Try.ntmps8
    go_wp2
    go_ret
    exact ⟨rfl, Below.refl _ _⟩
  · by_cases h2 : (1048576 : Int) < b.size
    · go_enter Try.func8, Try.ntmps8
      go_wp2
      go_ret
      exact ⟨rfl, Below.refl _ _⟩
    · go_enter Try.func8, Try.ntmps8
      go_wp2_with fail
      refine (editDistance_spec _ _ _ ha' hb').mono ?_
      rintro e w1 ⟨rfl, hd1⟩
      go_wp2_with fail
      refine (editDistance_impl _ _ _ ha' hb').mono ?_
      rintro e w2 ⟨rfl, hd2⟩
      go_wp2_with fail
      go_ret
      exact ⟨rfl, below_step hd1 (Nat.le_refl _) hd2⟩

theorem walkFnExactLongestCommon (a b : ByteArray) (w : World) (ha : a.size ≤ maxLen) (hb : b.size ≤ maxLen) :
    Calls Try.prog 10 #[.string a, .string b] w fun e w' => e = .returned (.bool true) ∧ Below w.heap.size w w' := by
  have ha' := ha
  have hb' := hb
  unfold maxLen at ha hb
  by_cases h1 : (1048576 : Int) < a.size
  · go_enter Try.func10, Try.ntmps10
    go_wp2
    go_ret
    exact ⟨rfl, Below.refl _ _⟩
  · by_cases h2 : (1048576 : Int) < b.size
    · go_enter Try.func10, Try.ntmps10
      go_wp2
      go_ret
      exact ⟨rfl, Below.refl _ _⟩
    · go_enter Try.func10, Try.ntmps10
      go_wp2_with fail
      refine (longestCommon_spec _ _ _ ha' hb').mono ?_
      rintro e w1 ⟨rfl, hd1⟩
      go_wp2_with fail
      refine (longestCommon_impl _ _ _ ha' hb').mono ?_
      rintro e w2 ⟨rfl, hd2⟩
      go_wp2_with fail
      go_ret
      exact ⟨rfl, below_step hd1 (Nat.le_refl _) hd2⟩

theorem walkFnExactDifferentPlaces (a b : ByteArray) (w : World) (ha : a.size ≤ maxLen) (hb : b.size ≤ maxLen) :
    Calls Try.prog 11 #[.string a, .string b] w fun e w' => e = .returned (.bool true) ∧ Below w.heap.size w w' := by
  have ha' := ha
  have hb' := hb
  unfold maxLen at ha hb
  by_cases h1 : (1048576 : Int) < a.size
  · go_enter Try.func11, Try.ntmps11
    go_wp2
    go_ret
    exact ⟨rfl, Below.refl _ _⟩
  · by_cases h2 : (1048576 : Int) < b.size
    · go_enter Try.func11, Try.ntmps11
      go_wp2
      go_ret
      exact ⟨rfl, Below.refl _ _⟩
    · go_enter Try.func11, Try.ntmps11
      go_wp2_with fail
      refine (differentPlaces_spec _ _ _ ha' hb').mono ?_
      rintro e w1 ⟨rfl, hd1⟩
      go_wp2_with fail
      refine (differentPlaces_impl _ _ _ ha' hb').mono ?_
      rintro e w2 ⟨rfl, hd2⟩
      go_wp2_with fail
      go_ret
      exact ⟨rfl, below_step hd1.below (Nat.le_refl _) hd2.below⟩
end Go.Proofs.Ytacnaipcjihkkaa
