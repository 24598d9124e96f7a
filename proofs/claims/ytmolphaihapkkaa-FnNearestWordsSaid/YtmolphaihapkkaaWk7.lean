/- The walks of stage 7's laws over the landed code. -/
import Derived.Test.YtmolphaihapkkaaGJoin
import Derived.Test.YtmolphaihapkkaaGScan
import Derived.Test.YtmolphaihapkkaaLwParts
namespace Go.Proofs.Ytmolphaihapkkaa
open Go.RowKit

theorem walkFnHitsValid' (A : Option Addr) (n c : Nat) (w : World) (h : Bytes w w.heap.size A n) (hnc : n ≤ c) (hc : c ≤ maxLen) :
    Calls Try.prog 3 #[.slice A n c] w fun e w' => e = .returned (.bool true) ∧ Below w.heap.size w w' := walkFnHitsValid hitsValid_impl A n c w h hnc hc
theorem walkFnScanWords' (A : Option Addr) (n c : Nat) (w : World) (h : Bytes w w.heap.size A n) (hnc : n ≤ c) (hc : c ≤ maxLen) :
    Calls Try.prog 4 #[.slice A n c] w fun e w' => e = .returned (.bool true) ∧ Below w.heap.size w w' := walkFnScanWords scanWords_impl hitsValid_impl editDistance_impl A n c w h hnc hc
theorem walkFnScanMore' (A : Option Addr) (n c : Nat) (w : World) (h : Bytes w w.heap.size A n) (hnc : n ≤ c) (hc : c ≤ maxLen) :
    Calls Try.prog 7 #[.slice A n c] w fun e w' => e = .returned (.bool true) ∧ Below w.heap.size w w' := walkFnScanMore scanWords_impl A n c w h hnc hc
theorem walkFnJoinHits' (A : Option Addr) (n c : Nat) (w : World) (h : Bytes w w.heap.size A n) (hnc : n ≤ c) (hc : c ≤ maxLen) :
    Calls Try.prog 5 #[.slice A n c] w fun e w' => e = .returned (.bool true) ∧ Below w.heap.size w w' := walkFnJoinHits joinHits_impl hitsValid_impl A n c w h hnc hc
theorem walkFnScanParts' (A : Option Addr) (n c : Nat) (w : World) (h : Bytes w w.heap.size A n) (hnc : n ≤ c) (hc : c ≤ maxLen) :
    Calls Try.prog 8 #[.slice A n c] w fun e w' => e = .returned (.bool true) ∧ Below w.heap.size w w' := walkFnScanParts scanWords_impl joinHits_impl A n c w h hnc hc
theorem walkFnNearestWords' (A : Option Addr) (n c : Nat) (w : World) (h : Bytes w w.heap.size A n) (hnc : n ≤ c) (hc : c ≤ maxLen) :
    Calls Try.prog 6 #[.slice A n c] w fun e w' => e = .returned (.bool true) ∧ Below w.heap.size w w' := walkFnNearestWords nearestWords_impl editDistance_impl A n c w h hnc hc
end Go.Proofs.Ytmolphaihapkkaa
