/- The walks of stage 5's laws over the landed code. -/
import Derived.Test.YtfcolmjjfoaeeaaImplStep
import Derived.Test.YtfcolmjjfoaeeaaImplOnes
import Derived.Test.YtfcolmjjfoaeeaaImplEdit
import Derived.Test.YtfcolmjjfoaeeaaLwStep
namespace Go.Proofs.Ytfcolmjjfoaeeaa
open Go.RowKit

theorem walkFnLetterMask' (A : Option Addr) (n c : Nat) (w : World) (h : Bytes w w.heap.size A n) (hnc : n ≤ c) (hc : c ≤ maxLen) :
    Calls Try.prog 3 #[.slice A n c] w fun e w' => e = .returned (.bool true) ∧ Below w.heap.size w w' := walkFnLetterMask letterMask_impl A n c w h hnc hc
theorem walkFnBitColumn' (A : Option Addr) (n c : Nat) (w : World) (h : Bytes w w.heap.size A n) (hnc : n ≤ c) (hc : c ≤ maxLen) :
    Calls Try.prog 4 #[.slice A n c] w fun e w' => e = .returned (.bool true) ∧ Below w.heap.size w w' := walkFnBitColumn bitColumn_impl bitDistance_impl editDistance_impl A n c w h hnc hc
theorem walkFnBitDistance' (A : Option Addr) (n c : Nat) (w : World) (h : Bytes w w.heap.size A n) (hnc : n ≤ c) (hc : c ≤ maxLen) :
    Calls Try.prog 5 #[.slice A n c] w fun e w' => e = .returned (.bool true) ∧ Below w.heap.size w w' := walkFnBitDistance bitDistance_impl A n c w h hnc hc
theorem walkFnStepColumn' (A : Option Addr) (n c : Nat) (w : World) (h : Bytes w w.heap.size A n) (hnc : n ≤ c) (hc : c ≤ maxLen) :
    Calls Try.prog 6 #[.slice A n c] w fun e w' => e = .returned (.bool true) ∧ Below w.heap.size w w' := walkFnStepColumn stepColumn_impl bitColumn_impl bitDistance_impl editDistance_impl A n c w h hnc hc
theorem walkFnColumnRun' (A : Option Addr) (n c : Nat) (w : World) (h : Bytes w w.heap.size A n) (hnc : n ≤ c) (hc : c ≤ maxLen) :
    Calls Try.prog 7 #[.slice A n c] w fun e w' => e = .returned (.bool true) ∧ Below w.heap.size w w' := walkFnColumnRun stepColumn_impl bitColumn_impl A n c w h hnc hc
theorem walkFnExactLetterMask' (s : ByteArray) (c : Int) (w : World) (hs : s.size ≤ maxLen) (hc : (Lit.int .u8 c).wf = true) :
    Calls Try.prog 8 #[.string s, .int .u8 c] w fun e w' => e = .returned (.bool true) ∧ Below w.heap.size w w' := walkFnExactLetterMask letterMask_impl s c w hs hc
theorem walkFnExactBitColumn' (a b : ByteArray) (w : World) (ha : a.size ≤ maxLen) (hb : b.size ≤ maxLen) :
    Calls Try.prog 9 #[.string a, .string b] w fun e w' => e = .returned (.bool true) ∧ Below w.heap.size w w' := walkFnExactBitColumn bitColumn_impl a b w ha hb
theorem walkFnExactBitDistance' (n m u d : Int) (w : World) (h1 : (Lit.int .i64 n).wf = true) (h2 : (Lit.int .i64 m).wf = true) (h3 : (Lit.int .i64 u).wf = true) (h4 : (Lit.int .i64 d).wf = true) :
    Calls Try.prog 10 #[.int .i64 n, .int .i64 m, .int .i64 u, .int .i64 d] w fun e w' => e = .returned (.bool true) ∧ Below w.heap.size w w' := walkFnExactBitDistance bitDistance_impl n m u d w h1 h2 h3 h4
theorem walkFnExactStepColumn' (a b : ByteArray) (c : Int) (w : World) (ha : a.size ≤ maxLen) (hb : b.size ≤ maxLen) (hc : (Lit.int .u8 c).wf = true) :
    Calls Try.prog 11 #[.string a, .string b, .int .u8 c] w fun e w' => e = .returned (.bool true) ∧ Below w.heap.size w w' := walkFnExactStepColumn stepColumn_impl a b c w ha hb hc
end Go.Proofs.Ytfcolmjjfoaeeaa
