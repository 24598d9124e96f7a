/- The walks of stage 3's laws of changes and of ApplyScript over the landed code. -/
import Derived.Test.YtmdmjhnjhelccaaImplApply
import Derived.Test.YtmdmjhnjhelccaaImplRev
import Derived.Test.YtmdmjhnjhelccaaImplPlay
import Derived.Test.YtmdmjhnjhelccaaImplEdit
import Derived.Test.YtmdmjhnjhelccaaLwPlay
import Derived.Test.YtmdmjhnjhelccaaExEdit
import Derived.Test.YtmdmjhnjhelccaaToEd
namespace Go.Proofs.Ytmdmjhnjhelccaa
open Go.RowKit

theorem walkFnApplyEdit' (A : Option Addr) (n c : Nat) (w : World) (h : Bytes w w.heap.size A n) (hnc : n ≤ c) (hc : c ≤ maxLen) :
    Calls Try.prog 3 #[.slice A n c] w fun e w' => e = .returned (.bool true) ∧ Below w.heap.size w w' := walkFnApplyEdit applyEdit_impl reverseEdit_impl editDistance_impl A n c w h hnc hc
theorem walkFnReverseEdit' (A : Option Addr) (n c : Nat) (w : World) (h : Bytes w w.heap.size A n) (hnc : n ≤ c) (hc : c ≤ maxLen) :
    Calls Try.prog 6 #[.slice A n c] w fun e w' => e = .returned (.bool true) ∧ Below w.heap.size w w' := walkFnReverseEdit applyEdit_impl reverseEdit_impl A n c w h hnc hc
theorem walkFnApplyScript' (A : Option Addr) (n c : Nat) (w : World) (h : Bytes w w.heap.size A n) (hnc : n ≤ c) (hc : c ≤ maxLen) :
    Calls Try.prog 4 #[.slice A n c] w fun e w' => e = .returned (.bool true) ∧ Below w.heap.size w w' := walkFnApplyScript (applyScript_impl applyEdit_impl) A n c w h hnc hc
theorem walkFnExactApplyEdit' (s : ByteArray) (k p : Int) (c : UInt8) (w : World) (hs : s.size ≤ maxLen) :
    Calls Try.prog 8 #[.string s, .agg #[.int .i64 k, .int .i64 p, .int .u8 (c.toNat : Int)]] w fun e w' => e = .returned (.bool true) ∧ Below w.heap.size w w' := walkFnExactApplyEdit applyEdit_impl s k p c w hs
theorem walkFnExactReverseEdit' (s : ByteArray) (k p : Int) (c : UInt8) (w : World) (hs : s.size ≤ maxLen) :
    Calls Try.prog 11 #[.string s, .agg #[.int .i64 k, .int .i64 p, .int .u8 (c.toNat : Int)]] w fun e w' => e = .returned (.bool true) ∧ Below w.heap.size w w' := walkFnExactReverseEdit reverseEdit_impl s k p c w hs
theorem walkFnExactApplyScript' (s : ByteArray) (A : Option Addr) (n c : Nat) (l : List Chg) (w : World) (hs : s.size ≤ maxLen) (hn : n ≤ maxLen) (h : Chgs w w.heap.size A n l) :
    Calls Try.prog 9 #[.string s, .slice A n c] w fun e w' => e = .returned (.bool true) ∧ Below w.heap.size w w' := walkFnExactApplyScript (applyScript_impl applyEdit_impl) s A n c l w hs hn h
end Go.Proofs.Ytmdmjhnjhelccaa
