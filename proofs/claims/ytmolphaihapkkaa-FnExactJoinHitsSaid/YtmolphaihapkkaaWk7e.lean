/- The exact walks of stage 7's laws over the landed code. -/
import Derived.Test.YtmolphaihapkkaaGJoin
import Derived.Test.YtmolphaihapkkaaGScan
import Derived.Test.YtmolphaihapkkaaExHits
import Derived.Test.YtmolphaihapkkaaOpenHits
namespace Go.Proofs.Ytmolphaihapkkaa
open Go.RowKit

theorem walkFnExactHitsValid' (A : Option Addr) (n c : Nat) (d : List Hit) (w : World) (hn : n ≤ maxLen) (h : Recs hitL w w.heap.size A n d) :
    Calls Try.prog 9 #[.slice A n c] w fun e w' => e = .returned (.bool true) ∧ Below w.heap.size w w' := walkFnExactHitsValid hitsValid_impl A n c d w hn h
theorem walkFnExactScanWords' (A : Option Addr) (n c : Nat) (d : List ByteArray) (s : ByteArray) (m : Int) (w : World) (h : Strs w w.heap.size A n d) (hn : n ≤ maxLen) (hs : s.size ≤ maxLen) (hm : (Lit.int .i64 m).wf = true) :
    Calls Try.prog 10 #[.slice A n c, .string s, .int .i64 m] w fun e w' => e = .returned (.bool true) ∧ Below w.heap.size w w' := walkFnExactScanWords scanWords_impl A n c d s m w h hn hs (by simp [Lit.wf, IntKind.min, IntKind.max, IntKind.signed, IntKind.bits] at hm; unfold I64; omega)
theorem walkFnExactJoinHits' (A1 : Option Addr) (n1 c1 : Nat) (d1 : List Hit) (A2 : Option Addr) (n2 c2 : Nat) (d2 : List Hit) (w : World) (hn1 : n1 ≤ maxLen) (h1 : Recs hitL w w.heap.size A1 n1 d1) (hn2 : n2 ≤ maxLen) (h2 : Recs hitL w w.heap.size A2 n2 d2) :
    Calls Try.prog 11 #[.slice A1 n1 c1, .slice A2 n2 c2] w fun e w' => e = .returned (.bool true) ∧ Below w.heap.size w w' := walkFnExactJoinHits joinHits_impl A1 n1 c1 d1 A2 n2 c2 d2 w hn1 h1 hn2 h2
theorem walkFnExactNearestWords' (A : Option Addr) (n c : Nat) (d : List ByteArray) (s : ByteArray) (w : World) (h : Strs w w.heap.size A n d) (hn : n ≤ maxLen) (hs : s.size ≤ maxLen) :
    Calls Try.prog 12 #[.slice A n c, .string s] w fun e w' => e = .returned (.bool true) ∧ Below w.heap.size w w' := walkFnExactNearestWords nearestWords_impl A n c d s w h hn hs
end Go.Proofs.Ytmolphaihapkkaa
