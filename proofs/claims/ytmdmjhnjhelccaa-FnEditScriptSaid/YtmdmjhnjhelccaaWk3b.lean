/- The walks of stage 3's laws of EditScript over the landed code. -/
import Derived.Test.YtmdmjhnjhelccaaImplScript
import Derived.Test.YtmdmjhnjhelccaaImplApply
import Derived.Test.YtmdmjhnjhelccaaImplPlay
namespace Go.Proofs.Ytmdmjhnjhelccaa
open Go.RowKit

theorem scriptC : ScriptC := fun a b w ha hb => (editScript_impl a b w ha hb).mono fun e w' ⟨A, n, cap, he, ho, hbl⟩ =>
  ⟨A, n, cap, he, by rw [← ho.len]; exact scriptE_short _ _, ho.chgs, hbl⟩
theorem walkFnEditScript' (A : Option Addr) (n c : Nat) (w : World) (h : Bytes w w.heap.size A n) (hnc : n ≤ c) (hc : c ≤ maxLen) :
    Calls Try.prog 5 #[.slice A n c] w fun e w' => e = .returned (.bool true) ∧ Below w.heap.size w w' := walkFnEditScript scriptC (applyScript_impl applyEdit_impl) editDistance_impl A n c w h hnc hc
theorem walkFnScriptBack' (A : Option Addr) (n c : Nat) (w : World) (h : Bytes w w.heap.size A n) (hnc : n ≤ c) (hc : c ≤ maxLen) :
    Calls Try.prog 7 #[.slice A n c] w fun e w' => e = .returned (.bool true) ∧ Below w.heap.size w w' := walkFnScriptBack scriptC A n c w h hnc hc
theorem walkFnExactEditScript' (a b : ByteArray) (w : World) (ha : a.size ≤ maxLen) (hb : b.size ≤ maxLen) :
    Calls Try.prog 10 #[.string a, .string b] w fun e w' => e = .returned (.bool true) ∧ Below w.heap.size w w' := walkFnExactEditScript editScript_impl a b w ha hb
end Go.Proofs.Ytmdmjhnjhelccaa
