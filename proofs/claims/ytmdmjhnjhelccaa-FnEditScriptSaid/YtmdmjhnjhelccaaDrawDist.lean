/- The drawing of the inputs of the distances' laws. -/
import Derived.Test.YtmdmjhnjhelccaaTwo
namespace Go.Proofs.Ytmdmjhnjhelccaa
open Go.RowKit
set_option maxHeartbeats 800000
set_option linter.unusedSimpArgs false
set_option linter.unusedVariables false

theorem drawEditScript_any (A : Option Addr) (n c : Nat) (w : World) (h : Bytes w w.heap.size A n) (hnc : n ≤ c) (hc : c ≤ maxLen) :
    Calls Try.prog 22 #[.slice A n c] w (TextsPost w) := by
  go_enter Try.func22, Try.ntmps22
  go_wp2_with fail
  refine (open_any _ _ _ _ h hnc hc).mono ?_
  rintro e w1 ⟨g, rfl, hg, hr, hb⟩
  go_wp2_with fail
  refine (two_any g 0 _ _ hr (by omega) (by omega) (by omega)).mono ?_
  rintro e w2 ⟨s, t, rfl, hs, ht, hd, -⟩
  go_wp2_with fail
  go_ret2
  exact ⟨s, t, rfl, hs, ht, hb.trans (below_only hd hg hb.size)⟩

end Go.Proofs.Ytmdmjhnjhelccaa
