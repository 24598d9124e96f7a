/- The drawing of the inputs of the distances' laws. -/
import Derived.Test.YtocmlkkigejifaaTwo
namespace Go.Proofs.Ytocmlkkigejifaa
open Go.RowKit
set_option maxHeartbeats 800000
set_option linter.unusedSimpArgs false
set_option linter.unusedVariables false

theorem drawDifferentPlaces_any (A : Option Addr) (n c : Nat) (w : World) (h : Bytes w w.heap.size A n) (hnc : n ≤ c) (hc : c ≤ maxLen) :
    Calls Try.prog 23 #[.slice A n c] w (TextsPost w) := by
  go_enter Try.func23, Try.ntmps23
  go_wp2_with fail
  refine (open_any _ _ _ _ h hnc hc).mono ?_
  rintro e w1 ⟨g, rfl, hg, hr, hb⟩
  go_wp2_with fail
  refine (two_any g 0 _ _ hr (by omega) (by omega) (by omega)).mono ?_
  rintro e w2 ⟨s, t, rfl, hs, ht, hd⟩
  obtain ⟨q2, hq2a, hq2b, g2⟩ := (Got.refl hr).step hd
  clear hd hr
  have hsm : s.size ≤ maxLen := by unfold maxLen; omega
  cases hv : wordB s.data.toList
  · have C := Lib.hid (wordValid_spec_is hv)
    clear hv
    go_wp2_with fail
    refine (C.out _ hsm).mono ?_
    rintro e w' ⟨rfl, rfl⟩
    go_wp2_with fail
    go_ret2
    exact ⟨s, t, rfl, hs, ht, hb.trans (below_only (g2.done (d := 1000) (by omega)).1 hg hb.size)⟩
  · have C := Lib.hid (wordValid_spec_is hv)
    clear hv
    by_cases h1 : 1 < s.size
    · have h1' : (1 : Int) < (s.size : Int) := by omega
      have h1'' : (1 : Int) ≤ (s.size : Int) := by omega
      go_wp2_with fail
      refine (C.out _ hsm).mono ?_
      rintro e w' ⟨rfl, rfl⟩
      go_wp2_with fail
      refine (pick_any g q2 _ _ g2.rd (by omega) (by omega)).mono ?_
      rintro e w3 ⟨v3, rfl, h30, h31, -, hd3⟩
      obtain ⟨q3, hq3a, hq3b, g3⟩ := g2.step hd3
      clear hd3 g2 C
      by_cases hv3 : v3 = 0
      · subst hv3
        go_wp2_with fail
        go_quiet (fail)
        go_wp2_with fail
        go_ret2
        refine ⟨s, _, rfl, hs, ?_, ?_⟩
        · simp only [ByteArray.size_append, ByteArray.size_extract]; omega
        · exact below_drewN (hb.trans (below_only (g3.done (d := 1000) (by omega)).1 hg hb.size)) _
      · have hvb : (v3 == 0) = false := by simpa using hv3
        go_wp2_with fail
        go_ret2
        exact ⟨s, t, rfl, hs, ht, hb.trans (below_only (g3.done (d := 1000) (by omega)).1 hg hb.size)⟩
    · go_wp2_with fail
      refine (C.out _ hsm).mono ?_
      rintro e w' ⟨rfl, rfl⟩
      go_wp2_with fail
      go_ret2
      exact ⟨s, t, rfl, hs, ht, hb.trans (below_only (g2.done (d := 1000) (by omega)).1 hg hb.size)⟩

end Go.Proofs.Ytocmlkkigejifaa
