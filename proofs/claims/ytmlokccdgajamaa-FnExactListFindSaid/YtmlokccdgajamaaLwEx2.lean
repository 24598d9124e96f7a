/- The walk of the exact law of ListFind. -/
import Derived.Test.YtmlokccdgajamaaFind
namespace Go.Proofs.Ytmlokccdgajamaa
open Go.RowKit
set_option maxHeartbeats 400000
set_option linter.unusedSimpArgs false
set_option linter.unusedVariables false

theorem walkFnExactListFind (A : Option Addr) (n c : Nat) (ss : List ByteArray) (x : ByteArray) (w : World) (h : Strs w w.heap.size A n ss) (hn : n ≤ maxLen) (hx : x.size ≤ maxLen) :
    Calls Try.prog 11 #[.slice A n c, .string x] w fun e w' => e = .returned (.bool true) ∧ Below w.heap.size w w' := by
  have hx' := hx
  unfold maxLen at hx
  by_cases hx2 : (1048576 : Int) < x.size
  · go_enter Try.func11, Try.ntmps11
    go_wp2_with fail
    go_ret
    exact ⟨rfl, Below.refl _ _⟩
  go_enter Try.func11, Try.ntmps11
  go_wp2_with fail
  refine (szStringS_any _ _ _ w.heap.size ss _ _ hn h (by omega) (by omega)).mono ?_
  rintro e w' ⟨r, rfl, rfl, hr⟩
  by_cases hneg : r < 0
  · clear hr
    go_wp2_with fail
    go_ret
    exact ⟨rfl, Below.refl _ _⟩
  · obtain ⟨hn1, hs1⟩ := hr (by omega)
    have HS := Lib.hid hs1
    clear hr hs1
    go_wp2_with fail
    refine (toStringS_any _ _ _ w.heap.size ss _ (by omega) h (by omega)).mono ?_
    rintro e w1 ⟨g1, c1, rfl, ho1, hb1⟩
    have hs1 := Strs.of_own ho1 (fun s hs => by have := HS.out s hs; unfold maxLen; omega)
    clear ho1
    go_wp2_with fail
    refine (listFind_spec _ _ _ w1.heap.size ss _ _ hn hs1).mono ?_
    rintro e w2 ⟨rfl, hd2⟩
    have hb2 := below_step hb1 (Nat.le_refl _) hd2.below
    have h2 := h.below hb2
    clear hs1 hd2 hb1
    go_wp2_with fail
    refine (toStringS_any _ _ _ w.heap.size ss _ (by omega) h2 hb2.size).mono ?_
    rintro e w3 ⟨g3, c3, rfl, ho3, hb3⟩
    have hs3 := Strs.of_own ho3 (fun s hs => by have := HS.out s hs; unfold maxLen; omega)
    have hb3' := below_step hb2 (Nat.le_refl _) hb3
    clear ho3 hb2 hb3 h2
    go_wp2_with fail
    refine (listFind_impl _ _ _ w3.heap.size ss _ _ hn hs3).mono ?_
    rintro e w4 ⟨rfl, hd4⟩
    have hb4 := below_step hb3' (Nat.le_refl _) hd4.below
    have h4 := h.below hb4
    have hs4 := hs3.drawn hd4
    have hz4 := hd4.size
    have HZ := Lib.hid hz4
    clear hs3 hd4 hz4 hb3'
    go_wp2_with fail
    refine (toStringS_any _ _ _ w.heap.size ss _ (by omega) h4 hb4.size).mono ?_
    rintro e w5 ⟨g5, c5, rfl, ho5, hb5⟩
    have hs5 := Strs.of_own ho5 (fun s hs => by have := HS.out s hs; unfold maxLen; omega)
    have hb5' := below_step hb4 (Nat.le_refl _) hb5
    have hs45 := (hs4.step hb5 (by rw [HZ.out]; omega)).more (B' := w5.heap.size) (by have := hb5.size; have := HZ.out; omega)
    clear ho5 hb4 hb5 h4 hs4
    go_wp2_with fail
    refine (eqStringS_any _ _ _ _ _ _ w5.heap.size ss ss _ hn hn hs45 hs5).mono ?_
    rintro e w6 ⟨rfl, hd6⟩
    have hb6 := below_step hb5' (Nat.le_refl _) hd6.below
    go_wp2_with fail
    go_ret
    exact ⟨rfl, hb6⟩
end Go.Proofs.Ytmlokccdgajamaa
