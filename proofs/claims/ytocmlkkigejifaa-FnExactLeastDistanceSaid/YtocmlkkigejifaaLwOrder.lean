/- The walk of the law FnBoundsOrder, over contracts of the program. -/
import Derived.Test.YtocmlkkigejifaaLwLeast
namespace Go.Proofs.Ytocmlkkigejifaa
open Go.RowKit
set_option maxHeartbeats 1600000
set_option linter.unusedSimpArgs false
set_option linter.unusedVariables false

theorem walkFnBoundsOrder (HD : DiffC) (HE : EditC) (HS : SwapC) (HC : LeastC) (A : Option Addr) (n c : Nat) (w : World) (h : Bytes w w.heap.size A n) (hnc : n ≤ c) (hc : c ≤ maxLen) :
    Calls Try.prog 6 #[.slice A n c] w fun e w' => e = .returned (.bool true) ∧ Below w.heap.size w w' := by
  have HC := Lib.hid HC
  have HE := Lib.hid HE
  have HS := Lib.hid HS
  have HD := Lib.hid HD
  have hn : n ≤ maxLen := Nat.le_trans hnc hc
  unfold maxLen at hn
  by_cases hn2 : (1048576 : Int) < n
  · go_enter Try.func6, Try.ntmps6
    go_wp2_with fail
    go_ret
    exact ⟨rfl, Below.refl _ _⟩
  · go_enter Try.func6, Try.ntmps6
    go_wp2_with fail
    refine (drawDifferentPlaces_any _ _ _ _ h hnc hc).mono ?_
    rintro e w1 ⟨a, b, rfl, ha, hb, hb1⟩
    have am : a.size ≤ maxLen := by unfold maxLen; omega
    have bm : b.size ≤ maxLen := by unfold maxLen; omega
    clear h hnc hc
    obtain ⟨v, hv⟩ : ∃ v, dpI a.data.toList b.data.toList = v := ⟨_, rfl⟩
    have hvz : (v != v) = false := by simp
    have HV := Lib.hid hv
    clear hv
    go_wp2_with fail
    refine (HD.out _ _ _ am bm).mono ?_
    rintro e w2 ⟨rfl, hb2⟩
    rw [HV.out]
    have B2 := below_step hb1 (Nat.le_refl _) hb2
    clear hb1 hb2
    go_wp2_with fail
    refine (differentPlaces_spec _ _ _ am bm).mono ?_
    rintro e w3 ⟨rfl, hb3⟩
    rw [HV.out]
    have B3 := below_step B2 (Nat.le_refl _) hb3.below
    clear B2 hb3
    by_cases hw : (wordB a.data.toList && wordB b.data.toList) = true
    · have I1 := Lib.hid (twoI_yes (f := fun x y => (ed false x y : Int)) hw)
      have I2 := Lib.hid (twoI_yes (f := fun x y => (ed true x y : Int)) hw)
      have I3 := Lib.hid (twoI_yes (f := fun x y => (leastD x y : Int)) hw)
      have o1 := leastD_le true a.data.toList b.data.toList
      have o2 := sd_le_ed a.data.toList b.data.toList
      have o3 : v < 0 ∨ (ed false a.data.toList b.data.toList : Int) ≤ v := by
        rw [← HV.out]
        unfold dpI
        rw [hw, Bool.true_and]
        by_cases hl : a.data.toList.length = b.data.toList.length
        · rw [decide_eq_true hl, if_pos rfl]
          have := ed_dp _ _ hl
          omega
        · rw [decide_eq_false hl]
          left; simp
      generalize ed false a.data.toList b.data.toList = d at *
      generalize ed true a.data.toList b.data.toList = s at *
      generalize leastD a.data.toList b.data.toList = m at *
      have x0 : (0 : Int) ≤ (d : Int) := by omega
      have x1 : (m : Int) ≤ (s : Int) := by omega
      have x2 : (s : Int) ≤ (d : Int) := by omega
      clear hw o1 o2
      go_wp2_with fail
      refine (HE.out _ _ _ am bm).mono ?_
      rintro e w4 ⟨rfl, hb4⟩
      rw [I1.out]
      have B4 := below_step B3 (Nat.le_refl _) hb4
      clear B3 hb4
      go_wp2_with fail
      refine (HS.out _ _ _ am bm).mono ?_
      rintro e w5 ⟨rfl, hb5⟩
      rw [I2.out]
      have B5 := below_step B4 (Nat.le_refl _) hb5
      clear B4 hb5
      go_wp2_with fail
      refine (HC.out _ _ _ am bm).mono ?_
      rintro e w6 ⟨rfl, hb6⟩
      rw [I3.out]
      have B6 := below_step B5 (Nat.le_refl _) hb6
      clear B5 hb6
      by_cases hneg : v < 0
      · clear o3
        go_wp2_with fail
        go_ret
        exact ⟨rfl, B6⟩
      · have o3 : (d : Int) ≤ v := by omega
        go_wp2_with fail
        go_ret
        exact ⟨rfl, B6⟩
    · have I1 := Lib.hid (twoI_no (f := fun x y => (ed false x y : Int)) (by simpa using hw : (wordB a.data.toList && wordB b.data.toList) = false))
      clear hw
      go_wp2_with fail
      refine (HE.out _ _ _ am bm).mono ?_
      rintro e w4 ⟨rfl, hb4⟩
      rw [I1.out]
      go_wp2_with fail
      refine (alive_any _).mono ?_
      rintro e w5 ⟨rfl, hd5⟩
      go_wp2_with fail
      go_ret
      exact ⟨rfl, below_step (below_step B3 (Nat.le_refl _) hb4) (Nat.le_refl _) hd5.below⟩
end Go.Proofs.Ytocmlkkigejifaa
