/- The walks of chapter 4's laws, over contracts of the program. -/
import Derived.Test.YtocmlkkigejifaaBandSpec
import Derived.Test.YtocmlkkigejifaaLeastSpec
import Derived.Test.YtocmlkkigejifaaDrawBand
namespace Go.Proofs.Ytocmlkkigejifaa
open Go.RowKit
set_option maxHeartbeats 1600000
set_option linter.unusedSimpArgs false
set_option linter.unusedVariables false

theorem errorsOk_any (k : Int) (w : World) : Calls Try.prog 14 #[.int .i64 k] w fun e w' => e = .returned (.bool (errB k)) ∧ w' = w := by
  by_cases h1 : 0 ≤ k
  · by_cases h2 : k ≤ 4
    · have h : errB k = true := by unfold errB; simp [h1, h2]
      rw [h]
      go_enter Try.func14, Try.ntmps14
      go_wp2_with fail
      go_ret
      exact ⟨rfl, rfl⟩
    · have h : errB k = false := by unfold errB; simp [h1, h2]
      rw [h]
      go_enter Try.func14, Try.ntmps14
      go_wp2_with fail
      go_ret
      exact ⟨rfl, rfl⟩
  · have h : errB k = false := by unfold errB; rw [decide_eq_false h1, Bool.false_and]
    rw [h]
    go_enter Try.func14, Try.ntmps14
    go_wp2_with fail
    go_ret
    exact ⟨rfl, rfl⟩
/-- what impl.WithinDistance does -/
def WithinC : Prop := ∀ (a b : ByteArray) (k : Int) (w : World), a.size ≤ maxLen → b.size ≤ maxLen →
  Calls Try.prog 11 #[.string a, .string b, .int .i64 k] w fun e w' => e = .returned (.int .i64 (threeI withinV a.data.toList b.data.toList k)) ∧ Below w.heap.size w w'
theorem walkFnWithinDistance (HC : WithinC) (HE : EditC) (A : Option Addr) (n c : Nat) (w : World) (h : Bytes w w.heap.size A n) (hnc : n ≤ c) (hc : c ≤ maxLen) :
    Calls Try.prog 3 #[.slice A n c] w fun e w' => e = .returned (.bool true) ∧ Below w.heap.size w w' := by
  have HC := Lib.hid HC
  have HE := Lib.hid HE
  have hn : n ≤ maxLen := Nat.le_trans hnc hc
  unfold maxLen at hn
  by_cases hn2 : (1048576 : Int) < n
  · go_enter Try.func3, Try.ntmps3
    go_wp2_with fail
    go_ret
    exact ⟨rfl, Below.refl _ _⟩
  · go_enter Try.func3, Try.ntmps3
    go_wp2_with fail
    refine (drawWithinDistance_any _ _ _ _ h hnc hc).mono ?_
    rintro e w1 ⟨a, b, k, rfl, ha, hb, hk0, hk1, hb1⟩
    have am : a.size ≤ maxLen := by unfold maxLen; omega
    have bm : b.size ≤ maxLen := by unfold maxLen; omega
    clear h hnc hc
    obtain ⟨v, hv⟩ : ∃ v, threeI withinV a.data.toList b.data.toList k = v := ⟨_, rfl⟩
    have hvz : (v != v) = false := by simp
    have HV := Lib.hid hv
    clear hv
    go_wp2_with fail
    refine (HC.out _ _ _ _ am bm).mono ?_
    rintro e w2 ⟨rfl, hb2⟩
    rw [HV.out]
    have B2 := below_step hb1 (Nat.le_refl _) hb2
    clear hb1 hb2
    go_wp2_with fail
    refine (withinDistance_spec _ _ _ _ am bm).mono ?_
    rintro e w3 ⟨rfl, hb3⟩
    rw [HV.out]
    have B3 := below_step B2 (Nat.le_refl _) hb3
    clear B2 hb3
    by_cases hw : (wordB a.data.toList && wordB b.data.toList) = true
    · have HI := Lib.hid (twoI_yes (f := fun x y => (ed false x y : Int)) hw)
      cases hek : errB k
      · have hvv : v = -1 := by rw [← HV.out]; exact threeI_no (by rw [Bool.and_assoc, hw, hek]; rfl)
        subst hvv
        have d0 : (0 : Int) ≤ (ed false a.data.toList b.data.toList : Int) := by omega
        generalize ed false a.data.toList b.data.toList = d at HI d0
        have HK := Lib.hid hek
        clear hw hek
        go_wp2_with fail
        refine (HE.out _ _ _ am bm).mono ?_
        rintro e w4 ⟨rfl, hb4⟩
        rw [HI.out]
        have B4 := below_step B3 (Nat.le_refl _) hb4
        go_wp2_with fail
        refine (errorsOk_any _ _).mono ?_
        rintro e w5 ⟨rfl, rfl⟩
        rw [HK.out]
        go_wp2_with fail
        refine (alive_any _).mono ?_
        rintro e w6 ⟨rfl, hd6⟩
        go_wp2_with fail
        go_ret
        exact ⟨rfl, below_step B4 (Nat.le_refl _) hd6.below⟩
      · have hvv : v = withinV a.data.toList b.data.toList k := by rw [← HV.out]; exact threeI_yes (by rw [Bool.and_assoc, hw, hek]; rfl)
        unfold withinV at hvv
        have d0 : (0 : Int) ≤ (ed false a.data.toList b.data.toList : Int) := by omega
        generalize ed false a.data.toList b.data.toList = d at HI d0 hvv
        have HK := Lib.hid hek
        clear hw hek
        by_cases hdk : (d : Int) ≤ k
        · rw [if_pos hdk] at hvv
          subst hvv
          have hdd : ((d : Int) == (d : Int)) = true := by simp
          go_wp2_with fail
          refine (HE.out _ _ _ am bm).mono ?_
          rintro e w4 ⟨rfl, hb4⟩
          rw [HI.out]
          have B4 := below_step B3 (Nat.le_refl _) hb4
          go_wp2_with fail
          refine (errorsOk_any _ _).mono ?_
          rintro e w5 ⟨rfl, rfl⟩
          rw [HK.out]
          go_wp2_with fail
          go_ret
          exact ⟨rfl, B4⟩
        · rw [if_neg hdk] at hvv
          subst hvv
          go_wp2_with fail
          refine (HE.out _ _ _ am bm).mono ?_
          rintro e w4 ⟨rfl, hb4⟩
          rw [HI.out]
          have B4 := below_step B3 (Nat.le_refl _) hb4
          go_wp2_with fail
          refine (errorsOk_any _ _).mono ?_
          rintro e w5 ⟨rfl, rfl⟩
          rw [HK.out]
          go_wp2_with fail
          go_ret
          exact ⟨rfl, B4⟩
    · have hw : (wordB a.data.toList && wordB b.data.toList) = false := by simpa using hw
      have HI := Lib.hid (twoI_no (f := fun x y => (ed false x y : Int)) hw)
      have hvv : v = -1 := by rw [← HV.out]; exact threeI_no (by rw [Bool.and_assoc, hw, Bool.and_false])
      subst hvv
      clear hw
      go_wp2_with fail
      refine (HE.out _ _ _ am bm).mono ?_
      rintro e w4 ⟨rfl, hb4⟩
      rw [HI.out]
      have B4 := below_step B3 (Nat.le_refl _) hb4
      go_wp2_with fail
      refine (alive_any _).mono ?_
      rintro e w6 ⟨rfl, hd6⟩
      go_wp2_with fail
      go_ret
      exact ⟨rfl, below_step B4 (Nat.le_refl _) hd6.below⟩
/-- what impl.BandCells does -/
def BandC : Prop := ∀ (a b : ByteArray) (k : Int) (w : World), a.size ≤ maxLen → b.size ≤ maxLen →
  Calls Try.prog 17 #[.string a, .string b, .int .i64 k] w fun e w' => e = .returned (.int .i64 (threeI bandV a.data.toList b.data.toList k)) ∧ Below w.heap.size w w'
theorem walkFnBandCells (HC : BandC) (A : Option Addr) (n c : Nat) (w : World) (h : Bytes w w.heap.size A n) (hnc : n ≤ c) (hc : c ≤ maxLen) :
    Calls Try.prog 4 #[.slice A n c] w fun e w' => e = .returned (.bool true) ∧ Below w.heap.size w w' := by
  have HC := Lib.hid HC
  have hn : n ≤ maxLen := Nat.le_trans hnc hc
  unfold maxLen at hn
  by_cases hn2 : (1048576 : Int) < n
  · go_enter Try.func4, Try.ntmps4
    go_wp2_with fail
    go_ret
    exact ⟨rfl, Below.refl _ _⟩
  · go_enter Try.func4, Try.ntmps4
    go_wp2_with fail
    refine (drawBandCells_any _ _ _ _ h hnc hc).mono ?_
    rintro e w1 ⟨a, b, k, rfl, ha, hb, hk0, hk1, hb1⟩
    have am : a.size ≤ maxLen := by unfold maxLen; omega
    have bm : b.size ≤ maxLen := by unfold maxLen; omega
    clear h hnc hc
    obtain ⟨v, hv⟩ : ∃ v, threeI bandV a.data.toList b.data.toList k = v := ⟨_, rfl⟩
    have hvz : (v != v) = false := by simp
    have HV := Lib.hid hv
    clear hv
    go_wp2_with fail
    refine (HC.out _ _ _ _ am bm).mono ?_
    rintro e w2 ⟨rfl, hb2⟩
    rw [HV.out]
    have B2 := below_step hb1 (Nat.le_refl _) hb2
    clear hb1 hb2
    go_wp2_with fail
    refine (bandCells_spec _ _ _ _ am bm).mono ?_
    rintro e w3 ⟨rfl, hb3⟩
    rw [HV.out]
    have B3 := below_step B2 (Nat.le_refl _) hb3
    clear B2 hb3
    cases hok : (errB k && wordB a.data.toList && wordB b.data.toList)
    · have hvv : v = -1 := by rw [← HV.out]; exact threeI_no hok
      subst hvv
      clear hok
      go_wp2_with fail
      refine (alive_any _).mono ?_
      rintro e w6 ⟨rfl, hd6⟩
      go_wp2_with fail
      go_ret
      exact ⟨rfl, below_step B3 (Nat.le_refl _) hd6.below⟩
    · have hvv : v = bandV a.data.toList b.data.toList k := by rw [← HV.out]; exact threeI_yes hok
      have hk : 0 ≤ k ∧ k ≤ 4 := by simp [errB] at hok; omega
      have hww : (wordB a.data.toList && wordB b.data.toList) = true := by rw [Bool.and_assoc] at hok; exact (Bool.and_eq_true _ _ ▸ hok).2
      obtain ⟨e, rfl⟩ : ∃ e : Nat, k = (e : Int) := ⟨k.toNat, by omega⟩
      have he4 : e ≤ 4 := by omega
      unfold bandV at hvv
      rw [len_eq, len_eq, Int.toNat_natCast] at hvv
      have t1 := bandN_table (b.size + 1) e (a.size + 1)
      have t2 := bandN_width (b.size + 1) e (a.size + 1)
      have t3 := bandN_width (a.size + 1) e (b.size + 1)
      rw [bandN_symm] at t3
      have t4 := bandN_pos b.size e a.size
      have t5 := bandN_more (b.size + 1) (show e ≤ e + 1 by omega) (a.size + 1)
      have m1 := Nat.mul_le_mul (show a.size + 1 ≤ 14 by omega) (show b.size + 1 ≤ 14 by omega)
      have m2 := Nat.mul_le_mul (show 2 * e + 1 ≤ 9 by omega) (show a.size + 1 ≤ 14 by omega)
      have m3 := Nat.mul_le_mul (show 2 * e + 1 ≤ 9 by omega) (show b.size + 1 ≤ 14 by omega)
      have p1 : (((a.size : Int) + 1) * ((b.size : Int) + 1)) = (((a.size + 1) * (b.size + 1) : Nat) : Int) := by simp
      have p2 : ((2 * (e : Int) + 1) * ((a.size : Int) + 1)) = (((2 * e + 1) * (a.size + 1) : Nat) : Int) := by simp
      have p3 : ((2 * (e : Int) + 1) * ((b.size : Int) + 1)) = (((2 * e + 1) * (b.size + 1) : Nat) : Int) := by simp
      have HNX := Lib.hid (show e < 4 → threeI bandV a.data.toList b.data.toList ((e : Int) + 1) = ((bandN (b.size + 1) (e + 1) (a.size + 1) : Nat) : Int) from fun h4 => by
        rw [threeI_yes (by rw [Bool.and_assoc, hww]; simp [errB]; omega)]
        unfold bandV
        rw [len_eq, len_eq, show ((e : Int) + 1).toNat = e + 1 by omega])
      generalize bandN (b.size + 1) e (a.size + 1) = N at *
      generalize bandN (b.size + 1) (e + 1) (a.size + 1) = N2 at *
      subst hvv
      have w1' := IntWalk.i64_in (((a.size : Int) + 1) * ((b.size : Int) + 1)) (by omega)
      have w2' := IntWalk.i64_in ((2 * (e : Int) + 1) * ((a.size : Int) + 1)) (by omega)
      have w3' := IntWalk.i64_in ((2 * (e : Int) + 1) * ((b.size : Int) + 1)) (by omega)
      have c1 : (N : Int) ≤ ((a.size : Int) + 1) * ((b.size : Int) + 1) := by omega
      have c2 : (N : Int) ≤ (2 * (e : Int) + 1) * ((a.size : Int) + 1) := by omega
      have c3 : (N : Int) ≤ (2 * (e : Int) + 1) * ((b.size : Int) + 1) := by omega
      have c4 : (1 : Int) ≤ (N : Int) := by omega
      have c5 : (N : Int) ≤ (N2 : Int) := by omega
      have n0 : (0 : Int) ≤ (N : Int) := by omega
      clear hok hww t1 t2 t3 t4 t5 m1 m2 m3 p1 p2 p3
      by_cases hab : (b.size : Int) < (a.size : Int)
      · go_wp2_with fail
        · go_ret
          exact ⟨rfl, B3⟩
        · refine (HC.out _ _ _ _ am bm).mono ?_
          rintro e2 w4 ⟨rfl, hb4⟩
          rw [HNX.out (by omega)]
          go_wp2_with fail
          go_ret
          exact ⟨rfl, below_step B3 (Nat.le_refl _) hb4⟩
      · go_wp2_with fail
        · go_ret
          exact ⟨rfl, B3⟩
        · refine (HC.out _ _ _ _ am bm).mono ?_
          rintro e2 w4 ⟨rfl, hb4⟩
          rw [HNX.out (by omega)]
          go_wp2_with fail
          go_ret
          exact ⟨rfl, below_step B3 (Nat.le_refl _) hb4⟩
end Go.Proofs.Ytocmlkkigejifaa
