/- The walk of the law FnLongestCommon, over contracts of impl.LongestCommon (CommonC) and impl.EditDistance (EditC). -/
import Derived.Test.YtacnaipcjihkkaaLwEdit
import Derived.Test.YtacnaipcjihkkaaLcSpec
namespace Go.Proofs.Ytacnaipcjihkkaa
open Go.RowKit
set_option maxHeartbeats 1600000
set_option linter.unusedSimpArgs false
set_option linter.unusedVariables false

/-- what impl.LongestCommon does -/
def CommonC : Prop := ∀ (a b : ByteArray) (w : World), a.size ≤ maxLen → b.size ≤ maxLen →
  Calls Try.prog 21 #[.string a, .string b] w fun e w' => e = .returned (.int .i64 (twoI (fun x y => (lc x y : Int)) a.data.toList b.data.toList)) ∧ Below w.heap.size w w'
theorem shared_lc : ∀ l m : List UInt8, Lc l m (shared l m)
  | [], m => by have := Lc.none [] m; simpa [shared] using this
  | a :: l, [] => by have := Lc.none (a :: l) []; simpa [shared] using this
  | a :: l, b :: m => by
    by_cases h : a = b
    · subst h
      simp only [shared, if_pos]
      exact .same a (shared_lc l m)
    · simp only [shared, if_neg h]
      exact Lc.none _ _

theorem walkFnLongestCommon (HC : CommonC) (HE : EditC) (A : Option Addr) (n c : Nat) (w : World) (h : Bytes w w.heap.size A n) (hnc : n ≤ c) (hc : c ≤ maxLen) :
    Calls Try.prog 5 #[.slice A n c] w fun e w' => e = .returned (.bool true) ∧ Below w.heap.size w w' := by
  have HC := Lib.hid HC
  have HE := Lib.hid HE
  have hn : n ≤ maxLen := Nat.le_trans hnc hc
  unfold maxLen at hn
  by_cases hn2 : (1048576 : Int) < n
  · go_enter Try.func5, Try.ntmps5
    go_wp2_with fail
    go_ret
    exact ⟨rfl, Below.refl _ _⟩
  · go_enter Try.func5, Try.ntmps5
    go_wp2_with fail
    refine (drawLongestCommon_any _ _ _ _ h hnc hc).mono ?_
    rintro e w1 ⟨a, b, rfl, ha, hb, hb1⟩
    have am : a.size ≤ maxLen := by unfold maxLen; omega
    have bm : b.size ≤ maxLen := by unfold maxLen; omega
    have hS := twoI_symm (f := fun x y => (lc x y : Int)) (fun a b => by simp only [lc_symm a b]) b.data.toList a.data.toList
    by_cases hv : (wordB a.data.toList && wordB b.data.toList) = true
    · have hI := twoI_yes (f := fun x y => (lc x y : Int)) hv
      have hE := twoI_yes (f := fun x y => (ed false x y : Int)) hv
      have hA := twoI_yes (f := fun x y => (lc x y : Int)) (a := a.data.toList) (b := a.data.toList) (by simp at hv ⊢; exact hv.1)
      have hH : sharedI a.data.toList b.data.toList = (shared a.data.toList b.data.toList : Int) := by unfold sharedI; rw [if_pos hv]
      have f1 := lc_most a.data.toList b.data.toList
      have f2 := le_lc (shared_lc a.data.toList b.data.toList)
      have f3 := ed_lc a.data.toList b.data.toList
      have f4 := lc_ed a.data.toList b.data.toList
      simp only [lc_self, len_eq] at hA
      rw [len_eq, len_eq] at f1 f3 f4
      rw [hI] at hS
      generalize lc a.data.toList b.data.toList = m at *
      generalize ed false a.data.toList b.data.toList = d at *
      generalize shared a.data.toList b.data.toList = s at *
      have I1 := Lib.hid hI
      have I2 := Lib.hid hS
      have I3 := Lib.hid hA
      have I4 := Lib.hid hE
      have I5 := Lib.hid hH
      clear hI hS hA hE hH hv h hnc hc
      have hw1 := IntWalk.i64_in ((a.size : Int) + b.size) (by omega)
      have hw2 := IntWalk.i64_in (2 * (m : Int)) (by omega)
      have hw3 := IntWalk.i64_in ((a.size : Int) + b.size - 2 * m) (by omega)
      have hw4 := IntWalk.i64_in ((b.size : Int) - m) (by omega)
      have hw5 := IntWalk.i64_in ((a.size : Int) - m) (by omega)
      have hge : (0 : Int) ≤ (m : Int) := by omega
      have hbz : ((a.size : Int) == (a.size : Int)) = true := by simp
      have hbz2 : ((m : Int) != (m : Int)) = false := by simp
      have y1 : (m : Int) ≤ a.size := by omega
      have y2 : (m : Int) ≤ b.size := by omega
      have y3 : (s : Int) ≤ m := by omega
      have y4 : (d : Int) ≤ (a.size : Int) + b.size - 2 * m := by omega
      have y5 : (a.size : Int) - m ≤ d := by omega
      have y6 : (b.size : Int) - m ≤ d := by omega
      go_wp2_with fail
      refine (HC.out _ _ _ am bm).mono ?_
      rintro e w2 ⟨rfl, hd2'⟩
      rw [I1.out]
      go_wp2_with fail
      refine (longestCommon_spec _ _ _ am bm).mono ?_
      rintro e w3 ⟨rfl, hd3'⟩
      rw [I1.out]
      go_wp2_with fail
      refine (HC.out _ _ _ bm am).mono ?_
      rintro e w4 ⟨rfl, hd4'⟩
      rw [I2.out]
      go_wp2_with fail
      refine (HE.out _ _ _ am bm).mono ?_
      rintro e w4' ⟨rfl, hd4''⟩
      rw [I4.out]
      have D := Lib.hid (below_step (below_step (below_step (below_step hb1 (Nat.le_refl _) hd2') (Nat.le_refl _) hd3') (Nat.le_refl _) hd4') (Nat.le_refl _) hd4'')
      clear hd2' hd3' hd4' hd4'' hb1
      by_cases hab : a.size < b.size
      · have x1 : (a.size : Int) < b.size := by omega
        have x2 : ¬ (b.size : Int) < a.size := by omega
        go_wp2_with fail
        refine (sharedStart_impl _ _ _ am bm).mono ?_
        rintro e w5 ⟨rfl, hd5⟩
        rw [I5.out]
        go_wp2_with fail
        refine (HC.out _ _ _ am am).mono ?_
        rintro e w6 ⟨rfl, hd6⟩
        rw [I3.out]
        go_wp2_with fail
        go_ret
        exact ⟨rfl, below_step (below_step D.out (Nat.le_refl _) hd5.below) (Nat.le_refl _) hd6⟩
      · have x1 : ¬ (a.size : Int) < b.size := by omega
        by_cases hba : b.size < a.size
        · have x2 : (b.size : Int) < a.size := by omega
          go_wp2_with fail
          refine (sharedStart_impl _ _ _ am bm).mono ?_
          rintro e w5 ⟨rfl, hd5⟩
          rw [I5.out]
          go_wp2_with fail
          refine (HC.out _ _ _ am am).mono ?_
          rintro e w6 ⟨rfl, hd6⟩
          rw [I3.out]
          go_wp2_with fail
          go_ret
          exact ⟨rfl, below_step (below_step D.out (Nat.le_refl _) hd5.below) (Nat.le_refl _) hd6⟩
        · have x2 : ¬ (b.size : Int) < a.size := by omega
          go_wp2_with fail
          refine (sharedStart_impl _ _ _ am bm).mono ?_
          rintro e w5 ⟨rfl, hd5⟩
          rw [I5.out]
          go_wp2_with fail
          refine (HC.out _ _ _ am am).mono ?_
          rintro e w6 ⟨rfl, hd6⟩
          rw [I3.out]
          go_wp2_with fail
          go_ret
          exact ⟨rfl, below_step (below_step D.out (Nat.le_refl _) hd5.below) (Nat.le_refl _) hd6⟩
    · have hI := twoI_no (f := fun x y => (lc x y : Int)) (by simpa using hv : (wordB a.data.toList && wordB b.data.toList) = false)
      rw [hI] at hS
      have I1 := Lib.hid hI
      have I2 := Lib.hid hS
      clear hI hS hv h hnc hc
      go_wp2_with fail
      refine (HC.out _ _ _ am bm).mono ?_
      rintro e w2 ⟨rfl, hd2'⟩
      rw [I1.out]
      go_wp2_with fail
      refine (longestCommon_spec _ _ _ am bm).mono ?_
      rintro e w3 ⟨rfl, hd3'⟩
      rw [I1.out]
      go_wp2_with fail
      refine (HC.out _ _ _ bm am).mono ?_
      rintro e w4 ⟨rfl, hd4'⟩
      rw [I2.out]
      go_wp2_with fail
      refine (alive_any _).mono ?_
      rintro e w5 ⟨rfl, hd5⟩
      go_wp2_with fail
      go_ret
      exact ⟨rfl, below_step (below_step (below_step (below_step hb1 (Nat.le_refl _) hd2') (Nat.le_refl _) hd3') (Nat.le_refl _) hd4') (Nat.le_refl _) hd5.below⟩
end Go.Proofs.Ytacnaipcjihkkaa
