/- The walk of the law FnDifferentPlaces, over contracts of impl.DifferentPlaces (DiffC) and impl.EditDistance (EditC). -/
import Derived.Test.YtacnaipcjihkkaaLwEdit
namespace Go.Proofs.Ytacnaipcjihkkaa
open Go.RowKit
set_option maxHeartbeats 1600000
set_option linter.unusedSimpArgs false
set_option linter.unusedVariables false

/-- what impl.DifferentPlaces does -/
def DiffC : Prop := ∀ (a b : ByteArray) (w : World), a.size ≤ maxLen → b.size ≤ maxLen →
  Calls Try.prog 25 #[.string a, .string b] w fun e w' => e = .returned (.int .i64 (dpI a.data.toList b.data.toList)) ∧ Below w.heap.size w w'
theorem dpI_symm (a b : List UInt8) : dpI a b = dpI b a := by
  unfold dpI
  rw [dp_symm a b, Bool.and_comm (wordB a) (wordB b), show decide (a.length = b.length) = decide (b.length = a.length) from decide_eq_decide.2 eq_comm]

theorem walkFnDifferentPlaces (HC : DiffC) (HE : EditC) (A : Option Addr) (n c : Nat) (w : World) (h : Bytes w w.heap.size A n) (hnc : n ≤ c) (hc : c ≤ maxLen) :
    Calls Try.prog 6 #[.slice A n c] w fun e w' => e = .returned (.bool true) ∧ Below w.heap.size w w' := by
  have HC := Lib.hid HC
  have HE := Lib.hid HE
  have hn : n ≤ maxLen := Nat.le_trans hnc hc
  unfold maxLen at hn
  by_cases hn2 : (1048576 : Int) < n
  · go_enter Try.func6, Try.ntmps6
    go_wp2_with fail
    go_ret
    exact ⟨rfl, Below.refl _ _⟩
  · go_enter Try.func6, Try.ntmps6
    go_wp2_with fail
    refine (drawDifferentPlaces_any _ _ _ _ h hnc hc).mono ?_
    rintro e w1 ⟨a, b, rfl, ha, hb, hb1⟩
    have am : a.size ≤ maxLen := by unfold maxLen; omega
    have bm : b.size ≤ maxLen := by unfold maxLen; omega
    have hS := dpI_symm b.data.toList a.data.toList
    by_cases hv : (wordB a.data.toList && wordB b.data.toList && decide (a.data.toList.length = b.data.toList.length)) = true
    · have hI := dpI_yes hv
      have hv2 : (wordB a.data.toList && wordB b.data.toList) = true := by simp at hv ⊢; exact hv.1
      have hl : a.data.toList.length = b.data.toList.length := by simp at hv ⊢; exact hv.2
      have hR := dpI_yes (a := a.data.toList.reverse) (b := b.data.toList.reverse) (by rw [wordB_rev, wordB_rev, List.length_reverse, List.length_reverse]; exact hv)
      rw [dp_rev _ _ hl] at hR
      have hE := twoI_yes (f := fun x y => (ed false x y : Int)) hv2
      have hd1 := ed_dp _ _ hl
      have hd2 := dp_most a.data.toList b.data.toList
      have hd3 := dp_zero _ _ hl
      have hq := text_beq a b
      rw [len_eq] at hd2
      rw [hI] at hS
      generalize dp a.data.toList b.data.toList = d at *
      generalize ed false a.data.toList b.data.toList = e0 at *
      have hq2 : ((((d : Int) == 0) == (a.toList == b.toList)) = true) := by
        rw [hq]
        by_cases h0 : d = 0
        · rw [decide_eq_true (hd3.1 h0)]; simp [h0]
        · rw [decide_eq_false (fun h => h0 (hd3.2 h))]; simp; omega
      have I1 := Lib.hid hI
      have I2 := Lib.hid hS
      have I3 := Lib.hid hR
      have I4 := Lib.hid hE
      clear hI hS hR hE hd3 hv hv2 hl h hnc hc hq
      have hge : (0 : Int) ≤ (d : Int) := by omega
      have hle : (e0 : Int) ≤ (d : Int) := by omega
      have hle2 : (d : Int) ≤ (a.size : Int) := by omega
      have hbz : ((d : Int) == (d : Int)) = true := by simp
      have hbz2 : ((d : Int) != (d : Int)) = false := by simp
      go_wp2_with fail
      refine (HC.out _ _ _ am bm).mono ?_
      rintro e w2 ⟨rfl, hd2'⟩
      rw [I1.out]
      go_wp2_with fail
      refine (differentPlaces_spec _ _ _ am bm).mono ?_
      rintro e w3 ⟨rfl, hd3'⟩
      rw [I1.out]
      go_wp2_with fail
      refine (HC.out _ _ _ bm am).mono ?_
      rintro e w4 ⟨rfl, hd4'⟩
      rw [I2.out]
      go_wp2_with fail
      refine (HE.out _ _ _ am bm).mono ?_
      rintro e w4' ⟨rfl, hd4''⟩
      rw [I4.out]
      have D := Lib.hid (below_step (below_step (below_step (below_step hb1 (Nat.le_refl _) hd2') (Nat.le_refl _) hd3'.below) (Nat.le_refl _) hd4') (Nat.le_refl _) hd4'')
      clear hd2' hd3' hd4' hd4'' hb1
      go_wp2_with fail
      refine (turned_any _ _ (by omega)).mono ?_
      rintro e w5 ⟨rfl, rfl⟩
      go_wp2_with fail
      refine (turned_any _ _ (by omega)).mono ?_
      rintro e w5 ⟨rfl, rfl⟩
      go_wp2_with fail
      refine (HC.out _ _ _ (by rw [textOf_size]; simpa using am) (by rw [textOf_size]; simpa using bm)).mono ?_
      rintro e w5 ⟨rfl, hd5⟩
      rw [textOf_list, textOf_list, I3.out]
      go_wp2_with fail
      go_ret
      exact ⟨rfl, below_step D.out (Nat.le_refl _) hd5⟩
    · have hI := dpI_no (by simpa only [Bool.not_eq_true] using hv : (wordB a.data.toList && wordB b.data.toList && decide (a.data.toList.length = b.data.toList.length)) = false)
      rw [hI] at hS
      have I1 := Lib.hid hI
      have I2 := Lib.hid hS
      clear hI hS hv h hnc hc
      go_wp2_with fail
      refine (HC.out _ _ _ am bm).mono ?_
      rintro e w2 ⟨rfl, hd2'⟩
      rw [I1.out]
      go_wp2_with fail
      refine (differentPlaces_spec _ _ _ am bm).mono ?_
      rintro e w3 ⟨rfl, hd3'⟩
      rw [I1.out]
      go_wp2_with fail
      refine (HC.out _ _ _ bm am).mono ?_
      rintro e w4 ⟨rfl, hd4'⟩
      rw [I2.out]
      go_wp2_with fail
      refine (alive_any _).mono ?_
      rintro e w5 ⟨rfl, hd5⟩
      go_wp2_with fail
      go_ret
      exact ⟨rfl, below_step (below_step (below_step (below_step hb1 (Nat.le_refl _) hd2') (Nat.le_refl _) hd3'.below) (Nat.le_refl _) hd4') (Nat.le_refl _) hd5.below⟩
end Go.Proofs.Ytacnaipcjihkkaa
