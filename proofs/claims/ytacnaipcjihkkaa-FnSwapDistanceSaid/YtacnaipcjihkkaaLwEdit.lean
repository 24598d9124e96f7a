/- The walk of the law FnEditDistance, over a contract of impl.EditDistance (EditC). -/
import Derived.Test.YtacnaipcjihkkaaTurned
import Derived.Test.YtacnaipcjihkkaaDrawDist
import Derived.Test.YtacnaipcjihkkaaDistFns
namespace Go.Proofs.Ytacnaipcjihkkaa
open Go.RowKit
set_option maxHeartbeats 1600000
set_option linter.unusedSimpArgs false
set_option linter.unusedVariables false

/-- what impl.EditDistance does -/
def EditC : Prop := ∀ (a b : ByteArray) (w : World), a.size ≤ maxLen → b.size ≤ maxLen →
  Calls Try.prog 13 #[.string a, .string b] w fun e w' => e = .returned (.int .i64 (twoI (fun x y => (ed false x y : Int)) a.data.toList b.data.toList)) ∧ Below w.heap.size w w'
theorem twoI_symm {f : List UInt8 → List UInt8 → Int} (h : ∀ a b, f a b = f b a) (a b : List UInt8) : twoI f a b = twoI f b a := by unfold twoI; rw [h a b, Bool.and_comm]
theorem wordB_rev (l : List UInt8) : wordB l.reverse = wordB l := by unfold wordB lettersB; rw [List.length_reverse, List.all_reverse]
theorem text_beq (s t : ByteArray) : (s.toList == t.toList) = decide (s.data.toList = t.data.toList) := by
  rw [ByteArray.toList_eq, ByteArray.toList_eq]
  exact (Bool.eq_iff_iff.2 (by simp))

theorem walkFnEditDistance (HC : EditC) (A : Option Addr) (n c : Nat) (w : World) (h : Bytes w w.heap.size A n) (hnc : n ≤ c) (hc : c ≤ maxLen) :
    Calls Try.prog 3 #[.slice A n c] w fun e w' => e = .returned (.bool true) ∧ Below w.heap.size w w' := by
  have HC := Lib.hid HC
  have hn : n ≤ maxLen := Nat.le_trans hnc hc
  unfold maxLen at hn
  by_cases hn2 : (1048576 : Int) < n
  · go_enter Try.func3, Try.ntmps3
    go_wp2_with fail
    go_ret
    exact ⟨rfl, Below.refl _ _⟩
  · go_enter Try.func3, Try.ntmps3
    go_wp2_with fail
    refine (drawEditDistance_any _ _ _ _ h hnc hc).mono ?_
    rintro e w1 ⟨a, b, rfl, ha, hb, hb1⟩
    have am : a.size ≤ maxLen := by unfold maxLen; omega
    have bm : b.size ≤ maxLen := by unfold maxLen; omega
    have hS := twoI_symm (f := fun x y => (ed false x y : Int)) (fun a b => by simp only [ed_symm false a b]) b.data.toList a.data.toList
    by_cases hv : (wordB a.data.toList && wordB b.data.toList) = true
    · have hI := twoI_yes (f := fun x y => (ed false x y : Int)) hv
      have hR := twoI_yes (f := fun x y => (ed false x y : Int)) (a := a.data.toList.reverse) (b := b.data.toList.reverse) (by rw [wordB_rev, wordB_rev]; exact hv)
      simp only [ed_rev] at hR
      have hd1 := ed_diff false a.data.toList b.data.toList
      have hd2 := ed_most false a.data.toList b.data.toList
      have hd3 := ed_zero false a.data.toList b.data.toList
      have hq := text_beq a b
      rw [len_eq, len_eq] at hd1 hd2
      rw [hI] at hS
      generalize ed false a.data.toList b.data.toList = d at *
      have hq2 : ((((d : Int) == 0) == (a.toList == b.toList)) = true) := by
        rw [hq]
        by_cases h0 : d = 0
        · rw [decide_eq_true (hd3.1 h0)]; simp [h0]
        · rw [decide_eq_false (fun h => h0 (hd3.2 h))]; simp; omega
      have I1 := Lib.hid hI
      have I2 := Lib.hid hS
      have I3 := Lib.hid hR
      clear hI hS hR hd3 hv h hnc hc hq
      have hwa := IntWalk.i64_in ((a.size : Int) - b.size) (by omega)
      have hwb := IntWalk.i64_in ((b.size : Int) - a.size) (by omega)
      have hge : (0 : Int) ≤ (d : Int) := by omega
      have hbz : ((d : Int) == (d : Int)) = true := by simp
      have hbz2 : ((d : Int) != (d : Int)) = false := by simp
      go_wp2_with fail
      refine (HC.out _ _ _ am bm).mono ?_
      rintro e w2 ⟨rfl, hd2'⟩
      rw [I1.out]
      go_wp2_with fail
      refine (editDistance_spec _ _ _ am bm).mono ?_
      rintro e w3 ⟨rfl, hd3'⟩
      rw [I1.out]
      go_wp2_with fail
      refine (HC.out _ _ _ bm am).mono ?_
      rintro e w4 ⟨rfl, hd4'⟩
      rw [I2.out]
      have D := Lib.hid (below_step (below_step (below_step hb1 (Nat.le_refl _) hd2') (Nat.le_refl _) hd3') (Nat.le_refl _) hd4')
      clear hd2' hd3' hd4' hb1
      by_cases hab : a.size < b.size
      · have x1 : (a.size : Int) - b.size < (b.size : Int) - a.size := by omega
        have x2 : (b.size : Int) - a.size ≤ d := by omega
        have x3 : (d : Int) ≤ b.size := by omega
        have x4 : (a.size : Int) < b.size := by omega
        go_wp2_with fail
        refine (turned_any _ _ (by omega)).mono ?_
        rintro e w5 ⟨rfl, rfl⟩
        go_wp2_with fail
        refine (turned_any _ _ (by omega)).mono ?_
        rintro e w5 ⟨rfl, rfl⟩
        go_wp2_with fail
        refine (HC.out _ _ _ (by rw [textOf_size]; simpa using am) (by rw [textOf_size]; simpa using bm)).mono ?_
        rintro e w5 ⟨rfl, hd5⟩
        rw [textOf_list, textOf_list, I3.out]
        go_wp2_with fail
        go_ret
        exact ⟨rfl, below_step D.out (Nat.le_refl _) hd5⟩
      · have x1 : ¬ (a.size : Int) - b.size < (b.size : Int) - a.size := by omega
        have x2 : (a.size : Int) - b.size ≤ d := by omega
        have x3 : (d : Int) ≤ a.size := by omega
        have x4 : ¬ (a.size : Int) < b.size := by omega
        go_wp2_with fail
        refine (turned_any _ _ (by omega)).mono ?_
        rintro e w5 ⟨rfl, rfl⟩
        go_wp2_with fail
        refine (turned_any _ _ (by omega)).mono ?_
        rintro e w5 ⟨rfl, rfl⟩
        go_wp2_with fail
        refine (HC.out _ _ _ (by rw [textOf_size]; simpa using am) (by rw [textOf_size]; simpa using bm)).mono ?_
        rintro e w5 ⟨rfl, hd5⟩
        rw [textOf_list, textOf_list, I3.out]
        go_wp2_with fail
        go_ret
        exact ⟨rfl, below_step D.out (Nat.le_refl _) hd5⟩
    · have hI := twoI_no (f := fun x y => (ed false x y : Int)) (by simpa using hv : (wordB a.data.toList && wordB b.data.toList) = false)
      rw [hI] at hS
      have I1 := Lib.hid hI
      have I2 := Lib.hid hS
      clear hI hS hv h hnc hc
      go_wp2_with fail
      refine (HC.out _ _ _ am bm).mono ?_
      rintro e w2 ⟨rfl, hd2'⟩
      rw [I1.out]
      go_wp2_with fail
      refine (editDistance_spec _ _ _ am bm).mono ?_
      rintro e w3 ⟨rfl, hd3'⟩
      rw [I1.out]
      go_wp2_with fail
      refine (HC.out _ _ _ bm am).mono ?_
      rintro e w4 ⟨rfl, hd4'⟩
      rw [I2.out]
      go_wp2_with fail
      refine (alive_any _).mono ?_
      rintro e w5 ⟨rfl, hd5⟩
      go_wp2_with fail
      go_ret
      exact ⟨rfl, below_step (below_step (below_step (below_step hb1 (Nat.le_refl _) hd2') (Nat.le_refl _) hd3') (Nat.le_refl _) hd4') (Nat.le_refl _) hd5.below⟩
end Go.Proofs.Ytacnaipcjihkkaa
