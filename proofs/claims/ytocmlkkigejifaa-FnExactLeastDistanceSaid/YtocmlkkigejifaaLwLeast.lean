/- The walks of the law FnLeastDistance and of the exact laws of chapter 4, over contracts of the program. -/
import Derived.Test.YtocmlkkigejifaaLwBand
import Derived.Test.YtocmlkkigejifaaTurned
namespace Go.Proofs.Ytocmlkkigejifaa
open Go.RowKit
set_option maxHeartbeats 1600000
set_option linter.unusedSimpArgs false
set_option linter.unusedVariables false

/-- what impl.LeastDistance does -/
def LeastC : Prop := ∀ (a b : ByteArray) (w : World), a.size ≤ maxLen → b.size ≤ maxLen →
  Calls Try.prog 20 #[.string a, .string b] w fun e w' => e = .returned (.int .i64 (twoI (fun x y => (leastD x y : Int)) a.data.toList b.data.toList)) ∧ Below w.heap.size w w'
theorem word_letters {l : List UInt8} (h : wordB l = true) : ∀ x ∈ l, 97 ≤ x.toNat ∧ x.toNat ≤ 122 := by
  intro x hx
  unfold wordB lettersB at h
  simp only [Bool.and_eq_true, List.all_eq_true] at h
  have := h.2 x hx
  simp [letterB] at this
  omega
theorem walkFnLeastDistance (HC : LeastC) (HE : EditC) (A : Option Addr) (n c : Nat) (w : World) (h : Bytes w w.heap.size A n) (hnc : n ≤ c) (hc : c ≤ maxLen) :
    Calls Try.prog 5 #[.slice A n c] w fun e w' => e = .returned (.bool true) ∧ Below w.heap.size w w' := by
  have HC := Lib.hid HC
  have HE := Lib.hid HE
  have hn : n ≤ maxLen := Nat.le_trans hnc hc
  unfold maxLen at hn
  by_cases hn2 : (1048576 : Int) < n
  · go_enter Try.func5, Try.ntmps5
    go_wp2_with fail
    go_ret
    exact ⟨rfl, Below.refl _ _⟩
  · go_enter Try.func5, Try.ntmps5
    go_wp2_with fail
    refine (drawLeastDistance_any _ _ _ _ h hnc hc).mono ?_
    rintro e w1 ⟨a, b, rfl, ha, hb, hb1⟩
    have am : a.size ≤ maxLen := by unfold maxLen; omega
    have bm : b.size ≤ maxLen := by unfold maxLen; omega
    clear h hnc hc
    have hS := twoI_symm (f := fun x y => (leastD x y : Int)) (fun a b => by simp only [leastD_symm a b]) b.data.toList a.data.toList
    by_cases hv : (wordB a.data.toList && wordB b.data.toList) = true
    · have hI := twoI_yes (f := fun x y => (leastD x y : Int)) hv
      rw [hI] at hS
      have hva : wordB a.data.toList = true := (Bool.and_eq_true _ _ ▸ hv).1
      have hvb : wordB b.data.toList = true := (Bool.and_eq_true _ _ ▸ hv).2
      have hR := twoI_yes (f := fun x y => (leastD x y : Int)) (a := a.data.toList) (b := a.data.toList.reverse) (by rw [wordB_rev, hva]; rfl)
      simp only [leastD_rev] at hR
      have hE := twoI_yes (f := fun x y => (ed false x y : Int)) hv
      have hd1 := leastD_diff (word_letters hva) (word_letters hvb)
      have hd2 := leastD_le false a.data.toList b.data.toList
      have hd3 := ed_most false a.data.toList b.data.toList
      rw [len_eq, len_eq] at hd1 hd3
      generalize leastD a.data.toList b.data.toList = d at *
      generalize ed false a.data.toList b.data.toList = e0 at *
      have I1 := Lib.hid hI
      have I2 := Lib.hid hS
      have I3 := Lib.hid hR
      have I4 := Lib.hid hE
      clear hI hS hR hE hv hva hvb
      have hwa := IntWalk.i64_in ((a.size : Int) - b.size) (by omega)
      have hwb := IntWalk.i64_in ((b.size : Int) - a.size) (by omega)
      have hge : (0 : Int) ≤ (d : Int) := by omega
      have hbz2 : ((d : Int) != (d : Int)) = false := by simp
      have hle : (d : Int) ≤ (e0 : Int) := by omega
      go_wp2_with fail
      refine (HC.out _ _ _ am bm).mono ?_
      rintro e w2 ⟨rfl, hd2'⟩
      rw [I1.out]
      go_wp2_with fail
      refine (leastDistance_spec _ _ _ am bm).mono ?_
      rintro e w3 ⟨rfl, hd3'⟩
      rw [I1.out]
      go_wp2_with fail
      refine (HC.out _ _ _ bm am).mono ?_
      rintro e w4 ⟨rfl, hd4'⟩
      rw [I2.out]
      have B4 := below_step (below_step (below_step hb1 (Nat.le_refl _) hd2') (Nat.le_refl _) hd3') (Nat.le_refl _) hd4'
      clear hd2' hd3' hd4' hb1
      go_wp2_with fail
      refine (HE.out _ _ _ am bm).mono ?_
      rintro e w5 ⟨rfl, hd5'⟩
      rw [I4.out]
      have B5 := below_step B4 (Nat.le_refl _) hd5'
      clear B4 hd5'
      by_cases hab : a.size < b.size
      · have x1 : (a.size : Int) - b.size < (b.size : Int) - a.size := by omega
        have x2 : (b.size : Int) - a.size ≤ d := by omega
        go_wp2_with fail
        refine (turned_any _ _ (by omega)).mono ?_
        rintro e w6 ⟨rfl, rfl⟩
        go_wp2_with fail
        refine (HC.out _ _ _ am (by rw [textOf_size]; simpa using am)).mono ?_
        rintro e w6 ⟨rfl, hd6⟩
        rw [textOf_list, I3.out]
        go_wp2_with fail
        go_ret
        exact ⟨rfl, below_step B5 (Nat.le_refl _) hd6⟩
      · have x1 : ¬ (a.size : Int) - b.size < (b.size : Int) - a.size := by omega
        have x2 : (a.size : Int) - b.size ≤ d := by omega
        go_wp2_with fail
        refine (turned_any _ _ (by omega)).mono ?_
        rintro e w6 ⟨rfl, rfl⟩
        go_wp2_with fail
        refine (HC.out _ _ _ am (by rw [textOf_size]; simpa using am)).mono ?_
        rintro e w6 ⟨rfl, hd6⟩
        rw [textOf_list, I3.out]
        go_wp2_with fail
        go_ret
        exact ⟨rfl, below_step B5 (Nat.le_refl _) hd6⟩
    · have hI := twoI_no (f := fun x y => (leastD x y : Int)) (by simpa using hv : (wordB a.data.toList && wordB b.data.toList) = false)
      rw [hI] at hS
      have I1 := Lib.hid hI
      have I2 := Lib.hid hS
      clear hI hS hv
      go_wp2_with fail
      refine (HC.out _ _ _ am bm).mono ?_
      rintro e w2 ⟨rfl, hd2'⟩
      rw [I1.out]
      go_wp2_with fail
      refine (leastDistance_spec _ _ _ am bm).mono ?_
      rintro e w3 ⟨rfl, hd3'⟩
      rw [I1.out]
      go_wp2_with fail
      refine (HC.out _ _ _ bm am).mono ?_
      rintro e w4 ⟨rfl, hd4'⟩
      rw [I2.out]
      go_wp2_with fail
      refine (alive_any _).mono ?_
      rintro e w5 ⟨rfl, hd5⟩
      go_wp2_with fail
      go_ret
      exact ⟨rfl, below_step (below_step (below_step (below_step hb1 (Nat.le_refl _) hd2') (Nat.le_refl _) hd3') (Nat.le_refl _) hd4') (Nat.le_refl _) hd5.below⟩
theorem walkFnExactLeastDistance (HC : LeastC) (a b : ByteArray) (w : World) (ha : a.size ≤ maxLen) (hb : b.size ≤ maxLen) :
    Calls Try.prog 9 #[.string a, .string b] w fun e w' => e = .returned (.bool true) ∧ Below w.heap.size w w' := by
  have HC := Lib.hid HC
  have ha' := ha
  have hb' := hb
  unfold maxLen at ha hb
  by_cases h1 : (1048576 : Int) < a.size
  · go_enter Try.func9, Try.ntmps9
    go_wp2_with fail
    go_ret
    exact ⟨rfl, Below.refl _ _⟩
  · by_cases h2 : (1048576 : Int) < b.size
    · go_enter Try.func9, Try.ntmps9
      go_wp2_with fail
      go_ret
      exact ⟨rfl, Below.refl _ _⟩
    · go_enter Try.func9, Try.ntmps9
      go_wp2_with fail
      refine (leastDistance_spec _ _ _ ha' hb').mono ?_
      rintro e w1 ⟨rfl, hd1⟩
      generalize hv : twoI (fun x y => (leastD x y : Int)) a.data.toList b.data.toList = v
      have hvz : (v != v) = false := by simp
      go_wp2_with fail
      refine (HC.out _ _ _ ha' hb').mono ?_
      rintro e w2 ⟨rfl, hd2⟩
      rw [hv]
      clear hv
      go_wp2_with fail
      go_ret
      exact ⟨rfl, below_step hd1 (Nat.le_refl _) hd2⟩
theorem walkFnExactWithinDistance (HC : WithinC) (a b : ByteArray) (k : Int) (w : World) (ha : a.size ≤ maxLen) (hb : b.size ≤ maxLen) (hk : (Lit.int .i64 k).wf = true) :
    Calls Try.prog 7 #[.string a, .string b, .int .i64 k] w fun e w' => e = .returned (.bool true) ∧ Below w.heap.size w w' := by
  have HC := Lib.hid HC
  have ha' := ha
  have hb' := hb
  unfold maxLen at ha hb
  by_cases h1 : (1048576 : Int) < a.size
  · go_enter Try.func7, Try.ntmps7
    go_wp2_with fail
    go_ret
    exact ⟨rfl, Below.refl _ _⟩
  · by_cases h2 : (1048576 : Int) < b.size
    · go_enter Try.func7, Try.ntmps7
      go_wp2_with fail
      go_ret
      exact ⟨rfl, Below.refl _ _⟩
    · go_enter Try.func7, Try.ntmps7
      go_wp2_with fail
      refine (withinDistance_spec _ _ _ _ ha' hb').mono ?_
      rintro e w1 ⟨rfl, hd1⟩
      generalize hv : threeI withinV a.data.toList b.data.toList k = v
      have hvz : (v != v) = false := by simp
      go_wp2_with fail
      refine (HC.out _ _ _ _ ha' hb').mono ?_
      rintro e w2 ⟨rfl, hd2⟩
      rw [hv]
      clear hv
      go_wp2_with fail
      go_ret
      exact ⟨rfl, below_step hd1 (Nat.le_refl _) hd2⟩
theorem walkFnExactBandCells (HC : BandC) (a b : ByteArray) (k : Int) (w : World) (ha : a.size ≤ maxLen) (hb : b.size ≤ maxLen) (hk : (Lit.int .i64 k).wf = true) :
    Calls Try.prog 8 #[.string a, .string b, .int .i64 k] w fun e w' => e = .returned (.bool true) ∧ Below w.heap.size w w' := by
  have HC := Lib.hid HC
  have ha' := ha
  have hb' := hb
  unfold maxLen at ha hb
  by_cases h1 : (1048576 : Int) < a.size
  · go_enter Try.func8, Try.ntmps8
    go_wp2_with fail
    go_ret
    exact ⟨rfl, Below.refl _ _⟩
  · by_cases h2 : (1048576 : Int) < b.size
    · go_enter Try.func8, Try.ntmps8
      go_wp2_with fail
      go_ret
      exact ⟨rfl, Below.refl _ _⟩
    · go_enter Try.func8, Try.ntmps8
      go_wp2_with fail
      refine (bandCells_spec _ _ _ _ ha' hb').mono ?_
      rintro e w1 ⟨rfl, hd1⟩
      generalize hv : threeI bandV a.data.toList b.data.toList k = v
      have hvz : (v != v) = false := by simp
      go_wp2_with fail
      refine (HC.out _ _ _ _ ha' hb').mono ?_
      rintro e w2 ⟨rfl, hd2⟩
      rw [hv]
      clear hv
      go_wp2_with fail
      go_ret
      exact ⟨rfl, below_step hd1 (Nat.le_refl _) hd2⟩
end Go.Proofs.Ytocmlkkigejifaa
