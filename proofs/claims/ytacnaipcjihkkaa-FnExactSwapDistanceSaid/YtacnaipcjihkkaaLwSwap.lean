/- The walk of the law FnSwapDistance, over contracts of impl.SwapDistance (SwapC), spec.SwapDistance (SwapSpecC) and impl.EditDistance (EditC). -/
import Derived.Test.YtacnaipcjihkkaaLwEdit
namespace Go.Proofs.Ytacnaipcjihkkaa
open Go.RowKit
set_option maxHeartbeats 1600000
set_option linter.unusedSimpArgs false
set_option linter.unusedVariables false

/-- what impl.SwapDistance does -/
def SwapC : Prop := ∀ (a b : ByteArray) (w : World), a.size ≤ maxLen → b.size ≤ maxLen →
  Calls Try.prog 18 #[.string a, .string b] w fun e w' => e = .returned (.int .i64 (twoI (fun x y => (ed true x y : Int)) a.data.toList b.data.toList)) ∧ Below w.heap.size w w'
/-- what spec.SwapDistance does -/
def SwapSpecC : Prop := ∀ (a b : ByteArray) (w : World), a.size ≤ maxLen → b.size ≤ maxLen →
  Calls Try.prog 19 #[.string a, .string b] w fun e w' => e = .returned (.int .i64 (twoI (fun x y => (ed true x y : Int)) a.data.toList b.data.toList)) ∧ Below w.heap.size w w'
theorem one_extract (s : ByteArray) (k : Nat) (hk : k < s.size) : (s.extract k (k + 1)).data.toList = [s[k]] := by
  rw [ByteArray.data_extract, Array.toList_extract]
  have h1 : s.data.toList.extract k (k + 1) = (s.data.toList.take (k + 1)).drop k := by rw [List.extract_eq_take_drop]; simp [List.drop_take]
  rw [h1, take_snoc s k hk, List.drop_left' (by simp; omega)]
theorem swapped_text (a : ByteArray) (p : Nat) (hp : a.size = p + 2) (hv : wordB a.data.toList = true) :
    (a.extract 0 p ++ a.extract (p + 1) (p + 2) ++ a.extract p (p + 1)).size = p + 2 ∧
    wordB (a.extract 0 p ++ a.extract (p + 1) (p + 2) ++ a.extract p (p + 1)).data.toList = true ∧
    ed true a.data.toList (a.extract 0 p ++ a.extract (p + 1) (p + 2) ++ a.extract p (p + 1)).data.toList ≤ 1 := by
  have e1 : (a.extract (p + 1) (p + 2)).data.toList = [a[p + 1]] := one_extract a (p + 1) (by omega)
  have e2 := one_extract a p (by omega)
  have e3 : (a.extract 0 p).data.toList = a.data.toList.take p := by simp
  have e4 : a.data.toList = a.data.toList.take p ++ [a[p], a[p + 1]] := by
    have h1 := take_snoc a (p + 1) (by omega)
    rw [take_snoc a p (by omega)] at h1
    have h2 : a.data.toList.take (p + 1 + 1) = a.data.toList := List.take_of_length_le (by rw [len_eq]; omega)
    rw [h2] at h1
    simpa using h1
  have e5 : (a.extract 0 p ++ a.extract (p + 1) (p + 2) ++ a.extract p (p + 1)).data.toList = a.data.toList.take p ++ [a[p + 1], a[p]] := by
    simp only [ByteArray.data_append, Array.toList_append, e1, e2, e3, List.append_assoc, List.cons_append, List.nil_append]
  refine ⟨?_, ?_, ?_⟩
  · rw [← len_eq, e5]; simp; omega
  · rw [e5]
    rw [e4] at hv
    unfold wordB lettersB at *
    simp only [List.length_append, List.length_cons, List.length_nil, List.all_append, List.all_cons, List.all_nil, Bool.and_true, Bool.and_eq_true, decide_eq_true_iff] at hv ⊢
    exact ⟨hv.1, hv.2.1, hv.2.2.2, hv.2.2.1⟩
  · rw [e5]
    have := sd_swapped (a.data.toList.take p) a[p] a[p + 1]
    rw [← e4] at this
    exact this

theorem walkFnSwapDistance (HC : SwapC) (HP : SwapSpecC) (HE : EditC) (A : Option Addr) (n c : Nat) (w : World) (h : Bytes w w.heap.size A n) (hnc : n ≤ c) (hc : c ≤ maxLen) :
    Calls Try.prog 4 #[.slice A n c] w fun e w' => e = .returned (.bool true) ∧ Below w.heap.size w w' := by
  have HC := Lib.hid HC
  have HE := Lib.hid HE
  have HP := Lib.hid HP
  have hn : n ≤ maxLen := Nat.le_trans hnc hc
  unfold maxLen at hn
  by_cases hn2 : (1048576 : Int) < n
  · go_enter Try.func4, Try.ntmps4
    go_wp2_with fail
    go_ret
    exact ⟨rfl, Below.refl _ _⟩
  · go_enter Try.func4, Try.ntmps4
    go_wp2_with fail
    refine (drawSwapDistance_any _ _ _ _ h hnc hc).mono ?_
    rintro e w1 ⟨a, b, rfl, ha, hb, hb1⟩
    have am : a.size ≤ maxLen := by unfold maxLen; omega
    have bm : b.size ≤ maxLen := by unfold maxLen; omega
    have hS := twoI_symm (f := fun x y => (ed true x y : Int)) (fun a b => by simp only [ed_symm true a b]) b.data.toList a.data.toList
    by_cases hv : (wordB a.data.toList && wordB b.data.toList) = true
    · have hI := twoI_yes (f := fun x y => (ed true x y : Int)) hv
      have hE := twoI_yes (f := fun x y => (ed false x y : Int)) hv
      have hva : wordB a.data.toList = true := by simp at hv; exact hv.1
      have hW := Lib.hid (fun (p : Nat) (hp : a.size = p + 2) => swapped_text a p hp hva)
      have hWT := Lib.hid (fun (t : ByteArray) (ht : wordB t.data.toList = true) => twoI_yes (f := fun x y => (ed true x y : Int)) (a := a.data.toList) (b := t.data.toList) (by rw [hva, ht]; rfl))
      have f1 := sd_le_ed a.data.toList b.data.toList
      have f2 := ed_le_sd a.data.toList b.data.toList
      have f4 := ed_most true a.data.toList b.data.toList
      have hd3 := ed_zero true a.data.toList b.data.toList
      have hq := text_beq a b
      rw [len_eq, len_eq] at f4
      rw [hI] at hS
      generalize ed true a.data.toList b.data.toList = m at *
      generalize ed false a.data.toList b.data.toList = d at *
      have hq2 : ((((m : Int) == 0) == (a.toList == b.toList)) = true) := by
        rw [hq]
        by_cases h0 : m = 0
        · rw [decide_eq_true (hd3.1 h0)]; simp [h0]
        · rw [decide_eq_false (fun h => h0 (hd3.2 h))]; simp; omega
      have I1 := Lib.hid hI
      have I2 := Lib.hid hS
      have I4 := Lib.hid hE
      clear hI hS hE hv hva h hnc hc hd3 hq
      have hw2 := IntWalk.i64_in (2 * (m : Int)) (by omega)
      have hge : (0 : Int) ≤ (m : Int) := by omega
      have hbz2 : ((m : Int) != (m : Int)) = false := by simp
      have y1 : (m : Int) ≤ d := by omega
      have y2 : (d : Int) ≤ 2 * m := by omega
      go_wp2_with fail
      refine (HC.out _ _ _ am bm).mono ?_
      rintro e w2 ⟨rfl, hd2'⟩
      rw [I1.out]
      go_wp2_with fail
      refine (HP.out _ _ _ am bm).mono ?_
      rintro e w3 ⟨rfl, hd3'⟩
      rw [I1.out]
      go_wp2_with fail
      refine (HC.out _ _ _ bm am).mono ?_
      rintro e w4 ⟨rfl, hd4'⟩
      rw [I2.out]
      go_wp2_with fail
      refine (HE.out _ _ _ am bm).mono ?_
      rintro e w4' ⟨rfl, hd4''⟩
      rw [I4.out]
      have D := Lib.hid (below_step (below_step (below_step (below_step hb1 (Nat.le_refl _) hd2') (Nat.le_refl _) hd3') (Nat.le_refl _) hd4') (Nat.le_refl _) hd4'')
      clear hd2' hd3' hd4' hd4'' hb1
      by_cases h1 : 1 < a.size
      · obtain ⟨p, hp⟩ : ∃ p, a.size = p + 2 := ⟨a.size - 2, by omega⟩
        obtain ⟨s1, s2, s3⟩ := hW.out p hp
        have hT := hWT.out _ s2
        have HT := Lib.hid hT
        have tm : (a.extract 0 p ++ a.extract (p + 1) (p + 2) ++ a.extract p (p + 1)).size ≤ maxLen := by rw [s1]; unfold maxLen; omega
        have HTM := Lib.hid tm
        have H3 := Lib.hid s3
        clear s1 s2 s3 hT tm
        have hwp := IntWalk.i64_in (p : Int) (by omega)
        have z0 : (a.size : Int) = (p : Int) + 2 := by omega
        have v1 : IntKind.i64.wrap ((a.size : Int) - 2) = (p : Int) := by rw [z0, Int.add_sub_cancel]; exact hwp
        have v2 : IntKind.i64.wrap ((a.size : Int) - 1) = (p : Int) + 1 := by rw [z0, show (p : Int) + 2 - 1 = (p : Int) + 1 by omega]; exact IntWalk.i64_in _ (by omega)
        clear z0
        have q0 : (0 : Int) ≤ (p : Int) := by omega
        have q1 : (p : Int) ≤ (a.size : Int) := by omega
        have q2 : (p : Int) + 1 ≤ (a.size : Int) := by omega
        have q3 : (1 : Int) < (a.size : Int) := by omega
        have q4 : (p : Int) ≤ (p : Int) + 1 := by omega
        have q5 : (0 : Int) ≤ (p : Int) + 1 := by omega
        go_wp2_with fail
        go_quiet (fail)
        go_wp2_with fail
        generalize hW5 : w4'.drewN nq = W5
        have D5 : Below w.heap.size w W5 := by rw [← hW5]; exact below_drewN D.out _
        clear hW5
        refine (HC.out _ _ _ am HTM.out).mono ?_
        rintro e w5 ⟨rfl, hd5⟩
        rw [HT.out]
        have h3 := H3.out
        generalize ed true a.data.toList (a.extract 0 p ++ a.extract (p + 1) (p + 2) ++ a.extract p (p + 1)).data.toList = q at *
        have r1 : ¬ (1 : Int) < (q : Int) := by omega
        go_wp2_with fail
        go_ret
        exact ⟨rfl, below_step D5 (Nat.le_refl _) hd5⟩
      · have q3 : ¬ (1 : Int) < (a.size : Int) := by omega
        go_wp2_with fail
        go_ret
        exact ⟨rfl, D.out⟩
    · have hI := twoI_no (f := fun x y => (ed true x y : Int)) (by simpa using hv : (wordB a.data.toList && wordB b.data.toList) = false)
      rw [hI] at hS
      have I1 := Lib.hid hI
      have I2 := Lib.hid hS
      clear hI hS hv h hnc hc
      go_wp2_with fail
      refine (HC.out _ _ _ am bm).mono ?_
      rintro e w2 ⟨rfl, hd2'⟩
      rw [I1.out]
      go_wp2_with fail
      refine (HP.out _ _ _ am bm).mono ?_
      rintro e w3 ⟨rfl, hd3'⟩
      rw [I1.out]
      go_wp2_with fail
      refine (HC.out _ _ _ bm am).mono ?_
      rintro e w4 ⟨rfl, hd4'⟩
      rw [I2.out]
      go_wp2_with fail
      refine (alive_any _).mono ?_
      rintro e w5 ⟨rfl, hd5⟩
      go_wp2_with fail
      go_ret
      exact ⟨rfl, below_step (below_step (below_step (below_step hb1 (Nat.le_refl _) hd2') (Nat.le_refl _) hd3') (Nat.le_refl _) hd4') (Nat.le_refl _) hd5.below⟩
end Go.Proofs.Ytacnaipcjihkkaa
