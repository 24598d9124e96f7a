/- The walk of the law FnWordValid, and the fixed answer (alive). -/
import Derived.Test.YtmlokccdgajamaaWordDraw
import Derived.Test.YtmlokccdgajamaaLst
import Derived.Test.YtmlokccdgajamaaShared
import Derived.Lib.Strings
namespace Go.Proofs.Ytmlokccdgajamaa
open Go.RowKit
set_option maxHeartbeats 400000
set_option linter.unusedSimpArgs false
set_option linter.unusedVariables false

theorem alive_any (w : World) : Calls Try.prog 16 #[] w fun e w' => e = .returned (.bool true) ∧ Drawn w w' := by
  have hv : sharedI (ByteArray.mk #[119, 111, 114, 100]).data.toList (ByteArray.mk #[119, 111, 114, 108, 100]).data.toList = 3 := by decide
  have HV := Lib.hid hv
  clear hv
  go_enter Try.func16, Try.ntmps16
  go_wp2_with fail
  refine (sharedStart_impl _ _ _ (by decide) (by decide)).mono ?_
  rintro e w' ⟨rfl, hd⟩
  rw [HV.out]
  go_wp2_with fail
  go_ret
  exact ⟨rfl, hd⟩

theorem wordValid_impl_is {s : ByteArray} {v : Bool} (hv : wordB s.data.toList = v) (w : World) (hs : s.size ≤ maxLen) :
    Calls Try.prog 14 #[.string s] w fun e w' => e = .returned (.bool v) ∧ w = w' := hv ▸ wordValid_impl s w hs

def TextPost (k : Nat) (w : World) (e : Ending) (w' : World) : Prop := ∃ t : ByteArray, e = .returned (.string t) ∧ t.size ≤ k ∧ Below w.heap.size w w'
theorem drawWordValid_any (A : Option Addr) (n c : Nat) (w : World) (h : Bytes w w.heap.size A n) (hnc : n ≤ c) (hc : c ≤ maxLen) :
    Calls Try.prog 13 #[.slice A n c] w (TextPost 13 w) := by
  go_enter Try.func13, Try.ntmps13
  go_wp2_with fail
  refine (open_any _ _ _ _ h hnc hc).mono ?_
  rintro e w1 ⟨g, rfl, hg, hr, hb⟩
  go_wp2_with fail
  refine (word_any g 0 _ _ hr (by omega) (by omega) (by omega)).mono ?_
  rintro e w2 ⟨t, rfl, ht, hd, -⟩
  go_wp2_with fail
  go_ret
  exact ⟨t, rfl, ht, hb.trans (below_only hd hg hb.size)⟩

theorem word_take {l : List UInt8} (h : wordB l = true) (k : Nat) : wordB (l.take k) = true := by
  unfold wordB at *
  rw [Bool.and_eq_true, decide_eq_true_iff] at *
  refine ⟨by rw [List.length_take]; omega, ?_⟩
  unfold lettersB at *
  rw [List.all_eq_true] at *
  exact fun x hx => h.2 x (List.mem_of_mem_take hx)
theorem word_cap {l : List UInt8} : wordB (l ++ [65]) = false := by
  unfold wordB lettersB
  rw [List.all_append]
  simp [letterB]

theorem walkFnWordValid (A : Option Addr) (n c : Nat) (w : World) (h : Bytes w w.heap.size A n) (hnc : n ≤ c) (hc : c ≤ maxLen) :
    Calls Try.prog 3 #[.slice A n c] w fun e w' => e = .returned (.bool true) ∧ Below w.heap.size w w' := by
  have hn : n ≤ maxLen := Nat.le_trans hnc hc
  unfold maxLen at hn
  by_cases hn2 : (1048576 : Int) < n
  · go_enter Try.func3, Try.ntmps3
    go_wp2_with fail
    go_ret
    exact ⟨rfl, Below.refl _ _⟩
  · go_enter Try.func3, Try.ntmps3
    go_wp2_with fail
    refine (drawWordValid_any _ _ _ _ h hnc hc).mono ?_
    rintro e w1 ⟨s, rfl, hs, hb⟩
    have e0 : wordB (ByteArray.mk #[]).data.toList = true := by decide
    have e1 : wordB (s ++ ByteArray.mk #[65]).data.toList = false := by
      have : (s ++ ByteArray.mk #[65]).data.toList = s.data.toList ++ [65] := by simp
      rw [this]; exact word_cap
    have sz : (ByteArray.mk #[65]).size = 1 := rfl
    have hcat : ∀ W : World, (Op.stringOp .add s ⟨#[65]⟩).run Try.prog W = .ok (.string (s ++ ⟨#[65]⟩)) W := fun W => run_string_add_sum W s _ (by omega)
    have m0 : s.size ≤ maxLen := by unfold maxLen; omega
    have m1 : (s ++ ByteArray.mk #[65]).size ≤ maxLen := by rw [ByteArray.size_append]; unfold maxLen; omega
    cases hw : wordB s.data.toList
    · have C := Lib.hid (wordValid_impl_is hw)
      have CS := Lib.hid (wordValid_spec_is hw)
      have C0 := Lib.hid (wordValid_impl_is e0)
      have C1 := Lib.hid (wordValid_impl_is e1)
      clear e0 e1 hw
      go_wp2_with fail
      refine (C.out _ m0).mono ?_
      rintro e w' ⟨rfl, rfl⟩
      go_wp2_with fail
      refine (CS.out _ m0).mono ?_
      rintro e w' ⟨rfl, rfl⟩
      go_wp2_with fail
      refine (C1.out _ m1).mono ?_
      rintro e w' ⟨rfl, rfl⟩
      go_wp2_with fail
      refine (C0.out _ (by decide)).mono ?_
      rintro e w' ⟨rfl, rfl⟩
      go_wp2_with fail
      refine (alive_any _).mono ?_
      rintro e w2 ⟨rfl, hd⟩
      go_wp2_with fail
      go_ret
      exact ⟨rfl, below_step hb (Nat.le_refl _) hd.below⟩
    · have e2 : wordB (s.extract 0 (s.size / 2)).data.toList = true := by
        have : (s.extract 0 (s.size / 2)).data.toList = s.data.toList.take (s.size / 2) := by simp
        rw [this]; exact word_take hw _
      have m2 : (s.extract 0 (s.size / 2)).size ≤ maxLen := by rw [ByteArray.size_extract]; unfold maxLen; omega
      have C := Lib.hid (wordValid_impl_is hw)
      have CS := Lib.hid (wordValid_spec_is hw)
      have C0 := Lib.hid (wordValid_impl_is e0)
      have C1 := Lib.hid (wordValid_impl_is e1)
      have C2 := Lib.hid (wordValid_impl_is e2)
      clear e0 e1 e2 hw
      go_wp2_with fail
      refine (C.out _ m0).mono ?_
      rintro e w' ⟨rfl, rfl⟩
      go_wp2_with fail
      refine (CS.out _ m0).mono ?_
      rintro e w' ⟨rfl, rfl⟩
      go_wp2_with fail
      refine (C2.out _ m2).mono ?_
      rintro e w' ⟨rfl, rfl⟩
      go_wp2_with fail
      refine (C1.out _ m1).mono ?_
      rintro e w' ⟨rfl, rfl⟩
      go_wp2_with fail
      refine (C0.out _ (by decide)).mono ?_
      rintro e w' ⟨rfl, rfl⟩
      go_wp2_with fail
      refine (alive_any _).mono ?_
      rintro e w2 ⟨rfl, hd⟩
      go_wp2_with fail
      go_ret
      exact ⟨rfl, below_step hb (Nat.le_refl _) hd.below⟩
end Go.Proofs.Ytmlokccdgajamaa
