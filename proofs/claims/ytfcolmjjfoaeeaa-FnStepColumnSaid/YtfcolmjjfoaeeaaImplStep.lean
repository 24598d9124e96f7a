/- Contract of the program's StepColumn. -/
import Derived.Test.YtfcolmjjfoaeeaaImplNext
namespace Go.Proofs.Ytfcolmjjfoaeeaa
open Go.RowKit
set_option maxHeartbeats 1600000
set_option linter.unusedSimpArgs false
set_option linter.unusedVariables false

theorem stepV_minus {a b : ByteArray} {c : UInt8} (h : (wordB a.data.toList && wordB b.data.toList && letterB c.toNat && decide (b.size < 12)) = false) : stepV a b c = .tuple #[.int .i64 (-1), .int .i64 (-1)] := by
  by_cases h2 : (letterB c.toNat && decide (b.size < 12)) = true
  · rw [stepV_yes h2]
    apply colV_no
    have e : wordB (snocB b c).data.toList = true → wordB b.data.toList = true := by
      rw [snocB_list]
      intro h3
      unfold wordB lettersB at h3 ⊢
      simp only [Bool.and_eq_true, List.all_append, List.length_append, List.length_singleton, decide_eq_true_eq] at h3 ⊢
      exact ⟨by omega, h3.2.1⟩
    cases h4 : wordB a.data.toList
    · rfl
    · cases h5 : wordB (snocB b c).data.toList
      · rfl
      · rw [e h5, h4] at h
        simp only [Bool.and_eq_true] at h2
        rw [h2.1, h2.2] at h
        exact absurd h (by decide)
  · exact stepV_no (by simpa using h2)
theorem stepV_word {a b : ByteArray} {c : UInt8} (ha : wordB a.data.toList = true) (hb : wordB b.data.toList = true) (hc : letterB c.toNat = true) (h : b.size < 12) : stepV a b c = .tuple #[.int .i64 (upN a.data.toList (b.data.toList ++ [c]) : Int), .int .i64 (downN a.data.toList (b.data.toList ++ [c]) : Int)] := by
  rw [stepV_yes (by rw [hc]; simpa using h), colV_yes, snocB_list]
  rw [ha, snocB_list]
  unfold wordB lettersB at hb ⊢
  simp only [Bool.and_eq_true, List.all_append, List.length_append, List.length_singleton, decide_eq_true_eq, Bool.true_and, len_eq, List.all_cons, List.all_nil, Bool.and_true] at hb ⊢
  exact ⟨by omega, hb.2, hc⟩

theorem stepColumn_impl : StepC := by
  intro a b c w ha hb
  have ha' := ha
  have hb' := hb
  unfold maxLen at ha hb
  have c0 : (0 : Int) ≤ (c.toNat : Int) := by omega
  have c1 : (c.toNat : Int) ≤ 255 := by have := c.toNat_lt; omega
  cases hva : wordB a.data.toList
  · have HN := Lib.hid (stepV_minus (a := a) (b := b) (c := c) (by rw [hva]; rfl))
    have HA := Lib.hid hva
    clear hva
    go_enter Try.func24, Try.ntmps24
    go_wp2_with fail
    refine (wordValid_impl _ _ ha').mono ?_
    rintro e w' ⟨rfl, rfl⟩
    rw [HA.out]
    go_wp2_with fail
    go_ret2
    exact ⟨by rw [HN.out]; rfl, Below.refl _ _⟩
  · cases hvb : wordB b.data.toList
    · have HN := Lib.hid (stepV_minus (a := a) (b := b) (c := c) (by rw [hva, hvb]; rfl))
      have HA := Lib.hid hva
      have HB := Lib.hid hvb
      clear hva hvb
      go_enter Try.func24, Try.ntmps24
      go_wp2_with fail
      refine (wordValid_impl _ _ ha').mono ?_
      rintro e w' ⟨rfl, rfl⟩
      rw [HA.out]
      go_wp2_with fail
      refine (wordValid_impl _ _ hb').mono ?_
      rintro e w' ⟨rfl, rfl⟩
      rw [HB.out]
      go_wp2_with fail
      go_ret2
      exact ⟨by rw [HN.out]; rfl, Below.refl _ _⟩
    · have ha2 := word_size hva
      have hb2 := word_size hvb
      by_cases h12 : (b.size : Int) = 12
      · have HN := Lib.hid (stepV_minus (a := a) (b := b) (c := c) (by rw [show decide (b.size < 12) = false by simp; omega]; simp))
        have HA := Lib.hid hva
        have HB := Lib.hid hvb
        clear hva hvb
        have hd : decide ((b.size : Int) = 12) = true := by simpa using h12
        have HD := Lib.hid h12
        clear h12
        go_enter Try.func24, Try.ntmps24
        go_wp2_with fail
        refine (wordValid_impl _ _ ha').mono ?_
        rintro e w' ⟨rfl, rfl⟩
        rw [HA.out]
        go_wp2_with fail
        refine (wordValid_impl _ _ hb').mono ?_
        rintro e w' ⟨rfl, rfl⟩
        rw [HB.out]
        go_wp2_with fail
        go_ret2
        exact ⟨by rw [HN.out]; rfl, Below.refl _ _⟩
      · cases hcl : letterB (c.toNat : Int)
        · have HN := Lib.hid (stepV_minus (a := a) (b := b) (c := c) (by rw [hcl]; simp))
          have HA := Lib.hid hva
          have HB := Lib.hid hvb
          have HC := Lib.hid hcl
          clear hva hvb hcl
          go_enter Try.func24, Try.ntmps24
          go_wp2_with fail
          refine (wordValid_impl _ _ ha').mono ?_
          rintro e w' ⟨rfl, rfl⟩
          rw [HA.out]
          go_wp2_with fail
          refine (wordValid_impl _ _ hb').mono ?_
          rintro e w' ⟨rfl, rfl⟩
          rw [HB.out]
          go_wp2_with (go_at_call 30; refine (isLetter_any _ _ c0 c1).mono ?_; rintro e w' ⟨rfl, rfl⟩; rw [HC.out])
          go_ret2
          exact ⟨by rw [HN.out]; rfl, Below.refl _ _⟩
        · have HN := Lib.hid (stepV_word (a := a) (b := b) (c := c) hva hvb hcl (by omega))
          have HV := Lib.hid (colV_yes (a := a.data.toList) (b := b.data.toList) (by rw [hva, hvb]; rfl))
          have HM := Lib.hid (show maskI a.data.toList (c.toNat : Int) = (maskN (hasAt a.data.toList (c.toNat : Int)) a.size : Int) by rw [maskI_yes (by rw [hva, hcl]; rfl), len_eq])
          have HA := Lib.hid hva
          have HB := Lib.hid hvb
          have HC := Lib.hid hcl
          clear hva hvb hcl
          go_enter Try.func24, Try.ntmps24
          go_wp2_with fail
          refine (wordValid_impl _ _ ha').mono ?_
          rintro e w' ⟨rfl, rfl⟩
          rw [HA.out]
          go_wp2_with fail
          refine (wordValid_impl _ _ hb').mono ?_
          rintro e w' ⟨rfl, rfl⟩
          rw [HB.out]
          go_wp2_with (go_at_call 30; refine (isLetter_any _ _ c0 c1).mono ?_; rintro e w' ⟨rfl, rfl⟩; rw [HC.out])
          refine (bitColumn_impl.is HV.out _ ha' hb').mono ?_
          rintro e w1 ⟨rfl, hb1⟩
          go_wp2_with fail
          refine (allPlaces_impl a.size _ ha2).mono ?_
          rintro e w2 ⟨rfl, rfl⟩
          go_wp2_with fail
          refine (letterMask_impl.is HM.out _ ha' c0 c1).mono ?_
          rintro e w3 ⟨rfl, hb3⟩
          have hb3 := below_step hb1 (Nat.le_refl _) hb3
          go_wp2_with fail
          refine (nextColumn_impl (a := a.data.toList) (b := b.data.toList) (c := c) (by rw [len_eq]; exact ha2) (len_eq a) _).mono ?_
          rintro e w4 ⟨rfl, rfl⟩
          go_wp2_with fail
          go_ret2
          exact ⟨by rw [HN.out]; rfl, hb3⟩
end Go.Proofs.Ytfcolmjjfoaeeaa
