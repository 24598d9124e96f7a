/- Contracts of the program's bandAsked, bandAt, BandCells. -/
import Derived.Test.YtocmlkkigejifaaArr
import Derived.Test.YtocmlkkigejifaaBandSpec
import Derived.Test.YtocmlkkigejifaaLwBand
namespace Go.Proofs.Ytocmlkkigejifaa
open Go.RowKit
set_option maxHeartbeats 1600000
set_option linter.unusedSimpArgs false
set_option linter.unusedVariables false

theorem bandAsked_impl (a b : ByteArray) (k : Int) (w : World) (ha : a.size ≤ maxLen) (hb : b.size ≤ maxLen) :
    Calls Try.prog 30 #[.string a, .string b, .int .i64 k] w fun e w' => e = .returned (.bool (errB k && wordB a.data.toList && wordB b.data.toList)) ∧ w' = w := by
  have ha' := ha
  have hb' := hb
  cases hva : wordB a.data.toList
  · have HA := Lib.hid hva
    clear hva
    rw [Bool.and_false, Bool.false_and]
    go_enter Try.func30, Try.ntmps30
    go_wp2_with fail
    refine (wordValid_impl _ _ ha').mono ?_
    rintro e w' ⟨rfl, rfl⟩
    rw [HA.out]
    go_wp2_with fail
    go_ret
    exact ⟨rfl, rfl⟩
  · cases hvb : wordB b.data.toList
    · have HA := Lib.hid hva
      have HB := Lib.hid hvb
      clear hva hvb
      rw [Bool.and_false]
      go_enter Try.func30, Try.ntmps30
      go_wp2_with fail
      refine (wordValid_impl _ _ ha').mono ?_
      rintro e w' ⟨rfl, rfl⟩
      rw [HA.out]
      go_wp2_with fail
      refine (wordValid_impl _ _ hb').mono ?_
      rintro e w' ⟨rfl, rfl⟩
      rw [HB.out]
      go_wp2_with fail
      go_ret
      exact ⟨rfl, rfl⟩
    · have HA := Lib.hid hva
      have HB := Lib.hid hvb
      clear hva hvb
      rw [Bool.and_true, Bool.and_true]
      by_cases h1 : 0 ≤ k
      · by_cases h2 : k ≤ 4
        · have HE := Lib.hid (show errB k = true by unfold errB; simp [h1, h2])
          rw [HE.out]
          go_enter Try.func30, Try.ntmps30
          go_wp2_with fail
          refine (wordValid_impl _ _ ha').mono ?_
          rintro e w' ⟨rfl, rfl⟩
          rw [HA.out]
          go_wp2_with fail
          refine (wordValid_impl _ _ hb').mono ?_
          rintro e w' ⟨rfl, rfl⟩
          rw [HB.out]
          go_wp2_with fail
          go_ret
          exact ⟨rfl, rfl⟩
        · have HE := Lib.hid (show errB k = false by unfold errB; simp [h1, h2])
          have h3 : decide (k ≤ 4) = false := decide_eq_false h2
          rw [HE.out]
          go_enter Try.func30, Try.ntmps30
          go_wp2_with fail
          refine (wordValid_impl _ _ ha').mono ?_
          rintro e w' ⟨rfl, rfl⟩
          rw [HA.out]
          go_wp2_with fail
          refine (wordValid_impl _ _ hb').mono ?_
          rintro e w' ⟨rfl, rfl⟩
          rw [HB.out]
          go_wp2_with fail
          go_ret
          exact ⟨rfl, rfl⟩
      · have HE := Lib.hid (show errB k = false by unfold errB; rw [decide_eq_false h1, Bool.false_and])
        rw [HE.out]
        go_enter Try.func30, Try.ntmps30
        go_wp2_with fail
        refine (wordValid_impl _ _ ha').mono ?_
        rintro e w' ⟨rfl, rfl⟩
        rw [HA.out]
        go_wp2_with fail
        refine (wordValid_impl _ _ hb').mono ?_
        rintro e w' ⟨rfl, rfl⟩
        rw [HB.out]
        go_wp2_with fail
        go_ret
        exact ⟨rfl, rfl⟩

theorem bandAt_impl (i m e : Nat) (w : World) (hi : i ≤ 20) (hm : m ≤ 20) (he : e ≤ 4) :
    Calls Try.prog 32 #[.int .i64 i, .int .i64 m, .int .i64 e] w fun r w' => r = .returned (.tuple #[.int .i64 ((i - e : Nat) : Int), .int .i64 ((min m (i + e) : Nat) : Int)]) ∧ w' = w := by
  by_cases h1 : (0 : Int) < (i : Int) - (e : Int)
  · by_cases h2 : (i : Int) + (e : Int) < (m : Int)
    · have E1 := Lib.hid (show ((i - e : Nat) : Int) = (i : Int) - (e : Int) by omega)
      have E2 := Lib.hid (show ((min m (i + e) : Nat) : Int) = (i : Int) + (e : Int) by omega)
      rw [E1.out, E2.out]
      go_enter Try.func32, Try.ntmps32
      go_wp2_with fail
      refine bodyPost_ret (v := .tuple #[.int .i64 ((i : Int) - (e : Int)), .int .i64 ((i : Int) + (e : Int))]) (by simp [results, Try.results32, go_sem]) rfl ⟨rfl, rfl⟩
    · have E1 := Lib.hid (show ((i - e : Nat) : Int) = (i : Int) - (e : Int) by omega)
      have E2 := Lib.hid (show ((min m (i + e) : Nat) : Int) = (m : Int) by omega)
      rw [E1.out, E2.out]
      go_enter Try.func32, Try.ntmps32
      go_wp2_with fail
      refine bodyPost_ret (v := .tuple #[.int .i64 ((i : Int) - (e : Int)), .int .i64 ((m : Int))]) (by simp [results, Try.results32, go_sem]) rfl ⟨rfl, rfl⟩
  · by_cases h2 : (i : Int) + (e : Int) < (m : Int)
    · have E1 := Lib.hid (show ((i - e : Nat) : Int) = 0 by omega)
      have E2 := Lib.hid (show ((min m (i + e) : Nat) : Int) = (i : Int) + (e : Int) by omega)
      rw [E1.out, E2.out]
      go_enter Try.func32, Try.ntmps32
      go_wp2_with fail
      refine bodyPost_ret (v := .tuple #[.int .i64 0, .int .i64 ((i : Int) + (e : Int))]) (by simp [results, Try.results32, go_sem]) rfl ⟨rfl, rfl⟩
    · have E1 := Lib.hid (show ((i - e : Nat) : Int) = 0 by omega)
      have E2 := Lib.hid (show ((min m (i + e) : Nat) : Int) = (m : Int) by omega)
      rw [E1.out, E2.out]
      go_enter Try.func32, Try.ntmps32
      go_wp2_with fail
      refine bodyPost_ret (v := .tuple #[.int .i64 0, .int .i64 ((m : Int))]) (by simp [results, Try.results32, go_sem]) rfl ⟨rfl, rfl⟩

/-- the cells of a row in the band, counted at its two ends -/
theorem rowN_is (i e : Nat) : ∀ m, rowN i e (m + 1) = min m (i + e) + 1 - (i - e)
  | 0 => by unfold rowN nearB rowN; split <;> simp_all <;> omega
  | m + 1 => by
    have h := rowN_is i e m
    unfold rowN
    rw [h]
    unfold nearB
    split <;> simp_all <;> omega

theorem bandCells_impl : BandC := by
  intro a b k w ha hb
  have ha' := ha
  have hb' := hb
  unfold maxLen at ha hb
  cases hv : errB k && wordB a.data.toList && wordB b.data.toList
  · have HN := Lib.hid (threeI_no (f := bandV) hv)
    have HV := Lib.hid hv
    clear hv
    go_enter Try.func17, Try.ntmps17
    go_wp2_with fail
    refine (bandAsked_impl _ _ _ _ ha' hb').mono ?_
    rintro e w' ⟨rfl, rfl⟩
    rw [HV.out]
    go_wp2_with fail
    go_ret
    exact ⟨ret_int HN.out.symm, Below.refl _ _⟩
  · have hN := threeI_yes (f := bandV) hv
    have hv2 := hv
    simp only [Bool.and_eq_true] at hv2
    have ha2 := word_size hv2.1.2
    have hb2 := word_size hv2.2
    have hk : 0 ≤ k ∧ k ≤ 4 := by have h := hv2.1.1; unfold errB at h; simpa using h
    obtain ⟨e, rfl⟩ : ∃ e : Nat, k = (e : Int) := ⟨k.toNat, by omega⟩
    have he4 : e ≤ 4 := by omega
    have HN := Lib.hid (show threeI bandV a.data.toList b.data.toList (e : Int) = ((bandN (b.size + 1) e (a.size + 1) : Nat) : Int) by rw [hN]; unfold bandV; rw [len_eq, len_eq]; rfl)
    have HV := Lib.hid hv
    clear hv hv2 hN hk
    go_enter Try.func17, Try.ntmps17
    go_wp2_with fail
    refine (bandAsked_impl _ _ _ _ ha' hb').mono ?_
    rintro e2 w' ⟨rfl, rfl⟩
    rw [HV.out]
    go_wp2_with fail
    go_loopw [7, 19] (fun x i wr => ∃ p : Nat, p ≤ a.size + 1 ∧ x = .int .i64 (bandN (b.size + 1) e p : Nat) ∧ i = .int .i64 p ∧ Below w'.heap.size w' wr) (fun _ i _ => a.size + 1 - (intOf i).toNat)
    case atStart => exact ⟨0, Nat.zero_le _, rfl, rfl, Below.refl _ _⟩
    case round =>
      obtain ⟨p, hp, rfl, rfl, hbel⟩ := hrel
      by_cases hlt : p < a.size + 1
      · have hB0 : bandN (b.size + 1) e p ≤ 169 := by
          have h1 := bandN_table (b.size + 1) e p
          have h2 := Nat.mul_le_mul (show p ≤ 13 by omega) (show b.size + 1 ≤ 13 by omega)
          omega
        have HS := Lib.hid (show bandN (b.size + 1) e (p + 1) = bandN (b.size + 1) e p + rowN p e (b.size + 1) from rfl)
        have HR := Lib.hid (rowN_is p e b.size)
        generalize bandN (b.size + 1) e p = B at hB0 HS
        have hp0 : (p : Int) < (a.size : Int) + 1 := by omega
        go_wp2_with fail
        refine (bandAt_impl _ _ _ _ (by omega) (by omega) (by omega)).mono ?_
        rintro e3 w3 ⟨rfl, rfl⟩
        obtain ⟨F, hF⟩ : ∃ F, F = p - e := ⟨_, rfl⟩
        obtain ⟨T, hT⟩ : ∃ T, T = min b.size (p + e) := ⟨_, rfl⟩
        have hF2 : F ≤ 13 := by omega
        have hT2 : T ≤ 12 := by omega
        rw [← hF, ← hT]
        have HF := Lib.hid hF
        have HT := Lib.hid hT
        clear hF hT
        by_cases hpos : (0 : Int) < (T : Int) + 1 - (F : Int)
        · go_wp2_with fail
          go_roundw
          case rel => exact ⟨p + 1, by omega, by rw [HS.out, HR.out, ← HF.out, ← HT.out]; refine congrArg _ ?_; omega, by go_num, hbel⟩
          case measure => simp [intOf]; omega
        · go_wp2_with fail
          go_roundw
          case rel => exact ⟨p + 1, by omega, by rw [HS.out, HR.out, ← HF.out, ← HT.out]; refine congrArg _ ?_; omega, by go_num, hbel⟩
          case measure => simp [intOf]; omega
      · obtain rfl : p = a.size + 1 := by omega
        go_wp2_with fail
        go_ret
        exact ⟨ret_int HN.out.symm, hbel⟩
end Go.Proofs.Ytocmlkkigejifaa
