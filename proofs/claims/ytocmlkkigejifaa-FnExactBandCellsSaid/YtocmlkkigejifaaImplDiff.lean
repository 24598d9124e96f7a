/- Contract of the program's DifferentPlaces. -/
import Derived.Test.YtocmlkkigejifaaArr
import Derived.Test.YtocmlkkigejifaaDistFns
namespace Go.Proofs.Ytocmlkkigejifaa
open Go.RowKit
set_option maxHeartbeats 1600000
set_option linter.unusedSimpArgs false
set_option linter.unusedVariables false

theorem differentPlaces_impl (a b : ByteArray) (w : World) (ha : a.size ≤ maxLen) (hb : b.size ≤ maxLen) :
    Calls Try.prog 24 #[.string a, .string b] w fun e w' => e = .returned (.int .i64 (dpI a.data.toList b.data.toList)) ∧ Drawn w w' := by
  have ha' := ha
  have hb' := hb
  unfold maxLen at ha hb
  cases hva : wordB a.data.toList
  · have HN := Lib.hid (dpI_no (a := a.data.toList) (b := b.data.toList) (by rw [hva]; rfl))
    have HA := Lib.hid hva
    clear hva
    go_enter Try.func24, Try.ntmps24
    go_wp2_with fail
    refine (wordValid_impl _ _ ha').mono ?_
    rintro e w' ⟨rfl, rfl⟩
    rw [HA.out]
    go_wp2_with fail
    go_ret
    exact ⟨ret_int HN.out.symm, Drawn.refl _⟩
  · cases hvb : wordB b.data.toList
    · have HN := Lib.hid (dpI_no (a := a.data.toList) (b := b.data.toList) (by rw [hva, hvb]; rfl))
      have HA := Lib.hid hva
      have HB := Lib.hid hvb
      clear hva hvb
      go_enter Try.func24, Try.ntmps24
      go_wp2_with fail
      refine (wordValid_impl _ _ ha').mono ?_
      rintro e w' ⟨rfl, rfl⟩
      rw [HA.out]
      go_wp2_with fail
      refine (wordValid_impl _ _ hb').mono ?_
      rintro e w' ⟨rfl, rfl⟩
      rw [HB.out]
      go_wp2_with fail
      go_ret
      exact ⟨ret_int HN.out.symm, Drawn.refl _⟩
    · by_cases hl : a.size = b.size
      · have HN := Lib.hid (dpI_yes (a := a.data.toList) (b := b.data.toList) (by rw [hva, hvb, len_eq, len_eq, decide_eq_true hl]; rfl))
        have ha2 := word_size hva
        have hne : ((a.size : Int) != (b.size : Int)) = false := by simp; omega
        have HA := Lib.hid hva
        have HB := Lib.hid hvb
        clear hva hvb
        go_enter Try.func24, Try.ntmps24
        go_wp2_with fail
        refine (wordValid_impl _ _ ha').mono ?_
        rintro e w' ⟨rfl, rfl⟩
        rw [HA.out]
        go_wp2_with fail
        refine (wordValid_impl _ _ hb').mono ?_
        rintro e w' ⟨rfl, rfl⟩
        rw [HB.out]
        go_wp2_with fail
        go_loopw [5, 24] (fun v i wr => ∃ k d : Nat, k ≤ a.size ∧ i = .int .i64 k ∧ v = .int .i64 d ∧ d ≤ k ∧ Hid (dp (a.data.toList.take k) (b.data.toList.take k) = d) ∧ Drawn w wr) (fun _ i _ => a.size - (intOf i).toNat)
        case atStart => exact ⟨0, 0, Nat.zero_le _, rfl, rfl, Nat.le_refl _, by exact (rfl : dp [] [] = 0), Drawn.refl _⟩
        case round =>
          obtain ⟨k, d, hk, rfl, rfl, hd, HD, hdr⟩ := hrel
          by_cases hlt : k < a.size
          · have hlt2 : k < b.size := by omega
            have hk0 : (0 : Int) ≤ (k : Int) := by omega
            have hk1 : (k : Int) < (a.size : Int) := by omega
            have hk2 : (k : Int) < (b.size : Int) := by omega
            have hA0 := a[k].toNat_lt
            have hB0 := b[k].toNat_lt
            obtain ⟨c, hc, hcl, hst⟩ : ∃ c : Nat, (if ((a[k].toNat : Int) = (b[k].toNat : Int)) then (0 : Int) else 1) = (c : Int) ∧ c ≤ 1 ∧ dp (a.data.toList.take (k + 1)) (b.data.toList.take (k + 1)) = dp (a.data.toList.take k) (b.data.toList.take k) + c := by
              by_cases h : (a[k].toNat : Int) = (b[k].toNat : Int)
              · exact ⟨0, by rw [if_pos h]; rfl, by omega, dp_at_eq a b k hlt hlt2 (by simpa using h)⟩
              · exact ⟨1, by rw [if_neg h]; rfl, by omega, dp_at_ne a b k hlt hlt2 (by simpa using h)⟩
            have HC := Lib.hid hc
            have HE := Lib.hid hst
            clear hc hst
            have hw := IntWalk.i64_in ((d : Int) + c) (by omega)
            go_wp2_with fail
            go_quiet ((go_at_call 33; exact quiet_left (costOfPair_is HC.out _ (by omega) (by have := a[k].toNat_lt; omega) (by omega) (by have := b[k].toNat_lt; omega))))
            go_wp2_with fail
            go_roundw
            case rel => exact ⟨k + 1, d + c, by omega, by go_num, by go_num, by omega, HE.out.trans (congrArg (· + c) HD.out), hdr.drewN _⟩
            case measure => simp [intOf]; omega
          · obtain rfl : k = a.size := by omega
            go_wp2_with fail
            go_ret
            refine ⟨ret_int ?_, hdr⟩
            have h5 := HD.out
            rw [take_all, hl, take_all] at h5
            rw [HN.out, h5]
      · have HN := Lib.hid (dpI_no (a := a.data.toList) (b := b.data.toList) (by rw [hva, hvb, len_eq, len_eq, decide_eq_false hl]; rfl))
        have hne : ((a.size : Int) != (b.size : Int)) = true := by simp; omega
        have HA := Lib.hid hva
        have HB := Lib.hid hvb
        clear hva hvb
        go_enter Try.func24, Try.ntmps24
        go_wp2_with fail
        refine (wordValid_impl _ _ ha').mono ?_
        rintro e w' ⟨rfl, rfl⟩
        rw [HA.out]
        go_wp2_with fail
        refine (wordValid_impl _ _ hb').mono ?_
        rintro e w' ⟨rfl, rfl⟩
        rw [HB.out]
        go_wp2_with fail
        go_ret
        exact ⟨ret_int HN.out.symm, Drawn.refl _⟩
end Go.Proofs.Ytocmlkkigejifaa
