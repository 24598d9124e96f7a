/- Contracts: the model's EditDistance and DifferentPlaces; the law's turned. -/
import Derived.Test.YtacnaipcjihkkaaDistSpec
import Derived.Test.YtacnaipcjihkkaaCommon
namespace Go.Proofs.Ytacnaipcjihkkaa
open Go.RowKit
set_option maxHeartbeats 800000
set_option linter.unusedSimpArgs false
set_option linter.unusedVariables false

/-- the answer of a function of two words: -1 for other words -/
def twoI (f : List UInt8 → List UInt8 → Int) (a b : List UInt8) : Int := if wordB a && wordB b then f a b else -1
theorem twoI_no {f : List UInt8 → List UInt8 → Int} {a b : List UInt8} (h : (wordB a && wordB b) = false) : twoI f a b = -1 := by unfold twoI; rw [h]; rfl
theorem twoI_yes {f : List UInt8 → List UInt8 → Int} {a b : List UInt8} (h : (wordB a && wordB b) = true) : twoI f a b = f a b := by unfold twoI; rw [if_pos h]
theorem word_size {s : ByteArray} (h : wordB s.data.toList = true) : s.size ≤ 12 := by
  unfold wordB at h
  rw [Bool.and_eq_true, decide_eq_true_iff, len_eq] at h
  exact h.1

theorem editDistance_spec (a b : ByteArray) (w : World) (ha : a.size ≤ maxLen) (hb : b.size ≤ maxLen) :
    Calls Try.prog 14 #[.string a, .string b] w fun e w' => e = .returned (.int .i64 (twoI (fun x y => (ed false x y : Int)) a.data.toList b.data.toList)) ∧ Below w.heap.size w w' := by
  have ha' := ha
  have hb' := hb
  unfold maxLen at ha hb
  cases hva : wordB a.data.toList
  · have HN := Lib.hid (twoI_no (f := fun x y => (ed false x y : Int)) (a := a.data.toList) (b := b.data.toList) (by rw [hva]; rfl))
    have HA := Lib.hid hva
    clear hva
    go_enter Try.func14, Try.ntmps14
    go_wp2_with fail
    refine (wordValid_spec _ _ ha').mono ?_
    rintro e w' ⟨rfl, rfl⟩
    rw [HA.out]
    go_wp2_with fail
    go_ret
    exact ⟨ret_int HN.out.symm, Below.refl _ _⟩
  · cases hvb : wordB b.data.toList
    · have HN := Lib.hid (twoI_no (f := fun x y => (ed false x y : Int)) (a := a.data.toList) (b := b.data.toList) (by rw [hva, hvb]; rfl))
      have HA := Lib.hid hva
      have HB := Lib.hid hvb
      clear hva hvb
      go_enter Try.func14, Try.ntmps14
      go_wp2_with fail
      refine (wordValid_spec _ _ ha').mono ?_
      rintro e w' ⟨rfl, rfl⟩
      rw [HA.out]
      go_wp2_with fail
      refine (wordValid_spec _ _ hb').mono ?_
      rintro e w' ⟨rfl, rfl⟩
      rw [HB.out]
      go_wp2_with fail
      go_ret
      exact ⟨ret_int HN.out.symm, Below.refl _ _⟩
    · have HN := Lib.hid (twoI_yes (f := fun x y => (ed false x y : Int)) (a := a.data.toList) (b := b.data.toList) (by rw [hva, hvb]; rfl))
      have ha2 := word_size hva
      have hb2 := word_size hvb
      have HA := Lib.hid hva
      have HB := Lib.hid hvb
      clear hva hvb
      go_enter Try.func14, Try.ntmps14
      go_wp2_with fail
      refine (wordValid_spec _ _ ha').mono ?_
      rintro e w' ⟨rfl, rfl⟩
      rw [HA.out]
      go_wp2_with fail
      refine (wordValid_spec _ _ hb').mono ?_
      rintro e w' ⟨rfl, rfl⟩
      rw [HB.out]
      go_wp2_with fail
      refine (l2Distance_any _ _ _ ha2 hb2).mono ?_
      rintro e w' ⟨rfl, hw⟩
      go_wp2_with fail
      go_ret
      exact ⟨ret_int HN.out.symm, hw⟩

/-- the answer of DifferentPlaces -/
def dpI (a b : List UInt8) : Int := if wordB a && wordB b && decide (a.length = b.length) then (dp a b : Int) else -1
theorem dpI_no {a b : List UInt8} (h : (wordB a && wordB b && decide (a.length = b.length)) = false) : dpI a b = -1 := by unfold dpI; rw [h]; rfl
theorem dpI_yes {a b : List UInt8} (h : (wordB a && wordB b && decide (a.length = b.length)) = true) : dpI a b = dp a b := by unfold dpI; rw [if_pos h]
theorem dp_at (a b : ByteArray) (k : Nat) (h1 : k < a.size) (h2 : k < b.size) : dp (a.data.toList.take (k + 1)) (b.data.toList.take (k + 1)) = dp (a.data.toList.take k) (b.data.toList.take k) + if a[k] = b[k] then 0 else 1 :=
  dp_step _ _ k (by simpa using h1) (by simpa using h2)
theorem dp_at_eq (a b : ByteArray) (k : Nat) (h1 : k < a.size) (h2 : k < b.size) (h : ((a[k].toNat : Int) == b[k].toNat) = true) : dp (a.data.toList.take (k + 1)) (b.data.toList.take (k + 1)) = dp (a.data.toList.take k) (b.data.toList.take k) := by
  have he : a[k] = b[k] := by simp only [beq_iff_eq] at h; exact UInt8.toNat_inj.1 (by omega)
  rw [dp_at a b k h1 h2, if_pos he]; rfl
theorem dp_at_ne (a b : ByteArray) (k : Nat) (h1 : k < a.size) (h2 : k < b.size) (h : ((a[k].toNat : Int) == b[k].toNat) = false) : dp (a.data.toList.take (k + 1)) (b.data.toList.take (k + 1)) = dp (a.data.toList.take k) (b.data.toList.take k) + 1 := by
  have he : a[k] ≠ b[k] := by intro he; rw [he] at h; simp at h
  rw [dp_at a b k h1 h2, if_neg he]
theorem take_all (s : ByteArray) : s.data.toList.take s.size = s.data.toList := by rw [← len_eq, List.take_length]

theorem differentPlaces_spec (a b : ByteArray) (w : World) (ha : a.size ≤ maxLen) (hb : b.size ≤ maxLen) :
    Calls Try.prog 26 #[.string a, .string b] w fun e w' => e = .returned (.int .i64 (dpI a.data.toList b.data.toList)) ∧ Drawn w w' := by
  have ha' := ha
  have hb' := hb
  unfold maxLen at ha hb
  cases hva : wordB a.data.toList
  · have HN := Lib.hid (dpI_no (a := a.data.toList) (b := b.data.toList) (by rw [hva]; rfl))
    have HA := Lib.hid hva
    clear hva
    go_enter Try.func26, Try.ntmps26
    go_wp2_with fail
    refine (wordValid_spec _ _ ha').mono ?_
    rintro e w' ⟨rfl, rfl⟩
    rw [HA.out]
    go_wp2_with fail
    go_ret
    exact ⟨ret_int HN.out.symm, Drawn.refl _⟩
  · cases hvb : wordB b.data.toList
    · have HN := Lib.hid (dpI_no (a := a.data.toList) (b := b.data.toList) (by rw [hva, hvb]; rfl))
      have HA := Lib.hid hva
      have HB := Lib.hid hvb
      clear hva hvb
      go_enter Try.func26, Try.ntmps26
      go_wp2_with fail
      refine (wordValid_spec _ _ ha').mono ?_
      rintro e w' ⟨rfl, rfl⟩
      rw [HA.out]
      go_wp2_with fail
      refine (wordValid_spec _ _ hb').mono ?_
      rintro e w' ⟨rfl, rfl⟩
      rw [HB.out]
      go_wp2_with fail
      go_ret
      exact ⟨ret_int HN.out.symm, Drawn.refl _⟩
    · by_cases hl : a.size = b.size
      · have HN := Lib.hid (dpI_yes (a := a.data.toList) (b := b.data.toList) (by rw [hva, hvb, len_eq, len_eq, decide_eq_true hl]; rfl))
        have ha2 := word_size hva
        have hne : ((a.size : Int) != (b.size : Int)) = false := by simp; omega
        have HA := Lib.hid hva
        have HB := Lib.hid hvb
        clear hva hvb
        go_enter Try.func26, Try.ntmps26
        go_wp2_with fail
        refine (wordValid_spec _ _ ha').mono ?_
        rintro e w' ⟨rfl, rfl⟩
        rw [HA.out]
        go_wp2_with fail
        refine (wordValid_spec _ _ hb').mono ?_
        rintro e w' ⟨rfl, rfl⟩
        rw [HB.out]
        go_wp2_with fail
        go_loopw [5, 6] (fun v i wr => ∃ k d : Nat, k ≤ a.size ∧ i = .int .i64 k ∧ v = .int .i64 d ∧ d ≤ k ∧ Hid (dp (a.data.toList.take k) (b.data.toList.take k) = d) ∧ Drawn w wr) (fun _ i _ => a.size - (intOf i).toNat)
        case atStart => exact ⟨0, 0, Nat.zero_le _, rfl, rfl, Nat.le_refl _, by exact (rfl : dp [] [] = 0), Drawn.refl _⟩
        case round =>
          obtain ⟨k, d, hk, rfl, rfl, hd, HD, hdr⟩ := hrel
          by_cases hlt : k < a.size
          · have hlt2 : k < b.size := by omega
            have hk0 : (0 : Int) ≤ (k : Int) := by omega
            have hk1 : (k : Int) < (a.size : Int) := by omega
            have hk2 : (k : Int) < (b.size : Int) := by omega
            cases h3 : ((a[k].toNat : Int) == b[k].toNat)
            · have HE := Lib.hid (dp_at_ne a b k hlt hlt2 h3)
              have h4 : ((a[k].toNat : Int) != b[k].toNat) = true := by unfold bne; rw [h3]; rfl
              go_wp2
              go_quiet (fail)
              go_wp2
              go_roundw
              case rel => exact ⟨k + 1, d + 1, by omega, by go_num, by go_num, by omega, HE.out.trans (congrArg (· + 1) HD.out), hdr.drewN _⟩
              case measure => simp [intOf]; omega
            · have HE := Lib.hid (dp_at_eq a b k hlt hlt2 h3)
              have h4 : ((a[k].toNat : Int) != b[k].toNat) = false := by unfold bne; rw [h3]; rfl
              go_wp2
              go_quiet (fail)
              go_wp2
              go_roundw
              case rel => exact ⟨k + 1, d, by omega, by go_num, rfl, by omega, HE.out.trans HD.out, hdr.drewN _⟩
              case measure => simp [intOf]; omega
          · obtain rfl : k = a.size := by omega
            go_wp2_with fail
            go_ret
            refine ⟨ret_int ?_, hdr⟩
            have h5 := HD.out
            rw [take_all, hl, take_all] at h5
            rw [HN.out, h5]
      · have HN := Lib.hid (dpI_no (a := a.data.toList) (b := b.data.toList) (by rw [hva, hvb, len_eq, len_eq, decide_eq_false hl]; rfl))
        have hne : ((a.size : Int) != (b.size : Int)) = true := by simp; omega
        have HA := Lib.hid hva
        have HB := Lib.hid hvb
        clear hva hvb
        go_enter Try.func26, Try.ntmps26
        go_wp2_with fail
        refine (wordValid_spec _ _ ha').mono ?_
        rintro e w' ⟨rfl, rfl⟩
        rw [HA.out]
        go_wp2_with fail
        refine (wordValid_spec _ _ hb').mono ?_
        rintro e w' ⟨rfl, rfl⟩
        rw [HB.out]
        go_wp2_with fail
        go_ret
        exact ⟨ret_int HN.out.symm, Drawn.refl _⟩
end Go.Proofs.Ytacnaipcjihkkaa
