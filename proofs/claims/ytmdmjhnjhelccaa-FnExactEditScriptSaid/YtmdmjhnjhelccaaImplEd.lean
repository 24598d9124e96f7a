/- Contracts of the program's textValid and editPossible. -/
import Derived.Test.YtmdmjhnjhelccaaRevSpec
namespace Go.Proofs.Ytmdmjhnjhelccaa
open Go.RowKit
set_option maxHeartbeats 1600000
set_option linter.unusedSimpArgs false
set_option linter.unusedVariables false

theorem textValid_any (s : ByteArray) (w : World) (hs : s.size ≤ maxLen) :
    Calls Try.prog 48 #[.string s] w fun e w' => e = .returned (.bool (longB s.data.toList)) ∧ w = w' := by
  unfold maxLen at hs
  rw [longB_eq]
  by_cases hl : (24 : Int) < s.size
  · go_enter Try.func48, Try.ntmps48
    go_wp2
    go_ret
    exact ⟨ret_bool (by rw [decide_eq_false (by omega)]; simp), rfl⟩
  · go_enter Try.func48, Try.ntmps48
    go_wp2
    go_loop [9] (fun i => ∃ k : Nat, k ≤ s.size ∧ i = .int .i64 k ∧ lettersB (s.data.toList.take k) = true) (fun i => s.size - (intOf i).toNat)
    case atStart => exact ⟨0, Nat.zero_le _, rfl, rfl⟩
    case round =>
      obtain ⟨k, hk, rfl, hp⟩ := hrel
      have HP := Lib.hid hp
      clear hp
      by_cases hlt : k < s.size
      · have hst := letters_step s k hlt
        have HS := Lib.hid hst
        clear hst
        by_cases hc : letterB s[k].toNat = true
        · have HC := Lib.hid hc
          clear hc
          go_wp2_with (go_at_call 44; refine (isLetter_any _ _ (by omega) (by have := s[k].toNat_lt; omega)).mono ?_; rintro e w' ⟨rfl, rfl⟩; rw [HC.out])
          go_round
          case rel => exact ⟨k + 1, by omega, by go_num, by rw [HS.out, HP.out, HC.out]; rfl⟩
          case measure => simp [intOf]; omega
        · have HC := Lib.hid hc
          clear hc
          go_wp2_with (go_at_call 44; refine (isLetter_any _ _ (by omega) (by have := s[k].toNat_lt; omega)).mono ?_; rintro e w' ⟨rfl, rfl⟩; rw [Bool.eq_false_iff.2 HC.out])
          go_ret
          refine ⟨ret_bool ?_, rfl⟩
          have : lettersB s.data.toList = false := letters_take _ (k + 1) (by rw [HS.out, HP.out, Bool.eq_false_iff.2 HC.out]; rfl)
          rw [this]; rfl
      · go_wp2
        go_ret
        refine ⟨ret_bool ?_, rfl⟩
        have h2 := HP.out
        rw [List.take_of_length_le (by rw [len_eq]; omega)] at h2
        rw [h2, decide_eq_true (by omega)]; rfl
theorem textValid_is {s : ByteArray} {v : Bool} (hv : longB s.data.toList = v) (w : World) (hs : s.size ≤ maxLen) :
    Calls Try.prog 48 #[.string s] w fun e w' => e = .returned (.bool v) ∧ w = w' := hv ▸ textValid_any s w hs

theorem smallB_eq (c : UInt8) : letterB c.toNat = smallB c := rfl
theorem isLetter_small {c : UInt8} {v : Bool} (h : smallB c = v) (w : World) :
    Calls Try.prog 44 #[.int .u8 (c.toNat : Int)] w fun e w' => e = .returned (.bool v) ∧ w = w' := by
  have := isLetter_any (c.toNat : Int) w (by omega) (by have := c.toNat_lt; omega)
  rw [smallB_eq, h] at this
  exact this

set_option maxRecDepth 100000 in
theorem editPossible_any (s : ByteArray) (k p : Int) (c : UInt8) (v : Bool) (hv : (applyL s.data.toList ⟨k, p, c⟩).isSome = v) (w : World) (hs : s.size ≤ maxLen) :
    Calls Try.prog 39 #[.string s, .agg #[.int .i64 k, .int .i64 p, .int .u8 c.toNat]] w fun e w' => e = .returned (.bool v) ∧ Below w.heap.size w w' := by
  have hs' := hs
  unfold maxLen at hs
  have hbb : Below w.heap.size w (w.alloc (.cells #[.int .i64 k, .int .i64 p, .int .u8 c.toNat] 24)) := (Below.refl _ _).alloc (Nat.le_refl _) _
  cases hT : longB s.data.toList
  · have HN := Lib.hid (show false = v by rw [← hv, applyL_bad (by rw [hT]; rfl)]; rfl)
    have HT := Lib.hid hT
    clear hT hv
    go_enter Try.func39, Try.ntmps39
    go_wp2_with fail
    refine (textValid_is HT.out _ hs').mono ?_
    rintro e w' ⟨rfl, rfl⟩
    go_wp2_with fail
    go_ret
    exact ⟨ret_bool HN.out, hbb⟩
  · have hl24 := longB_size hT
    have hall := longB_all hT
    have hk : k = 1 ∨ k = 2 ∨ k = 3 ∨ (k ≠ 1 ∧ k ≠ 2 ∧ k ≠ 3) := by omega
    by_cases hp : p < 0
    · have HN := Lib.hid (show false = v by rw [← hv, applyL_bad (by simp; omega)]; rfl)
      have HT := Lib.hid hT
      have hp2 : ¬ (0 : Int) ≤ p := by omega
      have hp3 : decide ((0 : Int) ≤ p) = false := by simp; omega
      have hp4 : (p == (s.size : Int)) = false := by simp; omega
      clear hT hall hv
      rcases hk with rfl | rfl | rfl | ⟨k1, k2, k3⟩
      all_goals
        go_enter Try.func39, Try.ntmps39
        go_wp2_with fail
        refine (textValid_is HT.out _ hs').mono ?_
        rintro e w' ⟨rfl, rfl⟩
        go_wp2_with fail
        try (go_quiet (fail); go_wp2_with fail)
        go_ret
        exact ⟨ret_bool HN.out, by first | exact hbb | exact below_drewN hbb _⟩
    · obtain ⟨n, rfl⟩ : ∃ n : Nat, p = (n : Int) := ⟨p.toNat, by omega⟩
      have HT := Lib.hid hT
      have HL := Lib.hid hall
      have hn0 : (0 : Int) ≤ (n : Int) := by omega
      have hn1 : decide ((0 : Int) ≤ (n : Int)) = true := by simp
      clear hp hT hall
      by_cases hn : n < s.size
      · have i1 : (n : Int) < (s.size : Int) := by omega
        have i2 : decide ((n : Int) < (s.size : Int)) = true := by simp; omega
        have i4 : ((n : Int) == (s.size : Int)) = false := by simp; omega
        rcases hk with rfl | rfl | rfl | ⟨k1, k2, k3⟩
        · by_cases hl : s.size < 24
          · have hl2 : (s.size : Int) < 24 := by omega
            have hl3 : decide ((s.size : Int) < 24) = true := by simp; omega
            cases hc : smallB c
            · have HN := Lib.hid (show false = v by rw [← hv, applyL_none (by simp [insOk, hc]) (by simp [delOk]) (by simp [repOk])]; rfl)
              have HC := Lib.hid hc
              clear hv hc
              go_enter Try.func39, Try.ntmps39
              go_wp2_with fail
              refine (textValid_is HT.out _ hs').mono ?_
              rintro e w' ⟨rfl, rfl⟩
              go_wp2_with (go_at_call 44; refine (isLetter_small HC.out _).mono ?_; rintro e w' ⟨rfl, rfl⟩)
              go_ret
              exact ⟨ret_bool HN.out, hbb⟩
            · have HN := Lib.hid (show true = v by rw [← hv, applyL_ins HL.out (by rw [len_eq]; exact hl) hc (by rw [len_eq]; omega)]; rfl)
              have HC := Lib.hid hc
              clear hv hc
              go_enter Try.func39, Try.ntmps39
              go_wp2_with fail
              refine (textValid_is HT.out _ hs').mono ?_
              rintro e w' ⟨rfl, rfl⟩
              go_wp2_with (go_at_call 44; refine (isLetter_small HC.out _).mono ?_; rintro e w' ⟨rfl, rfl⟩)
              go_ret
              exact ⟨ret_bool HN.out, hbb⟩
          · have HN := Lib.hid (show false = v by rw [← hv, applyL_none (by simp [insOk]; intros; omega) (by simp [delOk]) (by simp [repOk])]; rfl)
            have hl2 : ¬ (s.size : Int) < 24 := by omega
            have hl3 : decide ((s.size : Int) < 24) = false := by simp; omega
            obtain ⟨cv, hc⟩ : ∃ cv, smallB c = cv := ⟨_, rfl⟩
            have HC := Lib.hid hc
            clear hv hc
            cases cv
            all_goals
              go_enter Try.func39, Try.ntmps39
              go_wp2_with fail
              refine (textValid_is HT.out _ hs').mono ?_
              rintro e w' ⟨rfl, rfl⟩
              go_wp2_with (go_at_call 44; refine (isLetter_small HC.out _).mono ?_; rintro e w' ⟨rfl, rfl⟩)
              go_ret
              exact ⟨ret_bool HN.out, hbb⟩
        · cases hc : ((c.toNat : Int) == 0)
          · have HN := Lib.hid (show false = v by rw [← hv, applyL_none (by simp [insOk]) (by simp [delOk, c_not hc]) (by simp [repOk])]; rfl)
            clear hv
            go_enter Try.func39, Try.ntmps39
            go_wp2_with fail
            refine (textValid_is HT.out _ hs').mono ?_
            rintro e w' ⟨rfl, rfl⟩
            go_wp2_with fail
            go_ret
            exact ⟨ret_bool HN.out, hbb⟩
          · have HN := Lib.hid (show true = v by rw [← hv, c_zero hc, applyL_del HL.out (by rw [len_eq]; exact hl24) (by rw [len_eq]; exact hn)]; rfl)
            clear hv
            go_enter Try.func39, Try.ntmps39
            go_wp2_with fail
            refine (textValid_is HT.out _ hs').mono ?_
            rintro e w' ⟨rfl, rfl⟩
            go_wp2_with fail
            go_ret
            exact ⟨ret_bool HN.out, hbb⟩
        · cases hc : smallB c
          · have HN := Lib.hid (show false = v by rw [← hv, applyL_none (by simp [insOk]) (by simp [delOk]) (by simp [repOk, hc])]; rfl)
            have HC := Lib.hid hc
            clear hv hc
            go_enter Try.func39, Try.ntmps39
            go_wp2_with fail
            refine (textValid_is HT.out _ hs').mono ?_
            rintro e w' ⟨rfl, rfl⟩
            go_wp2_with fail
            go_quiet ((go_at_call 44; exact quiet_left (isLetter_small HC.out _)))
            go_wp2_with fail
            go_ret
            exact ⟨ret_bool HN.out, below_drewN hbb _⟩
          · cases hd : ((s[n].toNat : Int) == c.toNat)
            · have hd2 : ((c.toNat : Int) != s[n].toNat) = true := by simp at hd ⊢; omega
              have hd3 : ((c.toNat : Int) == s[n].toNat) = false := by simp at hd ⊢; omega
              have HN := Lib.hid (show true = v by rw [← hv, applyL_rep HL.out (by rw [len_eq]; exact hl24) hc (by rw [len_eq]; exact hn) (by rw [get_eq s n hn]; intro e; injection e with e; rw [e] at hd; simp at hd)]; rfl)
              have HC := Lib.hid hc
              clear hv hc
              go_enter Try.func39, Try.ntmps39
              go_wp2_with fail
              refine (textValid_is HT.out _ hs').mono ?_
              rintro e w' ⟨rfl, rfl⟩
              go_wp2_with fail
              go_quiet ((go_at_call 44; exact quiet_left (isLetter_small HC.out _)))
              go_wp2_with fail
              go_ret
              exact ⟨ret_bool HN.out, below_drewN hbb _⟩
            · have hd2 : ((c.toNat : Int) != s[n].toNat) = false := by simp at hd ⊢; omega
              have hd3 : ((c.toNat : Int) == s[n].toNat) = true := by simp at hd ⊢; omega
              have HN := Lib.hid (show false = v by
                rw [← hv, applyL_none (by simp [insOk]) (by simp [delOk]) (by
                  have he : s.data.toList[n]? = some c := by rw [get_eq s n hn, UInt8.toNat_inj.1 (show s[n].toNat = c.toNat by simp at hd; omega)]
                  simp [repOk, he])]; rfl)
              have HC := Lib.hid hc
              clear hv hc
              go_enter Try.func39, Try.ntmps39
              go_wp2_with fail
              refine (textValid_is HT.out _ hs').mono ?_
              rintro e w' ⟨rfl, rfl⟩
              go_wp2_with fail
              go_quiet ((go_at_call 44; exact quiet_left (isLetter_small HC.out _)))
              go_wp2_with fail
              go_ret
              exact ⟨ret_bool HN.out, below_drewN hbb _⟩
        · have HN := Lib.hid (show false = v by rw [← hv, applyL_none (by simp [insOk, k1]) (by simp [delOk, k2]) (by simp [repOk, k3])]; rfl)
          have q1 : (k == 1) = false := by simpa using k1
          have q2 : (k == 2) = false := by simpa using k2
          have q3 : (k == 3) = false := by simpa using k3
          clear hv
          go_enter Try.func39, Try.ntmps39
          go_wp2_with fail
          refine (textValid_is HT.out _ hs').mono ?_
          rintro e w' ⟨rfl, rfl⟩
          go_wp2_with fail
          go_ret
          exact ⟨ret_bool HN.out, hbb⟩
      · have i1 : ¬ (n : Int) < (s.size : Int) := by omega
        have i2 : decide ((n : Int) < (s.size : Int)) = false := by simp; omega
        by_cases he : n = s.size ∧ k = 1
        · obtain ⟨he, rfl⟩ := he
          have i4 : ((n : Int) == (s.size : Int)) = true := by simp; omega
          by_cases hl : s.size < 24
          · have hl2 : (s.size : Int) < 24 := by omega
            have hl3 : decide ((s.size : Int) < 24) = true := by simp; omega
            have HE := Lib.hid he
            cases hc : smallB c
            · have HN := Lib.hid (show false = v by rw [← hv, applyL_none (by simp [insOk, hc]) (by simp [delOk]) (by simp [repOk])]; rfl)
              have HC := Lib.hid hc
              clear hv hc he
              go_enter Try.func39, Try.ntmps39
              go_wp2_with fail
              refine (textValid_is HT.out _ hs').mono ?_
              rintro e w' ⟨rfl, rfl⟩
              go_wp2_with (go_at_call 44; refine (isLetter_small HC.out _).mono ?_; rintro e w' ⟨rfl, rfl⟩)
              go_ret
              exact ⟨ret_bool HN.out, hbb⟩
            · have HN := Lib.hid (show true = v by rw [← hv, applyL_ins HL.out (by rw [len_eq]; exact hl) hc (by rw [len_eq]; omega)]; rfl)
              have HC := Lib.hid hc
              clear hv hc he
              go_enter Try.func39, Try.ntmps39
              go_wp2_with fail
              refine (textValid_is HT.out _ hs').mono ?_
              rintro e w' ⟨rfl, rfl⟩
              go_wp2_with (go_at_call 44; refine (isLetter_small HC.out _).mono ?_; rintro e w' ⟨rfl, rfl⟩)
              go_ret
              exact ⟨ret_bool HN.out, hbb⟩
          · have HN := Lib.hid (show false = v by rw [← hv, applyL_none (by simp [insOk]; intros; omega) (by simp [delOk]) (by simp [repOk])]; rfl)
            have hl2 : ¬ (s.size : Int) < 24 := by omega
            have hl3 : decide ((s.size : Int) < 24) = false := by simp; omega
            obtain ⟨cv, hc⟩ : ∃ cv, smallB c = cv := ⟨_, rfl⟩
            have HC := Lib.hid hc
            clear hv hc he
            cases cv
            all_goals
              go_enter Try.func39, Try.ntmps39
              go_wp2_with fail
              refine (textValid_is HT.out _ hs').mono ?_
              rintro e w' ⟨rfl, rfl⟩
              go_wp2_with (go_at_call 44; refine (isLetter_small HC.out _).mono ?_; rintro e w' ⟨rfl, rfl⟩)
              go_ret
              exact ⟨ret_bool HN.out, hbb⟩
        · have HN := Lib.hid (show false = v by rw [← hv, applyL_none (by simp [insOk]; intros; omega) (by simp [delOk]; intros; omega) (by simp [repOk]; intros; omega)]; rfl)
          clear hv
          rcases hk with rfl | rfl | rfl | ⟨k1, k2, k3⟩
          · have i4 : ((n : Int) == (s.size : Int)) = false := by simp; omega
            clear he
            go_enter Try.func39, Try.ntmps39
            go_wp2_with fail
            refine (textValid_is HT.out _ hs').mono ?_
            rintro e w' ⟨rfl, rfl⟩
            go_wp2_with fail
            go_ret
            exact ⟨ret_bool HN.out, hbb⟩
          · clear he
            go_enter Try.func39, Try.ntmps39
            go_wp2_with fail
            refine (textValid_is HT.out _ hs').mono ?_
            rintro e w' ⟨rfl, rfl⟩
            go_wp2_with fail
            go_ret
            exact ⟨ret_bool HN.out, hbb⟩
          · clear he
            go_enter Try.func39, Try.ntmps39
            go_wp2_with fail
            refine (textValid_is HT.out _ hs').mono ?_
            rintro e w' ⟨rfl, rfl⟩
            go_wp2_with fail
            go_quiet (fail)
            go_wp2_with fail
            go_ret
            exact ⟨ret_bool HN.out, below_drewN hbb _⟩
          · have q1 : (k == 1) = false := by simpa using k1
            have q2 : (k == 2) = false := by simpa using k2
            have q3 : (k == 3) = false := by simpa using k3
            clear he
            go_enter Try.func39, Try.ntmps39
            go_wp2_with fail
            refine (textValid_is HT.out _ hs').mono ?_
            rintro e w' ⟨rfl, rfl⟩
            go_wp2_with fail
            go_ret
            exact ⟨ret_bool HN.out, hbb⟩
end Go.Proofs.Ytmdmjhnjhelccaa
