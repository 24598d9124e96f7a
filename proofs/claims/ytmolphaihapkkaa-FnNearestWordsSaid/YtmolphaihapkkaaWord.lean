/- Contracts of the words' functions: impl.isLetter, impl.WordValid, spec.WordValid, impl.SharedStart, spec.SharedStart. -/
import Derived.Test.YtmolphaihapkkaaRows
import Derived.WalkKit
import Derived.WalkSpells
import Derived.WalkLawsBesides
import Derived.Lib.Hide
import Derived.Outline
namespace Go.Proofs.Ytmolphaihapkkaa
open Go.RowKit
set_option maxHeartbeats 400000
set_option linter.unusedSimpArgs false
set_option linter.unusedVariables false

def letterB (n : Int) : Bool := decide (97 ≤ n) && decide (n ≤ 122)
/-- the first k letters of l are letters a to z -/
def lettersB (l : List UInt8) : Bool := l.all fun c => letterB c.toNat
def wordB (l : List UInt8) : Bool := decide (l.length ≤ 12) && lettersB l

theorem ret_bool {a b : Bool} (h : a = b) : Ending.returned (.bool a) = .returned (.bool b) := by rw [h]
theorem ret_int {k : IntKind} {a b : Int} (h : a = b) : Ending.returned (.int k a) = .returned (.int k b) := by rw [h]
theorem take_snoc (s : ByteArray) (k : Nat) (h : k < s.size) : s.data.toList.take (k + 1) = s.data.toList.take k ++ [s[k]] := by
  rw [List.take_succ_eq_append_getElem (by simpa using h)]; rfl
theorem letters_step (s : ByteArray) (k : Nat) (h : k < s.size) : lettersB (s.data.toList.take (k + 1)) = (lettersB (s.data.toList.take k) && letterB s[k].toNat) := by
  rw [take_snoc s k h]; simp [lettersB]
theorem letters_take (l : List UInt8) (k : Nat) (h : lettersB (l.take k) = false) : lettersB l = false := by
  unfold lettersB at *
  rw [List.all_eq_false] at *
  obtain ⟨x, hx, h2⟩ := h
  exact ⟨x, List.mem_of_mem_take hx, h2⟩
theorem len_eq (s : ByteArray) : s.data.toList.length = s.size := by simp

theorem isLetter_any (n : Int) (w : World) (h0 : 0 ≤ n) (h1 : n ≤ 255) :
    Calls Try.prog 68 #[.int .u8 n] w fun e w' => e = .returned (.bool (letterB n)) ∧ w = w' := by
  by_cases ha : 97 ≤ n
  · by_cases hb : n ≤ 122
    · go_enter Try.func68, Try.ntmps68
      go_wp2
      go_ret
      exact ⟨by simp [letterB]; omega, rfl⟩
    · go_enter Try.func68, Try.ntmps68
      go_wp2
      go_ret
      exact ⟨by simp [letterB]; omega, rfl⟩
  · go_enter Try.func68, Try.ntmps68
    go_wp2
    go_ret
    exact ⟨by simp [letterB]; omega, rfl⟩

theorem wordValid_impl (s : ByteArray) (w : World) (hs : s.size ≤ maxLen) :
    Calls Try.prog 44 #[.string s] w fun e w' => e = .returned (.bool (wordB s.data.toList)) ∧ w = w' := by
  unfold maxLen at hs
  by_cases hl : (12 : Int) < s.size
  · go_enter Try.func44, Try.ntmps44
    go_wp2
    go_ret
    refine ⟨ret_bool ?_, rfl⟩
    unfold wordB; rw [len_eq]; simp; omega
  · go_enter Try.func44, Try.ntmps44
    go_wp2
    go_loop [9] (fun i => ∃ k : Nat, k ≤ s.size ∧ i = .int .i64 k ∧ lettersB (s.data.toList.take k) = true) (fun i => s.size - (intOf i).toNat)
    case atStart => exact ⟨0, Nat.zero_le _, rfl, rfl⟩
    case round =>
      obtain ⟨k, hk, rfl, hp⟩ := hrel
      have HP := Lib.hid hp
      clear hp
      by_cases hlt : k < s.size
      · have hst := letters_step s k hlt
        have HS := Lib.hid hst
        clear hst
        by_cases hc : letterB s[k].toNat = true
        · have HC := Lib.hid hc
          clear hc
          go_wp2_with (go_at_call 68; refine (isLetter_any _ _ (by omega) (by have := s[k].toNat_lt; omega)).mono ?_; rintro e w' ⟨rfl, rfl⟩; rw [HC.out])
          go_round
          case rel => exact ⟨k + 1, by omega, by go_num, by rw [HS.out, HP.out, HC.out]; rfl⟩
          case measure => simp [intOf]; omega
        · have HC := Lib.hid hc
          clear hc
          go_wp2_with (go_at_call 68; refine (isLetter_any _ _ (by omega) (by have := s[k].toNat_lt; omega)).mono ?_; rintro e w' ⟨rfl, rfl⟩; rw [Bool.eq_false_iff.2 HC.out])
          go_ret
          refine ⟨ret_bool ?_, rfl⟩
          have : lettersB s.data.toList = false := letters_take _ (k + 1) (by rw [HS.out, HP.out, Bool.eq_false_iff.2 HC.out]; rfl)
          unfold wordB; rw [this]; simp
      · go_wp2
        go_ret
        refine ⟨ret_bool ?_, rfl⟩
        have h2 := HP.out
        rw [List.take_of_length_le (by rw [len_eq]; omega)] at h2
        unfold wordB; rw [h2, len_eq]; simp; omega

theorem wordValid_spec (s : ByteArray) (w : World) (hs : s.size ≤ maxLen) :
    Calls Try.prog 22 #[.string s] w fun e w' => e = .returned (.bool (wordB s.data.toList)) ∧ w = w' := by
  unfold maxLen at hs
  go_enter Try.func22, Try.ntmps22
  go_wp2
  go_loop [3] (fun i => ∃ k : Nat, k ≤ s.size ∧ i = .int .i64 k ∧ lettersB (s.data.toList.take k) = true) (fun i => s.size - (intOf i).toNat)
  case atStart => exact ⟨0, Nat.zero_le _, rfl, rfl⟩
  case round =>
    obtain ⟨k, hk, rfl, hp⟩ := hrel
    have HP := Lib.hid hp
    clear hp
    by_cases hlt : k < s.size
    · have hst := letters_step s k hlt
      have HS := Lib.hid hst
      clear hst
      by_cases ha : (s[k].toNat : Int) < 97
      · go_wp2
        go_ret
        refine ⟨ret_bool ?_, rfl⟩
        have : lettersB s.data.toList = false := letters_take _ (k + 1) (by rw [HS.out, HP.out]; simp [letterB]; omega)
        unfold wordB; rw [this]; simp
      · by_cases hb : (122 : Int) < s[k].toNat
        · go_wp2
          go_ret
          refine ⟨ret_bool ?_, rfl⟩
          have : lettersB s.data.toList = false := letters_take _ (k + 1) (by rw [HS.out, HP.out]; simp [letterB]; omega)
          unfold wordB; rw [this]; simp
        · go_wp2
          go_round
          case rel => exact ⟨k + 1, by omega, by go_num, by rw [HS.out, HP.out]; simp [letterB]; omega⟩
          case measure => simp [intOf]; omega
    · have h2 := HP.out
      rw [List.take_of_length_le (by rw [len_eq]; omega)] at h2
      have H2 := Lib.hid h2
      clear h2
      go_wp2
      go_ret
      refine ⟨ret_bool ?_, rfl⟩
      unfold wordB; rw [H2.out, len_eq]; simp; omega
theorem wordValid_impl_is {s : ByteArray} {v : Bool} (hv : wordB s.data.toList = v) (w : World) (hs : s.size ≤ maxLen) :
    Calls Try.prog 44 #[.string s] w fun e w' => e = .returned (.bool v) ∧ w = w' := hv ▸ wordValid_impl s w hs

theorem wordValid_spec_is {s : ByteArray} {v : Bool} (hv : wordB s.data.toList = v) (w : World) (hs : s.size ≤ maxLen) :
    Calls Try.prog 22 #[.string s] w fun e w' => e = .returned (.bool v) ∧ w = w' := hv ▸ wordValid_spec s w hs

end Go.Proofs.Ytmolphaihapkkaa
