/- The law's turned: the word from behind; the drawing of two words for the distances. -/
import Derived.Test.YtocmlkkigejifaaTwo
namespace Go.Proofs.Ytocmlkkigejifaa
open Go.RowKit
set_option maxHeartbeats 800000
set_option linter.unusedSimpArgs false
set_option linter.unusedVariables false

/-- the text of the bytes l -/
def textOf (l : List UInt8) : ByteArray := ⟨l.toArray⟩
theorem textOf_list (l : List UInt8) : (textOf l).data.toList = l := rfl
theorem textOf_size (l : List UInt8) : (textOf l).size = l.length := rfl
theorem text_ext {s t : ByteArray} (h : s.data.toList = t.data.toList) : s = t := by
  apply ByteArray.ext
  exact Array.toList_inj.1 h
theorem turned_step (s t : ByteArray) (k : Nat) (hk : k < s.size) (ht : t.data.toList = (s.data.toList.take k).reverse) : (s.extract k (k + 1) ++ t).data.toList = (s.data.toList.take (k + 1)).reverse := by
  rw [take_snoc s k hk, List.reverse_append, ByteArray.data_append, Array.toList_append, ht]
  congr 1
  have : (s.extract k (k + 1)).data.toList = [s[k]] := by
    rw [ByteArray.data_extract, Array.toList_extract]
    have h1 : s.data.toList.extract k (k + 1) = (s.data.toList.take (k + 1)).drop k := by rw [List.extract_eq_take_drop]; simp [List.drop_take]
    rw [h1, take_snoc s k hk, List.drop_left' (by simp; omega)]
  rw [this]; rfl

theorem turned_any (s : ByteArray) (w : World) (hs : s.size ≤ 1000) :
    Calls Try.prog 22 #[.string s] w fun e w' => e = .returned (.string (textOf s.data.toList.reverse)) ∧ w = w' := by
  go_enter Try.func22, Try.ntmps22
  go_wp2_with fail
  go_loop [3, 4] (fun v i => ∃ (k : Nat) (t : ByteArray), k ≤ s.size ∧ i = .int .i64 k ∧ v = .string t ∧ Hid (t.data.toList = (s.data.toList.take k).reverse) ∧ t.size = k) (fun _ i => s.size - (intOf i).toNat)
  case atStart => exact ⟨0, _, Nat.zero_le _, rfl, rfl, rfl, rfl⟩
  case round =>
    obtain ⟨k, t, hk, rfl, rfl, HT, hts⟩ := hrel
    by_cases hlt : k < s.size
    · have HE := Lib.hid (turned_step s t k hlt HT.out)
      have hz : (s.extract k (k + 1) ++ t).size = k + 1 := by rw [ByteArray.size_append, ByteArray.size_extract, hts]; omega
      have HZ := Lib.hid hz
      have hk0 : (0 : Int) ≤ (k : Int) := by omega
      have hk1 : (k : Int) < (s.size : Int) := by omega
      clear hz
      go_wp2_with fail
      go_round
      case rel => exact ⟨k + 1, _, by omega, by go_num, rfl, HE.out, HZ.out⟩
      case measure => simp [intOf]; omega
    · obtain rfl : k = s.size := by omega
      go_wp2_with fail
      go_ret
      have h := HT.out
      rw [← len_eq, List.take_length] at h
      have ht : t = textOf s.data.toList.reverse := text_ext (by rw [textOf_list]; exact h)
      exact ⟨congrArg (fun x => Ending.returned (.string x)) ht, rfl⟩
end Go.Proofs.Ytocmlkkigejifaa
