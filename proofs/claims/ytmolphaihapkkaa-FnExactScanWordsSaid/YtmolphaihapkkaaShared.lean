/- Contracts of impl.SharedStart and spec.SharedStart. -/
import Derived.Test.YtmolphaihapkkaaBase
import Derived.Deep.QuietTactic
import Derived.BigQuiet
import Derived.RegionTactic
import Derived.ChangeAlike
namespace Go.Proofs.Ytmolphaihapkkaa
open Go.RowKit
set_option maxHeartbeats 400000
set_option linter.unusedSimpArgs false
set_option linter.unusedVariables false

def shared : List UInt8 → List UInt8 → Nat
  | a :: l, b :: m => if a = b then shared l m + 1 else 0
  | _, _ => 0
def sharedI (a b : List UInt8) : Int := if wordB a && wordB b then (shared a b : Int) else -1

theorem shared_of : ∀ (l m : List UInt8) (k : Nat), k ≤ l.length → k ≤ m.length → l.take k = m.take k → (k = l.length ∨ k = m.length ∨ l[k]? ≠ m[k]?) → shared l m = k
  | [], m, k, h1, _, _, _ => by simp at h1; subst h1; simp [shared]
  | a :: l, [], k, _, h2, _, _ => by simp at h2; subst h2; simp [shared]
  | a :: l, b :: m, 0, _, _, _, hd => by
    have : a ≠ b := by simpa using hd
    simp [shared, this]
  | a :: l, b :: m, k + 1, h1, h2, he, hd => by
    simp at h1 h2 he hd
    obtain ⟨rfl, he⟩ := he
    simp only [shared, if_pos]
    rw [shared_of l m k h1 h2 he (by simpa using hd)]
theorem sharedI_of {a b : ByteArray} (k : Nat) (hw : (wordB a.data.toList && wordB b.data.toList) = true) (h1 : k ≤ a.size) (h2 : k ≤ b.size) (he : a.data.toList.take k = b.data.toList.take k)
    (hd : k = a.size ∨ k = b.size ∨ a.data.toList[k]? ≠ b.data.toList[k]?) : sharedI a.data.toList b.data.toList = k := by
  unfold sharedI; rw [if_pos hw, shared_of _ _ k (by simpa using h1) (by simpa using h2) he (by simpa using hd)]

theorem get_eq (s : ByteArray) (k : Nat) (h : k < s.size) : s.data.toList[k]? = some s[k] := by
  rw [List.getElem?_eq_getElem (by simpa using h)]; rfl

theorem sharedI_no {a b : List UInt8} (h : (wordB a && wordB b) = false) : sharedI a b = -1 := by unfold sharedI; rw [h]; rfl



theorem u8_eq {x y : UInt8} (h : ((x.toNat : Int) == y.toNat) = true) : x = y := by
  simp only [beq_iff_eq] at h
  exact UInt8.toNat_inj.1 (by omega)
theorem take_both {a b : ByteArray} {k : Nat} (he : a.data.toList.take k = b.data.toList.take k) (h1 : k < a.size) (h2 : k < b.size) (h3 : ((a[k].toNat : Int) == b[k].toNat) = true) :
    a.data.toList.take (k + 1) = b.data.toList.take (k + 1) := by
  rw [take_snoc a k h1, take_snoc b k h2, he, u8_eq h3]
theorem get_ne {a b : ByteArray} {k : Nat} (h1 : k < a.size) (h2 : k < b.size) (h3 : ¬ ((a[k].toNat : Int) == b[k].toNat) = true) : a.data.toList[k]? ≠ b.data.toList[k]? := by
  rw [get_eq a k h1, get_eq b k h2]
  intro h
  injection h with h
  rw [h] at h3
  simp at h3


theorem sharedStart_impl (a b : ByteArray) (w : World) (ha : a.size ≤ maxLen) (hb : b.size ≤ maxLen) :
    Calls Try.prog 49 #[.string a, .string b] w fun e w' => e = .returned (.int .i64 (sharedI a.data.toList b.data.toList)) ∧ Drawn w w' := by
  have ha' := ha
  have hb' := hb
  unfold maxLen at ha hb
  by_cases hva : wordB a.data.toList = true
  · by_cases hvb : wordB b.data.toList = true
    · have HA := Lib.hid hva
      have HB := Lib.hid hvb
      clear hva hvb
      have fin : ∀ (m : Nat), m ≤ a.size → m ≤ b.size → (m = a.size ∨ m = b.size) → ∀ (k : Nat), k ≤ m → a.data.toList.take k = b.data.toList.take k → (k = m ∨ a.data.toList[k]? ≠ b.data.toList[k]?) → sharedI a.data.toList b.data.toList = k := by
        intro m h1 h2 h3 k hk he hd
        refine sharedI_of k (by rw [HA.out, HB.out]; rfl) (by omega) (by omega) he ?_
        rcases hd with rfl | hd
        · rcases h3 with h3 | h3
          · exact .inl h3
          · exact .inr (.inl h3)
        · exact .inr (.inr hd)
      have FIN := Lib.hid fin
      clear fin
      by_cases hm : a.size ≤ b.size
      all_goals
        go_enter Try.func49, Try.ntmps49
        go_wp2_with fail
        refine (wordValid_impl _ _ ha').mono ?_
        rintro e w' ⟨rfl, rfl⟩
        rw [HA.out]
        go_wp2_with fail
        refine (wordValid_impl _ _ hb').mono ?_
        rintro e w' ⟨rfl, rfl⟩
        rw [HB.out]
        go_wp2_with fail
      · go_loopw [21] (fun i wr => ∃ k : Nat, k ≤ a.size ∧ i = .int .i64 k ∧ Hid (a.data.toList.take k = b.data.toList.take k) ∧ Drawn w wr) (fun i _ => a.size - (intOf i).toNat)
        case atStart => exact ⟨0, Nat.zero_le _, rfl, rfl, Drawn.refl _⟩
        case round =>
          obtain ⟨k, hk, rfl, HP, hbel⟩ := hrel
          by_cases h1 : k < a.size
          · have h1a : k < a.size := by omega
            have h1b : k < b.size := by omega
            by_cases h3 : ((a[k].toNat : Int) == b[k].toNat) = true
            · go_wp2
              go_quiet (fail)
              go_wp2
              go_roundw
              case rel => exact ⟨k + 1, by omega, by go_num, take_both HP.out h1a h1b h3, hbel.drewN _⟩
              case measure => simp [intOf]; omega
            · have h3' : ((a[k].toNat : Int) == b[k].toNat) = false := by simpa using h3
              have H3 := Lib.hid h3
              clear h3
              go_wp2
              go_quiet (fail)
              go_wp2
              go_ret
              exact ⟨ret_int (FIN.out a.size (by omega) (by omega) (by omega) k (by omega) HP.out (.inr (get_ne h1a h1b H3.out))).symm, hbel.drewN _⟩
          · obtain rfl : k = a.size := by omega
            go_wp2
            go_ret
            exact ⟨ret_int (FIN.out a.size (by omega) (by omega) (by omega) _ (by omega) HP.out (.inl rfl)).symm, hbel⟩
      · go_loopw [21] (fun i wr => ∃ k : Nat, k ≤ b.size ∧ i = .int .i64 k ∧ Hid (a.data.toList.take k = b.data.toList.take k) ∧ Drawn w wr) (fun i _ => b.size - (intOf i).toNat)
        case atStart => exact ⟨0, Nat.zero_le _, rfl, rfl, Drawn.refl _⟩
        case round =>
          obtain ⟨k, hk, rfl, HP, hbel⟩ := hrel
          by_cases h1 : k < b.size
          · have h1a : k < a.size := by omega
            have h1b : k < b.size := by omega
            by_cases h3 : ((a[k].toNat : Int) == b[k].toNat) = true
            · go_wp2
              go_quiet (fail)
              go_wp2
              go_roundw
              case rel => exact ⟨k + 1, by omega, by go_num, take_both HP.out h1a h1b h3, hbel.drewN _⟩
              case measure => simp [intOf]; omega
            · have h3' : ((a[k].toNat : Int) == b[k].toNat) = false := by simpa using h3
              have H3 := Lib.hid h3
              clear h3
              go_wp2
              go_quiet (fail)
              go_wp2
              go_ret
              exact ⟨ret_int (FIN.out b.size (by omega) (by omega) (by omega) k (by omega) HP.out (.inr (get_ne h1a h1b H3.out))).symm, hbel.drewN _⟩
          · obtain rfl : k = b.size := by omega
            go_wp2
            go_ret
            exact ⟨ret_int (FIN.out b.size (by omega) (by omega) (by omega) _ (by omega) HP.out (.inl rfl)).symm, hbel⟩
    · rw [Bool.not_eq_true] at hvb
      have hno := sharedI_no (a := a.data.toList) (b := b.data.toList) (by rw [hva, hvb]; rfl)
      have HA := Lib.hid hva
      have HB := Lib.hid hvb
      have HN := Lib.hid hno
      clear hva hvb hno
      go_enter Try.func49, Try.ntmps49
      go_wp2_with fail
      refine (wordValid_impl _ _ ha').mono ?_
      rintro e w' ⟨rfl, rfl⟩
      rw [HA.out]
      go_wp2_with fail
      refine (wordValid_impl _ _ hb').mono ?_
      rintro e w' ⟨rfl, rfl⟩
      rw [HB.out]
      go_wp2_with fail
      go_ret
      exact ⟨ret_int HN.out.symm, Drawn.refl _⟩
  · rw [Bool.not_eq_true] at hva
    have hno := sharedI_no (a := a.data.toList) (b := b.data.toList) (by rw [hva]; rfl)
    have HA := Lib.hid hva
    have HN := Lib.hid hno
    clear hva hno
    go_enter Try.func49, Try.ntmps49
    go_wp2_with fail
    refine (wordValid_impl _ _ ha').mono ?_
    rintro e w' ⟨rfl, rfl⟩
    rw [HA.out]
    go_wp2_with fail
    go_ret
    exact ⟨ret_int HN.out.symm, Drawn.refl _⟩
theorem alive_any (w : World) : Calls Try.prog 16 #[] w fun e w' => e = .returned (.bool true) ∧ Drawn w w' := by
  have hv : sharedI (ByteArray.mk #[119, 111, 114, 100]).data.toList (ByteArray.mk #[119, 111, 114, 108, 100]).data.toList = 3 := by decide
  have HV := Lib.hid hv
  clear hv
  go_enter Try.func16, Try.ntmps16
  go_wp2_with fail
  refine (sharedStart_impl _ _ _ (by decide) (by decide)).mono ?_
  rintro e w' ⟨rfl, hd⟩
  rw [HV.out]
  go_wp2_with fail
  go_ret
  exact ⟨rfl, hd⟩
end Go.Proofs.Ytmolphaihapkkaa
