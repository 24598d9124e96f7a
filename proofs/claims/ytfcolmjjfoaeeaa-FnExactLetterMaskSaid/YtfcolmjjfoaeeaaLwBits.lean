/- The walks of the laws of chapter 5 over contracts of the program's functions: masks and columns. -/
import Derived.Test.YtfcolmjjfoaeeaaDrawBits
import Derived.Test.YtfcolmjjfoaeeaaBits5Dist
import Derived.Test.YtfcolmjjfoaeeaaDistFns
namespace Go.Proofs.Ytfcolmjjfoaeeaa
open Go.RowKit
set_option maxHeartbeats 1600000
set_option linter.unusedSimpArgs false
set_option linter.unusedVariables false

/-- what impl.LetterMask does -/
def MaskC : Prop := ∀ (s : ByteArray) (c : Int) (w : World), s.size ≤ maxLen → 0 ≤ c → c ≤ 255 →
  Calls Try.prog 13 #[.string s, .int .u8 c] w fun e w' => e = .returned (.int .i64 (maskI s.data.toList c)) ∧ Below w.heap.size w w'
theorem MaskC.is (h : MaskC) {s : ByteArray} {c v : Int} (hv : maskI s.data.toList c = v) (w : World) (hs : s.size ≤ maxLen) (h0 : 0 ≤ c) (h1 : c ≤ 255) :
    Calls Try.prog 13 #[.string s, .int .u8 c] w fun e w' => e = .returned (.int .i64 v) ∧ Below w.heap.size w w' := hv ▸ h s c w hs h0 h1
theorem letterMask_spec_is {s : ByteArray} {c v : Int} (hv : maskI s.data.toList c = v) (w : World) (hs : s.size ≤ maxLen) (h0 : 0 ≤ c) (h1 : c ≤ 255) :
    Calls Try.prog 14 #[.string s, .int .u8 c] w fun e w' => e = .returned (.int .i64 v) ∧ Drawn w w' := hv ▸ letterMask_spec s c w hs h0 h1

/-- the letters below the j-th one -/
def belowP (s : List UInt8) (j k : Nat) : Bool := match s[k]? with
  | some x => decide (x.toNat < 97 + j)
  | none => false
theorem word_letter {s : List UInt8} (h : wordB s = true) (k : Nat) (hk : k < s.length) : 97 ≤ s[k].toNat ∧ s[k].toNat ≤ 122 := by
  unfold wordB lettersB at h
  simp only [Bool.and_eq_true, List.all_eq_true] at h
  have := h.2 s[k] (List.getElem_mem hk)
  unfold letterB at this
  simp only [Bool.and_eq_true, decide_eq_true_eq] at this
  omega
theorem below_zero {s : List UInt8} (h : wordB s = true) : maskN (belowP s 0) s.length = 0 := maskN_eq_zero fun k hk => by
  have := word_letter h k hk
  unfold belowP
  rw [List.getElem?_eq_getElem hk]
  simp; omega
theorem below_last {s : List UInt8} (h : wordB s = true) : maskN (belowP s 26) s.length = 2 ^ s.length - 1 := by
  rw [← maskN_all]
  exact maskN_congr fun k hk => by
    have := word_letter h k hk
    unfold belowP
    rw [List.getElem?_eq_getElem hk]
    simp; omega
theorem below_and (s : List UInt8) (j n : Nat) : maskN (belowP s j) n &&& maskN (hasAt s (97 + (j : Int))) n = 0 := maskN_and fun k _ => by
  unfold belowP hasAt
  cases s[k]? with
  | none => simp
  | some x => simp; omega
theorem below_or (s : List UInt8) (j n : Nat) : maskN (belowP s j) n ||| maskN (hasAt s (97 + (j : Int))) n = maskN (belowP s (j + 1)) n := by
  rw [maskN_orr]
  exact maskN_congr fun k _ => by
    unfold belowP hasAt
    cases s[k]? with
    | none => rfl
    | some x =>
      by_cases h1 : x.toNat < 97 + j
      · simp [h1]; omega
      · by_cases h2 : x.toNat = 97 + j
        · simp [h2]
        · have e1 : decide (x.toNat < 97 + j) = false := by simp; omega
          have e2 : decide (x.toNat < 97 + (j + 1)) = false := by simp; omega
          simp only [e1, e2, Option.map_some, Bool.false_or]
          simp; omega

theorem walkFnLetterMask (HC : MaskC) (A : Option Addr) (n c : Nat) (w : World) (h : Bytes w w.heap.size A n) (hnc : n ≤ c) (hc : c ≤ maxLen) :
    Calls Try.prog 3 #[.slice A n c] w fun e w' => e = .returned (.bool true) ∧ Below w.heap.size w w' := by
  have HC := Lib.hid HC
  have hn : n ≤ maxLen := Nat.le_trans hnc hc
  unfold maxLen at hn
  by_cases hn2 : (1048576 : Int) < n
  · go_enter Try.func3, Try.ntmps3
    go_wp2_with fail
    go_ret
    exact ⟨rfl, Below.refl _ _⟩
  · go_enter Try.func3, Try.ntmps3
    go_wp2_with fail
    refine (drawLetterMask_any _ _ _ _ h hnc hc).mono ?_
    rintro e w1 ⟨s, k, rfl, hs, hb1⟩
    clear h hnc hc
    have sm : s.size ≤ maxLen := by unfold maxLen; omega
    have k0 : (0 : Int) ≤ (k.toNat : Int) := by omega
    have k1 : (k.toNat : Int) ≤ 255 := by have := k.toNat_lt; omega
    obtain ⟨v, hv⟩ : ∃ v, maskI s.data.toList (k.toNat : Int) = v := ⟨_, rfl⟩
    have HV := Lib.hid hv
    go_wp2_with fail
    refine (HC.out.is HV.out _ sm k0 k1).mono ?_
    rintro e w2 ⟨rfl, hb2⟩
    have hb2 := below_step hb1 (Nat.le_refl _) hb2
    go_wp2_with fail
    refine (letterMask_spec_is HV.out _ sm k0 k1).mono ?_
    rintro e w3 ⟨rfl, hd3⟩
    have hb3 := below_step hb2 (Nat.le_refl _) hd3.below
    clear hd3 hb1 hb2
    cases hok : (wordB s.data.toList && letterB (k.toNat : Int))
    · rw [maskI_no hok] at hv
      subst hv
      go_wp2_with fail
      refine (alive_any _).mono ?_
      rintro e w4 ⟨rfl, hd4⟩
      go_wp2_with fail
      go_ret
      exact ⟨rfl, below_step hb3 (Nat.le_refl _) hd4.below⟩
    · rw [maskI_yes hok] at hv
      have hw : wordB s.data.toList = true := by simp only [Bool.and_eq_true] at hok; exact hok.1
      have h12 := word_size hw
      have hlt := maskN_lt (hasAt s.data.toList (k.toNat : Int)) s.data.toList.length
      have hps := pow_small (k := s.size) (by omega)
      have hpp := Nat.two_pow_pos s.size
      rw [len_eq] at hlt hv
      obtain ⟨x, hx⟩ : ∃ x, maskN (hasAt s.data.toList (k.toNat : Int)) s.size = x := ⟨_, rfl⟩
      rw [hx] at hlt hv
      subst hv
      have v0 : ¬ ((x : Int) < 0) := by omega
      have HW := Lib.hid hw
      clear hok hw hx
      go_wp2_with fail
      go_loopw [6, 7] (fun a i wr => ∃ j : Nat, j ≤ 26 ∧ i = .int .u8 (97 + (j : Int)) ∧ a = .int .i64 (maskN (belowP s.data.toList j) s.size : Int) ∧ Below w.heap.size w wr) (fun _ i _ => 123 - (intOf i).toNat)
      case atStart => exact ⟨0, by omega, rfl, by have := below_zero HW.out; rw [len_eq] at this; rw [this]; rfl, hb3⟩
      case round =>
        clear hb3
        obtain ⟨j, hj, rfl, rfl, hbel⟩ := hrel
        by_cases hj26 : j < 26
        · have hm : maskI s.data.toList (97 + (j : Int)) = (maskN (hasAt s.data.toList (97 + (j : Int))) s.size : Int) := by
            rw [maskI_yes (by rw [HW.out]; simp [letterB]; omega), len_eq]
          have ha := bits_and_i64_nat (maskN (belowP s.data.toList j) s.size) (maskN (hasAt s.data.toList (97 + (j : Int))) s.size) (by have := mask_small (belowP s.data.toList j) (k := s.size) (by omega); omega) (by have := mask_small (hasAt s.data.toList (97 + (j : Int))) (k := s.size) (by omega); omega)
          have ho := bits_or_i64_nat (maskN (belowP s.data.toList j) s.size) (maskN (hasAt s.data.toList (97 + (j : Int))) s.size) (by have := mask_small (belowP s.data.toList j) (k := s.size) (by omega); omega) (by have := mask_small (hasAt s.data.toList (97 + (j : Int))) (k := s.size) (by omega); omega)
          rw [below_and] at ha
          rw [below_or] at ho
          have HM := Lib.hid hm
          have HO := Lib.hid ho
          have j0 : (0 : Int) ≤ 97 + (j : Int) := by omega
          have j1 : 97 + (j : Int) ≤ 255 := by omega
          have j2 : 97 + (j : Int) ≤ 122 := by omega
          clear hm ho
          obtain ⟨y, hy⟩ : ∃ y, maskN (hasAt s.data.toList (97 + (j : Int))) s.size = y := ⟨_, rfl⟩
          obtain ⟨z, hz⟩ : ∃ z, maskN (belowP s.data.toList j) s.size = z := ⟨_, rfl⟩
          rw [hy] at ha HM HO
          rw [hz] at ha HO
          rw [hz]
          have HZ := Lib.hid hz
          have y0 : ¬ ((y : Int) < 0) := by omega
          clear hy hz
          go_wp2_with fail
          refine (HC.out.is HM.out _ sm j0 j1).mono ?_
          rintro e w2 ⟨rfl, hb2⟩
          have hbel := below_step hbel (Nat.le_refl _) hb2
          clear hb2
          go_wp2_with fail
          go_roundw
          case rel => exact ⟨j + 1, by omega, by go_num, by rw [HO.out], hbel⟩
          case measure => simp [intOf]; omega
        · obtain rfl : j = 26 := by omega
          have hl := below_last HW.out
          rw [len_eq] at hl
          rw [hl]
          have hp := pow_i64 (k := s.size) (by omega)
          generalize 2 ^ s.size = p at *
          have e1 : ((p - 1 : Nat) : Int) = (p : Int) - 1 := by omega
          rw [e1]
          have hpw : IntKind.i64.wrap ((p : Int) - 1) = (p : Int) - 1 := IntWalk.i64_in _ (by omega)
          have hxp : (x : Int) ≤ (p : Int) - 1 := by omega
          go_wp2_with fail
          go_ret
          exact ⟨rfl, hbel⟩
end Go.Proofs.Ytfcolmjjfoaeeaa
