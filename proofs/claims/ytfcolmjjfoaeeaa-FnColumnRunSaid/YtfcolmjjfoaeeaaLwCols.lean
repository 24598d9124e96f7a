/- The walks of the laws FnBitColumn, FnStepColumn, FnBitDistance over contracts of the program's functions. -/
import Derived.Test.YtfcolmjjfoaeeaaLwBits
namespace Go.Proofs.Ytfcolmjjfoaeeaa
open Go.RowKit
set_option maxHeartbeats 1600000
set_option linter.unusedSimpArgs false
set_option linter.unusedVariables false

/-- what impl.BitColumn does -/
def ColumnC : Prop := ∀ (a b : ByteArray) (w : World), a.size ≤ maxLen → b.size ≤ maxLen →
  Calls Try.prog 17 #[.string a, .string b] w fun e w' => e = .returned (colV a.data.toList b.data.toList) ∧ Below w.heap.size w w'
theorem ColumnC.is (h : ColumnC) {a b : ByteArray} {v : Value} (hv : colV a.data.toList b.data.toList = v) (w : World) (ha : a.size ≤ maxLen) (hb : b.size ≤ maxLen) :
    Calls Try.prog 17 #[.string a, .string b] w fun e w' => e = .returned v ∧ Below w.heap.size w w' := hv ▸ h a b w ha hb
/-- what impl.BitDistance does -/
def BitC : Prop := ∀ (n m u d : Int) (w : World), I64 n → I64 m → I64 u → I64 d →
  Calls Try.prog 19 #[.int .i64 n, .int .i64 m, .int .i64 u, .int .i64 d] w fun e w' => e = .returned (.int .i64 (bitI n m u d)) ∧ Below w.heap.size w w'
theorem BitC.is (h : BitC) {n m u d v : Int} (hv : bitI n m u d = v) (w : World) (h1 : I64 n) (h2 : I64 m) (h3 : I64 u) (h4 : I64 d) :
    Calls Try.prog 19 #[.int .i64 n, .int .i64 m, .int .i64 u, .int .i64 d] w fun e w' => e = .returned (.int .i64 v) ∧ Below w.heap.size w w' := hv ▸ h n m u d w h1 h2 h3 h4
/-- what impl.StepColumn does -/
def StepC : Prop := ∀ (a b : ByteArray) (c : UInt8) (w : World), a.size ≤ maxLen → b.size ≤ maxLen →
  Calls Try.prog 24 #[.string a, .string b, .int .u8 (c.toNat : Int)] w fun e w' => e = .returned (stepV a b c) ∧ Below w.heap.size w w'
theorem StepC.is (h : StepC) {a b : ByteArray} {c : UInt8} {v : Value} (hv : stepV a b c = v) (w : World) (ha : a.size ≤ maxLen) (hb : b.size ≤ maxLen) :
    Calls Try.prog 24 #[.string a, .string b, .int .u8 (c.toNat : Int)] w fun e w' => e = .returned v ∧ Below w.heap.size w w' := hv ▸ h a b c w ha hb
theorem stepColumn_spec_is {a b : ByteArray} {c : UInt8} {v : Value} (hv : stepV a b c = v) (w : World) (ha : a.size ≤ maxLen) (hb : b.size ≤ maxLen) :
    Calls Try.prog 25 #[.string a, .string b, .int .u8 (c.toNat : Int)] w fun e w' => e = .returned v ∧ Below w.heap.size w w' := hv ▸ stepColumn_spec a b c w ha hb
theorem bitDistance_spec_is {n m u d v : Int} (hv : bitI n m u d = v) (w : World) :
    Calls Try.prog 22 #[.int .i64 n, .int .i64 m, .int .i64 u, .int .i64 d] w fun e w' => e = .returned (.int .i64 v) ∧ Drawn w w' := hv ▸ bitDistance_spec n m u d w

theorem bitOk_nat {n m u d : Nat} (hn : n ≤ 12) (hm : m ≤ 12) (hu : u < 2 ^ n) (hd : d < 2 ^ n) (h : u &&& d = 0) : bitOk n m u d = true := by
  unfold bitOk
  rw [Int.toNat_natCast, two_pow_cast]
  generalize 2 ^ n = p at *
  rw [inB_ok (by omega) (by omega), inB_ok (by omega) (by omega), inB_ok (by omega) (by omega), inB_ok (by omega) (by omega)]
  simp [h]
/-- from the column of two words the distance is told -/
theorem bit_of_col {a b : List UInt8} (ha : a.length ≤ 12) (hb : b.length ≤ 12) : bitI (a.length : Int) (b.length : Int) (upN a b : Int) (downN a b : Int) = (ed false a b : Int) := by
  rw [bitI_yes (bitOk_nat (u := upN a b) (d := downN a b) ha hb (maskN_lt _ _) (maskN_lt _ _) (updown a b))]
  simp only [Int.toNat_natCast]
  rw [col_dist]
  omega
theorem up_small (a b : List UInt8) (ha : a.length ≤ 12) : upN a b ≤ 8192 := mask_small _ (by omega)
theorem down_small (a b : List UInt8) (ha : a.length ≤ 12) : downN a b ≤ 8192 := mask_small _ (by omega)
theorem word_len {l : List UInt8} (h : wordB l = true) : l.length ≤ 12 := by unfold wordB at h; simp only [Bool.and_eq_true, decide_eq_true_eq] at h; exact h.1
theorem edit_is (HE : EditC) {a b : ByteArray} {d : Nat} (ha : wordB a.data.toList = true) (hb : wordB b.data.toList = true) (hd : ed false a.data.toList b.data.toList = d) (w : World) :
    Calls Try.prog 20 #[.string a, .string b] w fun e w' => e = .returned (.int .i64 (d : Int)) ∧ Below w.heap.size w w' := by
  have := HE a b w (by have := word_size ha; unfold maxLen; omega) (by have := word_size hb; unfold maxLen; omega)
  rw [twoI_yes (by rw [ha, hb]; rfl), hd] at this
  exact this
theorem wrap_pred {p : Nat} (h : p ≤ 8192) : IntKind.i64.wrap ((p : Int) - 1) = (p : Int) - 1 := IntWalk.i64_in _ (by omega)
theorem i64_nat {n : Nat} (h : n ≤ 1000000) : I64 (n : Int) := by unfold I64; omega

theorem walkFnBitColumn (HC : ColumnC) (HB : BitC) (HE : EditC) (A : Option Addr) (n c : Nat) (w : World) (h : Bytes w w.heap.size A n) (hnc : n ≤ c) (hc : c ≤ maxLen) :
    Calls Try.prog 4 #[.slice A n c] w fun e w' => e = .returned (.bool true) ∧ Below w.heap.size w w' := by
  have HC := Lib.hid HC
  have HB := Lib.hid HB
  have HE := Lib.hid HE
  have hn : n ≤ maxLen := Nat.le_trans hnc hc
  unfold maxLen at hn
  by_cases hn2 : (1048576 : Int) < n
  · go_enter Try.func4, Try.ntmps4
    go_wp2_with fail
    go_ret
    exact ⟨rfl, Below.refl _ _⟩
  · go_enter Try.func4, Try.ntmps4
    go_wp2_with fail
    refine (drawBitColumn_any _ _ _ _ h hnc hc).mono ?_
    rintro e w1 ⟨a, b, rfl, ha, hb, hb1⟩
    clear h hnc hc
    have am : a.size ≤ maxLen := by unfold maxLen; omega
    have bm : b.size ≤ maxLen := by unfold maxLen; omega
    cases hok : (wordB a.data.toList && wordB b.data.toList)
    · have HV := Lib.hid (colV_no hok)
      clear hok
      go_wp2_with fail
      refine (HC.out.is HV.out _ am bm).mono ?_
      rintro e w2 ⟨rfl, hb2⟩
      have hb2 := below_step hb1 (Nat.le_refl _) hb2
      go_wp2_with fail
      refine (bitColumn_spec_is HV.out _ am bm).mono ?_
      rintro e w3 ⟨rfl, hb3⟩
      have hb3 := below_step hb2 (Nat.le_refl _) hb3
      go_wp2_with fail
      refine (alive_any _).mono ?_
      rintro e w4 ⟨rfl, hd4⟩
      go_wp2_with fail
      go_ret
      exact ⟨rfl, below_step hb3 (Nat.le_refl _) hd4.below⟩
    · have hv := colV_yes hok
      simp only [Bool.and_eq_true] at hok
      have hl := word_len hok.1
      have hl2 := word_len hok.2
      have hbc := bit_of_col hl hl2
      have hand := bits_and_i64_nat (upN a.data.toList b.data.toList) (downN a.data.toList b.data.toList) (by have := up_small a.data.toList b.data.toList hl; omega) (by have := down_small a.data.toList b.data.toList hl; omega)
      rw [updown] at hand
      have s1 := up_small a.data.toList b.data.toList hl
      have s2 := down_small a.data.toList b.data.toList hl
      have hv0 : colV a.data.toList (ByteArray.mk #[]).data.toList = .tuple #[.int .i64 ((2 ^ a.size : Nat) - 1 : Int), .int .i64 0] := by
        have e0 : wordB (ByteArray.mk #[]).data.toList = true := by decide
        rw [colV_yes (by rw [hok.1, e0]; rfl)]
        have e1 : (ByteArray.mk #[]).data.toList = [] := rfl
        rw [e1, up_empty, down_empty, len_eq]
        have := Nat.two_pow_pos a.size
        rw [show ((2 ^ a.size - 1 : Nat) : Int) = ((2 ^ a.size : Nat) : Int) - 1 by omega]
        rfl
      have H1 := Lib.hid hok.1
      have H2 := Lib.hid hok.2
      rw [len_eq] at hl hl2
      rw [len_eq, len_eq] at hbc
      obtain ⟨d, hd⟩ : ∃ d, ed false a.data.toList b.data.toList = d := ⟨_, rfl⟩
      rw [hd] at hbc
      have HD := Lib.hid hd
      have hp := pow_i64 (k := a.size) (by omega)
      have hps := pow_small (k := a.size) (by omega)
      have hpp := Nat.two_pow_pos a.size
      obtain ⟨p, hpe⟩ : ∃ p, 2 ^ a.size = p := ⟨_, rfl⟩
      rw [hpe] at hp hps hpp hv0
      have hpw := wrap_pred hps
      generalize upN a.data.toList b.data.toList = u at *
      generalize downN a.data.toList b.data.toList = v at *
      have HV := Lib.hid hv
      have HV0 := Lib.hid hv0
      have HBC := Lib.hid hbc
      have u0 : ¬ ((u : Int) < 0) := by omega
      have em : (ByteArray.mk #[]).size ≤ maxLen := Nat.zero_le _
      have q1 : I64 (a.size : Int) := i64_nat (by omega)
      have q2 : I64 (b.size : Int) := i64_nat (by omega)
      have q3 : I64 (u : Int) := i64_nat (by omega)
      have q4 : I64 (v : Int) := i64_nat (by omega)
      have Q := Lib.hid (And.intro q1 (And.intro q2 (And.intro q3 q4)))
      clear hok hv hv0 hbc hd hpe q1 q2 q3 q4
      go_wp2_with fail
      refine (HC.out.is HV.out _ am bm).mono ?_
      rintro e w2 ⟨rfl, hb2⟩
      have hb2 := below_step hb1 (Nat.le_refl _) hb2
      go_wp2_with fail
      refine (bitColumn_spec_is HV.out _ am bm).mono ?_
      rintro e w3 ⟨rfl, hb3⟩
      have hb3 := below_step hb2 (Nat.le_refl _) hb3
      go_wp2_with fail
      refine (HC.out.is HV0.out _ am em).mono ?_
      rintro e w4 ⟨rfl, hb4⟩
      have hb4 := below_step hb3 (Nat.le_refl _) hb4
      go_wp2_with fail
      refine (HB.out.is HBC.out _ Q.out.1 Q.out.2.1 Q.out.2.2.1 Q.out.2.2.2).mono ?_
      rintro e w5 ⟨rfl, hb5⟩
      have hb5 := below_step hb4 (Nat.le_refl _) hb5
      go_wp2_with fail
      refine (edit_is HE.out H1.out H2.out HD.out _).mono ?_
      rintro e w6 ⟨rfl, hb6⟩
      have hb6 := below_step hb5 (Nat.le_refl _) hb6
      go_wp2_with fail
      go_ret
      exact ⟨rfl, hb6⟩
theorem bitI_ge (n m u d : Int) : -1 ≤ bitI n m u d := by unfold bitI; split <;> omega
/-- what is known where the distance is told -/
theorem bitI_told {n m u d : Int} (h : 0 ≤ bitI n m u d) : ∃ k l x y : Nat, n = k ∧ m = l ∧ u = x ∧ d = y ∧ k ≤ 12 ∧ l ≤ 12 ∧ x < 2 ^ k ∧ y < 2 ^ k ∧ x &&& y = 0 ∧ bitI n m u d = (l : Int) + digits x k - digits y k := by
  cases hok : bitOk n m u d
  · rw [bitI_no hok] at h; omega
  · have hy := bitI_yes hok
    have hk := hok
    unfold bitOk at hk
    simp only [Bool.and_eq_true, decide_eq_true_eq] at hk
    obtain ⟨⟨⟨⟨h1, h2⟩, h3⟩, h4⟩, h5⟩ := hk
    obtain ⟨k, rfl, hk⟩ := inB_nat h1
    obtain ⟨l, rfl, hl⟩ := inB_nat h2
    obtain ⟨x, rfl, hx⟩ := inB_nat h3
    obtain ⟨y, rfl, hyy⟩ := inB_nat h4
    rw [Int.toNat_natCast, two_pow_cast] at hx hyy
    have hpp := Nat.two_pow_pos k
    simp only [Int.toNat_natCast] at h5 hy
    refine ⟨k, l, x, y, rfl, rfl, rfl, rfl, by omega, by omega, ?_, ?_, h5, by rw [hy] at h ⊢; omega⟩
    · generalize 2 ^ k = p at *; omega
    · generalize 2 ^ k = p at *; omega
theorem bitI_more {k l x y j : Nat} (hk : k ≤ 12) (hl : l ≤ 12) (hx : x < 2 ^ k) (hy : y < 2 ^ k) (h : x &&& y = 0) (hj : j < k) (hx0 : x / 2 ^ j % 2 = 0) (hy0 : y / 2 ^ j % 2 = 0) (hd : 0 ≤ (l : Int) + digits x k - digits y k) :
    bitI (k : Int) (l : Int) ((x ||| 2 ^ j : Nat) : Int) (y : Int) = (l : Int) + digits x k - digits y k + 1 := by
  rw [bitI_yes (bitOk_nat hk hl (digit_more_lt x j k hj hx) hy (digit_more_and x y j h hy0))]
  simp only [Int.toNat_natCast]
  rw [digits_more x j k hj hx0]
  omega
theorem bitI_plain {k l : Nat} (hk : k ≤ 12) (hl : l ≤ 12) : bitI (k : Int) (l : Int) 0 0 = (l : Int) := by
  have := bitI_yes (bitOk_nat (u := 0) (d := 0) hk hl (Nat.two_pow_pos k) (Nat.two_pow_pos k) (by simp))
  rw [show ((0 : Nat) : Int) = 0 from rfl] at this
  rw [this]
  simp [digits_zero]
  omega

theorem walkFnBitDistance (HB : BitC) (A : Option Addr) (n c : Nat) (w : World) (h : Bytes w w.heap.size A n) (hnc : n ≤ c) (hc : c ≤ maxLen) :
    Calls Try.prog 5 #[.slice A n c] w fun e w' => e = .returned (.bool true) ∧ Below w.heap.size w w' := by
  have HB := Lib.hid HB
  have hn : n ≤ maxLen := Nat.le_trans hnc hc
  unfold maxLen at hn
  by_cases hn2 : (1048576 : Int) < n
  · go_enter Try.func5, Try.ntmps5
    go_wp2_with fail
    go_ret
    exact ⟨rfl, Below.refl _ _⟩
  · go_enter Try.func5, Try.ntmps5
    go_wp2_with fail
    refine (drawBitDistance_any _ _ _ _ h hnc hc).mono ?_
    rintro e w1 ⟨nn, mm, uu, dd, rfl, i1, i2, i3, i4, hb1⟩
    clear h hnc hc
    have Q := Lib.hid (And.intro i1 (And.intro i2 (And.intro i3 i4)))
    clear i1 i2 i3 i4
    obtain ⟨v, hv⟩ : ∃ v, bitI nn mm uu dd = v := ⟨_, rfl⟩
    have hge := bitI_ge nn mm uu dd
    rw [hv] at hge
    have HV := Lib.hid hv
    by_cases hv0 : v < 0
    · obtain rfl : v = -1 := by omega
      clear hv
      go_wp2_with fail
      refine (HB.out.is HV.out _ Q.out.1 Q.out.2.1 Q.out.2.2.1 Q.out.2.2.2).mono ?_
      rintro e w2 ⟨rfl, hb2⟩
      have hb2 := below_step hb1 (Nat.le_refl _) hb2
      go_wp2_with fail
      refine (bitDistance_spec_is HV.out _).mono ?_
      rintro e w3 ⟨rfl, hd3⟩
      have hb3 := below_step hb2 (Nat.le_refl _) hd3.below
      go_wp2_with fail
      refine (alive_any _).mono ?_
      rintro e w4 ⟨rfl, hd4⟩
      go_wp2_with fail
      go_ret
      exact ⟨rfl, below_step hb3 (Nat.le_refl _) hd4.below⟩
    · obtain ⟨k, l, x, y, rfl, rfl, rfl, rfl, hk, hl, hx, hy, hand, he⟩ := bitI_told (n := nn) (m := mm) (u := uu) (d := dd) (by omega)
      rw [hv] at he
      have hdx := digits_le x k
      have hdy := digits_le y k
      have hps := pow_small (k := k) (by omega)
      have HX := Lib.hid (And.intro hx (And.intro hy hand))
      have HEQ := Lib.hid he
      have HPL := Lib.hid (bitI_plain hk hl)
      have x8 : x ≤ 8192 := by omega
      have y8 : y ≤ 8192 := by omega
      have v40 : v ≤ 40 := by omega
      have v41 : v ≤ (k : Int) + (l : Int) := by omega
      clear hv he hx hy hand hps
      go_wp2_with fail
      refine (HB.out.is HV.out _ Q.out.1 Q.out.2.1 Q.out.2.2.1 Q.out.2.2.2).mono ?_
      rintro e w2 ⟨rfl, hb2⟩
      have hb2 := below_step hb1 (Nat.le_refl _) hb2
      go_wp2_with fail
      refine (bitDistance_spec_is HV.out _).mono ?_
      rintro e w3 ⟨rfl, hd3⟩
      have hb3 := below_step hb2 (Nat.le_refl _) hd3.below
      clear hb1 hb2 hd3
      go_wp2_with fail
      go_loopw [8] (fun i wr => ∃ j : Nat, j ≤ k ∧ i = .int .i64 j ∧ Below w.heap.size w wr) (fun i _ => k - (intOf i).toNat)
      case atStart => exact ⟨0, Nat.zero_le _, rfl, hb3⟩
      case round =>
        clear hb3
        obtain ⟨j, hj, rfl, hbel⟩ := hrel
        by_cases hlt : j < k
        · have j0 : (0 : Int) ≤ (j : Int) := by omega
          have j1 : (j : Int) < (k : Int) := by omega
          have t1 := digit_tmod x j
          have t2 := digit_tmod y j
          have l1 : x / 2 ^ j % 2 < 2 := Nat.mod_lt _ (by omega)
          have l2 : y / 2 ^ j % 2 < 2 := Nat.mod_lt _ (by omega)
          have HM := Lib.hid (fun h1 h2 => bitI_more (j := j) hk hl HX.out.1 HX.out.2.1 HX.out.2.2 hlt h1 h2 (by have := HEQ.out; omega))
          have ho := or_pow (x := x) (k := j) x8 (by omega)
          have so : x ||| 2 ^ j ≤ 8192 := by have := digit_more_lt x j k hlt HX.out.1; have := pow_small (k := k) (by omega); omega
          generalize x / 2 ^ j % 2 = a at *
          generalize y / 2 ^ j % 2 = b at *
          rcases (show a = 0 ∨ a = 1 by omega) with rfl | rfl
          · rcases (show b = 0 ∨ b = 1 by omega) with rfl | rfl
            · have hq := HM.out rfl rfl
              rw [← HEQ.out] at hq
              have HQ := Lib.hid hq
              have q3 : I64 ((x ||| 2 ^ j : Nat) : Int) := i64_nat (by omega)
              generalize x ||| 2 ^ j = z at *
              clear hq HM
              go_wp2_with fail
              refine (HB.out.is HQ.out _ Q.out.1 Q.out.2.1 q3 Q.out.2.2.2).mono ?_
              rintro e w4 ⟨rfl, hb4⟩
              have hbel := below_step hbel (Nat.le_refl _) hb4
              go_wp2_with fail
              go_roundw
              case rel => exact ⟨j + 1, by omega, by go_num, hbel⟩
              case measure => simp [intOf]; omega
            · clear HM
              go_wp2_with fail
              go_roundw
              case rel => exact ⟨j + 1, by omega, by go_num, hbel⟩
              case measure => simp [intOf]; omega
          · clear HM
            go_wp2_with fail
            go_roundw
            case rel => exact ⟨j + 1, by omega, by go_num, hbel⟩
            case measure => simp [intOf]; omega
        · obtain rfl : j = k := by omega
          go_wp2_with fail
          refine (HB.out.is HPL.out _ Q.out.1 Q.out.2.1 (by unfold I64; omega) (by unfold I64; omega)).mono ?_
          rintro e w4 ⟨rfl, hb4⟩
          have hbel := below_step hbel (Nat.le_refl _) hb4
          go_wp2_with fail
          go_ret
          exact ⟨rfl, hbel⟩
end Go.Proofs.Ytfcolmjjfoaeeaa
