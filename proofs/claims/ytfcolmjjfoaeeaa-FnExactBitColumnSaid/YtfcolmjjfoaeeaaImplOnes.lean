/- Contracts of the standard library's OnesCount at small numbers, and of the program's BitDistance. -/
import Derived.Test.YtfcolmjjfoaeeaaImplNext
namespace Go.Proofs.Ytfcolmjjfoaeeaa
open Go.RowKit
set_option maxHeartbeats 1600000
set_option linter.unusedSimpArgs false
set_option linter.unusedVariables false

def pop1 (x : Int) : Int := IntKind.u64.wrap (bits .and .u64 (x / 2) 6148914691236517205 + bits .and .u64 x 6148914691236517205)
def pop2 (x : Int) : Int := IntKind.u64.wrap (bits .and .u64 (x / 4) 3689348814741910323 + bits .and .u64 x 3689348814741910323)
def pop4 (x : Int) : Int := bits .and .u64 (IntKind.u64.wrap (x / 16 + x)) 1085102592571150095
def pop8s (x : Int) : Int := IntKind.u64.wrap (x + x / 256)
def pop16 (x : Int) : Int := IntKind.u64.wrap (x + x / 65536)
def pop32 (x : Int) : Int := IntKind.u64.wrap (x + x / 4294967296)
def popI (x : Int) : Int := bits .and .i64 (wrap64 (pop32 (pop16 (pop8s (pop4 (pop2 (pop1 x))))))) 127
theorem ones64_any (x : Int) (w : World) (h0 : 0 ≤ x) (h1 : x ≤ 4095) :
    Calls Try.prog 48 #[.int .u64 x] w fun e w' => e = .returned (.int .i64 (popI x)) ∧ w' = w := by
  go_enter Try.func48, Try.ntmps48
  go_wp2_with fail
  go_ret
  exact ⟨ret_int rfl, rfl⟩
theorem popI_small : ∀ n : Fin 64, ∀ m : Fin 64, popI ((64 * n.val + m.val : Nat) : Int) = (digits (64 * n.val + m.val) 12 : Int) := by decide +kernel
theorem popI_is (x : Nat) (h : x < 4096) : popI (x : Int) = (digits x 12 : Int) := by
  have := popI_small ⟨x / 64, by omega⟩ ⟨x % 64, by omega⟩
  simp only at this
  rw [show 64 * (x / 64) + x % 64 = x by omega] at this
  exact this
theorem digits_past {x n : Nat} (h : x < 2 ^ n) (k : Nat) : digits x (n + k) = digits x n := by
  induction k with
  | zero => rfl
  | succ k ih =>
    rw [← Nat.add_assoc, digits, ih]
    have : x / 2 ^ (n + k) = 0 := Nat.div_eq_of_lt (Nat.lt_of_lt_of_le h (Nat.pow_le_pow_right (by omega) (by omega)))
    rw [this]
    omega
theorem popI_digits {x n : Nat} (hn : n ≤ 12) (h : x < 2 ^ n) : popI (x : Int) = (digits x n : Int) := by
  have h2 : x < 4096 := Nat.lt_of_lt_of_le h (Nat.pow_le_pow_right (n := 2) (by omega) hn)
  rw [popI_is x h2, show 12 = n + (12 - n) by omega, digits_past h]
theorem ones_any {x n : Nat} (hn : n ≤ 12) (h : x < 2 ^ n) (w : World) :
    Calls Try.prog 39 #[.int .u64 (x : Int)] w fun e w' => e = .returned (.int .i64 (digits x n : Int)) ∧ w' = w := by
  have h2 : x < 4096 := Nat.lt_of_lt_of_le h (Nat.pow_le_pow_right (n := 2) (by omega) hn)
  have HP := Lib.hid (popI_digits hn h)
  go_enter Try.func39, Try.ntmps39
  go_wp2_with fail
  refine (ones64_any (x : Int) _ (by omega) (by omega)).mono ?_
  rintro e w' ⟨rfl, rfl⟩
  rw [HP.out]
  go_wp2_with fail
  go_ret
  exact ⟨ret_int rfl, rfl⟩
theorem isLength_impl (n : Int) (w : World) (h : I64 n) :
    Calls Try.prog 38 #[.int .i64 n] w fun e w' => e = .returned (.bool (inB n 0 12)) ∧ w' = w := by
  by_cases h0 : (0 : Int) ≤ n
  · by_cases h1 : n ≤ 12
    · have HB := Lib.hid (inB_ok h0 h1)
      go_enter Try.func38, Try.ntmps38
      go_wp2_with fail
      go_ret
      exact ⟨ret_bool HB.out.symm, rfl⟩
    · have HB := Lib.hid (show inB n 0 12 = false by simp [inB]; omega)
      go_enter Try.func38, Try.ntmps38
      go_wp2_with fail
      go_ret
      exact ⟨ret_bool HB.out.symm, rfl⟩
  · have HB := Lib.hid (show inB n 0 12 = false by simp [inB]; omega)
    go_enter Try.func38, Try.ntmps38
    go_wp2_with fail
    go_ret
    exact ⟨ret_bool HB.out.symm, rfl⟩
theorem isLength_is {n : Int} {v : Bool} (hv : inB n 0 12 = v) (w : World) (h : I64 n) :
    Calls Try.prog 38 #[.int .i64 n] w fun e w' => e = .returned (.bool v) ∧ w' = w := hv ▸ isLength_impl n w h
theorem bitDistance_impl : BitC := by
  intro n m u d w i1 i2 i3 i4
  cases h1 : inB n 0 12
  · have HN := Lib.hid (bitI_no (n := n) (m := m) (u := u) (d := d) (by unfold bitOk; rw [h1]; rfl))
    have H1 := Lib.hid h1
    clear h1
    go_enter Try.func19, Try.ntmps19
    go_wp2_with fail
    refine (isLength_is H1.out _ i1).mono ?_
    rintro e w' ⟨rfl, rfl⟩
    go_wp2_with fail
    go_ret
    exact ⟨ret_int HN.out.symm, Below.refl _ _⟩
  · obtain ⟨k, rfl, hk⟩ := inB_nat h1
    have hk12 : k ≤ 12 := by omega
    have H1 := Lib.hid h1
    cases h2 : inB m 0 12
    · have HN := Lib.hid (bitI_no (n := k) (m := m) (u := u) (d := d) (by unfold bitOk; rw [h1, h2]; rfl))
      have H2 := Lib.hid h2
      clear h1 h2
      go_enter Try.func19, Try.ntmps19
      go_wp2_with fail
      refine (isLength_is H1.out _ i1).mono ?_
      rintro e w' ⟨rfl, rfl⟩
      go_wp2_with fail
      refine (isLength_is H2.out _ i2).mono ?_
      rintro e w' ⟨rfl, rfl⟩
      go_wp2_with fail
      go_ret
      exact ⟨ret_int HN.out.symm, Below.refl _ _⟩
    · obtain ⟨m, rfl, hm⟩ := inB_nat h2
      have H2 := Lib.hid h2
      have hps := pow_small (k := k) (by omega)
      have hpp := Nat.two_pow_pos k
      have hpe : (2 : Int) ^ (k : Int).toNat - 1 = ((2 ^ k : Nat) : Int) - 1 := by rw [Int.toNat_natCast, two_pow_cast]
      obtain ⟨p, hpd⟩ : ∃ p, 2 ^ k = p := ⟨_, rfl⟩
      rw [hpd] at hps hpp hpe
      have HPD := Lib.hid hpd
      obtain ⟨al, hal⟩ : ∃ al : Int, al = (p : Int) - 1 := ⟨_, rfl⟩
      rw [← hal] at hpe
      have HAL : Hid (((2 ^ k - 1 : Nat) : Int) = al) := Lib.hid (by rw [hpd]; omega)
      have HE := Lib.hid hal
      clear hal hpd
      by_cases c1 : u < 0
      · have HN := Lib.hid (bitI_no (n := k) (m := m) (u := u) (d := d) (by unfold bitOk; rw [h1, h2, hpe, show inB u 0 al = false by simp [inB]; omega]; rfl))
        clear h1 h2 hpe
        go_enter Try.func19, Try.ntmps19
        go_wp2_with fail
        refine (isLength_is H1.out _ i1).mono ?_
        rintro e w' ⟨rfl, rfl⟩
        go_wp2_with fail
        refine (isLength_is H2.out _ i2).mono ?_
        rintro e w' ⟨rfl, rfl⟩
        go_wp2_with fail
        refine (allPlaces_impl k _ hk12).mono ?_
        rintro e w' ⟨rfl, rfl⟩
        rw [HAL.out]
        go_wp2_with fail
        go_ret
        exact ⟨ret_int HN.out.symm, Below.refl _ _⟩
      · by_cases c2 : al < u
        · have HN := Lib.hid (bitI_no (n := k) (m := m) (u := u) (d := d) (by unfold bitOk; rw [h1, h2, hpe, show inB u 0 al = false by simp [inB]; omega]; rfl))
          clear h1 h2 hpe
          go_enter Try.func19, Try.ntmps19
          go_wp2_with fail
          refine (isLength_is H1.out _ i1).mono ?_
          rintro e w' ⟨rfl, rfl⟩
          go_wp2_with fail
          refine (isLength_is H2.out _ i2).mono ?_
          rintro e w' ⟨rfl, rfl⟩
          go_wp2_with fail
          refine (allPlaces_impl k _ hk12).mono ?_
          rintro e w' ⟨rfl, rfl⟩
          rw [HAL.out]
          go_wp2_with fail
          go_ret
          exact ⟨ret_int HN.out.symm, Below.refl _ _⟩
        · have h3 : inB u 0 al = true := inB_ok (by omega) (by omega)
          by_cases c3 : d < 0
          · have HN := Lib.hid (bitI_no (n := k) (m := m) (u := u) (d := d) (by unfold bitOk; rw [h1, h2, hpe, h3, show inB d 0 al = false by simp [inB]; omega]; rfl))
            clear h1 h2 h3 hpe
            go_enter Try.func19, Try.ntmps19
            go_wp2_with fail
            refine (isLength_is H1.out _ i1).mono ?_
            rintro e w' ⟨rfl, rfl⟩
            go_wp2_with fail
            refine (isLength_is H2.out _ i2).mono ?_
            rintro e w' ⟨rfl, rfl⟩
            go_wp2_with fail
            refine (allPlaces_impl k _ hk12).mono ?_
            rintro e w' ⟨rfl, rfl⟩
            rw [HAL.out]
            go_wp2_with fail
            go_ret
            exact ⟨ret_int HN.out.symm, Below.refl _ _⟩
          · by_cases c4 : al < d
            · have HN := Lib.hid (bitI_no (n := k) (m := m) (u := u) (d := d) (by unfold bitOk; rw [h1, h2, hpe, h3, show inB d 0 al = false by simp [inB]; omega]; rfl))
              clear h1 h2 h3 hpe
              go_enter Try.func19, Try.ntmps19
              go_wp2_with fail
              refine (isLength_is H1.out _ i1).mono ?_
              rintro e w' ⟨rfl, rfl⟩
              go_wp2_with fail
              refine (isLength_is H2.out _ i2).mono ?_
              rintro e w' ⟨rfl, rfl⟩
              go_wp2_with fail
              refine (allPlaces_impl k _ hk12).mono ?_
              rintro e w' ⟨rfl, rfl⟩
              rw [HAL.out]
              go_wp2_with fail
              go_ret
              exact ⟨ret_int HN.out.symm, Below.refl _ _⟩
            · have h4 : inB d 0 al = true := inB_ok (by omega) (by omega)
              obtain ⟨x, rfl⟩ : ∃ x : Nat, u = (x : Int) := ⟨u.toNat, by omega⟩
              obtain ⟨y, rfl⟩ : ∃ y : Nat, d = (y : Int) := ⟨d.toNat, by omega⟩
              have hx : x < p := by have := HE.out; omega
              have hy : y < p := by have := HE.out; omega
              have hand := bits_and_i64_nat x y (by omega) (by omega)
              have hX := HPD.out ▸ hx
              have hY := HPD.out ▸ hy
              by_cases c5 : x &&& y = 0
              · have HN := Lib.hid (bitI_yes (n := k) (m := m) (u := x) (d := y) (by unfold bitOk; rw [h1, h2, hpe, h3, h4, Int.toNat_natCast, Int.toNat_natCast]; simpa using c5))
                have dx := digits_le x k
                have dy := digits_le y k
                rw [c5] at hand
                have HO1 := fun W => ones_any hk12 hX W
                have HO2 := fun W => ones_any hk12 hY W
                have HX := Lib.hid HO1
                have HY := Lib.hid HO2
                obtain ⟨v, hv⟩ : ∃ v, v = digits x k := ⟨_, rfl⟩
                obtain ⟨z, hz⟩ : ∃ z, z = digits y k := ⟨_, rfl⟩
                have HV : Hid (bitI k m x y = max (-1) ((m : Int) + v - z)) := Lib.hid (by rw [hv, hz]; exact HN.out)
                rw [← hv] at dx
                rw [← hz] at dy
                have HVV := Lib.hid hv
                have HZZ := Lib.hid hz
                clear h1 h2 h3 h4 hpe c5 HO1 HO2 hv hz hX hY
                have cx : IntKind.u64.wrap (x : Int) = (x : Int) := IntWalk.u64_in _ (by omega)
                have cy : IntKind.u64.wrap (y : Int) = (y : Int) := IntWalk.u64_in _ (by omega)
                by_cases hneg : (m : Int) + v - z < 0
                · go_enter Try.func19, Try.ntmps19
                  go_wp2_with fail
                  refine (isLength_is H1.out _ i1).mono ?_
                  rintro e w' ⟨rfl, rfl⟩
                  go_wp2_with fail
                  refine (isLength_is H2.out _ i2).mono ?_
                  rintro e w' ⟨rfl, rfl⟩
                  go_wp2_with fail
                  refine (allPlaces_impl k _ hk12).mono ?_
                  rintro e w' ⟨rfl, rfl⟩
                  rw [HAL.out]
                  go_wp2_with fail
                  refine (HX.out _).mono ?_
                  rintro e w' ⟨rfl, rfl⟩
                  rw [← HVV.out]
                  go_wp2_with fail
                  refine (HY.out _).mono ?_
                  rintro e w' ⟨rfl, rfl⟩
                  rw [← HZZ.out]
                  go_wp2_with fail
                  go_ret
                  exact ⟨ret_int (by rw [HV.out]; omega), Below.refl _ _⟩
                · go_enter Try.func19, Try.ntmps19
                  go_wp2_with fail
                  refine (isLength_is H1.out _ i1).mono ?_
                  rintro e w' ⟨rfl, rfl⟩
                  go_wp2_with fail
                  refine (isLength_is H2.out _ i2).mono ?_
                  rintro e w' ⟨rfl, rfl⟩
                  go_wp2_with fail
                  refine (allPlaces_impl k _ hk12).mono ?_
                  rintro e w' ⟨rfl, rfl⟩
                  rw [HAL.out]
                  go_wp2_with fail
                  refine (HX.out _).mono ?_
                  rintro e w' ⟨rfl, rfl⟩
                  rw [← HVV.out]
                  go_wp2_with fail
                  refine (HY.out _).mono ?_
                  rintro e w' ⟨rfl, rfl⟩
                  rw [← HZZ.out]
                  go_wp2_with fail
                  go_ret
                  exact ⟨ret_int (by rw [HV.out]; omega), Below.refl _ _⟩
              · have HN := Lib.hid (bitI_no (n := k) (m := m) (u := x) (d := y) (by unfold bitOk; rw [h1, h2, hpe, h3, h4, Int.toNat_natCast, Int.toNat_natCast]; simpa using c5))
                have hne : (((x &&& y : Nat) : Int) != 0) = true := by rw [bne_iff_ne]; omega
                clear h1 h2 h3 h4 hpe c5 hX hY
                go_enter Try.func19, Try.ntmps19
                go_wp2_with fail
                refine (isLength_is H1.out _ i1).mono ?_
                rintro e w' ⟨rfl, rfl⟩
                go_wp2_with fail
                refine (isLength_is H2.out _ i2).mono ?_
                rintro e w' ⟨rfl, rfl⟩
                go_wp2_with fail
                refine (allPlaces_impl k _ hk12).mono ?_
                rintro e w' ⟨rfl, rfl⟩
                rw [HAL.out]
                go_wp2_with fail
                go_ret
                exact ⟨ret_int HN.out.symm, Below.refl _ _⟩
end Go.Proofs.Ytfcolmjjfoaeeaa
