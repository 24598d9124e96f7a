/- Contracts of the model: l1In, WithinDistance, BandCells, LeastDistance. -/
import Derived.Test.YtocmlkkigejifaaDistFns
import Derived.Test.YtocmlkkigejifaaBounds
import Derived.Test.YtocmlkkigejifaaL1In
namespace Go.Proofs.Ytocmlkkigejifaa
open Go.RowKit
set_option maxHeartbeats 1600000
set_option linter.unusedSimpArgs false
set_option linter.unusedVariables false

/-- the number of errors is one that is asked for -/
def errB (e : Int) : Bool := decide (0 ≤ e) && decide (e ≤ 4)
/-- the answer of a function of two words and a number of errors: -1 for other arguments -/
def threeI (f : List UInt8 → List UInt8 → Int → Int) (a b : List UInt8) (e : Int) : Int := if (errB e && wordB a && wordB b) = true then f a b e else -1
theorem threeI_no {f : List UInt8 → List UInt8 → Int → Int} {a b : List UInt8} {e : Int} (h : (errB e && wordB a && wordB b) = false) : threeI f a b e = -1 := by unfold threeI; rw [h]; rfl
theorem threeI_yes {f : List UInt8 → List UInt8 → Int → Int} {a b : List UInt8} {e : Int} (h : (errB e && wordB a && wordB b) = true) : threeI f a b e = f a b e := by unfold threeI; rw [if_pos h]
noncomputable def withinV (a b : List UInt8) (e : Int) : Int := if (ed false a b : Int) ≤ e then ed false a b else -1
def bandV (a b : List UInt8) (e : Int) : Int := (bandN (b.length + 1) e.toNat (a.length + 1) : Int)

theorem withinDistance_spec (a b : ByteArray) (k : Int) (w : World) (ha : a.size ≤ maxLen) (hb : b.size ≤ maxLen) :
    Calls Try.prog 12 #[.string a, .string b, .int .i64 k] w fun e w' => e = .returned (.int .i64 (threeI withinV a.data.toList b.data.toList k)) ∧ Below w.heap.size w w' := by
  have ha' := ha
  have hb' := hb
  unfold maxLen at ha hb
  cases hve : errB k
  · have HN := Lib.hid (threeI_no (f := withinV) (a := a.data.toList) (b := b.data.toList) (e := k) (by rw [hve]; rfl))
    have HE := Lib.hid hve
    unfold errB at HE
    clear hve
    go_enter Try.func12, Try.ntmps12
    go_wp2_with fail
    refine (l1In_spec _ _ _ _).mono ?_
    rintro e w' ⟨rfl, rfl⟩
    rw [HE.out]
    go_wp2_with fail
    go_ret
    exact ⟨ret_int HN.out.symm, Below.refl _ _⟩
  · cases hva : wordB a.data.toList
    · have HN := Lib.hid (threeI_no (f := withinV) (a := a.data.toList) (b := b.data.toList) (e := k) (by rw [hve, hva]; rfl))
      have HE := Lib.hid hve
      unfold errB at HE
      have HA := Lib.hid hva
      clear hve hva
      go_enter Try.func12, Try.ntmps12
      go_wp2_with fail
      refine (l1In_spec _ _ _ _).mono ?_
      rintro e w' ⟨rfl, rfl⟩
      rw [HE.out]
      go_wp2_with fail
      refine (wordValid_spec _ _ ha').mono ?_
      rintro e w' ⟨rfl, rfl⟩
      rw [HA.out]
      go_wp2_with fail
      go_ret
      exact ⟨ret_int HN.out.symm, Below.refl _ _⟩
    · cases hvb : wordB b.data.toList
      · have HN := Lib.hid (threeI_no (f := withinV) (a := a.data.toList) (b := b.data.toList) (e := k) (by rw [hve, hva, hvb]; rfl))
        have HE := Lib.hid hve
        unfold errB at HE
        have HA := Lib.hid hva
        have HB := Lib.hid hvb
        clear hve hva hvb
        go_enter Try.func12, Try.ntmps12
        go_wp2_with fail
        refine (l1In_spec _ _ _ _).mono ?_
        rintro e w' ⟨rfl, rfl⟩
        rw [HE.out]
        go_wp2_with fail
        refine (wordValid_spec _ _ ha').mono ?_
        rintro e w' ⟨rfl, rfl⟩
        rw [HA.out]
        go_wp2_with fail
        refine (wordValid_spec _ _ hb').mono ?_
        rintro e w' ⟨rfl, rfl⟩
        rw [HB.out]
        go_wp2_with fail
        go_ret
        exact ⟨ret_int HN.out.symm, Below.refl _ _⟩
      · have hN := threeI_yes (f := withinV) (a := a.data.toList) (b := b.data.toList) (e := k) (by rw [hve, hva, hvb]; rfl)
        have ha2 := word_size hva
        have hb2 := word_size hvb
        have HE := Lib.hid hve
        unfold errB at HE
        have HA := Lib.hid hva
        have HB := Lib.hid hvb
        have hd1 : (ed false a.data.toList b.data.toList : Int) ≤ 12 := by
          have := ed_most false a.data.toList b.data.toList
          rw [len_eq, len_eq] at this
          omega
        unfold withinV at hN
        have HD := Lib.hid (fun W => l2Distance_any a b W ha2 hb2)
        generalize ed false a.data.toList b.data.toList = d at hN HD hd1
        have HN := Lib.hid hN
        clear hve hva hvb hN
        by_cases hle : (d : Int) ≤ k
        · have HN2 := Lib.hid (HN.out.trans (if_pos hle))
          go_enter Try.func12, Try.ntmps12
          go_wp2_with fail
          refine (l1In_spec _ _ _ _).mono ?_
          rintro e w' ⟨rfl, rfl⟩
          rw [HE.out]
          go_wp2_with fail
          refine (wordValid_spec _ _ ha').mono ?_
          rintro e w' ⟨rfl, rfl⟩
          rw [HA.out]
          go_wp2_with fail
          refine (wordValid_spec _ _ hb').mono ?_
          rintro e w' ⟨rfl, rfl⟩
          rw [HB.out]
          go_wp2_with fail
          refine (HD.out _).mono ?_
          rintro e w1 ⟨rfl, hb1⟩
          go_wp2_with fail
          refine (HD.out _).mono ?_
          rintro e w2 ⟨rfl, hb2⟩
          go_wp2_with fail
          go_ret
          exact ⟨ret_int HN2.out.symm, below_step hb1 (Nat.le_refl _) hb2⟩
        · have HN2 := Lib.hid (HN.out.trans (if_neg hle))
          go_enter Try.func12, Try.ntmps12
          go_wp2_with fail
          refine (l1In_spec _ _ _ _).mono ?_
          rintro e w' ⟨rfl, rfl⟩
          rw [HE.out]
          go_wp2_with fail
          refine (wordValid_spec _ _ ha').mono ?_
          rintro e w' ⟨rfl, rfl⟩
          rw [HA.out]
          go_wp2_with fail
          refine (wordValid_spec _ _ hb').mono ?_
          rintro e w' ⟨rfl, rfl⟩
          rw [HB.out]
          go_wp2_with fail
          refine (HD.out _).mono ?_
          rintro e w1 ⟨rfl, hb1⟩
          go_wp2_with fail
          go_ret
          exact ⟨ret_int HN2.out.symm, hb1⟩
theorem bandCells_spec (a b : ByteArray) (k : Int) (w : World) (ha : a.size ≤ maxLen) (hb : b.size ≤ maxLen) :
    Calls Try.prog 18 #[.string a, .string b, .int .i64 k] w fun e w' => e = .returned (.int .i64 (threeI bandV a.data.toList b.data.toList k)) ∧ Below w.heap.size w w' := by
  have ha' := ha
  have hb' := hb
  unfold maxLen at ha hb
  cases hve : errB k
  · have HN := Lib.hid (threeI_no (f := bandV) (a := a.data.toList) (b := b.data.toList) (e := k) (by rw [hve]; rfl))
    have HE := Lib.hid hve
    unfold errB at HE
    clear hve
    go_enter Try.func18, Try.ntmps18
    go_wp2_with fail
    refine (l1In_spec _ _ _ _).mono ?_
    rintro e w' ⟨rfl, rfl⟩
    rw [HE.out]
    go_wp2_with fail
    go_ret
    exact ⟨ret_int HN.out.symm, Below.refl _ _⟩
  · cases hva : wordB a.data.toList
    · have HN := Lib.hid (threeI_no (f := bandV) (a := a.data.toList) (b := b.data.toList) (e := k) (by rw [hve, hva]; rfl))
      have HE := Lib.hid hve
      unfold errB at HE
      have HA := Lib.hid hva
      clear hve hva
      go_enter Try.func18, Try.ntmps18
      go_wp2_with fail
      refine (l1In_spec _ _ _ _).mono ?_
      rintro e w' ⟨rfl, rfl⟩
      rw [HE.out]
      go_wp2_with fail
      refine (wordValid_spec _ _ ha').mono ?_
      rintro e w' ⟨rfl, rfl⟩
      rw [HA.out]
      go_wp2_with fail
      go_ret
      exact ⟨ret_int HN.out.symm, Below.refl _ _⟩
    · cases hvb : wordB b.data.toList
      · have HN := Lib.hid (threeI_no (f := bandV) (a := a.data.toList) (b := b.data.toList) (e := k) (by rw [hve, hva, hvb]; rfl))
        have HE := Lib.hid hve
        unfold errB at HE
        have HA := Lib.hid hva
        have HB := Lib.hid hvb
        clear hve hva hvb
        go_enter Try.func18, Try.ntmps18
        go_wp2_with fail
        refine (l1In_spec _ _ _ _).mono ?_
        rintro e w' ⟨rfl, rfl⟩
        rw [HE.out]
        go_wp2_with fail
        refine (wordValid_spec _ _ ha').mono ?_
        rintro e w' ⟨rfl, rfl⟩
        rw [HA.out]
        go_wp2_with fail
        refine (wordValid_spec _ _ hb').mono ?_
        rintro e w' ⟨rfl, rfl⟩
        rw [HB.out]
        go_wp2_with fail
        go_ret
        exact ⟨ret_int HN.out.symm, Below.refl _ _⟩
      · have hN := threeI_yes (f := bandV) (a := a.data.toList) (b := b.data.toList) (e := k) (by rw [hve, hva, hvb]; rfl)
        have ha2 := word_size hva
        have hb2 := word_size hvb
        have hk : 0 ≤ k ∧ k ≤ 4 := by unfold errB at hve; simpa using hve
        obtain ⟨e, rfl⟩ : ∃ e : Nat, k = (e : Int) := ⟨k.toNat, by omega⟩
        have he4 : e ≤ 4 := by omega
        have HE := Lib.hid hve
        unfold errB at HE
        have HA := Lib.hid hva
        have HB := Lib.hid hvb
        have HN := Lib.hid (show threeI bandV a.data.toList b.data.toList (e : Int) = ((bandN (b.size + 1) e (a.size + 1) : Nat) : Int) by rw [hN]; unfold bandV; rw [len_eq, len_eq]; rfl)
        clear hve hva hvb hN hk
        go_enter Try.func18, Try.ntmps18
        go_wp2_with fail
        refine (l1In_spec _ _ _ _).mono ?_
        rintro e w' ⟨rfl, rfl⟩
        rw [HE.out]
        go_wp2_with fail
        refine (wordValid_spec _ _ ha').mono ?_
        rintro e w' ⟨rfl, rfl⟩
        rw [HA.out]
        go_wp2_with fail
        refine (wordValid_spec _ _ hb').mono ?_
        rintro e w' ⟨rfl, rfl⟩
        rw [HB.out]
        go_wp2_with fail
        go_loopw [7, 8] (fun x i wr => ∃ p : Nat, p ≤ a.size + 1 ∧ x = .int .i64 (bandN (b.size + 1) e p : Nat) ∧ i = .int .i64 p ∧ Below w'.heap.size w' wr) (fun _ i _ => a.size + 1 - (intOf i).toNat)
        case atStart => exact ⟨0, Nat.zero_le _, rfl, rfl, Below.refl _ _⟩
        case round =>
          obtain ⟨p, hp, rfl, rfl, hbel⟩ := hrel
          by_cases hlt : p ≤ a.size
          · have hB0 : bandN (b.size + 1) e p ≤ 169 := by
              have h1 := bandN_table (b.size + 1) e p
              have h2 := Nat.mul_le_mul (show p ≤ 13 by omega) (show b.size + 1 ≤ 13 by omega)
              omega
            have HS := Lib.hid (show bandN (b.size + 1) e (p + 1) = bandN (b.size + 1) e p + rowN p e (b.size + 1) from rfl)
            generalize bandN (b.size + 1) e p = B at hB0 HS
            go_wp2_with fail
            go_loopw [7, 9] (fun x j wr => ∃ q : Nat, q ≤ b.size + 1 ∧ x = .int .i64 ((B + rowN p e q : Nat) : Int) ∧ j = .int .i64 q ∧ Below w'.heap.size w' wr) (fun _ j _ => b.size + 1 - (intOf j).toNat)
            case atStart => exact ⟨0, Nat.zero_le _, by simp [rowN], rfl, hbel⟩
            case round =>
              clear hbel
              obtain ⟨q, hq, rfl, rfl, hbel⟩ := hrel
              have hR := rowN_le p e q
              by_cases hlq : q ≤ b.size
              · have hnb : (decide (-(e : Int) ≤ (p : Int) - (q : Int)) && decide ((p : Int) - (q : Int) ≤ (e : Int))) = nearB p q e := by
                  unfold nearB
                  rw [Bool.eq_iff_iff]
                  simp only [Bool.and_eq_true, decide_eq_true_eq]
                  omega
                have hrs : rowN p e (q + 1) = rowN p e q + (if nearB p q e then 1 else 0) := rfl
                cases hne : nearB p q e
                · rw [hne] at hnb hrs
                  simp only [Bool.false_eq_true, if_false, Nat.add_zero] at hrs
                  have HQ := Lib.hid hnb
                  have HR := Lib.hid hrs
                  generalize rowN p e q = R at hR HR
                  clear hnb hrs hne
                  go_wp2_with fail
                  refine (l1In_spec _ _ _ _).mono ?_
                  rintro e2 w2 ⟨rfl, rfl⟩
                  rw [HQ.out]
                  go_wp2_with fail
                  go_roundw
                  case rel => exact ⟨q + 1, by omega, by rw [HR.out]; go_num, by go_num, hbel⟩
                  case measure => simp [intOf]; omega
                · rw [hne] at hnb hrs
                  simp only [if_true] at hrs
                  have HQ := Lib.hid hnb
                  have HR := Lib.hid hrs
                  generalize rowN p e q = R at hR HR
                  clear hnb hrs hne
                  go_wp2_with fail
                  refine (l1In_spec _ _ _ _).mono ?_
                  rintro e2 w2 ⟨rfl, rfl⟩
                  rw [HQ.out]
                  go_wp2_with fail
                  go_roundw
                  case rel => exact ⟨q + 1, by omega, by rw [HR.out]; go_num, by go_num, hbel⟩
                  case measure => simp [intOf]; omega
              · obtain rfl : q = b.size + 1 := by omega
                go_wp2_with fail
                go_roundw
                case rel => exact ⟨p + 1, by omega, by rw [HS.out], by go_num, hbel⟩
                case measure => simp [intOf]; omega
          · obtain rfl : p = a.size + 1 := by omega
            go_wp2_with fail
            go_ret
            exact ⟨ret_int HN.out.symm, hbel⟩
end Go.Proofs.Ytocmlkkigejifaa
