/- Contracts of the model: l1In, WithinDistance, BandCells, LeastDistance. -/
import Derived.Test.YtmolphaihapkkaaDistFns
import Derived.Test.YtmolphaihapkkaaBounds
import Derived.Test.YtmolphaihapkkaaL1In
namespace Go.Proofs.Ytmolphaihapkkaa
open Go.RowKit
set_option maxHeartbeats 1600000
set_option linter.unusedSimpArgs false
set_option linter.unusedVariables false

/-- the number of errors is one that is asked for -/
def errB (e : Int) : Bool := decide (0 ≤ e) && decide (e ≤ 4)
/-- the answer of a function of two words and a number of errors: -1 for other arguments -/
def threeI (f : List UInt8 → List UInt8 → Int → Int) (a b : List UInt8) (e : Int) : Int := if (errB e && wordB a && wordB b) = true then f a b e else -1
theorem threeI_no {f : List UInt8 → List UInt8 → Int → Int} {a b : List UInt8} {e : Int} (h : (errB e && wordB a && wordB b) = false) : threeI f a b e = -1 := by unfold threeI; rw [h]; rfl
theorem threeI_yes {f : List UInt8 → List UInt8 → Int → Int} {a b : List UInt8} {e : Int} (h : (errB e && wordB a && wordB b) = true) : threeI f a b e = f a b e := by unfold threeI; rw [if_pos h]
noncomputable def withinV (a b : List UInt8) (e : Int) : Int := if (ed false a b : Int) ≤ e then ed false a b else -1
def bandV (a b : List UInt8) (e : Int) : Int := (bandN (b.length + 1) e.toNat (a.length + 1) : Int)

theorem withinDistance_spec (a b : ByteArray) (k : Int) (w : World) (ha : a.size ≤ maxLen) (hb : b.size ≤ maxLen) :
    Calls Try.prog 76 #[.string a, .string b, .int .i64 k] w fun e w' => e = .returned (.int .i64 (threeI withinV a.data.toList b.data.toList k)) ∧ Below w.heap.size w w' := by
  have ha' := ha
  have hb' := hb
  unfold maxLen at ha hb
  cases hve : errB k
  · have HN := Lib.hid (threeI_no (f := withinV) (a := a.data.toList) (b := b.data.toList) (e := k) (by rw [hve]; rfl))
    have HE := Lib.hid hve
    unfold errB at HE
    clear hve
    go_enter Try.func76, Try.ntmps76
    go_wp2_with fail
    refine (l1In_spec _ _ _ _).mono ?_
    rintro e w' ⟨rfl, rfl⟩
    rw [HE.out]
    go_wp2_with fail
    go_ret
    exact ⟨ret_int HN.out.symm, Below.refl _ _⟩
  · cases hva : wordB a.data.toList
    · have HN := Lib.hid (threeI_no (f := withinV) (a := a.data.toList) (b := b.data.toList) (e := k) (by rw [hve, hva]; rfl))
      have HE := Lib.hid hve
      unfold errB at HE
      have HA := Lib.hid hva
      clear hve hva
      go_enter Try.func76, Try.ntmps76
      go_wp2_with fail
      refine (l1In_spec _ _ _ _).mono ?_
      rintro e w' ⟨rfl, rfl⟩
      rw [HE.out]
      go_wp2_with fail
      refine (wordValid_spec _ _ ha').mono ?_
      rintro e w' ⟨rfl, rfl⟩
      rw [HA.out]
      go_wp2_with fail
      go_ret
      exact ⟨ret_int HN.out.symm, Below.refl _ _⟩
    · cases hvb : wordB b.data.toList
      · have HN := Lib.hid (threeI_no (f := withinV) (a := a.data.toList) (b := b.data.toList) (e := k) (by rw [hve, hva, hvb]; rfl))
        have HE := Lib.hid hve
        unfold errB at HE
        have HA := Lib.hid hva
        have HB := Lib.hid hvb
        clear hve hva hvb
        go_enter Try.func76, Try.ntmps76
        go_wp2_with fail
        refine (l1In_spec _ _ _ _).mono ?_
        rintro e w' ⟨rfl, rfl⟩
        rw [HE.out]
        go_wp2_with fail
        refine (wordValid_spec _ _ ha').mono ?_
        rintro e w' ⟨rfl, rfl⟩
        rw [HA.out]
        go_wp2_with fail
        refine (wordValid_spec _ _ hb').mono ?_
        rintro e w' ⟨rfl, rfl⟩
        rw [HB.out]
        go_wp2_with fail
        go_ret
        exact ⟨ret_int HN.out.symm, Below.refl _ _⟩
      · have hN := threeI_yes (f := withinV) (a := a.data.toList) (b := b.data.toList) (e := k) (by rw [hve, hva, hvb]; rfl)
        have ha2 := word_size hva
        have hb2 := word_size hvb
        have HE := Lib.hid hve
        unfold errB at HE
        have HA := Lib.hid hva
        have HB := Lib.hid hvb
        have hd1 : (ed false a.data.toList b.data.toList : Int) ≤ 12 := by
          have := ed_most false a.data.toList b.data.toList
          rw [len_eq, len_eq] at this
          omega
        unfold withinV at hN
        have HD := Lib.hid (fun W => l2Distance_any a b W ha2 hb2)
        generalize ed false a.data.toList b.data.toList = d at hN HD hd1
        have HN := Lib.hid hN
        clear hve hva hvb hN
        by_cases hle : (d : Int) ≤ k
        · have HN2 := Lib.hid (HN.out.trans (if_pos hle))
          go_enter Try.func76, Try.ntmps76
          go_wp2_with fail
          refine (l1In_spec _ _ _ _).mono ?_
          rintro e w' ⟨rfl, rfl⟩
          rw [HE.out]
          go_wp2_with fail
          refine (wordValid_spec _ _ ha').mono ?_
          rintro e w' ⟨rfl, rfl⟩
          rw [HA.out]
          go_wp2_with fail
          refine (wordValid_spec _ _ hb').mono ?_
          rintro e w' ⟨rfl, rfl⟩
          rw [HB.out]
          go_wp2_with fail
          refine (HD.out _).mono ?_
          rintro e w1 ⟨rfl, hb1⟩
          go_wp2_with fail
          refine (HD.out _).mono ?_
          rintro e w2 ⟨rfl, hb2⟩
          go_wp2_with fail
          go_ret
          exact ⟨ret_int HN2.out.symm, below_step hb1 (Nat.le_refl _) hb2⟩
        · have HN2 := Lib.hid (HN.out.trans (if_neg hle))
          go_enter Try.func76, Try.ntmps76
          go_wp2_with fail
          refine (l1In_spec _ _ _ _).mono ?_
          rintro e w' ⟨rfl, rfl⟩
          rw [HE.out]
          go_wp2_with fail
          refine (wordValid_spec _ _ ha').mono ?_
          rintro e w' ⟨rfl, rfl⟩
          rw [HA.out]
          go_wp2_with fail
          refine (wordValid_spec _ _ hb').mono ?_
          rintro e w' ⟨rfl, rfl⟩
          rw [HB.out]
          go_wp2_with fail
          refine (HD.out _).mono ?_
          rintro e w1 ⟨rfl, hb1⟩
          go_wp2_with fail
          go_ret
          exact ⟨ret_int HN2.out.symm, hb1⟩
end Go.Proofs.Ytmolphaihapkkaa
