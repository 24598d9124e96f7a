/- Contract of the program's endsExchanged, at the beginnings of two words. -/
import Derived.Test.YtocmlkkigejifaaArr
import Derived.Test.YtocmlkkigejifaaTable
import Derived.Test.YtocmlkkigejifaaTwo
namespace Go.Proofs.Ytocmlkkigejifaa
open Go.RowKit
set_option maxHeartbeats 1600000
set_option linter.unusedSimpArgs false
set_option linter.unusedVariables false

/-- the letters i + 1 of the one and j of the other word are equal, and those before and behind them: the last two are exchanged -/
def exchB (a b : ByteArray) (i j : Nat) : Bool := decide (0 < i) && decide (0 < j) && ((a.data.toList[i]? == b.data.toList[j - 1]?) && (a.data.toList[i - 1]? == b.data.toList[j]?))

theorem opt_beq {x y : UInt8} : (some x == some y) = ((x.toNat : Int) == (y.toNat : Int)) := by
  rw [Bool.eq_iff_iff]
  simp only [beq_iff_eq, Option.some.injEq]
  exact ⟨fun h => by rw [h], fun h => UInt8.toNat_inj.1 (by omega)⟩
theorem exch_at (s t : ByteArray) (i j : Nat) (hi : i + 1 < s.size) (hj : j + 1 < t.size) :
    exchB s t (i + 1) (j + 1) = (((s[i + 1].toNat : Int) == t[j].toNat) && ((s[i].toNat : Int) == t[j + 1].toNat)) := by
  unfold exchB
  rw [show i + 1 - 1 = i by omega, show j + 1 - 1 = j by omega, get_eq s (i + 1) hi, get_eq t j (by omega), get_eq s i (by omega), get_eq t (j + 1) hj, opt_beq, opt_beq]
  simp
theorem ends_any (s t : ByteArray) (w : World) (hs : s.size ≤ 12) (ht : t.size ≤ 12) (h1 : 0 < s.size) (h2 : 0 < t.size) :
    Calls Try.prog 40 #[.string s, .string t] w fun e w' => e = .returned (.bool (exchB s t (s.size - 1) (t.size - 1))) ∧ Drawn w w' := by
  by_cases hi : s.size = 1
  · have d1 : decide ((s.size : Int) > 1) = false := by simp; omega
    have d2 : decide (1 < s.size) = false := by simp; omega
    have d3 : decide ((1 : Int) < s.size) = false := by simp; omega
    have hv : exchB s t (s.size - 1) (t.size - 1) = false := by unfold exchB; rw [hi]; rfl
    have HV := Lib.hid hv
    clear hv hi
    go_enter Try.func40, Try.ntmps40
    go_wp2_with fail
    go_quiet (fail)
    go_wp2_with fail
    go_ret
    exact ⟨ret_bool HV.out.symm, (Drawn.refl _).drewN _⟩
  · by_cases hj : t.size = 1
    · have d1 : decide ((s.size : Int) > 1) = true := by simp; omega
      have d2 : decide (1 < s.size) = true := by simp; omega
      have d3 : decide ((1 : Int) < s.size) = true := by simp; omega
      have d4 : decide ((t.size : Int) > 1) = false := by simp; omega
      have d5 : decide (1 < t.size) = false := by simp; omega
      have d6 : decide ((1 : Int) < t.size) = false := by simp; omega
      have d7 : (1 : Int) < s.size := by omega
      have hv : exchB s t (s.size - 1) (t.size - 1) = false := by unfold exchB; rw [hj]; simp
      have HV := Lib.hid hv
      clear hv hi hj
      go_enter Try.func40, Try.ntmps40
      go_wp2_with fail
      go_quiet (fail)
      go_wp2_with fail
      go_ret
      exact ⟨ret_bool HV.out.symm, (Drawn.refl _).drewN _⟩
    · obtain ⟨i, hsi⟩ : ∃ i, s.size = i + 2 := ⟨s.size - 2, by omega⟩
      obtain ⟨j, htj⟩ : ∃ j, t.size = j + 2 := ⟨t.size - 2, by omega⟩
      have d3 : decide ((1 : Int) < (i : Int) + 2) = true := by simp; omega
      have d6 : decide ((1 : Int) < (j : Int) + 2) = true := by simp; omega
      have d7 : (1 : Int) < (i : Int) + 2 := by omega
      have d8 : (1 : Int) < (j : Int) + 2 := by omega
      have hw1 : IntKind.i64.wrap ((i : Int) + 2 - 1) = (i : Int) + 1 := by rw [IntWalk.i64_in _ (by omega)]; omega
      have hw2 : IntKind.i64.wrap ((i : Int) + 2 - 2) = (i : Int) := by rw [IntWalk.i64_in _ (by omega)]; omega
      have hw3 : IntKind.i64.wrap ((j : Int) + 2 - 1) = (j : Int) + 1 := by rw [IntWalk.i64_in _ (by omega)]; omega
      have hw4 : IntKind.i64.wrap ((j : Int) + 2 - 2) = (j : Int) := by rw [IntWalk.i64_in _ (by omega)]; omega
      have i0 : (0 : Int) ≤ (i : Int) := by omega
      have i1 : (0 : Int) ≤ (i : Int) + 1 := by omega
      have i2 : (i : Int) < (i : Int) + 2 := by omega
      have i3 : (i : Int) + 1 < (i : Int) + 2 := by omega
      have j0 : (0 : Int) ≤ (j : Int) := by omega
      have j1 : (0 : Int) ≤ (j : Int) + 1 := by omega
      have j2 : (j : Int) < (j : Int) + 2 := by omega
      have j3 : (j : Int) + 1 < (j : Int) + 2 := by omega
      have hsz : ((s.size : Nat) : Int) = (i : Int) + 2 := by omega
      have htz : ((t.size : Nat) : Int) = (j : Int) + 2 := by omega
      have hw5 := IntWalk.i64_in (i : Int) (by omega)
      have hw6 := IntWalk.i64_in (j : Int) (by omega)
      have b1 : i + 1 < s.size := by omega
      have b2 : i < s.size := by omega
      have b3 : j + 1 < t.size := by omega
      have b4 : j < t.size := by omega
      have HV := Lib.hid (exch_at s t i j b1 b3)
      rw [show s.size - 1 = i + 1 by omega, show t.size - 1 = j + 1 by omega]
      cases h1 : ((s[i + 1].toNat : Int) == t[j].toNat)
      · have HV := Lib.hid (HV.out.trans (by rw [h1]))
        go_enter Try.func40, Try.ntmps40
        go_wp2_with fail
        go_quiet (fail)
        go_wp2_with fail
        go_ret
        exact ⟨ret_bool HV.out.symm, (Drawn.refl _).drewN _⟩
      · have HV := Lib.hid (HV.out.trans (by rw [h1]))
        cases h2 : ((s[i].toNat : Int) == t[j + 1].toNat)
        · have HV := Lib.hid (HV.out.trans h2)
          go_enter Try.func40, Try.ntmps40
          go_wp2_with fail
          go_quiet (fail)
          go_wp2_with fail
          go_ret
          exact ⟨ret_bool HV.out.symm, (Drawn.refl _).drewN _⟩
        · have HV := Lib.hid (HV.out.trans h2)
          go_enter Try.func40, Try.ntmps40
          go_wp2_with fail
          go_quiet (fail)
          go_wp2_with fail
          go_ret
          exact ⟨ret_bool HV.out.symm, (Drawn.refl _).drewN _⟩
/-- the beginnings of the words: whether the letters k and k + 1, m and m + 1 are exchanged -/
theorem exch_extract (a b : ByteArray) (k m : Nat) (hk : k < a.size) (hm : m < b.size) : exchB (a.extract 0 (k + 1)) (b.extract 0 (m + 1)) k m = exchB a b k m := by
  unfold exchB
  simp only [extract_take, List.getElem?_take]
  simp [show k - 1 < k + 1 by omega, show m - 1 < m + 1 by omega]
theorem ends_at (a b : ByteArray) (w : World) (k m : Nat) (ha : a.size ≤ 12) (hb : b.size ≤ 12) (hk : k < a.size) (hm : m < b.size) :
    Calls Try.prog 40 #[.string (a.extract 0 (k + 1)), .string (b.extract 0 (m + 1))] w fun e w' => e = .returned (.bool (exchB a b k m)) ∧ Drawn w w' := by
  have e1 : (a.extract 0 (k + 1)).size = k + 1 := by rw [ByteArray.size_extract]; omega
  have e2 : (b.extract 0 (m + 1)).size = m + 1 := by rw [ByteArray.size_extract]; omega
  have h := ends_any (a.extract 0 (k + 1)) (b.extract 0 (m + 1)) w (by omega) (by omega) (by omega) (by omega)
  rw [e1, e2, Nat.add_sub_cancel, Nat.add_sub_cancel, exch_extract a b k m hk hm] at h
  exact h
theorem sdist_no (a b : ByteArray) (i j : Nat) (hi : i < a.size) (hj : j < b.size) (h : exchB a b i j = false) :
    sdist a b (i + 1) (j + 1) = min (sdist a b i j + if a[i] = b[j] then 0 else 1) (min (sdist a b i (j + 1)) (sdist a b (i + 1) j) + 1) := by
  refine sdist_step a b i j hi hj ?_
  rintro ⟨h1, h2, h3, h4⟩
  obtain ⟨i, rfl⟩ : ∃ k, i = k + 1 := ⟨i - 1, by omega⟩
  obtain ⟨j, rfl⟩ : ∃ k, j = k + 1 := ⟨j - 1, by omega⟩
  rw [exch_at a b i j hi hj] at h
  simp only [Nat.add_sub_cancel] at h3 h4
  rw [h3, h4] at h
  simp at h
theorem sdist_yes (a b : ByteArray) (i j : Nat) (hi : i < a.size) (hj : j < b.size) (h : exchB a b i j = true) :
    0 < i ∧ 0 < j ∧ sdist a b (i + 1) (j + 1) = min (min (sdist a b i j + if a[i] = b[j] then 0 else 1) (min (sdist a b i (j + 1)) (sdist a b (i + 1) j) + 1)) (sdist a b (i - 1) (j - 1) + 1) := by
  have h0 := h
  unfold exchB at h0
  simp only [Bool.and_eq_true, decide_eq_true_eq] at h0
  obtain ⟨⟨h1, h2⟩, _⟩ := h0
  obtain ⟨i, rfl⟩ : ∃ k, i = k + 1 := ⟨i - 1, by omega⟩
  obtain ⟨j, rfl⟩ : ∃ k, j = k + 1 := ⟨j - 1, by omega⟩
  rw [exch_at a b i j hi hj] at h
  simp only [Bool.and_eq_true, beq_iff_eq] at h
  refine ⟨h1, h2, ?_⟩
  rw [sdist_swap a b i j hi hj (UInt8.toNat_inj.1 (by omega)) (UInt8.toNat_inj.1 (by omega))]
  rfl
end Go.Proofs.Ytocmlkkigejifaa
