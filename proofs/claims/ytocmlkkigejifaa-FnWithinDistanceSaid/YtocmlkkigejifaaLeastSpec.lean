/- Contract of the model's LeastDistance. -/
import Derived.Test.YtocmlkkigejifaaDistFns
import Derived.Test.YtocmlkkigejifaaBounds
namespace Go.Proofs.Ytocmlkkigejifaa
open Go.RowKit
set_option maxHeartbeats 1600000
set_option linter.unusedSimpArgs false
set_option linter.unusedVariables false

theorem count_next (a : ByteArray) (q : Nat) (h : q < a.size) (c : UInt8) : (a.data.toList.take (q + 1)).count c = (a.data.toList.take q).count c + (if a[q].toNat = c.toNat then 1 else 0) := by
  have hg : a.data.toList[q]? = some a[q] := by rw [List.getElem?_eq_getElem (by rw [len_eq]; exact h)]; rfl
  rw [List.take_add_one, hg, List.count_append]
  show _ + [a[q]].count c = _
  rw [count_cons]
  simp only [List.count_nil, Nat.zero_add, UInt8.toNat_inj]
theorem moreN_bound (a b : List UInt8) : ∀ k, moreN a b k ≤ k * a.length
  | 0 => by simp [moreN]
  | k + 1 => by
    have h1 := moreN_bound a b k
    have h2 := List.count_le_length (l := a) (a := letterN k)
    unfold moreN
    rw [Nat.succ_mul]
    omega
theorem leastDistance_spec (a b : ByteArray) (w : World) (ha : a.size ≤ maxLen) (hb : b.size ≤ maxLen) :
    Calls Try.prog 21 #[.string a, .string b] w fun e w' => e = .returned (.int .i64 (twoI (fun x y => (leastD x y : Int)) a.data.toList b.data.toList)) ∧ Below w.heap.size w w' := by
  have ha' := ha
  have hb' := hb
  unfold maxLen at ha hb
  cases hva : wordB a.data.toList
  · have HN := Lib.hid (twoI_no (f := fun x y => (leastD x y : Int)) (a := a.data.toList) (b := b.data.toList) (by rw [hva]; rfl))
    have HA := Lib.hid hva
    clear hva
    go_enter Try.func21, Try.ntmps21
    go_wp2_with fail
    refine (wordValid_spec _ _ ha').mono ?_
    rintro e w' ⟨rfl, rfl⟩
    rw [HA.out]
    go_wp2_with fail
    go_ret
    exact ⟨ret_int HN.out.symm, Below.refl _ _⟩
  · cases hvb : wordB b.data.toList
    · have HN := Lib.hid (twoI_no (f := fun x y => (leastD x y : Int)) (a := a.data.toList) (b := b.data.toList) (by rw [hva, hvb]; rfl))
      have HA := Lib.hid hva
      have HB := Lib.hid hvb
      clear hva hvb
      go_enter Try.func21, Try.ntmps21
      go_wp2_with fail
      refine (wordValid_spec _ _ ha').mono ?_
      rintro e w' ⟨rfl, rfl⟩
      rw [HA.out]
      go_wp2_with fail
      refine (wordValid_spec _ _ hb').mono ?_
      rintro e w' ⟨rfl, rfl⟩
      rw [HB.out]
      go_wp2_with fail
      go_ret
      exact ⟨ret_int HN.out.symm, Below.refl _ _⟩
    · have HN := Lib.hid (twoI_yes (f := fun x y => (leastD x y : Int)) (a := a.data.toList) (b := b.data.toList) (by rw [hva, hvb]; rfl))
      have ha2 := word_size hva
      have hb2 := word_size hvb
      have HA := Lib.hid hva
      have HB := Lib.hid hvb
      clear hva hvb
      go_enter Try.func21, Try.ntmps21
      go_wp2_with fail
      refine (wordValid_spec _ _ ha').mono ?_
      rintro e w' ⟨rfl, rfl⟩
      rw [HA.out]
      go_wp2_with fail
      refine (wordValid_spec _ _ hb').mono ?_
      rintro e w' ⟨rfl, rfl⟩
      rw [HB.out]
      go_wp2_with fail
      go_loopw [5, 6, 7] (fun x y c wr => ∃ p : Nat, p ≤ 26 ∧ x = .int .i64 ((moreN a.data.toList b.data.toList p : Nat) : Int) ∧ y = .int .i64 ((moreN b.data.toList a.data.toList p : Nat) : Int) ∧ c = .int .u8 (97 + (p : Int)) ∧ Below w.heap.size w wr) (fun _ _ c _ => 123 - (intOf c).toNat)
      case atStart => exact ⟨0, Nat.zero_le _, rfl, rfl, rfl, Below.refl _ _⟩
      case round =>
        obtain ⟨p, hp, rfl, rfl, rfl, hbel⟩ := hrel
        by_cases hlt : p < 26
        · have hm1 := moreN_bound a.data.toList b.data.toList p
          have hm2 := moreN_bound b.data.toList a.data.toList p
          rw [len_eq] at hm1 hm2
          have hm3 := Nat.mul_le_mul (show p ≤ 26 by omega) ha2
          have hm4 := Nat.mul_le_mul (show p ≤ 26 by omega) hb2
          have hM1 : moreN a.data.toList b.data.toList p ≤ 312 := by omega
          have hM2 : moreN b.data.toList a.data.toList p ≤ 312 := by omega
          have HS1 := Lib.hid (show moreN a.data.toList b.data.toList (p + 1) = moreN a.data.toList b.data.toList p + (a.data.toList.count (letterN p) - b.data.toList.count (letterN p)) from rfl)
          have HS2 := Lib.hid (show moreN b.data.toList a.data.toList (p + 1) = moreN b.data.toList a.data.toList p + (b.data.toList.count (letterN p) - a.data.toList.count (letterN p)) from rfl)
          have HL := Lib.hid (letterN_nat hlt)
          generalize moreN a.data.toList b.data.toList p = M1 at hM1 HS1
          generalize moreN b.data.toList a.data.toList p = M2 at hM2 HS2
          clear hm1 hm2 hm3 hm4
          go_wp2_with fail
          go_loopw [8, 9] (fun x i wr => ∃ q : Nat, q ≤ a.size ∧ x = .int .i64 (((a.data.toList.take q).count (letterN p) : Nat) : Int) ∧ i = .int .i64 q ∧ Below w.heap.size w wr) (fun _ i _ => a.size - (intOf i).toNat)
          case atStart => exact ⟨0, Nat.zero_le _, rfl, rfl, hbel⟩
          case round =>
            clear hbel
            obtain ⟨q, hq, rfl, rfl, hbel⟩ := hrel
            have hcl : (a.data.toList.take q).count (letterN p) ≤ 12 := by
              have h1 := List.count_le_length (l := a.data.toList.take q) (a := letterN p)
              have h2 := List.length_take_le q a.data.toList
              omega
            by_cases hlq : q < a.size
            · have hcn := count_next a q hlq (letterN p)
              rw [HL.out] at hcn
              have i0 : (0 : Int) ≤ (q : Int) := by omega
              have i1 : (q : Int) < (a.size : Int) := by omega
              have hu := a[q].toNat_lt
              by_cases he : a[q].toNat = 97 + p
              · rw [if_pos he] at hcn
                have HQ := Lib.hid hcn
                have hbe : ((a[q].toNat : Int) == 97 + (p : Int)) = true := by rw [beq_iff_eq]; omega
                have hbi : (a[q].toNat : Int) = 97 + (p : Int) := by omega
                clear hcn he
                generalize (a.data.toList.take q).count (letterN p) = C at hcl HQ
                go_wp2_with fail
                go_roundw
                case rel => exact ⟨q + 1, by omega, by rw [HQ.out]; go_num, by go_num, hbel⟩
                case measure => simp [intOf]; omega
              · rw [if_neg he] at hcn
                have HQ := Lib.hid hcn
                have hbe : ((a[q].toNat : Int) == 97 + (p : Int)) = false := by rw [beq_eq_false_iff_ne]; omega
                have hbi : ¬ (a[q].toNat : Int) = 97 + (p : Int) := by omega
                clear hcn he
                generalize (a.data.toList.take q).count (letterN p) = C at hcl HQ
                go_wp2_with fail
                go_roundw
                case rel => exact ⟨q + 1, by omega, by rw [HQ.out]; go_num, by go_num, hbel⟩
                case measure => simp [intOf]; omega
            · obtain rfl : q = a.size := by omega
              rw [List.take_of_length_le (by rw [len_eq]; exact Nat.le_refl _)] at hcl ⊢
              generalize a.data.toList.count (letterN p) = CA at hcl HS1 HS2 ⊢
              go_wp2_with fail
              go_loopw [8, 10] (fun x i wr => ∃ q : Nat, q ≤ b.size ∧ x = .int .i64 ((CA : Int) - (((b.data.toList.take q).count (letterN p) : Nat) : Int)) ∧ i = .int .i64 q ∧ Below w.heap.size w wr) (fun _ i _ => b.size - (intOf i).toNat)
              case atStart => exact ⟨0, Nat.zero_le _, by simp, rfl, hbel⟩
              case round =>
                clear hbel
                obtain ⟨q, hq, rfl, rfl, hbel⟩ := hrel
                have hcb : (b.data.toList.take q).count (letterN p) ≤ 12 := by
                  have h1 := List.count_le_length (l := b.data.toList.take q) (a := letterN p)
                  have h2 := List.length_take_le q b.data.toList
                  omega
                by_cases hlq : q < b.size
                · have hcn := count_next b q hlq (letterN p)
                  rw [HL.out] at hcn
                  have i0 : (0 : Int) ≤ (q : Int) := by omega
                  have i1 : (q : Int) < (b.size : Int) := by omega
                  have hu := b[q].toNat_lt
                  by_cases he : b[q].toNat = 97 + p
                  · rw [if_pos he] at hcn
                    have HQ := Lib.hid hcn
                    have hbe : ((b[q].toNat : Int) == 97 + (p : Int)) = true := by rw [beq_iff_eq]; omega
                    have hbi : (b[q].toNat : Int) = 97 + (p : Int) := by omega
                    clear hcn he
                    generalize (b.data.toList.take q).count (letterN p) = C at hcb HQ
                    go_wp2_with fail
                    go_roundw
                    case rel => exact ⟨q + 1, by omega, by rw [HQ.out]; go_num, by go_num, hbel⟩
                    case measure => simp [intOf]; omega
                  · rw [if_neg he] at hcn
                    have HQ := Lib.hid hcn
                    have hbe : ((b[q].toNat : Int) == 97 + (p : Int)) = false := by rw [beq_eq_false_iff_ne]; omega
                    have hbi : ¬ (b[q].toNat : Int) = 97 + (p : Int) := by omega
                    clear hcn he
                    generalize (b.data.toList.take q).count (letterN p) = C at hcb HQ
                    go_wp2_with fail
                    go_roundw
                    case rel => exact ⟨q + 1, by omega, by rw [HQ.out]; go_num, by go_num, hbel⟩
                    case measure => simp [intOf]; omega
                · obtain rfl : q = b.size := by omega
                  rw [List.take_of_length_le (by rw [len_eq]; exact Nat.le_refl _)] at hcb ⊢
                  generalize b.data.toList.count (letterN p) = CB at hcb HS1 HS2 ⊢
                  rcases (show (∃ d : Nat, (CA : Int) - (CB : Int) = (d : Int) ∧ 0 < d) ∨ (CA : Int) - (CB : Int) = 0 ∨ (∃ d : Nat, (CA : Int) - (CB : Int) = -(d : Int) ∧ 0 < d) by
                    rcases Nat.lt_trichotomy CB CA with h | h | h
                    · exact .inl ⟨CA - CB, by omega, by omega⟩
                    · exact .inr (.inl (by omega))
                    · exact .inr (.inr ⟨CB - CA, by omega, by omega⟩)) with ⟨d, hd, hd0⟩ | hd | ⟨d, hd, hd0⟩
                  · have h12 : d ≤ 12 := by omega
                    have z1 : (0 : Int) < (d : Int) := by omega
                    have z2 : ¬ (0 : Int) < -(d : Int) := by omega
                    have E1 := HS1.out
                    have E2 := HS2.out
                    have F1 := Lib.hid (show moreN a.data.toList b.data.toList (p + 1) = M1 + d by omega)
                    have F2 := Lib.hid (show moreN b.data.toList a.data.toList (p + 1) = M2 by omega)
                    rw [hd]
                    clear E1 E2 HS1 HS2 hd hcl hcb
                    go_wp2_with fail
                    go_roundw
                    case rel => exact ⟨p + 1, by omega, by rw [F1.out]; go_num, by rw [F2.out], by go_num, hbel⟩
                    case measure => simp [intOf]; omega
                  · have E1 := HS1.out
                    have E2 := HS2.out
                    have F1 := Lib.hid (show moreN a.data.toList b.data.toList (p + 1) = M1 by omega)
                    have F2 := Lib.hid (show moreN b.data.toList a.data.toList (p + 1) = M2 by omega)
                    rw [hd]
                    clear E1 E2 HS1 HS2 hd hcl hcb
                    go_wp2_with fail
                    go_roundw
                    case rel => exact ⟨p + 1, by omega, by rw [F1.out], by rw [F2.out], by go_num, hbel⟩
                    case measure => simp [intOf]; omega
                  · have h12 : d ≤ 12 := by omega
                    have z1 : (0 : Int) < (d : Int) := by omega
                    have z2 : ¬ (0 : Int) < -(d : Int) := by omega
                    have E1 := HS1.out
                    have E2 := HS2.out
                    have F1 := Lib.hid (show moreN a.data.toList b.data.toList (p + 1) = M1 by omega)
                    have F2 := Lib.hid (show moreN b.data.toList a.data.toList (p + 1) = M2 + d by omega)
                    rw [hd]
                    clear E1 E2 HS1 HS2 hd hcl hcb
                    go_wp2_with fail
                    go_roundw
                    case rel => exact ⟨p + 1, by omega, by rw [F1.out], by rw [F2.out]; go_num, by go_num, hbel⟩
                    case measure => simp [intOf]; omega
        · obtain rfl : p = 26 := by omega
          have hm1 := moreN_bound a.data.toList b.data.toList 26
          have hm2 := moreN_bound b.data.toList a.data.toList 26
          rw [len_eq] at hm1 hm2
          have HF : Hid (((leastD a.data.toList b.data.toList : Nat) : Int) = ((max (moreN a.data.toList b.data.toList 26) (moreN b.data.toList a.data.toList 26) : Nat) : Int)) := rfl
          generalize moreN a.data.toList b.data.toList 26 = M1 at hm1 HF ⊢
          generalize moreN b.data.toList a.data.toList 26 = M2 at hm2 HF ⊢
          by_cases hmm : (M1 : Int) < (M2 : Int)
          · go_wp2_with fail
            go_ret
            exact ⟨ret_int (by rw [HN.out, HF.out]; omega), hbel⟩
          · go_wp2_with fail
            go_ret
            exact ⟨ret_int (by rw [HN.out, HF.out]; omega), hbel⟩
end Go.Proofs.Ytocmlkkigejifaa
