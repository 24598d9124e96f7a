/- Contract of the program's LongestCommon. -/
import Derived.Test.YtacnaipcjihkkaaArr
import Derived.Test.YtacnaipcjihkkaaLcSpec
namespace Go.Proofs.Ytacnaipcjihkkaa
open Go.RowKit
set_option maxHeartbeats 1600000
set_option linter.unusedSimpArgs false
set_option linter.unusedVariables false

/-- the row of the table of common letters whose first m + 1 numbers are those of the next row already -/
noncomputable def crow (a b : ByteArray) (k m x : Nat) : Int := if x ≤ b.size then (if x ≤ m then (lcd a b (k + 1) x : Int) else (lcd a b k x : Int)) else 0
noncomputable def drow (a b : ByteArray) (k x : Nat) : Int := if x ≤ b.size then (lcd a b k x : Int) else 0
theorem drow_top (a b : ByteArray) (x : Nat) : (0 : Int) = drow a b 0 x := by
  unfold drow
  rw [lcd_top]
  split <;> rfl
theorem crow_start (a b : ByteArray) (k x : Nat) : drow a b k x = crow a b k 0 x := by
  unfold crow drow
  by_cases h : x = 0
  · subst h; simp [lcd_left]
  · simp [h]
theorem crow_next (a b : ByteArray) (k m x : Nat) (hm : m < b.size) : (if x = m + 1 then (lcd a b (k + 1) (m + 1) : Int) else crow a b k m x) = crow a b k (m + 1) x := by
  unfold crow
  by_cases h : x = m + 1
  · subst h; simp; omega
  · simp only [h, if_false]
    by_cases hb : x ≤ b.size
    · simp only [hb, if_true]
      by_cases hx : x ≤ m
      · rw [if_pos hx, if_pos (by omega)]
      · rw [if_neg hx, if_neg (by omega)]
    · simp only [hb, if_false]
theorem crow_end (a b : ByteArray) (k x : Nat) : crow a b k b.size x = drow a b (k + 1) x := by
  unfold crow drow
  by_cases hb : x ≤ b.size <;> simp [hb]
theorem crow_here (a b : ByteArray) (k m : Nat) (hm : m ≤ b.size) : crow a b k m m = (lcd a b (k + 1) m : Int) := by unfold crow; simp [hm]
theorem crow_above (a b : ByteArray) (k m : Nat) (hm : m < b.size) : crow a b k m (m + 1) = (lcd a b k (m + 1) : Int) := by unfold crow; rw [if_pos (show m + 1 ≤ b.size by omega), if_neg (show ¬ m + 1 ≤ m by omega)]
theorem drow_here (a b : ByteArray) (k m : Nat) (hm : m ≤ b.size) : drow a b k m = (lcd a b k m : Int) := by unfold drow; simp [hm]

theorem longestCommon_impl (a b : ByteArray) (w : World) (ha : a.size ≤ maxLen) (hb : b.size ≤ maxLen) :
    Calls Try.prog 21 #[.string a, .string b] w fun e w' => e = .returned (.int .i64 (twoI (fun x y => (lc x y : Int)) a.data.toList b.data.toList)) ∧ Below w.heap.size w w' := by
  have ha' := ha
  have hb' := hb
  unfold maxLen at ha hb
  cases hva : wordB a.data.toList
  · have HN := Lib.hid (twoI_no (f := fun x y => (lc x y : Int)) (a := a.data.toList) (b := b.data.toList) (by rw [hva]; rfl))
    have HA := Lib.hid hva
    clear hva
    go_enter Try.func21, Try.ntmps21
    go_wp2_with fail
    refine (wordValid_impl _ _ ha').mono ?_
    rintro e w' ⟨rfl, rfl⟩
    rw [HA.out]
    go_wp2_with fail
    go_ret
    exact ⟨ret_int HN.out.symm, Below.refl _ _⟩
  · cases hvb : wordB b.data.toList
    · have HN := Lib.hid (twoI_no (f := fun x y => (lc x y : Int)) (a := a.data.toList) (b := b.data.toList) (by rw [hva, hvb]; rfl))
      have HA := Lib.hid hva
      have HB := Lib.hid hvb
      clear hva hvb
      go_enter Try.func21, Try.ntmps21
      go_wp2_with fail
      refine (wordValid_impl _ _ ha').mono ?_
      rintro e w' ⟨rfl, rfl⟩
      rw [HA.out]
      go_wp2_with fail
      refine (wordValid_impl _ _ hb').mono ?_
      rintro e w' ⟨rfl, rfl⟩
      rw [HB.out]
      go_wp2_with fail
      go_ret
      exact ⟨ret_int HN.out.symm, Below.refl _ _⟩
    · have HN := Lib.hid (twoI_yes (f := fun x y => (lc x y : Int)) (a := a.data.toList) (b := b.data.toList) (by rw [hva, hvb]; rfl))
      have ha2 := word_size hva
      have hb2 := word_size hvb
      have HA := Lib.hid hva
      have HB := Lib.hid hvb
      clear hva hvb
      go_enter Try.func21, Try.ntmps21
      go_wp2_with fail
      refine (wordValid_impl _ _ ha').mono ?_
      rintro e w' ⟨rfl, rfl⟩
      rw [HA.out]
      go_wp2_with fail
      refine (wordValid_impl _ _ hb').mono ?_
      rintro e w' ⟨rfl, rfl⟩
      rw [HB.out]
      go_wp2_with fail
      have hown0 : OwnA (w.alloc (.cells #[.int .i64 0, .int .i64 0, .int .i64 0, .int .i64 0, .int .i64 0, .int .i64 0, .int .i64 0, .int .i64 0, .int .i64 0, .int .i64 0, .int .i64 0, .int .i64 0, .int .i64 0] 36)) w.heap.size w.heap.size (fun x => drow a b 0 x) := (OwnA.zero w).congr (fun j _ => drow_top a b j)
      have hbel0 : Below w.heap.size w (w.alloc (.cells #[.int .i64 0, .int .i64 0, .int .i64 0, .int .i64 0, .int .i64 0, .int .i64 0, .int .i64 0, .int .i64 0, .int .i64 0, .int .i64 0, .int .i64 0, .int .i64 0, .int .i64 0] 36)) := (Below.refl _ _).alloc (Nat.le_refl _) _
      have hz : w.heap.size ≤ w.heap.size := Nat.le_refl _
      go_loopw [20] (fun i wr => ∃ k : Nat, k ≤ a.size ∧ i = .int .i64 k ∧ OwnA wr w.heap.size w.heap.size (fun x => drow a b k x) ∧ Below w.heap.size w wr) (fun i _ => a.size - (intOf i).toNat)
      case atStart => exact ⟨0, Nat.zero_le _, rfl, hown0, hbel0⟩
      case round =>
        clear hown0 hbel0
        obtain ⟨k, hk, rfl, hown, hbel⟩ := hrel
        by_cases hlt : k < a.size
        · have hl0 : ((lcd a b k 0 : Nat) : Int) = 0 := by rw [lcd_left]; rfl
          have HL := Lib.hid hl0
          clear hl0
          go_wp2_with fail
          go_loopw [7, 25] (fun c i wr => ∃ m : Nat, m ≤ b.size ∧ i = .int .i64 m ∧ c = .int .i64 (lcd a b k m : Int) ∧ OwnA wr w.heap.size w.heap.size (fun x => crow a b k m x) ∧ Below w.heap.size w wr) (fun _ i _ => b.size - (intOf i).toNat)
          case atStart => exact ⟨0, Nat.zero_le _, rfl, by rw [HL.out], hown.congr (fun j _ => crow_start a b k j), hbel⟩
          case round =>
            clear hown hbel
            obtain ⟨m, hm, rfl, rfl, hown, hbel⟩ := hrel
            by_cases hlm : m < b.size
            · have hfr := hown.frozen (m + 1)
              have hc1 := hown.at_ (k := m) (by omega)
              have hc2 := hown.at_ (k := m + 1) (by omega)
              rw [crow_here a b k m hm] at hc1
              rw [crow_above a b k m hlm] at hc2
              have l1 := (lcd_le a b k m).2
              have l2 := (lcd_le a b k (m + 1)).2
              have l3 := (lcd_le a b (k + 1) m).2
              have hm0 : (0 : Int) ≤ (m : Int) := by omega
              have hm1 : (m : Int) < (b.size : Int) := by omega
              have hk0 : (0 : Int) ≤ (k : Int) := by omega
              have hk1 : (k : Int) < (a.size : Int) := by omega
              have hx1 : (m : Int) + 1 < 13 := by omega
              have hx2 : (m : Int) < 13 := by omega
              cases h3 : ((a[k].toNat : Int) == b[m].toNat)
              · have hd := lcd_ne a b k m hlt hlm h3
                have HN2 : ∀ x, (if x = m + 1 then (lcd a b (k + 1) (m + 1) : Int) else crow a b k m x) = crow a b k (m + 1) x := fun x => crow_next a b k m x hlm
                rw [hd] at HN2
                have HN2 := Lib.hid HN2
                have HO := Lib.hid hown
                clear hd hown
                obtain ⟨y0, hy⟩ : ∃ y0, y0 = lcd a b k (m + 1) := ⟨_, rfl⟩
                have HY := Lib.hid hy
                rw [← hy] at hc2 l2 HN2
                clear hy
                generalize lcd a b k m = x at *
                generalize lcd a b (k + 1) m = z at *
                go_wp2_with fail
                go_quiet (fail)
                generalize hW : wr.drewN _ = W
                have hdW : Drawn wr W := ⟨_, hW.symm⟩
                have HO := Lib.hid (HO.out.drawn hdW)
                have hbel := below_step hbel hz hdW.below
                have hc1 : W.cell? ⟨w.heap.size, m, none⟩ = some (.int .i64 z) := (hdW.cell _).trans hc1
                have hc2 : W.cell? ⟨w.heap.size, m + 1, none⟩ = some (.int .i64 y0) := (hdW.cell _).trans hc2
                have hfr := HO.out.frozen (m + 1)
                clear hW hdW
                go_wp2_with fail
                rw [show (if y0 < z then (z : Int) else (y0 : Int)) = ((max y0 z : Nat) : Int) by split <;> omega]
                have hown := (HO.out.stored (m + 1) ((max y0 z : Nat) : Int)).congr (fun j _ => HN2.out j)
                have hbel := hbel.setCell (p := ⟨w.heap.size, m + 1, none⟩) hz (.int .i64 ((max y0 z : Nat) : Int))
                go_roundw
                case rel => exact ⟨m + 1, by omega, by go_num, by rw [HY.out], hown, hbel⟩
                case measure => simp [intOf]; omega
              · have hd := lcd_eq a b k m hlt hlm h3
                have HN2 : ∀ x, (if x = m + 1 then (lcd a b (k + 1) (m + 1) : Int) else crow a b k m x) = crow a b k (m + 1) x := fun x => crow_next a b k m x hlm
                rw [hd] at HN2
                have HN2 := Lib.hid HN2
                have HO := Lib.hid hown
                clear hd hown
                obtain ⟨y0, hy⟩ : ∃ y0, y0 = lcd a b k (m + 1) := ⟨_, rfl⟩
                have HY := Lib.hid hy
                rw [← hy] at hc2 l2
                clear hy
                generalize lcd a b k m = x at *
                generalize lcd a b (k + 1) m = z at *
                go_wp2_with fail
                go_quiet (fail)
                generalize hW : wr.drewN _ = W
                have hdW : Drawn wr W := ⟨_, hW.symm⟩
                have HO := Lib.hid (HO.out.drawn hdW)
                have hbel := below_step hbel hz hdW.below
                have hc1 : W.cell? ⟨w.heap.size, m, none⟩ = some (.int .i64 z) := (hdW.cell _).trans hc1
                have hc2 : W.cell? ⟨w.heap.size, m + 1, none⟩ = some (.int .i64 y0) := (hdW.cell _).trans hc2
                have hfr := HO.out.frozen (m + 1)
                clear hW hdW
                go_wp2_with fail
                rw [show (x : Int) + 1 = ((x + 1 : Nat) : Int) by omega]
                have hown := (HO.out.stored (m + 1) ((x + 1 : Nat) : Int)).congr (fun j _ => HN2.out j)
                have hbel := hbel.setCell (p := ⟨w.heap.size, m + 1, none⟩) hz (.int .i64 ((x + 1 : Nat) : Int))
                go_roundw
                case rel => exact ⟨m + 1, by omega, by go_num, by rw [HY.out], hown, hbel⟩
                case measure => simp [intOf]; omega
            · obtain rfl : m = b.size := by omega
              go_wp2_with fail
              go_roundw
              case rel => exact ⟨k + 1, by omega, by go_num, hown.congr (fun j _ => crow_end a b k j), hbel⟩
              case measure => simp [intOf]; omega
        · obtain rfl : k = a.size := by omega
          have hlast := hown.at_ (k := b.size) (by omega)
          rw [drow_here a b _ _ (Nat.le_refl _), lcd_last] at hlast
          have hi0 : (0 : Int) ≤ (b.size : Int) := by omega
          have hi1 : (b.size : Int) < 13 := by omega
          go_wp2_with fail
          go_ret
          exact ⟨ret_int HN.out.symm, hbel⟩
end Go.Proofs.Ytacnaipcjihkkaa
