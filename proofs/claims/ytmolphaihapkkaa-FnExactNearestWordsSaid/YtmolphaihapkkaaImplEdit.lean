/- Contract of the program's EditDistance. -/
import Derived.Test.YtmolphaihapkkaaArr
import Derived.Test.YtmolphaihapkkaaDistFns
namespace Go.Proofs.Ytmolphaihapkkaa
open Go.RowKit
set_option maxHeartbeats 1600000
set_option linter.unusedSimpArgs false
set_option linter.unusedVariables false

/-- the row of the table whose first m + 1 numbers are those of the next row already -/
noncomputable def erow (a b : ByteArray) (k m x : Nat) : Int := if x ≤ b.size then (if x ≤ m then (dist a b (k + 1) x : Int) else (dist a b k x : Int)) else (x : Int)
noncomputable def frow (a b : ByteArray) (k x : Nat) : Int := if x ≤ b.size then (dist a b k x : Int) else (x : Int)
theorem frow_top (a b : ByteArray) (x : Nat) : (x : Int) = frow a b 0 x := by
  unfold frow
  by_cases h : x ≤ b.size
  · rw [if_pos h, dist_top a b h]
  · rw [if_neg h]
theorem erow_start (a b : ByteArray) (k x : Nat) (hk : k < a.size) : (if x = 0 then ((k : Int) + 1) else frow a b k x) = erow a b k 0 x := by
  unfold erow frow
  by_cases h : x = 0
  · subst h; simp [dist_left a b (show k + 1 ≤ a.size by omega)]
  · simp [h]
theorem erow_next (a b : ByteArray) (k m x : Nat) (hm : m < b.size) : (if x = m + 1 then (dist a b (k + 1) (m + 1) : Int) else erow a b k m x) = erow a b k (m + 1) x := by
  unfold erow
  by_cases h : x = m + 1
  · subst h; simp; omega
  · simp only [h, if_false]
    by_cases hb : x ≤ b.size
    · simp only [hb, if_true]
      by_cases hx : x ≤ m
      · rw [if_pos hx, if_pos (by omega)]
      · rw [if_neg hx, if_neg (by omega)]
    · simp only [hb, if_false]
theorem erow_end (a b : ByteArray) (k x : Nat) : erow a b k b.size x = frow a b (k + 1) x := by
  unfold erow frow
  by_cases hb : x ≤ b.size <;> simp [hb]
theorem erow_here (a b : ByteArray) (k m : Nat) (hm : m ≤ b.size) : erow a b k m m = (dist a b (k + 1) m : Int) := by unfold erow; simp [hm]
theorem erow_above (a b : ByteArray) (k m : Nat) (hm : m < b.size) : erow a b k m (m + 1) = (dist a b k (m + 1) : Int) := by unfold erow; simp; omega
theorem frow_here (a b : ByteArray) (k m : Nat) (hm : m ≤ b.size) : frow a b k m = (dist a b k m : Int) := by unfold frow; simp [hm]

theorem editDistance_impl (a b : ByteArray) (w : World) (ha : a.size ≤ maxLen) (hb : b.size ≤ maxLen) :
    Calls Try.prog 24 #[.string a, .string b] w fun e w' => e = .returned (.int .i64 (twoI (fun x y => (ed false x y : Int)) a.data.toList b.data.toList)) ∧ Below w.heap.size w w' := by
  have ha' := ha
  have hb' := hb
  unfold maxLen at ha hb
  cases hva : wordB a.data.toList
  · have HN := Lib.hid (twoI_no (f := fun x y => (ed false x y : Int)) (a := a.data.toList) (b := b.data.toList) (by rw [hva]; rfl))
    have HA := Lib.hid hva
    clear hva
    go_enter Try.func24, Try.ntmps24
    go_wp2_with fail
    refine (wordValid_impl _ _ ha').mono ?_
    rintro e w' ⟨rfl, rfl⟩
    rw [HA.out]
    go_wp2_with fail
    go_ret
    exact ⟨ret_int HN.out.symm, Below.refl _ _⟩
  · cases hvb : wordB b.data.toList
    · have HN := Lib.hid (twoI_no (f := fun x y => (ed false x y : Int)) (a := a.data.toList) (b := b.data.toList) (by rw [hva, hvb]; rfl))
      have HA := Lib.hid hva
      have HB := Lib.hid hvb
      clear hva hvb
      go_enter Try.func24, Try.ntmps24
      go_wp2_with fail
      refine (wordValid_impl _ _ ha').mono ?_
      rintro e w' ⟨rfl, rfl⟩
      rw [HA.out]
      go_wp2_with fail
      refine (wordValid_impl _ _ hb').mono ?_
      rintro e w' ⟨rfl, rfl⟩
      rw [HB.out]
      go_wp2_with fail
      go_ret
      exact ⟨ret_int HN.out.symm, Below.refl _ _⟩
    · have HN := Lib.hid (twoI_yes (f := fun x y => (ed false x y : Int)) (a := a.data.toList) (b := b.data.toList) (by rw [hva, hvb]; rfl))
      have ha2 := word_size hva
      have hb2 := word_size hvb
      have HA := Lib.hid hva
      have HB := Lib.hid hvb
      clear hva hvb
      go_enter Try.func24, Try.ntmps24
      go_wp2_with fail
      refine (wordValid_impl _ _ ha').mono ?_
      rintro e w' ⟨rfl, rfl⟩
      rw [HA.out]
      go_wp2_with fail
      refine (wordValid_impl _ _ hb').mono ?_
      rintro e w' ⟨rfl, rfl⟩
      rw [HB.out]
      go_wp2_with fail
      refine (countingRow_any _).mono ?_
      rintro e w1 ⟨rfl, hb1⟩
      have hz := hb1.size
      go_wp2_with (with_reducible refine wp_store_arr rfl (.tmp 5) (.tmp 18) rfl w.heap.size w1.heap.size (fun _ => 0) (fun k => (k : Int)) rfl rfl (OwnA.zero_at rfl hz) ?_)
      have hown0 : OwnA ((w1.alloc (.cells #[.int .i64 0, .int .i64 0, .int .i64 0, .int .i64 0, .int .i64 0, .int .i64 0, .int .i64 0, .int .i64 0, .int .i64 0, .int .i64 0, .int .i64 0, .int .i64 0, .int .i64 0] 70)).setRow w1.heap.size (arr fun k => (k : Int))) w.heap.size w1.heap.size (fun x => frow a b 0 x) :=
        (OwnA.zero_at rfl hz).rowed.congr (fun j _ => frow_top a b j)
      have hbel0 : Below w.heap.size w ((w1.alloc (.cells #[.int .i64 0, .int .i64 0, .int .i64 0, .int .i64 0, .int .i64 0, .int .i64 0, .int .i64 0, .int .i64 0, .int .i64 0, .int .i64 0, .int .i64 0, .int .i64 0, .int .i64 0] 70)).setRow w1.heap.size (arr fun k => (k : Int))) := below_setRow (hb1.alloc hz _) hz _
      generalize w1.heap.size = g at *
      go_loopw [21] (fun i wr => ∃ k : Nat, k ≤ a.size ∧ i = .int .i64 k ∧ OwnA wr w.heap.size g (fun x => frow a b k x) ∧ Below w.heap.size w wr) (fun i _ => a.size - (intOf i).toNat)
      case atStart => exact ⟨0, Nat.zero_le _, rfl, hown0, hbel0⟩
      case round =>
        clear hown0 hbel0
        obtain ⟨k, hk, rfl, hown, hbel⟩ := hrel
        by_cases hlt : k < a.size
        · have hfr := hown.frozen 0
          have hc0 := hown.at_ (k := 0) (by omega)
          rw [frow_here a b k 0 (by omega)] at hc0
          have hst : OwnA (wr.setCell ⟨g, 0, none⟩ (.int .i64 ((k : Int) + 1))) w.heap.size g (fun x => erow a b k 0 x) := (hown.stored 0 _).congr (fun j _ => erow_start a b k j hlt)
          have HS := Lib.hid hst
          clear hst
          go_wp2_with fail
          go_loopw [7, 31] (fun c i wr => ∃ m : Nat, m ≤ b.size ∧ i = .int .i64 m ∧ c = .int .i64 (dist a b k m : Int) ∧ OwnA wr w.heap.size g (fun x => erow a b k m x) ∧ Below w.heap.size w wr) (fun _ i _ => b.size - (intOf i).toNat)
          case atStart => exact ⟨0, Nat.zero_le _, rfl, rfl, HS.out, hbel.setCell hz _⟩
          case round =>
            clear HS hown hbel hfr hc0
            obtain ⟨m, hm, rfl, rfl, hown, hbel⟩ := hrel
            by_cases hlm : m < b.size
            · have hfr := hown.frozen (m + 1)
              have hc1 := hown.at_ (k := m) (by omega)
              have hc2 := hown.at_ (k := m + 1) (by omega)
              rw [erow_here a b k m hm] at hc1
              rw [erow_above a b k m hlm] at hc2
              have l1 := dist_le a b k m
              have l2 := dist_le a b k (m + 1)
              have l3 := dist_le a b (k + 1) m
              have hm0 : (0 : Int) ≤ (m : Int) := by omega
              have hm1 : (m : Int) < (b.size : Int) := by omega
              have hk0 : (0 : Int) ≤ (k : Int) := by omega
              have hk1 : (k : Int) < (a.size : Int) := by omega
              have hx1 : (m : Int) + 1 < 13 := by omega
              have hx2 : (m : Int) < 13 := by omega
              obtain ⟨c, hc, hcl⟩ : ∃ c : Nat, (if ((a[k].toNat : Int) = (b[m].toNat : Int)) then (0 : Int) else 1) = (c : Int) ∧ c ≤ 1 := by
                by_cases h : (a[k].toNat : Int) = (b[m].toNat : Int)
                · exact ⟨0, by rw [if_pos h]; rfl, by omega⟩
                · exact ⟨1, by rw [if_neg h]; rfl, by omega⟩
              have hd : dist a b (k + 1) (m + 1) = min (dist a b k m + c) (min (dist a b k (m + 1)) (dist a b (k + 1) m) + 1) := by
                rw [dist_step a b k m hlt hlm]
                by_cases h : a[k] = b[m]
                · rw [if_pos h]; rw [if_pos (by rw [h])] at hc; omega
                · rw [if_neg h]; rw [if_neg (fun e => h (UInt8.toNat_inj.1 (by omega)))] at hc; omega
              have hnx := fun v => (hown.stored (m + 1) v)
              have HN2 : ∀ x, (if x = m + 1 then (dist a b (k + 1) (m + 1) : Int) else erow a b k m x) = erow a b k (m + 1) x := fun x => erow_next a b k m x hlm
              rw [hd] at HN2
              have HN2 := Lib.hid HN2
              have HO := Lib.hid hown
              have HC := Lib.hid hc
              clear hd hc hown
              obtain ⟨y0, hy⟩ : ∃ y0, y0 = dist a b k (m + 1) := ⟨_, rfl⟩
              have HY := Lib.hid hy
              rw [← hy] at hc2 l2 HN2
              generalize dist a b k m = x at *
              clear hy
              generalize dist a b (k + 1) m = z at *
              go_wp2_with fail
              have ha0 := a[k].toNat_lt
              have hb0 := b[m].toNat_lt
              have hx3 : (0 : Int) ≤ (m : Int) + 1 := by omega
              have hw1 := IntWalk.i64_in ((m : Int) + 1) (by omega)
              have hw2 := IntWalk.i64_in ((y0 : Int) + 1) (by omega)
              have hw3 := IntWalk.i64_in ((z : Int) + 1) (by omega)
              have hw4 := IntWalk.i64_in ((x : Int) + c) (by omega)
              have HK := Lib.hid (fun v : Value => cell_other_drew hc1 (k := m + 1) v (by omega))
              have HF := Lib.hid (fun v : Int => (HO.out.stored (m + 1) v).frozen (m + 1))
              go_region_held3 (fun w' => w'.cell? ⟨g, m, none⟩ = some (.int .i64 z) ∧ w'.frozen? ⟨g, m + 1, none⟩ = false)
                  (first | assumption | exact ⟨HK.out _, HF.out _⟩ | go_keep)
                  (first | ((go_at_call 56; refine (costOfPair_is HC.out _ (by omega) (by have := a[k].toNat_lt; omega) (by omega) (by have := b[m].toNat_lt; omega)).mono ?_; rintro e w' ⟨rfl, rfl⟩)) | fail)
              clear hw1 hw2 hw3 hw4
              all_goals
                rw [show (if (x : Int) + (c : Int) < (if z < y0 then (z : Int) + 1 else (y0 : Int) + 1) then (x : Int) + (c : Int) else (if z < y0 then (z : Int) + 1 else (y0 : Int) + 1)) = ((min (x + c) (min y0 z + 1) : Nat) : Int) by split <;> split <;> omega]
                have hown := (HO.out.stored (m + 1) ((min (x + c) (min y0 z + 1) : Nat) : Int)).congr (fun j _ => HN2.out j)
                have hbel := hbel.setCell (p := ⟨g, m + 1, none⟩) hz (.int .i64 ((min (x + c) (min y0 z + 1) : Nat) : Int))
                generalize wr.setCell ⟨g, m + 1, none⟩ (.int .i64 ((min (x + c) (min y0 z + 1) : Nat) : Int)) = W at *
                go_wp2_with fail
                go_roundw
                case rel => exact ⟨m + 1, by omega, by go_num, by rw [HY.out], hown.drawn (Drawn.drew1 _), hbel.drew⟩
                case measure => simp [intOf]; omega
            · obtain rfl : m = b.size := by omega
              go_wp2_with fail
              go_roundw
              case rel => exact ⟨k + 1, by omega, by go_num, hown.congr (fun j _ => erow_end a b k j), hbel⟩
              case measure => simp [intOf]; omega
        · obtain rfl : k = a.size := by omega
          have hlast := hown.at_ (k := b.size) (by omega)
          rw [frow_here a b _ _ (Nat.le_refl _), dist_last] at hlast
          have hi0 : (0 : Int) ≤ (b.size : Int) := by omega
          have hi1 : (b.size : Int) < 13 := by omega
          go_wp2_with fail
          go_ret
          exact ⟨ret_int HN.out.symm, hbel⟩
end Go.Proofs.Ytmolphaihapkkaa
