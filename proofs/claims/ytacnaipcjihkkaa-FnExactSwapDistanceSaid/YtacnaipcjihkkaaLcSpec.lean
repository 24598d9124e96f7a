/- Contract of the model's LongestCommon. -/
import Derived.Test.YtacnaipcjihkkaaDistFns
namespace Go.Proofs.Ytacnaipcjihkkaa
open Go.RowKit
set_option maxHeartbeats 1600000
set_option linter.unusedSimpArgs false
set_option linter.unusedVariables false

noncomputable def lcd (a b : ByteArray) (i j : Nat) : Nat := lcell a.data.toList b.data.toList i j
theorem lcd_top (a b : ByteArray) (j : Nat) : lcd a b 0 j = 0 := lcell_top _ _ _
theorem lcd_left (a b : ByteArray) (i : Nat) : lcd a b i 0 = 0 := lcell_left _ _ _
theorem lcd_le (a b : ByteArray) (i j : Nat) : lcd a b i j ≤ i ∧ lcd a b i j ≤ j := lcell_le _ _ _ _
theorem lcd_last (a b : ByteArray) : lcd a b a.size b.size = lc a.data.toList b.data.toList := by
  have h := lcell_last a.data.toList b.data.toList
  simpa [lcd] using h
theorem lcd_eq (a b : ByteArray) (i j : Nat) (hi : i < a.size) (hj : j < b.size) (h : ((a[i].toNat : Int) == b[j].toNat) = true) : lcd a b (i + 1) (j + 1) = lcd a b i j + 1 := by
  have he : a[i] = b[j] := by simp only [beq_iff_eq] at h; exact UInt8.toNat_inj.1 (by omega)
  exact lcell_same _ _ i j (by simpa using hi) (by simpa using hj) he
theorem lcd_ne (a b : ByteArray) (i j : Nat) (hi : i < a.size) (hj : j < b.size) (h : ((a[i].toNat : Int) == b[j].toNat) = false) : lcd a b (i + 1) (j + 1) = max (lcd a b i (j + 1)) (lcd a b (i + 1) j) := by
  have he : a[i] ≠ b[j] := by intro he; rw [he] at h; simp at h
  exact lcell_other _ _ i j (by simpa using hi) (by simpa using hj) he
theorem upto_zeros (f : Nat → Nat) (m : Nat) (h : ∀ j, f j = 0) : upto f m = List.replicate m 0 := by
  unfold upto
  apply List.ext_getElem?
  intro j
  by_cases hj : j < m
  · simp [hj, h]
  · simp [hj]

theorem longestCommon_spec (a b : ByteArray) (w : World) (ha : a.size ≤ maxLen) (hb : b.size ≤ maxLen) :
    Calls Try.prog 22 #[.string a, .string b] w fun e w' => e = .returned (.int .i64 (twoI (fun x y => (lc x y : Int)) a.data.toList b.data.toList)) ∧ Below w.heap.size w w' := by
  have ha' := ha
  have hb' := hb
  unfold maxLen at ha hb
  cases hva : wordB a.data.toList
  · have HN := Lib.hid (twoI_no (f := fun x y => (lc x y : Int)) (a := a.data.toList) (b := b.data.toList) (by rw [hva]; rfl))
    have HA := Lib.hid hva
    clear hva
    go_enter Try.func22, Try.ntmps22
    go_wp2_with fail
    refine (wordValid_spec _ _ ha').mono ?_
    rintro e w' ⟨rfl, rfl⟩
    rw [HA.out]
    go_wp2_with fail
    go_ret
    exact ⟨ret_int HN.out.symm, Below.refl _ _⟩
  · cases hvb : wordB b.data.toList
    · have HN := Lib.hid (twoI_no (f := fun x y => (lc x y : Int)) (a := a.data.toList) (b := b.data.toList) (by rw [hva, hvb]; rfl))
      have HA := Lib.hid hva
      have HB := Lib.hid hvb
      clear hva hvb
      go_enter Try.func22, Try.ntmps22
      go_wp2_with fail
      refine (wordValid_spec _ _ ha').mono ?_
      rintro e w' ⟨rfl, rfl⟩
      rw [HA.out]
      go_wp2_with fail
      refine (wordValid_spec _ _ hb').mono ?_
      rintro e w' ⟨rfl, rfl⟩
      rw [HB.out]
      go_wp2_with fail
      go_ret
      exact ⟨ret_int HN.out.symm, Below.refl _ _⟩
    · have HN := Lib.hid (twoI_yes (f := fun x y => (lc x y : Int)) (a := a.data.toList) (b := b.data.toList) (by rw [hva, hvb]; rfl))
      have ha2 := word_size hva
      have hb2 := word_size hvb
      have HA := Lib.hid hva
      have HB := Lib.hid hvb
      clear hva hvb
      obtain ⟨i0, hi0, hz0, hz1, hz2⟩ := info_parts int_info
      go_enter Try.func22, Try.ntmps22
      go_wp2_with fail
      refine (wordValid_spec _ _ ha').mono ?_
      rintro e w' ⟨rfl, rfl⟩
      rw [HA.out]
      go_wp2_with fail
      refine (wordValid_spec _ _ hb').mono ?_
      rintro e w' ⟨rfl, rfl⟩
      rw [HB.out]
      go_wp2_with (at_make; refine wpList_make_full _ rfl (.tmp 20) (.tmp 20) _ rfl w.heap.size 3 i0 _ 1 Try.underlying40 hi0 hz0 hz1 .i64 .i64 _ _ (b.size + 1) rfl rfl (by first | rfl | omega) (by first | rfl | omega) (by rw [hz2]; omega) (by unfold maxLen; omega) (Nat.le_refl _) ?_; intro w1 hown hg)
      have hb1 : Below w.heap.size w w1 := (Below.refl _ _).grown hg (Nat.le_refl _) (by simp)
      have hown := OwnI.zeros hown
      rw [← upto_zeros (lcd a b 0) (b.size + 1) (lcd_top a b)] at hown
      go_wp2_with fail
      go_loopw [5, 6] (fun v i wr => ∃ k g cap : Nat, k ≤ a.size ∧ i = .int .i64 ((k : Int) + 1) ∧ v = .slice (some ⟨g, 0, none⟩) (b.size + 1) cap ∧ OwnI wr w.heap.size g (b.size + 1) cap (upto (lcd a b k) (b.size + 1)) ∧ Below w.heap.size w wr) (fun _ i _ => a.size + 1 - (intOf i).toNat)
      case atStart => exact ⟨0, _, _, Nat.zero_le _, rfl, rfl, hown, hb1⟩
      case round =>
        clear hown hb1
        obtain ⟨k, g, cap, hk, rfl, rfl, hown, hbel⟩ := hrel
        by_cases hlt : k < a.size
        · have hnew : OwnI (wr.alloc (.cells #[.int .i64 0] 3)) w.heap.size wr.heap.size 1 1 (upto (lcd a b (k + 1)) 1) := by
            rw [upto_one, lcd_left]
            exact (OwnI.lit wr _).mono hbel.size
          have HNW := Lib.hid hnew
          have hkd : decide ((k : Int) + 1 ≤ (a.size : Int)) = true := by simp; omega
          clear hnew
          have hgl := hown.lt
          go_wp2_with fail
          go_loopw [7, 8] (fun v i wr => ∃ m g2 cap2 : Nat, m ≤ b.size ∧ i = .int .i64 ((m : Int) + 1) ∧ v = .slice (some ⟨g2, 0, none⟩) (m + 1) cap2 ∧ g ≠ g2 ∧ OwnI wr w.heap.size g2 (m + 1) cap2 (upto (lcd a b (k + 1)) (m + 1)) ∧ OwnI wr w.heap.size g (b.size + 1) cap (upto (lcd a b k) (b.size + 1)) ∧ Below w.heap.size w wr) (fun _ i _ => b.size + 1 - (intOf i).toNat)
          case atStart => exact ⟨0, _, _, Nat.zero_le _, rfl, rfl, by omega, HNW.out, hown.alloc _, hbel.alloc hbel.size _⟩
          case round =>
            clear HNW hown hbel hgl
            obtain ⟨m, g2, cap2, hm, rfl, rfl, hne, hown2, hown, hbel⟩ := hrel
            by_cases hlm : m < b.size
            · have hc1 := hown.at_ (upto_get (lcd a b k) (show m < b.size + 1 by omega))
              have hc2 := hown.at_ (upto_get (lcd a b k) (show m + 1 < b.size + 1 by omega))
              have hc3 := hown2.at_ (upto_get (lcd a b (k + 1)) (show m < m + 1 by omega))
              have l1 := (lcd_le a b k m).1
              have l2 := (lcd_le a b k (m + 1)).1
              have l3 := (lcd_le a b (k + 1) m).1
              have hw1 := IntWalk.i64_in (m : Int) (by omega)
              have hw2 : IntKind.i64.wrap ((m : Int) + 1 - 1) = (m : Int) := by rw [Int.add_sub_cancel]; exact hw1
              have hx1 : (m : Int) < (b.size : Int) + 1 := by omega
              have hx2 : (m : Int) + 1 < (b.size : Int) + 1 := by omega
              have hx3 : (0 : Int) ≤ (m : Int) + 1 := by omega
              have hx4 : (m : Int) < (m : Int) + 1 := by omega
              have hm0 : (0 : Int) ≤ (m : Int) := by omega
              have hm1 : (m : Int) < (b.size : Int) := by omega
              have hk0 : (0 : Int) ≤ (k : Int) := by omega
              have hk1 : (k : Int) < (a.size : Int) := by omega
              cases h3 : ((a[k].toNat : Int) == b[m].toNat)
              · have hd := lcd_ne a b k m hlt hlm h3
                have hsucc := upto_succ (lcd a b (k + 1)) (m + 1)
                rw [hd] at hsucc
                have HU := Lib.hid hsucc
                clear hd hsucc
                have HX := Lib.hid (upto_get (lcd a b k) (show m < b.size + 1 by omega))
                generalize lcd a b k m = x at *
                generalize lcd a b k (m + 1) = y at *
                generalize lcd a b (k + 1) m = z at *
                go_wp2_with fail
                go_region_held3 (fun w' => w'.cell? ⟨g, m, none⟩ = some (.int .i64 x) ∧ w'.cell? ⟨g, m + 1, none⟩ = some (.int .i64 y) ∧ w'.cell? ⟨g2, m, none⟩ = some (.int .i64 z))
                  (first | go_keep | assumption)
                  (fail)
                rw [show (if y < z then (z : Int) else (y : Int)) = ((max y z : Nat) : Int) by split <;> omega]
                have ht : max y z ≤ 13 := by omega
                generalize max y z = t at *
                generalize hW : wr.drew = W
                have hdW : Drawn wr W := ⟨1, hW.symm⟩
                have hown := hown.drawn hdW
                have hown2 := hown2.drawn hdW
                have hbel := below_step hbel (Nat.le_refl _) hdW.below
                clear hW hdW
                go_wp2_with fail
                go_quiet (fail)
                generalize hW2 : W.drewN _ = W2
                have hdW2 : Drawn W W2 := ⟨_, hW2.symm⟩
                have hown := hown.drawn hdW2
                have hown2 := hown2.drawn hdW2
                have hbel := below_step hbel (Nat.le_refl _) hdW2.below
                have hc1 : W2.cell? ⟨g, m, none⟩ = some (.int .i64 x) := hown.at_ HX.out
                have hgl := hown.lt
                have hgl2 := hown2.lt
                have hsz := hbel.size
                clear hW2 hdW2
                go_wp2_with
                  (at_builtin
                   refine wp_append_int rfl (.tmp 60) (.tmp 62) rfl w.heap.size g2 (m + 1) cap2 1 W2.heap.size (upto (lcd a b (k + 1)) (m + 1)) (t : Int) rfl (hown2.alloc _) rfl ((OwnI.lit W2 (t : Int)).at_ (k := 0) rfl) (by simp; omega) (by omega) ?_
                   intro g6 cap6 w6 hown6 hg6 hat6 hst6)
                have hb6 : Below w.heap.size w w6 := (hbel.alloc hsz _).grown hg6 (by simp; omega) (by intro j hj; injection hj with hj; omega)
                have hown6' := (hown.alloc (.cells #[.int .i64 (t : Int)] 3)).grown hg6 hne
                have hne6 : g ≠ g6 := by
                  rcases hat6 with h | ⟨h, _⟩
                  · omega
                  · intro he; rw [← he] at h; simp at h; omega
                clear hat6 hst6
                rw [← HU.out] at hown6
                go_wp2_with fail
                all_goals
                  go_roundw
                  case rel => first | exact ⟨m + 1, g6, cap6, by omega, by go_num, rfl, hne6, hown6, hown6', hb6⟩ | exact ⟨m + 1, by omega, by go_num, g6, cap6, ⟨rfl, rfl, rfl⟩, by first | exact ⟨hne6, hown6, hown6', hb6⟩ | exact ⟨hne6, hown6⟩⟩
                  case measure => simp [intOf]; omega
              · have hd := lcd_eq a b k m hlt hlm h3
                have hsucc := upto_succ (lcd a b (k + 1)) (m + 1)
                rw [hd] at hsucc
                have HU := Lib.hid hsucc
                clear hd hsucc
                have HX := Lib.hid (upto_get (lcd a b k) (show m < b.size + 1 by omega))
                generalize lcd a b k m = x at *
                generalize lcd a b k (m + 1) = y at *
                generalize lcd a b (k + 1) m = z at *
                go_wp2_with fail
                go_region_held3 (fun w' => w'.cell? ⟨g, m, none⟩ = some (.int .i64 x) ∧ w'.cell? ⟨g, m + 1, none⟩ = some (.int .i64 y) ∧ w'.cell? ⟨g2, m, none⟩ = some (.int .i64 z))
                  (first | go_keep | assumption)
                  (fail)
                generalize (if y < z then (z : Int) else (y : Int)) = t
                generalize hW : wr.drew = W
                have hdW : Drawn wr W := ⟨1, hW.symm⟩
                have hown := hown.drawn hdW
                have hown2 := hown2.drawn hdW
                have hbel := below_step hbel (Nat.le_refl _) hdW.below
                clear hW hdW
                go_wp2_with fail
                go_quiet (fail)
                generalize hW2 : W.drewN _ = W2
                have hdW2 : Drawn W W2 := ⟨_, hW2.symm⟩
                have hown := hown.drawn hdW2
                have hown2 := hown2.drawn hdW2
                have hbel := below_step hbel (Nat.le_refl _) hdW2.below
                have hc1 : W2.cell? ⟨g, m, none⟩ = some (.int .i64 x) := hown.at_ HX.out
                have hgl := hown.lt
                have hgl2 := hown2.lt
                have hsz := hbel.size
                clear hW2 hdW2
                go_wp2_with
                  (at_builtin
                   refine wp_append_int rfl (.tmp 60) (.tmp 62) rfl w.heap.size g2 (m + 1) cap2 1 W2.heap.size (upto (lcd a b (k + 1)) (m + 1)) (((x + 1 : Nat) : Int) : Int) rfl (hown2.alloc _) rfl ((OwnI.lit W2 (((x + 1 : Nat) : Int) : Int)).at_ (k := 0) rfl) (by simp; omega) (by omega) ?_
                   intro g6 cap6 w6 hown6 hg6 hat6 hst6)
                have hb6 : Below w.heap.size w w6 := (hbel.alloc hsz _).grown hg6 (by simp; omega) (by intro j hj; injection hj with hj; omega)
                have hown6' := (hown.alloc (.cells #[.int .i64 (((x + 1 : Nat) : Int) : Int)] 3)).grown hg6 hne
                have hne6 : g ≠ g6 := by
                  rcases hat6 with h | ⟨h, _⟩
                  · omega
                  · intro he; rw [← he] at h; simp at h; omega
                clear hat6 hst6
                rw [← HU.out] at hown6
                go_wp2_with fail
                all_goals
                  go_roundw
                  case rel => first | exact ⟨m + 1, g6, cap6, by omega, by go_num, rfl, hne6, hown6, hown6', hb6⟩ | exact ⟨m + 1, by omega, by go_num, g6, cap6, ⟨rfl, rfl, rfl⟩, by first | exact ⟨hne6, hown6, hown6', hb6⟩ | exact ⟨hne6, hown6⟩⟩
                  case measure => simp [intOf]; omega
            · obtain rfl : m = b.size := by omega
              go_wp2_with fail
              go_roundw
              case rel => exact ⟨k + 1, g2, cap2, by omega, by go_num, rfl, hown2, hbel⟩
              case measure => simp [intOf]; omega
        · obtain rfl : k = a.size := by omega
          have hlast := hown.at_ (upto_get _ (show b.size < b.size + 1 by omega))
          rw [lcd_last] at hlast
          have hi0 : (0 : Int) ≤ (b.size : Int) := by omega
          have hi1 : (b.size : Int) < ((b.size + 1 : Nat) : Int) := by omega
          go_wp2_with fail
          go_ret
          exact ⟨ret_int HN.out.symm, hbel⟩
end Go.Proofs.Ytacnaipcjihkkaa
