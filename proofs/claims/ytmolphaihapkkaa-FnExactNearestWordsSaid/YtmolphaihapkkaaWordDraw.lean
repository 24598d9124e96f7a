/- Contract of the laws' drawing of words: l20Word. -/
import Derived.Test.YtmolphaihapkkaaBend
namespace Go.Proofs.Ytmolphaihapkkaa
open Go.RowKit
set_option maxHeartbeats 800000
set_option linter.unusedSimpArgs false
set_option linter.unusedVariables false

/-- behind some draws: the reader stands at q, all else that was there stands -/
def Got (w : World) (b p q : Nat) (wr : World) : Prop := w.grownBy wr (some b) ∧ p ≤ q ∧ Rd wr b q
theorem Got.refl {w : World} {b p : Nat} (h : Rd w b p) : Got w b p p w := ⟨only_refl w b, Nat.le_refl _, h⟩
theorem Got.rd {w wr : World} {b p q : Nat} (h : Got w b p q wr) : Rd wr b q := h.2.2
theorem Got.step {w wr w' : World} {b p q d : Nat} (h : Got w b p q wr) (k : Drew b q d wr w') : ∃ q', q ≤ q' ∧ q' ≤ q + d ∧ Got w b p q' w' := by
  obtain ⟨k1, q', a, b', hr⟩ := k
  exact ⟨q', a, b', only_trans h.1 k1, Nat.le_trans h.2.1 a, hr⟩
theorem Got.below {w wr w' : World} {b p q : Nat} (h : Got w b p q wr) (k : Below wr.heap.size wr w') : Got w b p q w' := ⟨only_trans h.1 (only_below k), h.2.1, h.2.2.below k⟩
theorem Got.alloc {w wr : World} {b p q : Nat} (h : Got w b p q wr) (o : Obj) : Got w b p q (wr.alloc o) := h.below ((Below.refl _ _).alloc (Nat.le_refl _) _)
theorem Got.drewN {w wr : World} {b p q : Nat} (h : Got w b p q wr) (n : Nat) : Got w b p q (wr.drewN n) := h.below (below_drewN (Below.refl _ _) n)
theorem Got.done {w wr : World} {b p q d : Nat} (h : Got w b p q wr) (hq : q ≤ p + d) : Drew b p d w wr := ⟨h.1, q, h.2.1, hq, h.2.2⟩
/-- a block that was new when the draw began is as it was -/
theorem Drew.block {w w' : World} {b p d : Nat} {o : Obj} (h : Drew b p d (w.alloc o) w') (hb : b < w.heap.size) : w'.heap[w.heap.size]? = some o :=
  (h.1.block _ (by simp) (by intro e; injection e; omega)).trans (heap_alloc_new w _)

/-- a text of at most k bytes -/
def textB (k : Nat) : Value → Bool
  | .string s => decide (s.size ≤ k)
  | _ => false
theorem text_at {w : World} {g i k : Nat} {cs : Array Value} {t : TypeId} (h : w.heap[g]? = some (.cells cs t (0, 0))) (hi : i < cs.size) (hall : cs.all (textB k) = true) :
    ∃ s : ByteArray, s.size ≤ k ∧ w.cell? ⟨g, i, none⟩ = some (.string s) := by
  have hc := cell_of_row w g i cs t (0, 0) h
  rw [Array.getElem?_eq_getElem hi] at hc
  have := Array.all_eq_true.1 hall i hi
  cases hv : cs[i] with
  | string s => rw [hv] at this hc; simp [textB] at this; exact ⟨s, this, hc⟩
  | _ => rw [hv] at this; simp [textB] at this

def WordPost (b p : Nat) (w : World) (e : Ending) (w' : World) : Prop :=
  ∃ t : ByteArray, e = .returned (.string t) ∧ t.size ≤ 13 ∧ Drew b p 40 w w'

theorem word_any (b p : Nat) (n : Int) (w : World) (hr : Rd w b p) (hp : p ≤ 800000) (hn0 : 0 ≤ n) (hn : n ≤ 1000) :
    Calls Try.prog 73 #[.pointer (some ⟨b, 0, none⟩), .int .i64 n] w (WordPost b p w) := by
  have hbl := hr.lt
  go_enter Try.func73, Try.ntmps73
  go_wp2_with fail
  refine (pick_any b p _ _ (by exact hr.below ((Below.refl _ _).alloc (Nat.le_refl _) _)) (by omega) (by omega)).mono ?_
  rintro e w1 ⟨v1, rfl, h10, h11, -, hd1⟩
  have h11 := h11 (by omega)
  obtain ⟨s, hs, hcs⟩ := text_at (k := 12) (i := v1.toNat) (hd1.block hbl) (by simp; omega) (by kernel_rfl)
  obtain ⟨q1, hq1a, hq1b, hgot1⟩ := ((Got.refl hr).alloc _).step hd1
  clear hd1
  go_wp2_with fail
  refine (pick_any b q1 _ _ hgot1.rd (by omega) (by omega)).mono ?_
  rintro e w2 ⟨v2, rfl, h20, h21, -, hd2⟩
  have h21 := h21 (by omega)
  obtain ⟨q2, hq2a, hq2b, hgot2⟩ := hgot1.step hd2
  clear hd2 hgot1 hcs hr
  by_cases hv2 : v2 = 0
  · subst hv2
    go_wp2_with fail
    refine (pick_any b q2 _ _ hgot2.rd (by omega) (by omega)).mono ?_
    rintro e w8 ⟨v8, rfl, h80, h81, -, hd8⟩
    have h81 := h81 (by omega)
    obtain ⟨q8, hq8a, hq8b, hgot8⟩ := hgot2.step hd8
    obtain ⟨v8, rfl⟩ := Int.eq_ofNat_of_zero_le h80
    clear hd8 hgot2 hs
    have hcv := text_of_byte
    go_wp2_with fail
    go_loopw [5, 6] (fun x y wr => ∃ (t : ByteArray) (k q : Nat), x = .string t ∧ y = .int .i64 k ∧ t.size + k ≤ 7 ∧ q + k ≤ p + 10 ∧ Got w b p q wr) (fun _ y _ => (intOf y).toNat)
    case atStart => exact ⟨_, _, _, rfl, rfl, by show 0 + v8 ≤ 7; omega, by omega, hgot8⟩
    case round =>
      obtain ⟨s, k, q2, rfl, rfl, hsk, hqk, hgot2⟩ := hrel
      by_cases hk0 : 0 < k
      · go_wp2_with fail
        refine (pick_any b q2 _ _ hgot2.rd (by omega) (by omega)).mono ?_
        rintro e w9 ⟨v9, rfl, h90, h91, -, hd9⟩
        have h91 := h91 (by omega)
        obtain ⟨q9, hq9a, hq9b, hgot9⟩ := hgot2.step hd9
        obtain ⟨k, rfl⟩ : ∃ m, k = m + 1 := ⟨k - 1, by omega⟩
        have hcat : ∀ (W : World) (x : UInt8), (Op.stringOp .add s ⟨#[x]⟩).run Try.prog W = .ok (.string (s ++ ⟨#[x]⟩)) W := fun W x => run_string_add_sum W s _ (by have : (ByteArray.mk #[x]).size = 1 := rfl; omega)
        clear hd9 hgot2
        go_wp2_with fail
        go_roundw
        case rel => exact ⟨_, k, q9, rfl, by go_num, by rw [ByteArray.size_append]; have : ∀ x, (ByteArray.mk #[x]).size = 1 := fun _ => rfl; rw [this]; omega, by omega, hgot9.alloc _⟩
        case measure => simp [intOf]
      · have hs : s.size ≤ 12 := by omega
        clear hcv
        go_wp2_with fail
        refine (pick_any b q2 _ _ hgot2.rd (by omega) (by omega)).mono ?_
        rintro e w3 ⟨v3, rfl, h30, h31, -, hd3⟩
        have h31 := h31 (by omega)
        obtain ⟨q3, hq3a, hq3b, hgot3⟩ := hgot2.step hd3
        obtain ⟨v3, rfl⟩ := Int.eq_ofNat_of_zero_le h30
        clear hd3 hgot2
        go_wp2_with fail
        go_loopw [5, 7] (fun x y wr => ∃ (t : ByteArray) (k q : Nat), x = .string t ∧ y = .int .i64 k ∧ t.size ≤ 12 ∧ k ≤ 2 ∧ q + 5 * k ≤ p + 23 ∧ Got w b p q wr) (fun _ y _ => (intOf y).toNat)
        case atStart => exact ⟨_, _, _, rfl, rfl, hs, by omega, by omega, hgot3⟩
        case round =>
          obtain ⟨t, k, q, rfl, rfl, ht, hk, hq, hgot⟩ := hrel
          by_cases hk0 : 0 < k
          · go_wp2_with fail
            refine (bend_any b q _ _ hgot.rd (by omega) (by omega)).mono ?_
            rintro e w4 ⟨t', rfl, ht', hd4⟩
            obtain ⟨q4, hq4a, hq4b, hgot4⟩ := hgot.step hd4
            obtain ⟨k, rfl⟩ : ∃ m, k = m + 1 := ⟨k - 1, by omega⟩
            clear hd4 hgot
            go_wp2_with fail
            go_roundw
            case rel => exact ⟨t', k, q4, rfl, by go_num, by omega, by omega, by omega, hgot4⟩
            case measure => simp [intOf]
          · go_wp2_with fail
            refine (odd_any b q _ _ hgot.rd (by omega) (by omega) (by omega)).mono ?_
            rintro e w5 ⟨v5, rfl, -, hd5⟩
            obtain ⟨q5, hq5a, hq5b, hgot5⟩ := hgot.step hd5
            clear hd5 hgot
            cases v5
            · go_wp2_with fail
              go_ret
              exact ⟨t, rfl, by omega, hgot5.done (by omega)⟩
            · have hcat : ∀ (W : World) (x y : ByteArray), x.size ≤ 4000 → y.size ≤ 4000 → (Op.stringOp .add x y).run Try.prog W = .ok (.string (x ++ y)) W := fun W x y hx hy => run_string_add_sum W x y (by omega)
              have hl1 : (ByteArray.mk #[65]).size ≤ 4000 := by decide
              have hl2 : (ByteArray.mk #[46]).size ≤ 4000 := by decide
              have ht4 : t.size ≤ 4000 := by omega
              have hbl5 := hgot5.rd.lt
              go_wp2_with fail
              clear hcat
              refine (pick_any b q5 _ _ (by exact hgot5.rd.below ((Below.refl _ _).alloc (Nat.le_refl _) _)) (by omega) (by omega)).mono ?_
              rintro e w6 ⟨v6, rfl, h60, h61, -, hd6⟩
              have h61 := h61 (by omega)
              obtain ⟨s6, hs6, hcs6⟩ := text_at (k := 13) (i := v6.toNat) (hd6.block hbl5) (by simp; omega) (by
                have e1 : (ByteArray.mk #[65]).size = 1 := rfl
                have e2 : (ByteArray.mk #[46]).size = 1 := rfl
                have e3 : (ByteArray.mk #[97, 98, 99, 100, 101, 102, 103, 104, 105, 106, 107, 108, 109]).size = 13 := rfl
                have e4 : (ByteArray.mk #[97, 32, 98]).size = 3 := rfl
                simp [textB, ByteArray.size_append, e1, e2, e3, e4]; omega)
              obtain ⟨q6, hq6a, hq6b, hgot6⟩ := (hgot5.alloc _).step hd6
              clear hd6
              go_wp2_with fail
              go_ret
              exact ⟨s6, rfl, hs6, hgot6.done (by omega)⟩
  · have hv2' : (v2 == 0) = false := by simp; omega
    go_wp2_with fail
    refine (pick_any b q2 _ _ hgot2.rd (by omega) (by omega)).mono ?_
    rintro e w3 ⟨v3, rfl, h30, h31, -, hd3⟩
    have h31 := h31 (by omega)
    obtain ⟨q3, hq3a, hq3b, hgot3⟩ := hgot2.step hd3
    obtain ⟨v3, rfl⟩ := Int.eq_ofNat_of_zero_le h30
    clear hd3 hgot2
    go_wp2_with fail
    go_loopw [5, 7] (fun x y wr => ∃ (t : ByteArray) (k q : Nat), x = .string t ∧ y = .int .i64 k ∧ t.size ≤ 12 ∧ k ≤ 2 ∧ q + 5 * k ≤ p + 23 ∧ Got w b p q wr) (fun _ y _ => (intOf y).toNat)
    case atStart => exact ⟨_, _, _, rfl, rfl, hs, by omega, by omega, hgot3⟩
    case round =>
      obtain ⟨t, k, q, rfl, rfl, ht, hk, hq, hgot⟩ := hrel
      by_cases hk0 : 0 < k
      · go_wp2_with fail
        refine (bend_any b q _ _ hgot.rd (by omega) (by omega)).mono ?_
        rintro e w4 ⟨t', rfl, ht', hd4⟩
        obtain ⟨q4, hq4a, hq4b, hgot4⟩ := hgot.step hd4
        obtain ⟨k, rfl⟩ : ∃ m, k = m + 1 := ⟨k - 1, by omega⟩
        clear hd4 hgot
        go_wp2_with fail
        go_roundw
        case rel => exact ⟨t', k, q4, rfl, by go_num, by omega, by omega, by omega, hgot4⟩
        case measure => simp [intOf]
      · go_wp2_with fail
        refine (odd_any b q _ _ hgot.rd (by omega) (by omega) (by omega)).mono ?_
        rintro e w5 ⟨v5, rfl, -, hd5⟩
        obtain ⟨q5, hq5a, hq5b, hgot5⟩ := hgot.step hd5
        clear hd5 hgot
        cases v5
        · go_wp2_with fail
          go_ret
          exact ⟨t, rfl, by omega, hgot5.done (by omega)⟩
        · have hcat : ∀ (W : World) (x y : ByteArray), x.size ≤ 4000 → y.size ≤ 4000 → (Op.stringOp .add x y).run Try.prog W = .ok (.string (x ++ y)) W := fun W x y hx hy => run_string_add_sum W x y (by omega)
          have hl1 : (ByteArray.mk #[65]).size ≤ 4000 := by decide
          have hl2 : (ByteArray.mk #[46]).size ≤ 4000 := by decide
          have ht4 : t.size ≤ 4000 := by omega
          have hbl5 := hgot5.rd.lt
          go_wp2_with fail
          clear hcat
          refine (pick_any b q5 _ _ (by exact hgot5.rd.below ((Below.refl _ _).alloc (Nat.le_refl _) _)) (by omega) (by omega)).mono ?_
          rintro e w6 ⟨v6, rfl, h60, h61, -, hd6⟩
          have h61 := h61 (by omega)
          obtain ⟨s6, hs6, hcs6⟩ := text_at (k := 13) (i := v6.toNat) (hd6.block hbl5) (by simp; omega) (by
            have e1 : (ByteArray.mk #[65]).size = 1 := rfl
            have e2 : (ByteArray.mk #[46]).size = 1 := rfl
            have e3 : (ByteArray.mk #[97, 98, 99, 100, 101, 102, 103, 104, 105, 106, 107, 108, 109]).size = 13 := rfl
            have e4 : (ByteArray.mk #[97, 32, 98]).size = 3 := rfl
            simp [textB, ByteArray.size_append, e1, e2, e3, e4]; omega)
          obtain ⟨q6, hq6a, hq6b, hgot6⟩ := (hgot5.alloc _).step hd6
          clear hd6
          go_wp2_with fail
          go_ret
          exact ⟨s6, rfl, hs6, hgot6.done (by omega)⟩
end Go.Proofs.Ytmolphaihapkkaa
