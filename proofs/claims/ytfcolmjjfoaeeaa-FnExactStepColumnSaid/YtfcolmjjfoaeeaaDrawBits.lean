/- The drawing of the inputs of chapter 5's laws. -/
import Derived.Test.YtfcolmjjfoaeeaaDrawDist
import Derived.Test.YtfcolmjjfoaeeaaBits5Dist
namespace Go.Proofs.Ytfcolmjjfoaeeaa
open Go.RowKit
set_option maxHeartbeats 1600000
set_option linter.unusedSimpArgs false
set_option linter.unusedVariables false

def LetterPost (b p : Nat) (w : World) (e : Ending) (w' : World) : Prop := ∃ c : UInt8, e = .returned (.int .u8 (c.toNat : Int)) ∧ Drew b p 4 w w'
theorem u8_of {x : Int} (h0 : 0 ≤ x) (h1 : x ≤ 255) : ∃ c : UInt8, x = (c.toNat : Int) :=
  ⟨UInt8.ofNat x.toNat, by simp; omega⟩
theorem letter_any (b p : Nat) (n : Int) (w : World) (hr : Rd w b p) (hp : p ≤ 800000) (hn0 : 0 ≤ n) (hn : n ≤ 1000) :
    Calls Try.prog 28 #[.pointer (some ⟨b, 0, none⟩), .int .i64 n] w (LetterPost b p w) := by
  have hbl := hr.lt
  go_enter Try.func28, Try.ntmps28
  go_wp2_with fail
  refine (odd_any b p _ _ hr (by omega) (by omega) (by omega)).mono ?_
  rintro e w1 ⟨v, rfl, -, hd1⟩
  obtain ⟨q1, hq1a, hq1b, g1⟩ := (Got.refl hr).step hd1
  clear hd1
  have hbl1 := g1.rd.lt
  cases v
  · go_wp2_with fail
    refine (pick_any b q1 _ _ g1.rd (by omega) (by omega)).mono ?_
    rintro e w2 ⟨v2, rfl, h20, h21, -, hd2⟩
    have h21 := h21 (by omega)
    obtain ⟨q2, hq2a, hq2b, g2⟩ := g1.step hd2
    clear hd2
    go_wp2_with fail
    refine (pick_any b q2 _ _ g2.rd (by omega) (by omega)).mono ?_
    rintro e w3 ⟨v3, rfl, h30, h31, -, hd3⟩
    have h31 := h31 (by omega)
    obtain ⟨q3, hq3a, hq3b, g3⟩ := g2.step hd3
    clear hd3
    have hbl3 := g3.rd.lt
    go_wp2_with fail
    refine (pick_any b q3 _ _ ((g3.alloc _).rd) (by omega) (by omega)).mono ?_
    rintro e w4 ⟨v4, rfl, h40, h41, -, hd4⟩
    have h41 := h41 (by omega)
    have hblk := hd4.block hbl3
    obtain ⟨x, hx0, hx1, hcx⟩ : ∃ x : Int, 0 ≤ x ∧ x < 26 ∧ w4.cell? ⟨w3.heap.size, v4.toNat, none⟩ = some (.int .i64 x) := by
      by_cases h : v4 = 0
      · subst h; exact ⟨v2, h20, by omega, (cell_of_row w4 _ 0 _ _ _ hblk).trans rfl⟩
      · obtain rfl : v4 = 1 := by omega
        exact ⟨v3, h30, by omega, (cell_of_row w4 _ 1 _ _ _ hblk).trans rfl⟩
    obtain ⟨q4, hq4a, hq4b, g4⟩ := (g3.alloc _).step hd4
    clear hd4 hblk
    obtain ⟨c, hc⟩ := u8_of (x := 97 + x) (by omega) (by omega)
    have HC := Lib.hid hc
    clear hc
    go_wp2_with fail
    go_ret
    exact ⟨c, by rw [← HC.out]; rfl, g4.done (by omega)⟩
  · go_wp2_with fail
    refine (pick_any b q1 _ _ ((g1.alloc _).rd) (by omega) (by omega)).mono ?_
    rintro e w2 ⟨v2, rfl, h20, h21, -, hd2⟩
    have h21 := h21 (by omega)
    have hblk := hd2.block hbl1
    have c0 : w2.cell? ⟨w1.heap.size, 0, none⟩ = some (.int .u8 65) := by rw [cell_of_row _ _ 0 _ _ _ hblk]; rfl
    have c1 : w2.cell? ⟨w1.heap.size, 1, none⟩ = some (.int .u8 123) := by rw [cell_of_row _ _ 1 _ _ _ hblk]; rfl
    have c2 : w2.cell? ⟨w1.heap.size, 2, none⟩ = some (.int .u8 0) := by rw [cell_of_row _ _ 2 _ _ _ hblk]; rfl
    obtain ⟨q2, hq2a, hq2b, g2⟩ := (g1.alloc _).step hd2
    clear hd2 hblk
    rcases (show v2 = 0 ∨ v2 = 1 ∨ v2 = 2 by omega) with rfl | rfl | rfl
    · go_wp2_with fail
      go_ret
      exact ⟨65, rfl, g2.done (by omega)⟩
    · go_wp2_with fail
      go_ret
      exact ⟨123, rfl, g2.done (by omega)⟩
    · go_wp2_with fail
      go_ret
      exact ⟨0, rfl, g2.done (by omega)⟩
theorem drawLetterMask_any (A : Option Addr) (n c : Nat) (w : World) (h : Bytes w w.heap.size A n) (hnc : n ≤ c) (hc : c ≤ maxLen) :
    Calls Try.prog 12 #[.slice A n c] w fun e w' => ∃ (s : ByteArray) (k : UInt8), e = .returned (.tuple #[.string s, .int .u8 (k.toNat : Int)]) ∧ s.size ≤ 13 ∧ Below w.heap.size w w' := by
  go_enter Try.func12, Try.ntmps12
  go_wp2_with fail
  refine (open_any _ _ _ _ h hnc hc).mono ?_
  rintro e w1 ⟨g, rfl, hg, hr, hb⟩
  go_wp2_with fail
  refine (word_any g 0 _ _ hr (by omega) (by omega) (by omega)).mono ?_
  rintro e w2 ⟨s, rfl, hs, hd⟩
  obtain ⟨q2, hq2a, hq2b, g2⟩ := (Got.refl hr).step hd
  have hb2 := hb.trans (below_only hd.1 hg hb.size)
  clear hd hr
  go_wp2_with fail
  refine (letter_any g q2 _ _ g2.rd (by omega) (by omega) (by omega)).mono ?_
  rintro e w3 ⟨k, rfl, hd3⟩
  go_wp2_with fail
  go_ret2
  exact ⟨s, k, rfl, hs, hb2.trans (below_only hd3.1 hg hb2.size)⟩
theorem drawBitColumn_any (A : Option Addr) (n c : Nat) (w : World) (h : Bytes w w.heap.size A n) (hnc : n ≤ c) (hc : c ≤ maxLen) :
    Calls Try.prog 16 #[.slice A n c] w (TextsPost w) := by
  go_enter Try.func16, Try.ntmps16
  go_wp2_with fail
  refine (open_any _ _ _ _ h hnc hc).mono ?_
  rintro e w1 ⟨g, rfl, hg, hr, hb⟩
  go_wp2_with fail
  refine (two_any g 0 _ _ hr (by omega) (by omega) (by omega)).mono ?_
  rintro e w2 ⟨s, t, rfl, hs, ht, hd, -⟩
  go_wp2_with fail
  go_ret2
  exact ⟨s, t, rfl, hs, ht, hb.trans (below_only hd hg hb.size)⟩
theorem drawStepColumn_any (A : Option Addr) (n c : Nat) (w : World) (h : Bytes w w.heap.size A n) (hnc : n ≤ c) (hc : c ≤ maxLen) :
    Calls Try.prog 23 #[.slice A n c] w fun e w' => ∃ (s t : ByteArray) (k : UInt8), e = .returned (.tuple #[.string s, .string t, .int .u8 (k.toNat : Int)]) ∧ s.size ≤ 13 ∧ t.size ≤ 13 ∧ Below w.heap.size w w' := by
  go_enter Try.func23, Try.ntmps23
  go_wp2_with fail
  refine (open_any _ _ _ _ h hnc hc).mono ?_
  rintro e w1 ⟨g, rfl, hg, hr, hb⟩
  go_wp2_with fail
  refine (two_any g 0 _ _ hr (by omega) (by omega) (by omega)).mono ?_
  rintro e w2 ⟨s, t, rfl, hs, ht, hd⟩
  obtain ⟨q2, hq2a, hq2b, g2⟩ := (Got.refl hr).step hd
  have hb2 := hb.trans (below_only hd.1 hg hb.size)
  clear hd hr
  go_wp2_with fail
  refine (letter_any g q2 _ _ g2.rd (by omega) (by omega) (by omega)).mono ?_
  rintro e w3 ⟨k, rfl, hd3⟩
  go_wp2_with fail
  go_ret3
  exact ⟨s, t, k, rfl, hs, ht, hb2.trans (below_only hd3.1 hg hb2.size)⟩
/-- four numbers -/
def FourPost (w : World) (e : Ending) (w' : World) : Prop := ∃ n m u d : Int, e = .returned (.tuple #[.int .i64 n, .int .i64 m, .int .i64 u, .int .i64 d]) ∧ I64 n ∧ I64 m ∧ I64 u ∧ I64 d ∧ Below w.heap.size w w'
theorem col_range (a b : List UInt8) {u d : Int} (h : colV a b = .tuple #[.int .i64 u, .int .i64 d]) : -1 ≤ u ∧ u ≤ 8192 ∧ -1 ≤ d ∧ d ≤ 8192 := by
  cases hok : (wordB a && wordB b)
  · rw [colV_no hok] at h
    injection h with h
    simp at h
    obtain ⟨rfl, rfl⟩ := h
    omega
  · have ha : a.length ≤ 12 := by simp only [Bool.and_eq_true, wordB, decide_eq_true_eq] at hok; exact hok.1.1
    rw [colV_yes hok] at h
    injection h with h
    simp at h
    obtain ⟨rfl, rfl⟩ := h
    have h1 : upN a b ≤ 8192 := mask_small _ (by omega)
    have h2 : downN a b ≤ 8192 := mask_small _ (by omega)
    omega
theorem drawBitDistance_any (A : Option Addr) (n c : Nat) (w : World) (h : Bytes w w.heap.size A n) (hnc : n ≤ c) (hc : c ≤ maxLen) :
    Calls Try.prog 21 #[.slice A n c] w (FourPost w) := by
  go_enter Try.func21, Try.ntmps21
  go_wp2_with fail
  refine (open_any _ _ _ _ h hnc hc).mono ?_
  rintro e w1 ⟨g, rfl, hg, hr, hb⟩
  go_wp2_with fail
  refine (two_any g 0 _ _ hr (by omega) (by omega) (by omega)).mono ?_
  rintro e w2 ⟨s, t, rfl, hs, ht, hd⟩
  obtain ⟨q2, hq2a, hq2b, g2⟩ := (Got.refl hr).step hd
  have hb2 := hb.trans (below_only hd.1 hg hb.size)
  clear hd hr
  obtain ⟨u, d, hv⟩ := colV_is s.data.toList t.data.toList
  have hrg := col_range _ _ hv
  have HV := Lib.hid hv
  have sm : s.size ≤ maxLen := by unfold maxLen; omega
  have tm : t.size ≤ maxLen := by unfold maxLen; omega
  clear hv
  go_wp2_with fail
  refine (bitColumn_spec_is HV.out _ sm tm).mono ?_
  rintro e w3 ⟨rfl, hb3⟩
  have hr3 := g2.rd.below hb3
  have hb3 := hb2.trans (hb3.mono hb2.size)
  clear hb2 g2 HV
  go_wp2_with fail
  refine (odd_any g q2 _ _ hr3 (by omega) (by omega) (by omega)).mono ?_
  rintro e w4 ⟨v, rfl, -, hd4⟩
  obtain ⟨q4, hq4a, hq4b, g4⟩ := (Got.refl hr3).step hd4
  have hb4 := hb3.trans (below_only hd4.1 hg hb3.size)
  clear hd4 hr3 hb3
  cases v
  · go_wp2_with fail
    refine bodyPost_ret (v := .tuple #[.int .i64 (s.size : Int), .int .i64 (t.size : Int), .int .i64 u, .int .i64 d]) (by simp [results, Try.results21, go_sem]) rfl ?_
    exact ⟨_, _, _, _, rfl, by unfold I64; omega, by unfold I64; omega, by unfold I64; omega, by unfold I64; omega, hb4⟩
  · go_wp2_with fail
    refine (pick_any g q4 _ _ g4.rd (by omega) (by omega)).mono ?_
    rintro e w5 ⟨v5, rfl, h50, h51, -, hd5⟩
    have h51 := h51 (by omega)
    obtain ⟨q5, hq5a, hq5b, g5⟩ := (Got.refl g4.rd).step hd5
    have hb5 := hb4.trans (below_only hd5.1 hg hb4.size)
    clear hd5 g4 hb4
    rcases (show v5 = 0 ∨ v5 = 1 ∨ v5 = 2 ∨ v5 = 3 by omega) with rfl | rfl | rfl | rfl
    · go_wp2_with fail
      refine (pick_any g q5 _ _ g5.rd (by omega) (by omega)).mono ?_
      rintro e w6 ⟨v6, rfl, h60, h61, -, hd6⟩
      have h61 := h61 (by omega)
      have hb6 := hb5.trans (below_only hd6.1 hg hb5.size)
      go_wp2_with fail
      refine bodyPost_ret (v := .tuple #[.int .i64 (s.size : Int), .int .i64 (t.size : Int), .int .i64 v6, .int .i64 d]) (by simp [results, Try.results21, go_sem]) rfl ?_
      exact ⟨_, _, _, _, rfl, by unfold I64; omega, by unfold I64; omega, by unfold I64; omega, by unfold I64; omega, hb6⟩
    · go_wp2_with fail
      refine (pick_any g q5 _ _ g5.rd (by omega) (by omega)).mono ?_
      rintro e w6 ⟨v6, rfl, h60, h61, -, hd6⟩
      have h61 := h61 (by omega)
      have hb6 := hb5.trans (below_only hd6.1 hg hb5.size)
      go_wp2_with fail
      refine bodyPost_ret (v := .tuple #[.int .i64 (s.size : Int), .int .i64 (t.size : Int), .int .i64 u, .int .i64 v6]) (by simp [results, Try.results21, go_sem]) rfl ?_
      exact ⟨_, _, _, _, rfl, by unfold I64; omega, by unfold I64; omega, by unfold I64; omega, by unfold I64; omega, hb6⟩
    · have hl5 := g5.rd.lt
      go_wp2_with fail
      refine (pick_any g q5 _ _ g5.rd (by omega) (by omega)).mono ?_
      rintro e w6 ⟨v6, rfl, h60, h61, -, hd6⟩
      have h61 := h61 (by omega)
      obtain ⟨q6, hq6a, hq6b, g6⟩ := (Got.refl g5.rd).step hd6
      have hb6 := hb5.trans (below_only hd6.1 hg hb5.size)
      have hl6 := g6.rd.lt
      clear hd6 g5 hb5
      go_wp2_with fail
      refine (pick_any g q6 _ _ ((g6.alloc _).rd) (by omega) (by omega)).mono ?_
      rintro e w7 ⟨v7, rfl, h70, h71, -, hd7⟩
      have h71 := h71 (by omega)
      have hblk := hd7.block hl6
      have hb7 := (hb6.alloc hb6.size (.cells #[.int .i64 (-1), .int .i64 13, .int .i64 v6] 3)).trans (below_only hd7.1 hg (by have := hb6.size; simp; omega))
      obtain ⟨x, hx0, hx1, hcx⟩ : ∃ x : Int, -1 ≤ x ∧ x ≤ 13 ∧ w7.cell? ⟨w6.heap.size, v7.toNat, none⟩ = some (.int .i64 x) := by
        rcases (show v7 = 0 ∨ v7 = 1 ∨ v7 = 2 by omega) with rfl | rfl | rfl
        · exact ⟨-1, by omega, by omega, (cell_of_row w7 _ 0 _ _ _ hblk).trans rfl⟩
        · exact ⟨13, by omega, by omega, (cell_of_row w7 _ 1 _ _ _ hblk).trans rfl⟩
        · exact ⟨v6, by omega, by omega, (cell_of_row w7 _ 2 _ _ _ hblk).trans rfl⟩
      clear hd7 hblk g6 hb6
      go_wp2_with fail
      refine bodyPost_ret (v := .tuple #[.int .i64 x, .int .i64 (t.size : Int), .int .i64 u, .int .i64 d]) (by simp [results, Try.results21, go_sem]) rfl ?_
      exact ⟨_, _, _, _, rfl, by unfold I64; omega, by unfold I64; omega, by unfold I64; omega, by unfold I64; omega, hb7⟩
    · have hl5 := g5.rd.lt
      go_wp2_with fail
      refine (pick_any g q5 _ _ g5.rd (by omega) (by omega)).mono ?_
      rintro e w6 ⟨v6, rfl, h60, h61, -, hd6⟩
      have h61 := h61 (by omega)
      obtain ⟨q6, hq6a, hq6b, g6⟩ := (Got.refl g5.rd).step hd6
      have hb6 := hb5.trans (below_only hd6.1 hg hb5.size)
      have hl6 := g6.rd.lt
      clear hd6 g5 hb5
      go_wp2_with fail
      refine (pick_any g q6 _ _ ((g6.alloc _).rd) (by omega) (by omega)).mono ?_
      rintro e w7 ⟨v7, rfl, h70, h71, -, hd7⟩
      have h71 := h71 (by omega)
      have hblk := hd7.block hl6
      have hb7 := (hb6.alloc hb6.size (.cells #[.int .i64 (-1), .int .i64 13, .int .i64 v6] 3)).trans (below_only hd7.1 hg (by have := hb6.size; simp; omega))
      obtain ⟨x, hx0, hx1, hcx⟩ : ∃ x : Int, -1 ≤ x ∧ x ≤ 13 ∧ w7.cell? ⟨w6.heap.size, v7.toNat, none⟩ = some (.int .i64 x) := by
        rcases (show v7 = 0 ∨ v7 = 1 ∨ v7 = 2 by omega) with rfl | rfl | rfl
        · exact ⟨-1, by omega, by omega, (cell_of_row w7 _ 0 _ _ _ hblk).trans rfl⟩
        · exact ⟨13, by omega, by omega, (cell_of_row w7 _ 1 _ _ _ hblk).trans rfl⟩
        · exact ⟨v6, by omega, by omega, (cell_of_row w7 _ 2 _ _ _ hblk).trans rfl⟩
      clear hd7 hblk g6 hb6
      go_wp2_with fail
      refine bodyPost_ret (v := .tuple #[.int .i64 (s.size : Int), .int .i64 x, .int .i64 u, .int .i64 d]) (by simp [results, Try.results21, go_sem]) rfl ?_
      exact ⟨_, _, _, _, rfl, by unfold I64; omega, by unfold I64; omega, by unfold I64; omega, by unfold I64; omega, hb7⟩
end Go.Proofs.Ytfcolmjjfoaeeaa
