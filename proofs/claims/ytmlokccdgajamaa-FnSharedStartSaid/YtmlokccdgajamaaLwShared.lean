/- The walk of the law FnSharedStart; the drawing of two words (l20Two). -/
import Derived.Test.YtmlokccdgajamaaLwWord
import Derived.Test.YtmlokccdgajamaaOrd
namespace Go.Proofs.Ytmlokccdgajamaa
open Go.RowKit
set_option maxHeartbeats 800000
set_option linter.unusedSimpArgs false
set_option linter.unusedVariables false

def TwoPost (b p : Nat) (w : World) (e : Ending) (w' : World) : Prop :=
  ∃ s t : ByteArray, e = .returned (.tuple #[.string s, .string t]) ∧ s.size ≤ 13 ∧ t.size ≤ 13 ∧ Drew b p 120 w w'

theorem two_any (b p : Nat) (n : Int) (w : World) (hr : Rd w b p) (hp : p ≤ 700000) (hn0 : 0 ≤ n) (hn : n ≤ 1000) :
    Calls Try.prog 47 #[.pointer (some ⟨b, 0, none⟩), .int .i64 n] w (TwoPost b p w) := by
  go_enter Try.func47, Try.ntmps47
  go_wp2_with fail
  refine (word_any b p _ _ hr (by omega) hn0 hn).mono ?_
  rintro e w1 ⟨s, rfl, hs, hd1⟩
  obtain ⟨q1, hq1a, hq1b, g1⟩ := (Got.refl hr).step hd1
  clear hd1 hr
  go_wp2_with fail
  refine (word_any b q1 _ _ g1.rd (by omega) hn0 hn).mono ?_
  rintro e w2 ⟨t, rfl, ht, hd2⟩
  obtain ⟨q2, hq2a, hq2b, g2⟩ := g1.step hd2
  clear hd2 g1
  have hsm : s.size ≤ maxLen := by unfold maxLen; omega
  cases hv : wordB s.data.toList
  · have C := Lib.hid (wordValid_spec_is hv)
    clear hv
    go_wp2_with fail
    refine (C.out _ hsm).mono ?_
    rintro e w' ⟨rfl, rfl⟩
    go_wp2_with fail
    go_ret2
    exact ⟨s, t, rfl, hs, ht, g2.done (by omega)⟩
  · have C := Lib.hid (wordValid_spec_is hv)
    clear hv
    go_wp2_with fail
    refine (C.out _ hsm).mono ?_
    rintro e w' ⟨rfl, rfl⟩
    go_wp2_with fail
    refine (pick_any b q2 _ _ g2.rd (by omega) (by omega)).mono ?_
    rintro e w3 ⟨v3, rfl, h30, h31, -, hd3⟩
    have h31 := h31 (by omega)
    obtain ⟨q3, hq3a, hq3b, g3⟩ := g2.step hd3
    clear hd3 g2 C
    by_cases hv3 : 0 < v3
    · go_wp2_with fail
      refine (pick_any b q3 _ _ g3.rd (by omega) (by omega)).mono ?_
      rintro e w4 ⟨v4, rfl, h40, h41, -, hd4⟩
      have h41 := h41 (by omega)
      obtain ⟨q4, hq4a, hq4b, g4⟩ := g3.step hd4
      obtain ⟨v4, rfl⟩ := Int.eq_ofNat_of_zero_le h40
      clear hd4 g3
      go_wp2_with fail
      go_loopw [7, 8] (fun x y wr => ∃ (t : ByteArray) (k q : Nat), x = .string t ∧ y = .int .i64 k ∧ t.size ≤ 13 ∧ k ≤ 4 ∧ q + 5 * k ≤ p + 110 ∧ Got w b p q wr) (fun _ y _ => (intOf y).toNat)
      case atStart => exact ⟨_, _, _, rfl, rfl, hs, by omega, by omega, g4⟩
      case round =>
        obtain ⟨t', k, q, rfl, rfl, ht', hk, hq, hgot⟩ := hrel
        by_cases hk0 : 0 < k
        · go_wp2_with fail
          refine (bend_any b q _ _ hgot.rd (by omega) (by omega)).mono ?_
          rintro e w5 ⟨t5, rfl, ht5, hd5⟩
          obtain ⟨q5, hq5a, hq5b, g5⟩ := hgot.step hd5
          obtain ⟨k, rfl⟩ : ∃ m, k = m + 1 := ⟨k - 1, by omega⟩
          clear hd5 hgot
          go_wp2_with fail
          go_roundw
          case rel => exact ⟨t5, k, q5, rfl, by go_num, by omega, by omega, by omega, g5⟩
          case measure => simp [intOf]
        · go_wp2_with fail
          go_ret2
          exact ⟨s, t', rfl, hs, ht', hgot.done (by omega)⟩
    · go_wp2_with fail
      go_ret2
      exact ⟨s, t, rfl, hs, ht, g3.done (by omega)⟩

def TextsPost (w : World) (e : Ending) (w' : World) : Prop :=
  ∃ s t : ByteArray, e = .returned (.tuple #[.string s, .string t]) ∧ s.size ≤ 13 ∧ t.size ≤ 13 ∧ Below w.heap.size w w'
theorem drawSharedStart_any (A : Option Addr) (n c : Nat) (w : World) (h : Bytes w w.heap.size A n) (hnc : n ≤ c) (hc : c ≤ maxLen) :
    Calls Try.prog 27 #[.slice A n c] w (TextsPost w) := by
  go_enter Try.func27, Try.ntmps27
  go_wp2_with fail
  refine (open_any _ _ _ _ h hnc hc).mono ?_
  rintro e w1 ⟨g, rfl, hg, hr, hb⟩
  go_wp2_with fail
  refine (two_any g 0 _ _ hr (by omega) (by omega) (by omega)).mono ?_
  rintro e w2 ⟨s, t, rfl, hs, ht, hd, -⟩
  go_wp2_with fail
  go_ret2
  exact ⟨s, t, rfl, hs, ht, hb.trans (below_only hd hg hb.size)⟩

theorem shared_comm : ∀ l m, shared l m = shared m l
  | [], [] => rfl
  | [], _ :: _ => rfl
  | _ :: _, [] => rfl
  | a :: l, b :: m => by
    simp only [shared]
    rw [shared_comm l m]
    by_cases h : a = b
    · rw [if_pos h, if_pos h.symm]
    · rw [if_neg h, if_neg (fun e => h e.symm)]
theorem shared_self : ∀ l, shared l l = l.length
  | [] => rfl
  | a :: l => by simp [shared, shared_self l]
theorem sharedI_comm (l m : List UInt8) : sharedI l m = sharedI m l := by unfold sharedI; rw [shared_comm, Bool.and_comm]
theorem shared_facts : ∀ l m : List UInt8, shared l m ≤ l.length ∧ shared l m ≤ m.length ∧ l.take (shared l m) = m.take (shared l m) ∧ (shared l m = l.length ∨ shared l m = m.length ∨ l[shared l m]? ≠ m[shared l m]?)
  | [], m => by simp [shared]
  | a :: l, [] => by simp [shared]
  | a :: l, b :: m => by
    by_cases h : a = b
    · subst h
      obtain ⟨h1, h2, h3, h4⟩ := shared_facts l m
      simp only [shared, if_pos]
      simp [h1, h2, h3]
      simpa using h4
    · simp [shared, h]
theorem extract_take (s : ByteArray) (k : Nat) : (s.extract 0 k).data.toList = s.data.toList.take k := by simp

theorem walkFnSharedStart (A : Option Addr) (n c : Nat) (w : World) (h : Bytes w w.heap.size A n) (hnc : n ≤ c) (hc : c ≤ maxLen) :
    Calls Try.prog 7 #[.slice A n c] w fun e w' => e = .returned (.bool true) ∧ Below w.heap.size w w' := by
  have hn : n ≤ maxLen := Nat.le_trans hnc hc
  unfold maxLen at hn
  by_cases hn2 : (1048576 : Int) < n
  · go_enter Try.func7, Try.ntmps7
    go_wp2_with fail
    go_ret
    exact ⟨rfl, Below.refl _ _⟩
  · go_enter Try.func7, Try.ntmps7
    go_wp2_with fail
    refine (drawSharedStart_any _ _ _ _ h hnc hc).mono ?_
    rintro e w1 ⟨a, b, rfl, ha, hb, hb1⟩
    have am : a.size ≤ maxLen := by unfold maxLen; omega
    have bm : b.size ≤ maxLen := by unfold maxLen; omega
    by_cases hv : (wordB a.data.toList && wordB b.data.toList) = true
    · obtain ⟨m, hm⟩ : ∃ m, shared a.data.toList b.data.toList = m := ⟨_, rfl⟩
      have hI : sharedI a.data.toList b.data.toList = (m : Int) := by unfold sharedI; rw [if_pos hv, hm]
      have hI2 : sharedI b.data.toList a.data.toList = (m : Int) := by rw [sharedI_comm]; exact hI
      have hva : wordB a.data.toList = true := by simp at hv; exact hv.1
      have hI3 : sharedI a.data.toList a.data.toList = (a.size : Int) := by unfold sharedI; rw [hva, shared_self, len_eq]; rfl
      obtain ⟨f1, f2, f3, f4⟩ := shared_facts a.data.toList b.data.toList
      rw [hm, len_eq] at f1
      rw [hm, len_eq] at f2
      rw [hm] at f3
      rw [hm, len_eq, len_eq] at f4
      have e1 : a.extract 0 m = b.extract 0 m := bytes_ext (by rw [extract_take, extract_take, f3])
      have e2 : ((a.extract 0 m).toList == (b.extract 0 m).toList) = true := by rw [e1]; simp
      have I1 := Lib.hid hI
      have I2 := Lib.hid hI2
      have C3 := Lib.hid (show ∀ W : World, Calls Try.prog 28 #[.string a, .string a] W fun e w' => e = .returned (.int .i64 (a.size : Int)) ∧ Drawn W w' from fun W => hI3 ▸ sharedStart_impl a a W am am)
      have F4 := Lib.hid f4
      clear hI hI2 hI3 f3 f4 hm hv hva e1
      go_wp2_with fail
      refine (sharedStart_impl _ _ _ am bm).mono ?_
      rintro e w2 ⟨rfl, hd2⟩
      rw [I1.out]
      go_wp2_with fail
      refine (sharedStart_spec _ _ _ am bm).mono ?_
      rintro e w3 ⟨rfl, hd3⟩
      rw [I1.out]
      go_wp2_with fail
      refine (sharedStart_impl _ _ _ bm am).mono ?_
      rintro e w4 ⟨rfl, hd4⟩
      rw [I2.out]
      have D := Lib.hid (below_step hb1 (Nat.le_refl _) ((hd2.trans hd3).trans hd4).below)
      clear hd2 hd3 hd4 hb1
      by_cases h1 : m = a.size
      · obtain rfl : m = a.size := h1
        have e3 : (a.toList == (b.extract 0 a.size).toList) = true := by simpa using e2
        go_wp2_with fail
        go_quiet ((go_at_call 28; exact quiet_drawn (C3.out _)))
        go_wp2_with fail
        go_ret
        exact ⟨rfl, below_drewN D.out _⟩
      · have h1b : ((m : Int) == a.size) = false := by simp; omega
        have hma : (m : Int) < a.size := by omega
        by_cases h2 : m = b.size
        · obtain rfl : m = b.size := h2
          have e3 : ((a.extract 0 b.size).toList == b.toList) = true := by simpa using e2
          clear h1
          go_wp2_with fail
          go_quiet ((go_at_call 28; exact quiet_drawn (C3.out _)))
          go_wp2_with fail
          go_ret
          exact ⟨rfl, below_drewN D.out _⟩
        · have h2b : ((m : Int) == b.size) = false := by simp; omega
          have hmb : (m : Int) < b.size := by omega
          have hma' : m < a.size := by omega
          have hmb' : m < b.size := by omega
          have h3 : ((a[m].toNat : Int) == b[m].toNat) = false := by
            rw [Bool.eq_false_iff]
            intro e
            have := u8_eq e
            rcases F4.out with f | f | f
            · exact h1 f
            · exact h2 f
            · rw [get_eq a m hma', get_eq b m hmb', this] at f; exact f rfl
          have h3b : ((a[m].toNat : Int) != b[m].toNat) = true := by rw [bne, h3]; rfl
          clear h1 h2
          go_wp2_with fail
          go_quiet ((go_at_call 28; exact quiet_drawn (C3.out _)))
          go_wp2_with fail
          go_ret
          exact ⟨rfl, below_drewN D.out _⟩
    · rw [Bool.not_eq_true] at hv
      have I1 := Lib.hid (sharedI_no hv)
      have I2 := Lib.hid (sharedI_no (a := b.data.toList) (b := a.data.toList) (by rw [Bool.and_comm]; exact hv))
      clear hv
      go_wp2_with fail
      refine (sharedStart_impl _ _ _ am bm).mono ?_
      rintro e w2 ⟨rfl, hd2⟩
      rw [I1.out]
      go_wp2_with fail
      refine (sharedStart_spec _ _ _ am bm).mono ?_
      rintro e w3 ⟨rfl, hd3⟩
      rw [I1.out]
      go_wp2_with fail
      refine (sharedStart_impl _ _ _ bm am).mono ?_
      rintro e w4 ⟨rfl, hd4⟩
      rw [I2.out]
      have D := Lib.hid (below_step hb1 (Nat.le_refl _) ((hd2.trans hd3).trans hd4).below)
      clear hd2 hd3 hd4 hb1
      go_wp2_with fail
      refine (alive_any _).mono ?_
      rintro e w5 ⟨rfl, hd5⟩
      go_wp2_with fail
      go_ret
      exact ⟨rfl, below_step D.out (Nat.le_refl _) hd5.below⟩
end Go.Proofs.Ytmlokccdgajamaa
