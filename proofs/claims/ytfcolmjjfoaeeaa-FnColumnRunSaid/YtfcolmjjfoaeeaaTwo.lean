/- The drawing of two words (l20Two); shared letters at the beginning. -/
import Derived.Test.YtfcolmjjfoaeeaaWordDraw
import Derived.Test.YtfcolmjjfoaeeaaShared
namespace Go.Proofs.Ytfcolmjjfoaeeaa
open Go.RowKit
set_option maxHeartbeats 800000
set_option linter.unusedSimpArgs false
set_option linter.unusedVariables false

def TwoPost (b p : Nat) (w : World) (e : Ending) (w' : World) : Prop :=
  ∃ s t : ByteArray, e = .returned (.tuple #[.string s, .string t]) ∧ s.size ≤ 13 ∧ t.size ≤ 13 ∧ Drew b p 120 w w'

theorem two_any (b p : Nat) (n : Int) (w : World) (hr : Rd w b p) (hp : p ≤ 700000) (hn0 : 0 ≤ n) (hn : n ≤ 1000) :
    Calls Try.prog 34 #[.pointer (some ⟨b, 0, none⟩), .int .i64 n] w (TwoPost b p w) := by
  go_enter Try.func34, Try.ntmps34
  go_wp2_with fail
  refine (word_any b p _ _ hr (by omega) hn0 hn).mono ?_
  rintro e w1 ⟨s, rfl, hs, hd1⟩
  obtain ⟨q1, hq1a, hq1b, g1⟩ := (Got.refl hr).step hd1
  clear hd1 hr
  go_wp2_with fail
  refine (word_any b q1 _ _ g1.rd (by omega) hn0 hn).mono ?_
  rintro e w2 ⟨t, rfl, ht, hd2⟩
  obtain ⟨q2, hq2a, hq2b, g2⟩ := g1.step hd2
  clear hd2 g1
  have hsm : s.size ≤ maxLen := by unfold maxLen; omega
  cases hv : wordB s.data.toList
  · have C := Lib.hid (wordValid_spec_is hv)
    clear hv
    go_wp2_with fail
    refine (C.out _ hsm).mono ?_
    rintro e w' ⟨rfl, rfl⟩
    go_wp2_with fail
    go_ret2
    exact ⟨s, t, rfl, hs, ht, g2.done (by omega)⟩
  · have C := Lib.hid (wordValid_spec_is hv)
    clear hv
    go_wp2_with fail
    refine (C.out _ hsm).mono ?_
    rintro e w' ⟨rfl, rfl⟩
    go_wp2_with fail
    refine (pick_any b q2 _ _ g2.rd (by omega) (by omega)).mono ?_
    rintro e w3 ⟨v3, rfl, h30, h31, -, hd3⟩
    have h31 := h31 (by omega)
    obtain ⟨q3, hq3a, hq3b, g3⟩ := g2.step hd3
    clear hd3 g2 C
    by_cases hv3 : 0 < v3
    · go_wp2_with fail
      refine (pick_any b q3 _ _ g3.rd (by omega) (by omega)).mono ?_
      rintro e w4 ⟨v4, rfl, h40, h41, -, hd4⟩
      have h41 := h41 (by omega)
      obtain ⟨q4, hq4a, hq4b, g4⟩ := g3.step hd4
      obtain ⟨v4, rfl⟩ := Int.eq_ofNat_of_zero_le h40
      clear hd4 g3
      go_wp2_with fail
      go_loopw [7, 8] (fun x y wr => ∃ (t : ByteArray) (k q : Nat), x = .string t ∧ y = .int .i64 k ∧ t.size ≤ 13 ∧ k ≤ 4 ∧ q + 5 * k ≤ p + 110 ∧ Got w b p q wr) (fun _ y _ => (intOf y).toNat)
      case atStart => exact ⟨_, _, _, rfl, rfl, hs, by omega, by omega, g4⟩
      case round =>
        obtain ⟨t', k, q, rfl, rfl, ht', hk, hq, hgot⟩ := hrel
        by_cases hk0 : 0 < k
        · go_wp2_with fail
          refine (bend_any b q _ _ hgot.rd (by omega) (by omega)).mono ?_
          rintro e w5 ⟨t5, rfl, ht5, hd5⟩
          obtain ⟨q5, hq5a, hq5b, g5⟩ := hgot.step hd5
          obtain ⟨k, rfl⟩ : ∃ m, k = m + 1 := ⟨k - 1, by omega⟩
          clear hd5 hgot
          go_wp2_with fail
          go_roundw
          case rel => exact ⟨t5, k, q5, rfl, by go_num, by omega, by omega, by omega, g5⟩
          case measure => simp [intOf]
        · go_wp2_with fail
          go_ret2
          exact ⟨s, t', rfl, hs, ht', hgot.done (by omega)⟩
    · go_wp2_with fail
      go_ret2
      exact ⟨s, t, rfl, hs, ht, g3.done (by omega)⟩
def TextsPost (w : World) (e : Ending) (w' : World) : Prop :=
  ∃ s t : ByteArray, e = .returned (.tuple #[.string s, .string t]) ∧ s.size ≤ 13 ∧ t.size ≤ 13 ∧ Below w.heap.size w w'
theorem shared_comm : ∀ l m, shared l m = shared m l
  | [], [] => rfl
  | [], _ :: _ => rfl
  | _ :: _, [] => rfl
  | a :: l, b :: m => by
    simp only [shared]
    rw [shared_comm l m]
    by_cases h : a = b
    · rw [if_pos h, if_pos h.symm]
    · rw [if_neg h, if_neg (fun e => h e.symm)]
theorem shared_self : ∀ l, shared l l = l.length
  | [] => rfl
  | a :: l => by simp [shared, shared_self l]
theorem sharedI_comm (l m : List UInt8) : sharedI l m = sharedI m l := by unfold sharedI; rw [shared_comm, Bool.and_comm]
theorem shared_facts : ∀ l m : List UInt8, shared l m ≤ l.length ∧ shared l m ≤ m.length ∧ l.take (shared l m) = m.take (shared l m) ∧ (shared l m = l.length ∨ shared l m = m.length ∨ l[shared l m]? ≠ m[shared l m]?)
  | [], m => by simp [shared]
  | a :: l, [] => by simp [shared]
  | a :: l, b :: m => by
    by_cases h : a = b
    · subst h
      obtain ⟨h1, h2, h3, h4⟩ := shared_facts l m
      simp only [shared, if_pos]
      simp [h1, h2, h3]
      simpa using h4
    · simp [shared, h]
theorem extract_take (s : ByteArray) (k : Nat) : (s.extract 0 k).data.toList = s.data.toList.take k := by simp

end Go.Proofs.Ytfcolmjjfoaeeaa
