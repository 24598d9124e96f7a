/- The drawing of a list and a word (l20Pick). -/
import Derived.Test.YtmolphaihapkkaaLwList
namespace Go.Proofs.Ytmolphaihapkkaa
open Go.RowKit
set_option maxHeartbeats 1600000
set_option linter.unusedSimpArgs false
set_option linter.unusedVariables false

def PickListPost (b p d k : Nat) (w : World) (e : Ending) (w' : World) : Prop :=
  ∃ g m cap l s, e = .returned (.tuple #[.slice (some ⟨g, 0, none⟩) m cap, .string s]) ∧ OwnS w' w.heap.size g m cap l ∧ m ≤ k ∧ Short 13 l ∧ s.size ≤ 13 ∧ Drew b p d w w'

theorem pickList_any (b p : Nat) (n : Int) (w : World) (hr : Rd w b p) (hp : p ≤ 400000) (hn0 : 0 ≤ n) (hn : n ≤ 1000) :
    Calls Try.prog 50 #[.pointer (some ⟨b, 0, none⟩), .int .i64 n] w (PickListPost b p 800 62 w) := by
  have hbl := hr.lt
  go_enter Try.func50, Try.ntmps50
  go_wp2_with fail
  refine (list_any b p _ _ hr (by omega) (by omega) (by omega)).mono ?_
  rintro e w1 ⟨g, m, cap, l, rfl, hown, hm, hsh, hd1⟩
  obtain ⟨q1, hq1a, hq1b, got1⟩ := (Got.refl hr).step hd1
  clear hd1 hr
  go_wp2_with fail
  refine (word_any b q1 _ _ got1.rd (by omega) hn0 hn).mono ?_
  rintro e w2 ⟨s, rfl, hs, hd2⟩
  have own2 := hown.drew hd2 hbl
  obtain ⟨q2, hq2a, hq2b, got2⟩ := got1.step hd2
  clear hd2 hown got1
  by_cases hm0 : 0 < m
  · go_wp2_with fail
    refine (pick_any b q2 _ _ got2.rd (by omega) (by omega)).mono ?_
    rintro e w3 ⟨v3, rfl, h30, h31, -, hd3⟩
    have h31 := h31 (by omega)
    have own3 := own2.drew hd3 hbl
    obtain ⟨q3, hq3a, hq3b, got3⟩ := got2.step hd3
    clear hd3 own2 got2
    by_cases hv3 : 0 < v3
    · go_wp2_with fail
      refine (pick_any b q3 _ _ got3.rd (by omega) (by omega)).mono ?_
      rintro e w4 ⟨v4, rfl, h40, h41, -, hd4⟩
      have h41 := h41 (by omega)
      have own4 := own3.drew hd4 hbl
      obtain ⟨q4, hq4a, hq4b, got4⟩ := got3.step hd4
      obtain ⟨v4, rfl⟩ := Int.eq_ofNat_of_zero_le h40
      clear hd4 got3 own3
      obtain ⟨bb, oo, z, he, _, hz, _, hcz⟩ := own4.strs.at_ (k := v4) (by omega)
      injection he with he; injection he with e1 e2; subst e1; subst e2
      rw [Nat.zero_add] at hcz
      have hz13 := hsh z (List.mem_of_getElem? hz)
      clear hz
      go_wp2_with fail
      refine (pick_any b q4 _ _ got4.rd (by omega) (by omega)).mono ?_
      rintro e w5 ⟨v5, rfl, h50, h51, -, hd5⟩
      have h51 := h51 (by omega)
      have own5 := own4.drew hd5 hbl
      obtain ⟨q5, hq5a, hq5b, got5⟩ := got4.step hd5
      obtain ⟨v5, rfl⟩ := Int.eq_ofNat_of_zero_le h50
      clear hd5 got4 own4 hcz
      go_wp2_with fail
      go_loopw [7, 8] (fun x y wr => ∃ (t : ByteArray) (k q : Nat), x = .string t ∧ y = .int .i64 k ∧ t.size ≤ 13 ∧ k ≤ 2 ∧ q + 5 * k ≤ p + 790 ∧ OwnS wr w.heap.size g m cap l ∧ Got w b p q wr) (fun _ y _ => (intOf y).toNat)
      case atStart => exact ⟨_, _, _, rfl, rfl, hz13, by omega, by omega, own5, got5⟩
      case round =>
        obtain ⟨t, k, q, rfl, rfl, ht, hk, hq, hown, hgot⟩ := hrel
        have htm : t.size ≤ maxLen := by unfold maxLen; omega
        by_cases hk0 : 0 < k
        · cases hv : wordB t.data.toList
          · have C := Lib.hid (wordValid_spec_is hv)
            clear hv
            go_wp2_with fail
            refine (C.out _ htm).mono ?_
            rintro e w' ⟨rfl, rfl⟩
            go_wp2_with fail
            go_ret2
            exact ⟨g, m, cap, l, t, rfl, hown, hm, hsh, ht, hgot.done (by omega)⟩
          · have C := Lib.hid (wordValid_spec_is hv)
            clear hv
            go_wp2_with fail
            refine (C.out _ htm).mono ?_
            rintro e w' ⟨rfl, rfl⟩
            go_wp2_with fail
            refine (bend_any b q _ _ hgot.rd (by omega) (by omega)).mono ?_
            rintro e w6 ⟨t', rfl, ht', hd6⟩
            have own6 := hown.drew hd6 hbl
            obtain ⟨q6, hq6a, hq6b, got6⟩ := hgot.step hd6
            obtain ⟨k, rfl⟩ : ∃ j, k = j + 1 := ⟨k - 1, by omega⟩
            clear hd6 hgot hown
            go_wp2_with fail
            go_roundw
            case rel => exact ⟨t', k, q6, rfl, by go_num, by omega, by omega, by omega, own6, got6⟩
            case measure => simp [intOf]
        · go_wp2_with fail
          go_ret2
          exact ⟨g, m, cap, l, t, rfl, hown, hm, hsh, ht, hgot.done (by omega)⟩
    · go_wp2_with fail
      go_ret2
      exact ⟨g, m, cap, l, s, rfl, own3, hm, hsh, hs, got3.done (by omega)⟩
  · have hm0' : (m : Int) ≤ 0 := by omega
    clear hm0
    go_wp2_with fail
    go_ret2
    exact ⟨g, m, cap, l, s, rfl, own2, hm, hsh, hs, got2.done (by omega)⟩
def ListWordPost (k : Nat) (w : World) (e : Ending) (w' : World) : Prop :=
  ∃ g m cap l s, e = .returned (.tuple #[.slice (some ⟨g, 0, none⟩) m cap, .string s]) ∧ OwnS w' w.heap.size g m cap l ∧ m ≤ k ∧ Short 13 l ∧ s.size ≤ 13 ∧ Below w.heap.size w w'
end Go.Proofs.Ytmolphaihapkkaa
