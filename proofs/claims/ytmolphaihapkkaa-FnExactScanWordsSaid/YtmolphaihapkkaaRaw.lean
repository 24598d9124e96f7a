/- Contracts of the laws' drawing of lists: l20Raw. -/
import Derived.Test.YtmolphaihapkkaaWordDraw
import Derived.Test.YtmolphaihapkkaaSpecListOf
namespace Go.Proofs.Ytmolphaihapkkaa
open Go.RowKit
set_option maxHeartbeats 800000
set_option linter.unusedSimpArgs false
set_option linter.unusedVariables false

theorem Got.own {w wr w' : World} {b p q g : Nat} (h : Got w b p q wr) (hg : wr.grownBy w' (some g)) (hb : b < g) (hw : w.heap.size ≤ g) : Got w b p q w' :=
  ⟨⟨hg.os.trans h.1.os, hg.tape.trans h.1.tape, hg.output.trans h.1.output, Nat.le_trans h.1.size hg.size, fun i hi hne => (hg.block i (Nat.lt_of_lt_of_le hi h.1.size) (fun e => by injection e; omega)).trans (h.1.block i hi hne)⟩,
    h.2.1, h.2.2.grown hg (fun k hk => by injection hk; omega)⟩
theorem Got.size {w wr : World} {b p q : Nat} (h : Got w b p q wr) : w.heap.size ≤ wr.heap.size := h.1.size
theorem OwnS.drew {wr w' : World} {base g m cap b q d : Nat} {l : List ByteArray} (h : OwnS wr base g m cap l) (hd : Drew b q d wr w') (hb : b < base) : OwnS w' base g m cap l :=
  h.grown hd.1 (by have := h.lt; omega)
/-- all texts of a list have at most k bytes -/
def Short (k : Nat) (l : List ByteArray) : Prop := ∀ s ∈ l, s.size ≤ k
theorem Short.snoc {k : Nat} {l : List ByteArray} {s : ByteArray} (h : Short k l) (hs : s.size ≤ k) : Short k (l ++ [s]) := by
  intro t ht
  rcases List.mem_append.1 ht with h1 | h1
  · exact h t h1
  · rw [List.mem_singleton.1 h1]; exact hs

def RawPost (b p d k : Nat) (w : World) (e : Ending) (w' : World) : Prop :=
  ∃ g m cap l, e = .returned (.slice (some ⟨g, 0, none⟩) m cap) ∧ OwnS w' w.heap.size g m cap l ∧ m ≤ k ∧ Short 13 l ∧ Drew b p d w w'

/-- the length in a slice's slot -/
def lenOf : Value → Nat | .slice _ n _ => n | _ => 0

theorem raw_any (b p : Nat) (n : Int) (w : World) (hr : Rd w b p) (hp : p ≤ 600000) (hn0 : 0 ≤ n) (hn : n ≤ 1000) :
    Calls Try.prog 83 #[.pointer (some ⟨b, 0, none⟩), .int .i64 n] w (RawPost b p 700 61 w) := by
  have hbl := hr.lt
  go_enter Try.func83, Try.ntmps83
  go_wp2_with fail
  have own0 := OwnS.empty w
  have got0 := (Got.refl hr).alloc (.cells #[] 9)
  refine (pick_any b p _ _ got0.rd (by omega) (by omega)).mono ?_
  rintro e w1 ⟨v1, rfl, h10, h11, -, hd1⟩
  have h11 := h11 (by omega)
  have own1 := own0.drew hd1 hbl
  obtain ⟨q1, hq1a, hq1b, got1⟩ := got0.step hd1
  obtain ⟨v1, rfl⟩ := Int.eq_ofNat_of_zero_le h10
  clear hd1 got0 own0
  go_wp2_with fail
  go_loopw [5, 6] (fun v y wr => ∃ (k q g m cap : Nat) (l : List ByteArray), v = .slice (some ⟨g, 0, none⟩) m cap ∧ y = .int .i64 k ∧ m + k ≤ 11 ∧ OwnS wr w.heap.size g m cap l ∧ q + 50 * k ≤ p + 560 ∧ Short 13 l ∧ Got w b p q wr ∧ p ≤ q) (fun _ y _ => (intOf y).toNat)
  case atStart => exact ⟨v1, q1, _, 0, _, [], rfl, rfl, by omega, own1, by omega, fun s hs => (by simp at hs), got1, by omega⟩
  case round =>
    obtain ⟨k, q, g, m, cap, l, rfl, rfl, hmk, hown, hqk, hsh, hgot, hpq⟩ := hrel
    have hgl := hown.lt
    by_cases hk0 : 0 < k
    · obtain ⟨k, rfl⟩ : ∃ j, k = j + 1 := ⟨k - 1, by omega⟩
      go_wp2_with fail
      refine (word_any b q _ _ hgot.rd (by omega) (by omega) (by omega)).mono ?_
      rintro e w2 ⟨s, rfl, hs, hd2⟩
      have own2 := hown.drew hd2 hbl
      obtain ⟨q2, hq2a, hq2b, got2⟩ := hgot.step hd2
      clear hd2 hgot hown
      by_cases hm0 : 0 < m
      · go_wp2_with fail
        refine (pick_any b q2 _ _ got2.rd (by omega) (by omega)).mono ?_
        rintro e w3 ⟨v3, rfl, h30, h31, -, hd3⟩
        have h31 := h31 (by omega)
        have own3 := own2.drew hd3 hbl
        obtain ⟨q3, hq3a, hq3b, got3⟩ := got2.step hd3
        clear hd3 got2 own2
        by_cases hv3 : v3 = 0
        · subst hv3
          go_wp2_with fail
          refine (pick_any b q3 _ _ got3.rd (by omega) (by omega)).mono ?_
          rintro e w4 ⟨v4, rfl, h40, h41, -, hd4⟩
          have h41 := h41 (by omega)
          have own4 := own3.drew hd4 hbl
          obtain ⟨q4, hq4a, hq4b, got4⟩ := got3.step hd4
          obtain ⟨v4, rfl⟩ := Int.eq_ofNat_of_zero_le h40
          clear hd4 got3 own3
          obtain ⟨bb, oo, z, he, _, hz, _, hcz⟩ := own4.strs.at_ (k := v4) (by omega)
          injection he with he; injection he with e1 e2; subst e1; subst e2
          rw [Nat.zero_add] at hcz
          have hz13 := hsh z (List.mem_of_getElem? hz)
          clear hz
          go_wp2_with fail
          refine (bend_any b q4 _ _ got4.rd (by omega) (by omega)).mono ?_
          rintro e w5 ⟨s5, rfl, hs5, hd5⟩
          have own5 := own4.drew hd5 hbl
          obtain ⟨q5, hq5a, hq5b, got5⟩ := got4.step hd5
          have hs5' : s5.size ≤ 13 := by omega
          clear hd5 got4 own4 hcz hs5
          have hsm : s5.size ≤ maxLen := by unfold maxLen; omega
          cases hem : s5.toList.isEmpty
          · go_wp2_with (first
              | (at_builtin
                 refine wp_append_texts rfl (.tmp 36) (.tmp 38) rfl w.heap.size (_ + 1) g m cap 1 1 l [s5] _ rfl (own5.below ((Below.refl _ _).alloc (Nat.le_refl _) _)) rfl (Strs.one _ _ hsm) (by have := got5.size; simp; omega) (by omega) ?_
                 intro yg ycap yw yown ygr yat
                 have ylt := yown.lt
                 have yglt := own5.lt
                 have ygot := (got5.alloc _).own ygr (by omega) (by omega)))
            go_roundw
            case rel => exact ⟨k, q5, yg, m + 1, ycap, l ++ [s5], rfl, by go_num, by omega, yown, by omega, hsh.snoc (by omega), ygot, by omega⟩
            case measure => simp [intOf]
          · have hx1 : (ByteArray.mk #[120]).size ≤ maxLen := by decide
            go_wp2_with (first
              | (at_builtin
                 refine wp_append_texts rfl (.tmp 36) (.tmp 38) rfl w.heap.size (_ + 1) g m cap 1 1 l [(ByteArray.mk #[120])] _ rfl (own5.below ((Below.refl _ _).alloc (Nat.le_refl _) _)) rfl (Strs.one _ _ hx1) (by have := got5.size; simp; omega) (by omega) ?_
                 intro yg ycap yw yown ygr yat
                 have ylt := yown.lt
                 have yglt := own5.lt
                 have ygot := (got5.alloc _).own ygr (by omega) (by omega)))
            go_roundw
            case rel => exact ⟨k, q5, yg, m + 1, ycap, l ++ [ByteArray.mk #[120]], rfl, by go_num, by omega, yown, by omega, hsh.snoc (by decide), ygot, by omega⟩
            case measure => simp [intOf]
        · have hv3b : (v3 == 0) = false := by simp; omega
          have hsm : s.size ≤ maxLen := by unfold maxLen; omega
          cases hem : s.toList.isEmpty
          · go_wp2_with (first
              | (at_builtin
                 refine wp_append_texts rfl (.tmp 36) (.tmp 38) rfl w.heap.size (_ + 1) g m cap 1 1 l [s] _ rfl (own3.below ((Below.refl _ _).alloc (Nat.le_refl _) _)) rfl (Strs.one _ _ hsm) (by have := got3.size; simp; omega) (by omega) ?_
                 intro yg ycap yw yown ygr yat
                 have ylt := yown.lt
                 have yglt := own3.lt
                 have ygot := (got3.alloc _).own ygr (by omega) (by omega)))
            go_roundw
            case rel => exact ⟨k, q3, yg, m + 1, ycap, l ++ [s], rfl, by go_num, by omega, yown, by omega, hsh.snoc (by omega), ygot, by omega⟩
            case measure => simp [intOf]
          · have hx1 : (ByteArray.mk #[120]).size ≤ maxLen := by decide
            go_wp2_with (first
              | (at_builtin
                 refine wp_append_texts rfl (.tmp 36) (.tmp 38) rfl w.heap.size (_ + 1) g m cap 1 1 l [(ByteArray.mk #[120])] _ rfl (own3.below ((Below.refl _ _).alloc (Nat.le_refl _) _)) rfl (Strs.one _ _ hx1) (by have := got3.size; simp; omega) (by omega) ?_
                 intro yg ycap yw yown ygr yat
                 have ylt := yown.lt
                 have yglt := own3.lt
                 have ygot := (got3.alloc _).own ygr (by omega) (by omega)))
            go_roundw
            case rel => exact ⟨k, q3, yg, m + 1, ycap, l ++ [ByteArray.mk #[120]], rfl, by go_num, by omega, yown, by omega, hsh.snoc (by decide), ygot, by omega⟩
            case measure => simp [intOf]
      · have hm0' : (m : Int) ≤ 0 := by omega
        clear hm0
        have hsm : s.size ≤ maxLen := by unfold maxLen; omega
        cases hem : s.toList.isEmpty
        · go_wp2_with (first
            | (at_builtin
               refine wp_append_texts rfl (.tmp 36) (.tmp 38) rfl w.heap.size (_ + 1) g m cap 1 1 l [s] _ rfl (own2.below ((Below.refl _ _).alloc (Nat.le_refl _) _)) rfl (Strs.one _ _ hsm) (by have := got2.size; simp; omega) (by omega) ?_
               intro yg ycap yw yown ygr yat
               have ylt := yown.lt
               have yglt := own2.lt
               have ygot := (got2.alloc _).own ygr (by omega) (by omega)))
          go_roundw
          case rel => exact ⟨k, q2, yg, m + 1, ycap, l ++ [s], rfl, by go_num, by omega, yown, by omega, hsh.snoc (by omega), ygot, by omega⟩
          case measure => simp [intOf]
        · have hx1 : (ByteArray.mk #[120]).size ≤ maxLen := by decide
          go_wp2_with (first
            | (at_builtin
               refine wp_append_texts rfl (.tmp 36) (.tmp 38) rfl w.heap.size (_ + 1) g m cap 1 1 l [(ByteArray.mk #[120])] _ rfl (own2.below ((Below.refl _ _).alloc (Nat.le_refl _) _)) rfl (Strs.one _ _ hx1) (by have := got2.size; simp; omega) (by omega) ?_
               intro yg ycap yw yown ygr yat
               have ylt := yown.lt
               have yglt := own2.lt
               have ygot := (got2.alloc _).own ygr (by omega) (by omega)))
          go_roundw
          case rel => exact ⟨k, q2, yg, m + 1, ycap, l ++ [ByteArray.mk #[120]], rfl, by go_num, by omega, yown, by omega, hsh.snoc (by decide), ygot, by omega⟩
          case measure => simp [intOf]
    · obtain rfl : k = 0 := by omega
      go_wp2_with fail
      refine (odd_any b q _ _ hgot.rd (by omega) (by omega) (by omega)).mono ?_
      rintro e w6 ⟨v6, rfl, -, hd6⟩
      have own6 := hown.drew hd6 hbl
      obtain ⟨q6, hq6a, hq6b, got6⟩ := hgot.step hd6
      clear hd6 hgot hown
      cases v6
      · go_wp2_with fail
        go_ret
        exact ⟨g, m, cap, l, rfl, own6, by omega, hsh, got6.done (by omega)⟩
      · go_wp2_with fail
        refine (pick_any b q6 _ _ got6.rd (by omega) (by omega)).mono ?_
        rintro e w7 ⟨v7, rfl, h70, h71, -, hd7⟩
        have h71 := h71 (by omega)
        have own7 := own6.drew hd7 hbl
        obtain ⟨q7, hq7a, hq7b, got7⟩ := got6.step hd7
        clear hd7 got6 own6
        by_cases hv0 : v7 = 0
        · subst hv0
          have hx0 : (ByteArray.mk #[]).size ≤ maxLen := by decide
          go_wp2_with (first
            | (at_builtin
               refine wp_append_texts rfl (.tmp 53) (.tmp 54) rfl w.heap.size (_ + 1) g m cap 1 1 l [(ByteArray.mk #[])] _ rfl (own7.below ((Below.refl _ _).alloc (Nat.le_refl _) _)) rfl (Strs.one _ _ hx0) (by have := got7.size; simp; omega) (by omega) ?_
               intro yg ycap yw yown ygr yat
               have ylt := yown.lt
               have yglt := own7.lt
               have ygot := (got7.alloc _).own ygr (by omega) (by omega)))
          go_ret
          exact ⟨yg, m + 1, ycap, l ++ [ByteArray.mk #[]], rfl, yown, by omega, hsh.snoc (by decide), ygot.done (by omega)⟩
        · by_cases hv1 : v7 = 1
          · subst hv1
            go_wp2_with fail
            refine (word_any b q7 _ _ got7.rd (by omega) (by omega) (by omega)).mono ?_
            rintro e w8 ⟨s8, rfl, hs8, hd8⟩
            have own8 := own7.drew hd8 hbl
            obtain ⟨q8, hq8a, hq8b, got8⟩ := got7.step hd8
            have hsm : s8.size ≤ maxLen := by unfold maxLen; omega
            clear hd8 got7 own7
            go_wp2_with (first
              | (at_builtin
                 refine wp_append_texts rfl (.tmp 58) (.tmp 61) rfl w.heap.size (_ + 1) g m cap 1 1 l [s8] _ rfl (own8.below ((Below.refl _ _).alloc (Nat.le_refl _) _)) rfl (Strs.one _ _ hsm) (by have := got8.size; simp; omega) (by omega) ?_
                 intro yg ycap yw yown ygr yat
                 have ylt := yown.lt
                 have yglt := own8.lt
                 have ygot := (got8.alloc _).own ygr (by omega) (by omega)))
            go_ret
            exact ⟨yg, m + 1, ycap, l ++ [s8], rfl, yown, by omega, hsh.snoc hs8, ygot.done (by omega)⟩
          · obtain rfl : v7 = 2 := by omega
            have hx3 : (ByteArray.mk #[97, 98, 99]).size ≤ maxLen := by decide
            go_wp2_with fail
            go_loopw [5] (fun v wr => ∃ (g m cap : Nat) (l : List ByteArray), v = .slice (some ⟨g, 0, none⟩) m cap ∧ m ≤ 61 ∧ OwnS wr w.heap.size g m cap l ∧ Short 13 l ∧ Got w b p q7 wr) (fun v _ => 61 - lenOf v)
            case atStart => exact ⟨g, m, cap, l, rfl, by omega, own7, hsh, got7⟩
            case round =>
              obtain ⟨g, m, cap, l, rfl, hm61, hown, hsh, hgot⟩ := hrel
              have hgl := hown.lt
              by_cases hm60 : m ≤ 60
              · go_wp2_with (first
                  | (at_builtin
                     refine wp_append_texts rfl (.tmp 48) (.tmp 49) rfl w.heap.size (_ + 1) g m cap 1 1 l [(ByteArray.mk #[97, 98, 99])] _ rfl (hown.below ((Below.refl _ _).alloc (Nat.le_refl _) _)) rfl (Strs.one _ _ hx3) (by have := hgot.size; simp; omega) (by omega) ?_
                     intro yg ycap yw yown ygr yat
                     have ylt := yown.lt
                     have yglt := hown.lt
                     have ygot := (hgot.alloc _).own ygr (by omega) (by omega)))
                go_roundw
                case rel => exact ⟨yg, m + 1, ycap, l ++ [ByteArray.mk #[97, 98, 99]], rfl, by omega, yown, hsh.snoc (by decide), ygot⟩
                case measure => simp [lenOf]; omega
              · go_wp2_with fail
                go_ret
                exact ⟨g, m, cap, l, rfl, hown, by omega, hsh, hgot.done (by omega)⟩
end Go.Proofs.Ytmolphaihapkkaa
