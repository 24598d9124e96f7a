/- Contracts of the laws' drawing of lists: l20List, l20Pick; that ListOf has no other texts. -/
import Derived.Test.YtmolphaihapkkaaRaw
import Derived.Test.YtmolphaihapkkaaLwWord
namespace Go.Proofs.Ytmolphaihapkkaa
open Go.RowKit
set_option maxHeartbeats 800000
set_option linter.unusedSimpArgs false
set_option linter.unusedVariables false

theorem mem_insOf {x y : ByteArray} {l : List ByteArray} (h : y ∈ insOf x l) : y = x ∨ y ∈ l := by
  unfold insOf at h
  split at h
  · exact .inr h
  · rcases List.mem_append.1 h with h | h
    · rcases List.mem_append.1 h with h | h
      · exact .inr (List.mem_of_mem_take h)
      · exact .inl (List.mem_singleton.1 h)
    · exact .inr (List.mem_of_mem_drop h)
theorem foldIns_facts : ∀ (ss l : List ByteArray), (∀ y ∈ ss.foldl (fun l x => insOf x l) l, y ∈ ss ∨ y ∈ l) ∧ (ss.foldl (fun l x => insOf x l) l).length ≤ ss.length + l.length
  | [], l => ⟨fun y hy => .inr hy, by simp⟩
  | x :: ss, l => by
    obtain ⟨h1, h2⟩ := foldIns_facts ss (insOf x l)
    refine ⟨fun y hy => ?_, ?_⟩
    · rcases h1 y hy with h | h
      · exact .inl (List.mem_cons_of_mem _ h)
      · rcases mem_insOf h with h | h
        · exact .inl (by rw [h]; exact List.mem_cons_self)
        · exact .inr h
    · have := insOf_len x l
      simp only [List.foldl_cons, List.length_cons]
      omega
theorem listOf_mem {ss : List ByteArray} {y : ByteArray} (h : y ∈ listOfB ss) : y ∈ ss := by
  unfold listOfB at h
  split at h
  · rcases (foldIns_facts ss []).1 y h with h | h
    · exact h
    · cases h
  · cases h
theorem listOf_len (ss : List ByteArray) : (listOfB ss).length ≤ ss.length := by
  unfold listOfB
  split
  · have := (foldIns_facts ss []).2; simpa [foldIns] using this
  · simp

theorem list_any (b p : Nat) (n : Int) (w : World) (hr : Rd w b p) (hp : p ≤ 500000) (hn0 : 0 ≤ n) (hn : n ≤ 1000) :
    Calls Try.prog 72 #[.pointer (some ⟨b, 0, none⟩), .int .i64 n] w (RawPost b p 710 62 w) := by
  have hbl := hr.lt
  go_enter Try.func72, Try.ntmps72
  go_wp2_with fail
  refine (raw_any b p _ _ hr (by omega) (by omega) (by omega)).mono ?_
  rintro e w1 ⟨g, m, cap, l, rfl, hown, hm, hsh, hd1⟩
  obtain ⟨q1, hq1a, hq1b, got1⟩ := (Got.refl hr).step hd1
  have hs1 := hown.strs
  have hm1 : m ≤ maxLen := by unfold maxLen; omega
  have hlen := listOf_len l
  rw [hown.len] at hlen
  have hsh' : Short 13 (listOfB l) := fun s hs => hsh s (listOf_mem hs)
  clear hd1 hr hown hsh
  go_wp2_with fail
  refine (listOf_spec _ _ _ w1.heap.size l _ hm1 hs1 (Nat.le_refl _)).mono ?_
  rintro e w2 ⟨g, m, cap, rfl, hown, hb2⟩
  generalize listOfB l = l at hown hlen hsh'
  have hown2 := hown.mono got1.size
  have hlm := hown.len
  have hm2 : m ≤ 61 := by omega
  have got2 := got1.below hb2
  clear hs1 hb2 hlen hown hlm got1
  go_wp2_with fail
  refine (odd_any b q1 _ _ got2.rd (by omega) (by omega) (by omega)).mono ?_
  rintro e w3 ⟨v3, rfl, -, hd3⟩
  have own3 := hown2.drew hd3 hbl
  obtain ⟨q3, hq3a, hq3b, got3⟩ := got2.step hd3
  clear hd3 got2 hown2
  cases v3
  · go_wp2_with fail
    go_ret
    exact ⟨g, m, cap, l, rfl, own3, by omega, hsh', got3.done (by omega)⟩
  · go_wp2_with fail
    refine (pick_any b q3 _ _ got3.rd (by omega) (by omega)).mono ?_
    rintro e w4 ⟨v4, rfl, h40, h41, -, hd4⟩
    have h41 := h41 (by omega)
    have own4 := own3.drew hd4 hbl
    obtain ⟨q4, hq4a, hq4b, got4⟩ := got3.step hd4
    clear hd4 got3 own3
    have hx0 : (ByteArray.mk #[97]).size ≤ maxLen := by decide
    have hx1 : (ByteArray.mk #[]).size ≤ maxLen := by decide
    have hx2 : (ByteArray.mk #[122, 122, 65]).size ≤ maxLen := by decide
    have hz4 := got4.size
    have hgl := own4.lt
    by_cases hv0 : v4 = 0
    · subst hv0
      go_wp2_with (first
        | (at_builtin
           refine wp_append_texts rfl (.tmp 19) (.tmp 20) rfl w.heap.size (_ + 1) g m cap 1 1 l [ByteArray.mk #[97]] _ rfl (own4.below ((Below.refl _ _).alloc (Nat.le_refl _) _)) rfl (Strs.one _ _ hx0) (by simp; omega) (by omega) ?_
           intro yg ycap yw yown ygr yat
           have ylt := yown.lt
           have ygot := (got4.alloc _).own ygr (by omega) (by omega)))
      go_ret
      exact ⟨yg, m + 1, ycap, l ++ [ByteArray.mk #[97]], rfl, yown, by omega, hsh'.snoc (by decide), ygot.done (by omega)⟩
    · by_cases hv1 : v4 = 1
      · subst hv1
        have hsl := own4.strs.below ((Below.refl _ _).alloc (Nat.le_refl _) (.cells #[.string ⟨#[]⟩] 9))
        go_wp2_with (first
          | (at_builtin
             refine wp_append_texts rfl (.tmp 24) (.tmp 25) rfl w.heap.size w4.heap.size w4.heap.size 1 1 m cap [ByteArray.mk #[]] l _ rfl ((OwnS.lit w4 _ hx1).mono hz4) rfl hsl (by simp; omega) (by omega) ?_
             intro yg ycap yw yown ygr yat
             have ylt := yown.lt
             have ygot := (got4.alloc _).own ygr (by have := got4.rd.lt; omega) (by omega)))
        go_ret
        exact ⟨yg, 1 + m, ycap, [ByteArray.mk #[]] ++ l, rfl, yown, by omega, fun s hs => by
          rcases List.mem_append.1 hs with h | h
          · rw [List.mem_singleton.1 h]; decide
          · exact hsh' s h, ygot.done (by omega)⟩
      · obtain rfl : v4 = 2 := by omega
        go_wp2_with (first
          | (at_builtin
             refine wp_append_texts rfl (.tmp 14) (.tmp 15) rfl w.heap.size (_ + 1) g m cap 1 1 l [ByteArray.mk #[122, 122, 65]] _ rfl (own4.below ((Below.refl _ _).alloc (Nat.le_refl _) _)) rfl (Strs.one _ _ hx2) (by simp; omega) (by omega) ?_
             intro yg ycap yw yown ygr yat
             have ylt := yown.lt
             have ygot := (got4.alloc _).own ygr (by omega) (by omega)))
        go_ret
        exact ⟨yg, m + 1, ycap, l ++ [ByteArray.mk #[122, 122, 65]], rfl, yown, by omega, hsh'.snoc (by decide), ygot.done (by omega)⟩

/-- a drawn list -/
def ListPost (k : Nat) (w : World) (e : Ending) (w' : World) : Prop :=
  ∃ g m cap l, e = .returned (.slice (some ⟨g, 0, none⟩) m cap) ∧ OwnS w' w.heap.size g m cap l ∧ m ≤ k ∧ Short 13 l ∧ Below w.heap.size w w'
end Go.Proofs.Ytmolphaihapkkaa
