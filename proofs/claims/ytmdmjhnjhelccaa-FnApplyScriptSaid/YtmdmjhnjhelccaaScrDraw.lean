/- The drawing of a text and a script. -/
import Derived.Test.YtmdmjhnjhelccaaEditDraw
import Derived.Test.YtmdmjhnjhelccaaEsSpec
namespace Go.Proofs.Ytmdmjhnjhelccaa
open Go.RowKit
set_option maxHeartbeats 1600000
set_option linter.unusedSimpArgs false
set_option linter.unusedVariables false

def TextScriptPost (w : World) (e : Ending) (w' : World) : Prop :=
  ∃ (s : ByteArray) (g n c : Nat) (l : List Chg), e = .returned (.tuple #[.string s, .slice (some ⟨g, 0, none⟩) n c]) ∧ s.size ≤ 13 ∧ n ≤ 26 ∧ n ≤ c ∧ c ≤ maxLen ∧ Chgs w' w'.heap.size (some ⟨g, 0, none⟩) n l ∧ Below w.heap.size w w'
theorem zero_chgs : (madeCells (Value.agg #[.int .i64 0, .int .i64 0, .int .u8 0]).cells (25 * 3)).toList = rowCells (List.replicate 25 ⟨0, 0, 0⟩) := by kernel_rfl
theorem OwnE.drew {w w' : World} {base g n cap b p d : Nat} {l : List Chg} (h : OwnE w base g n cap l) (hd : Drew b p d w w') (hne : g ≠ b) : OwnE w' base g n cap l := h.block (hd.blockAt h.lt.2 hne)

set_option maxRecDepth 100000 in
theorem drawApplyScript_any (A : Option Addr) (n c : Nat) (w : World) (h : Bytes w w.heap.size A n) (hnc : n ≤ c) (hc : c ≤ maxLen) :
    Calls Try.prog 19 #[.slice A n c] w (TextScriptPost w) := by
  obtain ⟨i0, hi0, hz0, hz1, hz2⟩ := info_parts chg_info
  go_enter Try.func19, Try.ntmps19
  go_wp2_with fail
  refine (open_any _ _ _ _ h hnc hc).mono ?_
  rintro e w1 ⟨g, rfl, hg, hr, hb⟩
  clear h hnc hc
  go_wp2_with fail
  refine (two_any g 0 _ _ hr (by omega) (by omega) (by omega)).mono ?_
  rintro e w2 ⟨s, t, rfl, hs, ht, hd2⟩
  have sm : s.size ≤ maxLen := by unfold maxLen; omega
  have tm : t.size ≤ maxLen := by unfold maxLen; omega
  obtain ⟨q2, a2, b2, g2⟩ := (Got.refl hr).step hd2
  have hz2' := hd2.size
  have hb1 := hb.size
  have hbel := hb.trans (below_only hd2.1 hg hb1)
  clear hd2 hr hb
  go_wp2_with fail
  refine (editScript_spec s t _ sm tm).mono ?_
  rintro e w3 ⟨g3, q3, cap3, rfl, hown, hb3⟩
  have gg3 := g2.below hb3
  have hbel := below_step hbel (Nat.le_refl _) hb3
  have hgl := hown.lt
  have hgr := g2.rd.lt
  have hq3 : q3 ≤ 24 := by rw [← hown.len]; exact (by
    unfold scriptE
    split
    · rename_i hv
      rw [script_len]
      simp only [Bool.and_eq_true, wordB, decide_eq_true_eq] at hv
      have := ed_most false s.data.toList t.data.toList
      omega
    · exact Nat.zero_le _)
  have y3 := hb3.size
  generalize scriptE s.data.toList t.data.toList = l at *
  clear hb3 g2
  go_wp2_with fail
  refine (odd_any g q2 _ _ gg3.rd (by omega) (by omega) (by omega)).mono ?_
  rintro e w4 ⟨v4, rfl, -, hd4⟩
  have hown := hown.drew hd4 (by omega)
  have y4 := hd4.size
  obtain ⟨q4, a4, b4, g4⟩ := gg3.step hd4
  have hbel := hbel.trans (below_only hd4.1 (show w.heap.size ≤ g by omega) hbel.size)
  clear hd4 gg3
  cases v4
  · go_wp2_with fail
    refine (odd_any g q4 _ _ g4.rd (by omega) (by omega) (by omega)).mono ?_
    rintro e w5 ⟨v5, rfl, -, hd5⟩
    have hown := hown.drew hd5 (by omega)
    have hbel := hbel.trans (below_only hd5.1 (show w.heap.size ≤ g by omega) hbel.size)
    clear hd5 g4
    cases v5
    · go_wp2_with fail
      go_ret2
      exact ⟨s, _, _, _, l, rfl, hs, by omega, hown.caps.1, hown.caps.2, hown.chgs, hbel⟩
    · go_wp2_with (at_make; refine wpList_make_full _ rfl (.const (.int .i64 25)) (.const (.int .i64 25)) _ rfl w.heap.size 24 i0 _ 3 Try.underlying35 hi0 hz0 hz1 .i64 .i64 _ _ 25 rfl rfl rfl rfl (by rw [hz2]; omega) (by unfold maxLen; omega) hbel.size ?_; intro w6 hown6 hg6)
      rw [zero_chgs] at hown6
      have hown6 : OwnE w6 w.heap.size _ 25 25 (List.replicate 25 ⟨0, 0, 0⟩) := hown6
      have hb6 := hbel.grown hg6 hbel.size (by simp)
      go_wp2_with fail
      go_ret2
      exact ⟨s, _, _, _, _, rfl, hs, by omega, hown6.caps.1, hown6.caps.2, hown6.chgs, hb6⟩
  · go_wp2_with fail
    refine (edit_any g q4 _ _ g4.rd (by omega) (by omega)).mono ?_
    rintro e w5 ⟨d, rfl, hd5⟩
    have hown := hown.drew hd5 (by omega)
    have y5 := hd5.size
    obtain ⟨q5, a5, b5, g5⟩ := g4.step hd5
    have hbel := hbel.trans (below_only hd5.1 (show w.heap.size ≤ g by omega) hbel.size)
    have hgl5 := hown.lt
    have hgr5 := g5.rd.lt
    clear hd5 g4
    unfold chgV
    go_wp2_with
      (at_builtin
       refine wp_append_chg rfl (.tmp 20) (.tmp 24) rfl w2.heap.size g3 q3 cap3 1 w5.heap.size l d rfl (hown.alloc _) rfl (World.cell?_alloc_at _ _ _ _ rfl) (World.cell?_alloc_at _ _ _ _ rfl) (World.cell?_alloc_at _ _ _ _ rfl) (by simp; omega) (by omega) ?_
       intro g6 cap6 w6 hown6 hg6)
    have hrd6 : Rd w6 g q5 := (g5.rd.below ((Below.refl _ _).alloc (Nat.le_refl _) _)).grown hg6 (fun k hk => by injection hk with hk; omega)
    have hb6 : Below w.heap.size w w6 := (hbel.alloc hbel.size _).grown hg6 (by have := hbel.size; simp; omega) (by intro j hj; injection hj with hj; have := hown.lt.1; omega)
    clear hown g5 hbel hg6
    go_wp2_with fail
    refine (odd_any g q5 _ _ hrd6 (by omega) (by omega) (by omega)).mono ?_
    rintro e w7 ⟨v5, rfl, -, hd7⟩
    have hgg : g6 ≠ g := by have := hown6.lt; omega
    have hown := hown6.drew hd7 hgg
    have hbel := hb6.trans (below_only hd7.1 (show w.heap.size ≤ g by omega) hb6.size)
    clear hd7 hown6 hb6
    cases v5
    · go_wp2_with fail
      go_ret2
      exact ⟨s, _, _, _, _, rfl, hs, by omega, hown.caps.1, hown.caps.2, hown.chgs, hbel⟩
    · go_wp2_with (at_make; refine wpList_make_full _ rfl (.const (.int .i64 25)) (.const (.int .i64 25)) _ rfl w.heap.size 24 i0 _ 3 Try.underlying35 hi0 hz0 hz1 .i64 .i64 _ _ 25 rfl rfl rfl rfl (by rw [hz2]; omega) (by unfold maxLen; omega) hbel.size ?_; intro w8 hown8 hg8)
      rw [zero_chgs] at hown8
      have hown8 : OwnE w8 w.heap.size _ 25 25 (List.replicate 25 ⟨0, 0, 0⟩) := hown8
      have hb8 := hbel.grown hg8 hbel.size (by simp)
      go_wp2_with fail
      go_ret2
      exact ⟨s, _, _, _, _, rfl, hs, by omega, hown8.caps.1, hown8.caps.2, hown8.chgs, hb8⟩
end Go.Proofs.Ytmdmjhnjhelccaa
