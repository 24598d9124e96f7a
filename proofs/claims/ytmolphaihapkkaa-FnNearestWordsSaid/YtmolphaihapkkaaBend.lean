/- Contract of the laws' drawing of words: l20Bend. -/
import Derived.Test.YtmolphaihapkkaaDraw
import Derived.Laws.BytesString
import Derived.Laws.Cells
import Derived.Laws.Concat
import Derived.Laws.Strings
import Derived.Laws.Strings2
import Derived.Laws.Strings3
import Derived.Laws.NewBlocks
namespace Go.Proofs.Ytmolphaihapkkaa
open Go.RowKit
set_option maxHeartbeats 400000
set_option linter.unusedSimpArgs false
set_option linter.unusedVariables false

/-- a text of one byte, out of a new block of one byte -/
theorem text_of_byte (W : World) (x : Int) :
    (convert 22 9 (.slice (some ⟨W.heap.size, 0, none⟩) 1 1)).run Try.prog (W.alloc (.cells #[.int .u8 x] 5)) = .ok (.string ⟨#[UInt8.ofNat x.toNat]⟩) (W.alloc (.cells #[.int .u8 x] 5)) := by
  rw [run_convert_bytes_string (e := 5) _ _ _ _ _ _ Try.underlying22 Try.underlying5 Try.underlying9]
  exact run_bytesToString _ ⟨W.heap.size, 0, none⟩ 1 1 [x] (run_loadCells_list _ _ [.int .u8 x] (fun j u hj => by
    match j, hj with
    | 0, hj => simp at hj; subst hj; simp [Addr.add, World.cell?_alloc_at _ _ _ _ rfl]))

def BendPost (b p : Nat) (s : ByteArray) (w : World) (e : Ending) (w' : World) : Prop :=
  ∃ t : ByteArray, e = .returned (.string t) ∧ (t.size ≤ s.size ∨ t.size ≤ 12) ∧ Drew b p 5 w w'

theorem bend_any (b p : Nat) (s : ByteArray) (w : World) (hr : Rd w b p) (hp : p ≤ 900000) (hs : s.size ≤ 1000) :
    Calls Try.prog 74 #[.pointer (some ⟨b, 0, none⟩), .string s] w (BendPost b p s w) := by
  have hcv := text_of_byte
  go_enter Try.func74, Try.ntmps74
  go_wp2_with fail
  refine (pick_any b p _ _ hr (by omega) (by omega)).mono ?_
  rintro e w1 ⟨v1, rfl, h10, h11, -, hd1⟩
  obtain ⟨hg1, p1, hp1a, hp1b, hr1⟩ := hd1
  have h11 := h11 (by omega)
  go_wp2_with fail
  refine (pick_any b p1 _ _ hr1 (by omega) (by omega)).mono ?_
  rintro e w2 ⟨v2, rfl, h20, h21, -, hd2⟩
  obtain ⟨hg2, p2, hp2a, hp2b, hr2⟩ := hd2
  have h21 := h21 (by omega)
  go_wp2_with fail
  have hb3 : Below w2.heap.size w2 (w2.alloc (.cells #[.int .i64 v1, .int .i64 v2] 3)) := (Below.refl _ _).alloc (Nat.le_refl _) _
  have hr3 := hr2.below hb3
  have hl3 := hr2.lt
  refine (pick_any b p2 _ _ hr3 (by omega) (by omega)).mono ?_
  rintro e w3 ⟨v3, rfl, h30, h31, -, hd3⟩
  have h31 := h31 (by omega)
  obtain ⟨hg3, p3, hp3a, hp3b, hr3'⟩ := hd3
  have hgg : w3.heap[w2.heap.size]? = some (.cells #[.int .i64 v1, .int .i64 v2] 3 (0, 0)) := (hg3.block _ (by simp) (by intro e; injection e; omega)).trans (heap_alloc_new w2 _)
  have hz3 : w2.heap.size + 1 ≤ w3.heap.size := by have := hg3.size; simpa using this
  have G3 := Lib.hid (only_trans (only_trans (only_trans hg1 hg2) (only_below hb3)) hg3)
  clear hg1 hg2 hg3 hb3 hr1 hr2 hr3 hr
  obtain ⟨x, hx0, hx1, hcx⟩ : ∃ x : Int, 0 ≤ x ∧ x < 26 ∧ w3.cell? ⟨w2.heap.size, v3.toNat, none⟩ = some (.int .i64 x) := by
    by_cases h : v3 = 0
    · subst h; exact ⟨v1, h10, by omega, cell_of_row w3 _ 0 _ _ (0, 0) hgg⟩
    · obtain rfl : v3 = 1 := by omega
      exact ⟨v2, h20, by omega, cell_of_row w3 _ 1 _ _ (0, 0) hgg⟩
  clear hgg
  go_wp2_with fail
  have hb4 : Below w3.heap.size w3 (w3.alloc (.cells #[.int .u8 (97 + x)] 5)) := (Below.refl _ _).alloc (Nat.le_refl _) _
  have hr4 := hr3'.below hb4
  refine (pick_any b p3 _ _ hr4 (by omega) (by omega)).mono ?_
  rintro e w4 ⟨at_, rfl, h40, h41, -, hd4⟩
  have h41 := h41 (by omega)
  obtain ⟨hg4, p4, hp4a, hp4b, hr4'⟩ := hd4
  have G4 := Lib.hid (only_trans (only_trans G3.out (only_below hb4)) hg4)
  clear hg4 hb4 hr4 hr3' hcx G3
  go_wp2_with fail
  refine (pick_any b p4 _ _ hr4' (by omega) (by omega)).mono ?_
  rintro e w5 ⟨v5, rfl, h50, h51, -, hd5⟩
  have h51 := h51 (by omega)
  obtain ⟨hg5, p5, hp5a, hp5b, hr5⟩ := hd5
  have D5 := Lib.hid (show Drew b p 5 w w5 from ⟨only_trans G4.out hg5, p5, by omega, by omega, hr5⟩)
  clear hg5 hr4' hr5 G4 hcv
  obtain ⟨a, rfl⟩ := Int.eq_ofNat_of_zero_le h40
  have ha : a ≤ s.size := by omega
  have hL : (ByteArray.mk #[UInt8.ofNat (97 + x).toNat]).size = 1 := rfl
  generalize hLe : ByteArray.mk #[UInt8.ofNat (97 + x).toNat] = L at hL ⊢
  have HLe := Lib.hid hLe
  have HL := Lib.hid hL
  have hL1 : L.size ≤ 1 := by omega
  have hcat : ∀ (W : World) (x y : ByteArray), x.size ≤ 4000 → y.size ≤ 4000 → (Op.stringOp .add x y).run Try.prog W = .ok (.string (x ++ y)) W := fun W x y hx hy => run_string_add_sum W x y (by omega)
  have hs0 : (s.extract 0 a).size ≤ 2000 := by simp only [ByteArray.size_extract]; omega
  have hs1 : (s.extract 0 a ++ L).size ≤ 4000 := by simp only [ByteArray.size_append, ByteArray.size_extract]; omega
  clear hLe hL h41 h40 h51 h50 hx0 hx1 h10 h20 h30 h31 h21 h11
  go_wp2_with fail
  all_goals first
    | (go_ret; exact ⟨_, rfl, .inl (Nat.le_refl _), D5.out⟩)
    | (go_quiet (fail)
       go_wp2
       go_ret
       refine ⟨_, rfl, ?_, D5.out.drewN _⟩
       have := HL.out
       simp only [ByteArray.size_append, ByteArray.size_extract]
       omega)
end Go.Proofs.Ytmolphaihapkkaa
