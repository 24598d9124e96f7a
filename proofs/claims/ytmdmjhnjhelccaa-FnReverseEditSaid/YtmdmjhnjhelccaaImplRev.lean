/- Contract of the program's ReverseEdit. -/
import Derived.Test.YtmdmjhnjhelccaaImplEd
import Derived.Test.YtmdmjhnjhelccaaLwApply
namespace Go.Proofs.Ytmdmjhnjhelccaa
open Go.RowKit
set_option maxHeartbeats 1600000
set_option linter.unusedSimpArgs false
set_option linter.unusedVariables false

theorem reverseEdit_impl : ReverseC := by
  intro s k p c w hs
  have hs' := hs
  unfold maxLen at hs
  cases ha : applyL s.data.toList ⟨k, p, c⟩
  · have HV := Lib.hid (show (applyL s.data.toList ⟨k, p, c⟩).isSome = false by rw [ha]; rfl)
    have HN := Lib.hid (reverseV_none ha)
    clear ha
    go_enter Try.func16, Try.ntmps16
    go_wp2_with fail
    refine (editPossible_any s k p c _ HV.out _ hs').mono ?_
    rintro e w1 ⟨rfl, hb⟩
    obtain ⟨hc, hf⟩ := kept_cells hb
    have hz : w.heap.size + 1 < w1.heap.size := by have := hb.size; simp at this; omega
    go_wp2_with fail
    refine bodyPost_ret (v := .tuple #[.agg #[.int .i64 0, .int .i64 0, .int .u8 0], .bool false]) (by simp [results, Try.results16, go_sem, hc, hz]) rfl ⟨by rw [HN.out], ?_⟩
    exact (((((Below.refl _ _).alloc (Nat.le_refl _) _).alloc (by simp) _).trans (hb.mono (by simp; omega))).setCell (by simp) _).setCell (by simp) _ |>.setCell (by simp) _
  · rename_i x
    have HV := Lib.hid (show (applyL s.data.toList ⟨k, p, c⟩).isSome = true by rw [ha]; rfl)
    obtain ⟨n, hp, _, _, hcs⟩ := applyL_cases ha
    simp only at hp
    subst hp
    rcases hcs with ⟨hk, -, hn, -, -⟩ | ⟨hk, -, hn, -⟩ | ⟨hk, -, hn, -, -⟩
    · simp only at hk
      subst hk
      have HN := Lib.hid (reverseV_ins ha)
      clear ha
      go_enter Try.func16, Try.ntmps16
      go_wp2_with fail
      refine (editPossible_any s 1 n c _ HV.out _ hs').mono ?_
      rintro e w1 ⟨rfl, hb⟩
      obtain ⟨hc, hf⟩ := kept_cells hb
      have hz : w.heap.size + 1 < w1.heap.size := by have := hb.size; simp at this; omega
      have hbb : Below w.heap.size w w1 := (((Below.refl _ _).alloc (Nat.le_refl _) _).alloc (by simp) _).trans (hb.mono (by simp; omega))
      clear hb
      go_wp2_with fail
      refine bodyPost_ret (v := .tuple #[.agg #[.int .i64 2, .int .i64 (n : Int), .int .u8 0], .bool true]) (by simp [results, Try.results16, go_sem, hc, hz]) rfl ⟨by rw [HN.out], ((hbb.setCell (by simp) _).setCell (by simp) _).setCell (by simp) _⟩
    · simp only at hk
      subst hk
      have hn' : n < s.size := by rw [len_eq] at hn; exact hn
      have i0 : (0 : Int) ≤ (n : Int) := by omega
      have i1 : (n : Int) < (s.size : Int) := by omega
      have HN := Lib.hid (reverseV_del ha hn')
      clear ha
      go_enter Try.func16, Try.ntmps16
      go_wp2_with fail
      refine (editPossible_any s 2 n c _ HV.out _ hs').mono ?_
      rintro e w1 ⟨rfl, hb⟩
      obtain ⟨hc, hf⟩ := kept_cells hb
      have hz : w.heap.size + 1 < w1.heap.size := by have := hb.size; simp at this; omega
      have hbb : Below w.heap.size w w1 := (((Below.refl _ _).alloc (Nat.le_refl _) _).alloc (by simp) _).trans (hb.mono (by simp; omega))
      clear hb
      go_wp2_with fail
      go_region
      go_wp2_with fail
      refine bodyPost_ret (v := .tuple #[.agg #[.int .i64 1, .int .i64 (n : Int), .int .u8 (s[n].toNat : Int)], .bool true]) (by simp [results, Try.results16, go_sem, hc, hz]) rfl ⟨by rw [HN.out], (((hbb.setCell (by simp) _).setCell (by simp) _).setCell (by simp) _).drew⟩
    · simp only at hk
      subst hk
      have hn' : n < s.size := by rw [len_eq] at hn; exact hn
      have i0 : (0 : Int) ≤ (n : Int) := by omega
      have i1 : (n : Int) < (s.size : Int) := by omega
      have HN := Lib.hid (reverseV_rep ha hn')
      clear ha
      go_enter Try.func16, Try.ntmps16
      go_wp2_with fail
      refine (editPossible_any s 3 n c _ HV.out _ hs').mono ?_
      rintro e w1 ⟨rfl, hb⟩
      obtain ⟨hc, hf⟩ := kept_cells hb
      have hz : w.heap.size + 1 < w1.heap.size := by have := hb.size; simp at this; omega
      have hbb : Below w.heap.size w w1 := (((Below.refl _ _).alloc (Nat.le_refl _) _).alloc (by simp) _).trans (hb.mono (by simp; omega))
      clear hb
      go_wp2_with fail
      go_region
      go_wp2_with fail
      refine bodyPost_ret (v := .tuple #[.agg #[.int .i64 3, .int .i64 (n : Int), .int .u8 (s[n].toNat : Int)], .bool true]) (by simp [results, Try.results16, go_sem, hc, hz]) rfl ⟨by rw [HN.out], (((hbb.setCell (by simp) _).setCell (by simp) _).setCell (by simp) _).drew⟩
end Go.Proofs.Ytmdmjhnjhelccaa
