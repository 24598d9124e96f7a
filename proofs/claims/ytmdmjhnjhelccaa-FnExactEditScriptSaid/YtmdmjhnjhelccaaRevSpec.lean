/- Contract of the model's ReverseEdit. -/
import Derived.Test.YtmdmjhnjhelccaaChgSpec
import Derived.Laws.ResultCell
namespace Go.Proofs.Ytmdmjhnjhelccaa
open Go.RowKit
set_option maxHeartbeats 1600000
set_option linter.unusedSimpArgs false
set_option linter.unusedVariables false

def chgV (e : Chg) : Value := .agg #[.int .i64 e.k, .int .i64 e.p, .int .u8 (e.c.toNat : Int)]
/-- what ReverseEdit returns -/
def reverseV (s : ByteArray) (e : Chg) : Value := match reverseL s.data.toList e with
  | some r => .tuple #[chgV r, .bool true]
  | none => .tuple #[.agg #[.int .i64 0, .int .i64 0, .int .u8 0], .bool false]
theorem reverseV_none {s : ByteArray} {e : Chg} (h : applyL s.data.toList e = none) : reverseV s e = .tuple #[.agg #[.int .i64 0, .int .i64 0, .int .u8 0], .bool false] := by
  unfold reverseV reverseL; rw [h]; rfl
theorem reverseV_ins {s : ByteArray} {x : List UInt8} {p : Int} {c : UInt8} (h : applyL s.data.toList ⟨1, p, c⟩ = some x) : reverseV s ⟨1, p, c⟩ = .tuple #[.agg #[.int .i64 2, .int .i64 p, .int .u8 0], .bool true] := by
  unfold reverseV reverseL; rw [h]; rfl
theorem reverseV_del {s : ByteArray} {x : List UInt8} {n : Nat} {c : UInt8} (h : applyL s.data.toList ⟨2, (n : Int), c⟩ = some x) (hn : n < s.size) : reverseV s ⟨2, (n : Int), c⟩ = .tuple #[.agg #[.int .i64 1, .int .i64 (n : Int), .int .u8 (s[n].toNat : Int)], .bool true] := by
  unfold reverseV reverseL
  rw [h]
  simp only [Option.isSome_some, if_true, Int.toNat_natCast]
  rw [if_neg (by omega), List.getD_eq_getElem?_getD, get_eq s n hn]; rfl
theorem reverseV_rep {s : ByteArray} {x : List UInt8} {n : Nat} {c : UInt8} (h : applyL s.data.toList ⟨3, (n : Int), c⟩ = some x) (hn : n < s.size) : reverseV s ⟨3, (n : Int), c⟩ = .tuple #[.agg #[.int .i64 3, .int .i64 (n : Int), .int .u8 (s[n].toNat : Int)], .bool true] := by
  unfold reverseV reverseL
  rw [h]
  simp only [Option.isSome_some, if_true, Int.toNat_natCast]
  rw [if_neg (by omega), if_neg (by omega), List.getD_eq_getElem?_getD, get_eq s n hn]; rfl
theorem applyEdit_spec_is {s : ByteArray} {k p : Int} {c : UInt8} {v : Value} (hv : applyV s k p c = v) (w : World) (hs : s.size ≤ maxLen) :
    Calls Try.prog 14 #[.string s, .agg #[.int .i64 k, .int .i64 p, .int .u8 c.toNat]] w fun e w' => e = .returned v ∧ Below w.heap.size w w' := hv ▸ applyEdit_spec s k p c w hs
theorem kept_cells {W w1 : World} (hb : Below W.heap.size W w1) : (∀ b o, b < W.heap.size → w1.cell? ⟨b, o, none⟩ = W.cell? ⟨b, o, none⟩) ∧ (∀ b o, b < W.heap.size → w1.frozen? ⟨b, o, none⟩ = W.frozen? ⟨b, o, none⟩) :=
  ⟨fun b o h => hb.cell (p := ⟨b, o, none⟩) h, fun b o h => hb.frozen (p := ⟨b, o, none⟩) h⟩
theorem box_cells {w w' : World} {a b c : Value} {T : TypeId} {B : Nat} (hB : w.heap.size < B) (h : Below B (w.alloc (.cells #[a, b, c] T)) w') :
    w'.cell? ⟨w.heap.size, 0, none⟩ = some a ∧ w'.cell? ⟨w.heap.size, 1, none⟩ = some b ∧ w'.cell? ⟨w.heap.size, 2, none⟩ = some c :=
  ⟨(h.cell hB).trans (World.cell?_alloc_at _ _ _ _ rfl), (h.cell hB).trans (World.cell?_alloc_at _ _ _ _ rfl), (h.cell hB).trans (World.cell?_alloc_at _ _ _ _ rfl)⟩

theorem reverseEdit_spec (s : ByteArray) (k p : Int) (c : UInt8) (w : World) (hs : s.size ≤ maxLen) :
    Calls Try.prog 27 #[.string s, .agg #[.int .i64 k, .int .i64 p, .int .u8 c.toNat]] w fun e w' => e = .returned (reverseV s ⟨k, p, c⟩) ∧ Below w.heap.size w w' := by
  have hs' := hs
  unfold maxLen at hs
  cases ha : applyL s.data.toList ⟨k, p, c⟩
  · have HV := Lib.hid (applyV_none ha)
    have HN := Lib.hid (reverseV_none ha)
    clear ha
    go_enter Try.func27, Try.ntmps27
    go_wp2_with fail
    refine (applyEdit_spec_is HV.out _ hs').mono ?_
    rintro e w1 ⟨rfl, hb⟩
    obtain ⟨hc, hf⟩ := kept_cells hb
    have hz : w.heap.size + 1 < w1.heap.size := by have := hb.size; simp at this; omega
    go_wp2_with fail
    refine bodyPost_ret (v := .tuple #[.agg #[.int .i64 0, .int .i64 0, .int .u8 0], .bool false]) (by simp [results, Try.results27, go_sem, hc, hz]) rfl ⟨by rw [HN.out], ?_⟩
    exact (((((Below.refl _ _).alloc (Nat.le_refl _) _).alloc (by simp) _).trans (hb.mono (by simp; omega))).setCell (by simp) _).setCell (by simp) _ |>.setCell (by simp) _
  · rename_i x
    obtain ⟨n, hp, _, _, hcs⟩ := applyL_cases ha
    simp only at hp
    subst hp
    rcases hcs with ⟨hk, -, hn, -, -⟩ | ⟨hk, -, hn, -⟩ | ⟨hk, -, hn, -, -⟩
    · simp only at hk
      subst hk
      have HV := Lib.hid (applyV_some ha)
      have HN := Lib.hid (reverseV_ins ha)
      clear ha
      go_enter Try.func27, Try.ntmps27
      go_wp2_with fail
      refine (applyEdit_spec_is HV.out _ hs').mono ?_
      rintro e w1 ⟨rfl, hb⟩
      obtain ⟨hc, hf⟩ := kept_cells hb
      have hz : w.heap.size + 1 < w1.heap.size := by have := hb.size; simp at this; omega
      have hbb : Below w.heap.size w w1 := (((Below.refl _ _).alloc (Nat.le_refl _) _).alloc (by simp) _).trans (hb.mono (by simp; omega))
      clear hb
      go_wp2_with fail
      refine bodyPost_ret (v := .tuple #[.agg #[.int .i64 2, .int .i64 (n : Int), .int .u8 0], .bool true]) (by simp [results, Try.results27, go_sem, hc, hz]) rfl ⟨by rw [HN.out], ((hbb.setCell (by simp) _).setCell (by simp) _).setCell (by simp) _⟩
    · simp only at hk
      subst hk
      have hn' : n < s.size := by rw [len_eq] at hn; exact hn
      have i0 : (0 : Int) ≤ (n : Int) := by omega
      have i1 : (n : Int) < (s.size : Int) := by omega
      have HV := Lib.hid (applyV_some ha)
      have HN := Lib.hid (reverseV_del ha hn')
      clear ha
      go_enter Try.func27, Try.ntmps27
      go_wp2_with fail
      refine (applyEdit_spec_is HV.out _ hs').mono ?_
      rintro e w1 ⟨rfl, hb⟩
      obtain ⟨hc, hf⟩ := kept_cells hb
      have hz : w.heap.size + 1 < w1.heap.size := by have := hb.size; simp at this; omega
      have hbb : Below w.heap.size w w1 := (((Below.refl _ _).alloc (Nat.le_refl _) _).alloc (by simp) _).trans (hb.mono (by simp; omega))
      clear hb
      go_wp2_with fail
      go_region
      go_wp2_with fail
      refine bodyPost_ret (v := .tuple #[.agg #[.int .i64 1, .int .i64 (n : Int), .int .u8 (s[n].toNat : Int)], .bool true]) (by simp [results, Try.results27, go_sem, hc, hz]) rfl ⟨by rw [HN.out], (((hbb.setCell (by simp) _).setCell (by simp) _).setCell (by simp) _).drew⟩
    · simp only at hk
      subst hk
      have hn' : n < s.size := by rw [len_eq] at hn; exact hn
      have i0 : (0 : Int) ≤ (n : Int) := by omega
      have i1 : (n : Int) < (s.size : Int) := by omega
      have HV := Lib.hid (applyV_some ha)
      have HN := Lib.hid (reverseV_rep ha hn')
      clear ha
      go_enter Try.func27, Try.ntmps27
      go_wp2_with fail
      refine (applyEdit_spec_is HV.out _ hs').mono ?_
      rintro e w1 ⟨rfl, hb⟩
      obtain ⟨hc, hf⟩ := kept_cells hb
      have hz : w.heap.size + 1 < w1.heap.size := by have := hb.size; simp at this; omega
      have hbb : Below w.heap.size w w1 := (((Below.refl _ _).alloc (Nat.le_refl _) _).alloc (by simp) _).trans (hb.mono (by simp; omega))
      clear hb
      go_wp2_with fail
      go_region
      go_wp2_with fail
      refine bodyPost_ret (v := .tuple #[.agg #[.int .i64 3, .int .i64 (n : Int), .int .u8 (s[n].toNat : Int)], .bool true]) (by simp [results, Try.results27, go_sem, hc, hz]) rfl ⟨by rw [HN.out], (((hbb.setCell (by simp) _).setCell (by simp) _).setCell (by simp) _).drew⟩
end Go.Proofs.Ytmdmjhnjhelccaa
