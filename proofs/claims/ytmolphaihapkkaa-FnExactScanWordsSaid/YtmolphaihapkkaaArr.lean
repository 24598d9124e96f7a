/- Arrays of thirteen ints by value: a block of the call's own, read, stored into, loaded whole, stored whole. -/
import Derived.Test.YtmolphaihapkkaaDistSpec
import Derived.Deep.WholeRow
import Derived.Laws.Tables
namespace Go.Proofs.Ytmolphaihapkkaa
open Go.RowKit
set_option maxHeartbeats 400000
set_option linter.unusedSimpArgs false
set_option linter.unusedVariables false

theorem arr_info : (Try.prog.info? 70).map (fun i => (i.zero, i.size)) = some (some (.agg (Array.replicate 13 (.int .i64 0))), 13) := by kernel_rfl

/-- the thirteen numbers of f -/
def arr (f : Nat → Int) : Array Value := ((List.range 13).map fun j => Value.int .i64 (f j)).toArray
theorem arr_size (f : Nat → Int) : (arr f).size = 13 := by simp [arr]
theorem arr_get (f : Nat → Int) {j : Nat} (h : j < 13) : (arr f)[j]? = some (.int .i64 (f j)) := by simp [arr, h]
theorem arr_congr {f g : Nat → Int} (h : ∀ j, j < 13 → f j = g j) : arr f = arr g := by
  unfold arr
  congr 1
  apply List.map_congr_left
  intro j hj
  rw [h j (List.mem_range.1 hj)]
theorem arr_set (f : Nat → Int) (k : Nat) (v : Int) : (arr f).setIfInBounds k (.int .i64 v) = arr (fun j => if j = k then v else f j) := by
  apply Array.ext_getElem?
  intro j
  rw [Array.getElem?_setIfInBounds]
  by_cases hj : j < 13
  · rw [arr_get _ hj, arr_get _ hj]
    by_cases e : k = j
    · subst e; simp [arr_size, hj]
    · simp [e, Ne.symm e]
  · have h1 : (arr f)[j]? = none := Array.getElem?_eq_none (by rw [arr_size]; omega)
    have h2 : (arr fun j => if j = k then v else f j)[j]? = none := Array.getElem?_eq_none (by rw [arr_size]; omega)
    rw [h1, h2]
    by_cases e : k = j
    · subst e; simp [arr_size, hj]
    · simp [e]
theorem arr_one (f : Nat → Int) : (arr f).all (·.oneCell') = true := by
  rw [Array.all_eq_true_iff_forall_mem]
  intro v hv
  simp [arr] at hv
  obtain ⟨j, _, rfl⟩ := hv
  rfl

/-- block g, which the call owns from base on, holds the thirteen numbers of f -/
def OwnA (w : World) (base g : Nat) (f : Nat → Int) : Prop := base ≤ g ∧ w.heap[g]? = some (.cells (arr f) 70 (0, 0))
section
variable {w w' : World} {base base' g : Nat} {f : Nat → Int}
theorem OwnA.lt (h : OwnA w base g f) : base ≤ g ∧ g < w.heap.size := ⟨h.1, (Array.getElem?_eq_some_iff.1 h.2).1⟩
theorem OwnA.mono (h : OwnA w base' g f) (hb : base ≤ base') : OwnA w base g f := ⟨Nat.le_trans hb h.1, h.2⟩
theorem OwnA.block (h : OwnA w base g f) (hk : w'.heap[g]? = w.heap[g]?) : OwnA w' base g f := ⟨h.1, hk.trans h.2⟩
theorem OwnA.below (h : OwnA w base g f) (hb : Below w.heap.size w w') : OwnA w' base g f := h.block (hb.block g h.lt.2)
theorem OwnA.drawn (h : OwnA w base g f) (hd : Drawn w w') : OwnA w' base g f := h.below hd.below
theorem OwnA.alloc (h : OwnA w base g f) (o : Obj) : OwnA (w.alloc o) base g f := h.below ((Below.refl _ _).alloc (Nat.le_refl _) _)
theorem OwnA.congr {f' : Nat → Int} (h : OwnA w base g f) (e : ∀ j, j < 13 → f j = f' j) : OwnA w base g f' := ⟨h.1, by rw [← arr_congr e]; exact h.2⟩
theorem OwnA.at_ {k : Nat} (h : OwnA w base g f) (hk : k < 13) : w.cell? ⟨g, k, none⟩ = some (.int .i64 (f k)) := by
  rw [cell_of_row w g k _ _ _ h.2, arr_get f hk]
theorem OwnA.frozen (h : OwnA w base g f) (k : Nat) : w.frozen? ⟨g, k, none⟩ = false := frozen_of_row w g k _ _ h.2
theorem OwnA.stored (h : OwnA w base g f) (k : Nat) (v : Int) : OwnA (w.setCell ⟨g, k, none⟩ (.int .i64 v)) base g (fun j => if j = k then v else f j) :=
  ⟨h.1, by rw [heap_setCell_same w g k _ _ _ h.2, arr_set]⟩
theorem OwnA.setCell (h : OwnA w base g f) {p : Addr} (v : Value) (hne : g ≠ p.block) : OwnA (w.setCell p v) base g f :=
  h.block (by simp [World.setCell, Array.getElem?_modify, Ne.symm hne])
theorem OwnA.setRow {g2 : Nat} (h : OwnA w base g f) (cs : Array Value) (hne : g ≠ g2) : OwnA (w.setRow g2 cs) base g f := h.block (setRow_other w g2 g cs hne)
theorem OwnA.rowed {f' : Nat → Int} (h : OwnA w base g f) : OwnA (w.setRow g (arr f')) base g f' := ⟨h.1, setRow_heap w g _ _ _ _ h.2⟩
theorem OwnA.new (w : World) (f : Nat → Int) : OwnA (w.alloc (.cells (arr f) 70)) w.heap.size w.heap.size f := ⟨Nat.le_refl _, heap_alloc_new w _⟩
theorem OwnA.zero (w : World) : OwnA (w.alloc (.cells #[.int .i64 0, .int .i64 0, .int .i64 0, .int .i64 0, .int .i64 0, .int .i64 0, .int .i64 0, .int .i64 0, .int .i64 0, .int .i64 0, .int .i64 0, .int .i64 0, .int .i64 0] 70)) w.heap.size w.heap.size (fun _ => 0) := OwnA.new w (fun _ => 0)
theorem OwnA.zero_at {w : World} {base g : Nat} (hg : g = w.heap.size) (hb : base ≤ g) : OwnA (w.alloc (.cells #[.int .i64 0, .int .i64 0, .int .i64 0, .int .i64 0, .int .i64 0, .int .i64 0, .int .i64 0, .int .i64 0, .int .i64 0, .int .i64 0, .int .i64 0, .int .i64 0, .int .i64 0] 70)) base g (fun _ => 0) := by subst hg; exact (OwnA.zero w).mono hb
theorem below_setRow {B : Nat} (h : Below B w w') (hB : B ≤ g) (cs : Array Value) : Below B w (w'.setRow g cs) :=
  ⟨h.os, h.tape, h.output, by rw [show (w'.setRow g cs).heap.size = w'.heap.size by simp [World.setRow]]; exact h.size, fun k hk => (setRow_other w' g k cs (by omega)).trans (h.block k hk)⟩
theorem OwnA.loadVar (h : OwnA w base g f) : (loadVar 70 ⟨g, 0, none⟩).run Try.prog w = .ok (.agg (arr f)) w :=
  run_loadVar_row w g _ _ _ _ _ h.2 Try.underlying70 rfl (by rw [arr_size]; exact (zero_of_info arr_info).2)
theorem OwnA.load (h : OwnA w base g f) : (Instr.loadAt 70 (.pointer (some ⟨g, 0, none⟩))).run Try.prog w = .ok (.agg (arr f)) w := by
  simp only [Instr.loadAt, Instr.sureAddr, Sem.run_bind, Sem.run_pure, Result.andThen]
  exact run_loadVar_row w g _ _ _ _ _ h.2 Try.underlying70 rfl (by rw [arr_size]; exact (zero_of_info arr_info).2)
end
theorem cell_other {w : World} {g k j : Nat} {u : Value} (h : w.cell? ⟨g, j, none⟩ = some u) (v : Value) (hne : j ≠ k) : (w.setCell ⟨g, k, none⟩ v).cell? ⟨g, j, none⟩ = some u :=
  (World.cell?_setCell_other _ _ _ _ (by intro e; injection e with e1 e2; omega)).trans h
theorem cell_other_drew {w : World} {g k j : Nat} {u : Value} (h : w.cell? ⟨g, j, none⟩ = some u) (v : Value) (hne : j ≠ k) : (w.setCell ⟨g, k, none⟩ v).drew.cell? ⟨g, j, none⟩ = some u := cell_other h v hne
theorem cell_far_drew {w : World} {g g2 k j : Nat} {u : Value} (h : w.cell? ⟨g, j, none⟩ = some u) (v : Value) (hne : g ≠ g2) : (w.setCell ⟨g2, k, none⟩ v).drew.cell? ⟨g, j, none⟩ = some u :=
  (World.cell?_setCell_other _ _ _ _ (by intro e; injection e with e1 e2; omega)).trans h
theorem wp_load_arr {ops : Array Oper} {rest : List Oper} {o : Oper} {a : Act} {w : World} {Q : Exit → Act → World → Prop} (hgd : o.guard = none) (x : Operand) (ho : o.op = .load 70 x)
    (base g : Nat) (f : Nat → Int) (hx : a.eval x = .pointer (some ⟨g, 0, none⟩)) (h : OwnA w base g f) (hk : wpList Try.prog ops Q rest (a.put o.dst (.agg (arr f))) w) : wpList Try.prog ops Q (o :: rest) a w := by
  refine wpList_plain hgd fun K hK => ?_
  unfold Oper.wp execOp
  simp only [ho, hx, Sem.run_bind, h.load, Result.andThen_ok]
  exact hK _ _ hk
theorem wp_store_arr {ops : Array Oper} {rest : List Oper} {o : Oper} {a : Act} {w : World} {Q : Exit → Act → World → Prop} (hgd : o.guard = none) (x y : Operand) (ho : o.op = .store 70 x y)
    (base g : Nat) (f f' : Nat → Int) (hx : a.eval x = .pointer (some ⟨g, 0, none⟩)) (hy : a.eval y = .agg (arr f')) (h : OwnA w base g f)
    (hk : wpList Try.prog ops Q rest (a.put o.dst undef) (w.setRow g (arr f'))) : wpList Try.prog ops Q (o :: rest) a w :=
  wpList_store_row hgd 70 x y ho g (arr f') hx hy _ _ h.2 (by rw [arr_size]; exact (zero_of_info arr_info).2) (by rw [arr_size, arr_size]) (arr_one _) hk
theorem step_load_arr {ops : Array Oper} {o : Oper} {a : Act} {w : World} {K : Act → World → Prop} {Q : Exit → Act → World → Prop} {E : Prop} (hw : Region.wanted o (yielded ops a.tmps) = true) (x : Operand) (ho : o.op = .load 70 x)
    (base g : Nat) (f : Nat → Int) (hx : a.eval x = .pointer (some ⟨g, 0, none⟩)) (h : OwnA w base g f) (hk : K (a.put o.dst (.agg (arr f))) w) :
    if Region.wanted o (yielded ops a.tmps) = true then Oper.wp Try.prog o a w K Q else E := by
  rw [if_pos hw]
  exact wp_load_row 70 x ho g hx _ _ _ _ h.2 Try.underlying70 rfl (by rw [arr_size]; exact (zero_of_info arr_info).2) hk
theorem step_store_arr {ops : Array Oper} {o : Oper} {a : Act} {w : World} {K : Act → World → Prop} {Q : Exit → Act → World → Prop} {E : Prop} (hw : Region.wanted o (yielded ops a.tmps) = true) (x y : Operand) (ho : o.op = .store 70 x y)
    (base g : Nat) (f f' : Nat → Int) (hx : a.eval x = .pointer (some ⟨g, 0, none⟩)) (hy : a.eval y = .agg (arr f')) (h : OwnA w base g f) (hk : K (a.put o.dst undef) (w.setRow g (arr f'))) :
    if Region.wanted o (yielded ops a.tmps) = true then Oper.wp Try.prog o a w K Q else E := by
  rw [if_pos hw]
  exact wp_store_row 70 x y ho g (arr f') hx hy _ _ h.2 (by rw [arr_size]; exact (zero_of_info arr_info).2) (by rw [arr_size, arr_size]) (arr_one _) hk
theorem OwnA.loadCells {w : World} {base g : Nat} {f : Nat → Int} (h : OwnA w base g f) : (loadCellsFrom ⟨g, 0, none⟩ 0 13 #[]).run Try.prog w = .ok (arr f) w := by
  have := run_loadCells_list (P := Try.prog) w ⟨g, 0, none⟩ (arr f).toList (fun j v hv => by
    have hadd : (⟨g, 0, none⟩ : Addr).add j = ⟨g, j, none⟩ := by unfold Addr.add; split <;> simp_all
    rw [hadd, cell_of_row _ _ j _ _ _ h.2]
    simpa using hv)
  have hs : (arr f).toList.length = 13 := by simp [arr_size]
  rw [hs] at this
  simpa [Go.loadCells] using this
theorem OwnA.storeCells {w : World} {base g : Nat} {f : Nat → Int} (h : OwnA w base g f) (f' : Nat → Int) : (storeCells ⟨g, 0, none⟩ (arr f').toList 0).run Try.prog w = .ok () (w.setRow g (arr f')) := by
  have := run_storeVar_row (P := Try.prog) w g 70 70 (arr f) (arr f') h.2 (by rw [arr_size]; exact (zero_of_info arr_info).2) (by rw [arr_size, arr_size]) (arr_one _)
  cases hq : Try.prog.info? 70 with
  | none => have := (zero_of_info arr_info).2; rw [hq] at this; cases this
  | some i =>
    have hs : i.size = 13 := by have := (zero_of_info arr_info).2; rw [hq] at this; simpa using this
    simpa [storeVar, sizeOf, typeInfo, hq, Value.cells, hs, arr_size] using this
theorem costOfPair_any (x y : Int) (w : World) (h0 : 0 ≤ x) (h1 : x ≤ 255) (h2 : 0 ≤ y) (h3 : y ≤ 255) :
    Calls Try.prog 56 #[.int .u8 x, .int .u8 y] w fun e w' => e = .returned (.int .i64 (if x = y then 0 else 1)) ∧ w = w' := by
  by_cases h : x = y
  · subst h
    have hb : (x == x) = true := by simp
    go_enter Try.func56, Try.ntmps56
    go_wp2
    go_ret
    exact ⟨by simp, rfl⟩
  · have hb : (x == y) = false := by simpa using h
    go_enter Try.func56, Try.ntmps56
    go_wp2
    go_ret
    exact ⟨by simp [h], rfl⟩
theorem costOfPair_is {x y c : Int} (h : (if x = y then 0 else 1) = c) (w : World) (h0 : 0 ≤ x) (h1 : x ≤ 255) (h2 : 0 ≤ y) (h3 : y ≤ 255) :
    Calls Try.prog 56 #[.int .u8 x, .int .u8 y] w fun e w' => e = .returned (.int .i64 c) ∧ w = w' := h ▸ costOfPair_any x y w h0 h1 h2 h3
theorem countingRow_any (w : World) :
    Calls Try.prog 55 #[] w fun e w' => e = .returned (.agg (arr fun k => (k : Int))) ∧ Below w.heap.size w w' := by
  go_enter Try.func55, Try.ntmps55
  go_wp2_with fail
  go_loopw [3] (fun i wr => ∃ k : Nat, k ≤ 13 ∧ i = .int .i64 k ∧ OwnA wr w.heap.size (w.heap.size + 1) (fun j => if j < k then (j : Int) else 0) ∧ OwnA wr w.heap.size w.heap.size (fun _ => 0) ∧ Below w.heap.size w wr) (fun i _ => 13 - (intOf i).toNat)
  case atStart =>
    refine ⟨0, by omega, rfl, ?_, ?_, ?_⟩
    · exact OwnA.congr (f := fun _ => 0) (OwnA.zero_at (by simp) (by omega)) (fun j hj => rfl)
    · exact (OwnA.zero w).alloc _
    · exact ((Below.refl _ _).alloc (Nat.le_refl _) _).alloc (by simp) _
  case round =>
    obtain ⟨k, hk, rfl, hown, hown2, hbel⟩ := hrel
    by_cases hlt : k < 13
    · have hfr := hown.frozen k
      have hce := hown.at_ hlt
      have hz : (0 : Int) ≤ (k : Int) := by omega
      have hz2 : (k : Int) < 13 := by omega
      go_wp2_with fail
      go_roundw
      case rel =>
        refine ⟨k + 1, by omega, by go_num, (hown.stored k _).congr ?_, hown2.setCell _ (by simp), hbel.setCell (by simp) _⟩
        intro j hj
        by_cases e : j = k
        · subst e; simp
        · simp only [e, if_false]; split <;> split <;> omega
      case measure => simp [intOf]; omega
    · obtain rfl : k = 13 := by omega
      have hl := hown.congr (f' := fun j => (j : Int)) (fun j hj => by simp [hj])
      clear hown
      go_wp2_with (first | (with_reducible refine wp_load_arr rfl (.tmp 1) rfl _ _ _ rfl hl ?_) | (with_reducible refine wp_store_arr rfl (.tmp 0) (.tmp 10) rfl _ _ _ (fun k => (k : Int)) rfl rfl hown2 ?_))
      have hr := hown2.rowed (f' := fun k => (k : Int))
      have hb := below_setRow hbel (Nat.le_refl _) (arr fun k => (k : Int))
      refine bodyPost_ret (v := .agg (arr fun k => (k : Int))) ?_ rfl ⟨rfl, hb⟩
      rw [results_cell_row rfl _ _ w.heap.size _ _ _ _ rfl hr.2 Try.underlying70 rfl (by rw [arr_size]; exact (zero_of_info arr_info).2)]
end Go.Proofs.Ytmolphaihapkkaa
