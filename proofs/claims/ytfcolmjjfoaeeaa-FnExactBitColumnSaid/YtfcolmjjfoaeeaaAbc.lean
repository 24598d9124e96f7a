/- Arrays of 26 numbers by value: read whole, indexed, stored whole. -/
import Derived.Test.YtfcolmjjfoaeeaaArr
namespace Go.Proofs.Ytfcolmjjfoaeeaa
open Go.RowKit
set_option maxHeartbeats 1600000
set_option linter.unusedSimpArgs false
set_option linter.unusedVariables false

theorem abc_info : (Try.prog.info? 49).map (fun i => (i.zero, i.size)) = some (some (.agg (Array.replicate 26 (.int .i64 0))), 26) := by kernel_rfl

/-- the numbers of the 26 letters -/
def abc (f : Nat → Int) : Array Value := ((List.range 26).map fun j => Value.int .i64 (f j)).toArray
theorem abc_size (f : Nat → Int) : (abc f).size = 26 := by simp [abc]
theorem abc_get (f : Nat → Int) {j : Nat} (h : j < 26) : (abc f)[j]? = some (.int .i64 (f j)) := by simp [abc, h]
theorem abc_congr {f g : Nat → Int} (h : ∀ j, j < 26 → f j = g j) : abc f = abc g := by
  unfold abc
  congr 1
  apply List.map_congr_left
  intro j hj
  rw [h j (List.mem_range.1 hj)]
theorem abc_set (f : Nat → Int) (k : Nat) (v : Int) : (abc f).setIfInBounds k (.int .i64 v) = abc (fun j => if j = k then v else f j) := by
  apply Array.ext_getElem?
  intro j
  rw [Array.getElem?_setIfInBounds]
  by_cases hj : j < 26
  · rw [abc_get _ hj, abc_get _ hj]
    by_cases e : k = j
    · subst e; simp [abc_size, hj]
    · simp [e, Ne.symm e]
  · have h1 : (abc f)[j]? = none := Array.getElem?_eq_none (by rw [abc_size]; omega)
    have h2 : (abc fun j => if j = k then v else f j)[j]? = none := Array.getElem?_eq_none (by rw [abc_size]; omega)
    rw [h1, h2]
    by_cases e : k = j
    · subst e; simp [abc_size, hj]
    · simp [e]
/-- block g, which the call owns from base on, holds the numbers of the 26 letters -/
def OwnL (w : World) (base g : Nat) (f : Nat → Int) : Prop := base ≤ g ∧ w.heap[g]? = some (.cells (abc f) 49 (0, 0))
section
variable {w w' : World} {base g : Nat} {f : Nat → Int}
theorem OwnL.lt (h : OwnL w base g f) : base ≤ g ∧ g < w.heap.size := ⟨h.1, (Array.getElem?_eq_some_iff.1 h.2).1⟩
theorem OwnL.block (h : OwnL w base g f) (hk : w'.heap[g]? = w.heap[g]?) : OwnL w' base g f := ⟨h.1, hk.trans h.2⟩
theorem OwnL.below (h : OwnL w base g f) (hb : Below w.heap.size w w') : OwnL w' base g f := h.block (hb.block g h.lt.2)
theorem OwnL.drawn (h : OwnL w base g f) (hd : Drawn w w') : OwnL w' base g f := h.below hd.below
theorem OwnL.congr {f' : Nat → Int} (h : OwnL w base g f) (e : ∀ j, j < 26 → f j = f' j) : OwnL w base g f' := ⟨h.1, by rw [← abc_congr e]; exact h.2⟩
theorem OwnL.at_ {k : Nat} (h : OwnL w base g f) (hk : k < 26) : w.cell? ⟨g, k, none⟩ = some (.int .i64 (f k)) := by
  rw [cell_of_row w g k _ _ _ h.2, abc_get f hk]
theorem OwnL.frozen (h : OwnL w base g f) (k : Nat) : w.frozen? ⟨g, k, none⟩ = false := frozen_of_row w g k _ _ h.2
theorem OwnL.stored (h : OwnL w base g f) (k : Nat) (v : Int) : OwnL (w.setCell ⟨g, k, none⟩ (.int .i64 v)) base g (fun j => if j = k then v else f j) :=
  ⟨h.1, by rw [heap_setCell_same w g k _ _ _ h.2, abc_set]⟩
theorem OwnL.zero (w : World) : OwnL (w.alloc (.cells #[.int .i64 0, .int .i64 0, .int .i64 0, .int .i64 0, .int .i64 0, .int .i64 0, .int .i64 0, .int .i64 0, .int .i64 0, .int .i64 0, .int .i64 0, .int .i64 0, .int .i64 0, .int .i64 0, .int .i64 0, .int .i64 0, .int .i64 0, .int .i64 0, .int .i64 0, .int .i64 0, .int .i64 0, .int .i64 0, .int .i64 0, .int .i64 0, .int .i64 0, .int .i64 0] 49)) w.heap.size w.heap.size (fun _ => 0) := ⟨Nat.le_refl _, heap_alloc_new w _⟩
theorem OwnL.load (h : OwnL w base g f) : (Instr.loadAt 49 (.pointer (some ⟨g, 0, none⟩))).run Try.prog w = .ok (.agg (abc f)) w := by
  simp only [Instr.loadAt, Instr.sureAddr, Sem.run_bind, Sem.run_pure, Result.andThen]
  exact run_loadVar_row w g _ _ _ _ _ h.2 Try.underlying49 rfl (by rw [abc_size]; exact (zero_of_info abc_info).2)
end
theorem wp_load_abc {ops : Array Oper} {rest : List Oper} {o : Oper} {a : Act} {w : World} {Q : Exit → Act → World → Prop} (hgd : o.guard = none) (x : Operand) (ho : o.op = .load 49 x)
    (base g : Nat) (f : Nat → Int) (hx : a.eval x = .pointer (some ⟨g, 0, none⟩)) (h : OwnL w base g f) (hk : wpList Try.prog ops Q rest (a.put o.dst (.agg (abc f))) w) : wpList Try.prog ops Q (o :: rest) a w := by
  refine wpList_plain hgd fun K hK => ?_
  unfold Oper.wp execOp
  simp only [ho, hx, Sem.run_bind, h.load, Result.andThen_ok]
  exact hK _ _ hk

theorem abc_one (f : Nat → Int) : (abc f).all (·.oneCell') = true := by
  rw [Array.all_eq_true_iff_forall_mem]
  intro v hv
  simp [abc] at hv
  obtain ⟨j, _, rfl⟩ := hv
  rfl
theorem OwnL.alloc {w : World} {base g : Nat} {f : Nat → Int} (h : OwnL w base g f) (o : Obj) : OwnL (w.alloc o) base g f := h.below ((Below.refl _ _).alloc (Nat.le_refl _) _)
theorem OwnL.setCell {w : World} {base g : Nat} {f : Nat → Int} (h : OwnL w base g f) {p : Addr} (v : Value) (hne : g ≠ p.block) : OwnL (w.setCell p v) base g f :=
  h.block (by simp [World.setCell, Array.getElem?_modify, Ne.symm hne])
theorem OwnL.setRow {w : World} {base g : Nat} {f : Nat → Int} {g2 : Nat} (h : OwnL w base g f) (cs : Array Value) (hne : g ≠ g2) : OwnL (w.setRow g2 cs) base g f := h.block (setRow_other w g2 g cs hne)
theorem OwnL.rowed {w : World} {base g : Nat} {f f' : Nat → Int} (h : OwnL w base g f) : OwnL (w.setRow g (abc f')) base g f' := ⟨h.1, setRow_heap w g _ _ _ _ h.2⟩
theorem abc_zero : (#[.int .i64 0, .int .i64 0, .int .i64 0, .int .i64 0, .int .i64 0, .int .i64 0, .int .i64 0, .int .i64 0, .int .i64 0, .int .i64 0, .int .i64 0, .int .i64 0, .int .i64 0, .int .i64 0, .int .i64 0, .int .i64 0, .int .i64 0, .int .i64 0, .int .i64 0, .int .i64 0, .int .i64 0, .int .i64 0, .int .i64 0, .int .i64 0, .int .i64 0, .int .i64 0] : Array Value) = abc fun _ => 0 := rfl
theorem OwnL.zero_at {w : World} {base g : Nat} (hg : g = w.heap.size) (hb : base ≤ g) : OwnL (w.alloc (.cells (abc fun _ => 0) 49)) base g (fun _ => 0) := by
  subst hg; exact ⟨hb, heap_alloc_new w _⟩
theorem wp_store_abc {ops : Array Oper} {rest : List Oper} {o : Oper} {a : Act} {w : World} {Q : Exit → Act → World → Prop} (hgd : o.guard = none) (x y : Operand) (ho : o.op = .store 49 x y)
    (base g : Nat) (f f' : Nat → Int) (hx : a.eval x = .pointer (some ⟨g, 0, none⟩)) (hy : a.eval y = .agg (abc f')) (h : OwnL w base g f)
    (hk : wpList Try.prog ops Q rest (a.put o.dst undef) (w.setRow g (abc f'))) : wpList Try.prog ops Q (o :: rest) a w :=
  wpList_store_row hgd 49 x y ho g (abc f') hx hy _ _ h.2 (by rw [abc_size]; exact (zero_of_info abc_info).2) (by rw [abc_size, abc_size]) (abc_one _) hk

theorem index_abc {cs : Array Value} {p : Nat} {v : Int} (h : cs[p]? = some (.int .i64 v)) (hp : p < 26) (w : World) : (Instr.index 49 (.agg cs) (.int .i64 (p : Int))).run Try.prog w = .ok (.int .i64 v) w := by
  have h2 : (0 : Int) ≤ (p : Int) ∧ (p : Int) < 26 := by omega
  simp [Instr.index, asIntOf, go_sem, Try.underlying49, h, h2]
  omega

theorem index_abc8 {cs : Array Value} {p : Nat} {v : Int} (h : cs[p]? = some (.int .i64 v)) (hp : p < 26) (w : World) : (Instr.index 49 (.agg cs) (.int .u8 (p : Int))).run Try.prog w = .ok (.int .i64 v) w := by
  have h2 : (0 : Int) ≤ (p : Int) ∧ (p : Int) < 26 := by omega
  simp [Instr.index, asIntOf, go_sem, Try.underlying49, h, h2]
  omega

theorem letter_at {a : ByteArray} (h : wordB a.data.toList = true) {k : Nat} (hk : k < a.size) : ∃ p : Nat, p < 26 ∧ a[k].toNat = 97 + p := by
  unfold wordB lettersB at h
  simp only [Bool.and_eq_true, List.all_eq_true] at h
  have := h.2 a[k] (by
    rw [show a[k] = a.data.toList[k]'(by rw [len_eq]; exact hk) from rfl]
    exact List.getElem_mem _)
  simp [letterB] at this
  exact ⟨a[k].toNat - 97, by omega, by omega⟩
end Go.Proofs.Ytfcolmjjfoaeeaa
