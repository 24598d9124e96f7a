/- Rows of ints that a call owns: an empty one, one of one number, append of one number (in a walk, in a region), reading. -/
import Derived.Test.YtmolphaihapkkaaBase
import Derived.Maps.AppendAt
import Derived.Deep.AppendLies
namespace Go.Proofs.Ytmolphaihapkkaa
open Go.RowKit
set_option maxHeartbeats 400000
set_option linter.unusedSimpArgs false
set_option linter.unusedVariables false

theorem int_info : (Try.prog.info? 3).map (fun i => (i.zero, i.size, i.bytes)) = some (some (.int .i64 0), 1, 8) := by kernel_rfl

/-- the slice at the head of block g holds the numbers l; the call owns it from base on -/
def OwnI (w : World) (base g n cap : Nat) (l : List Int) : Prop :=
  w.ownsRow base 3 1 (.slice (some ⟨g, 0, none⟩) n cap) n (l.map (Value.int .i64))
theorem OwnI.len {w : World} {base g n cap : Nat} {l : List Int} (h : OwnI w base g n cap l) : l.length = n := by have := h.1; simpa using this
theorem OwnI.lt {w : World} {base g n cap : Nat} {l : List Int} (h : OwnI w base g n cap l) : base ≤ g ∧ g < w.heap.size := World.ownsRow.lt h g rfl
theorem OwnI.caps {w : World} {base g n cap : Nat} {l : List Int} (h : OwnI w base g n cap l) : n ≤ cap ∧ cap ≤ maxLen := by
  rcases h.2 with ⟨hv, _⟩ | ⟨g', cap', cur, hv, _, _, hn, hc, _⟩
  · cases hv
  · cases hv; exact ⟨hn, hc⟩
theorem OwnI.mono {w : World} {base base' g n cap : Nat} {l : List Int} (h : OwnI w base' g n cap l) (hb : base ≤ base') : OwnI w base g n cap l := by
  refine ⟨h.1, ?_⟩
  rcases h.2 with h1 | ⟨g', cap', cur, a, b, c⟩
  · exact .inl h1
  · exact .inr ⟨g', cap', cur, a, Nat.le_trans hb b, c⟩
theorem OwnI.block {w w' : World} {base g n cap : Nat} {l : List Int} (h : OwnI w base g n cap l) (hk : w'.heap[g]? = w.heap[g]?) : OwnI w' base g n cap l := by
  refine ⟨h.1, ?_⟩
  rcases h.2 with ⟨hv, _⟩ | ⟨g', cap', cur, hv, hb, hh, r⟩
  · cases hv
  · cases hv; exact .inr ⟨g, cap, cur, rfl, hb, hk.trans hh, r⟩
theorem OwnI.below {w w' : World} {base g n cap : Nat} {l : List Int} (h : OwnI w base g n cap l) (hb : Below w.heap.size w w') : OwnI w' base g n cap l := h.block (hb.block g h.lt.2)
theorem OwnI.drawn {w w' : World} {base g n cap : Nat} {l : List Int} (h : OwnI w base g n cap l) (hd : Drawn w w') : OwnI w' base g n cap l := h.below hd.below
theorem OwnI.alloc {w : World} {base g n cap : Nat} {l : List Int} (h : OwnI w base g n cap l) (o : Obj) : OwnI (w.alloc o) base g n cap l := h.below ((Below.refl _ _).alloc (Nat.le_refl _) _)
theorem OwnI.grown {w w' : World} {base g n cap b : Nat} {l : List Int} (h : OwnI w base g n cap l) (hg : w.grownBy w' (some b)) (hne : g ≠ b) : OwnI w' base g n cap l :=
  h.block (hg.block g h.lt.2 (fun e => hne (by injection e)))
theorem OwnI.empty (w : World) : OwnI (w.alloc (.cells #[] 3)) w.heap.size w.heap.size 0 0 [] :=
  ⟨rfl, .inr ⟨w.heap.size, 0, #[], rfl, Nat.le_refl _, heap_alloc_new w _, Nat.le_refl _, Nat.zero_le _, rfl, rfl⟩⟩
theorem OwnI.lit (w : World) (v : Int) : OwnI (w.alloc (.cells #[.int .i64 v] 3)) w.heap.size w.heap.size 1 1 [v] :=
  ⟨rfl, .inr ⟨w.heap.size, 1, #[.int .i64 v], rfl, Nat.le_refl _, heap_alloc_new w _, Nat.le_refl _, by unfold maxLen; omega, rfl, rfl⟩⟩
/-- what stands at a place -/
theorem OwnI.at_ {w : World} {base g n cap k : Nat} {l : List Int} {v : Int} (h : OwnI w base g n cap l) (hv : l[k]? = some v) : w.cell? ⟨g, k, none⟩ = some (.int .i64 v) := by
  rcases h.2 with ⟨e, _⟩ | ⟨g', cap', cur, e, _, hh, _, _, _, hx⟩
  · cases e
  · cases e
    rw [cell_of_row w g k cur _ _ hh]
    have hk := (List.getElem?_eq_some_iff.1 hv).1
    have : (l.map (Value.int .i64))[k]? = some (.int .i64 v) := by rw [List.getElem?_map, hv]; rfl
    rw [← hx] at this
    have hl := h.len
    rw [List.getElem?_take_of_lt (by omega)] at this
    simpa using this

/-- a store into the row -/
theorem OwnI.stored {w : World} {base g n cap k : Nat} {l : List Int} (h : OwnI w base g n cap l) (v : Int) :
    OwnI (w.setCell ⟨g, k, none⟩ (.int .i64 v)) base g n cap (l.set k v) := by
  have h2 := (World.ownsRow.stored h k (.int .i64 v)).1
  unfold OwnI
  rw [List.map_set]
  exact h2
theorem OwnI.frozen {w : World} {base g n cap : Nat} {l : List Int} (h : OwnI w base g n cap l) (k : Nat) : w.frozen? ⟨g, k, none⟩ = false := World.ownsRow.frozenAt h k
/-- another block's cell is stored into -/
theorem OwnI.setCell {w : World} {base g n cap : Nat} {l : List Int} (h : OwnI w base g n cap l) {p : Addr} (v : Value) (hne : g ≠ p.block) : OwnI (w.setCell p v) base g n cap l :=
  h.block (by simp [World.setCell, Array.getElem?_modify, Ne.symm hne])
/-- a new row of zeros -/
theorem OwnI.zeros {w : World} {base n : Nat} {g cap : Nat} (h : w.ownsRow base 3 1 (.slice (some ⟨g, 0, none⟩) n cap) n (madeCells (Value.int .i64 0).cells (n * 1)).toList) : OwnI w base g n cap (List.replicate n 0) := by
  rw [Nat.mul_one, show (Value.int .i64 0).cells = #[.int .i64 0] from rfl, toList_madeCells_one] at h
  unfold OwnI
  rw [List.map_replicate]
  exact h

/-- append of one number onto a row of the call's own: where the new slice lies, and that what stood in the old one stands there -/
theorem run_append_int (w : World) (ty base g n cap c h : Nat) (l : List Int) (v : Int) (hown : OwnI w base g n cap l) (hv : w.cell? ⟨h, 0, none⟩ = some (.int .i64 v)) (hb : base ≤ w.heap.size) (hsm : n + 1 ≤ 8000000000) :
    ∃ g' cap' w', (Builtin.append_ #[90, 90] ty #[.slice (some ⟨g, 0, none⟩) n cap, .slice (some ⟨h, 0, none⟩) 1 c]).run Try.prog w = .ok (.slice (some ⟨g', 0, none⟩) (n + 1) cap') w' ∧
      OwnI w' base g' (n + 1) cap' (l ++ [v]) ∧ w.grownBy w' (some g) ∧ (g' = g ∨ (g' = w.heap.size ∧ w.grownBy w' none)) ∧ ∀ j, j < n → w'.cell? ⟨g, j, none⟩ = w.cell? ⟨g, j, none⟩ := by
  obtain ⟨i0, hi0, hz0, hz1, hz2⟩ := info_parts int_info
  have hnews : ∀ j u, [Value.int .i64 v][j]? = some u → w.cell? ((⟨h, 0, none⟩ : Addr).add j) = some u := by
    intro j u hu
    cases j with
    | zero => simp at hu; subst hu; simpa [Addr.add] using hv
    | succ j => simp at hu
  obtain ⟨v', w', hr, h2, h3, -, -⟩ := run_append_own_at (P := Try.prog) w base 90 ty 3 i0 _ 1 8 Try.underlying90 hi0 hz0 hz1 hz2 rfl (by omega) _ n _ hown ⟨h, 0, none⟩ 1 c [.int .i64 v] rfl hnews (by simp [Value.oneCell']) (by unfold maxLen; omega) (by omega) hb
  have h2' : w'.ownsRow base 3 1 v' (n + 1) ((l ++ [v]).map (Value.int .i64)) := by rw [List.map_append]; exact h2
  have hget : ∀ j, j < n → ∃ x, l[j]? = some x := fun j hj => ⟨_, List.getElem?_eq_getElem (by rw [hown.len]; exact hj)⟩
  by_cases hroom : n + 1 ≤ cap
  · rcases hown.2 with ⟨hx, _⟩ | ⟨g0, cap0, cur, hx, _, hh, _, _, hcs, _⟩
    · cases hx
    · cases hx
      have hr2 := run_append_room (P := Try.prog) w 90 ty 3 i0 Try.underlying90 hi0 g n cap cur hh ⟨h, 0, none⟩ 1 c [.int .i64 v] (by rw [hz1]; rfl) hnews (by simp [Value.oneCell']) hroom (by rw [hz1, hcs]; simp; omega)
      rw [hr] at hr2
      injection hr2 with e1 e2
      subst e1
      have hown' : OwnI w' base g (n + 1) cap (l ++ [v]) := h2'
      refine ⟨g, cap, w', hr, hown', h3, .inl rfl, fun j hj => ?_⟩
      obtain ⟨x, hx⟩ := hget j hj
      rw [hown.at_ hx, hown'.at_ (v := x) (by rw [List.getElem?_append_left (by rw [hown.len]; exact hj)]; exact hx)]
  · have hr2 := run_append_grow (P := Try.prog) w 90 ty 3 i0 _ Try.underlying90 hi0 hz0 ⟨g, 0, none⟩ n cap (l.map (Value.int .i64)) (by rw [hz1]; exact hown.1) (World.ownsRow.cells hown (g := g) rfl) ⟨h, 0, none⟩ 1 c [.int .i64 v] (by rw [hz1]; rfl) hnews (by omega) (by omega) (growslice_fits (by omega) (by rw [hz2]; omega))
    rw [hr] at hr2
    injection hr2 with e1 e2
    subst e1
    have hgn : w.grownBy w' none := by
      rw [e2]
      exact ⟨rfl, rfl, rfl, by simp, fun k hk _ => heap_alloc_old w.drew _ hk⟩
    refine ⟨w.heap.size, _, w', hr, h2', h3, .inr ⟨rfl, hgn⟩, fun j hj => ?_⟩
    exact hgn.cell_far _ hown.lt.2 (by simp)

theorem step_append_int {ops : Array Oper} {o : Oper} {a : Act} {w : World} {K : Act → World → Prop} {Q : Exit → Act → World → Prop} {E : Prop} (hw : Region.wanted o (yielded ops a.tmps) = true) (s x : Operand)
    (ho : o.op = .call { callee := .builtin .append, args := #[s, x], argTypes := #[90, 90] })
    (base g n cap c h : Nat) (l : List Int) (v : Int) (hs : a.eval s = .slice (some ⟨g, 0, none⟩) n cap) (hown : OwnI w base g n cap l) (hx : a.eval x = .slice (some ⟨h, 0, none⟩) 1 c)
    (hv : w.cell? ⟨h, 0, none⟩ = some (.int .i64 v)) (hb : base ≤ w.heap.size) (hsm : n + 1 ≤ 8000000000)
    (hk : ∀ g' cap' w', OwnI w' base g' (n + 1) cap' (l ++ [v]) → w.grownBy w' (some g) → (g' = g ∨ (g' = w.heap.size ∧ w.grownBy w' none)) → (∀ j, j < n → w'.cell? ⟨g, j, none⟩ = w.cell? ⟨g, j, none⟩) → K (a.put o.dst (.slice (some ⟨g', 0, none⟩) (n + 1) cap')) w') :
    if Region.wanted o (yielded ops a.tmps) = true then Oper.wp Try.prog o a w K Q else E := by
  rw [if_pos hw]
  obtain ⟨g', cap', w', hr, h2, h3, h4, h5⟩ := run_append_int w o.type base g n cap c h l v hown hv hb hsm
  unfold Oper.wp execOp
  simp only [ho, resolve, invoke, builtin, Sem.run_bind, Sem.run_pure, Result.andThen_ok, List.map_toArray, List.map_cons, List.map_nil, hs, hx, hr]
  exact hk g' cap' w' h2 h3 h4 h5
theorem wp_append_int {ops : Array Oper} {rest : List Oper} {o : Oper} {a : Act} {w : World} {Q : Exit → Act → World → Prop} (hgd : o.guard = none) (s x : Operand)
    (ho : o.op = .call { callee := .builtin .append, args := #[s, x], argTypes := #[90, 90] })
    (base g n cap c h : Nat) (l : List Int) (v : Int) (hs : a.eval s = .slice (some ⟨g, 0, none⟩) n cap) (hown : OwnI w base g n cap l) (hx : a.eval x = .slice (some ⟨h, 0, none⟩) 1 c)
    (hv : w.cell? ⟨h, 0, none⟩ = some (.int .i64 v)) (hb : base ≤ w.heap.size) (hsm : n + 1 ≤ 8000000000)
    (hk : ∀ g' cap' w', OwnI w' base g' (n + 1) cap' (l ++ [v]) → w.grownBy w' (some g) → (g' = g ∨ (g' = w.heap.size ∧ w.grownBy w' none)) → (∀ j, j < n → w'.cell? ⟨g, j, none⟩ = w.cell? ⟨g, j, none⟩) → wpList Try.prog ops Q rest (a.put o.dst (.slice (some ⟨g', 0, none⟩) (n + 1) cap')) w') : wpList Try.prog ops Q (o :: rest) a w := by
  obtain ⟨g', cap', w', hr, h2, h3, h4, h5⟩ := run_append_int w o.type base g n cap c h l v hown hv hb hsm
  refine wpList_plain hgd fun K hK => ?_
  unfold Oper.wp execOp
  simp only [ho, resolve, invoke, builtin, Sem.run_bind, Sem.run_pure, Result.andThen_ok, List.map_toArray, List.map_cons, List.map_nil, hs, hx, hr]
  exact hK _ _ (hk g' cap' w' h2 h3 h4 h5)
end Go.Proofs.Ytmolphaihapkkaa
