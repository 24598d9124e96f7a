/- Rows of slices of ints that a call owns: an empty one, append of one slice, reading. -/
import Derived.Test.YtacnaipcjihkkaaInts
namespace Go.Proofs.Ytacnaipcjihkkaa
open Go.RowKit
set_option maxHeartbeats 400000
set_option linter.unusedSimpArgs false
set_option linter.unusedVariables false

theorem ints_info : (Try.prog.info? 40).map (fun i => (i.zero, i.size, i.bytes)) = some (some (.slice none 0 0), 1, 24) := by kernel_rfl

/-- the slice at the head of block g holds the slices l; the call owns it from base on -/
def OwnV (w : World) (base g n cap : Nat) (l : List Value) : Prop :=
  w.ownsRow base 40 1 (.slice (some ⟨g, 0, none⟩) n cap) n l
theorem OwnV.len {w : World} {base g n cap : Nat} {l : List Value} (h : OwnV w base g n cap l) : l.length = n := by have := h.1; simpa using this
theorem OwnV.lt {w : World} {base g n cap : Nat} {l : List Value} (h : OwnV w base g n cap l) : base ≤ g ∧ g < w.heap.size := World.ownsRow.lt h g rfl
theorem OwnV.caps {w : World} {base g n cap : Nat} {l : List Value} (h : OwnV w base g n cap l) : n ≤ cap ∧ cap ≤ maxLen := by
  rcases h.2 with ⟨hv, _⟩ | ⟨g', cap', cur, hv, _, _, hn, hc, _⟩
  · cases hv
  · cases hv; exact ⟨hn, hc⟩
theorem OwnV.mono {w : World} {base base' g n cap : Nat} {l : List Value} (h : OwnV w base' g n cap l) (hb : base ≤ base') : OwnV w base g n cap l := by
  refine ⟨h.1, ?_⟩
  rcases h.2 with h1 | ⟨g', cap', cur, a, b, c⟩
  · exact .inl h1
  · exact .inr ⟨g', cap', cur, a, Nat.le_trans hb b, c⟩
theorem OwnV.block {w w' : World} {base g n cap : Nat} {l : List Value} (h : OwnV w base g n cap l) (hk : w'.heap[g]? = w.heap[g]?) : OwnV w' base g n cap l := by
  refine ⟨h.1, ?_⟩
  rcases h.2 with ⟨hv, _⟩ | ⟨g', cap', cur, hv, hb, hh, r⟩
  · cases hv
  · cases hv; exact .inr ⟨g, cap, cur, rfl, hb, hk.trans hh, r⟩
theorem OwnV.below {w w' : World} {base g n cap : Nat} {l : List Value} (h : OwnV w base g n cap l) (hb : Below w.heap.size w w') : OwnV w' base g n cap l := h.block (hb.block g h.lt.2)
theorem OwnV.drawn {w w' : World} {base g n cap : Nat} {l : List Value} (h : OwnV w base g n cap l) (hd : Drawn w w') : OwnV w' base g n cap l := h.below hd.below
theorem OwnV.alloc {w : World} {base g n cap : Nat} {l : List Value} (h : OwnV w base g n cap l) (o : Obj) : OwnV (w.alloc o) base g n cap l := h.below ((Below.refl _ _).alloc (Nat.le_refl _) _)
theorem OwnV.grown {w w' : World} {base g n cap b : Nat} {l : List Value} (h : OwnV w base g n cap l) (hg : w.grownBy w' (some b)) (hne : g ≠ b) : OwnV w' base g n cap l :=
  h.block (hg.block g h.lt.2 (fun e => hne (by injection e)))
theorem OwnV.empty (w : World) : OwnV (w.alloc (.cells #[] 40)) w.heap.size w.heap.size 0 0 [] :=
  ⟨rfl, .inr ⟨w.heap.size, 0, #[], rfl, Nat.le_refl _, heap_alloc_new w _, Nat.le_refl _, Nat.zero_le _, rfl, rfl⟩⟩
/-- what stands at a place -/
theorem OwnV.at_ {w : World} {base g n cap k : Nat} {l : List Value} {v : Value} (h : OwnV w base g n cap l) (hv : l[k]? = some v) : w.cell? ⟨g, k, none⟩ = some v := by
  rcases h.2 with ⟨e, _⟩ | ⟨g', cap', cur, e, _, hh, _, _, _, hx⟩
  · cases e
  · cases e
    rw [cell_of_row w g k cur _ _ hh]
    have hk := (List.getElem?_eq_some_iff.1 hv).1
    have : l[k]? = some v := hv
    rw [← hx] at this
    have hl := h.len
    rw [List.getElem?_take_of_lt (by omega)] at this
    simpa using this

/-- another block's cell is stored into -/
theorem OwnV.setCell {w : World} {base g n cap : Nat} {l : List Value} (h : OwnV w base g n cap l) {p : Addr} (v : Value) (hne : g ≠ p.block) : OwnV (w.setCell p v) base g n cap l :=
  h.block (by simp [World.setCell, Array.getElem?_modify, Ne.symm hne])
/-- append of one slice onto a row of the call's own: where the new slice lies, and that what stood in the old one stands there -/
theorem run_append_row (w : World) (ty base g n cap c h : Nat) (l : List Value) (v : Value) (hown : OwnV w base g n cap l) (hv : w.cell? ⟨h, 0, none⟩ = some v) (hb : base ≤ w.heap.size) (hsm : n + 1 ≤ 1000000000) (h1v : v.oneCell' = true) :
    ∃ g' cap' w', (Builtin.append_ #[39, 39] ty #[.slice (some ⟨g, 0, none⟩) n cap, .slice (some ⟨h, 0, none⟩) 1 c]).run Try.prog w = .ok (.slice (some ⟨g', 0, none⟩) (n + 1) cap') w' ∧
      OwnV w' base g' (n + 1) cap' (l ++ [v]) ∧ w.grownBy w' (some g) ∧ (g' = g ∨ (g' = w.heap.size ∧ w.grownBy w' none)) ∧ ∀ j, j < n → w'.cell? ⟨g, j, none⟩ = w.cell? ⟨g, j, none⟩ := by
  obtain ⟨i0, hi0, hz0, hz1, hz2⟩ := info_parts ints_info
  have hnews : ∀ j u, [v][j]? = some u → w.cell? ((⟨h, 0, none⟩ : Addr).add j) = some u := by
    intro j u hu
    cases j with
    | zero => simp at hu; subst hu; simpa [Addr.add] using hv
    | succ j => simp at hu
  obtain ⟨v', w', hr, h2, h3, -, -⟩ := run_append_own_at (P := Try.prog) w base 39 ty 40 i0 _ 1 24 Try.underlying39 hi0 hz0 hz1 hz2 rfl (by omega) _ n _ hown ⟨h, 0, none⟩ 1 c [v] rfl hnews (by simpa using h1v) (by unfold maxLen; omega) (by omega) hb
  have h2' : w'.ownsRow base 40 1 v' (n + 1) (l ++ [v]) := h2
  have hget : ∀ j, j < n → ∃ x, l[j]? = some x := fun j hj => ⟨_, List.getElem?_eq_getElem (by rw [hown.len]; exact hj)⟩
  by_cases hroom : n + 1 ≤ cap
  · rcases hown.2 with ⟨hx, _⟩ | ⟨g0, cap0, cur, hx, _, hh, _, _, hcs, _⟩
    · cases hx
    · cases hx
      have hr2 := run_append_room (P := Try.prog) w 39 ty 40 i0 Try.underlying39 hi0 g n cap cur hh ⟨h, 0, none⟩ 1 c [v] (by rw [hz1]; rfl) hnews (by simpa using h1v) hroom (by rw [hz1, hcs]; simp; omega)
      rw [hr] at hr2
      injection hr2 with e1 e2
      subst e1
      have hown' : OwnV w' base g (n + 1) cap (l ++ [v]) := h2'
      refine ⟨g, cap, w', hr, hown', h3, .inl rfl, fun j hj => ?_⟩
      obtain ⟨x, hx⟩ := hget j hj
      rw [hown.at_ hx, hown'.at_ (v := x) (by rw [List.getElem?_append_left (by rw [hown.len]; exact hj)]; exact hx)]
  · have hr2 := run_append_grow (P := Try.prog) w 39 ty 40 i0 _ Try.underlying39 hi0 hz0 ⟨g, 0, none⟩ n cap l (by rw [hz1]; exact hown.1) (World.ownsRow.cells hown (g := g) rfl) ⟨h, 0, none⟩ 1 c [v] (by rw [hz1]; rfl) hnews (by omega) (by omega) (growslice_fits (by omega) (by rw [hz2]; omega))
    rw [hr] at hr2
    injection hr2 with e1 e2
    subst e1
    have hgn : w.grownBy w' none := by
      rw [e2]
      exact ⟨rfl, rfl, rfl, by simp, fun k hk _ => heap_alloc_old w.drew _ hk⟩
    refine ⟨w.heap.size, _, w', hr, h2', h3, .inr ⟨rfl, hgn⟩, fun j hj => ?_⟩
    exact hgn.cell_far _ hown.lt.2 (by simp)

theorem step_append_row {ops : Array Oper} {o : Oper} {a : Act} {w : World} {K : Act → World → Prop} {Q : Exit → Act → World → Prop} {E : Prop} (hw : Region.wanted o (yielded ops a.tmps) = true) (s x : Operand)
    (ho : o.op = .call { callee := .builtin .append, args := #[s, x], argTypes := #[39, 39] })
    (base g n cap c h : Nat) (l : List Value) (v : Value) (hs : a.eval s = .slice (some ⟨g, 0, none⟩) n cap) (hown : OwnV w base g n cap l) (hx : a.eval x = .slice (some ⟨h, 0, none⟩) 1 c)
    (hv : w.cell? ⟨h, 0, none⟩ = some v) (hb : base ≤ w.heap.size) (hsm : n + 1 ≤ 1000000000) (h1v : v.oneCell' = true)
    (hk : ∀ g' cap' w', OwnV w' base g' (n + 1) cap' (l ++ [v]) → w.grownBy w' (some g) → (g' = g ∨ (g' = w.heap.size ∧ w.grownBy w' none)) → (∀ j, j < n → w'.cell? ⟨g, j, none⟩ = w.cell? ⟨g, j, none⟩) → K (a.put o.dst (.slice (some ⟨g', 0, none⟩) (n + 1) cap')) w') :
    if Region.wanted o (yielded ops a.tmps) = true then Oper.wp Try.prog o a w K Q else E := by
  rw [if_pos hw]
  obtain ⟨g', cap', w', hr, h2, h3, h4, h5⟩ := run_append_row w o.type base g n cap c h l v hown hv hb hsm h1v
  unfold Oper.wp execOp
  simp only [ho, resolve, invoke, builtin, Sem.run_bind, Sem.run_pure, Result.andThen_ok, List.map_toArray, List.map_cons, List.map_nil, hs, hx, hr]
  exact hk g' cap' w' h2 h3 h4 h5
theorem wp_append_row {ops : Array Oper} {rest : List Oper} {o : Oper} {a : Act} {w : World} {Q : Exit → Act → World → Prop} (hgd : o.guard = none) (s x : Operand)
    (ho : o.op = .call { callee := .builtin .append, args := #[s, x], argTypes := #[39, 39] })
    (base g n cap c h : Nat) (l : List Value) (v : Value) (hs : a.eval s = .slice (some ⟨g, 0, none⟩) n cap) (hown : OwnV w base g n cap l) (hx : a.eval x = .slice (some ⟨h, 0, none⟩) 1 c)
    (hv : w.cell? ⟨h, 0, none⟩ = some v) (hb : base ≤ w.heap.size) (hsm : n + 1 ≤ 1000000000) (h1v : v.oneCell' = true)
    (hk : ∀ g' cap' w', OwnV w' base g' (n + 1) cap' (l ++ [v]) → w.grownBy w' (some g) → (g' = g ∨ (g' = w.heap.size ∧ w.grownBy w' none)) → (∀ j, j < n → w'.cell? ⟨g, j, none⟩ = w.cell? ⟨g, j, none⟩) → wpList Try.prog ops Q rest (a.put o.dst (.slice (some ⟨g', 0, none⟩) (n + 1) cap')) w') : wpList Try.prog ops Q (o :: rest) a w := by
  obtain ⟨g', cap', w', hr, h2, h3, h4, h5⟩ := run_append_row w o.type base g n cap c h l v hown hv hb hsm h1v
  refine wpList_plain hgd fun K hK => ?_
  unfold Oper.wp execOp
  simp only [ho, resolve, invoke, builtin, Sem.run_bind, Sem.run_pure, Result.andThen_ok, List.map_toArray, List.map_cons, List.map_nil, hs, hx, hr]
  exact hK _ _ (hk g' cap' w' h2 h3 h4 h5)
end Go.Proofs.Ytacnaipcjihkkaa
