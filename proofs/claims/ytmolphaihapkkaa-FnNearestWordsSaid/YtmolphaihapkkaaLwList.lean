/- The walk of the law FnListValid. -/
import Derived.Test.YtmolphaihapkkaaListDraw
import Derived.Deep.RegionHeld3
import Derived.Deep.RegionLaw
import Derived.Deep.RegionWith
import Derived.Deep.AppendLies
namespace Go.Proofs.Ytmolphaihapkkaa
open Go.RowKit
set_option maxHeartbeats 1600000
set_option linter.unusedSimpArgs false
set_option linter.unusedVariables false

/-- the append's law at a step of a region that draws its order -/
theorem step_append_texts {ops : Array Oper} {o : Oper} {a : Act} {w : World} {K : Act → World → Prop} {Q : Exit → Act → World → Prop} {E : Prop} (hw : Region.wanted o (yielded ops a.tmps) = true) (s x : Operand)
    (ho : o.op = .call { callee := .builtin .append, args := #[s, x], argTypes := #[30, 30] })
    (base B g n cap m c : Nat) (l ss : List ByteArray) (A : Option Addr) (hs : a.eval s = .slice (some ⟨g, 0, none⟩) n cap) (hown : OwnS w base g n cap l) (hx : a.eval x = .slice A m c) (hr : Strs w B A m ss)
    (hb : base ≤ w.heap.size) (hsm : n + m ≤ 8000000000)
    (h : ∀ g' cap' w', OwnS w' base g' (n + m) cap' (l ++ ss) → w.grownBy w' (some g) → (g' = g ∨ g' = w.heap.size) → K (a.put o.dst (.slice (some ⟨g', 0, none⟩) (n + m) cap')) w') :
    if Region.wanted o (yielded ops a.tmps) = true then Oper.wp Try.prog o a w K Q else E := by
  rw [if_pos hw]
  obtain ⟨v', w', hrun, h2, h3, h4, h5⟩ := run_append_strs w o.type base B n m c _ _ hown.1 A ss hr hb hsm
  have hv := h4 (by simp)
  unfold Oper.wp execOp
  simp only [ho, resolve, invoke, builtin, Sem.run_bind, Sem.run_pure, Result.andThen_ok, List.map_toArray, List.map_cons, List.map_nil, hs, hx, hrun]
  have hall : ∀ t ∈ l ++ ss, t.size ≤ maxLen := by
    intro t ht
    rcases List.mem_append.1 ht with h | h
    · exact hown.2 t h
    · exact hr.2.1 t h
  rcases h2.2 with ⟨e, _⟩ | ⟨g', cap', cur, e, hbg, hh, r⟩
  · exact absurd e hv
  · subst e
    exact h g' cap' w' ⟨by rw [List.map_append]; exact h2, hall⟩ h3 (by simpa [Value.ownBlock] using h5)

theorem Drawn.of_drew {w w' : World} (h : Drawn w.drew w') : Drawn w w' := ((Drawn.refl w).drewN 1).trans h
theorem OwnS.empty2 (w : World) (o : Obj) : OwnS ((w.alloc o).alloc (.cells #[] 9)) w.heap.size (w.heap.size + 1) 0 0 [] := by
  have := OwnS.empty (w.alloc o)
  simp at this
  exact this.mono (by omega)
/-- the first of two new blocks, of one text, stands behind an append onto the second -/
theorem strs_first_grown {w w' : World} {o : Obj} {s : ByteArray} (hs : s.size ≤ maxLen) (hg : ((w.alloc (.cells #[.string s] 9)).alloc o).grownBy w' (some (w.heap.size + 1))) :
    Strs w' (w.heap.size + 1) (some ⟨w.heap.size, 0, none⟩) 1 [s] :=
  ((Strs.one w s hs).alloc (by simp) o).keep fun p hp => hg.cell_far p (by simp; omega) (by simp; omega)
/-- the second of two new blocks, of one text -/
theorem strs_second (w : World) (o : Obj) (s : ByteArray) (hs : s.size ≤ maxLen) : Strs ((w.alloc o).alloc (.cells #[.string s] 9)) (w.heap.size + 2) (some ⟨w.heap.size + 1, 0, none⟩) 1 [s] := by
  simpa using Strs.one (w.alloc o) s hs
/-- it stands behind an append onto the first -/
theorem strs_second_grown {w w' : World} {o : Obj} {s : ByteArray} (hs : s.size ≤ maxLen) (hg : ((w.alloc o).alloc (.cells #[.string s] 9)).grownBy w' (some w.heap.size)) :
    Strs w' (w.heap.size + 2) (some ⟨w.heap.size + 1, 0, none⟩) 1 [s] := by
  obtain ⟨h1, h2, h3⟩ := strs_second w o s hs
  refine ⟨h1, h2, fun _ => ⟨w.heap.size + 1, 0, rfl, by omega, fun j t hj => ?_⟩⟩
  obtain ⟨b, o', e, _, hc⟩ := h3 (by omega)
  injection e with e; injection e with e1 e2; subst e1; subst e2
  exact (hg.cell_far ⟨w.heap.size + 1, 0 + j, none⟩ (by simp) (by simp)).trans (hc j t hj)
theorem filled_drop {l : List ByteArray} (h : filledB l = true) (k : Nat) : filledB (l.drop k) = true := by
  unfold filledB at *
  rw [Bool.and_eq_true, decide_eq_true_iff, List.all_eq_true] at *
  exact ⟨by rw [List.length_drop]; omega, fun x hx => h.2 x (List.mem_of_mem_drop hx)⟩
theorem asc_drop {l : List ByteArray} (h : ascB l = true) (k : Nat) : ascB (l.drop k) = true := by
  rw [asc_iff] at *
  intro j s t hs ht
  rw [List.getElem?_drop] at hs ht
  exact h (k + j) s t hs (by rw [← ht]; congr 1)
theorem list_drop {l : List ByteArray} (h : listB l = true) (k : Nat) : listB (l.drop k) = true := by
  unfold listB at *
  rw [Bool.and_eq_true] at *
  exact ⟨filled_drop h.1 k, asc_drop h.2 k⟩
theorem list_again {l : List ByteArray} {s : ByteArray} (h : listB l = true) (hs : l[0]? = some s) : listB (l ++ [s]) = false := by
  rw [Bool.eq_false_iff]
  intro h2
  have ha : ascB (l ++ [s]) = true := by unfold listB at h2; simp at h2; exact h2.2
  have hl := (List.getElem?_eq_some_iff.1 hs).1
  have h0 : (l ++ [s])[0]? = some s := by rw [List.getElem?_append_left hl]; exact hs
  have hn : (l ++ [s])[l.length]? = some s := by simp
  have := asc_lt ha (l.length - 1) 0 s s h0 (by rw [← hn]; congr 1; omega)
  rw [ltS_irrefl] at this
  cases this

end Go.Proofs.Ytmolphaihapkkaa
