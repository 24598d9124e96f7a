/- Rows of texts that a call owns: append of a slice of texts, of one text; what the sort and the compaction leave. -/
import Derived.Test.YtmolphaihapkkaaSlc
import Derived.Sort.OwnSorted
import Derived.Maps.AppendAt
namespace Go.Proofs.Ytmolphaihapkkaa
open Go.RowKit
set_option maxHeartbeats 400000
set_option linter.unusedSimpArgs false
set_option linter.unusedVariables false

/-- the slice at the head of block g holds the texts l; the call owns it from base on -/
def OwnS (w : World) (base g n cap : Nat) (l : List ByteArray) : Prop :=
  w.ownsRow base 9 1 (.slice (some ⟨g, 0, none⟩) n cap) n (l.map Value.string) ∧ ∀ s ∈ l, s.size ≤ maxLen
theorem own_mono {w : World} {base base' e size n : Nat} {v : Value} {xs : List Value} (h : w.ownsRow base' e size v n xs) (hb : base ≤ base') : w.ownsRow base e size v n xs := by
  refine ⟨h.1, ?_⟩
  rcases h.2 with h1 | ⟨g, cap, cur, a, b, c⟩
  · exact .inl h1
  · exact .inr ⟨g, cap, cur, a, Nat.le_trans hb b, c⟩
theorem OwnS.mono {w : World} {base base' g n cap : Nat} {l : List ByteArray} (h : OwnS w base' g n cap l) (hb : base ≤ base') : OwnS w base g n cap l := ⟨own_mono h.1 hb, h.2⟩
theorem OwnS.len {w : World} {base g n cap : Nat} {l : List ByteArray} (h : OwnS w base g n cap l) : l.length = n := by have := h.1.1; simpa using this
theorem OwnS.lt {w : World} {base g n cap : Nat} {l : List ByteArray} (h : OwnS w base g n cap l) : base ≤ g ∧ g < w.heap.size := h.1.lt g rfl
theorem OwnS.caps {w : World} {base g n cap : Nat} {l : List ByteArray} (h : OwnS w base g n cap l) : n ≤ cap ∧ cap ≤ maxLen := by
  rcases h.1.2 with ⟨hv, _⟩ | ⟨g', cap', cur, hv, _, _, hn, hc, _⟩
  · cases hv
  · cases hv; exact ⟨hn, hc⟩
theorem OwnS.strs {w : World} {base g n cap : Nat} {l : List ByteArray} (h : OwnS w base g n cap l) : Strs w w.heap.size (some ⟨g, 0, none⟩) n l := Strs.of_own h.1 h.2
theorem OwnS.block {w w' : World} {base g n cap : Nat} {l : List ByteArray} (h : OwnS w base g n cap l) (hk : w'.heap[g]? = w.heap[g]?) : OwnS w' base g n cap l := by
  refine ⟨⟨h.1.1, ?_⟩, h.2⟩
  rcases h.1.2 with ⟨hv, _⟩ | ⟨g', cap', cur, hv, hb, hh, r⟩
  · cases hv
  · cases hv; exact .inr ⟨g, cap, cur, rfl, hb, hk.trans hh, r⟩
theorem OwnS.below {w w' : World} {base g n cap : Nat} {l : List ByteArray} (h : OwnS w base g n cap l) (hb : Below w.heap.size w w') : OwnS w' base g n cap l := h.block (hb.block g h.lt.2)
theorem OwnS.drawn {w w' : World} {base g n cap : Nat} {l : List ByteArray} (h : OwnS w base g n cap l) (hd : Drawn w w') : OwnS w' base g n cap l := h.below hd.below
theorem OwnS.grown {w w' : World} {base g n cap b : Nat} {l : List ByteArray} (h : OwnS w base g n cap l) (hg : w.grownBy w' (some b)) (hne : g ≠ b) : OwnS w' base g n cap l :=
  h.block (hg.block g h.lt.2 (fun e => hne (by injection e)))
/-- an empty slice that is not nil -/
theorem OwnS.empty (w : World) : OwnS (w.alloc (.cells #[] 9)) w.heap.size w.heap.size 0 0 [] :=
  ⟨⟨rfl, .inr ⟨w.heap.size, 0, #[], rfl, Nat.le_refl _, heap_alloc_new w _, Nat.le_refl _, Nat.zero_le _, rfl, rfl⟩⟩, by simp⟩
theorem OwnS.lit (w : World) (s : ByteArray) (hs : s.size ≤ maxLen) : OwnS (w.alloc (.cells #[.string s] 9)) w.heap.size w.heap.size 1 1 [s] :=
  ⟨⟨rfl, .inr ⟨w.heap.size, 1, #[.string s], rfl, Nat.le_refl _, heap_alloc_new w _, Nat.le_refl _, by unfold maxLen; omega, rfl, rfl⟩⟩, by simpa using hs⟩
/-- a new block of one text reads so -/
theorem Strs.one (w : World) (s : ByteArray) (hs : s.size ≤ maxLen) : Strs (w.alloc (.cells #[.string s] 9)) (w.heap.size + 1) (some ⟨w.heap.size, 0, none⟩) 1 [s] := by
  have := (OwnS.lit w s hs).strs
  simpa using this
/-- the first k texts; those from k on -/
theorem Strs.head {w : World} {B n k : Nat} {A : Option Addr} {l : List ByteArray} (h : Strs w B A n l) (hk : k ≤ n) : Strs w B A k (l.take k) :=
  ⟨by have := h.1; rw [List.length_take]; omega, fun s hs => h.2.1 s (List.mem_of_mem_take hs), fun h0 => by
    obtain ⟨b, o, e, hb, hc⟩ := h.2.2 (by omega)
    refine ⟨b, o, e, hb, fun j s hs => hc j s ?_⟩
    have hj : j < k := by have := (List.getElem?_eq_some_iff.1 hs).1; simp at this; omega
    rwa [List.getElem?_take_of_lt hj] at hs⟩
theorem Strs.tail {w : World} {B n k b o : Nat} {l : List ByteArray} (h : Strs w B (some ⟨b, o, none⟩) n l) (hk : k ≤ n) : Strs w B (some ⟨b, o + k, none⟩) (n - k) (l.drop k) :=
  ⟨by have := h.1; rw [List.length_drop]; omega, fun s hs => h.2.1 s (List.mem_of_mem_drop hs), fun h0 => by
    obtain ⟨b', o', e, hb, hc⟩ := h.2.2 (by omega)
    injection e with e; injection e with e1 e2; subst e1; subst e2
    refine ⟨b, o + k, rfl, hb, fun j s hs => ?_⟩
    rw [List.getElem?_drop] at hs
    have := hc _ s hs
    rwa [← Nat.add_assoc] at this⟩
theorem Strs.nothing {w : World} {B : Nat} (A : Option Addr) : Strs w B A 0 [] := ⟨rfl, by simp, fun h => absurd h (by omega)⟩

theorem one_cells (ss : List ByteArray) : ∀ u ∈ ss.map Value.string, u.oneCell' = true := by
  intro u hu
  obtain ⟨s, _, rfl⟩ := List.mem_map.1 hu
  rfl

/-- append of a slice of texts onto a row of the call's own: what the builtin does -/
theorem run_append_strs (w : World) (ty base B n m c : Nat) (v : Value) (xs : List Value) (hown : w.ownsRow base 9 1 v n xs) (A : Option Addr) (ss : List ByteArray) (hr : Strs w B A m ss)
    (hb : base ≤ w.heap.size) (hs : n + m ≤ 8000000000) :
    ∃ v' w', (Builtin.append_ #[30, 30] ty #[v, .slice A m c]).run Try.prog w = .ok v' w' ∧ w'.ownsRow base 9 1 v' (n + m) (xs ++ ss.map Value.string) ∧ w.grownBy w' v.ownBlock ∧ (v ≠ .slice none 0 0 → v' ≠ .slice none 0 0) ∧ (v'.ownBlock = v.ownBlock ∨ v'.ownBlock = some w.heap.size) := by
  obtain ⟨i0, hi0, hz0, hz1, hz2⟩ := info_parts str_info
  have hl : (ss.map Value.string).length = m * 1 := by rw [List.length_map, hr.1]; omega
  by_cases hm : m = 0
  · subst hm
    obtain rfl : ss = [] := List.eq_nil_of_length_eq_zero hr.1
    have case0 : ∀ A : Option Addr, (Builtin.append_ #[30, 30] ty #[v, .slice A 0 c]).run Try.prog w = .ok v w ∨ ∃ a, A = some a := by
      intro A
      cases A with
      | none =>
        left
        rcases hown.2 with ⟨rfl, rfl⟩ | ⟨g, cap, cur, rfl, _, _, hnc, _⟩
        · simp [Builtin.append_, run_underlying Try.underlying30, sizeOf, typeInfo, hi0, Builtin.lenOf, Builtin.firstCells]
        · simp [Builtin.append_, run_underlying Try.underlying30, sizeOf, typeInfo, hi0, Builtin.lenOf, Builtin.firstCells, hnc, storeCells]
      | some a => exact .inr ⟨a, rfl⟩
    rcases case0 A with h | ⟨a, rfl⟩
    · exact ⟨v, w, h, by simpa using hown, World.grownBy.refl w _, fun h => h, .inl rfl⟩
    · obtain ⟨v', w', h1, h2, h3, h4, h5⟩ := run_append_own_at (P := Try.prog) w base 30 ty 9 i0 _ 1 16 Try.underlying30 hi0 hz0 hz1 hz2 rfl (by omega) v n xs hown a 0 c [] rfl (by simp) (by simp) (by unfold maxLen; omega) (by omega) hb
      exact ⟨v', w', h1, by simpa using h2, h3, fun hv e => hv (h4.1 e).1, h5⟩
  · obtain ⟨b, o, rfl, _, hc⟩ := hr.2.2 (by omega)
    have hnews : ∀ j u, (ss.map Value.string)[j]? = some u → w.cell? ((⟨b, o, none⟩ : Addr).add j) = some u := by
      intro j u hu
      rw [List.getElem?_map] at hu
      cases hs : ss[j]? with
      | none => rw [hs] at hu; cases hu
      | some s =>
        have hu : Value.string s = u := Option.some.inj (by rw [hs] at hu; exact hu)
        subst hu
        have := hc j s hs
        by_cases h0 : j = 0
        · subst h0; simpa [Addr.add] using this
        · simpa [Addr.add, h0] using this
    obtain ⟨v', w', h1, h2, h3, h4, h5⟩ := run_append_own_at (P := Try.prog) w base 30 ty 9 i0 _ 1 16 Try.underlying30 hi0 hz0 hz1 hz2 rfl (by omega) v n xs hown ⟨b, o, none⟩ m c _ hl hnews (one_cells ss) (by unfold maxLen; omega) (by omega) hb
    exact ⟨v', w', h1, h2, h3, fun hv e => hv (h4.1 e).1, h5⟩

/-- the walk's law for it -/
theorem wp_append_texts {ops : Array Oper} {rest : List Oper} {o : Oper} {a : Act} {w : World} {Q : Exit → Act → World → Prop} (hgd : o.guard = none) (s x : Operand)
    (ho : o.op = .call { callee := .builtin .append, args := #[s, x], argTypes := #[30, 30] })
    (base B g n cap m c : Nat) (l ss : List ByteArray) (A : Option Addr) (hs : a.eval s = .slice (some ⟨g, 0, none⟩) n cap) (hown : OwnS w base g n cap l) (hx : a.eval x = .slice A m c) (hr : Strs w B A m ss)
    (hb : base ≤ w.heap.size) (hsm : n + m ≤ 8000000000)
    (h : ∀ g' cap' w', OwnS w' base g' (n + m) cap' (l ++ ss) → w.grownBy w' (some g) → (g' = g ∨ g' = w.heap.size) → wpList Try.prog ops Q rest (a.put o.dst (.slice (some ⟨g', 0, none⟩) (n + m) cap')) w') : wpList Try.prog ops Q (o :: rest) a w := by
  obtain ⟨v', w', hrun, h2, h3, h4, h5⟩ := run_append_strs w o.type base B n m c _ _ hown.1 A ss hr hb hsm
  have hv := h4 (by simp)
  refine wpList_plain hgd fun K hK => ?_
  unfold Oper.wp execOp
  simp only [ho, resolve, invoke, builtin, Sem.run_bind, Sem.run_pure, Result.andThen_ok, List.map_toArray, List.map_cons, List.map_nil, hs, hx, hrun]
  have hall : ∀ t ∈ l ++ ss, t.size ≤ maxLen := by
    intro t ht
    rcases List.mem_append.1 ht with h | h
    · exact hown.2 t h
    · exact hr.2.1 t h
  rcases h2.2 with ⟨e, _⟩ | ⟨g', cap', cur, e, hbg, hh, r⟩
  · exact absurd e hv
  · subst e
    refine hK _ _ (h g' cap' w' ⟨by rw [List.map_append]; exact h2, hall⟩ h3 ?_)
    simpa [Value.ownBlock] using h5
end Go.Proofs.Ytmolphaihapkkaa
