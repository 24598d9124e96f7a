/- Maps from texts to numbers that the call makes: what one holds, told by a function. -/
import Derived.Test.YtopjhdgpdcdklaaBase
import Derived.Maps.OwnSet
import Derived.Maps.RangeWalk
import Derived.Sort.KeysCollected
import Derived.StringKeys
namespace Go.Proofs.Ytopjhdgpdcdklaa
open Go.RowKit Go.Maps Go.WideMaps
set_option maxHeartbeats 1600000
set_option linter.unusedSimpArgs false
set_option linter.unusedVariables false

theorem keysS : Keyed Try.prog 9 := string_keyed Try.underlying9
theorem zeroOfInt (w : World) : (zeroValue 3).run Try.prog w = .ok (.int .i64 0) w := by kernel_rfl
/-- make with a size: for the walk, ahead of go_enter: 'have hmm := run_makeMap_hint' -/
theorem run_makeMap_hint (k : IntKind) (n : Int) (w : World) : (Instr.makeMap 62 (some (.int k n))).run Try.prog w = .ok (.map (some w.heap.size)) (w.alloc (.map #[] 0)) := by
  simp [Instr.makeMap, run_underlying Try.underlying62, asInt, asIntOf, Result.andThen]
noncomputable abbrev elemI : Value → Option (DataW Unit × List MemPlace) := plainElem Try.prog 3

theorem I64.wf {x : Int} (h : I64 x) : (Lit.int .i64 x).wf = true := WalkArith.wf_i64 h
/-- the datum D says what f says -/
def MapIs (D : DataW Unit) (f : List UInt8 → Option Int) : Prop := IsMap D ∧ ∀ s, has D (.string s) = (f s).isSome ∧ ∀ v, f s = some v → ∀ z, D.atKey (.string s) z = .lit (.int .i64 v)
theorem MapIs.none : MapIs (.map []) fun _ => none := ⟨isMap_empty, fun s => ⟨rfl, fun v h => by cases h⟩⟩
theorem MapIs.put {D : DataW Unit} {f : List UInt8 → Option Int} (h : MapIs D f) (s : List UInt8) (v : Int) : MapIs (D.put (.string s) (.lit (.int .i64 v))) fun t => if t = s then some v else f t := by
  have hk : WideAt.IsKeyLit (.string s) := by simp [WideAt.IsKeyLit]
  refine ⟨h.1.put _ _, fun t => ?_⟩
  dsimp only
  by_cases e : t = s
  · subst e
    rw [if_pos rfl]
    exact ⟨has_put_same h.1 hk _, fun u hu z => by injection hu with hu; subst hu; exact atKey_put_same h.1 hk _ _⟩
  · rw [if_neg e]
    have hne : Lit.string t ≠ Lit.string s := fun x => e (by injection x)
    rw [has_put_other hne]
    exact ⟨(h.2 t).1, fun u hu z => by rw [atKey_put_other hne]; exact (h.2 t).2 u hu z⟩
theorem MapIs.del {D : DataW Unit} {f : List UInt8 → Option Int} (h : MapIs D f) (s : List UInt8) : MapIs (D.del (.string s)) fun t => if t = s then Option.none else f t := by
  refine ⟨h.1.del _, fun t => ?_⟩
  dsimp only
  by_cases e : t = s
  · subst e
    rw [if_pos rfl]
    exact ⟨has_del_same, fun u hu => by cases hu⟩
  · rw [if_neg e]
    have hne : Lit.string t ≠ Lit.string s := fun x => e (by injection x)
    rw [has_del_other hne]
    exact ⟨(h.2 t).1, fun u hu z => by rw [atKey_del_other hne]; exact (h.2 t).2 u hu z⟩
theorem MapIs.at_ {D : DataW Unit} {f : List UInt8 → Option Int} (h : MapIs D f) (s : List UInt8) {c : Int} (hat : D.atKey (.string s) (.lit (.int .i64 0)) = .lit (.int .i64 c)) : c = (f s).getD 0 := by
  cases hf : f s with
  | none =>
    rw [atKey_of_not_has (by rw [(h.2 s).1, hf]; rfl)] at hat
    injection hat with h1; injection h1 with _ h2; exact h2.symm
  | some v =>
    rw [(h.2 s).2 v hf] at hat
    injection hat with h1; injection h1 with _ h2; exact h2.symm

/-- block b, which the call owns from base on, is a map of at most n entries that holds what f says -/
def OwnM (w : World) (base b n : Nat) (f : List UInt8 → Option Int) : Prop := base ≤ b ∧ ∃ D : DataW Unit, w.ownsMap Try.prog 9 elemI b n D ∧ MapIs D f
section
variable {w w' : World} {base b n : Nat} {f : List UInt8 → Option Int}
theorem OwnM.lt (h : OwnM w base b n f) : base ≤ b ∧ b < w.heap.size := by obtain ⟨h1, D, h2, _⟩ := h; exact ⟨h1, h2.lt⟩
theorem OwnM.made (w : World) : OwnM (w.alloc (.map #[] 0)) w.heap.size w.heap.size 0 fun _ => none := ⟨Nat.le_refl _, _, World.ownsMap_made _ _ _ _, MapIs.none⟩
theorem OwnM.made_at {base b : Nat} (hb : b = w.heap.size) (h : base ≤ b) : OwnM (w.alloc (.map #[] 0)) base b 0 fun _ => none := by
  subst hb; exact ⟨h, _, World.ownsMap_made _ _ _ _, MapIs.none⟩
theorem OwnM.block (h : OwnM w base b n f) (hk : w'.heap[b]? = w.heap[b]?) : OwnM w' base b n f := by
  obtain ⟨h1, D, ⟨es, clock, hb, F, hs, hD⟩, h3⟩ := h
  exact ⟨h1, D, ⟨es, clock, hk.trans hb, F, hs, hD⟩, h3⟩
theorem OwnM.below (h : OwnM w base b n f) (hb : Below w.heap.size w w') : OwnM w' base b n f := h.block (hb.block b h.lt.2)
theorem OwnM.drawn (h : OwnM w base b n f) (hd : Drawn w w') : OwnM w' base b n f := h.below hd.below
theorem OwnM.alloc (h : OwnM w base b n f) (o : Obj) : OwnM (w.alloc o) base b n f := h.below ((Below.refl _ _).alloc (Nat.le_refl _) _)
theorem OwnM.setCell (h : OwnM w base b n f) {p : Addr} (v : Value) (hne : b ≠ p.block) : OwnM (w.setCell p v) base b n f :=
  h.block (by simp [World.setCell, Array.getElem?_modify, Ne.symm hne])
theorem OwnM.grown {row : Option Nat} (h : OwnM w base b n f) (hg : w.grownBy w' row) (hne : some b ≠ row) : OwnM w' base b n f := h.block (hg.block b h.lt.2 hne)
theorem OwnM.mono (h : OwnM w base b n f) {m : Nat} (hm : n ≤ m) : OwnM w base b m f := by
  obtain ⟨h1, D, h2, h3⟩ := h
  exact ⟨h1, D, h2.mono hm, h3⟩
theorem OwnM.congr {f' : List UInt8 → Option Int} (h : OwnM w base b n f) (e : ∀ s, f s = f' s) : OwnM w base b n f' := by rw [← funext e]; exact h
end

section
variable {ops : Array Oper} {rest : List Oper} {o : Oper} {a : Act} {w : World} {Q : Exit → Act → World → Prop} {base b n : Nat} {f : List UInt8 → Option Int}
/-- m[s] -/
theorem wp_look_m (hg : o.guard = none) (m x : Operand) (hop : o.op = .lookup 62 m x false) (base b n : Nat) (f : List UInt8 → Option Int) (hm : a.eval m = .map (some b)) (h : OwnM w base b n f)
    (s : ByteArray) (hx : a.eval x = .string s) (hs : s.size ≤ maxLen) (hK : wpList Try.prog ops Q rest (a.put o.dst (.int .i64 ((f s.data.toList).getD 0))) w) : wpList Try.prog ops Q (o :: rest) a w := by
  obtain ⟨_, D, h2, h3⟩ := h
  refine wpList_lookup_own_int w hg m x 62 hop 9 3 .i64 keysS Try.underlying62 Try.underlying3 (zeroOfInt w) b n D hm h2 _ _ hx (keyOf_string_mk Try.underlying9 hs) fun c hat _ => ?_
  rw [h3.at_ _ hat]
  exact hK
/-- v, ok := m[s] -/
theorem wp_look_ok_m (hg : o.guard = none) (m x : Operand) (hop : o.op = .lookup 62 m x true) (base b n : Nat) (f : List UInt8 → Option Int) (hm : a.eval m = .map (some b)) (h : OwnM w base b n f)
    (s : ByteArray) (hx : a.eval x = .string s) (hs : s.size ≤ maxLen) (hK : wpList Try.prog ops Q rest (a.put o.dst (.tuple #[.int .i64 ((f s.data.toList).getD 0), .bool (f s.data.toList).isSome])) w) : wpList Try.prog ops Q (o :: rest) a w := by
  obtain ⟨_, D, h2, h3⟩ := h
  refine wpList_lookup_own_ok_int w hg m x 62 hop 9 3 .i64 keysS Try.underlying62 Try.underlying3 (zeroOfInt w) b n D hm h2 _ _ hx (keyOf_string_mk Try.underlying9 hs) fun c hat _ => ?_
  rw [h3.at_ _ hat, (h3.2 s.data.toList).1]
  exact hK
/-- m[s] = v -/
theorem wp_put_m (hg : o.guard = none) (m x y : Operand) (hop : o.op = .mapUpdate 62 m x y) (base b n : Nat) (f : List UInt8 → Option Int) (hm : a.eval m = .map (some b)) (h : OwnM w base b n f) (hn : n < maxLen)
    (s : ByteArray) (v : Int) (hx : a.eval x = .string s) (hs : s.size ≤ maxLen) (hy : a.eval y = .int .i64 v) (hv : (Lit.int .i64 v).wf = true)
    (hK : ∀ w', OwnM w' base b (n + 1) (fun t => if t = s.data.toList then some v else f t) → w.grownBy w' (some b) → wpList Try.prog ops Q rest (a.put o.dst undef) w') : wpList Try.prog ops Q (o :: rest) a w := by
  obtain ⟨h1, D, h2, h3⟩ := h
  exact wpList_mapUpdate_own w hg m x y 62 hop 9 3 keysS Try.underlying62 elemI b n D hm h2 hn _ _ _ hx hy (keyOf_string_mk Try.underlying9 hs) _ [] (plainElem_int Try.underlying3 hv)
    fun w' r1 r2 => hK w' ⟨h1, _, r1, h3.put _ _⟩ r2
/-- delete(m, s) -/
theorem wp_del_m (hg : o.guard = none) (m x : Operand) (hop : o.op = Op.call { callee := Callee.builtin Builtin.delete, args := #[m, x], argTypes := #[62, 9] }) (base b n : Nat) (f : List UInt8 → Option Int) (hm : a.eval m = .map (some b)) (h : OwnM w base b n f)
    (s : ByteArray) (hx : a.eval x = .string s) (hs : s.size ≤ maxLen)
    (hK : ∀ w', OwnM w' base b n (fun t => if t = s.data.toList then none else f t) → w.grownBy w' (some b) → wpList Try.prog ops Q rest (a.put o.dst (.tuple #[])) w') : wpList Try.prog ops Q (o :: rest) a w := by
  obtain ⟨h1, D, h2, h3⟩ := h
  exact wpList_delete_own w hg m x 62 9 hop 3 keysS Try.underlying62 elemI b n D hm h2 _ _ hx (keyOf_string_mk Try.underlying9 hs)
    fun w' r1 r2 => hK w' ⟨h1, _, r1, h3.del _⟩ r2.grown
end

/-- a range over such a map under way: the keys that are left; cnt of them -/
def Rng (w : World) (base b r n : Nat) (f : List UInt8 → Option Int) (left : List UInt8 → Bool) (cnt : Nat) : Prop :=
  base ≤ b ∧ base ≤ r ∧ ∃ (D : DataW Unit) (L : Lit → Bool), w.ranges Try.prog 9 elemI b r n D L cnt ∧ MapIs D f ∧ ∀ s, L (.string s) = left s
section
variable {w w' : World} {base b r n cnt : Nat} {f : List UInt8 → Option Int} {left : List UInt8 → Bool}
theorem Rng.owns (h : Rng w base b r n f left cnt) : OwnM w base b n f := by obtain ⟨h1, _, D, L, h3, h4, _⟩ := h; exact ⟨h1, D, h3.owns, h4⟩
theorem Rng.ne (h : Rng w base b r n f left cnt) : r ≠ b := by obtain ⟨_, _, D, L, h3, _⟩ := h; exact h3.ne
theorem Rng.lt (h : Rng w base b r n f left cnt) : base ≤ r ∧ r < w.heap.size := by obtain ⟨_, h2, D, L, h3, _⟩ := h; exact ⟨h2, h3.lt⟩
theorem Rng.left_eq (h : Rng w base b r n f left cnt) : w.rangeLeft b r = cnt := by obtain ⟨_, _, D, L, h3, _⟩ := h; exact h3.left_eq
theorem Rng.block (h : Rng w base b r n f left cnt) (hb : w'.heap[b]? = w.heap[b]?) (hr : w'.heap[r]? = w.heap[r]?) : Rng w' base b r n f left cnt := by
  obtain ⟨h1, h2, D, L, ⟨es, clock, since, seen, c0, g1, g2, g3, g4, g5, g6⟩, h4⟩ := h
  exact ⟨h1, h2, D, L, ⟨es, clock, since, seen, c0, hb.trans g1, g2, g3, g4, hr.trans g5, g6⟩, h4⟩
theorem Rng.below (h : Rng w base b r n f left cnt) (hb : Below w.heap.size w w') : Rng w' base b r n f left cnt := h.block (hb.block b h.owns.lt.2) (hb.block r h.lt.2)
theorem Rng.drawn (h : Rng w base b r n f left cnt) (hd : Drawn w w') : Rng w' base b r n f left cnt := h.below hd.below
theorem Rng.alloc (h : Rng w base b r n f left cnt) (o : Obj) : Rng (w.alloc o) base b r n f left cnt := h.below ((Below.refl _ _).alloc (Nat.le_refl _) _)
theorem Rng.grown {row : Option Nat} (h : Rng w base b r n f left cnt) (hg : w.grownBy w' row) (h1 : some b ≠ row) (h2 : some r ≠ row) : Rng w' base b r n f left cnt := h.block (hg.block b h.owns.lt.2 h1) (hg.block r h.lt.2 h2)
theorem Rng.congr {left' : List UInt8 → Bool} (h : Rng w base b r n f left cnt) (e : ∀ s, left s = left' s) : Rng w base b r n f left' cnt := by rw [← funext e]; exact h
end
section
variable {ops : Array Oper} {rest : List Oper} {o : Oper} {a : Act} {w : World} {Q : Exit → Act → World → Prop} {base b n : Nat} {f : List UInt8 → Option Int}
/-- range m -/
theorem wp_range_m (hg : o.guard = none) (m : Operand) (hop : o.op = .range 62 m) (base b n : Nat) (f : List UInt8 → Option Int) (hm : a.eval m = .map (some b)) (h : OwnM w base b n f)
    (hK : ∀ w' cnt, cnt ≤ n → Rng w' base b w.heap.size n f (fun s => (f s).isSome) cnt → w.grownBy w' none → w'.heap.size = w.heap.size + 1 → wpList Try.prog ops Q rest (a.put o.dst (.pointer (some ⟨w.heap.size, 0, none⟩))) w') : wpList Try.prog ops Q (o :: rest) a w := by
  obtain ⟨h1, D, h2, h3⟩ := h
  have hlt := h2.lt
  exact wpList_range_own w hg m 62 hop 9 3 keysS Try.underlying62 elemI b n D hm h2 fun w' r1 r2 r3 => hK w' _ h2.size_le ⟨h1, by omega, D, _, r1, h3, fun s => (h3.2 s).1⟩ r2 r3
/-- the next entry -/
theorem wp_next_m (hg : o.guard = none) (it : Operand) (hop : o.op = .next it false) (base b r n : Nat) (f : List UInt8 → Option Int) (left : List UInt8 → Bool) (cnt : Nat) (hit : a.eval it = .pointer (some ⟨r, 0, none⟩)) (h : Rng w base b r n f left cnt)
    (hDone : cnt = 0 → (∀ s, left s = false) → wpList Try.prog ops Q rest (a.put o.dst (.tuple #[.bool false])) w)
    (hMore : ∀ (s : ByteArray) (v : Int) (w' : World) (cnt' : Nat), s.size ≤ maxLen → f s.data.toList = some v → left s.data.toList = true → Rng w' base b r n f (fun t => left t && !decide (t = s.data.toList)) cnt' → cnt' < cnt →
      w.grownBy w' (some r) → w'.heap.size = w.heap.size → (Instr.entry (.pointer (some ⟨r, 0, none⟩))).run Try.prog w' = .ok (.tuple #[.string s, .int .i64 v]) w' → wpList Try.prog ops Q rest (a.put o.dst (.tuple #[.bool true, .string s, .int .i64 v])) w') :
    wpList Try.prog ops Q (o :: rest) a w := by
  obtain ⟨h1, h2, D, L, h3, h4, h5⟩ := h
  refine wpList_next_ranges w hg it hop 9 keysS elemI encStr (Value.int .i64) (fun key kl hk => by obtain ⟨x, hx, _⟩ := Maps.keyOf_str Try.underlying9 hk; exact ⟨x, hx⟩) (fun v y hv => by obtain ⟨c, rfl, _⟩ := plainElem_int_inv Try.underlying3 hv; exact ⟨c, rfl⟩)
    b r n D L cnt hit h3 (fun e hl => hDone e fun s => by rw [← h5]; exact hl _) ?_
  intro x c kl y w' cnt' hkey hlk hv hat hrg hlt hgr hsz hen
  obtain ⟨x', ex, rfl, hx'⟩ := Maps.keyOf_str Try.underlying9 hkey
  obtain rfl := encStr_inj ex
  obtain ⟨c', ec, hy, _⟩ := plainElem_int_inv Try.underlying3 hv
  cases ec
  have hy1 : y.1 = .lit (.int .i64 c) := by rw [hy]
  have hh : has D (.string x) = true := has_true_of_atKey (y := y.1) hat
  rw [(h4.2 x).1] at hh
  obtain ⟨u, hu⟩ := Option.isSome_iff_exists.1 hh
  have huc : u = c := by
    have h6 := (h4.2 x).2 u hu (.lit (.int .i64 0))
    rw [hat, hy1] at h6
    injection h6 with h7; injection h7 with _ h8; exact h8.symm
  subst huc
  have hxs : (⟨x.toArray⟩ : ByteArray).data.toList = x := by simp
  refine hMore ⟨x.toArray⟩ u w' cnt' (by show x.toArray.size ≤ maxLen; simpa using hx') (by rw [hxs]; exact hu) (by rw [hxs, ← h5]; exact hlk) ⟨h1, h2, D, _, hrg, h4, fun s => ?_⟩ hlt hgr hsz hen
  rw [h5, hxs]
  congr 1
  by_cases e : s = x
  · subst e; rw [WideAt.sameKey_self (by simp [WideAt.IsKeyLit])]; simp
  · rw [sameKey_ne (fun he => e (by injection he))]; simp [e]
end
end Go.Proofs.Ytopjhdgpdcdklaa
