/- Slices of records whose fields take one cell each, whatever the record: read (Recs), and rows of them that a call owns or none (OwnR): an empty one, append of a slice of them. -/
import Derived.Test.YtmolphaihapkkaaSlc
import Derived.Test.YtmolphaihapkkaaOwn
import Derived.Maps.AppendAt
import Derived.Deep.AppendLies
namespace Go.Proofs.Ytmolphaihapkkaa
open Go.RowKit
set_option maxHeartbeats 400000
set_option linter.unusedSimpArgs false
set_option linter.unusedVariables false

/-- a kind of records: their cells, how many, and which values they may have; their type, the type of slices of them, and their bytes -/
structure Rec (α : Type) where
  enc : α → List Value
  k : Nat
  ok : α → Prop
  E : TypeId
  S : TypeId
  bytes : Nat
  len : ∀ x, (enc x).length = k
  one : ∀ x v, v ∈ enc x → v.oneCell' = true
  pos : 0 < k
  small : bytes ≤ 64
  z : Value
  zk : z.cells.size = k
  under : Try.prog.underlying S = some (.slice E)
  info : (Try.prog.info? E).map (fun i => (i.zero, i.size, i.bytes)) = some (some z, k, bytes)

section
variable {α : Type} (R : Rec α)
def Rec.row (l : List α) : List Value := l.flatMap R.enc
theorem Rec.row_len (l : List α) : (R.row l).length = l.length * R.k := by
  induction l with
  | nil => simp [Rec.row]
  | cons e l ih => unfold Rec.row at ih ⊢; rw [List.flatMap_cons, List.length_append, ih, R.len, List.length_cons, Nat.add_mul, Nat.one_mul, Nat.add_comm]
theorem Rec.row_append (l m : List α) : R.row (l ++ m) = R.row l ++ R.row m := by unfold Rec.row; rw [List.flatMap_append]
theorem Rec.row_one (l : List α) : ∀ u ∈ R.row l, u.oneCell' = true := by
  intro u hu
  unfold Rec.row at hu
  obtain ⟨x, _, hx⟩ := List.mem_flatMap.1 hu
  exact R.one x u hx
theorem Rec.row_get (l : List α) (j i : Nat) (e : α) (v : Value) (h : l[j]? = some e) (hv : (R.enc e)[i]? = some v) : (R.row l)[j * R.k + i]? = some v := by
  induction l generalizing j with
  | nil => simp at h
  | cons d l ih =>
    unfold Rec.row at ih ⊢
    rw [List.flatMap_cons]
    have hi : i < R.k := by have := (List.getElem?_eq_some_iff.1 hv).1; rw [R.len] at this; exact this
    have hl : (R.enc d).length = R.k := R.len d
    cases j with
    | zero => simp at h; subst h; rw [List.getElem?_append_left (by omega), Nat.zero_mul, Nat.zero_add]; exact hv
    | succ j =>
      have hj : l[j]? = some e := by simpa using h
      rw [List.getElem?_append_right (by rw [hl, Nat.add_mul]; omega), hl, show (j + 1) * R.k + i - R.k = j * R.k + i by rw [Nat.add_mul]; omega]
      exact ih j hj
theorem Rec.row_inv (l : List α) (t : Nat) (v : Value) (h : (R.row l)[t]? = some v) : ∃ j i e, t = j * R.k + i ∧ i < R.k ∧ l[j]? = some e ∧ (R.enc e)[i]? = some v := by
  have ht := (List.getElem?_eq_some_iff.1 h).1
  rw [R.row_len] at ht
  have hp := R.pos
  have hj : t / R.k < l.length := Nat.div_lt_of_lt_mul (by rw [Nat.mul_comm]; exact ht)
  have hi : t % R.k < R.k := Nat.mod_lt _ hp
  have hd : t = t / R.k * R.k + t % R.k := by rw [Nat.mul_comm]; exact (Nat.div_add_mod t R.k).symm
  refine ⟨t / R.k, t % R.k, l[t / R.k], hd, hi, List.getElem?_eq_getElem hj, ?_⟩
  have hg : (R.enc l[t / R.k])[t % R.k]? = some ((R.enc l[t / R.k])[t % R.k]'(by rw [R.len]; exact hi)) := List.getElem?_eq_getElem _
  rw [hg]
  have := R.row_get l (t / R.k) (t % R.k) _ _ (List.getElem?_eq_getElem hj) hg
  rw [← hd, h] at this
  exact this.symm

/-- the slice A, n holds the records l, in a block below B -/
def Recs (w : World) (B : Nat) (A : Option Addr) (n : Nat) (l : List α) : Prop :=
  l.length = n ∧ (∀ x ∈ l, R.ok x) ∧ (0 < n → ∃ b o, A = some ⟨b, o, none⟩ ∧ b < B ∧ ∀ j e, l[j]? = some e → ∀ i v, (R.enc e)[i]? = some v → w.cell? ⟨b, o + j * R.k + i, none⟩ = some v)
variable {R} {w w' : World} {B B' n : Nat} {A : Option Addr} {l : List α}
theorem Recs.nothing (A : Option Addr) : Recs R w B A 0 [] := ⟨rfl, by simp, fun h => absurd h (by omega)⟩
theorem Recs.keep (h : Recs R w B A n l) (hk : ∀ p : Addr, p.block < B → w'.cell? p = w.cell? p) : Recs R w' B A n l :=
  ⟨h.1, h.2.1, fun hn => by
    obtain ⟨b, o, e, hb, hc⟩ := h.2.2 hn
    exact ⟨b, o, e, hb, fun j x hx i v hv => (hk _ hb).trans (hc j x hx i v hv)⟩⟩
theorem Recs.more (h : Recs R w B A n l) (hB : B ≤ B') : Recs R w B' A n l :=
  ⟨h.1, h.2.1, fun hn => by
    obtain ⟨b, o, e, hb, hc⟩ := h.2.2 hn
    exact ⟨b, o, e, by omega, hc⟩⟩
theorem Recs.below (h : Recs R w B A n l) (hb : Below B w w') : Recs R w' B A n l := h.keep fun _ hp => hb.cell hp
theorem Recs.step (h : Recs R w B A n l) (hb : Below w.heap.size w w') (hB : B ≤ w.heap.size) : Recs R w' B A n l := h.below (hb.mono hB)
theorem Recs.drawn (h : Recs R w B A n l) (hd : Drawn w w') : Recs R w' B A n l := h.below hd.below
theorem Recs.len (h : Recs R w B A n l) : l.length = n := h.1
theorem Recs.ok (h : Recs R w B A n l) {j : Nat} {e : α} (he : l[j]? = some e) : R.ok e := h.2.1 e (List.mem_of_getElem? he)
theorem Recs.at_ {k : Nat} (h : Recs R w B A n l) (hk : k < n) : ∃ b o e, A = some ⟨b, o, none⟩ ∧ b < B ∧ l[k]? = some e ∧ R.ok e ∧ ∀ i v, (R.enc e)[i]? = some v → w.cell? ⟨b, o + k * R.k + i, none⟩ = some v := by
  obtain ⟨b, o, e, hb, hc⟩ := h.2.2 (by omega)
  have hl : k < l.length := by have := h.1; omega
  exact ⟨b, o, l[k], e, hb, List.getElem?_eq_getElem hl, h.2.1 _ (List.getElem_mem hl), hc k _ (List.getElem?_eq_getElem hl)⟩
theorem Recs.cell {b o j i : Nat} {e : α} {v : Value} (h : Recs R w B (some ⟨b, o, none⟩) n l) (he : l[j]? = some e) (hv : (R.enc e)[i]? = some v) : w.cell? ⟨b, o + j * R.k + i, none⟩ = some v := by
  have hj : j < n := by have := (List.getElem?_eq_some_iff.1 he).1; have := h.1; omega
  obtain ⟨b', o', e', _, hc⟩ := h.2.2 (by omega)
  injection e' with e'; injection e' with e1 e2; subst e1; subst e2
  exact hc j e he i v hv
theorem Recs.block_lt {b o : Nat} (h : Recs R w B (some ⟨b, o, none⟩) n l) (hn : 0 < n) : b < B := by
  obtain ⟨b', o', e', hb, _⟩ := h.2.2 hn
  injection e' with e'; injection e' with e1 e2; subst e1; exact hb
/-- the first k records; those from k on -/
theorem Recs.head {k : Nat} (h : Recs R w B A n l) (hk : k ≤ n) : Recs R w B A k (l.take k) :=
  ⟨by have := h.1; rw [List.length_take]; omega, fun x hx => h.2.1 x (List.mem_of_mem_take hx), fun h0 => by
    obtain ⟨b, o, e, hb, hc⟩ := h.2.2 (by omega)
    refine ⟨b, o, e, hb, fun j x hx i v hv => hc j x ?_ i v hv⟩
    have hj : j < k := by have := (List.getElem?_eq_some_iff.1 hx).1; simp at this; omega
    rwa [List.getElem?_take_of_lt hj] at hx⟩
theorem Recs.tail {b o k : Nat} (h : Recs R w B (some ⟨b, o, none⟩) n l) (hk : k ≤ n) : Recs R w B (some ⟨b, o + k * R.k, none⟩) (n - k) (l.drop k) :=
  ⟨by have := h.1; rw [List.length_drop]; omega, fun x hx => h.2.1 x (List.mem_of_mem_drop hx), fun h0 => by
    obtain ⟨b', o', e, hb, hc⟩ := h.2.2 (by omega)
    injection e with e; injection e with e1 e2; subst e1; subst e2
    refine ⟨b, o + k * R.k, rfl, hb, fun j x hx i v hv => ?_⟩
    rw [List.getElem?_drop] at hx
    have := hc _ x hx i v hv
    rw [Nat.add_mul] at this
    rw [show o + k * R.k + j * R.k + i = o + (k * R.k + j * R.k) + i by omega]
    exact this⟩

variable (R)
/-- a slice that is a row of the call's own from base on, or none; it holds the records l -/
def OwnR (w : World) (base : Nat) (A : Option Addr) (n cap : Nat) (l : List α) : Prop := w.ownsRow base R.E R.k (.slice A n cap) n (R.row l) ∧ ∀ x ∈ l, R.ok x
variable {R} {base base' cap : Nat}
theorem OwnR.len (h : OwnR R w base A n cap l) : l.length = n := by
  have := h.1.1
  rw [R.row_len] at this
  exact Nat.eq_of_mul_eq_mul_right R.pos this
theorem OwnR.mono (h : OwnR R w base' A n cap l) (hb : base ≤ base') : OwnR R w base A n cap l := ⟨own_mono h.1 hb, h.2⟩
theorem OwnR.below (h : OwnR R w base A n cap l) (hb : Below w.heap.size w w') : OwnR R w' base A n cap l :=
  ⟨World.ownsRow.kept h.1 (row := none) ⟨hb.os, hb.tape, hb.output, hb.size, fun i hi _ => hb.block i hi⟩ (by
    cases hv : (Value.slice A n cap).ownBlock with
    | none => exact .inl rfl
    | some g => exact .inr (by simp)), h.2⟩
theorem OwnR.drawn (h : OwnR R w base A n cap l) (hd : Drawn w w') : OwnR R w' base A n cap l := h.below hd.below
theorem OwnR.alloc (h : OwnR R w base A n cap l) (o : Obj) : OwnR R (w.alloc o) base A n cap l := h.below ((Below.refl _ _).alloc (Nat.le_refl _) _)
theorem OwnR.blockAt {g : Nat} (h : OwnR R w base A n cap l) (hg : (Value.slice A n cap).ownBlock = some g) : base ≤ g ∧ g < w.heap.size := World.ownsRow.lt h.1 g hg
theorem OwnR.shape (h : OwnR R w base A n cap l) : (A = none ∧ n = 0 ∧ cap = 0) ∨ ∃ g, A = some ⟨g, 0, none⟩ ∧ base ≤ g ∧ g < w.heap.size ∧ n ≤ cap ∧ cap ≤ maxLen := by
  rcases h.1.2 with ⟨hv, h0⟩ | ⟨g, cap', cur, hv, hb, hh, hn, hc, _⟩
  · injection hv with e1 e2 e3; exact .inl ⟨e1, e2, e3⟩
  · injection hv with e1 e2 e3
    subst e3
    refine .inr ⟨g, e1, hb, ?_, hn, hc⟩
    exact (Array.getElem?_eq_some_iff.1 hh).1
theorem OwnR.caps (h : OwnR R w base A n cap l) : n ≤ cap ∧ cap ≤ maxLen := by
  rcases h.shape with ⟨_, h1, h2⟩ | ⟨g, _, _, _, h1, h2⟩
  · subst h1; subst h2; exact ⟨Nat.le_refl _, Nat.zero_le _⟩
  · exact ⟨h1, h2⟩
theorem OwnR.nil (w : World) (base : Nat) : OwnR R w base none 0 0 [] := ⟨⟨by simp [Rec.row], .inl ⟨rfl, rfl⟩⟩, by simp⟩
theorem OwnR.empty (w : World) : OwnR R (w.alloc (.cells #[] R.E)) w.heap.size (some ⟨w.heap.size, 0, none⟩) 0 0 [] :=
  ⟨⟨by simp [Rec.row], .inr ⟨w.heap.size, 0, #[], rfl, Nat.le_refl _, heap_alloc_new w _, Nat.le_refl _, Nat.zero_le _, by simp, by simp [Rec.row]⟩⟩, by simp⟩
/-- a literal of one record -/
theorem OwnR.lit (w : World) (x : α) (hx : R.ok x) : OwnR R (w.alloc (.cells (R.enc x).toArray R.E)) w.heap.size (some ⟨w.heap.size, 0, none⟩) 1 1 [x] :=
  ⟨⟨by simp [Rec.row, R.len], .inr ⟨w.heap.size, 1, (R.enc x).toArray, rfl, Nat.le_refl _, heap_alloc_new w _, Nat.le_refl _, by unfold maxLen; omega, by simp [R.len], by simp only [Rec.row, List.flatMap_cons, List.flatMap_nil, List.append_nil]; rw [List.take_of_length_le (by rw [R.len]; omega)]⟩⟩, by simpa using hx⟩
theorem OwnR.at_ {g j i : Nat} {e : α} {v : Value} (h : OwnR R w base (some ⟨g, 0, none⟩) n cap l) (he : l[j]? = some e) (hv : (R.enc e)[i]? = some v) : w.cell? ⟨g, j * R.k + i, none⟩ = some v := by
  have hg := R.row_get l j i e v he hv
  have hlt := (List.getElem?_eq_some_iff.1 hg).1
  exact (World.ownsRow.cellAt h.1 _ (by have := h.1.1; omega)).trans hg
/-- such a row reads as its records -/
theorem OwnR.recs (h : OwnR R w base A n cap l) : Recs R w w.heap.size A n l :=
  ⟨h.len, h.2, fun hn => by
    rcases h.shape with ⟨_, h0, _⟩ | ⟨g, rfl, _, hg, _⟩
    · omega
    · exact ⟨g, 0, rfl, hg, fun j e he i v hv => by rw [Nat.zero_add]; exact h.at_ he hv⟩⟩
theorem OwnR.block {g : Nat} (h : OwnR R w base (some ⟨g, 0, none⟩) n cap l) (hk : w'.heap[g]? = w.heap[g]?) : OwnR R w' base (some ⟨g, 0, none⟩) n cap l := by
  refine ⟨⟨h.1.1, ?_⟩, h.2⟩
  rcases h.1.2 with ⟨hv, _⟩ | ⟨g', cap', cur, hv, hb, hh, r⟩
  · cases hv
  · cases hv; exact .inr ⟨g, cap, cur, rfl, hb, hk.trans hh, r⟩
theorem OwnR.grown {b : Nat} (h : OwnR R w base A n cap l) (hg : w.grownBy w' (some b)) (hne : (Value.slice A n cap).ownBlock ≠ some b) : OwnR R w' base A n cap l :=
  ⟨World.ownsRow.kept h.1 hg (by
    cases hv : (Value.slice A n cap).ownBlock with
    | none => exact .inl rfl
    | some g => exact .inr (by intro e; exact hne (by rw [hv, e]))), h.2⟩

/-- a field stored into a row of the call's own -/
theorem Rec.row_set (l : List α) (j i : Nat) (e e' : α) (v : Value) (he : l[j]? = some e) (hi : i < R.k) (hv : R.enc e' = (R.enc e).set i v) : R.row (l.set j e') = (R.row l).set (j * R.k + i) v := by
  induction l generalizing j with
  | nil => simp at he
  | cons d l ih =>
    unfold Rec.row at ih ⊢
    have hl : (R.enc d).length = R.k := R.len d
    cases j with
    | zero =>
      simp at he; subst he
      rw [List.set_cons_zero, List.flatMap_cons, List.flatMap_cons, hv, Nat.zero_mul, Nat.zero_add, List.set_append_left _ _ (by omega)]
    | succ j =>
      have hj : l[j]? = some e := by simpa using he
      rw [List.set_cons_succ, List.flatMap_cons, List.flatMap_cons, ih j hj, List.set_append_right _ _ (by rw [hl, Nat.add_mul]; omega), hl, show (j + 1) * R.k + i - R.k = j * R.k + i by rw [Nat.add_mul]; omega]
theorem OwnR.stored {g j i : Nat} {e e' : α} {v : Value} (h : OwnR R w base (some ⟨g, 0, none⟩) n cap l) (he : l[j]? = some e) (hi : i < R.k) (hv : R.enc e' = (R.enc e).set i v) (hok : R.ok e') :
    OwnR R (w.setCell ⟨g, j * R.k + i, none⟩ v) base (some ⟨g, 0, none⟩) n cap (l.set j e') := by
  refine ⟨?_, fun x hx => ?_⟩
  · rw [R.row_set l j i e e' v he hi hv]
    exact (World.ownsRow.stored h.1 (j * R.k + i) v).1
  · rcases List.mem_or_eq_of_mem_set hx with hx | rfl
    · exact h.2 x hx
    · exact hok
/-- a new row of zero records -/
theorem Rec.made (R : Rec α) (z0 : α) (hz : R.z.cells.toList = R.enc z0) (n : Nat) : (madeCells R.z.cells (n * R.k)).toList = R.row (List.replicate n z0) := by
  apply List.ext_getElem?
  intro i
  have hp := R.pos
  by_cases hi : i < n * R.k
  · have hj : i / R.k < n := Nat.div_lt_of_lt_mul (by rw [Nat.mul_comm]; exact hi)
    have hm : i % R.k < R.k := Nat.mod_lt _ hp
    have hm2 : i % R.k < R.z.cells.size := by rw [R.zk]; exact hm
    have he : (R.enc z0)[i % R.k]? = some (R.z.cells[i % R.k]'hm2) := by rw [← hz, Array.getElem?_toList]; exact Array.getElem?_eq_getElem hm2
    have hq := R.row_get (List.replicate n z0) (i / R.k) (i % R.k) z0 _ (by rw [List.getElem?_replicate, if_pos hj]) he
    rw [show i / R.k * R.k + i % R.k = i by rw [Nat.mul_comm]; exact Nat.div_add_mod i R.k] at hq
    rw [hq]
    have hL : (madeCells R.z.cells (n * R.k)).toList[i]? = some (R.z.cells[i % R.z.cells.size]!) := by simp [madeCells, hi]
    rw [hL, R.zk, getElem!_pos R.z.cells (i % R.k) hm2]
  · rw [List.getElem?_eq_none (by rw [Array.length_toList, size_madeCells]; omega), List.getElem?_eq_none (by rw [R.row_len, List.length_replicate]; omega)]
/-- what has been copied behind k rounds -/
def copiedR (z0 : α) (l : List α) (n k : Nat) : List α := l.take k ++ List.replicate (n - k) z0
theorem copiedR_zero (z0 : α) (l : List α) (n : Nat) : copiedR z0 l n 0 = List.replicate n z0 := by simp [copiedR]
theorem copiedR_all (z0 : α) {l : List α} {n : Nat} (h : l.length = n) : copiedR z0 l n n = l := by subst h; simp [copiedR]
theorem copiedR_set (z0 : α) {l : List α} {n k : Nat} {e : α} (hn : l.length = n) (he : l[k]? = some e) : (copiedR z0 l n k).set k e = copiedR z0 l n (k + 1) := by
  obtain ⟨hk, h2⟩ := List.getElem?_eq_some_iff.1 he
  unfold copiedR
  have e1 : (l.take k).length = k := by simp; omega
  have e2 : n - k = (n - (k + 1)) + 1 := by omega
  rw [List.set_append_right _ _ (by omega), e1, Nat.sub_self, e2, List.replicate_succ, List.set_cons_zero, List.take_succ_eq_append_getElem hk, h2]
  simp
theorem copiedR_get (z0 : α) {l : List α} {n k : Nat} (hn : l.length = n) (hk : k < n) : (copiedR z0 l n k)[k]? = some z0 := by
  unfold copiedR
  have e1 : (l.take k).length = k := by simp; omega
  rw [List.getElem?_append_right (by omega), e1, Nat.sub_self, List.getElem?_replicate, if_pos (by omega)]
theorem OwnR.frozen {g : Nat} (h : OwnR R w base (some ⟨g, 0, none⟩) n cap l) (k : Nat) : w.frozen? ⟨g, k, none⟩ = false := World.ownsRow.frozenAt h.1 k

/-- append of a slice of records onto a row of the call's own, or none -/
theorem run_append_recs (w : World) (ty base B n m c : Nat) (A A2 : Option Addr) (cap : Nat) (l r : List α) (hown : OwnR R w base A n cap l) (hr : Recs R w B A2 m r) (hb : base ≤ w.heap.size) (hs : n + m ≤ 1000000000) :
    ∃ A' cap' w', (Builtin.append_ #[R.S, R.S] ty #[.slice A n cap, .slice A2 m c]).run Try.prog w = .ok (.slice A' (n + m) cap') w' ∧ OwnR R w' base A' (n + m) cap' (l ++ r) ∧ w.grownBy w' (Value.slice A n cap).ownBlock ∧
      ((Value.slice A' (n + m) cap').ownBlock = (Value.slice A n cap).ownBlock ∨ (Value.slice A' (n + m) cap').ownBlock = some w.heap.size) ∧ (A ≠ none → A' ≠ none) := by
  obtain ⟨i0, hi0, hz0, hz1, hz2⟩ := info_parts R.info
  have hok : ∀ x ∈ l ++ r, R.ok x := fun x hx => by
    rcases List.mem_append.1 hx with h | h
    · exact hown.2 x h
    · exact hr.2.1 x h
  have hbytes : (n + m) * R.bytes ≤ 140737488355328 := by have := R.small; have := Nat.mul_le_mul hs this; omega
  have hshape : ∀ (v' : Value) (w' : World), w'.ownsRow base R.E R.k v' (n + m) (R.row (l ++ r)) → ∃ A' cap', v' = .slice A' (n + m) cap' := fun v' w' h => by
    rcases h.2 with ⟨hv, h0⟩ | ⟨g, cap', cur, hv, _⟩
    · exact ⟨none, 0, by rw [hv, h0]⟩
    · exact ⟨_, cap', hv⟩
  by_cases hm : m = 0 ∧ A2 = none
  · obtain ⟨rfl, rfl⟩ := hm
    obtain rfl : r = [] := List.eq_nil_of_length_eq_zero hr.1
    refine ⟨A, cap, w, ?_, by simpa using hown, World.grownBy.refl w _, .inl rfl, fun h => h⟩
    rcases hown.shape with ⟨rfl, rfl, rfl⟩ | ⟨g, rfl, _, _, hnc, _⟩
    · simp [Builtin.append_, run_underlying R.under, sizeOf, typeInfo, hi0, Builtin.lenOf, Builtin.firstCells]
    · simp [Builtin.append_, run_underlying R.under, sizeOf, typeInfo, hi0, Builtin.lenOf, Builtin.firstCells, hnc, storeCells]
  · obtain ⟨ad, rfl, hnews⟩ : ∃ ad, A2 = some ad ∧ ∀ j u, (R.row r)[j]? = some u → w.cell? (ad.add j) = some u := by
      by_cases hm0 : m = 0
      · subst hm0
        obtain rfl : r = [] := List.eq_nil_of_length_eq_zero hr.1
        cases A2 with
        | none => exact absurd ⟨rfl, rfl⟩ hm
        | some ad => exact ⟨ad, rfl, fun j u hu => by simp [Rec.row] at hu⟩
      · obtain ⟨b, o, rfl, _, hc⟩ := hr.2.2 (by omega)
        refine ⟨_, rfl, fun j u hu => ?_⟩
        obtain ⟨jj, i, e, rfl, _, he, hv⟩ := R.row_inv r j u hu
        have := hc jj e he i u hv
        unfold Addr.add
        split
        · rename_i h0
          rw [show o + jj * R.k + i = o by omega] at this
          exact this
        · rw [← Nat.add_assoc]; exact this
    have hl : (R.row r).length = m * R.k := by rw [R.row_len, hr.1]
    obtain ⟨v', w', h1, h2, h3, h4, h5⟩ := run_append_own_at (P := Try.prog) w base R.S ty R.E i0 _ R.k R.bytes R.under hi0 hz0 hz1 hz2 R.zk R.pos (.slice A n cap) n (R.row l) hown.1 ad m c (R.row r) hl hnews (R.row_one r) (by unfold maxLen; omega) hbytes hb
    rw [← R.row_append] at h2
    obtain ⟨A', cap', rfl⟩ := hshape v' w' h2
    refine ⟨A', cap', w', h1, ⟨h2, hok⟩, h3, h5, fun hA e => ?_⟩
    subst e
    have : Value.slice none (n + m) cap' = .slice none 0 0 := by
      rcases h2.2 with ⟨hv, h0⟩ | ⟨g, _, _, hv, _⟩
      · rw [hv]
      · cases hv
    have := (h4.1 this).1
    injection this with e1 _ _
    exact hA e1
/-- the walk's law for it -/
theorem wp_append_recs {ops : Array Oper} {rest : List Oper} {o : Oper} {a : Act} {w : World} {Q : Exit → Act → World → Prop} (hgd : o.guard = none) (s x : Operand)
    (ho : o.op = .call { callee := .builtin .append, args := #[s, x], argTypes := #[R.S, R.S] })
    (base B n cap m c : Nat) (A A2 : Option Addr) (l r : List α) (hs : a.eval s = .slice A n cap) (hown : OwnR R w base A n cap l) (hx : a.eval x = .slice A2 m c) (hr : Recs R w B A2 m r)
    (hb : base ≤ w.heap.size) (hsm : n + m ≤ 1000000000)
    (h : ∀ A' cap' w', OwnR R w' base A' (n + m) cap' (l ++ r) → w.grownBy w' (Value.slice A n cap).ownBlock → ((Value.slice A' (n + m) cap').ownBlock = (Value.slice A n cap).ownBlock ∨ (Value.slice A' (n + m) cap').ownBlock = some w.heap.size) → (A ≠ none → A' ≠ none) →
      wpList Try.prog ops Q rest (a.put o.dst (.slice A' (n + m) cap')) w') : wpList Try.prog ops Q (o :: rest) a w := by
  obtain ⟨A', cap', w', hrun, h2, h3, h4, h5⟩ := run_append_recs w o.type base B n m c A A2 cap l r hown hr hb hsm
  refine wpList_plain hgd fun K hK => ?_
  unfold Oper.wp execOp
  simp only [ho, resolve, invoke, builtin, Sem.run_bind, Sem.run_pure, Result.andThen_ok, List.map_toArray, List.map_cons, List.map_nil, hs, hx, hrun]
  exact hK _ _ (h A' cap' w' h2 h3 h4 h5)
theorem step_append_recs {ops : Array Oper} {o : Oper} {a : Act} {w : World} {K : Act → World → Prop} {Q : Exit → Act → World → Prop} {E : Prop} (hw : Region.wanted o (yielded ops a.tmps) = true) (s x : Operand)
    (ho : o.op = .call { callee := .builtin .append, args := #[s, x], argTypes := #[R.S, R.S] })
    (base B n cap m c : Nat) (A A2 : Option Addr) (l r : List α) (hs : a.eval s = .slice A n cap) (hown : OwnR R w base A n cap l) (hx : a.eval x = .slice A2 m c) (hr : Recs R w B A2 m r)
    (hb : base ≤ w.heap.size) (hsm : n + m ≤ 1000000000)
    (h : ∀ A' cap' w', OwnR R w' base A' (n + m) cap' (l ++ r) → w.grownBy w' (Value.slice A n cap).ownBlock → ((Value.slice A' (n + m) cap').ownBlock = (Value.slice A n cap).ownBlock ∨ (Value.slice A' (n + m) cap').ownBlock = some w.heap.size) → (A ≠ none → A' ≠ none) →
      K (a.put o.dst (.slice A' (n + m) cap')) w') : if Region.wanted o (yielded ops a.tmps) = true then Oper.wp Try.prog o a w K Q else E := by
  rw [if_pos hw]
  obtain ⟨A', cap', w', hrun, h2, h3, h4, h5⟩ := run_append_recs w o.type base B n m c A A2 cap l r hown hr hb hsm
  unfold Oper.wp execOp
  simp only [ho, resolve, invoke, builtin, Sem.run_bind, Sem.run_pure, Result.andThen_ok, List.map_toArray, List.map_cons, List.map_nil, hs, hx, hrun]
  exact h A' cap' w' h2 h3 h4 h5
theorem below_append {W w6 : World} {base0 : Nat} (hbel : Below base0 w W) (hB : base0 ≤ W.heap.size) (hown : OwnR R W base A n cap l) (hbb : base0 ≤ base) (hg : W.grownBy w6 (Value.slice A n cap).ownBlock) : Below base0 w w6 :=
  hbel.grown hg hB (fun j hj => by have := (hown.blockAt hj).1; omega)
end
end Go.Proofs.Ytmolphaihapkkaa
