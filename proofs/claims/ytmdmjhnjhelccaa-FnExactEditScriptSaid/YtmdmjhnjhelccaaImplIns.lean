/- slices.Insert of one byte and slices.Delete of one byte, at a row of bytes of the call's own. -/
import Derived.Test.YtmdmjhnjhelccaaImplEd
import Derived.Shelf.Spec.SlicesInsertGrow
import Derived.Shelf.SlicesE.Delete
import Derived.Laws.IdiomStrings
namespace Go.Proofs.Ytmdmjhnjhelccaa
open Go.RowKit Go.Lib
set_option maxHeartbeats 4000000
set_option linter.unusedSimpArgs false
set_option linter.unusedVariables false

def byteV (l : List UInt8) : List Value := l.map fun c => Value.int .u8 (c.toNat : Int)
theorem byteV_len (l : List UInt8) : (byteV l).length = l.length := by unfold byteV; simp
theorem byteV_one (l : List UInt8) : ∀ v ∈ byteV l, v.oneCell' = true := by intro v hv; unfold byteV at hv; simp at hv; obtain ⟨x, _, rfl⟩ := hv; rfl
theorem byteV_get {l : List UInt8} {j : Nat} {c : UInt8} (h : l[j]? = some c) : (byteV l)[j]? = some (.int .u8 (c.toNat : Int)) := by unfold byteV; simp [h]
theorem byteV_take (l : List UInt8) (n : Nat) : (byteV l).take n = byteV (l.take n) := by unfold byteV; rw [List.map_take]
theorem byteV_drop (l : List UInt8) (n : Nat) : (byteV l).drop n = byteV (l.drop n) := by unfold byteV; rw [List.map_drop]

/-- the head of block g holds the bytes l, and has room up to cap; nothing of it is frozen -/
def OwnB (w : World) (g cap : Nat) (l : List UInt8) : Prop :=
  l.length ≤ cap ∧ cap ≤ maxLen ∧ (∀ j c, l[j]? = some c → w.cell? ⟨g, j, none⟩ = some (.int .u8 (c.toNat : Int))) ∧
    (∀ j, j < cap → (w.cell? ⟨g, j, none⟩).isSome = true ∧ w.frozen? ⟨g, j, none⟩ = false)
theorem OwnB.vals {w : World} {g cap : Nat} {l : List UInt8} (h : OwnB w g cap l) : ∀ j v, (byteV l)[j]? = some v → w.cell? ⟨g, j, none⟩ = some v := by
  intro j v hj
  unfold byteV at hj
  rw [List.getElem?_map] at hj
  obtain ⟨c, hc, rfl⟩ := Option.map_eq_some_iff.1 hj
  exact h.2.2.1 j c hc
theorem below_setCells {B : Nat} {a : World} {b : Nat} (hB : B ≤ b) : ∀ (vs : List Value) (o : Nat) (w : World), Below B a w → Below B a (w.setCells b o vs)
  | [], _, _, h => h
  | v :: r, o, w, h => by
    rw [World.setCells]
    exact below_setCells hB r (o + 1) _ (h.setCell hB v)
theorem cellsIn {w : World} {g o : Nat} {vs : List Value} (h : ∀ j, j < vs.length → (w.cell? ⟨g, o + j, none⟩).isSome = true) {k : Nat} {v : Value} (hk : vs[k]? = some v) : (w.setCells g o vs).cell? ⟨g, o + k, none⟩ = some v := by
  have hl := (List.getElem?_eq_some_iff.1 hk).1
  have := World.cell?_setCells_in g vs o w h k hl
  rw [this, ← hk, List.getElem?_eq_getElem hl]
theorem cellsOut {w : World} {g o k : Nat} {vs : List Value} (h : k < o ∨ o + vs.length ≤ k) : (w.setCells g o vs).cell? ⟨g, k, none⟩ = w.cell? ⟨g, k, none⟩ := World.cell?_setCells_out _ _ _ _ _ (fun _ _ => h)

theorem u8_info : (Try.prog.info? 5).map (fun i => (i.zero, i.size, i.bytes)) = some (some (.int .u8 0), 1, 1) := by kernel_rfl
theorem u8_size : (Try.prog.info? 5).map (·.size) = some 1 := by kernel_rfl

/-- what slices.Insert hands back -/
def InsPost (B : Nat) (l : List UInt8) (w : World) (e : Ending) (w' : World) : Prop :=
  ∃ g cap : Nat, e = .returned (.slice (some ⟨g, 0, none⟩) l.length cap) ∧ (∀ j c, l[j]? = some c → w'.cell? ⟨g, j, none⟩ = some (.int .u8 (c.toNat : Int))) ∧ Below B w w'

set_option maxRecDepth 100000 in
theorem insert_end_room (g cap vb vc B : Nat) (l : List UInt8) (c : UInt8) (w : World) (h : OwnB w g cap l) (hB : B ≤ g) (hroom : l.length + 1 ≤ cap)
    (hv : w.cell? ⟨vb, 0, none⟩ = some (.int .u8 (c.toNat : Int))) :
    Calls Try.prog 40 #[.slice (some ⟨g, 0, none⟩) l.length cap, .int .i64 l.length, .slice (some ⟨vb, 0, none⟩) 1 vc] w (InsPost B (l ++ [c]) w) := by
  have hm := h.2.1
  unfold maxLen at hm
  have hc63 : cap ≤ 9223372036854775807 := by omega
  have hsrc : Src Try.prog 1 22 (.slice (some ⟨vb, 0, none⟩) 1 vc) 1 [.int .u8 (c.toNat : Int)] w :=
    Src.ofSlice w Try.underlying22 ⟨vb, 0, none⟩ 1 vc _ (by simp) (fun j u hj => by
      match j, hj with
      | 0, hj => simp at hj; subst hj; simpa [Addr.add] using hv
      | j + 1, hj => simp at hj) (by simp [Value.oneCell'])
  have hsp : ∀ j, j < 1 → (w.cell? ⟨g, 0 + l.length + j, none⟩).isSome = true := fun j hj => (h.2.2.2 _ (by omega)).1
  have hfz : ∀ j, j < 1 → w.frozen? ⟨g, 0 + l.length + j, none⟩ = false := fun j hj => (h.2.2.2 _ (by omega)).2
  have HP := Lib.hid (show InsPost B (l ++ [c]) w (.returned (.slice (some ⟨g, 0, none⟩) (l.length + 1) cap)) (w.setCells g l.length [.int .u8 (c.toNat : Int)]) by
    have hsp : ∀ j, j < 1 → (w.cell? ⟨g, l.length + j, none⟩).isSome = true := fun j hj => (h.2.2.2 _ (by omega)).1
    refine ⟨g, cap, by simp, fun j d hj => ?_, below_setCells hB _ _ _ (Below.refl _ _)⟩
    by_cases hjl : j < l.length
    · rw [cellsOut (by left; omega)]
      exact h.2.2.1 j d (by rwa [List.getElem?_append_left hjl] at hj)
    · rw [List.getElem?_append_right (by omega)] at hj
      have hj0 : j = l.length := by have := (List.getElem?_eq_some_iff.1 hj).1; simp at this; omega
      subst hj0
      simp at hj
      subst hj
      have := cellsIn (w := w) (g := g) (o := l.length) (vs := [.int .u8 (c.toNat : Int)]) (by simpa using hsp) (k := 0) (v := .int .u8 (c.toNat : Int)) rfl
      simpa using this)
  clear h
  go_enter Try.func40, Try.ntmps40
  go_wp2_with (at_builtin; refine wpList_append_room1 _ rfl _ _ 22 22 rfl 5 _ _ Try.underlying22 u8_info g 0 l.length cap rfl _ rfl 1 [.int .u8 (c.toNat : Int)] hsrc hroom (by simpa using hsp) (by simpa using hfz) ?_)
  go_ret
  exact HP.out

set_option maxRecDepth 100000 in
theorem insert_end_grow (g cap vb vc B : Nat) (l : List UInt8) (c : UInt8) (w : World) (h : OwnB w g cap l) (hB : B ≤ w.heap.size) (hroom : cap < l.length + 1) (hl : l.length ≤ 1000)
    (hv : w.cell? ⟨vb, 0, none⟩ = some (.int .u8 (c.toNat : Int))) :
    Calls Try.prog 40 #[.slice (some ⟨g, 0, none⟩) l.length cap, .int .i64 l.length, .slice (some ⟨vb, 0, none⟩) 1 vc] w (InsPost B (l ++ [c]) w) := by
  have hm := h.2.1
  have hlc := h.1
  unfold maxLen at hm
  have hc63 : cap ≤ 9223372036854775807 := by omega
  obtain ⟨i0, hi0, hz0, hzs, hzb⟩ := info_parts u8_info
  have hsrc : Src Try.prog i0.size 22 (.slice (some ⟨vb, 0, none⟩) 1 vc) 1 [.int .u8 (c.toNat : Int)] w := by
    rw [hzs]
    exact Src.ofSlice w Try.underlying22 ⟨vb, 0, none⟩ 1 vc _ (by simp) (fun j u hj => by
      match j, hj with
      | 0, hj => simp at hj; subst hj; simpa [Addr.add] using hv
      | j + 1, hj => simp at hj) (by simp [Value.oneCell'])
  have hold : (Builtin.firstCells i0.size l.length (.slice (some ⟨g, 0, none⟩) l.length cap)).run Try.prog w.drew = .ok (byteV l).toArray w.drew := by
    rw [hzs]
    exact run_firstCells_some w.drew 1 l.length ⟨g, 0, none⟩ l.length cap (byteV l) (by rw [byteV_len]; omega) (fun j v hj => by
      rw [Addr.add_lit, Nat.zero_add]
      exact h.vals j v hj)
  have hrun : ∀ ty, (Builtin.append_ #[22, 22] ty #[.slice (some ⟨g, 0, none⟩) l.length cap, .slice (some ⟨vb, 0, none⟩) 1 vc]).run Try.prog w = _ := fun ty =>
    run_append_grow_src w 22 22 ty 5 i0 _ Try.underlying22 hi0 hz0 (some ⟨g, 0, none⟩) l.length cap (byteV l) hold _ 1 _ hsrc (by omega) (by omega) (by rw [hzb]; exact growslice_fits (by omega) (by omega))
  have HP := Lib.hid (show ∀ (C : Array Value) (k : Nat), InsPost B (l ++ [c]) w (.returned (.slice (some ⟨w.heap.size, 0, none⟩) (l.length + 1) k)) (w.drew.alloc (.cells ((byteV l ++ [Value.int .u8 (c.toNat : Int)]).toArray ++ C) 5)) from fun C k => by
    refine ⟨w.heap.size, k, by simp, fun j d hj => ?_, ((Below.refl _ _).drew).alloc (by simpa using hB) _⟩
    have hjl := (List.getElem?_eq_some_iff.1 hj).1
    rw [World.cell?_alloc_at (w := w.drew) _ _ w.heap.size j rfl, Array.getElem?_append_left (by simp [byteV_len]; simpa using hjl)]
    have := byteV_get hj
    unfold byteV at this ⊢
    simpa using this)
  clear h hold
  go_enter Try.func40, Try.ntmps40
  go_wp2_with (at_builtin; refine Lib.wpList_append_run _ rfl _ _ _ _ rfl _ _ rfl rfl _ _ (hrun _) ?_)
  go_ret
  exact HP.out _ _

/-- the letters behind an insertion -/
def insL (l : List UInt8) (i : Nat) (c : UInt8) : List UInt8 := l.take i ++ c :: l.drop i
theorem insL_len (l : List UInt8) (i : Nat) (c : UInt8) (hi : i ≤ l.length) : (insL l i c).length = l.length + 1 := by unfold insL; simp only [List.length_append, List.length_take, List.length_cons, List.length_drop]; omega
theorem insL_get (l : List UInt8) (i : Nat) (c : UInt8) (hi : i ≤ l.length) (j : Nat) (d : UInt8) (h : (insL l i c)[j]? = some d) :
    (j < i ∧ l[j]? = some d) ∨ (j = i ∧ c = d) ∨ (i < j ∧ l[j - 1]? = some d) := by
  unfold insL at h
  have hl : (l.take i).length = i := by rw [List.length_take]; omega
  rcases Nat.lt_trichotomy j i with hj | hj | hj
  · rw [List.getElem?_append_left (by omega), List.getElem?_take_of_lt hj] at h
    exact .inl ⟨hj, h⟩
  · subst hj
    rw [List.getElem?_append_right (by omega), hl, Nat.sub_self] at h
    exact .inr (.inl ⟨rfl, by simpa using h⟩)
  · rw [List.getElem?_append_right (by omega), hl] at h
    obtain ⟨k, rfl⟩ : ∃ k, j = i + 1 + k := ⟨j - (i + 1), by omega⟩
    rw [show i + 1 + k - i = k + 1 by omega, List.getElem?_cons_succ, List.getElem?_drop] at h
    exact .inr (.inr ⟨hj, by rw [show i + 1 + k - 1 = i + k by omega]; exact h⟩)

set_option maxRecDepth 100000 in
theorem insert_shift (g cap i vb vc B : Nat) (l : List UInt8) (c : UInt8) (w : World) (h : OwnB w g cap l) (hB : B ≤ g) (hroom : l.length + 1 ≤ cap) (hi : i < l.length) (hvb : vb ≠ g)
    (hv : w.cell? ⟨vb, 0, none⟩ = some (.int .u8 (c.toNat : Int))) (tA tB : TypeId) (kA kB : Nat) (hsa : w.shape? vb = some (tA, kA)) (hsb : w.shape? g = some (tB, kB)) (hkB : kB ≠ 0) (hfa : w.frozen? ⟨vb, 0, none⟩ = false) (hfe : w.frozen? ⟨vb, kA, none⟩ = false) :
    Calls Try.prog 40 #[.slice (some ⟨g, 0, none⟩) l.length cap, .int .i64 i, .slice (some ⟨vb, 0, none⟩) 1 vc] w (InsPost B (insL l i c) w) := by
  have hm := h.2.1
  unfold maxLen at hm
  have hc63 : cap ≤ 9223372036854775807 := by omega
  have hz2 : ¬ ((i : Int) = (l.length : Int)) := by omega
  have hvs : ∀ (j : Nat) (v : Value), [Value.int .u8 (c.toNat : Int)][j]? = some v → w.cell? ⟨vb, 0 + j, none⟩ = some v := fun j u hj => by
    match j, hj with
    | 0, hj => simp at hj; subst hj; simpa using hv
    | j + 1, hj => simp at hj
  have hov : ∀ lb cb, (callFunc 54 #[.slice (some ⟨vb, 0, none⟩) 1 vc, .slice (some ⟨g, i + 1, none⟩) lb cb]).run Try.prog w = .ok (.value (.bool false)) w := fun lb cb => by
    rw [run_callFunc_extern Try.func54 (by kernel_rfl) (by kernel_rfl) (by kernel_rfl) (e := Extern.SlicesOverlaps.overlaps #[22, 22] #[4]) (by kernel_rfl),
      Lib.run_overlaps_apart w 22 4 5 Try.underlying22 1 Try.sizeOf5 ⟨vb, 0, none⟩ ⟨g, i + 1, none⟩ 1 vc lb cb hvb tA tB kA kB hsa hsb hkB hfa hfe]
    rfl
  have hdl : (byteV (l.drop i)).length = l.length - i := by rw [byteV_len, List.length_drop]
  have hw1 : IntKind.i64.wrap ((i : Int) + 1) = (i : Int) + 1 := by rw [IntKind.wrap_i64]; omega
  have hw2 : IntKind.i64.wrap ((l.length : Int) + 1) = (l.length : Int) + 1 := by rw [IntKind.wrap_i64]; omega
  have hb1 : (0 : Int) ≤ (i : Int) + 1 := by omega
  have hin : i ≤ l.length := by omega
  have htn : ((i : Int) + 1).toNat = i + 1 := by omega
  have htn2 : ((l.length : Int) + 1).toNat = l.length + 1 := by omega
  have hb2 : ¬ (cap = i + 1) := by omega
  have hb3 : (i : Int) ≤ (l.length : Int) + 1 := by omega
  have hb4 : ¬ (cap = i) := by omega
  have hb5 : ¬ ((cap : Int) < (l.length : Int) + 1) := by omega
  have hcp1 : ∀ ty dc sc, (Builtin.copy_ #[22, 22] ty #[.slice (some ⟨g, i + 1, none⟩) (l.length - i) dc, .slice (some ⟨g, i, none⟩) (l.length + 1 - i) sc]).run Try.prog w.drew = .ok (goInt (byteV (l.drop i)).length) (w.drew.setCells g (i + 1) (byteV (l.drop i))) := fun ty dc sc =>
    run_copy_cells w.drew _ _ ty 5 g (i + 1) (l.length - i) dc ⟨g, i, none⟩ (l.length + 1 - i) sc (byteV (l.drop i)) Try.underlying22 u8_size (by rw [hdl]; simp only [Nat.min_def]; split <;> omega)
      (fun j v hj => by rw [Addr.add_lit]; exact h.vals (i + j) v (by rwa [← byteV_drop, List.getElem?_drop] at hj))
      (fun j hj => (h.2.2.2 _ (by omega)).1) (fun j hj => (h.2.2.2 _ (by omega)).2) (byteV_one _)
  obtain ⟨W1, hW1⟩ : ∃ W1, W1 = w.drew.setCells g (i + 1) (byteV (l.drop i)) := ⟨_, rfl⟩
  have hsp1 : ∀ k, k < cap → (W1.cell? ⟨g, k, none⟩).isSome = true := fun k hk => by
    rw [hW1]
    exact isSome_setCells g (byteV (l.drop i)) (i + 1) w.drew (fun j hj => (h.2.2.2 _ (by rw [hdl] at hj; omega)).1) _ (h.2.2.2 k hk).1
  have hcp2 : ∀ (W : World), (∀ x, W.cell? x = W1.cell? x) → (∀ x, W.frozen? x = W1.frozen? x) → ∀ ty dc, (Builtin.copy_ #[22, 22] ty #[.slice (some ⟨g, i, none⟩) (l.length + 1 - i) dc, .slice (some ⟨vb, 0, none⟩) 1 vc]).run Try.prog W = .ok (goInt 1) (W.setCells g i [Value.int .u8 (c.toNat : Int)]) := fun W hWc hWf ty dc =>
    run_copy_cells W _ _ ty 5 g i (l.length + 1 - i) dc ⟨vb, 0, none⟩ 1 vc [Value.int .u8 (c.toNat : Int)] Try.underlying22 u8_size (by simp only [Nat.min_def, List.length_singleton]; split <;> omega)
      (fun j v hj => by
        rw [Addr.add_lit, hWc, hW1, World.cell?_setCells_out g _ _ _ _ (fun h _ => absurd h hvb)]
        exact hvs j v hj)
      (fun j hj => by rw [hWc]; exact hsp1 _ (by simp at hj; omega)) (fun j hj => by rw [hWf, hW1, World.frozen?_setCells]; exact (h.2.2.2 _ (by simp at hj; omega)).2) (by simp [Value.oneCell'])
  have HP := Lib.hid (show ∀ W : World, (∀ x, W.cell? x = W1.cell? x) → Below B w W → InsPost B (insL l i c) w (.returned (.slice (some ⟨g, 0, none⟩) (l.length + 1) cap)) (W.setCells g i [Value.int .u8 (c.toNat : Int)]) from fun W hWc hWb => by
    refine ⟨g, cap, by rw [insL_len l i c hin], fun j d hj => ?_, below_setCells hB _ _ _ hWb⟩
    rcases insL_get l i c hin j d hj with ⟨hji, hd⟩ | ⟨rfl, rfl⟩ | ⟨hji, hd⟩
    · rw [cellsOut (by left; omega), hWc, hW1, cellsOut (by left; omega)]
      exact h.2.2.1 j d hd
    · have := cellsIn (w := W) (g := g) (o := j) (vs := [Value.int .u8 (c.toNat : Int)]) (fun q hq => by rw [hWc]; exact hsp1 _ (by simp at hq; omega)) (k := 0) (v := .int .u8 (c.toNat : Int)) rfl
      simpa using this
    · rw [cellsOut (by right; simp; omega), hWc, hW1]
      obtain ⟨q, rfl⟩ : ∃ q, j = i + 1 + q := ⟨j - (i + 1), by omega⟩
      refine cellsIn (w := w.drew) (vs := byteV (l.drop i)) (fun q hq => (h.2.2.2 _ (by rw [hdl] at hq; omega)).1) ?_
      rw [show i + 1 + q - 1 = i + q by omega] at hd
      exact byteV_get (by rw [List.getElem?_drop]; exact hd))
  have hbW : Below B w W1 := by rw [hW1]; exact below_setCells hB _ _ _ (Below.refl _ _).drew
  rw [← hW1] at hcp1
  clear h hW1
  go_enter Try.func40, Try.ntmps40
  go_wp2_with (simp only [hov])
  go_region_law (refine step_copy_runI rfl _ _ 22 22 rfl _ _ (by simp [Act.eval, Act.put]) (by simp [Act.eval, Act.put]) (hcp1 _ _ _) ?_)
  go_wp2_with (at_builtin; refine wpList_copy_runI _ rfl _ _ 22 22 rfl _ _ rfl rfl (hcp2 _ (fun _ => rfl) (fun _ => rfl) _ _) ?_)
  go_ret
  exact HP.out _ (fun _ => rfl) hbW
end Go.Proofs.Ytmdmjhnjhelccaa
