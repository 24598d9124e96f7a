/- Tables of thirteen rows of thirteen ints by value; contract of the program's tableOf. -/
import Derived.Test.YtmdmjhnjhelccaaImplEdit
namespace Go.Proofs.Ytmdmjhnjhelccaa
open Go.RowKit
set_option maxHeartbeats 1600000
set_option linter.unusedSimpArgs false
set_option linter.unusedVariables false

theorem tab_info : (Try.prog.info? 69).map (fun i => (i.zero, i.size)) = some (some (.agg (Array.replicate 169 (.int .i64 0))), 169) := by kernel_rfl
/-- the table's numbers, row by row -/
def tab (f : Nat → Int) : Array Value := ((List.range 169).map fun j => Value.int .i64 (f j)).toArray
theorem tab_size (f : Nat → Int) : (tab f).size = 169 := by simp [tab]
theorem tab_get (f : Nat → Int) {j : Nat} (h : j < 169) : (tab f)[j]? = some (.int .i64 (f j)) := by simp [tab, h]
theorem tab_set (f : Nat → Int) (k : Nat) (v : Int) : (tab f).setIfInBounds k (.int .i64 v) = tab (fun j => if j = k then v else f j) := by
  apply Array.ext_getElem?
  intro j
  rw [Array.getElem?_setIfInBounds]
  by_cases hj : j < 169
  · rw [tab_get _ hj, tab_get _ hj]
    by_cases e : k = j
    · subst e; simp [tab_size, hj]
    · simp [e, Ne.symm e]
  · have h1 : (tab f)[j]? = none := Array.getElem?_eq_none (by rw [tab_size]; omega)
    have h2 : (tab fun j => if j = k then v else f j)[j]? = none := Array.getElem?_eq_none (by rw [tab_size]; omega)
    rw [h1, h2]
    by_cases e : k = j
    · subst e; simp [tab_size, hj]
    · simp [e]
theorem tab_zero : Array.replicate 169 (Value.int .i64 0) = tab fun _ => 0 := by
  apply Array.ext_getElem?
  intro j
  by_cases hj : j < 169
  · rw [tab_get _ hj, Array.getElem?_replicate, if_pos hj]
  · rw [Array.getElem?_replicate, if_neg hj, Array.getElem?_eq_none (by rw [tab_size]; omega)]
theorem tab_one (f : Nat → Int) : (tab f).all (·.oneCell') = true := by
  rw [Array.all_eq_true_iff_forall_mem]
  intro v hv
  simp [tab] at hv
  obtain ⟨j, _, rfl⟩ := hv
  rfl
/-- block g, which the call owns from base on, holds the table f -/
def OwnT (w : World) (base g : Nat) (f : Nat → Int) : Prop := base ≤ g ∧ w.heap[g]? = some (.cells (tab f) 69 (0, 0))
section
variable {w w' : World} {base base' g : Nat} {f : Nat → Int}
theorem OwnT.lt (h : OwnT w base g f) : base ≤ g ∧ g < w.heap.size := ⟨h.1, (Array.getElem?_eq_some_iff.1 h.2).1⟩
theorem OwnT.block (h : OwnT w base g f) (hk : w'.heap[g]? = w.heap[g]?) : OwnT w' base g f := ⟨h.1, hk.trans h.2⟩
theorem OwnT.below (h : OwnT w base g f) (hb : Below w.heap.size w w') : OwnT w' base g f := h.block (hb.block g h.lt.2)
theorem OwnT.drawn (h : OwnT w base g f) (hd : Drawn w w') : OwnT w' base g f := h.below hd.below
theorem OwnT.alloc (h : OwnT w base g f) (o : Obj) : OwnT (w.alloc o) base g f := h.below ((Below.refl _ _).alloc (Nat.le_refl _) _)
theorem OwnT.at_ {k : Nat} (h : OwnT w base g f) (hk : k < 169) : w.cell? ⟨g, k, none⟩ = some (.int .i64 (f k)) := by
  rw [cell_of_row w g k _ _ _ h.2, tab_get f hk]
theorem OwnT.frozen (h : OwnT w base g f) (k : Nat) : w.frozen? ⟨g, k, none⟩ = false := frozen_of_row w g k _ _ h.2
theorem OwnT.stored (h : OwnT w base g f) (k : Nat) (v : Int) : OwnT (w.setCell ⟨g, k, none⟩ (.int .i64 v)) base g (fun j => if j = k then v else f j) :=
  ⟨h.1, by rw [heap_setCell_same w g k _ _ _ h.2, tab_set]⟩
theorem OwnT.setCell (h : OwnT w base g f) {p : Addr} (v : Value) (hne : g ≠ p.block) : OwnT (w.setCell p v) base g f :=
  h.block (by simp [World.setCell, Array.getElem?_modify, Ne.symm hne])
theorem OwnT.setRow {g2 : Nat} (h : OwnT w base g f) (cs : Array Value) (hne : g ≠ g2) : OwnT (w.setRow g2 cs) base g f := h.block (setRow_other w g2 g cs hne)
theorem OwnT.rowed {f' : Nat → Int} (h : OwnT w base g f) : OwnT (w.setRow g (tab f')) base g f' := ⟨h.1, setRow_heap w g _ _ _ _ h.2⟩
theorem OwnT.zero (w : World) : OwnT (w.alloc (.cells (tab fun _ => 0) 69)) w.heap.size w.heap.size (fun _ => 0) := ⟨Nat.le_refl _, heap_alloc_new w _⟩
theorem OwnT.zero_at {w : World} {base g : Nat} (hg : g = w.heap.size) (hb : base ≤ g) : OwnT (w.alloc (.cells (tab fun _ => 0) 69)) base g (fun _ => 0) := by
  subst hg; exact ⟨hb, (OwnT.zero w).2⟩
theorem OwnT.load (h : OwnT w base g f) : (Instr.loadAt 69 (.pointer (some ⟨g, 0, none⟩))).run Try.prog w = .ok (.agg (tab f)) w := by
  simp only [Instr.loadAt, Instr.sureAddr, Sem.run_bind, Sem.run_pure, Result.andThen]
  exact run_loadVar_row w g _ _ _ _ _ h.2 Try.underlying69 rfl (by rw [tab_size]; exact (zero_of_info tab_info).2)
end
theorem wp_load_tab {ops : Array Oper} {rest : List Oper} {o : Oper} {a : Act} {w : World} {Q : Exit → Act → World → Prop} (hgd : o.guard = none) (x : Operand) (ho : o.op = .load 69 x)
    (base g : Nat) (f : Nat → Int) (hx : a.eval x = .pointer (some ⟨g, 0, none⟩)) (h : OwnT w base g f) (hk : wpList Try.prog ops Q rest (a.put o.dst (.agg (tab f))) w) : wpList Try.prog ops Q (o :: rest) a w := by
  refine wpList_plain hgd fun K hK => ?_
  unfold Oper.wp execOp
  simp only [ho, hx, Sem.run_bind, h.load, Result.andThen_ok]
  exact hK _ _ hk
theorem wp_store_tab {ops : Array Oper} {rest : List Oper} {o : Oper} {a : Act} {w : World} {Q : Exit → Act → World → Prop} (hgd : o.guard = none) (x y : Operand) (ho : o.op = .store 69 x y)
    (base g : Nat) (f f' : Nat → Int) (hx : a.eval x = .pointer (some ⟨g, 0, none⟩)) (hy : a.eval y = .agg (tab f')) (h : OwnT w base g f)
    (hk : wpList Try.prog ops Q rest (a.put o.dst undef) (w.setRow g (tab f'))) : wpList Try.prog ops Q (o :: rest) a w :=
  wpList_store_row hgd 69 x y ho g (tab f') hx hy _ _ h.2 (by rw [tab_size]; exact (zero_of_info tab_info).2) (by rw [tab_size, tab_size]) (tab_one _) hk
theorem tab_built : Try.prog.built 69 [(0, .agg (arr fun k => (k : Int)))] = some (tab fun j => if j < 13 then (j : Int) else 0) := by kernel_rfl

theorem wp_build_tab {ops : Array Oper} {rest : List Oper} {o : Oper} {a : Act} {w : World} {Q : Exit → Act → World → Prop} (hgd : o.guard = none) (x : Operand) (ho : o.op = .build 69 #[(0, x)])
    (hx : a.eval x = .agg (arr fun k => (k : Int))) (hk : wpList Try.prog ops Q rest (a.put o.dst (.agg (tab fun j => if j < 13 then (j : Int) else 0))) w) : wpList Try.prog ops Q (o :: rest) a w := by
  have hb : Try.prog.built 69 (#[(0, x)].map fun (i, y) => (i, a.eval y)).toList = some (tab fun j => if j < 13 then (j : Int) else 0) := by
    simp only [List.map_toArray, List.map_cons, List.map_nil, hx]
    exact tab_built
  refine wpList_build hgd 69 _ ho (by rw [hb]; rfl) ?_
  rw [hb]
  exact hk

/-- what tableOf returns -/
def TabOf (a b : ByteArray) (f : Nat → Int) : Prop := ∀ i j, i ≤ a.size → j ≤ b.size → f (i * 13 + j) = (dist a b i j : Int)
/-- rows up to k, and of the next one the first m + 1 numbers -/
def TabAt (a b : ByteArray) (k m : Nat) (f : Nat → Int) : Prop := (∀ i j, i ≤ k → j ≤ b.size → f (i * 13 + j) = (dist a b i j : Int)) ∧ (∀ j, j ≤ m → f ((k + 1) * 13 + j) = (dist a b (k + 1) j : Int))
def RowsTo (a b : ByteArray) (k : Nat) (f : Nat → Int) : Prop := ∀ i j, i ≤ k → j ≤ b.size → f (i * 13 + j) = (dist a b i j : Int)
theorem RowsTo.first (a b : ByteArray) (hb : b.size ≤ 12) : RowsTo a b 0 (fun j => if j < 13 then (j : Int) else 0) := by
  intro i j hi hj
  obtain rfl : i = 0 := by omega
  show (if 0 * 13 + j < 13 then ((0 * 13 + j : Nat) : Int) else 0) = _
  rw [dist_top a b hj, if_pos (by omega)]
  simp
theorem RowsTo.begin {a b : ByteArray} {k : Nat} {f : Nat → Int} (h : RowsTo a b k f) (hk : k < a.size) (hb : b.size ≤ 12) : TabAt a b k 0 (fun j => if j = (k + 1) * 13 then ((k : Int) + 1) else f j) := by
  refine ⟨fun i j hi hj => ?_, fun j hj => ?_⟩
  · show (if i * 13 + j = (k + 1) * 13 then ((k : Int) + 1) else f (i * 13 + j)) = _
    rw [if_neg (by omega)]; exact h i j hi hj
  · obtain rfl : j = 0 := by omega
    show (if (k + 1) * 13 + 0 = (k + 1) * 13 then ((k : Int) + 1) else f ((k + 1) * 13 + 0)) = _
    rw [if_pos (by omega), dist_left a b (by omega)]; omega
theorem TabAt.next {a b : ByteArray} {k m : Nat} {f : Nat → Int} {v : Int} (h : TabAt a b k m f) (hb : b.size ≤ 12) (hm : m < b.size) (hv : v = (dist a b (k + 1) (m + 1) : Int)) : TabAt a b k (m + 1) (fun j => if j = (k + 1) * 13 + (m + 1) then v else f j) := by
  refine ⟨fun i j hi hj => ?_, fun j hj => ?_⟩
  · show (if i * 13 + j = (k + 1) * 13 + (m + 1) then v else f (i * 13 + j)) = _
    rw [if_neg (by omega)]; exact h.1 i j hi hj
  · show (if (k + 1) * 13 + j = (k + 1) * 13 + (m + 1) then v else f ((k + 1) * 13 + j)) = _
    by_cases e : j = m + 1
    · subst e; rw [if_pos rfl, hv]
    · rw [if_neg (by omega)]; exact h.2 j (by omega)
theorem TabAt.done {a b : ByteArray} {k : Nat} {f : Nat → Int} (h : TabAt a b k b.size f) : RowsTo a b (k + 1) f := by
  intro i j hi hj
  by_cases e : i = k + 1
  · subst e; exact h.2 j hj
  · exact h.1 i j (by omega) hj

set_option maxRecDepth 100000 in
theorem tableOf_any (a b : ByteArray) (w : World) (ha : a.size ≤ 12) (hb : b.size ≤ 12) :
    Calls Try.prog 50 #[.string a, .string b] w fun e w' => ∃ f, e = .returned (.agg (tab f)) ∧ TabOf a b f ∧ Below w.heap.size w w' := by
  have hz := (zero_of_info tab_info).1
  rw [tab_zero] at hz
  go_enter Try.func50, Try.ntmps50
  go_wp2_with fail
  refine (countingRow_any _).mono ?_
  rintro e w1 ⟨rfl, hb1⟩
  have hz1 := hb1.size
  simp at hz1
  have hz2 : w.heap.size < w1.heap.size := by omega
  have hbel : Below w.heap.size w w1 := ((Below.refl _ _).alloc (Nat.le_refl _) _).trans (hb1.mono (by simp))
  have hres : OwnT w1 w.heap.size w.heap.size (fun _ => 0) := (OwnT.zero w).below hb1
  clear hb1 hz1
  go_wp2_with (first | (with_reducible refine wp_build_tab rfl (.tmp 10) rfl rfl ?_) | (with_reducible refine wp_store_tab rfl (.tmp 5) (.tmp 11) rfl w.heap.size w1.heap.size (fun _ => 0) _ rfl rfl (OwnT.zero_at rfl (by omega)) ?_))
  have hown0 : OwnT ((w1.alloc (.cells (tab fun x => 0) 69)).setRow w1.heap.size (tab fun j => if j < 13 then (j : Int) else 0)) w.heap.size w1.heap.size (fun j => if j < 13 then (j : Int) else 0) := (OwnT.zero_at rfl (by omega)).rowed
  have hres0 : OwnT ((w1.alloc (.cells (tab fun x => 0) 69)).setRow w1.heap.size (tab fun j => if j < 13 then (j : Int) else 0)) w.heap.size w.heap.size (fun _ => 0) := (hres.alloc _).setRow _ (by omega)
  have hbel0 : Below w.heap.size w ((w1.alloc (.cells (tab fun x => 0) 69)).setRow w1.heap.size (tab fun j => if j < 13 then (j : Int) else 0)) := below_setRow (hbel.alloc hbel.size _) (by omega) _
  clear hres hbel hz
  generalize w1.heap.size = g at *
  go_loopw [14] (fun i wr => ∃ (k : Nat) (f : Nat → Int), k ≤ a.size ∧ i = .int .i64 k ∧ OwnT wr w.heap.size g f ∧ Hid (RowsTo a b k f) ∧ OwnT wr w.heap.size w.heap.size (fun _ => 0) ∧ Below w.heap.size w wr) (fun i _ => a.size - (intOf i).toNat)
  case atStart => exact ⟨0, _, Nat.zero_le _, rfl, hown0, Lib.hid (RowsTo.first a b hb), hres0, hbel0⟩
  case round =>
    clear hown0 hres0 hbel0
    obtain ⟨k, f, hk, rfl, hown, hrows, hres, hbel⟩ := hrel
    by_cases hlt : k < a.size
    · have hk0 : (0 : Int) ≤ (k : Int) := by omega
      have hk1 : (k : Int) < 13 := by omega
      have hk2 : (k : Int) + 1 < 13 := by omega
      have hk3 : (0 : Int) ≤ (k : Int) + 1 := by omega
      have hkw := IntWalk.i64_in ((k : Int) + 1) (by omega)
      have hkn : ((k : Int) + 1).toNat = k + 1 := by omega
      have hro := hrows.out
      go_wp2_with fail
      go_quiet (fail)
      generalize hW : wr.drewN nq = W
      have hdW : Drawn wr W := ⟨nq, hW.symm⟩
      have hown := hown.drawn hdW
      have hres := hres.drawn hdW
      have hbel := below_step hbel (Nat.le_refl _) hdW.below
      have hfr := hown.frozen ((k + 1) * 13)
      have hce := hown.at_ (k := (k + 1) * 13) (by omega)
      have HB := Lib.hid (hro.begin hlt hb)
      clear hW hdW hro
      go_wp2_with fail
      have hown1 := hown.stored ((k + 1) * 13) ((k : Int) + 1)
      have hres1 := hres.setCell (p := ⟨g, (k + 1) * 13, none⟩) (.int .i64 ((k : Int) + 1)) (by show w.heap.size ≠ g; omega)
      have hbel1 := hbel.setCell (p := ⟨g, (k + 1) * 13, none⟩) (by show w.heap.size ≤ g; omega) (.int .i64 ((k : Int) + 1))
      clear hown hres hbel hfr hce
      go_loopw [29] (fun i wr => ∃ (m : Nat) (f : Nat → Int), m ≤ b.size ∧ i = .int .i64 m ∧ OwnT wr w.heap.size g f ∧ Hid (TabAt a b k m f) ∧ OwnT wr w.heap.size w.heap.size (fun _ => 0) ∧ Below w.heap.size w wr) (fun i _ => b.size - (intOf i).toNat)
      case atStart => exact ⟨0, _, Nat.zero_le _, rfl, hown1, HB, hres1, hbel1⟩
      case round =>
        clear hown1 hres1 hbel1 HB
        obtain ⟨m, f, hm, rfl, hown, htab, hres, hbel⟩ := hrel
        by_cases hlm : m < b.size
        · have hfr := hown.frozen ((k + 1) * 13 + (m + 1))
          have hc1 := hown.at_ (k := k * 13 + (m + 1)) (by omega)
          have hc2 := hown.at_ (k := (k + 1) * 13 + m) (by omega)
          have hc3 := hown.at_ (k := k * 13 + m) (by omega)
          have hc4 := hown.at_ (k := (k + 1) * 13 + (m + 1)) (by omega)
          rw [htab.out.1 k (m + 1) (Nat.le_refl _) (by omega)] at hc1
          rw [htab.out.2 m (Nat.le_refl _)] at hc2
          rw [htab.out.1 k m (Nat.le_refl _) (by omega)] at hc3
          have l1 := dist_le a b k m
          have l2 := dist_le a b k (m + 1)
          have l3 := dist_le a b (k + 1) m
          have hm0 : (0 : Int) ≤ (m : Int) := by omega
          have hm1 : (m : Int) < (b.size : Int) := by omega
          have hka : (k : Int) < (a.size : Int) := by omega
          have hx1 : (m : Int) + 1 < 13 := by omega
          have hx2 : (m : Int) < 13 := by omega
          have hx3 : (0 : Int) ≤ (m : Int) + 1 := by omega
          have hxn : ((m : Int) + 1).toNat = m + 1 := by omega
          obtain ⟨c, hc, hcl⟩ : ∃ c : Nat, (if ((a[k].toNat : Int) = (b[m].toNat : Int)) then (0 : Int) else 1) = (c : Int) ∧ c ≤ 1 := by
            by_cases h : (a[k].toNat : Int) = (b[m].toNat : Int)
            · exact ⟨0, by rw [if_pos h]; rfl, by omega⟩
            · exact ⟨1, by rw [if_neg h]; rfl, by omega⟩
          have hd : dist a b (k + 1) (m + 1) = min (dist a b k m + c) (min (dist a b k (m + 1)) (dist a b (k + 1) m) + 1) := by
            rw [dist_step a b k m hlt hlm]
            by_cases h : a[k] = b[m]
            · rw [if_pos h]; rw [if_pos (by rw [h])] at hc; omega
            · rw [if_neg h]; rw [if_neg (fun e => h (UInt8.toNat_inj.1 (by omega)))] at hc; omega
          have HT := Lib.hid (fun v : Int => htab.out.next (v := v) hb hlm)
          rw [hd] at HT
          have HO := Lib.hid hown
          have HC := Lib.hid hc
          clear hd hc hown htab
          generalize dist a b k m = x at *
          generalize dist a b k (m + 1) = y0 at *
          generalize dist a b (k + 1) m = z at *
          have ha0 := a[k].toNat_lt
          have hb0 := b[m].toNat_lt
          have hw1 := IntWalk.i64_in ((m : Int) + 1) (by omega)
          have hw2 := IntWalk.i64_in ((y0 : Int) + 1) (by omega)
          have hw3 := IntWalk.i64_in ((z : Int) + 1) (by omega)
          have hw4 := IntWalk.i64_in ((x : Int) + c) (by omega)
          have HK1 := Lib.hid (fun v : Value => cell_other_drew hc1 (k := (k + 1) * 13 + (m + 1)) v (by omega))
          have HK2 := Lib.hid (fun v : Value => cell_other_drew hc2 (k := (k + 1) * 13 + (m + 1)) v (by omega))
          have HK3 := Lib.hid (fun v : Value => cell_other_drew hc3 (k := (k + 1) * 13 + (m + 1)) v (by omega))
          have HF := Lib.hid (fun v : Int => (HO.out.stored ((k + 1) * 13 + (m + 1)) v).frozen ((k + 1) * 13 + (m + 1)))
          go_wp2_with fail
          go_region_held3 (fun w' => w'.cell? ⟨g, k * 13 + (m + 1), none⟩ = some (.int .i64 y0) ∧ w'.cell? ⟨g, (k + 1) * 13 + m, none⟩ = some (.int .i64 z) ∧ w'.cell? ⟨g, k * 13 + m, none⟩ = some (.int .i64 x) ∧ w'.frozen? ⟨g, (k + 1) * 13 + (m + 1), none⟩ = false)
              (first | assumption | exact ⟨HK1.out _, HK2.out _, HK3.out _, HF.out _⟩ | go_keep)
              (first | ((go_at_call 46; refine (costOfPair_is HC.out _ (by omega) (by have := a[k].toNat_lt; omega) (by omega) (by have := b[m].toNat_lt; omega)).mono ?_; rintro e w' ⟨rfl, rfl⟩)) | fail)
          clear hw1 hw2 hw3 hw4
          all_goals
            rw [show (if (x : Int) + (c : Int) < (if z < y0 then (z : Int) + 1 else (y0 : Int) + 1) then (x : Int) + (c : Int) else (if z < y0 then (z : Int) + 1 else (y0 : Int) + 1)) = ((min (x + c) (min y0 z + 1) : Nat) : Int) by split <;> split <;> omega]
            have hown := HO.out.stored ((k + 1) * 13 + (m + 1)) ((min (x + c) (min y0 z + 1) : Nat) : Int)
            have hbel := hbel.setCell (p := ⟨g, (k + 1) * 13 + (m + 1), none⟩) (show w.heap.size ≤ g by omega) (.int .i64 ((min (x + c) (min y0 z + 1) : Nat) : Int))
            have hres := hres.setCell (p := ⟨g, (k + 1) * 13 + (m + 1), none⟩) (.int .i64 ((min (x + c) (min y0 z + 1) : Nat) : Int)) (show w.heap.size ≠ g by omega)
            generalize wr.setCell ⟨g, (k + 1) * 13 + (m + 1), none⟩ (.int .i64 ((min (x + c) (min y0 z + 1) : Nat) : Int)) = W at *
            go_wp2_with fail
            go_roundw
            case rel => exact ⟨m + 1, _, by omega, by go_num, hown.drawn (Drawn.drew1 _), Lib.hid (HT.out _ rfl), hres.drawn (Drawn.drew1 _), hbel.drew⟩
            case measure => simp [intOf]; omega
        · obtain rfl : m = b.size := by omega
          go_wp2_with fail
          go_roundw
          case rel => exact ⟨k + 1, f, by omega, by go_num, hown, Lib.hid htab.out.done, hres, hbel⟩
          case measure => simp [intOf]; omega
    · obtain rfl : k = a.size := by omega
      have HR := hrows
      clear hrows
      go_wp2_with (first | (with_reducible refine wp_load_tab rfl (.tmp 5) rfl w.heap.size g f rfl hown ?_) | (with_reducible refine wp_store_tab rfl (.tmp 4) (.tmp 66) rfl w.heap.size w.heap.size (fun _ => 0) f rfl rfl hres ?_))
      have hr := hres.rowed (f' := f)
      have hb2 := below_setRow hbel (Nat.le_refl _) (tab f)
      refine bodyPost_ret (v := .agg (tab f)) ?_ rfl ⟨f, rfl, HR.out, hb2⟩
      rw [results_cell_row rfl _ _ w.heap.size _ _ _ _ rfl hr.2 Try.underlying69 rfl (by rw [tab_size]; exact (zero_of_info tab_info).2)]
end Go.Proofs.Ytmdmjhnjhelccaa
