/- SortRec, ImplCmp, ImplConcat, ImplCompH, ImplHitsV, ImplJoinH, in one text. -/
import Derived.Test.YtmolphaihapkkaaRecs
import Derived.Shelf.SlSortCmp.NoneTotal
import Derived.Lib.SliceRun
import Derived.Test.YtmolphaihapkkaaHitRec
import Derived.Test.YtmolphaihapkkaaLst
import Derived.Test.YtmolphaihapkkaaOrd
import Derived.Test.YtmolphaihapkkaaL1In
import Derived.StillTailTactics
import Derived.Sort.Grow
import Derived.Test.YtmolphaihapkkaaShelf
import Derived.Lib.SlicesCompact
import Derived.Shelf.RegionOpenPlain
import Derived.Deep.QuietTactic
import Derived.BigQuiet
import Derived.Laws.StructEq
import Derived.Test.YtmolphaihapkkaaHitOut
import Derived.Test.YtmolphaihapkkaaHitSpec
/- Rows of records of the call's own: between the sort's words (HoldsK, sortWorldK) and ours (OwnR); a row cut short, its rest cleared. -/
namespace Go.Proofs.Ytmolphaihapkkaa
open Go.RowKit Go.Sort
set_option maxHeartbeats 400000
set_option linter.unusedSimpArgs false
set_option linter.unusedVariables false

section
variable {α : Type} {R : Rec α} {w w' : World} {base n cap k g : Nat} {l l' : List α} {A : Option Addr}
theorem flat_row [Inhabited α] (R : Rec α) (l : List α) : (flatK R.enc R.k l.toArray).toList = R.row l := by
  apply List.ext_getElem?
  intro t
  have hp := R.pos
  by_cases ht : t < l.length * R.k
  · have hj : t / R.k < l.length := Nat.div_lt_of_lt_mul (by rw [Nat.mul_comm]; exact ht)
    have hi : t % R.k < R.k := Nat.mod_lt _ hp
    have hd : t / R.k * R.k + t % R.k = t := by rw [Nat.mul_comm]; exact Nat.div_add_mod t R.k
    have he : l[t / R.k]? = some (l[t / R.k]) := List.getElem?_eq_getElem hj
    have hv : (R.enc l[t / R.k])[t % R.k]? = some ((R.enc l[t / R.k])[t % R.k]'(by rw [R.len]; exact hi)) := List.getElem?_eq_getElem _
    have := R.row_get l (t / R.k) (t % R.k) _ _ he hv
    rw [hd] at this
    rw [this]
    have hs : t < (flatK R.enc R.k l.toArray).size := by rw [size_flatK]; simpa using ht
    have hg := get_flatK R.enc R.k l.toArray t (by simpa using ht)
    rw [getElem!_pos (flatK R.enc R.k l.toArray) t hs] at hg
    rw [Array.getElem?_toList, Array.getElem?_eq_getElem hs, hg]
    rw [getElem!_pos l.toArray (t / R.k) (by simpa using hj)]
    rw [getElem!_pos (R.enc (l.toArray[t / R.k]'(by simpa using hj))) (t % R.k) (by rw [R.len]; exact hi)]
    simp
  · rw [List.getElem?_eq_none (by rw [Array.length_toList, size_flatK]; simpa using ht), List.getElem?_eq_none (by rw [R.row_len]; omega)]
theorem OwnR.holdsK [Inhabited α] (h : OwnR R w base (some ⟨g, 0, none⟩) n cap l) : HoldsK R.enc R.k w g 0 l.toArray := by
  intro t ht
  have hl := h.len
  have hs := ht
  rw [size_flatK] at ht
  have ht : t < l.length * R.k := by simpa using ht
  refine ⟨?_, ?_⟩
  · rw [Nat.zero_add, World.ownsRow.cellAt h.1 t (by rw [← hl]; exact ht), ← flat_row R l, Array.getElem?_toList, Array.getElem?_eq_getElem hs, getElem!_pos _ t hs]
    rfl
  · rw [Nat.zero_add]; exact World.ownsRow.frozenAt h.1 t
theorem heap_put {os : Array Obj} {cur F : Array Value} {e m : Nat} {fr : Nat × Nat} (hb : w.heap[g]? = some (.cells cur e fr)) :
    (grow (putRow id (Sort.ahead w m) g 0 F) os).heap[g]? = some (.cells (putCells id 0 F cur) e fr) := by
  have hg : g < w.heap.size := (Array.getElem?_eq_some_iff.1 hb).1
  rw [heap_grow_old _ _ (by simpa using hg)]
  simp [putRow, mapBlock, Sort.ahead, Array.getElem?_modify, hb, onCells]
theorem grownBy_put {m : Nat} {os : Array Obj} (F : Array Value) : w.grownBy (grow (putRow id (Sort.ahead w m) g 0 F) os) (some g) := by
  refine ⟨rfl, rfl, rfl, by simp, fun k hk hne => ?_⟩
  rw [heap_grow_old _ _ (by simpa using hk)]
  have : g ≠ k := fun e => hne (by rw [e])
  simp [putRow, mapBlock, Sort.ahead, Array.getElem?_modify, this]
theorem take_put (cur F : Array Value) (h : F.size ≤ cur.size) : (putCells id 0 F cur).toList.take F.size = F.toList := by
  apply List.ext_getElem?
  intro j
  by_cases hj : j < F.size
  · rw [List.getElem?_take_of_lt hj, Array.getElem?_toList]
    simp [putCells, hj, show j < cur.size by omega]
  · rw [List.getElem?_take_eq_none (by omega), List.getElem?_eq_none (by simp; omega)]
/-- behind the sort the same slice owns the sorted row -/
theorem OwnR.sorted [Inhabited α] (h : OwnR R w base (some ⟨g, 0, none⟩) n cap l) (hl : l'.length = l.length) (hok : ∀ x ∈ l', R.ok x) (m : Nat) (os : Array Obj) :
    OwnR R (sortWorldK R.enc R.k w g 0 m l'.toArray os) base (some ⟨g, 0, none⟩) n cap l' ∧ w.grownBy (sortWorldK R.enc R.k w g 0 m l'.toArray os) (some g) := by
  unfold sortWorldK putRowK
  refine ⟨⟨⟨?_, ?_⟩, hok⟩, grownBy_put _⟩
  · rw [R.row_len, hl, h.len]
  · rcases h.1.2 with ⟨hv, _⟩ | ⟨g', cap', cur, hv, hb, hh, hnc, hcm, hsz, htk⟩
    · cases hv
    · cases hv
      have hF : (flatK R.enc R.k l'.toArray).size = n * R.k := by rw [size_flatK]; simp [hl, h.len]
      refine .inr ⟨g, cap, _, rfl, hb, heap_put hh, hnc, hcm, by simp [putCells, hsz], ?_⟩
      have := take_put cur (flatK R.enc R.k l'.toArray) (by rw [hF, hsz]; exact Nat.mul_le_mul_right _ hnc)
      rw [hF, flat_row] at this
      exact this

theorem Rec.row_take (R : Rec α) (l : List α) (k : Nat) : R.row (l.take k) = (R.row l).take (k * R.k) := by
  by_cases hk : k ≤ l.length
  · have h1 : R.row l = R.row (l.take k) ++ R.row (l.drop k) := by rw [← R.row_append, List.take_append_drop]
    have h2 : (R.row (l.take k)).length = k * R.k := by rw [R.row_len, List.length_take, Nat.min_eq_left hk]
    rw [h1, List.take_left' h2]
  · rw [List.take_of_length_le (by omega), List.take_of_length_le (by rw [R.row_len]; exact Nat.mul_le_mul_right _ (by omega))]
theorem OwnR.take (h : OwnR R w base A n cap l) (hk : k ≤ n) : OwnR R w base A k cap (l.take k) := by
  refine ⟨⟨?_, ?_⟩, fun x hx => h.2 x (List.mem_of_mem_take hx)⟩
  · rw [R.row_len, List.length_take, h.len, Nat.min_eq_left hk]
  · rcases h.1.2 with ⟨hv, h0⟩ | ⟨g', cap', cur, hv, hb, hh, hnc, hcm, hsz, htk⟩
    · left
      injection hv with e1 e2 e3
      exact ⟨by rw [e1, e3]; congr 1; omega, by omega⟩
    · injection hv with e1 e2 e3
      subst e3
      refine .inr ⟨g', cap, cur, by rw [e1], hb, hh, by omega, hcm, hsz, ?_⟩
      rw [R.row_take, ← htk, List.take_take, Nat.min_eq_left (Nat.mul_le_mul_right _ hk)]
theorem OwnR.outside1 (h : OwnR R w base (some ⟨g, 0, none⟩) n cap l) (o : Nat) (v : Value) (ho : n * R.k ≤ o) : OwnR R (w.setCell ⟨g, o, none⟩ v) base (some ⟨g, 0, none⟩) n cap l := by
  have hs := World.ownsRow.stored h.1 o v
  refine ⟨?_, h.2⟩
  have := hs.1
  rwa [List.set_eq_of_length_le (by rw [h.1.1]; exact ho)] at this
theorem OwnR.outside (h : OwnR R w base (some ⟨g, 0, none⟩) n cap l) (vs : List Value) (o : Nat) (ho : n * R.k ≤ o) : OwnR R (w.setCells g o vs) base (some ⟨g, 0, none⟩) n cap l := by
  induction vs generalizing w o with
  | nil => exact h
  | cons v vs ih => exact ih (h.outside1 o v ho) (o + 1) (by omega)
theorem Below.setCells {b0 : Nat} {w w' : World} (h : Below b0 w w') (hb : b0 ≤ g) (vs : List Value) (o : Nat) : Below b0 w (w'.setCells g o vs) := by
  induction vs generalizing w' o with
  | nil => exact h
  | cons v vs ih => exact ih (h.setCell hb v) (o + 1)
/-- 'clear' of the records from k on -/
theorem run_clear_recs (h : OwnR R w base (some ⟨g, 0, none⟩) n cap l) (hk : k < n) (c ty : Nat) (hzl : ∀ v ∈ R.z.cells, v.oneCell' = true) :
    ∃ vs, (Builtin.clear_ #[R.S] ty #[.slice (some ⟨g, k * R.k, none⟩) (n - k) c]).run Try.prog w = .ok (.tuple #[]) (w.setCells g (k * R.k) vs) := by
  obtain ⟨i0, hi0, hz0, hz1, hz2⟩ := info_parts R.info
  have hrl : (R.row l).length = n * R.k := h.1.1
  have hzs : (Builtin.zeroCells R.z.cells (n - k)).toList.length = (n - k) * R.k := by simp [Builtin.zeroCells, R.zk]
  have hlt : ∀ j, j < (n - k) * R.k → k * R.k + j < n * R.k := fun j hj => by
    have : (n - k) * R.k = n * R.k - k * R.k := Nat.sub_mul n k R.k
    omega
  refine ⟨(Builtin.zeroCells R.z.cells (n - k)).toList, ?_⟩
  have hst := run_storeCells_cells (P := Try.prog) g (k * R.k) (Builtin.zeroCells R.z.cells (n - k)).toList 0 w (fun j hj => by
      rw [hzs] at hj
      rw [Nat.add_zero, World.ownsRow.cellAt h.1 _ (hlt j hj)]
      rw [List.getElem?_eq_getElem (by rw [hrl]; exact hlt j hj)]; rfl)
    (fun j hj => World.ownsRow.frozenAt h.1 _) (fun v hv => by
      unfold Builtin.zeroCells at hv
      simp only [Array.toList_map, List.mem_map, Array.toList_range, List.mem_range] at hv
      obtain ⟨i, hi, rfl⟩ := hv
      have hp := R.pos
      have hi2 : i % R.z.cells.size < R.z.cells.size := Nat.mod_lt _ (by rw [R.zk]; exact hp)
      rw [getElem!_pos R.z.cells _ hi2]
      exact hzl _ (Array.getElem_mem hi2))
  obtain ⟨m, hm⟩ : ∃ m, n - k = m + 1 := ⟨n - k - 1, by omega⟩
  rw [hm] at hst ⊢
  simp only [Nat.add_zero] at hst
  simp [Builtin.clear_, run_underlying R.under, zeroValue, typeInfo, hi0, hz0, hst]
end
end Go.Proofs.Ytmolphaihapkkaa

/- The program's order of hits: isErrors, cmp.Compare, cmp.Or, compareHits. -/
namespace Go.Proofs.Ytmolphaihapkkaa
open Go.RowKit Go.Sort
set_option maxHeartbeats 1600000
set_option maxRecDepth 8192
set_option linter.unusedSimpArgs false
set_option linter.unusedVariables false

theorem isErrors_any (k : Int) (w : World) : Calls Try.prog 45 #[.int .i64 k] w fun e w' => e = .returned (.bool (decide (0 ≤ k) && decide (k ≤ 4))) ∧ w' = w := by
  by_cases h0 : 0 ≤ k
  · by_cases h4 : k ≤ 4
    · go_enter Try.func45, Try.ntmps45
      go_wp2_with fail
      go_ret
      exact ⟨by simp [h0, h4], rfl⟩
    · go_enter Try.func45, Try.ntmps45
      go_wp2_with fail
      go_ret
      exact ⟨by simp [h0, h4], rfl⟩
  · go_enter Try.func45, Try.ntmps45
    go_wp2_with fail
    go_ret
    exact ⟨by rw [show decide (0 ≤ k) = false from decide_eq_false (by omega)]; rfl, rfl⟩
theorem isErrors_is {k : Int} {v : Bool} (hv : (decide (0 ≤ k) && decide (k ≤ 4)) = v) (w : World) : Calls Try.prog 45 #[.int .i64 k] w fun e w' => e = .returned (.bool v) ∧ w' = w := hv ▸ isErrors_any k w

theorem nanI_any (x : Int) (w : World) : Calls Try.prog 80 #[.int .i64 x] w fun e w' => e = .returned (.bool false) ∧ w' = w := by
  go_enter Try.func80, Try.ntmps80
  go_wp2_with fail
  go_ret
  exact ⟨by simp, rfl⟩
theorem nanS_any (x : ByteArray) (w : World) : Calls Try.prog 81 #[.string x] w fun e w' => e = .returned (.bool false) ∧ w' = w := by
  go_enter Try.func81, Try.ntmps81
  go_wp2_with fail
  go_ret
  exact ⟨by simp, rfl⟩

def cmpI (x y : Int) : Int := if x < y then -1 else if y < x then 1 else 0
def cmpS (x y : ByteArray) : Int := if ltS x y = true then -1 else if ltS y x = true then 1 else 0
theorem cmpI_any (x y : Int) (w : World) : Calls Try.prog 70 #[.int .i64 x, .int .i64 y] w fun e w' => e = .returned (.int .i64 (cmpI x y)) ∧ w' = w := by
  by_cases h1 : x < y
  · have HB := Lib.hid (show cmpI x y = -1 by unfold cmpI; simp [h1])
    go_enter Try.func70, Try.ntmps70
    go_wp2_with (go_at_call 80; (with_reducible refine (nanI_any _ _).mono ?_); rintro e w4 ⟨rfl, rfl⟩)
    go_ret
    exact ⟨by rw [HB.out]; rfl, rfl⟩
  · by_cases h2 : y < x
    · have HB := Lib.hid (show cmpI x y = 1 by unfold cmpI; simp [h1, h2])
      go_enter Try.func70, Try.ntmps70
      go_wp2_with (go_at_call 80; (with_reducible refine (nanI_any _ _).mono ?_); rintro e w4 ⟨rfl, rfl⟩)
      go_ret
      exact ⟨by rw [HB.out]; rfl, rfl⟩
    · have HB := Lib.hid (show cmpI x y = 0 by unfold cmpI; simp [h1, h2])
      go_enter Try.func70, Try.ntmps70
      go_wp2_with (go_at_call 80; (with_reducible refine (nanI_any _ _).mono ?_); rintro e w4 ⟨rfl, rfl⟩)
      go_ret
      exact ⟨by rw [HB.out]; rfl, rfl⟩
theorem cmpS_any (x y : ByteArray) (w : World) : Calls Try.prog 71 #[.string x, .string y] w fun e w' => e = .returned (.int .i64 (cmpS x y)) ∧ w' = w := by
  cases h1 : Op.bytesLess x.toList y.toList
  · cases h2 : Op.bytesLess y.toList x.toList
    · have HB := Lib.hid (show cmpS x y = 0 by unfold cmpS ltS; simp [h1, h2])
      obtain rfl : x = y := Classical.byContradiction fun hne => by have := ltS_tri h1 hne; rw [show ltS y x = false from h2] at this; cases this
      have hq : (x.toList == x.toList) = true := by simp
      go_enter Try.func71, Try.ntmps71
      go_wp2_with (go_at_call 81; (with_reducible refine (nanS_any _ _).mono ?_); rintro e w4 ⟨rfl, rfl⟩)
      go_ret
      exact ⟨by rw [HB.out]; rfl, rfl⟩
    · have HB := Lib.hid (show cmpS x y = 1 by unfold cmpS ltS; simp [h1, h2])
      have hq : (x.toList == y.toList) = false := by
        rw [beq_eq_false_iff_ne]
        intro e
        rw [e] at h1
        have := ltS_irrefl y
        unfold ltS at this
        rw [← e] at h2
        rw [e] at h2
        rw [h1] at h2; cases h2
      go_enter Try.func71, Try.ntmps71
      go_wp2_with (go_at_call 81; (with_reducible refine (nanS_any _ _).mono ?_); rintro e w4 ⟨rfl, rfl⟩)
      go_ret
      exact ⟨by rw [HB.out]; rfl, rfl⟩
  · have HB := Lib.hid (show cmpS x y = -1 by unfold cmpS ltS; simp [h1])
    go_enter Try.func71, Try.ntmps71
    go_wp2_with (go_at_call 81; (with_reducible refine (nanS_any _ _).mono ?_); rintro e w4 ⟨rfl, rfl⟩)
    go_ret
    exact ⟨by rw [HB.out]; rfl, rfl⟩
def orI (x y : Int) : Int := if x = 0 then y else x
theorem or2_any (b c : Nat) (x y : Int) (w : World) (h0 : w.cell? ⟨b, 0, none⟩ = some (.int .i64 x)) (h1 : w.cell? ⟨b, 1, none⟩ = some (.int .i64 y)) :
    Calls Try.prog 69 #[.slice (some ⟨b, 0, none⟩) 2 c] w fun e w' => e = .returned (.int .i64 (orI x y)) ∧ w' = w := by
  by_cases hx : x = 0
  · have hx' : (x == 0) = true := by simp [hx]
    have HB := Lib.hid (show orI x y = y by unfold orI; simp [hx])
    by_cases hy : y = 0
    · have hy' : (y == 0) = true := by simp [hy]
      go_enter Try.func69, Try.ntmps69
      go_wp2_with fail
      refine wp_loop_rounds 3 ?_
      rw [rounds_succ]
      go_wp2_with fail
      rw [rounds_succ]
      go_wp2_with fail
      rw [rounds_succ]
      go_wp2_with fail
      go_ret
      exact ⟨by rw [HB.out, hy]; rfl, rfl⟩
    · have hy' : (y == 0) = false := by simp [hy]
      go_enter Try.func69, Try.ntmps69
      go_wp2_with fail
      refine wp_loop_rounds 2 ?_
      rw [rounds_succ]
      go_wp2_with fail
      rw [rounds_succ]
      go_wp2_with fail
      go_ret
      exact ⟨by rw [HB.out]; rfl, rfl⟩
  · have hx' : (x == 0) = false := by simp [hx]
    have HB := Lib.hid (show orI x y = x by unfold orI; simp [hx])
    go_enter Try.func69, Try.ntmps69
    go_wp2_with fail
    refine wp_loop_rounds 1 ?_
    rw [rounds_succ]
    go_wp2_with fail
    go_ret
    exact ⟨by rw [HB.out]; rfl, rfl⟩

/-- which of two hits comes first: a negative number, zero, a positive one -/
def cmpH (a b : Hit) : Int := orI (cmpI a.2 b.2) (cmpS a.1 b.1)
theorem cmpH_neg (a b : Hit) : decide (cmpH a b < 0) = beforeH a b := by
  unfold cmpH orI cmpI cmpS beforeH
  by_cases h1 : a.2 < b.2
  · simp [h1]
  · by_cases h2 : b.2 < a.2
    · have h3 : ¬ a.2 = b.2 := by omega
      simp [h1, h2, h3]
    · have h3 : a.2 = b.2 := by omega
      cases h4 : ltS a.1 b.1
      · cases h5 : ltS b.1 a.1 <;> simp [h1, h2, h3, h4, h5]
      · simp [h1, h2, h3, h4]
theorem cmpH_ge (a b : Hit) : decide (0 ≤ cmpH a b) = !beforeH a b := by
  rw [← cmpH_neg]
  by_cases h : cmpH a b < 0
  · rw [decide_eq_true h, decide_eq_false (by omega)]; rfl
  · rw [decide_eq_false h, decide_eq_true (by omega)]; rfl
theorem compare_any (s t : ByteArray) (x y : Int) (w : World) :
    Calls Try.prog 46 #[.agg #[.string s, .int .i64 x], .agg #[.string t, .int .i64 y]] w fun e w' => e = .returned (.int .i64 (cmpH (s, x) (t, y))) ∧ ∃ q os', w' = grow (w.drewN q) os' := by
  have HI := Lib.hid (fun W => cmpI_any x y W)
  have HS := Lib.hid (fun W => cmpS_any s t W)
  have HO := Lib.hid (fun b c W => or2_any b c (cmpI x y) (cmpS s t) W)
  obtain ⟨v, hv⟩ : ∃ v, v = cmpH (s, x) (t, y) := ⟨_, rfl⟩
  have HV := Lib.hid (show v = orI (cmpI x y) (cmpS s t) from hv)
  rw [← hv]
  clear hv
  generalize cmpI x y = ci at *
  generalize cmpS s t = cs at *
  go_enter Try.func46, Try.ntmps46
  go_wp2_with fail
  obtain ⟨W, hW⟩ : ∃ W, W = (w.alloc (.cells #[.string s, .int .i64 x] 28)).alloc (.cells #[.string t, .int .i64 y] 28) := ⟨_, rfl⟩
  have c0 : W.cell? ⟨w.heap.size, 0, none⟩ = some (.string s) := by rw [hW]; simp
  have c1 : W.cell? ⟨w.heap.size, 1, none⟩ = some (.int .i64 x) := by rw [hW]; simp
  have c2 : W.cell? ⟨w.heap.size + 1, 0, none⟩ = some (.string t) := by rw [hW]; simp
  have c3 : W.cell? ⟨w.heap.size + 1, 1, none⟩ = some (.int .i64 y) := by rw [hW]; simp
  have HW := Lib.hid (show W = grow (w.drewN 0) #[.cells #[.string s, .int .i64 x] 28, .cells #[.string t, .int .i64 y] 28] by rw [hW, alloc_eq_grow, alloc_eq_grow, grow_grow]; rfl)
  rw [← hW]
  clear hW
  generalize w.heap.size = g at *
  go_still_tail 10, (by kernel_rfl)
  still_call (HI.out _)
  repeat still_step
  still_call (HS.out _)
  repeat still_step
  refine wpStill_nil ?_
  change wpList _ _ _ _ _ W.drew
  go_wp2_with (go_at_call 69; (with_reducible refine (HO.out _ _ _ (by simp) (by simp)).mono ?_); rintro e w4 ⟨rfl, rfl⟩)
  go_ret
  refine ⟨by rw [HV.out]; rfl, 1, #[.cells #[.string s, .int .i64 x] 28, .cells #[.string t, .int .i64 y] 28] ++ #[.cells #[.int .i64 ci, .int .i64 cs] 3], ?_⟩
  rw [HW.out, alloc_eq_grow, grow_grow]
  rfl
theorem Hit.agg (h : Hit) : (.agg (hitEnc h).toArray : Value) = .agg #[.string h.1, .int .i64 h.2] := rfl
theorem below_grow (w : World) (q : Nat) (os : Array Obj) : Below w.heap.size w (grow (w.drewN q) os) := by
  refine ⟨rfl, rfl, rfl, by simp, fun i hi => ?_⟩
  exact heap_grow_old _ _ (by simpa using hi)
theorem compare_below {s t : ByteArray} {x y : Int} {v : Int} (hv : cmpH (s, x) (t, y) = v) (w : World) :
    Calls Try.prog 46 #[.agg #[.string s, .int .i64 x], .agg #[.string t, .int .i64 y]] w fun e w' => e = .returned (.int .i64 v) ∧ Below w.heap.size w w' := by
  rw [← hv]
  refine (compare_any s t x y w).mono ?_
  rintro e w' ⟨he, q, os, rfl⟩
  exact ⟨he, below_grow w q os⟩
end Go.Proofs.Ytmolphaihapkkaa

/- slices.Grow and slices.Concat at hits: two slices one behind the other, in a row of the call's own. -/
namespace Go.Proofs.Ytmolphaihapkkaa
open Go.RowKit Go.Sort
set_option maxHeartbeats 1600000
set_option maxRecDepth 8192
set_option linter.unusedSimpArgs false
set_option linter.unusedVariables false

theorem grow_any (x : Int) (m : Nat) (hx : x = (m : Int)) (hm : m ≤ 1000000000) (w : World) :
    Calls Try.prog 77 #[.slice none 0 0, .int .i64 x] w fun e w' => ∃ (A : Option Addr) (cap : Nat), e = .returned (.slice A 0 cap) ∧ OwnHits w' w.heap.size A 0 cap [] ∧ Below w.heap.size w w' := by
  subst hx
  rcases Nat.eq_zero_or_pos m with h0 | h0
  · subst h0
    refine (Any8.slices_Grow_room Try.laysGrow_f77 none 0 0 0 w (Nat.le_refl _) (by omega) (by omega) (Nat.le_refl _)).mono ?_
    rintro e w' ⟨rfl, rfl⟩
    exact ⟨none, 0, rfl, OwnR.nil _ _, Below.refl _ _⟩
  · obtain ⟨i0, hi0, hz0, hz1, hz2⟩ := info_parts hitR.info
    have hb : hitR.bytes = 24 := rfl
    have hk : hitR.k = 2 := rfl
    refine (Any8.slices_Grow_grow Try.laysGrow_f77 i0 hitR.z hi0 hz0 (by omega) none 0 0 m [] w (Nat.le_refl _) (by omega) (by rw [hz2, hb]; omega) (by omega) (by simp) (fun _ => rfl) (fun a ha => by cases ha)).mono ?_
    rintro e w' ⟨rfl, rfl⟩
    refine ⟨_, _, rfl, ⟨⟨by simp [Rec.row], .inr ⟨w.heap.size, _, _, rfl, Nat.le_refl _, heap_alloc_new _ _, Nat.zero_le _, grownCap_le_maxLen w _ _ _ (by unfold maxLen; omega), ?_, by simp [Rec.row]⟩⟩, by simp⟩, ?_⟩
    · have hge := grownCap_ge w (0 + m) 0 (Try.laysGrow_f77_ren.t 25)
      generalize grownCap w (0 + m) 0 (Try.laysGrow_f77_ren.t 25) = C at *
      have hzs : hitR.z.cells.size = 2 := rfl
      have hs : ∀ q, (Builtin.zeroCells hitR.z.cells q).size = q * 2 := fun q => by simp [Builtin.zeroCells, hzs]
      rw [Array.size_append, Array.size_append, hs, hs, hk]
      simp
      omega
    · exact ((Below.refl _ w).drew).alloc (by simp) _

theorem concat_any (bb c n1 n2 c1 c2 B : Nat) (A1 A2 : Option Addr) (a b : List Hit) (w : World) (h0 : w.cell? ⟨bb, 0, none⟩ = some (.slice A1 n1 c1)) (h1 : w.cell? ⟨bb, 1, none⟩ = some (.slice A2 n2 c2)) (hbb : bb < w.heap.size)
    (hn1 : n1 ≤ 1048576) (hn2 : n2 ≤ 1048576) (ha : Hits w B A1 n1 a) (hb : Hits w B A2 n2 b) (hB : B ≤ w.heap.size) :
    Calls Try.prog 58 #[.slice (some ⟨bb, 0, none⟩) 2 c] w fun e w' => ∃ (A : Option Addr) (cap : Nat), e = .returned (.slice A (n1 + n2) cap) ∧ OwnHits w' w.heap.size A (n1 + n2) cap (a ++ b) ∧ Below w.heap.size w w' := by
  have HA := Lib.hid ha
  have HB := Lib.hid hb
  have HG := Lib.hid (fun x m hx hm W => grow_any x m hx hm W)
  have q0 : (0 : Int) ≤ (n1 : Int) + (n2 : Int) := by omega
  have q1 : ¬ (n1 : Int) + (n2 : Int) < 0 := by omega
  have q2 : ¬ (n1 : Int) < 0 := by omega
  clear ha hb
  go_enter Try.func58, Try.ntmps58
  go_wp2_with fail
  refine wp_loop_rounds 3 ?_
  rw [rounds_succ]
  go_wp2_with fail
  rw [rounds_succ]
  go_wp2_with fail
  rw [rounds_succ]
  go_wp2_with fail
  refine (HG.out _ (n1 + n2) (by omega) (by omega) _).mono ?_
  rintro e w1 ⟨A, cap, rfl, hown, hb1⟩
  have d0 : w1.cell? ⟨bb, 0, none⟩ = some (.slice A1 n1 c1) := (hb1.cell (p := ⟨bb, 0, none⟩) hbb).trans h0
  have d1 : w1.cell? ⟨bb, 1, none⟩ = some (.slice A2 n2 c2) := (hb1.cell (p := ⟨bb, 1, none⟩) hbb).trans h1
  have hz1 := hb1.size
  have HA1 := Lib.hid (HA.out.step hb1 hB)
  have HB1 := Lib.hid (HB.out.step hb1 hB)
  have HO := Lib.hid hown
  have HBL := Lib.hid hb1
  clear HA HB h0 h1 hown hb1 HG
  go_wp2_with fail
  refine wp_loop_rounds 3 ?_
  rw [rounds_succ]
  go_wp2_with (at_builtin; refine wp_append_recs (R := hitR) rfl (.tmp 31) (.tmp 32) rfl w.heap.size B 0 cap n1 c1 A A1 [] a rfl HO.out rfl HA1.out hz1 (by omega) ?_; intro A3 cap3 w2 hown2 hg2 hat2 hne2)
  have hb2 : Below w.heap.size w w2 := below_append HBL.out hz1 HO.out (Nat.le_refl _) hg2
  have hz2 := hb2.size
  have e1 : w2.cell? ⟨bb, 1, none⟩ = some (.slice A2 n2 c2) := by
    rw [← d1]
    have hblk := hg2.block bb (by omega) (fun e => by have := (HO.out.blockAt e.symm).1; omega)
    unfold World.cell?; simp only [hblk]
  have HB2 := Lib.hid (show Hits w2 B A2 n2 b from HB1.out.keep fun p hp => by
    have hblk := hg2.block p.block (by omega) (fun e => by have := (HO.out.blockAt e.symm).1; omega)
    unfold World.cell?; simp only [hblk])
  have HO2 := Lib.hid (show OwnHits w2 w.heap.size A3 n1 cap3 a by simpa using hown2)
  have HBL2 := Lib.hid hb2
  clear HO HA1 HB1 HBL hown2 hg2 hat2 hne2 hb2 d0 d1
  rw [rounds_succ]
  go_wp2_with (at_builtin; refine wp_append_recs (R := hitR) rfl (.tmp 31) (.tmp 32) rfl w.heap.size B n1 cap3 n2 c2 A3 A2 a b rfl HO2.out rfl HB2.out hz2 (by omega) ?_; intro A4 cap4 w3 hown3 hg3 hat3 hne3)
  have hb3 : Below w.heap.size w w3 := below_append HBL2.out hz2 HO2.out (Nat.le_refl _) hg3
  rw [rounds_succ]
  go_wp2_with fail
  go_ret
  exact ⟨A4, cap4, rfl, hown3, hb3⟩
end Go.Proofs.Ytmolphaihapkkaa

/- slices.SortFunc and slices.Compact at hits, by the program's order. -/
namespace Go.Proofs.Ytmolphaihapkkaa
open Go.RowKit Go.Sort Go.Lib
set_option maxHeartbeats 3200000
set_option maxRecDepth 8192
set_option linter.unusedSimpArgs false
set_option linter.unusedVariables false

instance : Inhabited Hit := ⟨noHit⟩
theorem ltOf_before : ltOf cmpH = beforeH := by
  funext a b
  unfold ltOf
  exact cmpH_neg a b
theorem beforeH_not {a b c : Hit} (h : beforeH a b = false) (k : beforeH b c = false) : beforeH a c = false := by
  cases hc : beforeH a c
  · rfl
  · exfalso
    by_cases e1 : b = a
    · subst e1; rw [hc] at k; cases k
    · have h2 := beforeH_tri h (Ne.symm e1)
      have := beforeH_trans h2 hc
      rw [this] at k; cases k
theorem swoH : SWO beforeH := ⟨beforeH_irrefl, fun _ _ _ => beforeH_trans, fun _ _ _ => beforeH_not⟩
def sortHits (l : List Hit) : List Hit := l.mergeSort fun x y => !beforeH y x
theorem sortHits_len (l : List Hit) : (sortHits l).length = l.length := List.length_mergeSort _
theorem sortHits_mem (l : List Hit) (x : Hit) : x ∈ sortHits l ↔ x ∈ l := List.mem_mergeSort
theorem sortHits_sorted (l : List Hit) : (sortHits l).Pairwise fun a b => beforeH b a = false := by
  have := List.pairwise_mergeSort (le := fun x y : Hit => !beforeH y x) (fun a b c h1 h2 => by
    simp only [Bool.not_eq_true'] at *
    exact beforeH_not h2 h1) (fun a b => by
    cases h : beforeH b a
    · rfl
    · simp [beforeH_asymm h]) l
  exact this.imp fun {a b} h => by simpa using h

theorem sort_any (A : Option Addr) (n cap base : Nat) (l : List Hit) (w : World) (hown : OwnHits w base A n cap l) (hn : n ≤ 1000000000) :
    Calls Try.prog 59 #[.slice A n cap, .func (.func 46) #[] #[]] w fun e w' => e = .returned (.tuple #[]) ∧ OwnHits w' base A n cap (sortHits l) ∧ w.grownBy w' (Value.slice A n cap).ownBlock := by
  have hl := hown.len
  by_cases h0 : n = 0
  · subst h0
    obtain rfl : l = [] := List.eq_nil_of_length_eq_zero hl
    refine (AnyF.slices_SortFunc_none Try.laysSort_f59 A cap _ w).mono ?_
    rintro e w' ⟨rfl, rfl⟩
    exact ⟨rfl, by simpa [sortHits] using hown, World.grownBy.refl _ _⟩
  · obtain ⟨g, rfl, hg, hgl, _⟩ : ∃ g, A = some ⟨g, 0, none⟩ ∧ base ≤ g ∧ g < w.heap.size ∧ n ≤ cap := by
      rcases hown.shape with ⟨_, h, _⟩ | ⟨g, h1, h2, h3, h4, _⟩
      · exact absurd h h0
      · exact ⟨g, h1, h2, h3, h4⟩
    subst hl
    have hcmp : CmpLays Try.prog 46 #[] hitEnc 2 cmpH g 0 l.toArray.size w := fun m os dk hdk x y => compare_any x.1 y.1 x.2 y.2 _
    have h := AnyQ.slices_SortFunc_total Try.laysSort_f59 2 Try.isAgg28 Try.sizeOf28 hitEnc (fun _ => rfl) (fun x v hv => hitR.one x v hv) cmpH (by rw [ltOf_before]; exact swoH) 46 #[] g 0 cap l.toArray w
      (enters_of Try.func46 (by kernel_rfl) rfl) hcmp hown.holdsK hgl (by simp; omega) (fun x y h1 h2 => by
        rw [ltOf_before] at h1 h2
        exact Classical.byContradiction fun hne => by rw [beforeH_tri h1 hne] at h2; cases h2)
    have e1 : l.toArray.size = l.length := by simp
    rw [e1] at h
    refine h.mono ?_
    rintro e w' ⟨rfl, m, os, rfl⟩
    rw [ltOf_before]
    have hs := hown.sorted (l' := sortHits l) (sortHits_len l) (fun x hx => hown.2 x ((sortHits_mem l x).1 hx)) m os
    exact ⟨rfl, hs.1, hs.2⟩
def compactH (l : List Hit) : List Hit := Lib.compact l
theorem keeps_list {l : List Hit} {j : Nat} {x y : Hit} (hx : l[j + 1]? = some x) (hy : l[j]? = some y) : keeps l.toArray (j + 1) = decide (x ≠ y) := by
  have h1 := (List.getElem?_eq_some_iff.1 hx)
  have h2 := (List.getElem?_eq_some_iff.1 hy)
  obtain ⟨a1, e1⟩ := h1
  obtain ⟨a2, e2⟩ := h2
  unfold keeps
  rw [Nat.add_sub_cancel, getElem!_pos l.toArray (j + 1) (by simpa using a1), getElem!_pos l.toArray j (by simpa using a2)]
  simp [e1, e2]
theorem compact_same {l : List Hit} (h : ∀ j, j < l.length → keeps l.toArray j = true) : compactH l = l := compact_all l h
theorem comp_done {l dk : List Hit} {n kk : Nat} (h : CompInv l.toArray n kk dk.toArray) (hn : l.length = n) (hk : kk ≤ dk.length) : dk.take kk = compactH l := by
  subst hn
  unfold compactH compact
  apply List.ext_getElem?
  intro j
  by_cases hj : j < kk
  · rw [h.low j hj, List.getElem?_take_of_lt hj, getElem!_pos dk.toArray j (by simp; omega), List.getElem?_eq_getElem (by omega)]
    simp
  · rw [List.getElem?_take_eq_none (by omega), List.getElem?_eq_none (by rw [h.len]; omega)]
theorem sameHit {s t : ByteArray} (h : (s.toList == t.toList) = true) : s = t := by
  have e := eq_of_beq h
  rw [ByteArray.toList_eq, ByteArray.toList_eq] at e
  cases s; cases t
  simp at e
  simpa using e
theorem compact_any (A : Option Addr) (n cap base : Nat) (l : List Hit) (w : World) (hown : OwnHits w base A n cap l) (hb : base ≤ w.heap.size) (hn : n ≤ 1000000000) :
    Calls Try.prog 60 #[.slice A n cap] w fun e w' => ∃ m, e = .returned (.slice A m cap) ∧ OwnHits w' base A m cap (compactH l) ∧ Below base w w' := by
  have hl := hown.len
  by_cases h2 : n < 2
  · have HC := Lib.hid (show compactH l = l from compact_same fun j hj => keeps_lt_one _ j (by omega))
    have h2' : (n : Int) < 2 := by omega
    have HO := Lib.hid hown
    clear hown
    go_enter Try.func60, Try.ntmps60
    go_wp2_with fail
    go_ret
    exact ⟨n, rfl, by rw [HC.out]; exact HO.out, Below.refl _ _⟩
  · obtain ⟨g, rfl, hg, hgl, hnc⟩ : ∃ g, A = some ⟨g, 0, none⟩ ∧ base ≤ g ∧ g < w.heap.size ∧ n ≤ cap := by
      rcases hown.shape with ⟨_, h, _⟩ | ⟨g, h1, h2, h3, h4, _⟩
      · exact absurd h (by omega)
      · exact ⟨g, h1, h2, h3, h4⟩
    have hcm := hown.caps.2
    unfold maxLen at hcm
    have h2' : ¬ (n : Int) < 2 := by omega
    have HL := Lib.hid hl
    have HO := Lib.hid hown
    clear hown hl
    go_enter Try.func60, Try.ntmps60
    go_wp2_with fail
    go_loopw [3] (fun i wr => ∃ k : Nat, k + 1 ≤ n ∧ i = .int .i64 ((k : Int) + 1) ∧ Hid (∀ j, j < k + 1 → keeps l.toArray j = true) ∧ Hid (OwnHits wr base (some ⟨g, 0, none⟩) n cap l) ∧ Below base w wr) (fun i _ => n - (intOf i).toNat)
    case atStart => exact ⟨0, by omega, rfl, Lib.hid (keeps_lt_one _), HO, Below.refl _ _⟩
    case round =>
      clear HO
      obtain ⟨k, hk, rfl, HK, HO, hbel⟩ := hrel
      have hz := hbel.size
      by_cases hlt : k + 1 < n
      · obtain ⟨_, _, s, x, hA, _, hd, hs, hx, c0, c1⟩ := hits_at HO.out.recs hlt
        obtain ⟨_, _, t, y, hA2, _, hd2, ht, hy, e0, e1⟩ := hits_at HO.out.recs (show k < n by omega)
        injection hA with hA; injection hA with a1 a2; subst a1 a2
        injection hA2 with hA2; injection hA2 with a1 a2; subst a1 a2
        rw [Nat.zero_add] at c0 c1 e0 e1
        have k0 : (0 : Int) ≤ (k : Int) := by omega
        have k1 : (k : Int) < (n : Int) := by omega
        have k2 : (k : Int) + 1 < (n : Int) := by omega
        have k3 : (0 : Int) ≤ (k : Int) + 1 := by omega
        have hkp := keeps_list hd hd2
        by_cases hdup : (s, x) = (t, y)
        · injection hdup with q1 q2
          subst q1 q2
          have HN := Lib.hid (show keeps l.toArray (k + 1) = false by rw [hkp]; simp)
          clear hd hd2 hkp
          go_wp2_with fail
          go_quiet (fail)
          go_wp2_with fail
          have HO1 := Lib.hid (HO.out.below (below_drewN (Below.refl _ _) nq))
          have hbel1 := below_drewN hbel nq
          have HCI := Lib.hid (CompInv.start (d := l.toArray) (k0 := k + 1) HK.out HN.out)
          generalize wr.drewN nq = w1 at *
          clear c0 c1 e0 e1 HO hbel hs hx ht hy HK
          go_loopw [3, 5] (fun i j wr => ∃ (kk m : Nat) (dk : List Hit), i = .int .i64 (kk : Int) ∧ j = .int .i64 ((m : Int) + 1) ∧ k + 1 + (m + 1) ≤ n ∧ Hid (CompInv l.toArray (k + 1 + (m + 1)) kk dk.toArray) ∧ Hid (OwnHits wr base (some ⟨g, 0, none⟩) n cap dk) ∧ Below base w wr) (fun i j _ => n - (intOf j).toNat)
          case atStart => exact ⟨k + 1, 0, l, by go_num, rfl, by omega, HCI, HO1, hbel1⟩
          case round =>
            clear HO1 hbel1 HCI
            obtain ⟨kk, m, dk, rfl, rfl, hle, HCI, HO, hbel⟩ := hrel
            have hz := hbel.size
            have hkk := HCI.out.lt
            have hdl := HO.out.len
            have hla := HL.out
            have hkk0 : (0 : Int) ≤ (kk : Int) := by omega
            have hkk1 : (kk : Int) ≤ (n : Int) := by omega
            have m0 : (0 : Int) ≤ (m : Int) := by omega
            by_cases hlt2 : k + 1 + (m + 1) < n
            · obtain ⟨_, _, s, x, hA, _, hd, hs, hx, c0, c1⟩ := hits_at HO.out.recs hlt2
              obtain ⟨_, _, t, y, hA2, _, hd2, ht, hy, e0, e1⟩ := hits_at HO.out.recs (show k + 1 + m < n by omega)
              obtain ⟨_, _, r, z, hA3, _, hd3, hr, hzz, v0, v1⟩ := hits_at HO.out.recs (show kk < n by omega)
              injection hA with hA; injection hA with a1 a2; subst a1 a2
              injection hA2 with hA2; injection hA2 with a1 a2; subst a1 a2
              injection hA3 with hA3; injection hA3 with a1 a2; subst a1 a2
              rw [Nat.zero_add, Nat.add_mul] at c0 c1 e0 e1
              rw [Nat.zero_add] at v0 v1
              have f0 := HO.out.frozen (kk * 2)
              have f1 := HO.out.frozen (kk * 2 + 1)
              have hl1 : l[k + 1 + (m + 1)]? = some (s, x) := by
                have q := HCI.out.high (k + 1 + (m + 1)) (by omega)
                rw [getElem!_pos dk.toArray _ (by simp; omega), getElem!_pos l.toArray _ (by simp; omega)] at q
                rw [List.getElem?_eq_getElem (by omega)] at hd ⊢
                rw [← hd]; congr 1; simpa using q.symm
              have hl2 : l[k + 1 + m]? = some (t, y) := by
                have q := HCI.out.high (k + 1 + m) (by omega)
                rw [getElem!_pos dk.toArray _ (by simp; omega), getElem!_pos l.toArray _ (by simp; omega)] at q
                rw [List.getElem?_eq_getElem (by omega)] at hd2 ⊢
                rw [← hd2]; congr 1; simpa using q.symm
              have hkp : keeps l.toArray (k + 1 + (m + 1)) = decide ((s, x) ≠ (t, y)) := keeps_list (j := k + 1 + m) hl1 hl2
              have k4 : (m : Int) + 1 < ((n - (k + 1) : Nat) : Int) := by omega
              have k5 : (m : Int) < ((n - (k + 1) : Nat) : Int) := by omega
              have k6 : (kk : Int) < (n : Int) := by omega
              by_cases hdup2 : (s, x) = (t, y)
              · injection hdup2 with q1 q2
                subst q1 q2
                have HN2 := Lib.hid (HCI.out.skip (show keeps l.toArray (k + 1 + (m + 1)) = false by rw [hkp]; simp))
                clear hd hd2 hd3 hkp hl1 hl2 hdl hla
                go_wp2_with fail
                go_quiet (fail)
                go_wp2_with fail
                go_roundw
                case rel => exact ⟨kk, m + 1, dk, rfl, by go_num, by omega, HN2, Lib.hid (HO.out.below (below_drewN (Below.refl _ _) _)), below_drewN hbel _⟩
                case measure => simp [intOf]; omega
              · have HN2 : Hid (CompInv l.toArray (k + 1 + (m + 1 + 1)) (kk + 1) (dk.set kk (s, x)).toArray) := Lib.hid (by
                  have q := HCI.out.keep (show k + 1 + (m + 1) < l.toArray.size by simp; omega) (by rw [hkp]; exact decide_eq_true hdup2)
                  rw [getElem!_pos l.toArray _ (by simp; omega), show l.toArray[k + 1 + (m + 1)]'(by simp; omega) = (s, x) by simp; exact (List.getElem?_eq_some_iff.1 hl1).2] at q
                  rw [List.setIfInBounds_toArray] at q
                  exact q)
                have own1 := fun N => (HO.out.below (below_drewN (Below.refl _ _) N)).stored (i := 0) (e' := (s, z)) (v := .string s) hd3 (by show 0 < 2; omega) rfl ⟨hs, hzz⟩
                have hcg1 : (dk.set kk (s, z))[kk]? = some (s, z) := by rw [List.getElem?_set_self (by omega)]
                have own2 := fun N => (own1 N).stored (i := 1) (e' := (s, x)) (v := .int .i64 x) hcg1 (by show 1 < 2; omega) rfl ⟨hs, hx⟩
                rw [List.set_set] at own2
                have HST : Hid (∀ N, OwnHits (((wr.drewN N).setCell ⟨g, kk * 2, none⟩ (.string s)).setCell ⟨g, kk * 2 + 1, none⟩ (.int .i64 x)) base (some ⟨g, 0, none⟩) n cap (dk.set kk (s, x))) := Lib.hid own2
                have HBS : Hid (∀ N, Below base w (((wr.drewN N).setCell ⟨g, kk * 2, none⟩ (.string s)).setCell ⟨g, kk * 2 + 1, none⟩ (.int .i64 x))) := Lib.hid fun N => ((below_drewN hbel N).setCell hg _).setCell hg _
                clear hd hd2 hd3 hkp hl1 hl2 hdl hla own1 own2 hcg1
                by_cases hst : s = t
                · subst hst
                  have hxy : ¬ x = y := fun e => hdup2 (by rw [e])
                  clear hdup2
                  go_wp2_with fail
                  go_quiet (fail)
                  go_wp2_with fail
                  go_roundw
                  case rel => exact ⟨kk + 1, m + 1, dk.set kk (s, x), by go_num, by go_num, by omega, HN2, Lib.hid (HST.out _), HBS.out _⟩
                  case measure => simp [intOf]; omega
                · have hst' : (s.toList == t.toList) = false := by
                    cases q : (s.toList == t.toList)
                    · rfl
                    · exact absurd (sameHit q) hst
                  clear hdup2 hst
                  go_wp2_with fail
                  go_quiet (fail)
                  go_wp2_with fail
                  go_roundw
                  case rel => exact ⟨kk + 1, m + 1, dk.set kk (s, x), by go_num, by go_num, by omega, HN2, Lib.hid (HST.out _), HBS.out _⟩
                  case measure => simp [intOf]; omega
            · have hend : k + 1 + (m + 1) = n := by omega
              have k4 : ¬ (m : Int) + 1 < ((n - (k + 1) : Nat) : Int) := by omega
              obtain ⟨vs, hcl⟩ := run_clear_recs HO.out (show kk < n by omega) (cap - kk) 0 (by
                intro v hv
                have hv : v ∈ (#[.string ⟨#[]⟩, .int .i64 0] : Array Value) := hv
                simp at hv
                rcases hv with rfl | rfl <;> rfl)
              change (Builtin.clear_ #[23] 0 #[.slice (some ⟨g, kk * 2, none⟩) (n - kk) (cap - kk)]).run Try.prog wr = .ok (.tuple #[]) (wr.setCells g (kk * 2) vs) at hcl
              have HFIN : Hid (OwnHits (wr.setCells g (kk * 2) vs) base (some ⟨g, 0, none⟩) kk cap (compactH l)) := Lib.hid (by
                rw [hend] at HCI
                rw [← comp_done HCI.out hla (by omega)]
                exact (HO.out.take (by omega)).outside vs (kk * 2) (Nat.le_refl _))
              have hbf := Below.setCells hbel hg vs (kk * 2)
              go_wp2_with fail
              go_ret
              exact ⟨kk, rfl, HFIN.out, hbf⟩
        · have HN : Hid (∀ j, j < k + 1 + 1 → keeps l.toArray j = true) := Lib.hid fun j hj => by
            by_cases e : j = k + 1
            · subst e; rw [hkp]; exact decide_eq_true hdup
            · exact HK.out j (by omega)
          clear hd hd2 hkp
          by_cases hst : s = t
          · subst hst
            have hxy : ¬ x = y := fun e => hdup (by rw [e])
            clear hdup
            go_wp2_with fail
            go_quiet (fail)
            go_wp2_with fail
            go_roundw
            case rel => exact ⟨k + 1, by omega, by go_num, HN, Lib.hid (HO.out.below (below_drewN (Below.refl _ _) _)), below_drewN hbel _⟩
            case measure => simp [intOf]; omega
          · have hst' : (s.toList == t.toList) = false := by
              cases q : (s.toList == t.toList)
              · rfl
              · exact absurd (sameHit q) hst
            clear hdup hst
            go_wp2_with fail
            go_quiet (fail)
            go_wp2_with fail
            go_roundw
            case rel => exact ⟨k + 1, by omega, by go_num, HN, Lib.hid (HO.out.below (below_drewN (Below.refl _ _) _)), below_drewN hbel _⟩
            case measure => simp [intOf]; omega
      · have hend : k + 1 = n := by omega
        have k4 : ¬ (k : Int) + 1 < (n : Int) := by omega
        have HC := Lib.hid (show compactH l = l from compact_same fun j hj => HK.out j (by rw [HL.out] at hj; omega))
        go_wp2_with fail
        go_ret
        exact ⟨n, rfl, by rw [HC.out]; exact HO.out, hbel⟩
end Go.Proofs.Ytmolphaihapkkaa

/- The program's HitsValid. -/
namespace Go.Proofs.Ytmolphaihapkkaa
open Go.RowKit
set_option maxHeartbeats 3200000
set_option maxRecDepth 8192
set_option linter.unusedSimpArgs false
set_option linter.unusedVariables false

theorem hitsValid_impl : HitsValidC := by
  intro A n c B d w hn _ _ h hB
  have HL := Lib.hid h.len
  go_enter Try.func14, Try.ntmps14
  go_wp2_with fail
  go_loopw [7] (fun i wr => ∃ k : Nat, k ≤ n ∧ i = .int .i64 k ∧ Hid (∀ j x, j < k → d[j]? = some x → hitB x = true) ∧ Hid (∀ j x y, j + 1 < k → d[j]? = some x → d[j + 1]? = some y → beforeH x y = true) ∧ Below w.heap.size w wr) (fun i _ => n - (intOf i).toNat)
  case atStart => exact ⟨0, Nat.zero_le _, rfl, Lib.hid (fun j x hj => absurd hj (by omega)), Lib.hid (fun j x y hj => absurd hj (by omega)), Below.refl _ _⟩
  case round =>
    obtain ⟨k, hk, rfl, HP, HQ, hbel⟩ := hrel
    by_cases hlt : k < n
    · have hr := h.step hbel hB
      obtain ⟨b, o, s, x, rfl, hbB, hd, hs, hx, c0, c1⟩ := hits_at hr hlt
      have i0 : (0 : Int) ≤ (k : Int) := by omega
      have i1 : (k : Int) < (n : Int) := by omega
      have hz := hbel.size
      have HD0 := Lib.hid ((hits_one wr s x hs hx).cell (j := 0) (i := 0) rfl rfl)
      have HD1 := Lib.hid ((hits_one wr s x hs hx).cell (j := 0) (i := 1) rfl rfl)
      have HBW := Lib.hid (hbel.alloc hz (.cells #[.string s, .int .i64 x] 28))
      have HSZ := Lib.hid (show (wr.alloc (.cells #[.string s, .int .i64 x] 28)).heap.size = wr.heap.size + 1 by simp)
      have HRW := Lib.hid (hr.step (Below.alloc (Below.refl _ wr) (Nat.le_refl _) (.cells #[.string s, .int .i64 x] 28)) (by omega))
      have hs' := hs
      unfold maxLen at hs
      cases he : s.toList.isEmpty
      · cases hw : wordB s.data.toList
        · have HN := Lib.hid (show hitsB d = false from hits_bad (List.mem_of_getElem? hd) (by rw [hitB_inB]; simp [filledS, hw]))
          have HW := Lib.hid (wordValid_impl_is hw)
          clear hd hw
          go_wp2_with fail
          have d0 := HD0.out
          have d1 := HD1.out
          have hbW := HBW.out
          have hzW := HSZ.out
          change World.cell? _ ⟨wr.heap.size, 0, none⟩ = _ at d0
          change World.cell? _ ⟨wr.heap.size, 1, none⟩ = _ at d1
          clear HD0 HD1 HBW HSZ HRW
          generalize hgg : wr.heap.size = g at *
          generalize (wr.alloc (.cells #[.string s, .int .i64 x] 28)) = W at *
          go_wp2_with (go_at_call 44; (with_reducible refine (HW.out _ hs').mono ?_); rintro e w4 ⟨rfl, rfl⟩)
          go_ret
          exact ⟨ret_bool HN.out.symm, by first | exact hbW | exact hbW.drew | exact below_drewN hbW _⟩
        · have HW := Lib.hid (wordValid_impl_is hw)
          cases hc : (decide (0 ≤ x) && decide (x ≤ 4))
          · have HN := Lib.hid (show hitsB d = false from hits_bad (List.mem_of_getElem? hd) (by unfold hitB; rw [show (decide (0 ≤ (s, x).2) && decide ((s, x).2 ≤ 4)) = false from hc]; simp))
            have HC := Lib.hid (isErrors_is hc)
            clear hd hw hc
            go_wp2_with fail
            have d0 := HD0.out
            have d1 := HD1.out
            have hbW := HBW.out
            have hzW := HSZ.out
            change World.cell? _ ⟨wr.heap.size, 0, none⟩ = _ at d0
            change World.cell? _ ⟨wr.heap.size, 1, none⟩ = _ at d1
            clear HD0 HD1 HBW HSZ HRW
            generalize hgg : wr.heap.size = g at *
            generalize (wr.alloc (.cells #[.string s, .int .i64 x] 28)) = W at *
            go_wp2_with (first | (go_at_call 44; (with_reducible refine (HW.out _ hs').mono ?_); rintro e w4 ⟨rfl, rfl⟩) | (go_at_call 45; (with_reducible refine (HC.out _).mono ?_); rintro e w4 ⟨rfl, rfl⟩))
            go_ret
            exact ⟨ret_bool HN.out.symm, by first | exact hbW | exact hbW.drew | exact below_drewN hbW _⟩
          · have hok : hitB (s, x) = true := by unfold hitB; rw [show (decide (0 ≤ (s, x).2) && decide ((s, x).2 ≤ 4)) = true from hc]; simp [filledS, hw, he]
            have HC := Lib.hid (isErrors_is hc)
            have HP2 : Hid (∀ j y, j < k + 1 → d[j]? = some y → hitB y = true) := Lib.hid fun j y hj hy => by
              by_cases e : j = k
              · subst e; rw [hd] at hy; injection hy with hy; subst hy; exact hok
              · exact HP.out j y (by omega) hy
            rcases Nat.eq_zero_or_pos k with h0 | h0
            · subst h0
              have HQ2 : Hid (∀ j x y, j + 1 < 0 + 1 → d[j]? = some x → d[j + 1]? = some y → beforeH x y = true) := Lib.hid fun j x y hj => absurd hj (by omega)
              clear hd hw hc hok
              simp only [Nat.zero_mul, Nat.add_zero] at c0 c1
              go_wp2_with fail
              have d0 := HD0.out
              have d1 := HD1.out
              have hbW := HBW.out
              have hzW := HSZ.out
              change World.cell? _ ⟨wr.heap.size, 0, none⟩ = _ at d0
              change World.cell? _ ⟨wr.heap.size, 1, none⟩ = _ at d1
              clear HD0 HD1 HBW HSZ HRW
              generalize hgg : wr.heap.size = g at *
              generalize (wr.alloc (.cells #[.string s, .int .i64 x] 28)) = W at *
              go_wp2_with (first | (go_at_call 44; (with_reducible refine (HW.out _ hs').mono ?_); rintro e w4 ⟨rfl, rfl⟩) | (go_at_call 45; (with_reducible refine (HC.out _).mono ?_); rintro e w4 ⟨rfl, rfl⟩))
              go_quiet (fail)
              go_wp2_with fail
              go_roundw
              case rel => exact ⟨_, by omega, by go_num, HP2, HQ2, by first | exact hbW | exact hbW.drew | exact below_drewN hbW _⟩
              case measure => simp [intOf]; omega
            · obtain ⟨m, rfl⟩ : ∃ m, k = m + 1 := ⟨k - 1, by omega⟩
              obtain ⟨b', o', s', x', hA, _, hdp, hs2, hx2, _, _⟩ := hits_at hr (show m < n by omega)
              have HDP := Lib.hid hdp
              have hpos : (0 : Int) < (m : Int) + 1 := by omega
              have hwm := IntWalk.i64_in (m : Int) (by omega)
              have im0 : (0 : Int) ≤ (m : Int) := by omega
              have im1 : (m : Int) < (n : Int) := by omega
              clear hA
              have hge := cmpH_ge (s', x') (s, x)
              obtain ⟨v, hv⟩ : ∃ v, cmpH (s', x') (s, x) = v := ⟨_, rfl⟩
              rw [hv] at hge
              have HBF := Lib.hid (compare_below hv)
              cases hbf : beforeH (s', x') (s, x)
              · have HN := Lib.hid (show hitsB d = false from hits_asc_bad hdp hd hbf)
                have hv0 : 0 ≤ v := by rw [hbf] at hge; exact of_decide_eq_true hge
                clear hd hw hc hok hdp hbf hge hv
                go_wp2_with fail
                have d0 := HD0.out
                have d1 := HD1.out
                have hbW := HBW.out
                have hzW := HSZ.out
                change World.cell? _ ⟨wr.heap.size, 0, none⟩ = _ at d0
                change World.cell? _ ⟨wr.heap.size, 1, none⟩ = _ at d1
                have hrW := HRW.out
                obtain ⟨e0, e1⟩ := hits_cell hrW HDP.out
                simp only at e0 e1
                clear HD0 HD1 HBW HSZ HRW hrW
                generalize hgg : wr.heap.size = g at *
                generalize (wr.alloc (.cells #[.string s, .int .i64 x] 28)) = W at *
                go_wp2_with (first | (go_at_call 44; (with_reducible refine (HW.out _ hs').mono ?_); rintro e w4 ⟨rfl, rfl⟩) | (go_at_call 45; (with_reducible refine (HC.out _).mono ?_); rintro e w4 ⟨rfl, rfl⟩))
                go_still_tail 9, (by kernel_rfl)
                change wpList _ _ _ _ _ (World.drew _)
                have hbW := hbW.drew
                go_wp2_with (go_at_call 46; (with_reducible refine (HBF.out _).mono ?_); rintro e w4 ⟨rfl, hb4⟩; have hbW := below_step hbW (Nat.le_refl _) hb4)
                go_ret
                exact ⟨ret_bool HN.out.symm, by first | exact hbW | exact hbW.drew | exact below_drewN hbW _⟩
              · have HQ2 : Hid (∀ j x y, j + 1 < m + 1 + 1 → d[j]? = some x → d[j + 1]? = some y → beforeH x y = true) := Lib.hid fun j p q hj hp hq => by
                  by_cases e : j = m
                  · subst e; rw [hdp] at hp; rw [hd] at hq; injection hp with hp; injection hq with hq; subst hp hq; exact hbf
                  · exact HQ.out j p q (by omega) hp hq
                have hv0 : ¬ 0 ≤ v := by rw [hbf] at hge; exact of_decide_eq_false hge
                clear hd hw hc hok hdp hbf hge hv
                go_wp2_with fail
                have d0 := HD0.out
                have d1 := HD1.out
                have hbW := HBW.out
                have hzW := HSZ.out
                change World.cell? _ ⟨wr.heap.size, 0, none⟩ = _ at d0
                change World.cell? _ ⟨wr.heap.size, 1, none⟩ = _ at d1
                have hrW := HRW.out
                obtain ⟨e0, e1⟩ := hits_cell hrW HDP.out
                simp only at e0 e1
                clear HD0 HD1 HBW HSZ HRW hrW
                generalize hgg : wr.heap.size = g at *
                generalize (wr.alloc (.cells #[.string s, .int .i64 x] 28)) = W at *
                go_wp2_with (first | (go_at_call 44; (with_reducible refine (HW.out _ hs').mono ?_); rintro e w4 ⟨rfl, rfl⟩) | (go_at_call 45; (with_reducible refine (HC.out _).mono ?_); rintro e w4 ⟨rfl, rfl⟩))
                go_still_tail 9, (by kernel_rfl)
                change wpList _ _ _ _ _ (World.drew _)
                have hbW := hbW.drew
                go_wp2_with (go_at_call 46; (with_reducible refine (HBF.out _).mono ?_); rintro e w4 ⟨rfl, hb4⟩; have hbW := below_step hbW (Nat.le_refl _) hb4)
                go_roundw
                case rel => exact ⟨_, by omega, by go_num, HP2, HQ2, by first | exact hbW | exact hbW.drew | exact below_drewN hbW _⟩
                case measure => simp [intOf]; omega
      · have HN := Lib.hid (show hitsB d = false from hits_bad (List.mem_of_getElem? hd) (by rw [hitB_inB]; simp [filledS, he]))
        clear hd
        go_wp2_with fail
        have d0 := HD0.out
        have d1 := HD1.out
        have hbW := HBW.out
        have hzW := HSZ.out
        change World.cell? _ ⟨wr.heap.size, 0, none⟩ = _ at d0
        change World.cell? _ ⟨wr.heap.size, 1, none⟩ = _ at d1
        clear HD0 HD1 HBW HSZ HRW
        generalize hgg : wr.heap.size = g at *
        generalize (wr.alloc (.cells #[.string s, .int .i64 x] 28)) = W at *
        go_wp2_with fail
        go_ret
        exact ⟨ret_bool HN.out.symm, by first | exact hbW | exact hbW.drew | exact below_drewN hbW _⟩
    · obtain rfl : k = n := by omega
      have HN := Lib.hid (show hitsB d = true from hits_of (fun y hy => by obtain ⟨j, hj⟩ := List.mem_iff_getElem?.1 hy; exact HP.out j y (by have := (List.getElem?_eq_some_iff.1 hj).1; rw [HL.out] at this; exact this) hj) (asc_adj fun j p q hp hq => HQ.out j p q (by have := (List.getElem?_eq_some_iff.1 hq).1; rw [HL.out] at this; exact this) hp hq))
      go_wp2_with fail
      go_ret
      exact ⟨ret_bool HN.out.symm, hbel⟩
theorem hitsValid_impl_is {d : List Hit} {v : Bool} (hv : hitsB d = v) (A : Option Addr) (n c B : Nat) (w : World) (hn : n ≤ 1048576) (hnc : n ≤ c) (hc : c ≤ maxLen) (h : Hits w B A n d) (hB : B ≤ w.heap.size) :
    Calls Try.prog 14 #[.slice A n c] w fun e w' => e = .returned (.bool v) ∧ Below w.heap.size w w' := hv ▸ hitsValid_impl A n c B d w hn hnc hc h hB
end Go.Proofs.Ytmolphaihapkkaa

/- The program's JoinHits: concatenated, sorted, compacted. -/
namespace Go.Proofs.Ytmolphaihapkkaa
open Go.RowKit Go.Sort Go.Lib
set_option maxHeartbeats 1600000
set_option maxRecDepth 8192
set_option linter.unusedSimpArgs false
set_option linter.unusedVariables false

theorem compactH_facts {L : List Hit} (h : L.Pairwise fun a b => beforeH b a = false) : ascH (compactH L) ∧ ∀ x, x ∈ compactH L ↔ x ∈ L := by
  have hget : ∀ j (hj : j < L.length), L.toArray[j]! = L[j] := fun j hj => by simp [getElem!_pos, hj]
  unfold compactH Lib.compact Lib.compactUpTo ascH
  constructor
  · rw [List.pairwise_map]
    have hr : (List.range L.length).Pairwise (· < ·) := List.pairwise_lt_range
    rw [List.pairwise_filter]
    refine hr.imp_of_mem ?_
    intro i j hi hj hij ki kj
    have hil : i < L.length := List.mem_range.1 hi
    have hjl : j < L.length := List.mem_range.1 hj
    simp only [Lib.keeps, decide_eq_true_eq] at kj
    rcases kj with kj | kj
    · omega
    · rw [hget j hjl, hget (j - 1) (by omega)] at kj
      rw [hget i hil, hget j hjl]
      rw [List.pairwise_iff_getElem] at h
      have h1 : beforeH (L[j - 1]'(by omega)) L[i] = false := by
        by_cases e : i = j - 1
        · subst e; exact beforeH_irrefl _
        · exact h i (j - 1) hil (by omega) (by omega)
      have h2 : beforeH L[j] (L[j - 1]'(by omega)) = false := h (j - 1) j (by omega) hjl (by omega)
      have h3 : beforeH (L[j - 1]'(by omega)) L[j] = true := beforeH_tri h2 kj
      cases h4 : beforeH L[i] L[j]
      · have := beforeH_not h1 h4
        rw [h3] at this; cases this
      · rfl
  · intro x
    rw [List.mem_map]
    constructor
    · rintro ⟨j, hj, rfl⟩
      have hjl : j < L.length := List.mem_range.1 (List.mem_filter.1 hj).1
      rw [hget j hjl]
      exact List.getElem_mem hjl
    · intro hx
      have hfi : L.findIdx (fun y => decide (y = x)) < L.length := List.findIdx_lt_length_of_exists ⟨x, hx, by simp⟩
      have hgx : L[L.findIdx (fun y => decide (y = x))] = x := by
        have := List.findIdx_getElem (p := fun y => decide (y = x)) (xs := L) (w := hfi)
        simpa using this
      refine ⟨L.findIdx (fun y => decide (y = x)), List.mem_filter.2 ⟨List.mem_range.2 hfi, ?_⟩, by rw [hget _ hfi]; exact hgx⟩
      simp only [Lib.keeps, decide_eq_true_eq]
      by_cases h0 : L.findIdx (fun y => decide (y = x)) = 0
      · exact .inl h0
      · right
        rw [hget _ hfi, hget (L.findIdx (fun y => decide (y = x)) - 1) (by omega), hgx]
        intro e
        have := List.not_of_lt_findIdx (p := fun y => decide (y = x)) (xs := L) (i := L.findIdx (fun y => decide (y = x)) - 1) (by omega)
        rw [← e] at this
        simp at this
theorem join_sorted {a b : List Hit} (ha : hitsB a = true) (hb : hitsB b = true) : compactH (sortHits (a ++ b)) = joinE a b := by
  have h1 := (hits_parts ha).2
  have h2 := (hits_parts hb).2
  have e : joinE a b = joinF a b := by unfold joinE; rw [ha, hb]; rfl
  rw [e]
  obtain ⟨f1, f2⟩ := compactH_facts (sortHits_sorted (a ++ b))
  refine asc_ext _ _ f1 (join_asc h1 h2) fun x => ?_
  rw [f2, sortHits_mem, join_mem h1 h2, List.mem_append]
theorem joinHits_impl : JoinC := by
  intro A1 A2 n1 n2 c1 c2 B a b w hn1 hn2 hc1 hm1 hc2 hm2 h1 h2 hB
  have HV1 := Lib.hid (fun (v : Bool) (hv : hitsB a = v) (W : World) (hW : Hits W B A1 n1 a) (hBW : B ≤ W.heap.size) => hitsValid_impl_is hv A1 n1 c1 B W hn1 hc1 hm1 hW hBW)
  have HV2 := Lib.hid (fun (v : Bool) (hv : hitsB b = v) (W : World) (hW : Hits W B A2 n2 b) (hBW : B ≤ W.heap.size) => hitsValid_impl_is hv A2 n2 c2 B W hn2 hc2 hm2 hW hBW)
  have H1 := Lib.hid h1
  have H2 := Lib.hid h2
  clear h1 h2
  cases ha : hitsB a
  · have HN := Lib.hid (show joinE a b = [] by unfold joinE; rw [ha]; rfl)
    have HA := Lib.hid (HV1.out _ ha)
    clear ha
    go_enter Try.func26, Try.ntmps26
    go_wp2_with fail
    refine (HA.out _ H1.out hB).mono ?_
    rintro e w1 ⟨rfl, hb1⟩
    go_wp2_with fail
    go_ret
    rw [HN.out]
    exact ⟨none, 0, rfl, OwnR.nil _ _, hb1⟩
  · have HA := Lib.hid (HV1.out _ ha)
    cases hb : hitsB b
    · have HN := Lib.hid (show joinE a b = [] by unfold joinE; rw [ha, hb]; rfl)
      have HB := Lib.hid (HV2.out _ hb)
      clear ha hb
      go_enter Try.func26, Try.ntmps26
      go_wp2_with fail
      refine (HA.out _ H1.out hB).mono ?_
      rintro e w1 ⟨rfl, hb1⟩
      have hz1 := hb1.size
      go_wp2_with fail
      refine (HB.out _ (H2.out.step hb1 hB) (by omega)).mono ?_
      rintro e w2 ⟨rfl, hb2⟩
      go_wp2_with fail
      go_ret
      rw [HN.out]
      exact ⟨none, 0, rfl, OwnR.nil _ _, below_step hb1 (Nat.le_refl _) hb2⟩
    · have HN := Lib.hid (join_sorted ha hb)
      have HB := Lib.hid (HV2.out _ hb)
      clear ha hb
      go_enter Try.func26, Try.ntmps26
      go_wp2_with fail
      refine (HA.out _ H1.out hB).mono ?_
      rintro e w1 ⟨rfl, hb1⟩
      have hz1 := hb1.size
      go_wp2_with fail
      refine (HB.out _ (H2.out.step hb1 hB) (by omega)).mono ?_
      rintro e w2 ⟨rfl, hb2⟩
      have hb2 := below_step hb1 (Nat.le_refl _) hb2
      have hz2 := hb2.size
      go_wp2_with fail
      have hb3 := hb2.alloc hz2 (.cells #[.slice A1 n1 c1, .slice A2 n2 c2] 23)
      have G1 := Lib.hid (H1.out.step hb3 hB)
      have G2 := Lib.hid (H2.out.step hb3 hB)
      have HB3 := Lib.hid hb3
      have q0 : (w2.alloc (.cells #[.slice A1 n1 c1, .slice A2 n2 c2] 23)).cell? ⟨w2.heap.size, 0, none⟩ = some (.slice A1 n1 c1) := by simp
      have q1 : (w2.alloc (.cells #[.slice A1 n1 c1, .slice A2 n2 c2] 23)).cell? ⟨w2.heap.size, 1, none⟩ = some (.slice A2 n2 c2) := by simp
      refine (concat_any w2.heap.size 2 n1 n2 c1 c2 B A1 A2 a b _ q0 q1 (by simp) hn1 hn2 G1.out G2.out (by simp; omega)).mono ?_
      rintro e w3 ⟨A, cap, rfl, hown, hb4⟩
      have hz3 := hb4.size
      simp at hz3
      have hb5 := below_step HB3.out (Nat.le_refl _) hb4
      have hown := hown.mono (show w2.heap.size ≤ _ by simp)
      have hcz : n1 + n2 ≤ 1000000000 := by omega
      have hshape : (Value.slice A (n1 + n2) cap).ownBlock = none ∨ ∃ g, (Value.slice A (n1 + n2) cap).ownBlock = some g ∧ w2.heap.size ≤ g := by
        cases q : (Value.slice A (n1 + n2) cap).ownBlock with
        | none => exact .inl rfl
        | some g => exact .inr ⟨g, rfl, (hown.blockAt q).1⟩
      have HO3 := Lib.hid hown
      have HB5 := Lib.hid hb5
      clear hown hb4 hb5 hb3 q0 q1 G1 G2
      go_wp2_with fail
      refine (sort_any A (n1 + n2) cap w2.heap.size (a ++ b) w3 HO3.out hcz).mono ?_
      rintro e w4 ⟨rfl, hown4, hg4⟩
      have hb6 : Below w.heap.size w w4 := HB5.out.grown hg4 (by omega) (fun j hj => by have := (HO3.out.blockAt hj).1; omega)
      have hz4 := hg4.size
      have HO4 := Lib.hid hown4
      have HB6 := Lib.hid hb6
      clear hown4 hb6 HO3 HB5 hg4
      go_wp2_with fail
      refine (compact_any A (n1 + n2) cap w2.heap.size _ w4 HO4.out (by omega) hcz).mono ?_
      rintro e w5 ⟨m, rfl, hown5, hb7⟩
      have hb8 := HB6.out.trans (hb7.mono hz2)
      rw [HN.out] at hown5
      have hm := hown5.len
      go_wp2_with fail
      go_ret
      exact ⟨A, cap, by rw [hm]; rfl, by rw [hm]; exact hown5.mono hz2, hb8⟩
end Go.Proofs.Ytmolphaihapkkaa
