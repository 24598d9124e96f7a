/- slices.Insert of one text, slices.Delete of one text, at rows of texts of the call's own; slices.BinarySearch over an ascending row: the place of a text. -/
import Derived.Test.YtopjhdgpdcdklaaAscMath
import Derived.Test.YtopjhdgpdcdklaaTextRec
import Derived.Test.YtopjhdgpdcdklaaShelf
namespace Go.Proofs.Ytopjhdgpdcdklaa
open Go.RowKit Go.Lib
set_option maxHeartbeats 1600000
set_option linter.unusedSimpArgs false
set_option linter.unusedVariables false

theorem setCells_heap {k b : Nat} (hk : k ≠ b) : ∀ (vs : List Value) (o : Nat) (w : World), (w.setCells b o vs).heap[k]? = w.heap[k]?
  | [], _, _ => rfl
  | v :: r, o, w => by
    rw [World.setCells, setCells_heap hk r (o + 1)]
    simp [World.setCell, Array.getElem?_modify, Ne.symm hk]
theorem setCells_size (b : Nat) : ∀ (vs : List Value) (o : Nat) (w : World), (w.setCells b o vs).heap.size = w.heap.size
  | [], _, _ => rfl
  | v :: r, o, w => by
    rw [World.setCells, setCells_size b r (o + 1)]
    simp [World.setCell]
theorem below_setCellsS {B : Nat} {a : World} {b : Nat} (hB : B ≤ b) : ∀ (vs : List Value) (o : Nat) (w : World), Below B a w → Below B a (w.setCells b o vs)
  | [], _, _, h => h
  | v :: r, o, w, h => by
    rw [World.setCells]
    exact below_setCellsS hB r (o + 1) _ (h.setCell hB v)
theorem cellsInS {w : World} {g o : Nat} {vs : List Value} (h : ∀ j, j < vs.length → (w.cell? ⟨g, o + j, none⟩).isSome = true) {k : Nat} {v : Value} (hk : vs[k]? = some v) : (w.setCells g o vs).cell? ⟨g, o + k, none⟩ = some v := by
  have hl := (List.getElem?_eq_some_iff.1 hk).1
  have := World.cell?_setCells_in g vs o w h k hl
  rw [this, ← hk, List.getElem?_eq_getElem hl]
theorem cellsOutS {w : World} {g o k : Nat} {vs : List Value} (h : k < o ∨ o + vs.length ≤ k) : (w.setCells g o vs).cell? ⟨g, k, none⟩ = w.cell? ⟨g, k, none⟩ := World.cell?_setCells_out _ _ _ _ _ (fun _ _ => h)

theorem OwnTx.cellAt {w : World} {base g n cap j : Nat} {ss : List ByteArray} {s : ByteArray} (h : OwnTx w base (some ⟨g, 0, none⟩) n cap ss) (hs : ss[j]? = some s) : w.cell? ⟨g, j, none⟩ = some (.string s) := by
  have := (ownTx_iff.2 h).at_ (i := 0) hs rfl
  rwa [show j * textR.k + 0 = j from by show j * 1 + 0 = j; omega] at this
theorem OwnTx.frozenAt {w : World} {base g n cap : Nat} {ss : List ByteArray} (h : OwnTx w base (some ⟨g, 0, none⟩) n cap ss) (j : Nat) : w.frozen? ⟨g, j, none⟩ = false := (ownTx_iff.2 h).frozen j
theorem strsOf_list {ss : List ByteArray} {n : Nat} (hn : ss.length = n) : Lib.strsOf (fun t => (ss[t]?).getD ByteArray.empty) n = ss.map bytesOf := by
  subst hn
  apply List.ext_getElem?
  intro j
  unfold Lib.strsOf
  by_cases hj : j < ss.length
  · simp [List.getElem?_map, hj, bytesOf, List.getElem?_range hj]
  · simp [List.getElem?_map, List.getElem?_eq_none (show ss.length ≤ j by omega), hj]

/-- slices.Delete of the text at i -/
theorem delete_text (g n cap base i : Nat) (ss : List ByteArray) (w : World) (h : OwnTx w base (some ⟨g, 0, none⟩) n cap ss) (hi : i < n) :
    Calls Try.prog 66 #[.slice (some ⟨g, 0, none⟩) n cap, .int .i64 i, .int .i64 ((i : Int) + 1)] w fun e w' =>
      e = .returned (.slice (some ⟨g, 0, none⟩) (n - 1) cap) ∧ Strs w' w'.heap.size (some ⟨g, 0, none⟩) (n - 1) (ss.take i ++ ss.drop (i + 1)) ∧ (∀ k, k ≠ g → w'.heap[k]? = w.heap[k]?) ∧ w'.heap.size = w.heap.size ∧ Below g w w' := by
  have hl := h.len
  have hcap := h.caps
  have hcm := hcap.2
  unfold maxLen at hcm
  have hgl := (h.blockAt rfl).2
  have H := Try.slices_Delete_string_cells g 0 n cap i (i + 1) (fun t => (ss[t]?).getD ByteArray.empty) w hcap.1 (by omega) (by omega) (by omega) (fun j hj => by
    have hj' : ss[j]? = some (ss[j]'(by omega)) := List.getElem?_eq_getElem (by omega)
    rw [Nat.zero_add, hj']
    exact h.cellAt hj') (fun j hj => by rw [Nat.zero_add]; exact h.frozenAt j)
  rw [show ((i + 1 : Nat) : Int) = (i : Int) + 1 by omega] at H
  refine H.mono ?_
  rintro e w' ⟨rfl, q, rfl⟩
  rw [strsOf_list hl, show n - (i + 1 - i) = n - 1 by omega]
  obtain ⟨vs, hvs⟩ : ∃ vs, vs = (List.take i (ss.map bytesOf) ++ List.drop (i + 1) (ss.map bytesOf) ++ List.replicate (i + 1 - i) []).map encStr := ⟨_, rfl⟩
  rw [← hvs]
  have hsz : ((w.drewN q).setCells g 0 vs).heap.size = w.heap.size := by rw [setCells_size]; rfl
  have hvl : vs.length = n := by rw [hvs]; simp; omega
  have hsome : ∀ j, j < vs.length → ((w.drewN q).cell? ⟨g, 0 + j, none⟩).isSome = true := fun j hj => by
    rw [hvl] at hj
    have hj' : ss[j]? = some (ss[j]'(by omega)) := List.getElem?_eq_getElem (by omega)
    rw [Nat.zero_add]
    show (w.cell? ⟨g, j, none⟩).isSome = true
    rw [h.cellAt hj']; rfl
  have hlen : (ss.take i ++ ss.drop (i + 1)).length = n - 1 := by rw [List.length_append, List.length_take, List.length_drop]; omega
  refine ⟨rfl, ⟨hlen, fun s hs => ?_, fun hn => ⟨g, 0, rfl, by rw [hsz]; exact hgl, fun j s hs => ?_⟩⟩, fun k hk => ?_, hsz, below_setCellsS (Nat.le_refl _) _ _ _ (Drawn.below ⟨q, rfl⟩)⟩
  · rcases List.mem_append.1 hs with hs | hs
    · exact h.2 s (List.mem_of_mem_take hs)
    · exact h.2 s (List.mem_of_mem_drop hs)
  · have hjl := (List.getElem?_eq_some_iff.1 hs).1
    refine cellsInS hsome (k := j) ?_
    rw [hvs, ← List.map_take, ← List.map_drop, ← List.map_append, List.map_append, enc_list, List.getElem?_append_left (by rw [List.length_map]; exact hjl), List.getElem?_map, hs]
    rfl
  · rw [setCells_heap hk]; rfl

/-- slices.Insert of one text at i, where the row is full -/
theorem insert_text (g n base i vb : Nat) (ss : List ByteArray) (x : ByteArray) (w : World) (h : OwnTx w base (some ⟨g, 0, none⟩) n n ss) (hi : i ≤ n) (hn : n ≤ 1000) (hx : x.size ≤ maxLen)
    (hv : w.cell? ⟨vb, 0, none⟩ = some (.string x)) :
    Calls Try.prog 64 #[.slice (some ⟨g, 0, none⟩) n n, .int .i64 i, .slice (some ⟨vb, 0, none⟩) 1 1] w fun e w' =>
      ∃ cap, e = .returned (.slice (some ⟨w.heap.size, 0, none⟩) (n + 1) cap) ∧ Strs w' w'.heap.size (some ⟨w.heap.size, 0, none⟩) (n + 1) (ss.take i ++ x :: ss.drop i) ∧ Below w.heap.size w w' := by
  have hl := h.len
  have hcs : ∀ (j : Nat) (v : Value), (ss.map Value.string)[j]? = some v → w.cell? ⟨g, 0 + j, none⟩ = some v := fun j v hj => by
    rw [List.getElem?_map] at hj
    obtain ⟨s, hs, rfl⟩ := Option.map_eq_some_iff.1 hj
    rw [Nat.zero_add]; exact h.cellAt hs
  have hvs : ∀ (j : Nat) (v : Value), [Value.string x][j]? = some v → w.cell? ⟨vb, 0 + j, none⟩ = some v := fun j v hj => by
    match j, hj with
    | 0, hj => simp at hj; subst hj; simpa using hv
    | j + 1, hj => simp at hj
  have h1v : ∀ v ∈ [Value.string x], v.oneCell' = true := by intro v hv; simp at hv; subst hv; rfl
  have h1c : ∀ v ∈ ss.map Value.string, v.oneCell' = true := by intro v hv; obtain ⟨s, _, rfl⟩ := List.mem_map.1 hv; rfl
  have hlen : (ss.take i ++ x :: ss.drop i).length = n + 1 := by simp only [List.length_append, List.length_take, List.length_cons, List.length_drop]; omega
  have hok : ∀ s ∈ ss.take i ++ x :: ss.drop i, s.size ≤ maxLen := fun s hs => by
    rcases List.mem_append.1 hs with hs | hs
    · exact h.2 s (List.mem_of_mem_take hs)
    · rcases List.mem_cons.1 hs with rfl | hs
      · exact hx
      · exact h.2 s (List.mem_of_mem_drop hs)
  by_cases he : i = n
  · subst he
    refine (Any2.slices_Insert_string_end_grow Try.laysNm222 (some ⟨g, 0, none⟩) i i vb 0 1 1 (ss.map Value.string) [Value.string x] w (by omega) (by omega) (by omega) (by omega) (by simpa using hl) rfl (by simp)
      (fun a ha j v hj => by injection ha with ha; subst ha; rw [Addr.add_lit]; exact hcs j v hj) hvs h1v).mono ?_
    rintro e w' ⟨rfl, rfl⟩
    refine ⟨_, rfl, ⟨hlen, hok, fun _ => ⟨w.heap.size, 0, rfl, by simp, fun j s hs => ?_⟩⟩, ((Below.refl _ _).drew).alloc (by simp) _⟩
    have hjl := (List.getElem?_eq_some_iff.1 hs).1
    rw [World.cell?_alloc_at (w := w.drew) _ _ w.heap.size (0 + j) rfl, Nat.zero_add, Array.getElem?_append_left (by simp; rw [hlen] at hjl; omega)]
    have e : ss.take i ++ x :: ss.drop i = ss ++ [x] := by rw [List.take_of_length_le (by omega), List.drop_of_length_le (by omega)]
    rw [e] at hs
    rw [List.getElem?_toArray, show ss.map Value.string ++ [Value.string x] = (ss ++ [x]).map Value.string by simp, List.getElem?_map, hs]
    rfl
  · refine (Any2.slices_Insert_string_grow Try.laysNm222 g 0 n n i vb 0 1 1 (ss.map Value.string) [Value.string x] w (by omega) (by omega) (by omega) (by omega) (by omega) (by simpa using hl) rfl hcs hvs h1c h1v).mono ?_
    rintro e w' ⟨rfl, hw'⟩
    obtain ⟨G, hG⟩ : ∃ G, G = grownCap w (n + 1) n 9 := ⟨_, rfl⟩
    obtain ⟨ROW, hROW⟩ : ∃ ROW : Array Value, ROW = (List.take i (ss.map Value.string)).toArray ++ Builtin.zeroCells (Value.string ⟨#[]⟩).cells (n + 1 - i) ++ Builtin.zeroCells (Value.string ⟨#[]⟩).cells (G - (n + 1)) := ⟨_, rfl⟩
    have hsz : ROW.size ≥ n + 1 := by rw [hROW]; simp [Builtin.zeroCells, Value.cells]; omega
    have hR1 : ∀ j v, j < i → (ss.map Value.string)[j]? = some v → ROW[j]? = some v := fun j v hj hv => by
      have hsz : (List.take i (ss.map Value.string)).toArray.size = i := by simp; omega
      rw [hROW, Array.append_assoc, Array.getElem?_append_left (by rw [hsz]; omega), List.getElem?_toArray, List.getElem?_take_of_lt hj]
      exact hv
    have hw2 : w' = (((w.alloc (.cells ((List.take i (ss.map Value.string)).toArray ++ Builtin.zeroCells (Value.string ⟨#[]⟩).cells (n + 1 - i) ++ Builtin.zeroCells (Value.string ⟨#[]⟩).cells (grownCap w (n + 1) n 9 - (n + 1))) 9)).drew.setCells w.heap.size i [Value.string x]).drew).setCells w.heap.size (i + 1) (List.drop i (ss.map Value.string)) := hw'
    rw [← hG, ← hROW] at hw2
    obtain ⟨W0, hW0⟩ : ∃ W0, W0 = (w.alloc (.cells ROW 9)).drew := ⟨_, rfl⟩
    have c0 : ∀ j, W0.cell? ⟨w.heap.size, j, none⟩ = ROW[j]? := fun j => by rw [hW0]; exact World.cell?_alloc_at (w := w) ROW _ w.heap.size j rfl
    have z0 : W0.heap.size = w.heap.size + 1 := by rw [hW0]; simp
    have b0 : Below w.heap.size w W0 := by rw [hW0]; exact ((Below.refl _ _).alloc (Nat.le_refl _) _).drew
    rw [← hW0] at hw2
    have s0 : ∀ j, j < n + 1 → (W0.cell? ⟨w.heap.size, j, none⟩).isSome = true := fun j hj => by rw [c0, Array.getElem?_eq_getElem (by omega)]; rfl
    obtain ⟨W1, hW1⟩ : ∃ W1, W1 = (W0.setCells w.heap.size i [Value.string x]).drew := ⟨_, rfl⟩
    have z1 : W1.heap.size = w.heap.size + 1 := by rw [hW1]; show (W0.setCells w.heap.size i [Value.string x]).heap.size = _; rw [setCells_size]; exact z0
    have b1 : Below w.heap.size w W1 := by rw [hW1]; exact (below_setCellsS (Nat.le_refl _) _ _ _ b0).drew
    have c1 : ∀ j, j ≠ i → W1.cell? ⟨w.heap.size, j, none⟩ = ROW[j]? := fun j hj => by
      rw [hW1]
      show (W0.setCells w.heap.size i [Value.string x]).cell? ⟨w.heap.size, j, none⟩ = _
      rw [cellsOutS (by simp; omega)]; exact c0 j
    have c1i : W1.cell? ⟨w.heap.size, i, none⟩ = some (.string x) := by
      rw [hW1]
      have := cellsInS (w := W0) (g := w.heap.size) (o := i) (vs := [Value.string x]) (fun j hj => by simp at hj; subst hj; exact s0 _ (by omega)) (k := 0) (v := .string x) rfl
      simpa using this
    have s1 : ∀ j, j < n + 1 → (W1.cell? ⟨w.heap.size, j, none⟩).isSome = true := fun j hj => by
      by_cases e : j = i
      · subst e; rw [c1i]; rfl
      · rw [c1 j e, Array.getElem?_eq_getElem (by omega)]; rfl
    rw [← hW1] at hw2
    clear hw'
    subst hw2
    refine ⟨_, rfl, ⟨hlen, hok, fun _ => ⟨w.heap.size, 0, rfl, by rw [setCells_size, z1]; omega, fun j s hs => ?_⟩⟩, below_setCellsS (Nat.le_refl _) _ _ _ b1⟩
    have hjl := (List.getElem?_eq_some_iff.1 hs).1
    rw [hlen] at hjl
    rw [Nat.zero_add]
    have htl : (ss.take i).length = i := by rw [List.length_take]; omega
    rcases Nat.lt_trichotomy j i with hj | hj | hj
    · rw [cellsOutS (by left; omega), c1 j (by omega)]
      rw [List.getElem?_append_left (by omega), List.getElem?_take_of_lt hj] at hs
      exact hR1 j _ hj (by rw [List.getElem?_map, hs]; rfl)
    · subst hj
      rw [cellsOutS (by left; omega), c1i]
      rw [List.getElem?_append_right (by omega), htl, Nat.sub_self] at hs
      simp at hs; subst hs; rfl
    · rw [List.getElem?_append_right (by omega), htl] at hs
      obtain ⟨k, rfl⟩ : ∃ k, j = i + 1 + k := ⟨j - (i + 1), by omega⟩
      rw [show i + 1 + k - i = k + 1 by omega, List.getElem?_cons_succ] at hs
      refine cellsInS (fun t ht => ?_) (k := k) ?_
      · rw [List.length_drop, List.length_map] at ht
        exact s1 _ (by omega)
      · rw [← List.map_drop, List.getElem?_map, hs]; rfl

/-- I is the place of x in ss, f says whether x stands there -/
def PlaceAt (ss : List ByteArray) (x : ByteArray) (I : Nat) (f : Bool) : Prop :=
  I ≤ ss.length ∧ (∀ j s, j < I → ss[j]? = some s → ltS s x = true) ∧ (∀ j s, I ≤ j → ss[j]? = some s → ltS s x = false) ∧ (f = true ↔ ss[I]? = some x)
theorem place_of {ss : List ByteArray} {x : ByteArray} (hasc : ascB ss = true) (I : Nat) (hI : Lib.bsGo (fun t => Op.bytesLess ((ss[t]?).getD x).toList x.toList) ss.length 0 ss.length = I) : PlaceAt ss x I (decide (I < ss.length ∧ (ss[I]?).getD x = x)) := by
  let less : Nat → Bool := fun t => Op.bytesLess ((ss[t]?).getD x).toList x.toList
  have hlt : ∀ t s, ss[t]? = some s → less t = ltS s x := by intro t s h; simp [less, h, ltS]
  have hout : ∀ t, ss[t]? = none → less t = false := by intro t h; simp only [less, h, Option.getD_none]; exact ltS_irrefl x
  have hmono : ∀ t, less (t + 1) = true → less t = true := by
    intro t h
    cases h1 : ss[t + 1]? with
    | none => rw [hout _ h1] at h; cases h
    | some u =>
      have hl := (List.getElem?_eq_some_iff.1 h1).1
      have h0 : ss[t]? = some (ss[t]'(by omega)) := List.getElem?_eq_getElem (by omega)
      rw [hlt _ _ h0]
      rw [hlt _ _ h1] at h
      exact ltS_trans (asc_iff.1 hasc t _ u h0 h1) h
  obtain ⟨k, hk, h1, h2⟩ := turn_of less hmono ss.length
  have hfin : Lib.bsGo less ss.length 0 ss.length = k := Lib.bsGo_spec less k h1 (fun t ht => by
    by_cases h : t < ss.length
    · exact h2 t ht h
    · exact hout t (List.getElem?_eq_none (by omega))) ss.length 0 ss.length (by omega) (by omega) hk
  have hIk : I = k := by rw [← hI]; exact hfin
  subst hIk
  refine ⟨hk, fun j s hj hs => by rw [← hlt j s hs]; exact h1 j hj, fun j s hj hs => by rw [← hlt j s hs]; exact h2 j hj (List.getElem?_eq_some_iff.1 hs).1, ?_⟩
  rw [decide_eq_true_iff]
  constructor
  · rintro ⟨a, b⟩
    have h0 : ss[I]? = some (ss[I]'a) := List.getElem?_eq_getElem a
    rw [h0] at b ⊢
    simp only [Option.getD_some] at b
    rw [b]
  · intro h
    exact ⟨(List.getElem?_eq_some_iff.1 h).1, by rw [h]; rfl⟩
/-- slices.BinarySearch over an ascending row -/
theorem search_place (A : Option Addr) (n c B : Nat) (ss : List ByteArray) (x : ByteArray) (w : World) (ha : ascB ss = true) (hn : n ≤ 1000000) (h : Strs w B A n ss) :
    Calls Try.prog 60 #[.slice A n c, .string x] w fun e w' => ∃ (I : Nat) (f : Bool), e = .returned (.tuple #[.int .i64 I, .bool f]) ∧ PlaceAt ss x I f ∧ Drawn w w' := by
  have hl := h.1
  by_cases hn : n = 0
  · subst hn
    refine (Try.slices_BinarySearch_string_empty A c x w).mono ?_
    rintro e w' ⟨rfl, rfl⟩
    obtain rfl : ss = [] := List.eq_nil_of_length_eq_zero hl
    exact ⟨0, false, rfl, ⟨Nat.le_refl _, fun j s hj => absurd hj (by omega), fun j s _ hs => by simp at hs, by simp⟩, Drawn.refl _⟩
  · obtain ⟨b, o, rfl, hbB, hc⟩ := h.2.2 (by omega)
    refine (Try.slices_BinarySearch_string b o n c (fun t => (ss[t]?).getD x) x w (by omega) (fun j hj => ?_)).mono ?_
    · have hj' : ss[j]? = some (ss[j]'(by omega)) := List.getElem?_eq_getElem (by omega)
      rw [hj']
      exact hc j _ hj'
    · rintro e w' ⟨rfl, q, rfl⟩
      subst hl
      obtain ⟨I, hI⟩ : ∃ I, Lib.bsGo (fun t => Op.bytesLess ((ss[t]?).getD x).toList x.toList) ss.length 0 ss.length = I := ⟨_, rfl⟩
      rw [hI]
      exact ⟨I, _, rfl, place_of ha I hI, ⟨q, rfl⟩⟩
end Go.Proofs.Ytopjhdgpdcdklaa
