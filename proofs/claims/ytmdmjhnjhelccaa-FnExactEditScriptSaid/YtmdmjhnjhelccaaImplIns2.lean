/- slices.Insert of one byte where there is no room; slices.Delete of one byte. -/
import Derived.Test.YtmdmjhnjhelccaaImplIns
namespace Go.Proofs.Ytmdmjhnjhelccaa
open Go.RowKit Go.Lib
set_option maxHeartbeats 4000000
set_option linter.unusedSimpArgs false
set_option linter.unusedVariables false

set_option maxRecDepth 100000 in
theorem insert_grow (g cap i vb vc B : Nat) (l : List UInt8) (c : UInt8) (w : World) (h : OwnB w g cap l) (hB : B ≤ w.heap.size) (hroom : cap < l.length + 1) (hl : l.length ≤ 1000) (hi : i < l.length)
    (hv : w.cell? ⟨vb, 0, none⟩ = some (.int .u8 (c.toNat : Int))) :
    Calls Try.prog 40 #[.slice (some ⟨g, 0, none⟩) l.length cap, .int .i64 i, .slice (some ⟨vb, 0, none⟩) 1 vc] w (InsPost B (insL l i c) w) := by
  have hm := h.2.1
  have hlc := h.1
  unfold maxLen at hm
  have hc63 : cap ≤ 9223372036854775807 := by omega
  obtain ⟨i0, hi0, hz0, hzs, hzb⟩ := info_parts u8_info
  have hz2 : ¬ ((i : Int) = (l.length : Int)) := by omega
  have hz3 : (cap : Int) < (l.length : Int) + 1 := by omega
  have hvs : ∀ (j : Nat) (v : Value), [Value.int .u8 (c.toNat : Int)][j]? = some v → w.cell? ⟨vb, 0 + j, none⟩ = some v := fun j u hj => by
    match j, hj with
    | 0, hj => simp at hj; subst hj; simpa using hv
    | j + 1, hj => simp at hj
  have hbw : g < w.heap.size := block_lt_of_cell (h.vals 0 _ (List.getElem?_eq_getElem (by rw [byteV_len]; omega)))
  have hvw : vb < w.heap.size := block_lt_of_cell hv
  have hkk : (l.length : Int) + 1 - (i : Int) = ((l.length + 1 - i : Nat) : Int) := by omega
  have hik : i + (l.length + 1 - i) = l.length + 1 := by omega
  have hold : (Builtin.firstCells i0.size i (.slice (some ⟨g, 0, none⟩) i cap)).run Try.prog w.drew = .ok ((byteV l).take i).toArray w.drew := by
    rw [hzs]
    exact run_firstCells_some w.drew 1 i ⟨g, 0, none⟩ i cap ((byteV l).take i) (by rw [List.length_take, byteV_len]; omega) (fun j v hj => by
      rw [Addr.add_lit, Nat.zero_add]
      rw [List.getElem?_take] at hj
      split at hj
      · exact h.vals j v hj
      · cases hj)
  have hrz : ∀ ty, (Builtin.append_ #[22, 3] ty #[.slice (some ⟨g, 0, none⟩) i cap, .int .i64 ((l.length : Int) + 1 - (i : Int))]).run Try.prog w =
      .ok (.slice (some ⟨w.heap.size, 0, none⟩) (l.length + 1) (grownCap w (l.length + 1) cap 5)) (w.drew.alloc (.cells (((byteV l).take i).toArray ++ Builtin.zeroCells (Value.int .u8 0).cells (l.length + 1 - i) ++ Builtin.zeroCells (Value.int .u8 0).cells (grownCap w (l.length + 1) cap 5 - (l.length + 1))) 5)) := fun ty => by
    have h := Lib.run_append_grow_zeros w 22 3 ty 5 i0 _ .i64 .i64 Try.underlying22 Try.underlying3 hi0 hz0 (some ⟨g, 0, none⟩) i cap ((byteV l).take i) hold (l.length + 1 - i) (by omega) (by omega) (by omega) (by omega) (by rw [hzb]; omega) (by rw [hzb, hik]; exact growslice_fits hroom (by omega))
    rw [hik] at h
    rw [hkk]
    exact h
  obtain ⟨G, hG⟩ : ∃ G, G = grownCap w (l.length + 1) cap 5 := ⟨_, rfl⟩
  obtain ⟨ROW, hROW⟩ : ∃ ROW : Array Value, ROW = ((byteV l).take i).toArray ++ Builtin.zeroCells (Value.int .u8 0).cells (l.length + 1 - i) ++ Builtin.zeroCells (Value.int .u8 0).cells (G - (l.length + 1)) := ⟨_, rfl⟩
  have hGn : l.length + 1 ≤ G := by rw [hG]; exact grownCap_ge w _ _ _
  have hG63 : G ≤ 9223372036854775807 := by
    have := grownCap_le_maxLen w (l.length + 1) cap 5 (by unfold maxLen; omega)
    rw [← hG] at this
    unfold maxLen at this
    omega
  rw [← hG] at hrz
  rw [← hROW] at hrz
  have hRl : l.length + 1 ≤ ROW.size := by
    rw [hROW]
    simp [Builtin.zeroCells, Value.cells, byteV_len]
    omega
  have hR1 : ∀ j v, j < i → (byteV l)[j]? = some v → ROW[j]? = some v := fun j v hj hv => by
    have hsz : ((byteV l).take i).toArray.size = i := by simp [byteV_len]; omega
    rw [hROW, Array.append_assoc, Array.getElem?_append_left (by rw [hsz]; omega), List.getElem?_toArray, List.getElem?_take_of_lt hj]
    exact hv
  obtain ⟨W1, hW1⟩ : ∃ W1, W1 = w.drew.alloc (.cells ROW 5) := ⟨_, rfl⟩
  rw [← hW1] at hrz
  have hNc : ∀ j, W1.cell? ⟨w.heap.size, j, none⟩ = ROW[j]? := fun j => by rw [hW1, World.cell?_alloc_at (w := w.drew) ROW _ w.heap.size j rfl]
  have hN : ∀ j, j < l.length + 1 → (W1.cell? ⟨w.heap.size, j, none⟩).isSome = true := fun j hj => by
    rw [hNc, Array.getElem?_eq_getElem (by omega)]; rfl
  have hNf : ∀ j, W1.frozen? ⟨w.heap.size, j, none⟩ = false := fun j => by rw [hW1]; exact World.frozen?_alloc_at (w := w.drew) ROW _ w.heap.size j rfl
  have hOb : ∀ j v, w.cell? ⟨g, j, none⟩ = some v → W1.cell? ⟨g, j, none⟩ = some v := fun j v h => by rw [hW1, World.cell?_alloc_past (w := w.drew) _ g j hbw]; exact h
  have hOv : ∀ j v, w.cell? ⟨vb, j, none⟩ = some v → W1.cell? ⟨vb, j, none⟩ = some v := fun j v h => by rw [hW1, World.cell?_alloc_past (w := w.drew) _ vb j hvw]; exact h
  have hcpA : ∀ (W : World), (∀ x, W.cell? x = W1.cell? x) → (∀ x, W.frozen? x = W1.frozen? x) → ∀ ty dc, (Builtin.copy_ #[22, 22] ty #[.slice (some ⟨w.heap.size, i, none⟩) (l.length + 1 - i) dc, .slice (some ⟨vb, 0, none⟩) 1 vc]).run Try.prog W = .ok (goInt 1) (W.setCells w.heap.size i [Value.int .u8 (c.toNat : Int)]) := fun W hWc hWf ty dc =>
    run_copy_cells W _ _ ty 5 w.heap.size i (l.length + 1 - i) dc ⟨vb, 0, none⟩ 1 vc [Value.int .u8 (c.toNat : Int)] Try.underlying22 u8_size (by simp only [Nat.min_def, List.length_singleton]; split <;> omega)
      (fun j v hj => by rw [Addr.add_lit, hWc]; exact hOv _ v (hvs j v hj))
      (fun j hj => by rw [hWc]; exact hN _ (by simp at hj; omega)) (fun j hj => by rw [hWf]; exact hNf _) (by simp [Value.oneCell'])
  have hGi : ¬ (G = i) := by omega
  have hGim : ¬ (G = i + 1) := by omega
  have hci : ¬ (cap = i) := by omega
  have hbN : g ≠ w.heap.size := by omega
  have hdl : ((byteV l).drop i).length = l.length - i := by rw [List.length_drop, byteV_len]
  have hcpB : ∀ (W : World), (∀ x, W.cell? x = (W1.setCells w.heap.size i [Value.int .u8 (c.toNat : Int)]).cell? x) → (∀ x, W.frozen? x = (W1.setCells w.heap.size i [Value.int .u8 (c.toNat : Int)]).frozen? x) → ∀ ty dc sc, (Builtin.copy_ #[22, 22] ty #[.slice (some ⟨w.heap.size, i + 1, none⟩) (l.length - i) dc, .slice (some ⟨g, i, none⟩) (l.length - i) sc]).run Try.prog W = .ok (goInt ((byteV l).drop i).length) (W.setCells w.heap.size (i + 1) ((byteV l).drop i)) := fun W hWc hWf ty dc sc =>
    run_copy_cells W _ _ ty 5 w.heap.size (i + 1) (l.length - i) dc ⟨g, i, none⟩ (l.length - i) sc ((byteV l).drop i) Try.underlying22 u8_size (by rw [hdl]; simp only [Nat.min_def]; split <;> omega)
      (fun j v hj => by
        rw [Addr.add_lit, hWc, World.cell?_setCells_out _ _ _ _ _ (fun h _ => absurd h hbN)]
        exact hOb _ v (h.vals (i + j) v (by rwa [List.getElem?_drop] at hj)))
      (fun j hj => by rw [hWc]; exact isSome_setCells _ _ _ _ (fun t ht => hN _ (by simp at ht; omega)) _ (hN _ (by rw [hdl] at hj; omega)))
      (fun j hj => by rw [hWf, World.frozen?_setCells]; exact hNf _) (fun v hv => byteV_one l v (List.mem_of_mem_drop hv))
  have HP := Lib.hid (show ∀ W : World, (∀ x, W.cell? x = (W1.setCells w.heap.size i [Value.int .u8 (c.toNat : Int)]).cell? x) → Below B w W → InsPost B (insL l i c) w (.returned (.slice (some ⟨w.heap.size, 0, none⟩) (l.length + 1) G)) (W.setCells w.heap.size (i + 1) ((byteV l).drop i)) from fun W hWc hWb => by
    refine ⟨w.heap.size, G, by rw [insL_len l i c (by omega)], fun j d hj => ?_, below_setCells hB _ _ _ hWb⟩
    rcases insL_get l i c (by omega) j d hj with ⟨hji, hd⟩ | ⟨rfl, rfl⟩ | ⟨hji, hd⟩
    · rw [cellsOut (by left; omega), hWc, cellsOut (by left; omega), hNc]
      exact hR1 j _ hji (byteV_get hd)
    · rw [cellsOut (by left; omega), hWc]
      have := cellsIn (w := W1) (g := w.heap.size) (o := j) (vs := [Value.int .u8 (c.toNat : Int)]) (fun q hq => hN _ (by simp at hq; omega)) (k := 0) (v := .int .u8 (c.toNat : Int)) rfl
      simpa using this
    · obtain ⟨q, rfl⟩ : ∃ q, j = i + 1 + q := ⟨j - (i + 1), by omega⟩
      refine cellsIn (w := W) (vs := (byteV l).drop i) (fun q hq => ?_) ?_
      · rw [hWc]
        exact isSome_setCells _ _ _ _ (fun t ht => hN _ (by simp at ht; omega)) _ (hN _ (by rw [hdl] at hq; omega))
      · rw [show i + 1 + q - 1 = i + q by omega] at hd
        rw [List.getElem?_drop]
        exact byteV_get hd)
  have hbW : Below B w W1 := by rw [hW1]; exact ((Below.refl _ _).drew).alloc (by simpa using hB) _
  subst hW1
  have hE1 : ∀ x, ((w.alloc (.cells ROW 5)).drew).cell? x = (w.drew.alloc (.cells ROW 5)).cell? x := fun x => rfl
  have hE2 : ∀ x, ((w.alloc (.cells ROW 5)).drew).frozen? x = (w.drew.alloc (.cells ROW 5)).frozen? x := fun x => rfl
  have hF1 : ∀ x, (((w.alloc (.cells ROW 5)).drew.setCells w.heap.size i [Value.int .u8 (c.toNat : Int)]).drew).cell? x = ((w.drew.alloc (.cells ROW 5)).setCells w.heap.size i [Value.int .u8 (c.toNat : Int)]).cell? x := fun x => rfl
  have hF2 : ∀ x, (((w.alloc (.cells ROW 5)).drew.setCells w.heap.size i [Value.int .u8 (c.toNat : Int)]).drew).frozen? x = ((w.drew.alloc (.cells ROW 5)).setCells w.heap.size i [Value.int .u8 (c.toNat : Int)]).frozen? x := fun x => rfl
  have hw1 : IntKind.i64.wrap ((i : Int) + 1) = (i : Int) + 1 := by rw [IntKind.wrap_i64]; omega
  have hw2 : IntKind.i64.wrap ((l.length : Int) + 1) = (l.length : Int) + 1 := by rw [IntKind.wrap_i64]; omega
  have hw3 : IntKind.i64.wrap ((l.length : Int) + 1 - (i : Int)) = (l.length : Int) + 1 - (i : Int) := by rw [IntKind.wrap_i64]; omega
  have hb1 : (0 : Int) ≤ (i : Int) + 1 := by omega
  have hin : i ≤ l.length := by omega
  have htn : ((i : Int) + 1).toNat = i + 1 := by omega
  have hb3 : (i : Int) ≤ (l.length : Int) := by omega
  clear hkk hik hold hROW hG hRl hR1 hNc h
  go_enter Try.func40, Try.ntmps40
  go_wp2_with (first
    | (at_builtin; refine Lib.wpList_append_run _ rfl _ _ _ _ rfl _ _ rfl rfl _ _ (hrz _) ?_)
    | (at_builtin; refine wpList_copy_runI _ rfl _ _ 22 22 rfl _ _ rfl rfl (hcpA _ hE1 hE2 _ _) ?_)
    | (at_builtin; refine wpList_copy_runI _ rfl _ _ 22 22 rfl _ _ rfl rfl (hcpB _ (fun _ => rfl) (fun _ => rfl) _ _ _) ?_))
  go_region_law (refine step_copy_runI rfl _ _ 22 22 rfl (.slice (some ⟨w.heap.size, i + 1, none⟩) (l.length - i) (G - (i + 1))) (.slice (some ⟨g, i, none⟩) (l.length - i) (cap - i)) (by simp [Act.eval, Act.put]) (by simp [Act.eval, Act.put]) (hcpB _ hF1 hF2 3 (G - (i + 1)) (cap - i)) ?_)
  go_wp2
  go_ret
  exact HP.out _ hF1 (below_setCells hB _ _ _ hbW).drew

set_option maxRecDepth 100000 in
theorem delete_one (g cap i B : Nat) (l : List UInt8) (w : World) (h : OwnB w g cap l) (hB : B ≤ g) (hi : i < l.length) (hl : l.length ≤ 1000) :
    Calls Try.prog 41 #[.slice (some ⟨g, 0, none⟩) l.length cap, .int .i64 i, .int .i64 ((i : Int) + 1)] w (InsPost B (l.take i ++ l.drop (i + 1)) w) := by
  have hm := h.2.1
  have hlc := h.1
  unfold maxLen at hm
  obtain ⟨i0, hi0, hz0, hzs, hzb⟩ := info_parts u8_info
  have hc63 : cap ≤ 9223372036854775807 := by omega
  obtain ⟨news, hnews⟩ : ∃ news, news = byteV (l.drop (i + 1)) := ⟨_, rfl⟩
  have hlen : news.length = l.length - (i + 1) := by rw [hnews, byteV_len, List.length_drop]
  obtain ⟨A, hA, hsrc⟩ : ∃ A : Addr, (if cap = i + 1 then some (⟨g, 0, none⟩ : Addr) else some ⟨g, i + 1, none⟩) = some A ∧ Hid (∀ t u, news[t]? = some u → w.drew.cell? (A.add t) = some u) := by
    by_cases hc : cap = i + 1
    · refine ⟨⟨g, 0, none⟩, by simp [hc], fun t u hu => ?_⟩
      have h0 : news.length = 0 := by rw [hlen]; omega
      rw [List.length_eq_zero_iff.1 h0] at hu
      simp at hu
    · refine ⟨⟨g, i + 1, none⟩, by simp [hc], fun t u hu => ?_⟩
      rw [Addr.add_lit]
      exact h.vals _ u (by rw [hnews, ← byteV_drop, List.getElem?_drop] at hu; exact hu)
  have s1 : Hid (news.length = (l.length - (i + 1)) * 1) := by rw [Nat.mul_one]; exact hlen
  have s2 : Hid (∀ u ∈ news, u.oneCell' = true) := by rw [hnews]; exact byteV_one _
  have s3 : Hid (∀ t, t < news.length → (w.drew.cell? ⟨g, 0 + i * 1 + t, none⟩).isSome = true ∧ w.drew.frozen? ⟨g, 0 + i * 1 + t, none⟩ = false) := by
    intro t ht
    rw [hlen] at ht
    rw [Nat.mul_one, Nat.zero_add]
    exact h.2.2.2 _ (by omega)
  obtain ⟨W1, hW1⟩ : ∃ W1, W1 = w.drew.setCells g (0 + i * 1) news := ⟨_, rfl⟩
  have hW1' : W1 = w.drew.setCells g i news := by rw [hW1, Nat.mul_one, Nat.zero_add]
  have hsp1 : ∀ k, k < cap → (W1.cell? ⟨g, k, none⟩).isSome = true := fun k hk => by
    rw [hW1']
    exact isSome_setCells g news i w.drew (fun j hj => (h.2.2.2 _ (by rw [hlen] at hj; omega)).1) _ (h.2.2.2 k hk).1
  have hfz1 : ∀ k, k < cap → W1.frozen? ⟨g, k, none⟩ = false := fun k hk => by
    rw [hW1', World.frozen?_setCells]
    exact (h.2.2.2 k hk).2
  have hone : l.length - (i + (l.length - (i + 1))) = 1 := by omega
  have hcl : ∀ ty, (Builtin.clear_ #[22] ty #[.slice (some ⟨g, i + (l.length - (i + 1)), none⟩) (l.length - (i + (l.length - (i + 1)))) (cap - (i + (l.length - (i + 1))))]).run Try.prog W1 = .ok (.tuple #[]) (W1.setCells g (i + (l.length - (i + 1))) (List.replicate (l.length - (i + (l.length - (i + 1)))) (.int .u8 0))) :=
    fun ty => Lib.run_clear_slice W1 _ _ ty _ Try.underlying22 Try.zeroValue5 rfl rfl g (i + (l.length - (i + 1))) _ _ (by omega) (fun t ht => hsp1 _ (by omega)) (fun t ht => hfz1 _ (by omega))
  have HP := Lib.hid (show ∀ vs, InsPost B (l.take i ++ l.drop (i + 1)) w (.returned (.slice (some ⟨g, 0, none⟩) (i + (l.length - (i + 1))) cap)) (W1.setCells g (i + (l.length - (i + 1))) vs) from fun vs => by
    refine ⟨g, cap, by rw [List.length_append, List.length_take, List.length_drop, show min i l.length = i by omega], fun j d hj => ?_, ?_⟩
    · have hjl := (List.getElem?_eq_some_iff.1 hj).1
      simp only [List.length_append, List.length_take, List.length_drop] at hjl
      rw [cellsOut (by left; omega), hW1']
      by_cases hji : j < i
      · rw [cellsOut (by left; omega)]
        rw [List.getElem?_append_left (by rw [List.length_take]; omega), List.getElem?_take_of_lt hji] at hj
        exact h.2.2.1 j d hj
      · obtain ⟨q, rfl⟩ : ∃ q, j = i + q := ⟨j - i, by omega⟩
        rw [List.getElem?_append_right (by rw [List.length_take]; omega), List.length_take, show i + q - min i l.length = q by omega] at hj
        exact cellsIn (w := w.drew) (vs := news) (fun q hq => (h.2.2.2 _ (by rw [hlen] at hq; omega)).1) (by rw [hnews]; exact byteV_get hj)
    · rw [hW1']
      exact below_setCells (by omega) _ _ _ (below_setCells hB _ _ _ (Below.refl _ _).drew))
  have hW : Hid (W1 = w.drew.setCells g (0 + i * 1) news) := hW1
  have hic : i ≤ cap := by omega
  have hjc : i + 1 ≤ cap := by omega
  have b1 : (i : Int) + 1 ≤ (l.length : Int) := by omega
  have b2 : (0 : Int) ≤ (i : Int) + 1 := by omega
  have b3 : ((i : Int) + 1).toNat = i + 1 := by omega
  have b4 : ¬ ((i : Int) = (i : Int) + 1) := by omega
  have b5 : (i : Int) ≤ (i : Int) + 1 := by omega
  have b6 : i + 1 ≤ l.length := by omega
  clear hW1 hW1' hnews hlen h hsp1 hfz1 hone
  go_enter Try.func41, Try.ntmps41
  go_wp2_with fail
  go_region_law (refine step_append_room rfl (.tmp 22) (.tmp 25) 22 rfl 5 i0 1 Try.underlying22 hi0 hzs g 0 i cap (by simp [Act.eval, Act.put]) A (l.length - (i + 1)) (cap - (i + 1)) news (by simp [Act.eval, Act.put]) s1.out hsrc.out s2.out (by omega) s3.out ?_; rw [← hW.out])
  go_wp2
  go_ret
  exact HP.out _
end Go.Proofs.Ytmdmjhnjhelccaa
