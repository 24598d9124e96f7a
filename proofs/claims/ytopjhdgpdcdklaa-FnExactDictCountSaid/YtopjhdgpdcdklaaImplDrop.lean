/- Contract of the program's DictDrop. -/
import Derived.Test.YtopjhdgpdcdklaaImplDictC
import Derived.Deep.RegionHeld3
import Derived.Deep.RegionLaw
import Derived.Deep.RegionWith
namespace Go.Proofs.Ytopjhdgpdcdklaa
open Go.RowKit
set_option maxHeartbeats 1600000
set_option linter.unusedSimpArgs false
set_option linter.unusedVariables false

theorem place_found {d : List Item} (hv : dictB d = true) {s : ByteArray} {I : Nat} {f : Bool} (hp : PlaceAt (wordsD d) s I f) : (lookD d s).isSome = f ∧ (f = true → I < d.length ∧ dropL d s = d.take I ++ d.drop (I + 1)) ∧ (f = false → dropL d s = d) := by
  obtain ⟨h1, h2, h3, h4⟩ := dict_parts hv
  obtain ⟨p1, p2, p3, p4⟩ := hp
  cases f with
  | true =>
    have hi := p4.1 rfl
    unfold wordsD at hi
    rw [List.getElem?_map] at hi
    obtain ⟨x, hx, hxs⟩ := Option.map_eq_some_iff.1 hi
    have hxl := (List.getElem?_eq_some_iff.1 hx).1
    have hdec : d = d.take I ++ x :: d.drop (I + 1) := by
      conv => lhs; rw [← List.take_append_drop I d, List.drop_eq_getElem_cons hxl, (List.getElem?_eq_some_iff.1 hx).2]
    have hlook : lookD d s = some x.2 := by
      refine look_of h4 ?_
      have := List.mem_of_getElem? hx
      obtain ⟨u, c⟩ := x
      simp at hxs; subst hxs; exact this
    refine ⟨by rw [hlook]; rfl, fun _ => ⟨hxl, ?_⟩, fun h => (by cases h)⟩
    have hlt : ∀ j y, j < I → d[j]? = some y → y.1 ≠ s := fun j y hj hy => ltS_ne (p2 j y.1 hj (by unfold wordsD; rw [List.getElem?_map, hy]; rfl))
    have hgt : ∀ j y, I < j → d[j]? = some y → y.1 ≠ s := fun j y hj hy => by
      have ha := ascD_iff.2 h4
      have hi' : (wordsD d)[I]? = some s := by unfold wordsD; rw [List.getElem?_map, hx]; simp [hxs]
      have := asc_lt ha (j - I - 1) I s y.1 hi' (by rw [show I + (j - I - 1) + 1 = j by omega]; unfold wordsD; rw [List.getElem?_map, hy]; rfl)
      exact (ltS_ne this).symm
    have h5 : (d.take I).filter (fun y => decide (y.1 ≠ s)) = d.take I := List.filter_eq_self.2 fun y hy => by
      obtain ⟨j, hj⟩ := List.mem_iff_getElem?.1 hy
      have hjl := (List.getElem?_eq_some_iff.1 hj).1
      have hj2 : j < I := by rw [List.length_take] at hjl; omega
      rw [List.getElem?_take_of_lt hj2] at hj
      simpa using hlt j y hj2 hj
    have h6 : (d.drop (I + 1)).filter (fun y => decide (y.1 ≠ s)) = d.drop (I + 1) := List.filter_eq_self.2 fun y hy => by
      obtain ⟨j, hj⟩ := List.mem_iff_getElem?.1 hy
      rw [List.getElem?_drop] at hj
      simpa using hgt _ y (by omega) hj
    unfold dropL
    conv => lhs; rw [hdec]
    rw [List.filter_append, List.filter_cons, h5, h6, if_neg (by simpa using hxs)]
  | false =>
    have hno : ∀ x ∈ d, x.1 ≠ s := fun x hx e => by
      obtain ⟨j, hj⟩ := List.mem_iff_getElem?.1 hx
      have hw : (wordsD d)[j]? = some s := by unfold wordsD; rw [List.getElem?_map, hj]; simp [e]
      by_cases hji : j < I
      · have := p2 j s hji hw; rw [ltS_irrefl] at this; cases this
      · by_cases e2 : j = I
        · subst e2; have := p4.2 hw; cases this
        · have hjl := (List.getElem?_eq_some_iff.1 hw).1
          have hi : (wordsD d)[I]? = some ((wordsD d)[I]'(by omega)) := List.getElem?_eq_getElem (by omega)
          have h7 := asc_lt (ascD_iff.2 h4) (j - I - 1) I _ s hi (by rw [show I + (j - I - 1) + 1 = j by omega]; exact hw)
          have h8 := p3 I _ (Nat.le_refl _) hi
          rw [h7] at h8; cases h8
    have hl := look_none hno
    refine ⟨by rw [hl]; rfl, fun h => (by cases h), fun _ => ?_⟩
    unfold dropL
    exact List.filter_eq_self.2 fun x hx => by simpa using hno x hx
/-- the items of some words of a dictionary -/
theorem itemsW_sub {d e : List Item} (hv : dictB d = true) (he : ∀ x ∈ e, x ∈ d) : itemsW (wordsD e) (mapD d) = e := itemsW_of fun x hx => by
  rw [mapD_look (dict_parts hv).2.2.2]
  exact look_of (dict_parts hv).2.2.2 (he x hx)

/-- a map's block is no row of cells -/
theorem OwnM.not_row {w : World} {base base' m n n' cap : Nat} {f : List UInt8 → Option Int} {ss : List ByteArray} (h : OwnM w base m n f) (hr : OwnTx w base' (some ⟨m, 0, none⟩) n' cap ss) : False := by
  obtain ⟨_, D, ⟨es, clock, hb, _⟩, _⟩ := h
  rcases hr.1.2 with ⟨hv, _⟩ | ⟨g, cap', cur, hv, _, hh, _⟩
  · cases hv
  · injection hv with e; injection e with e; injection e with e
    subst e
    rw [hb] at hh; injection hh with hh; cases hh
theorem dictDrop_impl (A : Option Addr) (n c B : Nat) (d : List Item) (s : ByteArray) (w : World) (hn : n ≤ 1048576) (h : Items w B A n d) (hB : B ≤ w.heap.size) (hs : s.size ≤ maxLen) :
    Calls Try.prog 34 #[.slice A n c, .string s] w (OwnOk (dropR d s) w) := by
  cases hv : dictB d
  · have HV := Lib.hid (dictValid_impl_is hv)
    have HE := Lib.hid (show dropR d s = ([], false) by unfold dropR; rw [hv]; rfl)
    clear hv
    go_enter Try.func34, Try.ntmps34
    go_wp2_with fail
    refine (HV.out A n c B _ hn h hB).mono ?_
    rintro e w1 ⟨rfl, hb1⟩
    go_wp2_with fail
    go_ret2
    exact ⟨none, 0, 0, by rw [HE.out]; rfl, by rw [HE.out]; exact OwnR.nil _ _, hb1⟩
  · have HV := Lib.hid (dictValid_impl_is hv)
    have h60 : n ≤ 60 := by have := (dict_parts hv).2.1; rw [h.len] at this; exact this
    have HA := Lib.hid (ascD_iff.2 (dict_parts hv).2.2.2)
    have HPF := Lib.hid (fun (I : Nat) (f : Bool) (hp : PlaceAt (wordsD d) s I f) => place_found hv hp)
    have HDR := Lib.hid (show dropR d s = (dropL d s, (lookD d s).isSome) by unfold dropR; rw [if_pos hv])
    have HIW := Lib.hid (fun (e : List Item) (he : ∀ x ∈ e, x ∈ d) => itemsW_sub hv he)
    have HI64 := Lib.hid (mapD_i64 hv)
    have HL := Lib.hid h.len
    clear hv
    go_enter Try.func34, Try.ntmps34
    go_wp2_with fail
    refine (HV.out A n c B _ hn h hB).mono ?_
    rintro e w1 ⟨rfl, hb1⟩
    have hr := h.step hb1 hB
    have hB2 : B ≤ w1.heap.size := by have := hb1.size; omega
    go_wp2_with fail
    refine (bookOf_any A n c B d w1 h60 hr hB2).mono ?_
    rintro e w2 ⟨m, g, rfl, hm, htx, hb2⟩
    have hr2 := hr.step hb2 hB2
    have hz2 := hb2.size
    have hz1 := hb1.size
    have hgl := htx.blockAt rfl
    have hb3 := below_step hb1 (Nat.le_refl _) hb2
    clear hb1 hb2 hr h
    go_wp2_with fail
    have htx3 := htx.below (((Below.refl w2.heap.size w2)).alloc (Nat.le_refl _) (.cells #[.map (some m), .slice (some ⟨g, 0, none⟩) n n] 64))
    refine (search_place (some ⟨g, 0, none⟩) n n _ (wordsD d) s _ HA.out (by omega) htx3.recs).mono ?_
    rintro e w4 ⟨I, f, rfl, hp, hd4⟩
    obtain ⟨q1, q2, q3⟩ := HPF.out I f hp
    have hb4 : Below (w2.heap.size + 1) (w2.alloc (.cells #[.map (some m), .slice (some ⟨g, 0, none⟩) n n] 64)) w4 := hd4.below
    have b0 : Below w2.heap.size w2 (w2.alloc (.cells #[.map (some m), .slice (some ⟨g, 0, none⟩) n n] 64)) := (Below.refl _ _).alloc (Nat.le_refl _) _
    have hb24 : Below w2.heap.size w2 w4 := below_step b0 (Nat.le_refl _) hd4.below
    have hm4 := hm.below hb24
    have htx4 := htx.below hb24
    have hr4 := hr2.step hb24 (by omega)
    have hz4 : w2.heap.size + 1 ≤ w4.heap.size := by have := hb4.size; simpa using this
    have hbx : w4.heap[w2.heap.size]? = some (.cells #[.map (some m), .slice (some ⟨g, 0, none⟩) n n] 64) := (hb4.block w2.heap.size (by simp)).trans (heap_alloc_new w2 _)
    have hbw := below_step hb3 (Nat.le_refl _) hb24
    have hmg : m ≠ g := by
      rintro rfl
      exact hm.not_row htx
    clear hm htx hr2 hb3 htx3 b0 hb4 hd4 hp
    cases f
    · have HR2 := Lib.hid (show dropR d s = (d, false) by rw [HDR.out, q1, q3 rfl])
      clear q1 q2 q3
      go_wp2_with fail
      refine (cloneItems_any A n c B d w4 hn hr4 (by omega)).mono ?_
      rintro e w5 ⟨A2, cap, rfl, hown, hb5⟩
      go_wp2_with fail
      go_ret2
      exact ⟨A2, n, cap, by rw [HR2.out]; rfl, by rw [HR2.out]; exact hown.mono hbw.size, below_step hbw (Nat.le_refl _) hb5⟩
    · obtain ⟨hI, hdrop⟩ := q2 rfl
      have HR2 := Lib.hid (show dropR d s = (dropL d s, true) by rw [HDR.out, q1])
      have HDP := Lib.hid hdrop
      rw [HL.out] at hI
      clear q1 q2 q3 hdrop
      have hI0 : (0 : Int) ≤ (I : Int) := by omega
      have hw1 := IntWalk.i64_in ((I : Int) + 1) (by omega)
      have hws : (wordsD d).take I ++ (wordsD d).drop (I + 1) = wordsD (dropL d s) := by rw [HDP.out]; unfold wordsD; rw [List.map_append, List.map_take, List.map_drop]
      have HIT := Lib.hid (show itemsW ((wordsD d).take I ++ (wordsD d).drop (I + 1)) (mapD d) = dropL d s by rw [hws]; exact HIW.out _ fun x hx => (List.mem_filter.1 hx).1)
      have c0 : w4.cell? ⟨w2.heap.size, 0, none⟩ = some (.map (some m)) := by unfold World.cell?; simp [hbx]
      have c1 : w4.cell? ⟨w2.heap.size, 1, none⟩ = some (.slice (some ⟨g, 0, none⟩) n n) := by unfold World.cell?; simp [hbx]
      have HTX := Lib.hid (htx4.below (Drawn.below (Drawn.drew1 w4)))
      have HM4 := Lib.hid hm4
      clear hws hbx htx4 hm4 hr4
      go_wp2_with fail
      go_region_held3 (fun w' => w'.cell? ⟨w2.heap.size, 0, none⟩ = some (.map (some m)) ∧ w'.cell? ⟨w2.heap.size, 1, none⟩ = some (.slice (some ⟨g, 0, none⟩) n n))
        (first | exact ⟨c0, c1⟩ | exact ⟨d0, d1⟩ | exact ⟨e0, e1⟩ | go_keep | assumption)
        (first
          | (go_at_call 66
             refine (delete_text g n n w1.heap.size I (wordsD d) _ HTX.out hI).mono ?_
             rintro e w5 ⟨rfl, hst5, hk5, hz5, hb5⟩
             replace hz5 : w5.heap.size = w4.heap.size := hz5
             have d0 : w5.cell? ⟨w2.heap.size, 0, none⟩ = some (.map (some m)) := by rw [← c0]; unfold World.cell?; simp only [hk5 w2.heap.size (by omega)]; rfl
             have d1 : w5.cell? ⟨w2.heap.size, 1, none⟩ = some (.slice (some ⟨g, 0, none⟩) n n) := by rw [← c1]; unfold World.cell?; simp only [hk5 w2.heap.size (by omega)]; rfl
             have hm5 : OwnM w5 w1.heap.size m n (mapD d) := HM4.out.block (hk5 m hmg))
          | (go_at_call 65
             refine (items_any (some ⟨g, 0, none⟩) (some ⟨g, 0, none⟩) (n - 1) n n n w5.heap.size w1.heap.size m n _ (mapD d) w5 (by omega) hst5 (Nat.le_refl _) hm5 HI64.out).mono ?_
             rintro e w6 ⟨g6, rfl, hown6, hb6⟩
             have e0 := (hb6.cell (p := ⟨w2.heap.size, 0, none⟩) (show w2.heap.size < w5.heap.size by omega)).trans d0
             have e1 := (hb6.cell (p := ⟨w2.heap.size, 1, none⟩) (show w2.heap.size < w5.heap.size by omega)).trans d1)
          | fail)
      all_goals
        rw [HIT.out] at hown6
        have hb5' : Below w.heap.size w w5 := hbw.drew.trans (hb5.mono (by omega))
        go_wp2_with fail
        go_ret2
        exact ⟨some ⟨g6, 0, none⟩, n - 1, n - 1, by rw [HR2.out]; rfl, by rw [HR2.out]; exact hown6.mono (by omega), below_step hb5' (by omega) (hb6.mono (by omega))⟩
end Go.Proofs.Ytopjhdgpdcdklaa
