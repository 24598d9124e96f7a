/- Contract of the program's DictAdd. -/
import Derived.Test.YtopjhdgpdcdklaaImplStarts
import Derived.Test.YtopjhdgpdcdklaaDictSpec3
namespace Go.Proofs.Ytopjhdgpdcdklaa
open Go.RowKit
set_option maxHeartbeats 1600000
set_option linter.unusedSimpArgs false
set_option linter.unusedVariables false

/-- the items of the words behind an addition, with the map behind it -/
theorem itemsW_add {d : List Item} (ha : ascD d) (s : ByteArray) (m : Int) : itemsW (wordsD (addL d s m)) (fun t => if t = s.data.toList then some ((lookD d s).getD 0 + m) else mapD d t) = addL d s m := itemsW_of fun x hx => by
  have h1 := look_of (asc_add ha s m) hx
  rw [look_add ha] at h1
  by_cases e : s = x.1
  · rw [if_pos e] at h1
    rw [if_pos (by rw [e]), h1]
  · rw [if_neg e] at h1
    rw [if_neg (fun h => e (bytes_ext h.symm)), mapD_look ha, h1]
theorem words_known {d : List Item} (ha : ascD d) {s : ByteArray} {x m : Int} (hl : lookD d s = some x) : wordsD (addL d s m) = wordsD d := by
  obtain ⟨k, hk⟩ := List.mem_iff_getElem?.1 (look_mem hl)
  rw [add_set ha (m := m) hk]
  unfold wordsD
  rw [List.map_set]
  apply List.ext_getElem?
  intro j
  by_cases e : k = j
  · subst e
    rw [List.getElem?_set_self (by rw [List.length_map]; exact (List.getElem?_eq_some_iff.1 hk).1), List.getElem?_map, hk]; rfl
  · rw [List.getElem?_set_ne e]
theorem words_new {d : List Item} (ha : ascD d) {s : ByteArray} {m : Int} {I : Nat} {f : Bool} (hp : PlaceAt (wordsD d) s I f) (hl : lookD d s = none) : wordsD (addL d s m) = (wordsD d).take I ++ s :: (wordsD d).drop I := by
  obtain ⟨p1, p2, p3, p4⟩ := hp
  have hw : ∀ (j : Nat) (x : Item), d[j]? = some x → (wordsD d)[j]? = some x.1 := fun j (x : Item) h => by unfold wordsD; rw [List.getElem?_map, h]; rfl
  rw [add_ins ha I (by unfold wordsD at p1; rw [List.length_map] at p1; exact p1) (fun j x hj hx => p2 j x.1 hj (hw j x hx)) (fun x hx => p3 I x.1 (Nat.le_refl _) (hw I x hx)) hl]
  unfold wordsD
  rw [List.map_append, List.map_cons, List.map_take, List.map_drop]

theorem book_kept {w2 w5 : World} {mb g n : Nat} {T : TypeId} (hmb : mb < w2.heap.size) (hg : (w2.alloc (.cells #[.map (some mb), .slice (some ⟨g, 0, none⟩) n n] T)).grownBy w5 (some mb)) :
    w5.heap[w2.heap.size]? = some (.cells #[.map (some mb), .slice (some ⟨g, 0, none⟩) n n] T) := (hg.block _ (by simp) (by simp; omega)).trans (heap_alloc_new w2 _)
theorem book_c0 {W : World} {b mb g n : Nat} {T : TypeId} (h : W.heap[b]? = some (.cells #[.map (some mb), .slice (some ⟨g, 0, none⟩) n n] T)) : W.cell? ⟨b, 0, none⟩ = some (.map (some mb)) ∧ W.cell? ⟨b, 1, none⟩ = some (.slice (some ⟨g, 0, none⟩) n n) ∧ W.frozen? ⟨b, 1, none⟩ = false := by
  refine ⟨?_, ?_, ?_⟩
  · unfold World.cell?; simp [h]
  · unfold World.cell?; simp [h]
  · unfold World.frozen?; simp [h]
theorem addF_i64 {d : List Item} {s : ByteArray} {y : Int} (h : ∀ t, I64 ((mapD d t).getD 0)) (hy : I64 y) (t : List UInt8) : I64 (((fun t => if t = s.data.toList then some y else mapD d t) t).getD 0) := by
  dsimp only
  split
  · exact hy
  · exact h t
theorem strs_set {w : World} {B g n : Nat} {ss : List ByteArray} (h : Strs w B (some ⟨g, 0, none⟩) n ss) {p : Addr} (v : Value) (hne : g ≠ p.block) : Strs (w.setCell p v) B (some ⟨g, 0, none⟩) n ss :=
  ⟨h.1, h.2.1, fun hn => by
    obtain ⟨b, o, e, hb, hc⟩ := h.2.2 hn
    injection e with e; injection e with e1 e2; subst e1; subst e2
    exact ⟨g, 0, rfl, hb, fun j s hs => (World.cell?_setCell_other _ _ _ _ (by rintro rfl; exact hne rfl)).trans (hc j s hs)⟩⟩
theorem dictAdd_impl (A : Option Addr) (n c B : Nat) (d : List Item) (s : ByteArray) (m : Int) (w : World) (hn : n ≤ 1048576) (h : Items w B A n d) (hB : B ≤ w.heap.size) (hs : s.size ≤ maxLen) (hm : I64 m) :
    Calls Try.prog 30 #[.slice A n c, .string s, .int .i64 m] w (OwnOk (addR d s m) w) := by
  have HL := Lib.hid h.len
  cases hv : dictB d
  · have HV := Lib.hid (dictValid_impl_is hv)
    have HR := Lib.hid (addR_no (d := d) (s := s) (m := m) (by rw [hv]; rfl))
    clear hv
    go_enter Try.func30, Try.ntmps30
    go_wp2_with fail
    refine (HV.out _ n c B _ hn h hB).mono ?_
    rintro e w1 ⟨rfl, hb1⟩
    go_wp2_with fail
    go_ret2
    exact ⟨none, 0, 0, by rw [HR.out]; rfl, by rw [HR.out]; exact OwnR.nil _ _, hb1⟩
  · have HV := Lib.hid (dictValid_impl_is hv)
    cases he : s.toList.isEmpty
    · cases hw : wordB s.data.toList
      · have HW := Lib.hid (wordValid_impl_is hw)
        have HR := Lib.hid (addR_no (d := d) (s := s) (m := m) (by rw [hv]; simp [filledS, hw]))
        clear hv hw
        go_enter Try.func30, Try.ntmps30
        go_wp2_with fail
        refine (HV.out _ n c B _ hn h hB).mono ?_
        rintro e w1 ⟨rfl, hb1⟩
        go_wp2_with fail
        refine (HW.out _ hs).mono ?_
        rintro e w' ⟨rfl, rfl⟩
        go_wp2_with fail
        go_ret2
        exact ⟨none, 0, 0, by rw [HR.out]; rfl, by rw [HR.out]; exact OwnR.nil _ _, hb1⟩
      · have HW := Lib.hid (wordValid_impl_is hw)
        cases hcm : countB m
        · have HC := Lib.hid (isCount_is hcm)
          have HR := Lib.hid (addR_no (d := d) (s := s) (m := m) (by rw [hcm]; simp))
          clear hv hw hcm
          go_enter Try.func30, Try.ntmps30
          go_wp2_with fail
          refine (HV.out _ n c B _ hn h hB).mono ?_
          rintro e w1 ⟨rfl, hb1⟩
          go_wp2_with fail
          refine (HW.out _ hs).mono ?_
          rintro e w' ⟨rfl, rfl⟩
          go_wp2_with fail
          refine (HC.out _).mono ?_
          rintro e w' ⟨rfl, rfl⟩
          go_wp2_with fail
          go_ret2
          exact ⟨none, 0, 0, by rw [HR.out]; rfl, by rw [HR.out]; exact OwnR.nil _ _, hb1⟩
        · have HC := Lib.hid (isCount_is hcm)
          have hfl : filledS s = true := by simp [filledS, hw, he]
          have hy := addR_yes (d := d) (s := s) (m := m) (by rw [hv, hfl, hcm]; rfl)
          have hm2 : 1 ≤ m ∧ m ≤ 1000000 := by simpa [countB] using hcm
          obtain ⟨m1, m2⟩ := hm2
          have hpt := dict_parts hv
          have h60 := hpt.2.1
          rw [HL.out] at h60
          have HAD := Lib.hid hpt.2.2.2
          have HA := Lib.hid (ascD_iff.2 hpt.2.2.2)
          have HI64 := Lib.hid (mapD_i64 hv)
          have HML := Lib.hid (mapD_look hpt.2.2.2 s)
          have HIW := Lib.hid (itemsW_add hpt.2.2.2 s m)
          have hl2 : ∀ x, lookD d s = some x → 1 ≤ x ∧ x ≤ 1000000 := fun x hl => by simpa [countB] using hpt.1 _ (look_mem hl)
          cases hl : lookD d s with
          | some x =>
            rw [hl] at HML HIW
            obtain ⟨x1, x2⟩ := hl2 x hl
            have hxw := IntWalk.i64_in (x + m) (by omega)
            by_cases hbig : 1000000 < x + m
            · have HR := Lib.hid (show addR d s m = (d, false) by rw [hy, if_neg (by simp [addOkB, hl]; omega)])
              clear hv hw hl hcm hpt hy hl2
              go_enter Try.func30, Try.ntmps30
              go_wp2_with fail
              refine (HV.out _ n c B _ hn h hB).mono ?_
              rintro e w1 ⟨rfl, hb1⟩
              go_wp2_with fail
              refine (HW.out _ hs).mono ?_
              rintro e w' ⟨rfl, rfl⟩
              go_wp2_with fail
              refine (HC.out _).mono ?_
              rintro e w' ⟨rfl, rfl⟩
              have hr := h.step hb1 hB
              have hB2 : B ≤ w1.heap.size := by have := hb1.size; omega
              go_wp2_with fail
              refine (bookOf_any A n c B d w1 h60 hr hB2).mono ?_
              rintro e w2 ⟨mb, g, rfl, hmm, htx, hb2⟩
              have hz2 := hb2.size
              have hz1 := hb1.size
              have hgl := htx.blockAt rfl
              have hml := hmm.lt
              have hb3 := below_step hb1 (Nat.le_refl _) hb2
              have hr2 := hr.step hb2 hB2
              have hmg : mb ≠ g := by
                rintro rfl
                exact hmm.not_row htx
              clear hb1 hb2 hr h
              have HM := Lib.hid (hmm.alloc (.cells #[.map (some mb), .slice (some ⟨g, 0, none⟩) n n] 64))
              have HTX := Lib.hid (htx.below ((Below.refl w2.heap.size w2).alloc (Nat.le_refl _) (.cells #[.map (some mb), .slice (some ⟨g, 0, none⟩) n n] 64)))
              have HB := Lib.hid (hb3.alloc hb3.size (.cells #[.map (some mb), .slice (some ⟨g, 0, none⟩) n n] 64))
              have HRI := Lib.hid (hr2.step ((Below.refl w2.heap.size w2).alloc (Nat.le_refl _) (.cells #[.map (some mb), .slice (some ⟨g, 0, none⟩) n n] 64)) (by omega))
              have hB3 : B ≤ (w2.alloc (.cells #[.map (some mb), .slice (some ⟨g, 0, none⟩) n n] 64)).heap.size := by simp; omega
              clear hmm htx hb3 hr2
              go_wp2_with (at_lookup; refine wp_look_ok_m rfl _ _ rfl w1.heap.size mb n (mapD d) rfl HM.out s rfl hs ?_; rw [HML.out])
              refine (cloneItems_any A n c B d _ hn HRI.out hB3).mono ?_
              rintro e w5 ⟨A2, cap, rfl, hown, hb5⟩
              go_wp2_with fail
              go_ret2
              exact ⟨A2, n, cap, by rw [HR.out]; rfl, by rw [HR.out]; exact hown.mono HB.out.size, below_step HB.out (Nat.le_refl _) hb5⟩
            · have HR := Lib.hid (show addR d s m = (addL d s m, true) by rw [hy, if_pos (by simp [addOkB, hl]; omega)])
              have HWK := Lib.hid (words_known hpt.2.2.2 (m := m) hl)
              clear hv hw hl hcm hpt hy hl2
              go_enter Try.func30, Try.ntmps30
              go_wp2_with fail
              refine (HV.out _ n c B _ hn h hB).mono ?_
              rintro e w1 ⟨rfl, hb1⟩
              go_wp2_with fail
              refine (HW.out _ hs).mono ?_
              rintro e w' ⟨rfl, rfl⟩
              go_wp2_with fail
              refine (HC.out _).mono ?_
              rintro e w' ⟨rfl, rfl⟩
              have hr := h.step hb1 hB
              have hB2 : B ≤ w1.heap.size := by have := hb1.size; omega
              go_wp2_with fail
              refine (bookOf_any A n c B d w1 h60 hr hB2).mono ?_
              rintro e w2 ⟨mb, g, rfl, hmm, htx, hb2⟩
              have hz2 := hb2.size
              have hz1 := hb1.size
              have hgl := htx.blockAt rfl
              have hml := hmm.lt
              have hb3 := below_step hb1 (Nat.le_refl _) hb2
              have hr2 := hr.step hb2 hB2
              have hmg : mb ≠ g := by
                rintro rfl
                exact hmm.not_row htx
              clear hb1 hb2 hr h
              have HM := Lib.hid (hmm.alloc (.cells #[.map (some mb), .slice (some ⟨g, 0, none⟩) n n] 64))
              have HTX := Lib.hid (htx.below ((Below.refl w2.heap.size w2).alloc (Nat.le_refl _) (.cells #[.map (some mb), .slice (some ⟨g, 0, none⟩) n n] 64)))
              have HB := Lib.hid (hb3.alloc hb3.size (.cells #[.map (some mb), .slice (some ⟨g, 0, none⟩) n n] 64))
              have HRI := Lib.hid (hr2.step ((Below.refl w2.heap.size w2).alloc (Nat.le_refl _) (.cells #[.map (some mb), .slice (some ⟨g, 0, none⟩) n n] 64)) (by omega))
              have hB3 : B ≤ (w2.alloc (.cells #[.map (some mb), .slice (some ⟨g, 0, none⟩) n n] 64)).heap.size := by simp; omega
              clear hmm htx hb3 hr2
              have HY := Lib.hid (show I64 (x + m) by unfold I64; omega)
              have HIW2 := Lib.hid (show itemsW (wordsD d) (fun t => if t = s.data.toList then some (x + m) else mapD d t) = addL d s m from by have := HIW.out; rwa [HWK.out] at this)
              go_wp2_with (first
                | (at_lookup; refine wp_look_ok_m rfl _ _ rfl w1.heap.size mb n (mapD d) rfl HM.out s rfl hs ?_; rw [HML.out])
                | (at_mapUpdate; refine wp_put_m rfl _ _ _ rfl w1.heap.size mb n (mapD d) rfl HM.out (by unfold maxLen; omega) s (x + m) rfl hs rfl HY.out.wf ?_; intro w5 hm5 hg5; obtain ⟨c0, c1, f1⟩ := book_c0 (book_kept hml.2 hg5)))
              have hst := (HTX.out.grown hg5 (by simp [Value.ownBlock]; omega)).recs
              have hb5 : Below w.heap.size w w5 := HB.out.grown hg5 HB.out.size (fun j hj => by injection hj with hj; omega)
              refine (items_any (some ⟨g, 0, none⟩) (some ⟨g, 0, none⟩) n n n n w5.heap.size w1.heap.size mb (n + 1) (wordsD d) _ w5 (by omega) hst (Nat.le_refl _) hm5 (addF_i64 HI64.out HY.out)).mono ?_
              rintro e w6 ⟨g6, rfl, hown6, hb6⟩
              rw [HIW2.out] at hown6
              go_wp2_with fail
              go_ret2
              exact ⟨some ⟨g6, 0, none⟩, n, n, by rw [HR.out]; rfl, by rw [HR.out]; exact hown6.mono hb5.size, below_step hb5 (Nat.le_refl _) hb6⟩
          | none =>
            rw [hl] at HML HIW
            have hxw := IntWalk.i64_in m (by omega)
            have hbig : ¬ (1000000 : Int) < m := by omega
            by_cases hfull : n = 60
            · have HR := Lib.hid (show addR d s m = (d, false) by rw [hy, if_neg (by simp [addOkB, hl, HL.out]; omega)])
              subst hfull
              clear hv hw hl hcm hpt hy hl2
              go_enter Try.func30, Try.ntmps30
              go_wp2_with fail
              refine (HV.out _ 60 c B _ hn h hB).mono ?_
              rintro e w1 ⟨rfl, hb1⟩
              go_wp2_with fail
              refine (HW.out _ hs).mono ?_
              rintro e w' ⟨rfl, rfl⟩
              go_wp2_with fail
              refine (HC.out _).mono ?_
              rintro e w' ⟨rfl, rfl⟩
              have hr := h.step hb1 hB
              have hB2 : B ≤ w1.heap.size := by have := hb1.size; omega
              go_wp2_with fail
              refine (bookOf_any A 60 c B d w1 h60 hr hB2).mono ?_
              rintro e w2 ⟨mb, g, rfl, hmm, htx, hb2⟩
              have hz2 := hb2.size
              have hz1 := hb1.size
              have hgl := htx.blockAt rfl
              have hml := hmm.lt
              have hb3 := below_step hb1 (Nat.le_refl _) hb2
              have hr2 := hr.step hb2 hB2
              have hmg : mb ≠ g := by
                rintro rfl
                exact hmm.not_row htx
              clear hb1 hb2 hr h
              have HM := Lib.hid (hmm.alloc (.cells #[.map (some mb), .slice (some ⟨g, 0, none⟩) 60 60] 64))
              have HTX := Lib.hid (htx.below ((Below.refl w2.heap.size w2).alloc (Nat.le_refl _) (.cells #[.map (some mb), .slice (some ⟨g, 0, none⟩) 60 60] 64)))
              have HB := Lib.hid (hb3.alloc hb3.size (.cells #[.map (some mb), .slice (some ⟨g, 0, none⟩) 60 60] 64))
              have HRI := Lib.hid (hr2.step ((Below.refl w2.heap.size w2).alloc (Nat.le_refl _) (.cells #[.map (some mb), .slice (some ⟨g, 0, none⟩) 60 60] 64)) (by omega))
              have hB3 : B ≤ (w2.alloc (.cells #[.map (some mb), .slice (some ⟨g, 0, none⟩) 60 60] 64)).heap.size := by simp; omega
              clear hmm htx hb3 hr2
              go_wp2_with (at_lookup; refine wp_look_ok_m rfl _ _ rfl w1.heap.size mb 60 (mapD d) rfl HM.out s rfl hs ?_; rw [HML.out])
              refine (cloneItems_any A 60 c B d _ hn HRI.out hB3).mono ?_
              rintro e w5 ⟨A2, cap, rfl, hown, hb5⟩
              go_wp2_with fail
              go_ret2
              exact ⟨A2, 60, cap, by rw [HR.out]; rfl, by rw [HR.out]; exact hown.mono HB.out.size, below_step HB.out (Nat.le_refl _) hb5⟩
            · have hnb : ((n : Int) == 60) = false := by simp; omega
              have hdm : decide ((1000000 : Int) < m) = false := by simp; omega
              have HR := Lib.hid (show addR d s m = (addL d s m, true) by rw [hy, if_pos (by simp [addOkB, hl, HL.out]; omega)])
              have HWN := Lib.hid (fun (I : Nat) (f : Bool) (hp : PlaceAt (wordsD d) s I f) => words_new hpt.2.2.2 (m := m) hp hl)
              have HNF := Lib.hid (fun (I : Nat) (f : Bool) (hp : PlaceAt (wordsD d) s I f) => ((place_found hv hp).1.symm.trans (by rw [hl]; rfl) : f = false))
              have HY := Lib.hid (show I64 m from hm)
              clear hv hw hl hcm hpt hy hl2
              go_enter Try.func30, Try.ntmps30
              go_wp2_with fail
              refine (HV.out _ n c B _ hn h hB).mono ?_
              rintro e w1 ⟨rfl, hb1⟩
              go_wp2_with fail
              refine (HW.out _ hs).mono ?_
              rintro e w' ⟨rfl, rfl⟩
              go_wp2_with fail
              refine (HC.out _).mono ?_
              rintro e w' ⟨rfl, rfl⟩
              have hr := h.step hb1 hB
              have hB2 : B ≤ w1.heap.size := by have := hb1.size; omega
              go_wp2_with fail
              refine (bookOf_any A n c B d w1 h60 hr hB2).mono ?_
              rintro e w2 ⟨mb, g, rfl, hmm, htx, hb2⟩
              have hz2 := hb2.size
              have hz1 := hb1.size
              have hgl := htx.blockAt rfl
              have hml := hmm.lt
              have hb3 := below_step hb1 (Nat.le_refl _) hb2
              have hr2 := hr.step hb2 hB2
              have hmg : mb ≠ g := by
                rintro rfl
                exact hmm.not_row htx
              clear hb1 hb2 hr h
              have HM := Lib.hid (hmm.alloc (.cells #[.map (some mb), .slice (some ⟨g, 0, none⟩) n n] 64))
              have HTX := Lib.hid (htx.below ((Below.refl w2.heap.size w2).alloc (Nat.le_refl _) (.cells #[.map (some mb), .slice (some ⟨g, 0, none⟩) n n] 64)))
              have HB := Lib.hid (hb3.alloc hb3.size (.cells #[.map (some mb), .slice (some ⟨g, 0, none⟩) n n] 64))
              have HRI := Lib.hid (hr2.step ((Below.refl w2.heap.size w2).alloc (Nat.le_refl _) (.cells #[.map (some mb), .slice (some ⟨g, 0, none⟩) n n] 64)) (by omega))
              have hB3 : B ≤ (w2.alloc (.cells #[.map (some mb), .slice (some ⟨g, 0, none⟩) n n] 64)).heap.size := by simp; omega
              clear hmm htx hb3 hr2
              go_wp2_with (first
                | (at_lookup; refine wp_look_ok_m rfl _ _ rfl w1.heap.size mb n (mapD d) rfl HM.out s rfl hs ?_; rw [HML.out])
                | (at_mapUpdate; refine wp_put_m rfl _ _ _ rfl w1.heap.size mb n (mapD d) rfl HM.out (by unfold maxLen; omega) s m rfl hs rfl HY.out.wf ?_; intro w5 hm5 hg5; obtain ⟨c0, c1, f1⟩ := book_c0 (book_kept hml.2 hg5)))
              have htx5 := HTX.out.grown hg5 (by simp [Value.ownBlock]; omega)
              have hb5 : Below w.heap.size w w5 := HB.out.grown hg5 HB.out.size (fun j hj => by injection hj with hj; omega)
              have hz5 : w2.heap.size + 1 ≤ w5.heap.size := by have := hg5.size; simpa using this
              refine (search_place (some ⟨g, 0, none⟩) n n _ (wordsD d) s w5 HA.out (by omega) htx5.recs).mono ?_
              rintro e w6 ⟨I, f, rfl, hp, hd6⟩
              obtain rfl := HNF.out I f hp
              have hws := HWN.out I false hp
              have hI : I ≤ n := by have := hp.1; unfold wordsD at this; rw [List.length_map, HL.out] at this; exact this
              have hb56 : Below w5.heap.size w5 w6 := hd6.below
              have htx6 := htx5.below hb56
              have hm6 := hm5.below hb56
              have hb6 := below_step hb5 (Nat.le_refl _) hb56
              have hz6 : w2.heap.size + 1 ≤ w6.heap.size := by have := hb56.size; omega
              have c0 : w6.cell? ⟨w2.heap.size, 0, none⟩ = some (.map (some mb)) := by obtain ⟨q, rfl⟩ := hd6; exact c0
              have c1 : w6.cell? ⟨w2.heap.size, 1, none⟩ = some (.slice (some ⟨g, 0, none⟩) n n) := by obtain ⟨q, rfl⟩ := hd6; exact c1
              have f1 : w6.frozen? ⟨w2.heap.size, 1, none⟩ = false := by obtain ⟨q, rfl⟩ := hd6; exact f1
              have HIW2 := Lib.hid (show itemsW ((wordsD d).take I ++ s :: (wordsD d).drop I) (fun t => if t = s.data.toList then some m else mapD d t) = addL d s m from by
                have := HIW.out
                rw [hws] at this
                simpa using this)
              clear htx5 hm5 hb5 hp hws hd6 hb56 hg5
              go_wp2_with fail
              have hb7a : Below w6.heap.size w6 (w6.alloc (.cells #[.string s] 9)) := (Below.refl _ _).alloc (Nat.le_refl _) _
              refine (insert_text g n w1.heap.size I w6.heap.size (wordsD d) s _ (htx6.below hb7a) hI (by omega) hs (World.cell?_alloc_new _ _ _ _)).mono ?_
              rintro e w7 ⟨cap, rfl, hst7, hb7⟩
              have hz7 : w6.heap.size + 1 ≤ w7.heap.size := by have := hb7.size; simpa using this
              have k0 : w7.cell? ⟨w2.heap.size, 0, none⟩ = some (.map (some mb)) := (hb7.cell (p := ⟨w2.heap.size, 0, none⟩) (by simp; omega)).trans ((hb7a.cell (p := ⟨w2.heap.size, 0, none⟩) (show w2.heap.size < w6.heap.size by omega)).trans c0)
              have k1 : w7.cell? ⟨w2.heap.size, 1, none⟩ = some (.slice (some ⟨g, 0, none⟩) n n) := (hb7.cell (p := ⟨w2.heap.size, 1, none⟩) (by simp; omega)).trans ((hb7a.cell (p := ⟨w2.heap.size, 1, none⟩) (show w2.heap.size < w6.heap.size by omega)).trans c1)
              have hk : w7.heap[w2.heap.size]? = w6.heap[w2.heap.size]? := (hb7.block _ (by simp; omega)).trans (hb7a.block _ (by omega))
              have l1 : w7.frozen? ⟨w2.heap.size, 1, none⟩ = false := by rw [← f1]; unfold World.frozen?; simp only [hk]
              have hm7 := (hm6.below hb7a).below hb7
              have hbw7 := below_step (below_step hb6 (Nat.le_refl _) hb7a) (Nat.le_refl _) hb7
              clear c0 c1 f1 hk htx6 hm6 hb6 hb7a hb7
              go_wp2_with fail
              rw [show (w6.alloc (.cells #[.string s] 9)).heap.size = w6.heap.size + 1 by simp] at hst7
              have hst8 := strs_set hst7 (p := ⟨w2.heap.size, 1, none⟩) (.slice (some ⟨w6.heap.size + 1, 0, none⟩) (n + 1) cap) (by simp; omega)
              have hm8 := hm7.setCell (p := ⟨w2.heap.size, 1, none⟩) (.slice (some ⟨w6.heap.size + 1, 0, none⟩) (n + 1) cap) (by simp; omega)
              have hb8 : Below w.heap.size w (w7.setCell ⟨w2.heap.size, 1, none⟩ (.slice (some ⟨w6.heap.size + 1, 0, none⟩) (n + 1) cap)) := hbw7.setCell (by simp; omega) _
              have hs8 : (w7.setCell ⟨w2.heap.size, 1, none⟩ (.slice (some ⟨w6.heap.size + 1, 0, none⟩) (n + 1) cap)).heap.size = w7.heap.size := by simp [World.setCell]
              refine (items_any (some ⟨w6.heap.size + 1, 0, none⟩) (some ⟨w6.heap.size + 1, 0, none⟩) (n + 1) cap (n + 1) cap w7.heap.size w1.heap.size mb (n + 1) _ _ _ (by omega) hst8 (by rw [hs8]; exact Nat.le_refl _) hm8 (addF_i64 HI64.out HY.out)).mono ?_
              rintro e w9 ⟨g9, rfl, hown9, hb9⟩
              rw [HIW2.out] at hown9
              go_wp2_with fail
              go_ret2
              exact ⟨some ⟨g9, 0, none⟩, n + 1, n + 1, by rw [HR.out]; rfl, by rw [HR.out]; exact hown9.mono hb8.size, below_step hb8 (Nat.le_refl _) hb9⟩
    · have HR := Lib.hid (addR_no (d := d) (s := s) (m := m) (by rw [hv]; simp [filledS, he]))
      clear hv
      go_enter Try.func30, Try.ntmps30
      go_wp2_with fail
      refine (HV.out _ n c B _ hn h hB).mono ?_
      rintro e w1 ⟨rfl, hb1⟩
      go_wp2_with fail
      go_ret2
      exact ⟨none, 0, 0, by rw [HR.out]; rfl, by rw [HR.out]; exact OwnR.nil _ _, hb1⟩
end Go.Proofs.Ytopjhdgpdcdklaa
