/- Contract of the program's DictStarts. -/
import Derived.Test.YtopjhdgpdcdklaaImplDrop
namespace Go.Proofs.Ytopjhdgpdcdklaa
open Go.RowKit
set_option maxHeartbeats 1600000
set_option linter.unusedSimpArgs false
set_option linter.unusedVariables false

theorem pre_shared : ∀ l p : List UInt8, Lib.hasPrefix l p = decide (shared l p = p.length)
  | l, [] => by cases l <;> simp [Lib.hasPrefix, shared]
  | [], b :: m => by simp [Lib.hasPrefix, shared]
  | a :: l, b :: m => by
    have ih := pre_shared l m
    unfold Lib.hasPrefix at ih ⊢
    rw [List.isPrefixOf_cons_cons, ih]
    by_cases e : a = b
    · subst e; simp [shared]
    · have e2 : ¬ b = a := fun h => e h.symm
      simp [shared, e, e2]
theorem pre_not_lt : ∀ p v : List UInt8, Lib.hasPrefix v p = true → ¬ v < p
  | [], v, _ => by simp
  | b :: m, [], h => by simp [Lib.hasPrefix] at h
  | b :: m, a :: l, h => by
    unfold Lib.hasPrefix at h
    rw [List.isPrefixOf_cons_cons, Bool.and_eq_true] at h
    have e : b = a := by simpa using h.1
    subst e
    have ih := pre_not_lt m l h.2
    rw [List.cons_lt_cons_iff]
    simp [ih]
theorem pre_gap : ∀ p u v : List UInt8, ¬ u < p → Lib.hasPrefix u p = false → u < v → Lib.hasPrefix v p = false
  | [], u, v, _, h, _ => by simp [Lib.hasPrefix] at h
  | b :: m, [], v, h, _, _ => absurd (List.nil_lt_cons b m) h
  | b :: m, a :: l, [], _, _, h => absurd h (by simp)
  | b :: m, a :: l, c :: r, h, hp, hlt => by
    unfold Lib.hasPrefix at hp ⊢
    rw [List.isPrefixOf_cons_cons] at hp ⊢
    rw [List.cons_lt_cons_iff] at h hlt
    have h1 : ¬ a < b := fun x => h (.inl x)
    by_cases e : b = c
    · subst e
      rcases hlt with hlt | ⟨rfl, hlt⟩
      · exact absurd hlt h1
      · have h2 : ¬ l < m := fun x => h (.inr ⟨rfl, x⟩)
        have h3 : Lib.hasPrefix l m = false := by unfold Lib.hasPrefix; simpa using hp
        have := pre_gap m l r h2 h3 hlt
        unfold Lib.hasPrefix at this
        rw [this]; simp
    · simp [e]

/-- the items that begin with s are neighbours, from the place of s on -/
theorem starts_range {d : List Item} (ha : ascD d) {s : ByteArray} {I K : Nat} {f : Bool} (hp : PlaceAt (wordsD d) s I f) (hIK : I ≤ K) (hK : K ≤ d.length)
    (hin : ∀ j x, I ≤ j → j < K → d[j]? = some x → Lib.hasPrefix x.1.data.toList s.data.toList = true) (hstop : ∀ x, d[K]? = some x → Lib.hasPrefix x.1.data.toList s.data.toList = false) :
    d.filter (beginsB s) = (d.take K).drop I := by
  have hb : ∀ x : Item, beginsB s x = Lib.hasPrefix x.1.data.toList s.data.toList := fun x => by unfold beginsB; rw [pre_shared, len_eq]
  obtain ⟨p1, p2, p3, p4⟩ := hp
  have hw : ∀ (j : Nat) (x : Item), d[j]? = some x → (wordsD d)[j]? = some x.1 := fun j (x : Item) h => by unfold wordsD; rw [List.getElem?_map, h]; rfl
  have h1 : (d.take I).filter (beginsB s) = [] := List.filter_eq_nil_iff.2 fun x hx => by
    obtain ⟨j, hj⟩ := List.mem_iff_getElem?.1 hx
    have hjl := (List.getElem?_eq_some_iff.1 hj).1
    have hj2 : j < I := by rw [List.length_take] at hjl; omega
    rw [List.getElem?_take_of_lt hj2] at hj
    have := p2 j x.1 hj2 (hw j x hj)
    rw [ltS_eq, decide_eq_true_iff] at this
    rw [hb]
    intro h
    exact pre_not_lt _ _ h this
  have h2 : ((d.take K).drop I).filter (beginsB s) = (d.take K).drop I := List.filter_eq_self.2 fun x hx => by
    obtain ⟨j, hj⟩ := List.mem_iff_getElem?.1 hx
    have hjl := (List.getElem?_eq_some_iff.1 hj).1
    rw [List.length_drop, List.length_take] at hjl
    rw [List.getElem?_drop, List.getElem?_take_of_lt (by omega)] at hj
    rw [hb]; exact hin _ x (by omega) (by omega) hj
  have h3 : (d.drop K).filter (beginsB s) = [] := List.filter_eq_nil_iff.2 fun x hx => by
    obtain ⟨j, hj⟩ := List.mem_iff_getElem?.1 hx
    rw [List.getElem?_drop] at hj
    have hjl := (List.getElem?_eq_some_iff.1 hj).1
    have hKl : K < d.length := by omega
    have hK0 : d[K]? = some (d[K]'hKl) := List.getElem?_eq_getElem hKl
    have hs := hstop _ hK0
    have hge := p3 K _ hIK (hw K _ hK0)
    rw [ltS_eq, decide_eq_false_iff_not] at hge
    rw [hb]
    by_cases e : j = 0
    · subst e
      rw [Nat.add_zero, hK0] at hj
      injection hj with hj; subst hj
      rw [hs]; simp
    · have hlt := asc_lt (ascD_iff.2 ha) (j - 1) K _ x.1 (hw K _ hK0) (by rw [show K + (j - 1) + 1 = K + j by omega]; exact hw _ x hj)
      rw [ltS_eq, decide_eq_true_iff] at hlt
      rw [pre_gap _ _ _ hge hs hlt]; simp
  have hd : d = d.take I ++ ((d.take K).drop I ++ d.drop K) := by
    have e1 : d.take I = (d.take K).take I := by rw [List.take_take, Nat.min_eq_left hIK]
    rw [← List.append_assoc, e1, List.take_append_drop, List.take_append_drop]
  conv => lhs; rw [hd]
  rw [List.filter_append, List.filter_append, h1, h2, h3]
  simp

/-- a cut of a row of texts -/
theorem strs_cut {w : World} {g n B I K : Nat} {ss : List ByteArray} (h : Strs w B (some ⟨g, 0, none⟩) n ss) (hIK : I ≤ K) (hK : K ≤ n) : Strs w B (some ⟨g, I, none⟩) (K - I) ((ss.take K).drop I) := by
  have hl := h.1
  refine ⟨by rw [List.length_drop, List.length_take]; omega, fun s hs => h.2.1 s (List.mem_of_mem_take (List.mem_of_mem_drop hs)), fun h0 => ?_⟩
  obtain ⟨b, o, e, hb, hc⟩ := h.2.2 (by omega)
  injection e with e; injection e with e1 e2; subst e1; subst e2
  refine ⟨g, I, rfl, hb, fun j s hs => ?_⟩
  rw [List.getElem?_drop] at hs
  have hjl := (List.getElem?_eq_some_iff.1 hs).1
  rw [List.length_take] at hjl
  rw [List.getElem?_take_of_lt (by omega)] at hs
  have := hc _ s hs
  rwa [Nat.zero_add] at this
theorem strs_cut2 {w : World} {g n B I K : Nat} {ss : List ByteArray} (h : Strs w B (some ⟨g, 0, none⟩) n ss) (hIK : I ≤ K) (hK : K ≤ n) : Strs w B (if n = I then some ⟨g, 0, none⟩ else some ⟨g, I, none⟩) (K - I) ((ss.take K).drop I) := by
  have h1 := strs_cut h hIK hK
  split
  · refine ⟨h1.1, h1.2.1, fun h0 => absurd h0 (by omega)⟩
  · exact h1
theorem dictStarts_impl (A : Option Addr) (n c B : Nat) (d : List Item) (s : ByteArray) (w : World) (hn : n ≤ 1048576) (h : Items w B A n d) (hB : B ≤ w.heap.size) (hs : s.size ≤ maxLen) :
    Calls Try.prog 37 #[.slice A n c, .string s] w fun e w' => ∃ (A2 : Option Addr) (m cap : Nat), e = .returned (.slice A2 m cap) ∧ OwnItems w' w.heap.size A2 m cap (startsR d s) ∧ Below w.heap.size w w' := by
  cases hv : dictB d
  · have HV := Lib.hid (dictValid_impl_is hv)
    have HE := Lib.hid (show startsR d s = [] by unfold startsR; rw [hv]; rfl)
    clear hv
    go_enter Try.func37, Try.ntmps37
    go_wp2_with fail
    refine (HV.out A n c B _ hn h hB).mono ?_
    rintro e w1 ⟨rfl, hb1⟩
    go_wp2_with fail
    go_ret
    exact ⟨none, 0, 0, rfl, by rw [HE.out]; exact OwnR.nil _ _, hb1⟩
  · cases hw : wordB s.data.toList
    · have HV := Lib.hid (dictValid_impl_is hv)
      have HW := Lib.hid (wordValid_impl_is hw)
      have HE := Lib.hid (show startsR d s = [] by unfold startsR; rw [hv, hw]; rfl)
      clear hv hw
      go_enter Try.func37, Try.ntmps37
      go_wp2_with fail
      refine (HV.out A n c B _ hn h hB).mono ?_
      rintro e w1 ⟨rfl, hb1⟩
      go_wp2_with fail
      refine (HW.out _ hs).mono ?_
      rintro e w' ⟨rfl, rfl⟩
      go_wp2_with fail
      go_ret
      exact ⟨none, 0, 0, rfl, by rw [HE.out]; exact OwnR.nil _ _, hb1⟩
    · have HV := Lib.hid (dictValid_impl_is hv)
      have HW := Lib.hid (wordValid_impl_is hw)
      have h60 : n ≤ 60 := by have := (dict_parts hv).2.1; rw [h.len] at this; exact this
      have HAD := Lib.hid ((dict_parts hv).2.2.2)
      have HA := Lib.hid (ascD_iff.2 (dict_parts hv).2.2.2)
      have HSR := Lib.hid (show startsR d s = d.filter (beginsB s) by unfold startsR; rw [hv, hw]; rfl)
      have HIW := Lib.hid (fun (e : List Item) (he : ∀ x ∈ e, x ∈ d) => itemsW_sub hv he)
      have HI64 := Lib.hid (mapD_i64 hv)
      have HL := Lib.hid h.len
      clear hv hw
      go_enter Try.func37, Try.ntmps37
      go_wp2_with fail
      refine (HV.out A n c B _ hn h hB).mono ?_
      rintro e w1 ⟨rfl, hb1⟩
      go_wp2_with fail
      refine (HW.out _ hs).mono ?_
      rintro e w' ⟨rfl, rfl⟩
      have hr := h.step hb1 hB
      have hB2 : B ≤ w1.heap.size := by have := hb1.size; omega
      go_wp2_with fail
      refine (bookOf_any A n c B d w1 h60 hr hB2).mono ?_
      rintro e w2 ⟨m, g, rfl, hm, htx, hb2⟩
      have hz2 := hb2.size
      have hz1 := hb1.size
      have hgl := htx.blockAt rfl
      have hb3 := below_step hb1 (Nat.le_refl _) hb2
      clear hb1 hb2 hr h
      go_wp2_with fail
      have htx3 := htx.below (((Below.refl w2.heap.size w2)).alloc (Nat.le_refl _) (.cells #[.map (some m), .slice (some ⟨g, 0, none⟩) n n] 64))
      refine (search_place (some ⟨g, 0, none⟩) n n _ (wordsD d) s _ HA.out (by omega) htx3.recs).mono ?_
      rintro e w4 ⟨I, f, rfl, hp, hd4⟩
      have HPL := Lib.hid hp
      have hb4 : Below (w2.heap.size + 1) (w2.alloc (.cells #[.map (some m), .slice (some ⟨g, 0, none⟩) n n] 64)) w4 := hd4.below
      have b0 : Below w2.heap.size w2 (w2.alloc (.cells #[.map (some m), .slice (some ⟨g, 0, none⟩) n n] 64)) := (Below.refl _ _).alloc (Nat.le_refl _) _
      have hb24 : Below w2.heap.size w2 w4 := below_step b0 (Nat.le_refl _) hd4.below
      have HM4 := Lib.hid (hm.below hb24)
      have HTX := Lib.hid (htx.below hb24)
      have hz4 : w2.heap.size + 1 ≤ w4.heap.size := by have := hb4.size; simpa using this
      have hbx : w4.heap[w2.heap.size]? = some (.cells #[.map (some m), .slice (some ⟨g, 0, none⟩) n n] 64) := (hb4.block w2.heap.size (by simp)).trans (heap_alloc_new w2 _)
      have HBX := Lib.hid hbx
      have hbw := below_step hb3 (Nat.le_refl _) hb24
      have HBW := Lib.hid hbw
      have hIn : I ≤ n := by have := hp.1; unfold wordsD at this; rw [List.length_map, HL.out] at this; exact this
      clear hm htx hb3 htx3 b0 hb4 hd4 hp hbx hbw hb24
      go_wp2_with fail
      go_loopw [8] (fun i wr => ∃ K : Nat, I ≤ K ∧ K ≤ n ∧ i = .int .i64 K ∧ Hid (∀ j x, I ≤ j → j < K → d[j]? = some x → Lib.hasPrefix x.1.data.toList s.data.toList = true) ∧ Drawn w4 wr) (fun i _ => n - (intOf i).toNat)
      case atStart => exact ⟨I, Nat.le_refl _, hIn, rfl, Lib.hid (fun j x h1 h2 => absurd h2 (by omega)), Drawn.refl _⟩
      case round =>
        obtain ⟨K, hIK, hKn, rfl, HIN, hdr⟩ := hrel
        have HTr := Lib.hid (HTX.out.below hdr.below)
        have hbr : wr.heap[w2.heap.size]? = some (.cells #[.map (some m), .slice (some ⟨g, 0, none⟩) n n] 64) := by obtain ⟨q, rfl⟩ := hdr; exact HBX.out
        have c0 : wr.cell? ⟨w2.heap.size, 0, none⟩ = some (.map (some m)) := by unfold World.cell?; simp [hbr]
        have c1 : wr.cell? ⟨w2.heap.size, 1, none⟩ = some (.slice (some ⟨g, 0, none⟩) n n) := by unfold World.cell?; simp [hbr]
        clear hbr
        have hzr : w4.heap.size = wr.heap.size := by obtain ⟨q, rfl⟩ := hdr; rfl
        have HSTR := Lib.hid (fun (W : World) (hW : Drawn wr W) => strs_cut2 (HTr.out.below hW.below).recs hIK hKn)
        by_cases hlt : K < n
        · have hdk : d[K]? = some (d[K]'(by rw [HL.out]; exact hlt)) := List.getElem?_eq_getElem _
          obtain ⟨x, hx⟩ : ∃ x, d[K]? = some x := ⟨_, hdk⟩
          clear hdk
          have hwx : (wordsD d)[K]? = some x.1 := by unfold wordsD; rw [List.getElem?_map, hx]; rfl
          have hcx := HTr.out.cellAt hwx
          have hk0 : (0 : Int) ≤ (K : Int) := by omega
          have hk1 : (K : Int) < (n : Int) := by omega
          cases hpx : Lib.hasPrefix x.1.data.toList s.data.toList
          · have HPX := Lib.hid hpx
            have HX := Lib.hid hx
            clear hx hwx hpx
            go_wp2_with (go_at_call 67; refine (Try.strings_HasPrefix x.1 s _).mono ?_; rintro e w9 ⟨rfl, hw9⟩; rw [hw9, HPX.out]; clear hw9)
            have HST := Lib.hid (show ∀ y, d[K]? = some y → Lib.hasPrefix y.1.data.toList s.data.toList = false from fun y hy => by have := HX.out; rw [hy] at this; injection this with this; subst this; exact HPX.out)
            have HFI := Lib.hid (show itemsW (((wordsD d).take K).drop I) (mapD d) = startsR d s by
              rw [HSR.out, starts_range HAD.out HPL.out hIK (by rw [HL.out]; exact hKn) HIN.out HST.out]
              have e : ((wordsD d).take K).drop I = wordsD ((d.take K).drop I) := by unfold wordsD; rw [List.map_drop, List.map_take]
              rw [e]
              exact HIW.out _ fun x hx => List.mem_of_mem_take (List.mem_of_mem_drop hx))
            have hi0 : (0 : Int) ≤ (I : Int) := by omega
            have hi1 : (I : Int) ≤ (K : Int) := by omega
            have hi2 : (K : Int) ≤ (n : Int) := by omega
            have HD1 := Lib.hid (show Drawn w4 wr.drew from hdr.trans (Drawn.drew1 _))
            clear HPL HIN HST
            go_region_held3 (fun w' => w'.cell? ⟨w2.heap.size, 0, none⟩ = some (.map (some m)) ∧ w'.cell? ⟨w2.heap.size, 1, none⟩ = some (.slice (some ⟨g, 0, none⟩) n n))
              (first | exact ⟨c0, c1⟩ | exact ⟨e0, e1⟩ | go_keep | assumption)
              (first
                | (go_at_call 65
                   refine (items_any (if n = I then some ⟨g, 0, none⟩ else some ⟨g, I, none⟩) (some ⟨g, 0, none⟩) (K - I) (n - I) n n wr.drew.heap.size w1.heap.size m n (((wordsD d).take K).drop I) (mapD d) wr.drew (by omega) (HSTR.out wr.drew (Drawn.drew1 wr)) (Nat.le_refl _) (HM4.out.below HD1.out.below) HI64.out).mono ?_
                   rintro e w6 ⟨g6, rfl, hown6, hb6⟩
                   have e0 := (hb6.cell (p := ⟨w2.heap.size, 0, none⟩) (show w2.heap.size < wr.heap.size by omega)).trans c0
                   have e1 := (hb6.cell (p := ⟨w2.heap.size, 1, none⟩) (show w2.heap.size < wr.heap.size by omega)).trans c1)
                | fail)
            rw [HFI.out] at hown6
            have hb5' : Below w.heap.size w wr.drew := HBW.out.trans HD1.out.below
            go_wp2_with fail
            go_ret
            exact ⟨some ⟨g6, 0, none⟩, K - I, K - I, rfl, hown6.mono (by show w.heap.size ≤ wr.heap.size; omega), below_step hb5' (Nat.le_refl _) hb6⟩
          · have HPX := Lib.hid hpx
            have HIN2 := Lib.hid (show ∀ j y, I ≤ j → j < K + 1 → d[j]? = some y → Lib.hasPrefix y.1.data.toList s.data.toList = true from fun j y h1 h2 h3 => by
              by_cases e : j = K
              · subst e; rw [hx] at h3; injection h3 with h3; subst h3; exact hpx
              · exact HIN.out j y h1 (by omega) h3)
            clear hx hwx hpx
            go_wp2_with (go_at_call 67; refine (Try.strings_HasPrefix x.1 s _).mono ?_; rintro e w9 ⟨rfl, hw9⟩; rw [hw9, HPX.out]; clear hw9)
            go_roundw
            case rel => exact ⟨K + 1, by omega, by omega, by go_num, HIN2, hdr⟩
            case measure => simp [intOf]; omega
        · obtain rfl : n = K := by omega
          have hk1 : ¬ (n : Int) < (n : Int) := by omega
          go_wp2_with fail
          have HST := Lib.hid (show ∀ y, d[n]? = some y → Lib.hasPrefix y.1.data.toList s.data.toList = false from fun y hy => by have := (List.getElem?_eq_some_iff.1 hy).1; rw [HL.out] at this; omega)
          have HFI := Lib.hid (show itemsW (((wordsD d).take n).drop I) (mapD d) = startsR d s by
            rw [HSR.out, starts_range HAD.out HPL.out hIK (by rw [HL.out]; exact hKn) HIN.out HST.out]
            have e : ((wordsD d).take n).drop I = wordsD ((d.take n).drop I) := by unfold wordsD; rw [List.map_drop, List.map_take]
            rw [e]
            exact HIW.out _ fun x hx => List.mem_of_mem_take (List.mem_of_mem_drop hx))
          have hi0 : (0 : Int) ≤ (I : Int) := by omega
          have hi1 : (I : Int) ≤ (n : Int) := by omega
          have hi2 : (n : Int) ≤ (n : Int) := by omega
          have HD1 := Lib.hid (show Drawn w4 wr.drew from hdr.trans (Drawn.drew1 _))
          clear HPL HIN HST
          by_cases hnI : n = I
          · have HS2 := Lib.hid (show ∀ W : World, Drawn wr W → Strs W W.heap.size (some ⟨g, 0, none⟩) (n - I) (((wordsD d).take n).drop I) from fun W hW => by have := HSTR.out W hW; rwa [if_pos hnI] at this)
            clear HSTR
            subst hnI
            rw [Nat.sub_self] at HS2
            go_region_held3 (fun w' => w'.cell? ⟨w2.heap.size, 0, none⟩ = some (.map (some m)) ∧ w'.cell? ⟨w2.heap.size, 1, none⟩ = some (.slice (some ⟨g, 0, none⟩) n n))
              (first | exact ⟨c0, c1⟩ | exact ⟨e0, e1⟩ | go_keep | assumption)
              (first
                | (go_at_call 65
                   refine (items_any (some ⟨g, 0, none⟩) (some ⟨g, 0, none⟩) 0 0 n n wr.drew.heap.size w1.heap.size m n (((wordsD d).take n).drop n) (mapD d) wr.drew (by omega) (HS2.out wr.drew (Drawn.drew1 wr)) (Nat.le_refl _) (HM4.out.below HD1.out.below) HI64.out).mono ?_
                   rintro e w6 ⟨g6, rfl, hown6, hb6⟩
                   have e0 := (hb6.cell (p := ⟨w2.heap.size, 0, none⟩) (show w2.heap.size < wr.heap.size by omega)).trans c0
                   have e1 := (hb6.cell (p := ⟨w2.heap.size, 1, none⟩) (show w2.heap.size < wr.heap.size by omega)).trans c1)
                | fail)
            rw [HFI.out] at hown6
            have hb5' : Below w.heap.size w wr.drew := HBW.out.trans HD1.out.below
            go_wp2_with fail
            go_ret
            exact ⟨some ⟨g6, 0, none⟩, 0, 0, rfl, hown6.mono (by show w.heap.size ≤ wr.heap.size; omega), below_step hb5' (Nat.le_refl _) hb6⟩
          · have HS2 := Lib.hid (show ∀ W : World, Drawn wr W → Strs W W.heap.size (some ⟨g, I, none⟩) (n - I) (((wordsD d).take n).drop I) from fun W hW => by have := HSTR.out W hW; rwa [if_neg hnI] at this)
            clear HSTR
            go_region_held3 (fun w' => w'.cell? ⟨w2.heap.size, 0, none⟩ = some (.map (some m)) ∧ w'.cell? ⟨w2.heap.size, 1, none⟩ = some (.slice (some ⟨g, 0, none⟩) n n))
              (first | exact ⟨c0, c1⟩ | exact ⟨e0, e1⟩ | go_keep | assumption)
              (first
                | (go_at_call 65
                   refine (items_any (some ⟨g, I, none⟩) (some ⟨g, 0, none⟩) (n - I) (n - I) n n wr.drew.heap.size w1.heap.size m n (((wordsD d).take n).drop I) (mapD d) wr.drew (by omega) (HS2.out wr.drew (Drawn.drew1 wr)) (Nat.le_refl _) (HM4.out.below HD1.out.below) HI64.out).mono ?_
                   rintro e w6 ⟨g6, rfl, hown6, hb6⟩
                   have e0 := (hb6.cell (p := ⟨w2.heap.size, 0, none⟩) (show w2.heap.size < wr.heap.size by omega)).trans c0
                   have e1 := (hb6.cell (p := ⟨w2.heap.size, 1, none⟩) (show w2.heap.size < wr.heap.size by omega)).trans c1)
                | fail)
            rw [HFI.out] at hown6
            have hb5' : Below w.heap.size w wr.drew := HBW.out.trans HD1.out.below
            go_wp2_with fail
            go_ret
            exact ⟨some ⟨g6, 0, none⟩, n - I, n - I, rfl, hown6.mono (by show w.heap.size ≤ wr.heap.size; omega), below_step hb5' (Nat.le_refl _) hb6⟩
end Go.Proofs.Ytopjhdgpdcdklaa
