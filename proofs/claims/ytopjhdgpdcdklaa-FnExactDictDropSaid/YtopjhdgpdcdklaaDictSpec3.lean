/- Contract of the model's DictAdd. -/
import Derived.Test.YtopjhdgpdcdklaaDictSpec2
import Derived.Deep.RegionHeld3
import Derived.Deep.RegionLaw
import Derived.Deep.RegionWith
namespace Go.Proofs.Ytopjhdgpdcdklaa
open Go.RowKit
set_option maxHeartbeats 3200000
set_option linter.unusedSimpArgs false
set_option linter.unusedVariables false

theorem addR_no {d : List Item} {s : ByteArray} {m : Int} (h : (dictB d && filledS s && countB m) = false) : addR d s m = ([], false) := by unfold addR; rw [h]; rfl
theorem addR_yes {d : List Item} {s : ByteArray} {m : Int} (h : (dictB d && filledS s && countB m) = true) : addR d s m = if addOkB d s m = true then (addL d s m, true) else (d, false) := by unfold addR; rw [if_pos h]
theorem items_cut {w : World} {B n b o : Nat} {d : List Item} (h : Items w B (some ⟨b, o, none⟩) n d) (c k : Nat) (hk : k ≤ n) (hn : n ≤ c) : Items w B (if c = k then some ⟨b, o, none⟩ else some ⟨b, o + k * 2, none⟩) (n - k) (d.drop k) := by
  by_cases e : c = k
  · rw [if_pos e]
    have h1 : n - k = 0 := by omega
    have h2 : d.drop k = [] := List.drop_eq_nil_of_le (by rw [h.len]; omega)
    rw [h1, h2]
    exact Recs.nothing _
  · rw [if_neg e]; exact h.tail hk

theorem own_second (w : World) (o : Obj) : OwnItems ((w.alloc o).alloc (.cells #[] 28)) w.heap.size (some ⟨w.heap.size + 1, 0, none⟩) 0 0 [] := by
  have h := (OwnR.empty (R := itemR) (w.alloc o)).mono (base := w.heap.size) (by simp)
  have e : (w.alloc o).heap.size = w.heap.size + 1 := by simp
  rw [e] at h
  exact h
theorem lit_kept {W w5 : World} {g : Nat} {e : Option Nat} {s : ByteArray} {m : Int} (h : Items (W.alloc (.cells #[.string s, .int .i64 m] 28)) (W.heap.size + 1) (some ⟨W.heap.size, 0, none⟩) 1 [(s, m)]) (hg : W.heap.size = g)
    (hg5 : (W.alloc (.cells #[.string s, .int .i64 m] 28)).drew.grownBy w5 e) (hne : e ≠ some g) : Items w5 (g + 1) (some ⟨g, 0, none⟩) 1 [(s, m)] := by
  subst hg
  have hc := h.cell (j := 0) (i := 0) rfl rfl
  have hc1 := h.cell (j := 0) (i := 1) rfl rfl
  have hk : w5.heap[W.heap.size]? = (W.alloc (.cells #[.string s, .int .i64 m] 28)).heap[W.heap.size]? := hg5.block _ (by show W.heap.size < (W.alloc _).heap.size; simp) (fun e2 => hne e2.symm)
  refine ⟨rfl, h.2.1, fun _ => ⟨W.heap.size, 0, rfl, by omega, fun j x hx i v hv => ?_⟩⟩
  have := h.cell hx hv
  rw [World.cell?_of_block hk]
  exact this
theorem lit_first {W w5 : World} {o : Obj} {e : Option Nat} {s : ByteArray} {m : Int} (h : Items (W.alloc (.cells #[.string s, .int .i64 m] 28)) (W.heap.size + 1) (some ⟨W.heap.size, 0, none⟩) 1 [(s, m)])
    (hg5 : ((W.alloc (.cells #[.string s, .int .i64 m] 28)).alloc o).drew.grownBy w5 e) (hne : e ≠ some W.heap.size) : Items w5 (W.heap.size + 1) (some ⟨W.heap.size, 0, none⟩) 1 [(s, m)] := by
  have hk : w5.heap[W.heap.size]? = ((W.alloc (.cells #[.string s, .int .i64 m] 28)).alloc o).heap[W.heap.size]? := hg5.block _ (by show W.heap.size < ((W.alloc _).alloc _).heap.size; simp; omega) (fun e2 => hne e2.symm)
  have h2 : Items ((W.alloc (.cells #[.string s, .int .i64 m] 28)).alloc o) (W.heap.size + 1) (some ⟨W.heap.size, 0, none⟩) 1 [(s, m)] := h.below ((Below.refl _ _).alloc (by simp) _)
  refine ⟨rfl, h.2.1, fun _ => ⟨W.heap.size, 0, rfl, by omega, fun j x hx i v hv => ?_⟩⟩
  rw [World.cell?_of_block hk]
  exact h2.cell hx hv

theorem dictAdd_spec (b o n c B : Nat) (d : List Item) (s : ByteArray) (m : Int) (w : World) (hn : n ≤ 1048576) (hnc : n ≤ c) (hc : c ≤ maxLen) (h : Items w B (some ⟨b, o, none⟩) n d) (hB : B ≤ w.heap.size) (hs : s.size ≤ maxLen) (hm : I64 m) :
    Calls Try.prog 31 #[.slice (some ⟨b, o, none⟩) n c, .string s, .int .i64 m] w (OwnOk (addR d s m) w) := by
  have HL := Lib.hid h.len
  have hs' := hs
  unfold maxLen at hs hc
  have HO := Lib.hid (fun W : World => items_empty W)
  cases hv : dictB d
  · have HV := Lib.hid (dictValid_spec_is hv)
    have HR := Lib.hid (addR_no (d := d) (s := s) (m := m) (by rw [hv]; rfl))
    clear hv
    go_enter Try.func31, Try.ntmps31
    go_wp2_with fail
    refine (HV.out _ n c B _ hn h hB).mono ?_
    rintro e w1 ⟨rfl, hb1⟩
    go_wp2_with fail
    go_ret2
    exact ⟨_, 0, 0, by rw [HR.out]; rfl, by rw [HR.out]; exact (HO.out w1).mono hb1.size, hb1.alloc hb1.size _⟩
  · have HV := Lib.hid (dictValid_spec_is hv)
    cases hw : wordB s.data.toList
    · have HW := Lib.hid (wordValid_spec_is hw)
      have HR := Lib.hid (addR_no (d := d) (s := s) (m := m) (by rw [hv]; simp [filledS, hw]))
      clear hv hw
      go_enter Try.func31, Try.ntmps31
      go_wp2_with fail
      refine (HV.out _ n c B _ hn h hB).mono ?_
      rintro e w1 ⟨rfl, hb1⟩
      go_wp2_with fail
      refine (HW.out _ hs').mono ?_
      rintro e w' ⟨rfl, rfl⟩
      go_wp2_with fail
      go_ret2
      exact ⟨_, 0, 0, by rw [HR.out]; rfl, by rw [HR.out]; exact (HO.out w1).mono hb1.size, hb1.alloc hb1.size _⟩
    · have HW := Lib.hid (wordValid_spec_is hw)
      cases he : s.toList.isEmpty
      · cases hcm : countB m
        · have HC := Lib.hid ((inB_count m).trans hcm)
          have HR := Lib.hid (addR_no (d := d) (s := s) (m := m) (by rw [hcm]; simp))
          clear hv hw hcm
          go_enter Try.func31, Try.ntmps31
          go_wp2_with fail
          refine (HV.out _ n c B _ hn h hB).mono ?_
          rintro e w1 ⟨rfl, hb1⟩
          go_wp2_with fail
          refine (HW.out _ hs').mono ?_
          rintro e w' ⟨rfl, rfl⟩
          go_wp2_with fail
          refine (l1In_is HC.out _).mono ?_
          rintro e w' ⟨rfl, rfl⟩
          go_wp2_with fail
          go_ret2
          exact ⟨_, 0, 0, by rw [HR.out]; rfl, by rw [HR.out]; exact (HO.out _).mono hb1.size, hb1.alloc hb1.size _⟩
        · have HC := Lib.hid ((inB_count m).trans hcm)
          have hfl : filledS s = true := by simp [filledS, hw, he]
          have hy := addR_yes (d := d) (s := s) (m := m) (by rw [hv, hfl, hcm]; rfl)
          have hm2 : 1 ≤ m ∧ m ≤ 1000000 := by simpa [countB] using hcm
          obtain ⟨m1, m2⟩ := hm2
          have hpt := dict_parts hv
          have h60 := hpt.2.1
          rw [HL.out] at h60
          cases hl : lookD d s with
          | some x =>
            obtain ⟨k, hd, hf⟩ := find_some hv hl
            have hkn : k < n := by rw [← HL.out]; exact (List.getElem?_eq_some_iff.1 hd).1
            have hx2 : 1 ≤ x ∧ x ≤ 1000000 := by simpa [countB] using hpt.1 _ (List.mem_of_getElem? hd)
            obtain ⟨x1, x2⟩ := hx2
            have hxw := IntWalk.i64_in (x + m) (by omega)
            have i0 : (0 : Int) ≤ (k : Int) := by omega
            have i1 : (k : Int) < (n : Int) := by omega
            have HF := Lib.hid hf
            have HD := Lib.hid hd
            have HSET := Lib.hid (add_set hpt.2.2.2 (m := m) hd)
            by_cases hbig : 1000000 < x + m
            · have HR := Lib.hid (show addR d s m = (d, false) by rw [hy, if_neg (by simp [addOkB, hl]; omega)])
              clear hv hw hl hd hf hcm hpt hy
              go_enter Try.func31, Try.ntmps31
              go_wp2_with fail
              refine (HV.out _ n c B _ hn h hB).mono ?_
              rintro e w1 ⟨rfl, hb1⟩
              go_wp2_with fail
              refine (HW.out _ hs').mono ?_
              rintro e w' ⟨rfl, rfl⟩
              go_wp2_with fail
              refine (l1In_is HC.out _).mono ?_
              rintro e w' ⟨rfl, rfl⟩
              have h1 := h.step hb1 hB
              have hB1 : B ≤ w1.heap.size := by have := hb1.size; omega
              go_wp2_with
                (at_builtin
                 refine wp_append_recs (R := itemR) rfl (.tmp 29) (.tmp 30) rfl w1.heap.size B 0 0 n c (some ⟨w1.heap.size, 0, none⟩) (some ⟨b, o, none⟩) [] d rfl (HO.out w1) rfl (h1.step ((Below.refl _ _).alloc (Nat.le_refl _) _) hB1) (by simp) (by omega) ?_
                 intro A6 cap6 w6 hown6 hg6 hr6 hne6)
              have hb6 : Below w1.heap.size w1 w6 := below_append ((Below.refl _ _).alloc (Nat.le_refl _) _) (by simp) (HO.out w1) (Nat.le_refl _) hg6
              simp only [Nat.zero_add, List.nil_append] at hown6 ⊢
              obtain ⟨g6, rfl, hgl6⟩ : ∃ g6, A6 = some ⟨g6, 0, none⟩ ∧ w1.heap.size ≤ g6 := by
                rcases hown6.shape with ⟨e, _, _⟩ | ⟨g6, e, hg, _⟩
                · exact absurd e (hne6 (by simp))
                · exact ⟨g6, e, hg⟩
              clear hg6 hr6 hne6
              have h6 := h1.step hb6 hB1
              have hB6 : B ≤ w6.heap.size := by have := hb6.size; omega
              go_wp2_with fail
              refine (l6Words_any _ n c B d w6 hn h6 hB6).mono ?_
              rintro e w7 ⟨g7, cap7, rfl, hown7, hb7⟩
              have nm : n ≤ maxLen := by unfold maxLen; omega
              go_wp2_with fail
              refine (listFind_spec (some ⟨g7, 0, none⟩) n cap7 w7.heap.size (wordsD d) s w7 nm hown7.strs).mono ?_
              rintro e w8 ⟨rfl, hd8⟩
              rw [HF.out]
              have hb8 := below_step hb7 (Nat.le_refl _) hd8.below
              have hown8 := hown6.below hb8
              have hbw : Below w.heap.size w w8 := below_step (below_step hb1 (Nat.le_refl _) hb6) (Nat.le_refl _) hb8
              have hz1 := hb1.size
              have h8 := h6.step hb8 hB6
              clear hd8 hb7 hb8 hown7 h1 h6
              obtain ⟨c0, c1⟩ := items_cell h8 HD.out
              simp only at c0 c1
              clear h8
              go_wp2_with fail
              go_ret2
              exact ⟨_, n, cap6, by rw [HR.out]; rfl, by rw [HR.out]; exact hown8.mono hz1, hbw⟩
            · have HR := Lib.hid (show addR d s m = (d.set k (s, x + m), true) by rw [hy, if_pos (by simp [addOkB, hl]; omega), HSET.out])
              clear hv hw hl hd hf hcm hpt hy
              go_enter Try.func31, Try.ntmps31
              go_wp2_with fail
              refine (HV.out _ n c B _ hn h hB).mono ?_
              rintro e w1 ⟨rfl, hb1⟩
              go_wp2_with fail
              refine (HW.out _ hs').mono ?_
              rintro e w' ⟨rfl, rfl⟩
              go_wp2_with fail
              refine (l1In_is HC.out _).mono ?_
              rintro e w' ⟨rfl, rfl⟩
              have h1 := h.step hb1 hB
              have hB1 : B ≤ w1.heap.size := by have := hb1.size; omega
              go_wp2_with
                (at_builtin
                 refine wp_append_recs (R := itemR) rfl (.tmp 29) (.tmp 30) rfl w1.heap.size B 0 0 n c (some ⟨w1.heap.size, 0, none⟩) (some ⟨b, o, none⟩) [] d rfl (HO.out w1) rfl (h1.step ((Below.refl _ _).alloc (Nat.le_refl _) _) hB1) (by simp) (by omega) ?_
                 intro A6 cap6 w6 hown6 hg6 hr6 hne6)
              have hb6 : Below w1.heap.size w1 w6 := below_append ((Below.refl _ _).alloc (Nat.le_refl _) _) (by simp) (HO.out w1) (Nat.le_refl _) hg6
              simp only [Nat.zero_add, List.nil_append] at hown6 ⊢
              obtain ⟨g6, rfl, hgl6⟩ : ∃ g6, A6 = some ⟨g6, 0, none⟩ ∧ w1.heap.size ≤ g6 := by
                rcases hown6.shape with ⟨e, _, _⟩ | ⟨g6, e, hg, _⟩
                · exact absurd e (hne6 (by simp))
                · exact ⟨g6, e, hg⟩
              clear hg6 hr6 hne6
              have h6 := h1.step hb6 hB1
              have hB6 : B ≤ w6.heap.size := by have := hb6.size; omega
              go_wp2_with fail
              refine (l6Words_any _ n c B d w6 hn h6 hB6).mono ?_
              rintro e w7 ⟨g7, cap7, rfl, hown7, hb7⟩
              have nm : n ≤ maxLen := by unfold maxLen; omega
              go_wp2_with fail
              refine (listFind_spec (some ⟨g7, 0, none⟩) n cap7 w7.heap.size (wordsD d) s w7 nm hown7.strs).mono ?_
              rintro e w8 ⟨rfl, hd8⟩
              rw [HF.out]
              have hb8 := below_step hb7 (Nat.le_refl _) hd8.below
              have hown8 := hown6.below hb8
              have hbw : Below w.heap.size w w8 := below_step (below_step hb1 (Nat.le_refl _) hb6) (Nat.le_refl _) hb8
              have hz1 := hb1.size
              have h8 := h6.step hb8 hB6
              clear hd8 hb7 hb8 hown7 h1 h6
              obtain ⟨c0, c1⟩ := items_cell h8 HD.out
              simp only at c0 c1
              have c2 := hown8.at_ (i := 1) HD.out rfl
              have c3 := hown8.frozen (k * 2 + 1)
              have hst := hown8.stored (i := 1) (e' := (s, x + m)) (v := .int .i64 (x + m)) HD.out (by show 1 < 2; omega) rfl ⟨hs', by unfold I64; omega⟩
              have HST := Lib.hid hst
              change w8.cell? ⟨g6, k * 2 + 1, none⟩ = some (.int .i64 x) at c2
              clear h8 hst
              go_wp2_with fail
              go_ret2
              exact ⟨_, n, cap6, by rw [HR.out]; rfl, by rw [HR.out]; exact HST.out.mono hz1, hbw.setCell (show w.heap.size ≤ g6 by omega) _⟩
          | none =>
            have HF := Lib.hid (find_no hl)
            by_cases hfull : n = 60
            · have HR := Lib.hid (show addR d s m = (d, false) by rw [hy, if_neg (by simp [addOkB, hl, HL.out]; omega)])
              subst hfull
              clear hv hw hcm hpt hy
              go_enter Try.func31, Try.ntmps31
              go_wp2_with fail
              refine (HV.out _ 60 c B _ hn h hB).mono ?_
              rintro e w1 ⟨rfl, hb1⟩
              go_wp2_with fail
              refine (HW.out _ hs').mono ?_
              rintro e w' ⟨rfl, rfl⟩
              go_wp2_with fail
              refine (l1In_is HC.out _).mono ?_
              rintro e w' ⟨rfl, rfl⟩
              have h1 := h.step hb1 hB
              have hB1 : B ≤ w1.heap.size := by have := hb1.size; omega
              go_wp2_with
                (at_builtin
                 refine wp_append_recs (R := itemR) rfl (.tmp 29) (.tmp 30) rfl w1.heap.size B 0 0 60 c (some ⟨w1.heap.size, 0, none⟩) (some ⟨b, o, none⟩) [] d rfl (HO.out w1) rfl (h1.step ((Below.refl _ _).alloc (Nat.le_refl _) _) hB1) (by simp) (by omega) ?_
                 intro A6 cap6 w6 hown6 hg6 hr6 hne6)
              have hb6 : Below w1.heap.size w1 w6 := below_append ((Below.refl _ _).alloc (Nat.le_refl _) _) (by simp) (HO.out w1) (Nat.le_refl _) hg6
              simp only [Nat.zero_add, List.nil_append] at hown6 ⊢
              obtain ⟨g6, rfl, hgl6⟩ : ∃ g6, A6 = some ⟨g6, 0, none⟩ ∧ w1.heap.size ≤ g6 := by
                rcases hown6.shape with ⟨e, _, _⟩ | ⟨g6, e, hg, _⟩
                · exact absurd e (hne6 (by simp))
                · exact ⟨g6, e, hg⟩
              clear hg6 hr6 hne6
              have h6 := h1.step hb6 hB1
              have hB6 : B ≤ w6.heap.size := by have := hb6.size; omega
              go_wp2_with fail
              refine (l6Words_any _ 60 c B d w6 hn h6 hB6).mono ?_
              rintro e w7 ⟨g7, cap7, rfl, hown7, hb7⟩
              have nm : 60 ≤ maxLen := by unfold maxLen; omega
              go_wp2_with fail
              refine (listFind_spec (some ⟨g7, 0, none⟩) 60 cap7 w7.heap.size (wordsD d) s w7 nm hown7.strs).mono ?_
              rintro e w8 ⟨rfl, hd8⟩
              rw [HF.out]
              have hb8 := below_step hb7 (Nat.le_refl _) hd8.below
              have hown8 := hown6.below hb8
              have hbw : Below w.heap.size w w8 := below_step (below_step hb1 (Nat.le_refl _) hb6) (Nat.le_refl _) hb8
              have hz1 := hb1.size
              have h8 := h6.step hb8 hB6
              clear hd8 hb7 hb8 hown7 h1 h6
              go_wp2_with fail
              go_ret2
              exact ⟨_, 60, cap6, by rw [HR.out]; rfl, by rw [HR.out]; exact hown8.mono hz1, hbw⟩
            · have HR := Lib.hid (show addR d s m = (addL d s m, true) by rw [hy, if_pos (by simp [addOkB, hl, HL.out]; omega)])
              have HASC := Lib.hid hpt.2.2.2
              have HLK := Lib.hid hl
              have hq60 : ((n : Int) == 60) = false := by simp; omega
              have n60 : ¬ (n : Int) = 60 := by omega
              clear hfull
              clear hv hw hcm hpt hy
              go_enter Try.func31, Try.ntmps31
              go_wp2_with fail
              refine (HV.out _ n c B _ hn h hB).mono ?_
              rintro e w1 ⟨rfl, hb1⟩
              go_wp2_with fail
              refine (HW.out _ hs').mono ?_
              rintro e w' ⟨rfl, rfl⟩
              go_wp2_with fail
              refine (l1In_is HC.out _).mono ?_
              rintro e w' ⟨rfl, rfl⟩
              have h1 := h.step hb1 hB
              have hB1 : B ≤ w1.heap.size := by have := hb1.size; omega
              go_wp2_with
                (at_builtin
                 refine wp_append_recs (R := itemR) rfl (.tmp 29) (.tmp 30) rfl w1.heap.size B 0 0 n c (some ⟨w1.heap.size, 0, none⟩) (some ⟨b, o, none⟩) [] d rfl (HO.out w1) rfl (h1.step ((Below.refl _ _).alloc (Nat.le_refl _) _) hB1) (by simp) (by omega) ?_
                 intro A6 cap6 w6 hown6 hg6 hr6 hne6)
              have hb6 : Below w1.heap.size w1 w6 := below_append ((Below.refl _ _).alloc (Nat.le_refl _) _) (by simp) (HO.out w1) (Nat.le_refl _) hg6
              simp only [Nat.zero_add, List.nil_append] at hown6 ⊢
              obtain ⟨g6, rfl, hgl6⟩ : ∃ g6, A6 = some ⟨g6, 0, none⟩ ∧ w1.heap.size ≤ g6 := by
                rcases hown6.shape with ⟨e, _, _⟩ | ⟨g6, e, hg, _⟩
                · exact absurd e (hne6 (by simp))
                · exact ⟨g6, e, hg⟩
              clear hg6 hr6 hne6
              have h6 := h1.step hb6 hB1
              have hB6 : B ≤ w6.heap.size := by have := hb6.size; omega
              go_wp2_with fail
              refine (l6Words_any _ n c B d w6 hn h6 hB6).mono ?_
              rintro e w7 ⟨g7, cap7, rfl, hown7, hb7⟩
              have nm : n ≤ maxLen := by unfold maxLen; omega
              go_wp2_with fail
              refine (listFind_spec (some ⟨g7, 0, none⟩) n cap7 w7.heap.size (wordsD d) s w7 nm hown7.strs).mono ?_
              rintro e w8 ⟨rfl, hd8⟩
              rw [HF.out]
              have hb8 := below_step hb7 (Nat.le_refl _) hd8.below
              have hown8 := hown6.below hb8
              have hbw : Below w.heap.size w w8 := below_step (below_step hb1 (Nat.le_refl _) hb6) (Nat.le_refl _) hb8
              have hz1 := hb1.size
              have h8 := h6.step hb8 hB6
              clear hd8 hb7 hb8 hown7 h1 h6
              go_wp2_with fail
              go_loopw [10] (fun i wr => ∃ k : Nat, k ≤ n ∧ i = .int .i64 k ∧ Hid (∀ j x, j < k → d[j]? = some x → ltS x.1 s = true) ∧ Below w.heap.size w wr) (fun i _ => n - (intOf i).toNat)
              case atStart => exact ⟨0, Nat.zero_le _, rfl, Lib.hid (fun j x hj => absurd hj (by omega)), hbw⟩
              case round =>
                clear hbw hown8 h8 hown6 hb6 hb1
                obtain ⟨k, hk, rfl, HP, hbel⟩ := hrel
                have hr := h.step hbel hB
                have hBr : B ≤ wr.heap.size := by have := hbel.size; omega
                have k0 : (0 : Int) ≤ (k : Int) := by omega
                have k1 : (k : Int) ≤ (n : Int) := by omega
                have k2 : (k : Int) ≤ (c : Int) := by omega
                have hcase : (∃ s' x, k < n ∧ d[k]? = some (s', x) ∧ ltS s' s = true) ∨ ((∃ s' x, k < n ∧ d[k]? = some (s', x) ∧ ltS s' s = false) ∨ k = n) := by
                  by_cases hlt : k < n
                  · have hdk : d[k]? = some (d[k]'(by rw [HL.out]; exact hlt)) := List.getElem?_eq_getElem _
                    cases hc2 : ltS (d[k]'(by rw [HL.out]; exact hlt)).1 s
                    · exact .inr (.inl ⟨_, _, hlt, hdk, hc2⟩)
                    · exact .inl ⟨_, _, hlt, hdk, hc2⟩
                  · exact .inr (.inr (by omega))
                rcases hcase with ⟨s', x, hlt, hd, hls⟩ | hstop
                · obtain ⟨c0, c1⟩ := items_cell hr hd
                  simp only at c0 c1
                  have hls2 : Op.bytesLess s'.toList s.toList = true := hls
                  have i1 : (k : Int) < (n : Int) := by omega
                  have HP2 := Lib.hid (show ∀ j y, j < k + 1 → d[j]? = some y → ltS y.1 s = true from fun j y hj hy => by
                    by_cases e : j = k
                    · subst e; rw [hd] at hy; injection hy with hy; subst hy; exact hls
                    · exact HP.out j y (by omega) hy)
                  clear hd hls hr hl
                  go_wp2_with fail
                  go_roundw
                  case rel => exact ⟨k + 1, by omega, by go_num, HP2, hbel⟩
                  case measure => simp [intOf]; omega
                · have hi : addL d s m = (d.take k ++ [(s, m)]) ++ d.drop k := by
                    rw [add_ins HASC.out (m := m) k (by rw [HL.out]; omega) HP.out (fun y hy => ?_) HLK.out, List.append_assoc]
                    · rfl
                    · rcases hstop with ⟨s', x, _, hd, hls⟩ | rfl
                      · rw [hd] at hy; injection hy with hy; subst hy; exact hls
                      · rw [List.getElem?_eq_none (by rw [HL.out]; omega)] at hy; cases hy
                  have HI := Lib.hid hi
                  have HH := Lib.hid (hr.head (k := k) hk)
                  have HC2 := Lib.hid (items_cut hr c k hk hnc)
                  have HIT := Lib.hid (fun W : World => items_one W s m hs' hm)
                  have hz := hbel.size
                  rcases hstop with ⟨s', x, hlt, hd, hls⟩ | hkn
                  · obtain ⟨c0, c1⟩ := items_cell hr hd
                    simp only at c0 c1
                    have hls2 : Op.bytesLess s'.toList s.toList = false := hls
                    have i1 : (k : Int) < (n : Int) := by omega
                    clear hd hls hr hi hl HP
                    go_wp2_with fail
                    go_region_held3 (fun _ => True) (trivial)
                      (first
                        | ((with_reducible refine step_append_recs (R := itemR) ?_ (.tmp 78) (.tmp 81) ?_ wr.heap.size B 0 0 k c (some ⟨wr.heap.size, 0, none⟩) (some ⟨b, o, none⟩) [] (d.take k) ?_ ((HO.out wr).drawn (Drawn.drew1 _)) ?_ (HH.out.step ((Below.refl _ _).alloc (Nat.le_refl _) _).drew hBr) ?_ ?_ ?_)
                           · rfl
                           · rfl
                           · rfl
                           · rfl
                           · first | (simp; done) | (simp; omega)
                           · omega
                           intro A5 cap5 w5 hown5 hg5 hr5 hne5
                           have hb5 : Below wr.heap.size wr w5 := below_append ((Below.refl _ _).alloc (Nat.le_refl _) _).drew (by simp) ((HO.out wr).drawn (Drawn.drew1 _)) (Nat.le_refl _) hg5
                           simp only [Nat.zero_add, List.nil_append] at hown5 ⊢
                           have hz5 := hb5.size
                           have hlit5 : Items (w5.alloc (.cells #[.string s, .int .i64 m] 28)) (w5.heap.size + 1) (some ⟨w5.heap.size, 0, none⟩) 1 [(s, m)] := HIT.out w5
                           clear hg5 hr5 hne5)
                        | ((with_reducible refine step_append_recs (R := itemR) ?_ (.tmp 78) (.tmp 81) ?_ wr.heap.size B 0 0 k c (some ⟨wr.heap.size, 0, none⟩) (some ⟨b, o, none⟩) [] (d.take k) ?_ (((HO.out wr).alloc _).drawn (Drawn.drew1 _)) ?_ (HH.out.step (((Below.refl _ _).alloc (Nat.le_refl _) _).alloc (by simp) _).drew hBr) ?_ ?_ ?_)
                           · rfl
                           · rfl
                           · rfl
                           · rfl
                           · first | (simp; done) | (simp; omega)
                           · omega
                           intro A5 cap5 w5 hown5 hg5 hr5 hne5
                           have hb5 : Below wr.heap.size wr w5 := below_append (((Below.refl _ _).alloc (Nat.le_refl _) _).alloc (by simp) _).drew (by simp; omega) (((HO.out wr).alloc _).drawn (Drawn.drew1 _)) (Nat.le_refl _) hg5
                           have hlit5 : Items w5 (wr.heap.size + 2) (some ⟨wr.heap.size + 1, 0, none⟩) 1 [(s, m)] := lit_kept (HIT.out (wr.alloc (.cells #[] 28))) (by simp) hg5 (by simp [Value.ownBlock])
                           simp only [Nat.zero_add, List.nil_append] at hown5 ⊢
                           have hz5 := hb5.size
                           clear hg5 hr5 hne5)
                        | ((with_reducible refine step_append_recs (R := itemR) ?_ (.tmp 78) (.tmp 81) ?_ wr.heap.size B 0 0 k c (some ⟨wr.heap.size + 1, 0, none⟩) (some ⟨b, o, none⟩) [] (d.take k) ?_ ((own_second wr (.cells #[.string s, .int .i64 m] 28)).drawn (Drawn.drew1 _)) ?_ (HH.out.step (((Below.refl _ _).alloc (Nat.le_refl _) _).alloc (by simp) _).drew hBr) ?_ ?_ ?_)
                           · rfl
                           · rfl
                           · rfl
                           · rfl
                           · first | (simp; done) | (simp; omega)
                           · omega
                           intro A5 cap5 w5 hown5 hg5 hr5 hne5
                           have hb5 : Below wr.heap.size wr w5 := below_append (((Below.refl _ _).alloc (Nat.le_refl _) _).alloc (by simp) _).drew (by simp; omega) ((own_second wr (.cells #[.string s, .int .i64 m] 28)).drawn (Drawn.drew1 _)) (Nat.le_refl _) hg5
                           have hlit5 : Items w5 (wr.heap.size + 1) (some ⟨wr.heap.size, 0, none⟩) 1 [(s, m)] := lit_first (HIT.out wr) hg5 (by simp [Value.ownBlock])
                           simp only [Nat.zero_add, List.nil_append] at hown5 ⊢
                           have hz5 := hb5.size
                           clear hg5 hr5 hne5)
                        | ((with_reducible refine step_append_recs (R := itemR) ?_ (.tmp 82) (.tmp 86) ?_ wr.heap.size (w5.heap.size + 1) k cap5 1 1 A5 (some ⟨w5.heap.size, 0, none⟩) (d.take k) [(s, m)] ?_ (hown5.alloc _) ?_ hlit5 ?_ ?_ ?_)
                           · rfl
                           · rfl
                           · rfl
                           · rfl
                           · first | (simp; done) | (simp; omega)
                           · omega
                           intro A6 cap6 w6 hown6 hg6 hr6 hne6
                           have hb6 : Below wr.heap.size wr w6 := below_append (hb5.alloc hz5 _) (by simp; omega) (hown5.alloc _) (Nat.le_refl _) hg6
                           have hz6 := hb6.size
                           clear hg6 hr6 hne6)
                        | ((with_reducible refine step_append_recs (R := itemR) ?_ (.tmp 82) (.tmp 86) ?_ wr.heap.size (wr.heap.size + 2) k cap5 1 1 A5 (some ⟨wr.heap.size + 1, 0, none⟩) (d.take k) [(s, m)] ?_ hown5 ?_ hlit5 ?_ ?_ ?_)
                           · rfl
                           · rfl
                           · rfl
                           · rfl
                           · exact hz5
                           · omega
                           intro A6 cap6 w6 hown6 hg6 hr6 hne6
                           have hb6 : Below wr.heap.size wr w6 := below_append hb5 hz5 hown5 (Nat.le_refl _) hg6
                           have hz6 := hb6.size
                           clear hg6 hr6 hne6)
                        | ((with_reducible refine step_append_recs (R := itemR) ?_ (.tmp 82) (.tmp 86) ?_ wr.heap.size (wr.heap.size + 1) k cap5 1 1 A5 (some ⟨wr.heap.size, 0, none⟩) (d.take k) [(s, m)] ?_ hown5 ?_ hlit5 ?_ ?_ ?_)
                           · rfl
                           · rfl
                           · rfl
                           · rfl
                           · exact hz5
                           · omega
                           intro A6 cap6 w6 hown6 hg6 hr6 hne6
                           have hb6 : Below wr.heap.size wr w6 := below_append hb5 hz5 hown5 (Nat.le_refl _) hg6
                           have hz6 := hb6.size
                           clear hg6 hr6 hne6)
                        | ((with_reducible refine step_append_recs (R := itemR) ?_ (.tmp 87) (.tmp 90) ?_ wr.heap.size B (k + 1) cap6 (n - k) (c - k) A6 (if c = k then some ⟨b, o, none⟩ else some ⟨b, o + k * 2, none⟩) (d.take k ++ [(s, m)]) (d.drop k) ?_ hown6 ?_ (HC2.out.step hb6 hBr) ?_ ?_ ?_)
                           · rfl
                           · rfl
                           · rfl
                           · rfl
                           · exact hz6
                           · omega
                           intro A7 cap7 w7 hown7 hg7 hr7 hne7
                           have hb7 : Below wr.heap.size wr w7 := below_append hb6 hz6 hown6 (Nat.le_refl _) hg7
                           clear hg7 hr7 hne7)
                        | fail)
                    all_goals
                      go_wp2_with fail
                      all_goals
                       go_ret2
                       first
                        | exact ⟨A7, k + 1 + (n - k), cap7, by rw [HR.out]; rfl, by rw [HR.out, HI.out]; exact hown7.mono hz, hbel.trans (hb7.mono hz)⟩
                        | exact ⟨A7, k + 1 + (n - k), cap7, by rw [HR.out]; rfl, by rw [HR.out, HI.out]; exact (hown7.drawn (Drawn.drew1 _)).mono hz, hbel.trans (hb7.drew.mono hz)⟩
                  · have i1 : ¬ (k : Int) < (n : Int) := by omega
                    have i2 : decide ((k : Int) < (n : Int)) = false := by simp; omega
                    clear hr hi hl HP hkn
                    go_wp2_with fail
                    go_region_held3 (fun _ => True) (trivial)
                      (first
                        | ((with_reducible refine step_append_recs (R := itemR) ?_ (.tmp 78) (.tmp 81) ?_ wr.heap.size B 0 0 k c (some ⟨wr.heap.size, 0, none⟩) (some ⟨b, o, none⟩) [] (d.take k) ?_ ((HO.out wr).drawn (Drawn.drew1 _)) ?_ (HH.out.step ((Below.refl _ _).alloc (Nat.le_refl _) _).drew hBr) ?_ ?_ ?_)
                           · rfl
                           · rfl
                           · rfl
                           · rfl
                           · first | (simp; done) | (simp; omega)
                           · omega
                           intro A5 cap5 w5 hown5 hg5 hr5 hne5
                           have hb5 : Below wr.heap.size wr w5 := below_append ((Below.refl _ _).alloc (Nat.le_refl _) _).drew (by simp) ((HO.out wr).drawn (Drawn.drew1 _)) (Nat.le_refl _) hg5
                           simp only [Nat.zero_add, List.nil_append] at hown5 ⊢
                           have hz5 := hb5.size
                           have hlit5 : Items (w5.alloc (.cells #[.string s, .int .i64 m] 28)) (w5.heap.size + 1) (some ⟨w5.heap.size, 0, none⟩) 1 [(s, m)] := HIT.out w5
                           clear hg5 hr5 hne5)
                        | ((with_reducible refine step_append_recs (R := itemR) ?_ (.tmp 78) (.tmp 81) ?_ wr.heap.size B 0 0 k c (some ⟨wr.heap.size, 0, none⟩) (some ⟨b, o, none⟩) [] (d.take k) ?_ (((HO.out wr).alloc _).drawn (Drawn.drew1 _)) ?_ (HH.out.step (((Below.refl _ _).alloc (Nat.le_refl _) _).alloc (by simp) _).drew hBr) ?_ ?_ ?_)
                           · rfl
                           · rfl
                           · rfl
                           · rfl
                           · first | (simp; done) | (simp; omega)
                           · omega
                           intro A5 cap5 w5 hown5 hg5 hr5 hne5
                           have hb5 : Below wr.heap.size wr w5 := below_append (((Below.refl _ _).alloc (Nat.le_refl _) _).alloc (by simp) _).drew (by simp; omega) (((HO.out wr).alloc _).drawn (Drawn.drew1 _)) (Nat.le_refl _) hg5
                           have hlit5 : Items w5 (wr.heap.size + 2) (some ⟨wr.heap.size + 1, 0, none⟩) 1 [(s, m)] := lit_kept (HIT.out (wr.alloc (.cells #[] 28))) (by simp) hg5 (by simp [Value.ownBlock])
                           simp only [Nat.zero_add, List.nil_append] at hown5 ⊢
                           have hz5 := hb5.size
                           clear hg5 hr5 hne5)
                        | ((with_reducible refine step_append_recs (R := itemR) ?_ (.tmp 78) (.tmp 81) ?_ wr.heap.size B 0 0 k c (some ⟨wr.heap.size + 1, 0, none⟩) (some ⟨b, o, none⟩) [] (d.take k) ?_ ((own_second wr (.cells #[.string s, .int .i64 m] 28)).drawn (Drawn.drew1 _)) ?_ (HH.out.step (((Below.refl _ _).alloc (Nat.le_refl _) _).alloc (by simp) _).drew hBr) ?_ ?_ ?_)
                           · rfl
                           · rfl
                           · rfl
                           · rfl
                           · first | (simp; done) | (simp; omega)
                           · omega
                           intro A5 cap5 w5 hown5 hg5 hr5 hne5
                           have hb5 : Below wr.heap.size wr w5 := below_append (((Below.refl _ _).alloc (Nat.le_refl _) _).alloc (by simp) _).drew (by simp; omega) ((own_second wr (.cells #[.string s, .int .i64 m] 28)).drawn (Drawn.drew1 _)) (Nat.le_refl _) hg5
                           have hlit5 : Items w5 (wr.heap.size + 1) (some ⟨wr.heap.size, 0, none⟩) 1 [(s, m)] := lit_first (HIT.out wr) hg5 (by simp [Value.ownBlock])
                           simp only [Nat.zero_add, List.nil_append] at hown5 ⊢
                           have hz5 := hb5.size
                           clear hg5 hr5 hne5)
                        | ((with_reducible refine step_append_recs (R := itemR) ?_ (.tmp 82) (.tmp 86) ?_ wr.heap.size (w5.heap.size + 1) k cap5 1 1 A5 (some ⟨w5.heap.size, 0, none⟩) (d.take k) [(s, m)] ?_ (hown5.alloc _) ?_ hlit5 ?_ ?_ ?_)
                           · rfl
                           · rfl
                           · rfl
                           · rfl
                           · first | (simp; done) | (simp; omega)
                           · omega
                           intro A6 cap6 w6 hown6 hg6 hr6 hne6
                           have hb6 : Below wr.heap.size wr w6 := below_append (hb5.alloc hz5 _) (by simp; omega) (hown5.alloc _) (Nat.le_refl _) hg6
                           have hz6 := hb6.size
                           clear hg6 hr6 hne6)
                        | ((with_reducible refine step_append_recs (R := itemR) ?_ (.tmp 82) (.tmp 86) ?_ wr.heap.size (wr.heap.size + 2) k cap5 1 1 A5 (some ⟨wr.heap.size + 1, 0, none⟩) (d.take k) [(s, m)] ?_ hown5 ?_ hlit5 ?_ ?_ ?_)
                           · rfl
                           · rfl
                           · rfl
                           · rfl
                           · exact hz5
                           · omega
                           intro A6 cap6 w6 hown6 hg6 hr6 hne6
                           have hb6 : Below wr.heap.size wr w6 := below_append hb5 hz5 hown5 (Nat.le_refl _) hg6
                           have hz6 := hb6.size
                           clear hg6 hr6 hne6)
                        | ((with_reducible refine step_append_recs (R := itemR) ?_ (.tmp 82) (.tmp 86) ?_ wr.heap.size (wr.heap.size + 1) k cap5 1 1 A5 (some ⟨wr.heap.size, 0, none⟩) (d.take k) [(s, m)] ?_ hown5 ?_ hlit5 ?_ ?_ ?_)
                           · rfl
                           · rfl
                           · rfl
                           · rfl
                           · exact hz5
                           · omega
                           intro A6 cap6 w6 hown6 hg6 hr6 hne6
                           have hb6 : Below wr.heap.size wr w6 := below_append hb5 hz5 hown5 (Nat.le_refl _) hg6
                           have hz6 := hb6.size
                           clear hg6 hr6 hne6)
                        | ((with_reducible refine step_append_recs (R := itemR) ?_ (.tmp 87) (.tmp 90) ?_ wr.heap.size B (k + 1) cap6 (n - k) (c - k) A6 (if c = k then some ⟨b, o, none⟩ else some ⟨b, o + k * 2, none⟩) (d.take k ++ [(s, m)]) (d.drop k) ?_ hown6 ?_ (HC2.out.step hb6 hBr) ?_ ?_ ?_)
                           · rfl
                           · rfl
                           · rfl
                           · rfl
                           · exact hz6
                           · omega
                           intro A7 cap7 w7 hown7 hg7 hr7 hne7
                           have hb7 : Below wr.heap.size wr w7 := below_append hb6 hz6 hown6 (Nat.le_refl _) hg7
                           clear hg7 hr7 hne7)
                        | fail)
                    all_goals
                      go_wp2_with fail
                      all_goals
                       go_ret2
                       first
                        | exact ⟨A7, k + 1 + (n - k), cap7, by rw [HR.out]; rfl, by rw [HR.out, HI.out]; exact hown7.mono hz, hbel.trans (hb7.mono hz)⟩
                        | exact ⟨A7, k + 1 + (n - k), cap7, by rw [HR.out]; rfl, by rw [HR.out, HI.out]; exact (hown7.drawn (Drawn.drew1 _)).mono hz, hbel.trans (hb7.drew.mono hz)⟩
      · have HR := Lib.hid (addR_no (d := d) (s := s) (m := m) (by simp [filledS, he]))
        clear hv hw
        go_enter Try.func31, Try.ntmps31
        go_wp2_with fail
        refine (HV.out _ n c B _ hn h hB).mono ?_
        rintro e w1 ⟨rfl, hb1⟩
        go_wp2_with fail
        refine (HW.out _ hs').mono ?_
        rintro e w' ⟨rfl, rfl⟩
        go_wp2_with fail
        go_ret2
        exact ⟨_, 0, 0, by rw [HR.out]; rfl, by rw [HR.out]; exact (HO.out _).mono hb1.size, hb1.alloc hb1.size _⟩
end Go.Proofs.Ytopjhdgpdcdklaa
