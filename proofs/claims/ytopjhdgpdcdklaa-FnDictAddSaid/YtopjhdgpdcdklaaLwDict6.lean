/- The walk of the law FnDictStarts, over contracts (written by wip/tools/gendict6.py). -/
import Derived.Test.YtopjhdgpdcdklaaLwDict5
import Derived.Test.YtopjhdgpdcdklaaTwo
namespace Go.Proofs.Ytopjhdgpdcdklaa
open Go.RowKit
set_option maxHeartbeats 3200000
set_option linter.unusedSimpArgs false
set_option linter.unusedVariables false

theorem begins_iff (s t : ByteArray) (x : Int) : beginsB s (t, x) = (decide (s.size ≤ t.size) && decide (t.extract 0 s.size = s)) := by
  have sl : ∀ u : ByteArray, u.data.toList.length = u.size := fun u => by simp
  unfold beginsB
  by_cases h : s.size ≤ t.size
  · rw [decide_eq_true h, Bool.true_and]
    by_cases he : t.extract 0 s.size = s
    · rw [decide_eq_true he, decide_eq_true_iff]
      refine shared_of _ _ _ (by rw [sl]; exact h) (by rw [sl]; exact Nat.le_refl _) ?_ (.inr (.inl (sl s).symm))
      rw [← extract_take, he, List.take_of_length_le (by rw [sl]; exact Nat.le_refl _)]
    · rw [decide_eq_false he, decide_eq_false_iff_not]
      intro hs
      obtain ⟨-, -, h3, -⟩ := shared_facts t.data.toList s.data.toList
      rw [hs, ← extract_take, List.take_of_length_le (by rw [sl]; exact Nat.le_refl _)] at h3
      exact he (by apply ByteArray.ext; apply Array.toList_inj.1; exact h3)
  · rw [decide_eq_false h, Bool.false_and, decide_eq_false_iff_not]
    intro hs
    have := (shared_facts t.data.toList s.data.toList).1
    rw [sl, hs] at this
    exact h this
theorem filter_at {d : List Item} (p : Item → Bool) {k : Nat} {x : Item} (h : d[k]? = some x) (hp : p x = true) : (d.filter p)[((d.take k).filter p).length]? = some x := by
  obtain ⟨hk, he⟩ := List.getElem?_eq_some_iff.1 h
  have : d = d.take k ++ x :: d.drop (k + 1) := by rw [← he, List.getElem_cons_drop, List.take_append_drop]
  conv => lhs; rw [this]
  rw [List.filter_append, List.filter_cons, if_pos hp]
  have e : (List.take k (d.take k ++ x :: d.drop (k + 1))) = d.take k := by rw [← this]
  rw [e]
  simp
theorem starts_all {d : List Item} (h : dictB d = true) : startsR d ⟨#[]⟩ = d := by
  unfold startsR
  rw [h, if_pos (by decide)]
  refine List.filter_eq_self.2 (fun x _ => ?_)
  obtain ⟨t, y⟩ := x
  have e : (ByteArray.mk #[]).size = 0 := rfl
  have e2 : t.extract 0 0 = ByteArray.mk #[] := by apply ByteArray.ext; simp
  rw [begins_iff, e, e2]
  simp
theorem dictStartsC_is (HC : DictStartsC) {d l : List Item} {s : ByteArray} (hv : startsR d s = l) (A : Option Addr) (n c B : Nat) (w : World) (hn : n ≤ 1048576) (hnc : n ≤ c) (hc : c ≤ maxLen) (h : Items w B A n d) (hB : B ≤ w.heap.size) (hs : s.size ≤ maxLen) :
    Calls Try.prog 37 #[.slice A n c, .string s] w fun e w' => ∃ (A2 : Option Addr) (m cap : Nat), e = .returned (.slice A2 m cap) ∧ OwnItems w' w.heap.size A2 m cap l ∧ Below w.heap.size w w' := by
  have := HC A n c B d s w hn hnc hc h hB hs
  rw [hv] at this
  exact this
theorem dictStartsS_is {d l : List Item} {s : ByteArray} (hv : startsR d s = l) (A : Option Addr) (n c B : Nat) (w : World) (hn : n ≤ 1048576) (h : Items w B A n d) (hB : B ≤ w.heap.size) (hs : s.size ≤ maxLen) :
    Calls Try.prog 38 #[.slice A n c, .string s] w fun e w' => ∃ (A2 : Option Addr) (m cap : Nat), e = .returned (.slice A2 m cap) ∧ OwnItems w' w.heap.size A2 m cap l ∧ Below w.heap.size w w' := by
  have := dictStarts_spec A n c B d s w hn h hB hs
  rw [hv] at this
  exact this
theorem walkFnDictStarts (HD : DrawnC 36 AskedPost) (HCS : DictStartsC) (A : Option Addr) (n c : Nat) (w : World) (h : Bytes w w.heap.size A n) (hnc : n ≤ c) (hc : c ≤ maxLen) :
    Calls Try.prog 8 #[.slice A n c] w fun e w' => e = .returned (.bool true) ∧ Below w.heap.size w w' := by
  have HD := Lib.hid HD
  have HCS := Lib.hid HCS
  have hn : n ≤ maxLen := Nat.le_trans hnc hc
  unfold maxLen at hn
  by_cases hn2 : (1048576 : Int) < n
  · go_enter Try.func8, Try.ntmps8
    go_wp2_with fail
    go_ret
    exact ⟨rfl, Below.refl _ _⟩
  · go_enter Try.func8, Try.ntmps8
    go_wp2_with fail
    refine (HD.out _ _ _ _ h hnc hc).mono ?_
    clear h
    rintro e w1 ⟨g, m, cap, d, s, rfl, own, hsm, hs, B1⟩
    have z1 := B1.size
    obtain ⟨hmc, hcm⟩ := own.caps
    have hl := own.len
    have hm64 : m ≤ 64 := by have := hsm.1; omega
    have hm : m ≤ 1048576 := by omega
    have hs' : s.size ≤ maxLen := by unfold maxLen; omega
    have H := own.recs
    clear own hsm
    obtain ⟨lx, hr⟩ : ∃ l, startsR d s = l := ⟨_, rfl⟩
    have hlx : lx.length ≤ d.length := by rw [← hr]; exact startsR_len d s
    cases hv : dictB d
    · have CV := Lib.hid (dictValid_spec_is hv)
      have hx0 : lx.length = 0 := by rw [← hr]; unfold startsR; rw [hv]; rfl
      have CI := Lib.hid (dictStartsC_is HCS.out hr)
      have CS := Lib.hid (dictStartsS_is hr)
      go_wp2_with fail
      refine (CI.out _ _ _ w1.heap.size _ hm hmc hcm H (by omega) hs').mono ?_
      rintro e w2 ⟨Ax, nx, cx, rfl, ox, hb⟩
      have H := H.below (hb.mono (by omega))
      have B2 := below_step B1 (Nat.le_refl _) hb
      have z2 := hb.size
      clear B1 hb
      obtain ⟨nxc, cxm⟩ := ox.caps
      have nxl := ox.len
      have HX := ox.recs
      clear ox
      have nxb : nx ≤ 1048576 := by omega
      have nxx : nx ≤ maxLen := by omega
      go_wp2_with fail
      refine (CS.out _ _ _ w1.heap.size _ hm H (by omega) hs').mono ?_
      rintro e w3 ⟨Ay, ny, cy, rfl, oy, hb⟩
      have H := H.below (hb.mono (by omega))
      have HX := HX.below (hb.mono (by omega))
      have B3 := below_step B2 (Nat.le_refl _) hb
      have z3 := hb.size
      clear B2 hb
      have hny : ny = nx := oy.len.symm.trans nxl
      subst ny
      have HY := oy.recs
      clear oy
      go_wp2_with fail
      refine (sameItems_same _ _ _ _ _ w3.heap.size _ _ nxx (HX.more (by omega)) HY).mono ?_
      rintro e w4 ⟨rfl, hb⟩
      have hb : Below w3.heap.size w3 w4 := hb.below
      have H := H.below (hb.mono (by omega))
      have HX := HX.below (hb.mono (by omega))
      have HY := HY.below (hb.mono (by omega))
      have B4 := below_step B3 (Nat.le_refl _) hb
      have z4 := hb.size
      clear B3 hb
      clear HY
      go_wp2_with fail
      refine (CV.out _ _ _ w1.heap.size _ hm H (by omega)).mono ?_
      rintro e w5 ⟨rfl, hb⟩
      have H := H.below (hb.mono (by omega))
      have HX := HX.below (hb.mono (by omega))
      have B5 := below_step B4 (Nat.le_refl _) hb
      have z5 := hb.size
      clear B4 hb
      obtain rfl : nx = 0 := by omega
      go_wp2_with fail
      refine (alive_any _).mono ?_
      rintro e w6 ⟨rfl, hb⟩
      have hb : Below w5.heap.size w5 w6 := hb.below
      have H := H.below (hb.mono (by omega))
      have HX := HX.below (hb.mono (by omega))
      have B6 := below_step B5 (Nat.le_refl _) hb
      have z6 := hb.size
      clear B5 hb
      go_wp2_with fail
      go_ret
      exact ⟨rfl, B6⟩
    · have CV := Lib.hid (dictValid_spec_is hv)
      cases hw : wordB s.data.toList
      · have CW := Lib.hid (wordValid_spec_is hw)
        have hx0 : lx.length = 0 := by rw [← hr]; unfold startsR; rw [hv, hw]; rfl
        clear hv hw
        have CI := Lib.hid (dictStartsC_is HCS.out hr)
        have CS := Lib.hid (dictStartsS_is hr)
        go_wp2_with fail
        refine (CI.out _ _ _ w1.heap.size _ hm hmc hcm H (by omega) hs').mono ?_
        rintro e w2 ⟨Ax, nx, cx, rfl, ox, hb⟩
        have H := H.below (hb.mono (by omega))
        have B2 := below_step B1 (Nat.le_refl _) hb
        have z2 := hb.size
        clear B1 hb
        obtain ⟨nxc, cxm⟩ := ox.caps
        have nxl := ox.len
        have HX := ox.recs
        clear ox
        have nxb : nx ≤ 1048576 := by omega
        have nxx : nx ≤ maxLen := by omega
        go_wp2_with fail
        refine (CS.out _ _ _ w1.heap.size _ hm H (by omega) hs').mono ?_
        rintro e w3 ⟨Ay, ny, cy, rfl, oy, hb⟩
        have H := H.below (hb.mono (by omega))
        have HX := HX.below (hb.mono (by omega))
        have B3 := below_step B2 (Nat.le_refl _) hb
        have z3 := hb.size
        clear B2 hb
        have hny : ny = nx := oy.len.symm.trans nxl
        subst ny
        have HY := oy.recs
        clear oy
        go_wp2_with fail
        refine (sameItems_same _ _ _ _ _ w3.heap.size _ _ nxx (HX.more (by omega)) HY).mono ?_
        rintro e w4 ⟨rfl, hb⟩
        have hb : Below w3.heap.size w3 w4 := hb.below
        have H := H.below (hb.mono (by omega))
        have HX := HX.below (hb.mono (by omega))
        have HY := HY.below (hb.mono (by omega))
        have B4 := below_step B3 (Nat.le_refl _) hb
        have z4 := hb.size
        clear B3 hb
        clear HY
        go_wp2_with fail
        refine (CV.out _ _ _ w1.heap.size _ hm H (by omega)).mono ?_
        rintro e w5 ⟨rfl, hb⟩
        have H := H.below (hb.mono (by omega))
        have HX := HX.below (hb.mono (by omega))
        have B5 := below_step B4 (Nat.le_refl _) hb
        have z5 := hb.size
        clear B4 hb
        obtain rfl : nx = 0 := by omega
        go_wp2_with fail
        refine (CW.out _ hs').mono ?_
        rintro e w' ⟨rfl, rfl⟩
        go_wp2_with fail
        refine (alive_any _).mono ?_
        rintro e w6 ⟨rfl, hb⟩
        have hb : Below w5.heap.size w5 w6 := hb.below
        have H := H.below (hb.mono (by omega))
        have HX := HX.below (hb.mono (by omega))
        have B6 := below_step B5 (Nat.le_refl _) hb
        have z6 := hb.size
        clear B5 hb
        go_wp2_with fail
        go_ret
        exact ⟨rfl, B6⟩
      · have CW := Lib.hid (wordValid_spec_is hw)
        have HF := Lib.hid (show lx = d.filter (beginsB s) by rw [← hr]; unfold startsR; rw [hv, hw]; rfl)
        have HALL := Lib.hid (dictStartsC_is HCS.out (starts_all hv))
        clear hv hw
        have CI := Lib.hid (dictStartsC_is HCS.out hr)
        have CS := Lib.hid (dictStartsS_is hr)
        go_wp2_with fail
        refine (CI.out _ _ _ w1.heap.size _ hm hmc hcm H (by omega) hs').mono ?_
        rintro e w2 ⟨Ax, nx, cx, rfl, ox, hb⟩
        have H := H.below (hb.mono (by omega))
        have B2 := below_step B1 (Nat.le_refl _) hb
        have z2 := hb.size
        clear B1 hb
        obtain ⟨nxc, cxm⟩ := ox.caps
        have nxl := ox.len
        have HX := ox.recs
        clear ox
        have nxb : nx ≤ 1048576 := by omega
        have nxx : nx ≤ maxLen := by omega
        go_wp2_with fail
        refine (CS.out _ _ _ w1.heap.size _ hm H (by omega) hs').mono ?_
        rintro e w3 ⟨Ay, ny, cy, rfl, oy, hb⟩
        have H := H.below (hb.mono (by omega))
        have HX := HX.below (hb.mono (by omega))
        have B3 := below_step B2 (Nat.le_refl _) hb
        have z3 := hb.size
        clear B2 hb
        have hny : ny = nx := oy.len.symm.trans nxl
        subst ny
        have HY := oy.recs
        clear oy
        go_wp2_with fail
        refine (sameItems_same _ _ _ _ _ w3.heap.size _ _ nxx (HX.more (by omega)) HY).mono ?_
        rintro e w4 ⟨rfl, hb⟩
        have hb : Below w3.heap.size w3 w4 := hb.below
        have H := H.below (hb.mono (by omega))
        have HX := HX.below (hb.mono (by omega))
        have HY := HY.below (hb.mono (by omega))
        have B4 := below_step B3 (Nat.le_refl _) hb
        have z4 := hb.size
        clear B3 hb
        clear HY
        go_wp2_with fail
        refine (CV.out _ _ _ w1.heap.size _ hm H (by omega)).mono ?_
        rintro e w5 ⟨rfl, hb⟩
        have H := H.below (hb.mono (by omega))
        have HX := HX.below (hb.mono (by omega))
        have B5 := below_step B4 (Nat.le_refl _) hb
        have z5 := hb.size
        clear B4 hb
        go_wp2_with fail
        refine (CW.out _ hs').mono ?_
        rintro e w' ⟨rfl, rfl⟩
        clear hr
        go_wp2_with fail
        go_loopw [6, 7] (fun a i wr => ∃ j q : Nat, j ≤ m ∧ q ≤ j ∧ i = .int .i64 j ∧ a = .int .i64 q ∧ q = ((d.take j).filter (beginsB s)).length ∧ Below w5.heap.size w5 wr) (fun _ i _ => m - (intOf i).toNat)
        case atStart => exact ⟨0, 0, Nat.zero_le _, Nat.le_refl _, rfl, rfl, by simp, Below.refl _ _⟩
        case round =>
          obtain ⟨j, q, hj, hqj, rfl, rfl, hq, hbel⟩ := hrel
          have hbz := hbel.size
          have HQ := Lib.hid hq
          clear hq
          by_cases hlt : j < m
          · have HR := H.below (hbel.mono (by omega))
            obtain ⟨b1, o1, s1, x1, hA1, hb1, hd1, hs1, hi1, c0, c1⟩ := items_at HR hlt
            injection hA1 with hA1; injection hA1 with e1 e2; subst e1; subst e2
            rw [Nat.zero_add] at c0 c1
            have i0 : (0 : Int) ≤ (j : Int) := by omega
            have i1 : (j : Int) < (m : Int) := by omega
            have hs1' := hs1
            unfold maxLen at hs1'
            have hft := filter_take d (beginsB s) hd1
            have hbg := begins_iff s s1 x1
            by_cases hle : s.size ≤ s1.size
            · have hle1 : (s.size : Int) ≤ (s1.size : Int) := by omega
              by_cases heq : s1.extract 0 s.size = s
              · have hbt : beginsB s (s1, x1) = true := by rw [hbg, decide_eq_true hle, decide_eq_true heq]; rfl
                have hq3 : ((s1.extract 0 s.size).toList == s.toList) = true := by rw [heq]; simp
                have hat := filter_at (beginsB s) hd1 hbt
                rw [← HQ.out, ← HF.out] at hat
                rw [if_pos hbt] at hft
                have hqx : q < nx := by have := (List.getElem?_eq_some_iff.1 hat).1; omega
                have HXR := HX.below (hbel.mono (by omega))
                obtain ⟨b3, o3, s3, x3, rfl, hb3, hd3, -, -, d0, d1⟩ := items_at HXR hqx
                rw [hat] at hd3
                injection hd3 with hd3
                injection hd3 with q1 q2
                subst q1 q2
                have k0 : (0 : Int) ≤ (q : Int) := by omega
                have k1 : (q : Int) < (nx : Int) := by omega
                have hee : (s1.toList == s1.toList) = true := by simp
                have hxx : (x1 == x1) = true := by simp
                have HN := Lib.hid (show q + 1 = ((d.take (j + 1)).filter (beginsB s)).length by rw [hft, List.length_append, ← HQ.out]; rfl)
                clear hd1 hat hft hbg hbt heq hle
                go_wp2_with fail
                go_quiet (fail)
                go_wp2_with fail
                go_roundw
                case rel => exact ⟨j + 1, q + 1, by omega, by omega, by go_num, by go_num, HN.out, by first | exact hbel | exact hbel.drew | exact below_drewN hbel _⟩
                case measure => simp [intOf]; omega
              · have hbt : beginsB s (s1, x1) = false := by rw [hbg, decide_eq_false heq, Bool.and_false]
                have hq3 : ((s1.extract 0 s.size).toList == s.toList) = false := by rw [str_beq, decide_eq_false heq]
                have HN := Lib.hid (show q = ((d.take (j + 1)).filter (beginsB s)).length by rw [hft, if_neg (by rw [hbt]; exact Bool.false_ne_true), List.append_nil]; exact HQ.out)
                clear hd1 hft hbg hbt heq hle
                go_wp2_with fail
                go_roundw
                case rel => exact ⟨j + 1, q, by omega, by omega, by go_num, rfl, HN.out, by first | exact hbel | exact hbel.drew | exact below_drewN hbel _⟩
                case measure => simp [intOf]; omega
            · have hbt : beginsB s (s1, x1) = false := by rw [hbg, decide_eq_false hle, Bool.false_and]
              have HN := Lib.hid (show q = ((d.take (j + 1)).filter (beginsB s)).length by rw [hft, if_neg (by rw [hbt]; exact Bool.false_ne_true), List.append_nil]; exact HQ.out)
              have hle1 : ¬ ((s.size : Int) ≤ (s1.size : Int)) := by omega
              clear hd1 hft hbg hbt hle
              go_wp2_with fail
              go_roundw
              case rel => exact ⟨j + 1, q, by omega, by omega, by go_num, rfl, HN.out, by first | exact hbel | exact hbel.drew | exact below_drewN hbel _⟩
              case measure => simp [intOf]; omega
          · obtain rfl : j = m := by omega
            have hqx : q = nx := by rw [← nxl, HF.out, HQ.out, List.take_of_length_le (by omega)]
            subst hqx
            clear hlt hj
            have H := H.below (hbel.mono (by omega))
            have Br := below_step B5 (Nat.le_refl _) hbel
            clear hbel
            have zq : w1.heap.size ≤ wr.heap.size := by omega
            go_wp2_with fail
            refine (HALL.out _ _ _ w1.heap.size _ hm hmc hcm H (by omega) (by decide)).mono ?_
            rintro e w6 ⟨Az, nz, cz, rfl, oz, hb⟩
            have H := H.below (hb.mono (by omega))
            have B6 := below_step Br (Nat.le_refl _) hb
            have z6 := hb.size
            clear Br hb
            have hnz : nz = j := oz.len.symm.trans hl
            subst hnz
            have HZ := oz.recs
            clear oz
            have hnm : nz ≤ maxLen := by omega
            go_wp2_with fail
            refine (sameItems_same _ _ _ _ _ w6.heap.size _ _ hnm HZ (H.more (by omega))).mono ?_
            rintro e w7 ⟨rfl, hb⟩
            have hb : Below w6.heap.size w6 w7 := hb.below
            have H := H.below (hb.mono (by omega))
            have HZ := HZ.below (hb.mono (by omega))
            have B7 := below_step B6 (Nat.le_refl _) hb
            have z7 := hb.size
            clear B6 hb
            go_wp2_with fail
            go_ret
            exact ⟨rfl, B7⟩
end Go.Proofs.Ytopjhdgpdcdklaa
