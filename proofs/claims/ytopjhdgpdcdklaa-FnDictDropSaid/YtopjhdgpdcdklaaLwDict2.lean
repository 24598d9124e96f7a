/- The walks of the laws FnDictCount, FnDictWords, over contracts (written by wip/tools/gendict.py). -/
import Derived.Test.YtopjhdgpdcdklaaLwDict
import Derived.Test.YtopjhdgpdcdklaaFind
import Derived.Test.YtopjhdgpdcdklaaSame
namespace Go.Proofs.Ytopjhdgpdcdklaa
open Go.RowKit
set_option maxHeartbeats 1600000
set_option linter.unusedSimpArgs false
set_option linter.unusedVariables false

theorem count_cases (d : List Item) (s : ByteArray) : (findI (wordsE d) s = -1 ∧ countI d s = 0) ∨ ∃ (k : Nat) (x : Int), findI (wordsE d) s = (k : Int) ∧ d[k]? = some (s, x) ∧ countI d s = x ∧ 1 ≤ x ∧ k < d.length := by
  unfold wordsE countI
  cases hv : dictB d
  · exact .inl ⟨findI_none (by simp), rfl⟩
  · rw [if_pos rfl, if_pos rfl]
    cases hl : lookD d s with
    | none => exact .inl ⟨find_no hl, rfl⟩
    | some x =>
      obtain ⟨k, hk, hf⟩ := find_some hv hl
      have h1 := (dict_parts hv).1 _ (List.mem_of_getElem? hk)
      simp only [countB, Bool.and_eq_true, decide_eq_true_eq] at h1
      exact .inr ⟨k, x, hf, hk, rfl, h1.1, (List.getElem?_eq_some_iff.1 hk).1⟩
theorem listFind_impl_is {ss : List ByteArray} {s : ByteArray} {v : Int} (hv : findI ss s = v) (A : Option Addr) (n c B : Nat) (w : World) (hn : n ≤ maxLen) (h : Strs w B A n ss) :
    Calls Try.prog 28 #[.slice A n c, .string s] w fun e w' => e = .returned (.int .i64 v) ∧ Drawn w w' := hv ▸ listFind_impl A n c B ss s w hn h
theorem dictCountC_is (HC : DictCountC) {d : List Item} {s : ByteArray} {v : Int} (hv : countI d s = v) (A : Option Addr) (n c B : Nat) (w : World) (hn : n ≤ 1048576) (hnc : n ≤ c) (hc : c ≤ maxLen) (h : Items w B A n d) (hB : B ≤ w.heap.size) (hs : s.size ≤ maxLen) :
    Calls Try.prog 26 #[.slice A n c, .string s] w fun e w' => e = .returned (.int .i64 v) ∧ Below w.heap.size w w' := hv ▸ HC A n c B d s w hn hnc hc h hB hs
theorem sameTexts_same (A1 A2 : Option Addr) (n c1 c2 B : Nat) (ss : List ByteArray) (w : World) (hn : n ≤ maxLen) (h1 : Strs w B A1 n ss) (h2 : Strs w B A2 n ss) :
    Calls Try.prog 22 #[.slice A1 n c1, .slice A2 n c2] w fun e w' => e = .returned (.bool true) ∧ Drawn w w' :=
  (sameTexts_any A1 A2 n c1 n c2 B ss ss w hn hn h1 h2).mono fun e w' ⟨he, hd⟩ => ⟨by rw [he, decide_eq_true rfl], hd⟩
theorem walkFnDictCount (HD : DrawnC 25 AskedPost) (HCC : DictCountC) (HCW : DictWordsC) (A : Option Addr) (n c : Nat) (w : World) (h : Bytes w w.heap.size A n) (hnc : n ≤ c) (hc : c ≤ maxLen) :
    Calls Try.prog 5 #[.slice A n c] w fun e w' => e = .returned (.bool true) ∧ Below w.heap.size w w' := by
  have HD := Lib.hid HD
  have HCC := Lib.hid HCC
  have HCW := Lib.hid HCW
  have hn : n ≤ maxLen := Nat.le_trans hnc hc
  unfold maxLen at hn
  by_cases hn2 : (1048576 : Int) < n
  · go_enter Try.func5, Try.ntmps5
    go_wp2_with fail
    go_ret
    exact ⟨rfl, Below.refl _ _⟩
  · go_enter Try.func5, Try.ntmps5
    go_wp2_with fail
    refine (HD.out _ _ _ _ h hnc hc).mono ?_
    clear h
    rintro e w1 ⟨g, m, cap, d, s, rfl, own, hsm, hs, B1⟩
    have z1 := B1.size
    obtain ⟨hmc, hcm⟩ := own.caps
    have hl := own.len
    have hm64 : m ≤ 64 := by have := hsm.1; omega
    have hm : m ≤ 1048576 := by omega
    have hs' : s.size ≤ maxLen := by unfold maxLen; omega
    have H := own.recs
    clear own
    have hwl : (wordsE d).length ≤ m := by have := wordsE_le d; omega
    rcases count_cases d s with ⟨hf, hct⟩ | ⟨k, x, hf, hk, hct, hx1, hkl⟩
    · have q1 : (-1 : Int) < 0 := by omega
      have CF := Lib.hid (fun A => listFind_impl_is hf A)
      have CI := Lib.hid (dictCountC_is HCC.out hct)
      have CS := Lib.hid (fun A => dictCount_spec_is hct A)
      clear hf hct hl hsm
      go_wp2_with fail
      refine (CI.out _ _ _ w1.heap.size _ hm hmc hcm H (by omega) hs').mono ?_
      rintro e w2 ⟨rfl, hb⟩
      have H := H.below (hb.mono (by omega))
      have B2 := below_step B1 (Nat.le_refl _) hb
      have z2 := hb.size
      clear B1 hb
      go_wp2_with fail
      refine (CS.out _ _ _ w1.heap.size _ hm H (by omega)).mono ?_
      rintro e w3 ⟨rfl, hb⟩
      have H := H.below (hb.mono (by omega))
      have B3 := below_step B2 (Nat.le_refl _) hb
      have z3 := hb.size
      clear B2 hb
      go_wp2_with fail
      refine (HCW.out _ _ _ w1.heap.size _ _ hm hmc hcm H (by omega)).mono ?_
      rintro e w4 ⟨Aw, nw, cw, rfl, ow, hb⟩
      have H := H.below (hb.mono (by omega))
      have B4 := below_step B3 (Nat.le_refl _) hb
      have z4 := hb.size
      clear B3 hb
      have hnw : nw ≤ maxLen := by have := ow.len; unfold maxLen; omega
      have HW := ow.recs
      clear ow
      go_wp2_with fail
      refine (CF.out _ _ _ _ _ hnw HW).mono ?_
      rintro e w5 ⟨rfl, hb⟩
      have hb : Below w4.heap.size w4 w5 := hb.below
      have H := H.below (hb.mono (by omega))
      have HW := HW.below (hb.mono (by omega))
      have B5 := below_step B4 (Nat.le_refl _) hb
      have z5 := hb.size
      clear B4 hb
      go_wp2_with fail
      refine (alive_any _).mono ?_
      rintro e w6 ⟨rfl, hb⟩
      have hb : Below w5.heap.size w5 w6 := hb.below
      have H := H.below (hb.mono (by omega))
      have HW := HW.below (hb.mono (by omega))
      have B6 := below_step B5 (Nat.le_refl _) hb
      have z6 := hb.size
      clear B5 hb
      go_wp2_with fail
      go_ret
      exact ⟨rfl, B6⟩
    · have hkm : (k : Int) < (m : Int) := by omega
      have i0 : (0 : Int) ≤ (k : Int) := by omega
      have q1 : ¬ ((k : Int) < 0) := by omega
      have q2 : (0 : Int) < x := by omega
      have HK := Lib.hid hk
      clear hk hl hkl
      have CF := Lib.hid (fun A => listFind_impl_is hf A)
      have CI := Lib.hid (dictCountC_is HCC.out hct)
      have CS := Lib.hid (fun A => dictCount_spec_is hct A)
      clear hf hct hsm
      go_wp2_with fail
      refine (CI.out _ _ _ w1.heap.size _ hm hmc hcm H (by omega) hs').mono ?_
      rintro e w2 ⟨rfl, hb⟩
      have H := H.below (hb.mono (by omega))
      have B2 := below_step B1 (Nat.le_refl _) hb
      have z2 := hb.size
      clear B1 hb
      go_wp2_with fail
      refine (CS.out _ _ _ w1.heap.size _ hm H (by omega)).mono ?_
      rintro e w3 ⟨rfl, hb⟩
      have H := H.below (hb.mono (by omega))
      have B3 := below_step B2 (Nat.le_refl _) hb
      have z3 := hb.size
      clear B2 hb
      go_wp2_with fail
      refine (HCW.out _ _ _ w1.heap.size _ _ hm hmc hcm H (by omega)).mono ?_
      rintro e w4 ⟨Aw, nw, cw, rfl, ow, hb⟩
      have H := H.below (hb.mono (by omega))
      have B4 := below_step B3 (Nat.le_refl _) hb
      have z4 := hb.size
      clear B3 hb
      have hnw : nw ≤ maxLen := by have := ow.len; unfold maxLen; omega
      have HW := ow.recs
      clear ow
      go_wp2_with fail
      refine (CF.out _ _ _ _ _ hnw HW).mono ?_
      rintro e w5 ⟨rfl, hb⟩
      have hb : Below w4.heap.size w4 w5 := hb.below
      have H := H.below (hb.mono (by omega))
      have HW := HW.below (hb.mono (by omega))
      have B5 := below_step B4 (Nat.le_refl _) hb
      have z5 := hb.size
      clear B4 hb
      obtain ⟨c0, c1⟩ := items_cell H HK.out
      simp only at c0 c1
      rw [Nat.zero_add] at c0 c1
      have q3 : (x == x) = true := by simp
      go_wp2_with fail
      refine (alive_any _).mono ?_
      rintro e w6 ⟨rfl, hb⟩
      have hb : Below w5.heap.size w5 w6 := hb.below
      have H := H.below (hb.mono (by omega))
      have HW := HW.below (hb.mono (by omega))
      have B6 := below_step B5 (Nat.le_refl _) hb
      have z6 := hb.size
      clear B5 hb
      go_wp2_with fail
      go_ret
      exact ⟨rfl, B6⟩
theorem walkFnDictWords (HD : DrawnC 20 ItemsPost) (HCW : DictWordsC) (A : Option Addr) (n c : Nat) (w : World) (h : Bytes w w.heap.size A n) (hnc : n ≤ c) (hc : c ≤ maxLen) :
    Calls Try.prog 4 #[.slice A n c] w fun e w' => e = .returned (.bool true) ∧ Below w.heap.size w w' := by
  have HD := Lib.hid HD
  have HCW := Lib.hid HCW
  have hn : n ≤ maxLen := Nat.le_trans hnc hc
  unfold maxLen at hn
  by_cases hn2 : (1048576 : Int) < n
  · go_enter Try.func4, Try.ntmps4
    go_wp2_with fail
    go_ret
    exact ⟨rfl, Below.refl _ _⟩
  · go_enter Try.func4, Try.ntmps4
    go_wp2_with fail
    refine (HD.out _ _ _ _ h hnc hc).mono ?_
    clear h
    rintro e w1 ⟨g, m, cap, d, rfl, own, hsm, B1⟩
    have z1 := B1.size
    obtain ⟨hmc, hcm⟩ := own.caps
    have hl := own.len
    have hm64 : m ≤ 64 := by have := hsm.1; omega
    have hm : m ≤ 1048576 := by omega
    have H := own.recs
    clear own
    have hwl : (wordsE d).length ≤ m := by have := wordsE_le d; omega
    cases hv : dictB d
    · have CS := Lib.hid (dictValid_spec_is hv)
      have hw0 : (wordsE d).length = 0 := by rw [wordsE_len, hv]; rfl
      clear hv hsm
      go_wp2_with fail
      refine (HCW.out _ _ _ w1.heap.size _ _ hm hmc hcm H (by omega)).mono ?_
      rintro e w2 ⟨Aw, nw, cw, rfl, ow, hb⟩
      have H := H.below (hb.mono (by omega))
      have B2 := below_step B1 (Nat.le_refl _) hb
      have z2 := hb.size
      clear B1 hb
      have hnl := ow.len
      have HW := ow.recs
      clear ow
      have zw : w2.heap.size ≤ w2.heap.size := Nat.le_refl _
      go_wp2_with fail
      refine (dictWords_spec _ _ _ w1.heap.size _ _ hm H (by omega)).mono ?_
      rintro e w3 ⟨gs, ns, cs, rfl, os, hb⟩
      have H := H.below (hb.mono (by omega))
      have HW := HW.below (hb.mono (by omega))
      have B3 := below_step B2 (Nat.le_refl _) hb
      have z3 := hb.size
      clear B2 hb
      have hns : ns = nw := os.strs.1.symm.trans hnl
      subst ns
      have HS := os.strs
      clear os
      have hnw : nw ≤ maxLen := by unfold maxLen; omega
      go_wp2_with fail
      refine (sameTexts_same _ _ _ _ _ w3.heap.size _ _ hnw (HW.more (by omega)) HS).mono ?_
      rintro e w4 ⟨rfl, hb⟩
      have hb : Below w3.heap.size w3 w4 := hb.below
      have H := H.below (hb.mono (by omega))
      have HW := HW.below (hb.mono (by omega))
      have HS := HS.below (hb.mono (by omega))
      have B4 := below_step B3 (Nat.le_refl _) hb
      have z4 := hb.size
      clear B3 hb
      clear HS
      go_wp2_with fail
      refine (CS.out _ _ _ w1.heap.size _ hm H (by omega)).mono ?_
      rintro e w5 ⟨rfl, hb⟩
      have H := H.below (hb.mono (by omega))
      have HW := HW.below (hb.mono (by omega))
      have B5 := below_step B4 (Nat.le_refl _) hb
      have z5 := hb.size
      clear B4 hb
      obtain rfl : nw = 0 := by omega
      go_wp2_with fail
      refine (alive_any _).mono ?_
      rintro e w6 ⟨rfl, hb⟩
      have hb : Below w5.heap.size w5 w6 := hb.below
      have H := H.below (hb.mono (by omega))
      have HW := HW.below (hb.mono (by omega))
      have B6 := below_step B5 (Nat.le_refl _) hb
      have z6 := hb.size
      clear B5 hb
      go_wp2_with fail
      go_ret
      exact ⟨rfl, B6⟩
    · have CS := Lib.hid (dictValid_spec_is hv)
      have hwe : wordsE d = wordsD d := by unfold wordsE; rw [if_pos hv]
      have hlv := dict_list hv
      rw [← hwe] at hlv
      have CL := Lib.hid (fun A n B => listValid_impl_is (A := A) (n := n) (B := B) hlv)
      have HWE := Lib.hid hwe
      clear hv hsm hlv hwe
      go_wp2_with fail
      refine (HCW.out _ _ _ w1.heap.size _ _ hm hmc hcm H (by omega)).mono ?_
      rintro e w2 ⟨Aw, nw, cw, rfl, ow, hb⟩
      have H := H.below (hb.mono (by omega))
      have B2 := below_step B1 (Nat.le_refl _) hb
      have z2 := hb.size
      clear B1 hb
      have hnl := ow.len
      have HW := ow.recs
      clear ow
      have zw : w2.heap.size ≤ w2.heap.size := Nat.le_refl _
      go_wp2_with fail
      refine (dictWords_spec _ _ _ w1.heap.size _ _ hm H (by omega)).mono ?_
      rintro e w3 ⟨gs, ns, cs, rfl, os, hb⟩
      have H := H.below (hb.mono (by omega))
      have HW := HW.below (hb.mono (by omega))
      have B3 := below_step B2 (Nat.le_refl _) hb
      have z3 := hb.size
      clear B2 hb
      have hns : ns = nw := os.strs.1.symm.trans hnl
      subst ns
      have HS := os.strs
      clear os
      have hnw : nw ≤ maxLen := by unfold maxLen; omega
      go_wp2_with fail
      refine (sameTexts_same _ _ _ _ _ w3.heap.size _ _ hnw (HW.more (by omega)) HS).mono ?_
      rintro e w4 ⟨rfl, hb⟩
      have hb : Below w3.heap.size w3 w4 := hb.below
      have H := H.below (hb.mono (by omega))
      have HW := HW.below (hb.mono (by omega))
      have HS := HS.below (hb.mono (by omega))
      have B4 := below_step B3 (Nat.le_refl _) hb
      have z4 := hb.size
      clear B3 hb
      clear HS
      go_wp2_with fail
      refine (CS.out _ _ _ w1.heap.size _ hm H (by omega)).mono ?_
      rintro e w5 ⟨rfl, hb⟩
      have H := H.below (hb.mono (by omega))
      have HW := HW.below (hb.mono (by omega))
      have B5 := below_step B4 (Nat.le_refl _) hb
      have z5 := hb.size
      clear B4 hb
      have hnm : nw = m := by rw [HWE.out, wordsD_len] at hnl; omega
      subst hnm
      clear hnl hwl hl
      go_wp2_with fail
      go_loopw [5] (fun i wr => ∃ j : Nat, j ≤ nw ∧ i = .int .i64 j ∧ Drawn w5 wr) (fun i _ => nw - (intOf i).toNat)
      case atStart => exact ⟨0, Nat.zero_le _, rfl, Drawn.refl _⟩
      case round =>
        obtain ⟨j, hj, rfl, hdr⟩ := hrel
        by_cases hlt : j < nw
        · obtain ⟨b1, o1, s1, x1, hA1, hb1, hd1, hs1, hx1, c0, c1⟩ := items_at (H.drawn hdr) hlt
          injection hA1 with hA1; injection hA1 with e1 e2; subst e1; subst e2
          obtain ⟨b2, o2, t2, rfl, hb2, ht2, hst2, ct⟩ := (HW.drawn hdr).at_ (k := j) hlt
          have hts : t2 = s1 := by rw [HWE.out] at ht2; unfold wordsD at ht2; rw [List.getElem?_map, hd1] at ht2; injection ht2 with ht2; exact ht2.symm
          subst hts
          rw [Nat.zero_add] at c0 c1
          have i0 : (0 : Int) ≤ (j : Int) := by omega
          have i1 : (j : Int) < (nw : Int) := by omega
          have hq : (t2.toList == t2.toList) = true := by simp
          have hq2 : (t2.toList != t2.toList) = false := by simp
          clear hd1 ht2
          go_wp2_with fail
          go_quiet (fail)
          go_wp2_with fail
          go_roundw
          case rel => exact ⟨j + 1, by omega, by go_num, hdr.drewN _⟩
          case measure => simp [intOf]; omega
        · obtain rfl : j = nw := by omega
          have HW := HW.drawn hdr
          have Bq := below_step B5 (Nat.le_refl _) (hdr.below (B := w5.heap.size))
          go_wp2_with fail
          refine (CL.out _ _ _ _ _ hnw HW).mono ?_
          rintro e wz ⟨rfl, hb⟩
          have Bz := below_step Bq (Nat.le_refl _) (hb.below (B := wr.heap.size))
          go_wp2_with fail
          go_ret
          exact ⟨rfl, Bz⟩
end Go.Proofs.Ytopjhdgpdcdklaa
