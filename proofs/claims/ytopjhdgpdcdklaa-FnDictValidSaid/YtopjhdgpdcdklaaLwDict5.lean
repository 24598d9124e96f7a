/- The walk of the law FnDictAdd, over contracts (written by wip/tools/gendict5.py). -/
import Derived.Test.YtopjhdgpdcdklaaLwDict4
import Derived.Deep.RegionHeld3
namespace Go.Proofs.Ytopjhdgpdcdklaa
open Go.RowKit
set_option maxHeartbeats 3200000
set_option linter.unusedSimpArgs false
set_option linter.unusedVariables false

theorem add_yes {d l : List Item} {s : ByteArray} {m : Int} (h : addR d s m = (l, true)) : dictB d = true ∧ l = addL d s m ∧ dictB l = true ∧ filledS s = true ∧ 1 ≤ m ∧ m ≤ 1000000 ∧ (lookD d s).getD 0 + m ≤ 1000000 ∧ addOkB d s m = true := by
  unfold addR at h
  split at h
  · rename_i hc
    simp only [Bool.and_eq_true] at hc
    split at h
    · rename_i hok
      injection h with h _
      subst h
      have hm := hc.2
      simp only [countB, Bool.and_eq_true, decide_eq_true_eq] at hm
      have hok' := hok
      unfold addOkB at hok
      cases hl : lookD d s with
      | none =>
        rw [hl] at hok
        simp only [decide_eq_true_eq] at hok
        exact ⟨hc.1.1, rfl, dict_add hc.1.1 hc.1.2 hm.1 (by rw [hl]; simpa using hm.2) (.inr hok), hc.1.2, hm.1, hm.2, by simpa using hm.2, hok'⟩
      | some c =>
        rw [hl] at hok
        simp only [decide_eq_true_eq] at hok
        exact ⟨hc.1.1, rfl, dict_add hc.1.1 hc.1.2 hm.1 (by rw [hl]; simpa using hok) (.inl (by rw [hl]; rfl)), hc.1.2, hm.1, hm.2, by simpa using hok, hok'⟩
    · injection h with _ h; cases h
  · injection h with _ h; cases h
theorem add_refused {d l : List Item} {s : ByteArray} {m : Int} (h : addR d s m = (l, false)) : l = [] ∨ l = d := by
  unfold addR at h
  split at h
  · split at h
    · injection h with _ h; cases h
    · injection h with h _; exact .inr h.symm
  · injection h with h _; exact .inl h.symm
theorem add_of {d : List Item} {s : ByteArray} {m : Int} (hd : dictB d = true) (hs : filledS s = true) (h1 : 1 ≤ m) (h2 : m ≤ 1000000) (hok : addOkB d s m = true) : addR d s m = (addL d s m, true) := by
  unfold addR
  have hb : countB m = true := by simp only [countB, Bool.and_eq_true, decide_eq_true_eq]; omega
  rw [hd, hs, hb, hok]; rfl
theorem ok_less {d : List Item} {s : ByteArray} {m k : Int} (h : addOkB d s m = true) (hk : k ≤ m) : addOkB d s k = true := by
  unfold addOkB at *
  cases hl : lookD d s with
  | none => rw [hl] at h; exact h
  | some c => rw [hl] at h; simp only [decide_eq_true_eq] at *; omega
/-- adding in two parts -/
theorem add_two {d l : List Item} {s : ByteArray} {m : Int} (h : addR d s m = (l, true)) (hm : 1 < m) : ∃ a, addR d s (m - 1) = (a, true) ∧ addR a s 1 = (l, true) := by
  obtain ⟨hd, rfl, hl, hs, h1, h2, h3, hok⟩ := add_yes h
  have ha := add_of hd hs (m := m - 1) (by omega) (by omega) (ok_less hok (by omega))
  refine ⟨_, ha, ?_⟩
  obtain ⟨_, _, hda, _⟩ := add_yes ha
  have A := (dict_parts hd).2.2.2
  have hla : lookD (addL d s (m - 1)) s = some ((lookD d s).getD 0 + (m - 1)) := by rw [look_add A, if_pos rfl]
  have hok2 : addOkB (addL d s (m - 1)) s 1 = true := by unfold addOkB; rw [hla]; simp only [decide_eq_true_eq]; omega
  rw [add_of hda hs (by omega) (by omega) hok2]
  congr 1
  refine dict_ext (asc_add (dict_parts hda).2.2.2 s 1) (asc_add A s m) (fun t => ?_)
  rw [look_add (dict_parts hda).2.2.2, look_add A, look_add A, look_add A]
  by_cases hst : s = t
  · subst hst; simp; omega
  · simp [hst]
theorem add_others {d l : List Item} {s : ByteArray} {m : Int} (h : addR d s m = (l, true)) {j : Nat} {t : ByteArray} {x : Int} (hj : d[j]? = some (t, x)) (hne : t ≠ s) : countI l t = x := by
  obtain ⟨hd, rfl, hl, _⟩ := add_yes h
  have A := (dict_parts hd).2.2.2
  unfold countI
  rw [if_pos hl, look_add A, if_neg (fun e => hne e.symm), look_of A (List.mem_of_getElem? hj)]
  rfl
theorem add_count {d l : List Item} {s : ByteArray} {m : Int} (h : addR d s m = (l, true)) : countI l s = countI d s + m ∧ 0 ≤ countI d s ∧ countI d s + m ≤ 1000000 := by
  obtain ⟨hd, rfl, hl, _, h1, h2, h3, _⟩ := add_yes h
  have A := (dict_parts hd).2.2.2
  unfold countI
  rw [if_pos hl, if_pos hd, look_add A, if_pos rfl]
  refine ⟨rfl, ?_, h3⟩
  cases hlk : lookD d s with
  | none => simp
  | some c =>
    have := (dict_parts hd).1 _ (look_mem hlk)
    simp only [countB, Bool.and_eq_true, decide_eq_true_eq] at this
    simp; omega
theorem walkFnDictAdd (HD : DrawnC 29 MorePost) (HCV : DictValidC) (HCC : DictCountC) (HCA : DictAddC) (A : Option Addr) (n c : Nat) (w : World) (h : Bytes w w.heap.size A n) (hnc : n ≤ c) (hc : c ≤ maxLen) :
    Calls Try.prog 6 #[.slice A n c] w fun e w' => e = .returned (.bool true) ∧ Below w.heap.size w w' := by
  have HD := Lib.hid HD
  have HCV := Lib.hid HCV
  have HCC := Lib.hid HCC
  have HCA := Lib.hid HCA
  have hn : n ≤ maxLen := Nat.le_trans hnc hc
  unfold maxLen at hn
  by_cases hn2 : (1048576 : Int) < n
  · go_enter Try.func6, Try.ntmps6
    go_wp2_with fail
    go_ret
    exact ⟨rfl, Below.refl _ _⟩
  · go_enter Try.func6, Try.ntmps6
    go_wp2_with fail
    refine (HD.out _ _ _ _ h hnc hc).mono ?_
    clear h
    rintro e w1 ⟨g, m, cap, d, s, x, rfl, own, hsm, hs, hx0, hx1, B1⟩
    have z1 := B1.size
    obtain ⟨hmc, hcm⟩ := own.caps
    have hl := own.len
    have hm64 : m ≤ 64 := by have := hsm.1; omega
    have hm : m ≤ 1048576 := by omega
    have hs' : s.size ≤ maxLen := by unfold maxLen; omega
    have H := own.recs
    clear own hsm
    have ix : I64 x := by unfold I64; omega
    have i1 : I64 1 := by unfold I64; omega
    obtain ⟨la, ba, ha⟩ : ∃ l b, addR d s x = (l, b) := ⟨_, _, rfl⟩
    have hla : la.length ≤ d.length + 1 := by have := addR_len d s x; rw [ha] at this; exact this
    cases ba
    · rcases add_refused ha with hre | hre
      · subst hre
        have hl0 : ([] : List Item).length = 0 := rfl
        have CA := Lib.hid (dictAddC_is HCA.out ha)
        have CS := Lib.hid (dictAddS_is ha)
        clear ha
        go_wp2_with fail
        refine (CA.out _ _ _ w1.heap.size _ hm hmc hcm H (by omega) hs' ix).mono ?_
        rintro e w2 ⟨Ax, nx, cx, rfl, ox, hb⟩
        have H := H.below (hb.mono (by omega))
        have B2 := below_step B1 (Nat.le_refl _) hb
        have z2 := hb.size
        clear B1 hb
        obtain ⟨nxc, cxm⟩ := ox.caps
        have nxl := ox.len
        have HX := ox.recs
        clear ox
        have nxb : nx ≤ 1048576 := by omega
        have nxx : nx ≤ maxLen := by omega
        go_wp2_with fail
        refine (CS.out _ _ _ _ w1.heap.size _ hm hmc hcm H (by omega) hs' ix).mono ?_
        rintro e w3 ⟨Ay, ny, cy, rfl, oy, hb⟩
        have H := H.below (hb.mono (by omega))
        have HX := HX.below (hb.mono (by omega))
        have B3 := below_step B2 (Nat.le_refl _) hb
        have z3 := hb.size
        clear B2 hb
        have hny : ny = nx := oy.len.symm.trans nxl
        subst ny
        have HY := oy.recs
        clear oy
        go_wp2_with fail
        refine (sameItems_same _ _ _ _ _ w3.heap.size _ _ nxx (HX.more (by omega)) HY).mono ?_
        rintro e w4 ⟨rfl, hb⟩
        have hb : Below w3.heap.size w3 w4 := hb.below
        have H := H.below (hb.mono (by omega))
        have HX := HX.below (hb.mono (by omega))
        have HY := HY.below (hb.mono (by omega))
        have B4 := below_step B3 (Nat.le_refl _) hb
        have z4 := hb.size
        clear B3 hb
        clear HY
        obtain rfl : nx = 0 := by omega
        go_wp2_with fail
        refine (alive_any _).mono ?_
        rintro e w5 ⟨rfl, hb⟩
        have hb : Below w4.heap.size w4 w5 := hb.below
        have H := H.below (hb.mono (by omega))
        have HX := HX.below (hb.mono (by omega))
        have B5 := below_step B4 (Nat.le_refl _) hb
        have z5 := hb.size
        clear B4 hb
        go_wp2_with fail
        go_ret
        exact ⟨rfl, B5⟩
      · subst hre
        have CA := Lib.hid (dictAddC_is HCA.out ha)
        have CS := Lib.hid (dictAddS_is ha)
        clear ha
        go_wp2_with fail
        refine (CA.out _ _ _ w1.heap.size _ hm hmc hcm H (by omega) hs' ix).mono ?_
        rintro e w2 ⟨Ax, nx, cx, rfl, ox, hb⟩
        have H := H.below (hb.mono (by omega))
        have B2 := below_step B1 (Nat.le_refl _) hb
        have z2 := hb.size
        clear B1 hb
        obtain ⟨nxc, cxm⟩ := ox.caps
        have nxl := ox.len
        have HX := ox.recs
        clear ox
        have nxb : nx ≤ 1048576 := by omega
        have nxx : nx ≤ maxLen := by omega
        go_wp2_with fail
        refine (CS.out _ _ _ _ w1.heap.size _ hm hmc hcm H (by omega) hs' ix).mono ?_
        rintro e w3 ⟨Ay, ny, cy, rfl, oy, hb⟩
        have H := H.below (hb.mono (by omega))
        have HX := HX.below (hb.mono (by omega))
        have B3 := below_step B2 (Nat.le_refl _) hb
        have z3 := hb.size
        clear B2 hb
        have hny : ny = nx := oy.len.symm.trans nxl
        subst ny
        have HY := oy.recs
        clear oy
        go_wp2_with fail
        refine (sameItems_same _ _ _ _ _ w3.heap.size _ _ nxx (HX.more (by omega)) HY).mono ?_
        rintro e w4 ⟨rfl, hb⟩
        have hb : Below w3.heap.size w3 w4 := hb.below
        have H := H.below (hb.mono (by omega))
        have HX := HX.below (hb.mono (by omega))
        have HY := HY.below (hb.mono (by omega))
        have B4 := below_step B3 (Nat.le_refl _) hb
        have z4 := hb.size
        clear B3 hb
        clear HY
        obtain rfl : nx = m := by omega
        by_cases hm0 : nx = 0
        · subst hm0
          go_wp2_with fail
          refine (alive_any _).mono ?_
          rintro e w5 ⟨rfl, hb⟩
          have hb : Below w4.heap.size w4 w5 := hb.below
          have H := H.below (hb.mono (by omega))
          have HX := HX.below (hb.mono (by omega))
          have B5 := below_step B4 (Nat.le_refl _) hb
          have z5 := hb.size
          clear B4 hb
          go_wp2_with fail
          go_ret
          exact ⟨rfl, B5⟩
        · have hq : ((nx : Int) == 0) = false := by simp; omega
          have hq0 : ¬ (nx : Int) = 0 := by omega
          go_wp2_with fail
          refine (sameItems_same _ _ _ _ _ w4.heap.size _ _ nxx (HX.more (by omega)) (H.more (by omega))).mono ?_
          rintro e w5 ⟨rfl, hb⟩
          have hb : Below w4.heap.size w4 w5 := hb.below
          have H := H.below (hb.mono (by omega))
          have HX := HX.below (hb.mono (by omega))
          have B5 := below_step B4 (Nat.le_refl _) hb
          have z5 := hb.size
          clear B4 hb
          go_wp2_with fail
          refine (alive_any _).mono ?_
          rintro e w6 ⟨rfl, hb⟩
          have hb : Below w5.heap.size w5 w6 := hb.below
          have H := H.below (hb.mono (by omega))
          have HX := HX.below (hb.mono (by omega))
          have B6 := below_step B5 (Nat.le_refl _) hb
          have z6 := hb.size
          clear B5 hb
          go_wp2_with fail
          go_ret
          exact ⟨rfl, B6⟩
    · have HADD := Lib.hid ha
      obtain ⟨hdd, -, hvl, -, hx2, hx3, -, -⟩ := add_yes ha
      obtain ⟨hcl, hc0, hc1⟩ := add_count ha
      obtain ⟨cn, hcn⟩ : ∃ cn, countI d s = cn := ⟨_, rfl⟩
      rw [hcn] at hcl hc0 hc1
      have CL := Lib.hid (dictCountC_is HCC.out hcl)
      have CD := Lib.hid (dictCountC_is HCC.out hcn)
      have CV := Lib.hid (dictValidC_is HCV.out hvl)
      clear hcl hcn hvl hdd
      have CA := Lib.hid (dictAddC_is HCA.out ha)
      have CS := Lib.hid (dictAddS_is ha)
      clear ha
      go_wp2_with fail
      refine (CA.out _ _ _ w1.heap.size _ hm hmc hcm H (by omega) hs' ix).mono ?_
      rintro e w2 ⟨Ax, nx, cx, rfl, ox, hb⟩
      have H := H.below (hb.mono (by omega))
      have B2 := below_step B1 (Nat.le_refl _) hb
      have z2 := hb.size
      clear B1 hb
      obtain ⟨nxc, cxm⟩ := ox.caps
      have nxl := ox.len
      have HX := ox.recs
      clear ox
      have nxb : nx ≤ 1048576 := by omega
      have nxx : nx ≤ maxLen := by omega
      go_wp2_with fail
      refine (CS.out _ _ _ _ w1.heap.size _ hm hmc hcm H (by omega) hs' ix).mono ?_
      rintro e w3 ⟨Ay, ny, cy, rfl, oy, hb⟩
      have H := H.below (hb.mono (by omega))
      have HX := HX.below (hb.mono (by omega))
      have B3 := below_step B2 (Nat.le_refl _) hb
      have z3 := hb.size
      clear B2 hb
      have hny : ny = nx := oy.len.symm.trans nxl
      subst ny
      have HY := oy.recs
      clear oy
      go_wp2_with fail
      refine (sameItems_same _ _ _ _ _ w3.heap.size _ _ nxx (HX.more (by omega)) HY).mono ?_
      rintro e w4 ⟨rfl, hb⟩
      have hb : Below w3.heap.size w3 w4 := hb.below
      have H := H.below (hb.mono (by omega))
      have HX := HX.below (hb.mono (by omega))
      have HY := HY.below (hb.mono (by omega))
      have B4 := below_step B3 (Nat.le_refl _) hb
      have z4 := hb.size
      clear B3 hb
      clear HY
      go_wp2_with fail
      go_loopw [10] (fun i wr => ∃ j : Nat, j ≤ m ∧ i = .int .i64 j ∧ Below w4.heap.size w4 wr) (fun i _ => m - (intOf i).toNat)
      case atStart => exact ⟨0, Nat.zero_le _, rfl, Below.refl _ _⟩
      case round =>
        obtain ⟨j, hj, rfl, hbel⟩ := hrel
        have hbz := hbel.size
        by_cases hlt : j < m
        · have HR := H.below (hbel.mono (by omega))
          have HXR := HX.below (hbel.mono (by omega))
          obtain ⟨b1, o1, s1, x1, hA1, hb1, hd1, hs1, hi1, c0, c1⟩ := items_at HR hlt
          injection hA1 with hA1; injection hA1 with e1 e2; subst e1; subst e2
          rw [Nat.zero_add] at c0 c1
          have i0 : (0 : Int) ≤ (j : Int) := by omega
          have i1 : (j : Int) < (m : Int) := by omega
          by_cases hse : s1 = s
          · subst hse
            have hq : (s1.toList == s1.toList) = true := by simp
            have hq2 : (s1.toList != s1.toList) = false := by simp
            clear hd1
            go_wp2_with fail
            go_quiet (fail)
            go_wp2_with fail
            go_roundw
            case rel => exact ⟨j + 1, by omega, by go_num, by first | exact hbel | exact hbel.drew | exact below_drewN hbel _⟩
            case measure => simp [intOf]; omega
          · have hq : (s1.toList == s.toList) = false := by rw [str_beq]; simpa using hse
            have hq2 : (s1.toList != s.toList) = true := by unfold bne; rw [hq]; rfl
            have hq3 : (x1 != x1) = false := by simp
            have hct := add_others HADD.out hd1 hse
            have CW := Lib.hid (fun (W : World) (h : Items W w2.heap.size Ax nx la) (hB : w2.heap.size ≤ W.heap.size) => dictCountC_is HCC.out hct Ax nx cx _ W nxb nxc cxm h hB hs1)
            clear hct hd1 hse
            go_wp2_with fail
            go_region_held3 (fun w' => w'.cell? ⟨g, j * 2, none⟩ = some (.string s1) ∧ w'.cell? ⟨g, j * 2 + 1, none⟩ = some (.int .i64 x1))
              (first | exact ⟨c0, c1⟩ | exact ⟨y0, y1⟩ | go_keep | assumption)
              (first
                | (go_at_call 26
                   (with_reducible refine (CW.out _ ?_ ?_).mono ?_)
                   · first | exact HXR | exact HXR.drawn (Drawn.drew1 _)
                   · first | omega | (simp; omega)
                   rintro e w4 ⟨rfl, hb4⟩
                   have hb4' : Below wr.heap.size wr w4 := ⟨hb4.os, hb4.tape, hb4.output, hb4.size, hb4.block⟩
                   have y0 := (hb4'.cell (p := ⟨g, j * 2, none⟩) (show g < wr.heap.size by omega)).trans c0
                   have y1 := (hb4'.cell (p := ⟨g, j * 2 + 1, none⟩) (show g < wr.heap.size by omega)).trans c1
                   have hb4' := below_step hbel (Nat.le_refl _) hb4')
                | fail)
            all_goals
              go_wp2_with fail
              go_roundw
              case rel => exact ⟨j + 1, by omega, by go_num, by first | exact hb4' | exact hb4'.drew⟩
              case measure => simp [intOf]; omega
        · obtain rfl : j = m := by omega
          clear hlt hj
          have H := H.below (hbel.mono (by omega))
          have HX := HX.below (hbel.mono (by omega))
          have Br := below_step B4 (Nat.le_refl _) hbel
          clear hbel
          have zq : w1.heap.size ≤ wr.heap.size := by omega
          have zx : w2.heap.size ≤ wr.heap.size := by omega
          have hcw : IntKind.i64.wrap (cn + x) = cn + x := IntWalk.i64_in _ (by omega)
          have hmw : IntKind.i64.wrap ((j : Int) + 1) = (j : Int) + 1 := IntWalk.i64_in _ (by omega)
          have hnx : (nx : Int) ≤ (j : Int) + 1 := by omega
          have hqc : (cn + x == cn + x) = true := by simp
          by_cases hx4 : 1 < x
          · obtain ⟨lp, hp1, hp2⟩ := add_two HADD.out hx4
            have hlp : lp.length ≤ d.length + 1 := by have := addR_len d s (x - 1); rw [hp1] at this; exact this
            have CP := Lib.hid (dictAddC_is HCA.out hp1)
            have CQ := Lib.hid (dictAddC_is HCA.out hp2)
            clear hp1 hp2
            have hxw : IntKind.i64.wrap (x - 1) = x - 1 := IntWalk.i64_in _ (by omega)
            go_wp2_with fail
            refine (CP.out _ _ _ w1.heap.size _ hm hmc hcm H (by omega) hs' (by unfold I64; omega)).mono ?_
            rintro e w5 ⟨Ap, np, cp, rfl, op, hb⟩
            have H := H.below (hb.mono (by omega))
            have HX := HX.below (hb.mono (by omega))
            have B5 := below_step Br (Nat.le_refl _) hb
            have z5 := hb.size
            clear Br hb
            obtain ⟨npc, cpm⟩ := op.caps
            have npl := op.len
            have HP := op.recs
            clear op
            have npb : np ≤ 1048576 := by omega
            have npx : np ≤ maxLen := by omega
            go_wp2_with fail
            refine (CQ.out _ _ _ w5.heap.size _ npb npc cpm HP (by omega) hs' i1).mono ?_
            rintro e w6 ⟨Aq, nq, cq, rfl, oq, hb⟩
            have H := H.below (hb.mono (by omega))
            have HX := HX.below (hb.mono (by omega))
            have HP := HP.below (hb.mono (by omega))
            have B6 := below_step B5 (Nat.le_refl _) hb
            have z6 := hb.size
            clear B5 hb
            clear HP
            have hnq : nq = nx := oq.len.symm.trans nxl
            subst nq
            have HQ := oq.recs
            clear oq
            go_wp2_with fail
            refine (sameItems_same _ _ _ _ _ w6.heap.size _ _ nxx HQ (HX.more (by omega))).mono ?_
            rintro e w7 ⟨rfl, hb⟩
            have hb : Below w6.heap.size w6 w7 := hb.below
            have H := H.below (hb.mono (by omega))
            have HX := HX.below (hb.mono (by omega))
            have HQ := HQ.below (hb.mono (by omega))
            have B7 := below_step B6 (Nat.le_refl _) hb
            have z7 := hb.size
            clear B6 hb
            clear HQ
            go_wp2_with fail
            refine (CV.out _ _ _ w2.heap.size _ nxb nxc cxm HX (by omega)).mono ?_
            rintro e w8 ⟨rfl, hb⟩
            have H := H.below (hb.mono (by omega))
            have HX := HX.below (hb.mono (by omega))
            have B8 := below_step B7 (Nat.le_refl _) hb
            have z8 := hb.size
            clear B7 hb
            go_wp2_with fail
            refine (CL.out _ _ _ w2.heap.size _ nxb nxc cxm HX (by omega) hs').mono ?_
            rintro e w9 ⟨rfl, hb⟩
            have H := H.below (hb.mono (by omega))
            have HX := HX.below (hb.mono (by omega))
            have B9 := below_step B8 (Nat.le_refl _) hb
            have z9 := hb.size
            clear B8 hb
            go_wp2_with fail
            refine (CD.out _ _ _ w1.heap.size _ hm hmc hcm H (by omega) hs').mono ?_
            rintro e w10 ⟨rfl, hb⟩
            have H := H.below (hb.mono (by omega))
            have HX := HX.below (hb.mono (by omega))
            have B10 := below_step B9 (Nat.le_refl _) hb
            have z10 := hb.size
            clear B9 hb
            go_wp2_with fail
            go_ret
            exact ⟨rfl, B10⟩
          · skip
            go_wp2_with fail
            refine (CV.out _ _ _ w2.heap.size _ nxb nxc cxm HX (by omega)).mono ?_
            rintro e w5 ⟨rfl, hb⟩
            have H := H.below (hb.mono (by omega))
            have HX := HX.below (hb.mono (by omega))
            have B5 := below_step Br (Nat.le_refl _) hb
            have z5 := hb.size
            clear Br hb
            go_wp2_with fail
            refine (CL.out _ _ _ w2.heap.size _ nxb nxc cxm HX (by omega) hs').mono ?_
            rintro e w6 ⟨rfl, hb⟩
            have H := H.below (hb.mono (by omega))
            have HX := HX.below (hb.mono (by omega))
            have B6 := below_step B5 (Nat.le_refl _) hb
            have z6 := hb.size
            clear B5 hb
            go_wp2_with fail
            refine (CD.out _ _ _ w1.heap.size _ hm hmc hcm H (by omega) hs').mono ?_
            rintro e w7 ⟨rfl, hb⟩
            have H := H.below (hb.mono (by omega))
            have HX := HX.below (hb.mono (by omega))
            have B7 := below_step B6 (Nat.le_refl _) hb
            have z7 := hb.size
            clear B6 hb
            go_wp2_with fail
            go_ret
            exact ⟨rfl, B7⟩
end Go.Proofs.Ytopjhdgpdcdklaa
