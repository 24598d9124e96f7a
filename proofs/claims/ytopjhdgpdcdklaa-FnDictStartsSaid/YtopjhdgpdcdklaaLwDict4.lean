/- The walk of the law FnDictOrder, over contracts (written by wip/tools/gendict3.py). -/
import Derived.Test.YtopjhdgpdcdklaaLwDict3
namespace Go.Proofs.Ytopjhdgpdcdklaa
open Go.RowKit
set_option maxHeartbeats 1600000
set_option linter.unusedSimpArgs false
set_option linter.unusedVariables false

theorem Bytes.at_world {w w' : World} {B n : Nat} {A : Option Addr} (h : Bytes w B A n) (hb : Below B w w') (hB : B ≤ w'.heap.size) : Bytes w' w'.heap.size A n := by
  intro hn
  obtain ⟨b, o, hA, hlt, hc⟩ := h hn
  exact ⟨b, o, hA, by omega, fun j hj => by
    obtain ⟨x, x0, x1, hx⟩ := hc j hj
    exact ⟨x, x0, x1, (hb.cell (p := ⟨b, o + j, none⟩) hlt).trans hx⟩⟩
theorem walkFnDictOrder (HD : DrawnC 29 MorePost) (HCA : DictAddC) (A : Option Addr) (n c : Nat) (A2 : Option Addr) (n2 c2 : Nat) (w : World) (h : Bytes w w.heap.size A n) (hnc : n ≤ c) (hc : c ≤ maxLen) (h2 : Bytes w w.heap.size A2 n2) (hnc2 : n2 ≤ c2) (hc2 : c2 ≤ maxLen) :
    Calls Try.prog 9 #[.slice A n c, .slice A2 n2 c2] w fun e w' => e = .returned (.bool true) ∧ Below w.heap.size w w' := by
  have HD := Lib.hid HD
  have HCA := Lib.hid HCA
  have hn : n ≤ maxLen := Nat.le_trans hnc hc
  have hn2 : n2 ≤ maxLen := Nat.le_trans hnc2 hc2
  unfold maxLen at hn hn2
  by_cases q1 : (1048576 : Int) < n
  · go_enter Try.func9, Try.ntmps9
    go_wp2_with fail
    go_ret
    exact ⟨rfl, Below.refl _ _⟩
  by_cases q2 : (1048576 : Int) < n2
  · go_enter Try.func9, Try.ntmps9
    go_wp2_with fail
    go_ret
    exact ⟨rfl, Below.refl _ _⟩
  · go_enter Try.func9, Try.ntmps9
    go_wp2_with fail
    refine (HD.out _ _ _ _ h hnc hc).mono ?_
    clear h
    rintro e w1 ⟨g, m, cap, d, s, x, rfl, own, hsm, hs, hx0, hx1, B1⟩
    have z1 := B1.size
    have h2 := h2.at_world B1 z1
    obtain ⟨hmc, hcm⟩ := own.caps
    have hl := own.len
    have hm64 : m ≤ 64 := by have := hsm.1; omega
    have hm : m ≤ 1048576 := by omega
    have hs' : s.size ≤ maxLen := by unfold maxLen; omega
    have H := own.recs
    clear own hsm
    go_wp2_with fail
    refine (HD.out _ _ _ _ h2 hnc2 hc2).mono ?_
    clear h2
    rintro e w2 ⟨g2, m2, cap2, d2, t, x2, rfl, own2, hsm2, ht, hx20, hx21, hb⟩
    clear own2 hsm2 hx20 hx21
    have ht' : t.size ≤ maxLen := by unfold maxLen; omega
    have H := H.below (hb.mono (by omega))
    have B2 := below_step B1 (Nat.le_refl _) hb
    have z2 := hb.size
    clear B1 hb
    have ix : I64 x := by unfold I64; omega
    have i1 : I64 1 := by unfold I64; omega
    obtain ⟨la, ba, ha⟩ : ∃ l b, addR d s x = (l, b) := ⟨_, _, rfl⟩
    have hla : la.length ≤ d.length + 1 := by have := addR_len d s x; rw [ha] at this; exact this
    obtain ⟨lb, bb, hb⟩ : ∃ l b, addR la t 1 = (l, b) := ⟨_, _, rfl⟩
    have hlb : lb.length ≤ la.length + 1 := by have := addR_len la t 1; rw [hb] at this; exact this
    obtain ⟨lc, bc, hc'⟩ : ∃ l b, addR d t 1 = (l, b) := ⟨_, _, rfl⟩
    have hlc : lc.length ≤ d.length + 1 := by have := addR_len d t 1; rw [hc'] at this; exact this
    obtain ⟨le, be, he⟩ : ∃ l b, addR lc s x = (l, b) := ⟨_, _, rfl⟩
    have hle : le.length ≤ lc.length + 1 := by have := addR_len lc s x; rw [he] at this; exact this
    have HEQ := Lib.hid (show ba = true → bb = true → bc = true → be = true → lb = le from fun q1 q2 q3 q4 => by subst q1; subst q2; subst q3; subst q4; exact add_comm d s t x 1 ha hb hc' he)
    have CA := Lib.hid (dictAddC_is HCA.out ha)
    have CS := Lib.hid (dictAddS_is ha)
    have CB := Lib.hid (dictAddC_is HCA.out hb)
    have CC := Lib.hid (dictAddC_is HCA.out hc')
    have CE := Lib.hid (dictAddC_is HCA.out he)
    clear ha hb hc' he
    go_wp2_with fail
    refine (CA.out _ _ _ w1.heap.size _ hm hmc hcm H (by omega) hs' ix).mono ?_
    rintro e w3 ⟨Ax, nx, cx, rfl, ox, hb⟩
    have H := H.below (hb.mono (by omega))
    have B3 := below_step B2 (Nat.le_refl _) hb
    have z3 := hb.size
    clear B2 hb
    obtain ⟨nxc, cxm⟩ := ox.caps
    have nxl := ox.len
    have HX := ox.recs
    clear ox
    have nxb : nx ≤ 1048576 := by omega
    have nxx : nx ≤ maxLen := by omega
    go_wp2_with fail
    refine (CS.out _ _ _ _ w1.heap.size _ hm hmc hcm H (by omega) hs' ix).mono ?_
    rintro e w4 ⟨Ay, ny, cy, rfl, oy, hb⟩
    have H := H.below (hb.mono (by omega))
    have HX := HX.below (hb.mono (by omega))
    have B4 := below_step B3 (Nat.le_refl _) hb
    have z4 := hb.size
    clear B3 hb
    have hny : ny = nx := oy.len.symm.trans nxl
    subst ny
    have HY := oy.recs
    clear oy
    go_wp2_with fail
    refine (sameItems_same _ _ _ _ _ w4.heap.size _ _ nxx (HX.more (by omega)) HY).mono ?_
    rintro e w5 ⟨rfl, hb⟩
    have hb : Below w4.heap.size w4 w5 := hb.below
    have H := H.below (hb.mono (by omega))
    have HX := HX.below (hb.mono (by omega))
    have HY := HY.below (hb.mono (by omega))
    have B5 := below_step B4 (Nat.le_refl _) hb
    have z5 := hb.size
    clear B4 hb
    clear HY
    have hqa : (ba != ba) = false := by simp
    go_wp2_with fail
    refine (CB.out _ _ _ w3.heap.size _ nxb nxc cxm HX (by omega) ht' i1).mono ?_
    rintro e w6 ⟨Ab, nb, cb, rfl, ob, hb⟩
    have H := H.below (hb.mono (by omega))
    have HX := HX.below (hb.mono (by omega))
    have B6 := below_step B5 (Nat.le_refl _) hb
    have z6 := hb.size
    clear B5 hb
    obtain ⟨nbc, cbm⟩ := ob.caps
    have nbl := ob.len
    have HB := ob.recs
    clear ob
    have nbb : nb ≤ 1048576 := by omega
    have nbx : nb ≤ maxLen := by omega
    clear HX
    go_wp2_with fail
    refine (CC.out _ _ _ w1.heap.size _ hm hmc hcm H (by omega) ht' i1).mono ?_
    rintro e w7 ⟨Ac, nc, cc, rfl, oc, hb⟩
    have H := H.below (hb.mono (by omega))
    have HB := HB.below (hb.mono (by omega))
    have B7 := below_step B6 (Nat.le_refl _) hb
    have z7 := hb.size
    clear B6 hb
    obtain ⟨ncc, ccm⟩ := oc.caps
    have ncl := oc.len
    have HC2 := oc.recs
    clear oc
    have ncb : nc ≤ 1048576 := by omega
    have ncx : nc ≤ maxLen := by omega
    clear H
    go_wp2_with fail
    refine (CE.out _ _ _ w7.heap.size _ ncb ncc ccm HC2 (by omega) hs' ix).mono ?_
    rintro e w8 ⟨Ae, ne, ce, rfl, oe, hb⟩
    have HB := HB.below (hb.mono (by omega))
    have HC2 := HC2.below (hb.mono (by omega))
    have B8 := below_step B7 (Nat.le_refl _) hb
    have z8 := hb.size
    clear B7 hb
    obtain ⟨nec, cem⟩ := oe.caps
    have nel := oe.len
    have HE := oe.recs
    clear oe
    have neb : ne ≤ 1048576 := by omega
    have nex : ne ≤ maxLen := by omega
    clear HC2
    clear hqa
    cases ba
    · clear HEQ
      go_wp2_with fail
      refine (alive_any _).mono ?_
      rintro e w9 ⟨rfl, hb⟩
      have hb : Below w8.heap.size w8 w9 := hb.below
      have HB := HB.below (hb.mono (by omega))
      have HE := HE.below (hb.mono (by omega))
      have B9 := below_step B8 (Nat.le_refl _) hb
      have z9 := hb.size
      clear B8 hb
      go_wp2_with fail
      go_ret
      exact ⟨rfl, B9⟩
    · skip
      cases bb
      · clear HEQ
        go_wp2_with fail
        refine (alive_any _).mono ?_
        rintro e w9 ⟨rfl, hb⟩
        have hb : Below w8.heap.size w8 w9 := hb.below
        have HB := HB.below (hb.mono (by omega))
        have HE := HE.below (hb.mono (by omega))
        have B9 := below_step B8 (Nat.le_refl _) hb
        have z9 := hb.size
        clear B8 hb
        go_wp2_with fail
        go_ret
        exact ⟨rfl, B9⟩
      · skip
        cases bc
        · clear HEQ
          go_wp2_with fail
          refine (alive_any _).mono ?_
          rintro e w9 ⟨rfl, hb⟩
          have hb : Below w8.heap.size w8 w9 := hb.below
          have HB := HB.below (hb.mono (by omega))
          have HE := HE.below (hb.mono (by omega))
          have B9 := below_step B8 (Nat.le_refl _) hb
          have z9 := hb.size
          clear B8 hb
          go_wp2_with fail
          go_ret
          exact ⟨rfl, B9⟩
        · skip
          cases be
          · clear HEQ
            go_wp2_with fail
            refine (alive_any _).mono ?_
            rintro e w9 ⟨rfl, hb⟩
            have hb : Below w8.heap.size w8 w9 := hb.below
            have HB := HB.below (hb.mono (by omega))
            have HE := HE.below (hb.mono (by omega))
            have B9 := below_step B8 (Nat.le_refl _) hb
            have z9 := hb.size
            clear B8 hb
            go_wp2_with fail
            go_ret
            exact ⟨rfl, B9⟩
          · skip
            have hle := HEQ.out rfl rfl rfl rfl
            subst hle
            have hne : ne = nb := nel.symm.trans nbl
            subst hne
            go_wp2_with fail
            refine (sameItems_same _ _ _ _ _ w8.heap.size _ _ nex (HB.more (by omega)) (HE.more (by omega))).mono ?_
            rintro e w9 ⟨rfl, hb⟩
            have hb : Below w8.heap.size w8 w9 := hb.below
            have HB := HB.below (hb.mono (by omega))
            have HE := HE.below (hb.mono (by omega))
            have B9 := below_step B8 (Nat.le_refl _) hb
            have z9 := hb.size
            clear B8 hb
            go_wp2_with fail
            refine (alive_any _).mono ?_
            rintro e w10 ⟨rfl, hb⟩
            have hb : Below w9.heap.size w9 w10 := hb.below
            have HB := HB.below (hb.mono (by omega))
            have HE := HE.below (hb.mono (by omega))
            have B10 := below_step B9 (Nat.le_refl _) hb
            have z10 := hb.size
            clear B9 hb
            go_wp2_with fail
            go_ret
            exact ⟨rfl, B10⟩
end Go.Proofs.Ytopjhdgpdcdklaa
