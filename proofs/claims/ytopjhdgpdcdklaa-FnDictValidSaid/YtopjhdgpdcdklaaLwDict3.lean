/- The walks of the laws FnDictDrop, FnDictOrder, over contracts (written by wip/tools/gendict3.py). -/
import Derived.Test.YtopjhdgpdcdklaaLwDict2
namespace Go.Proofs.Ytopjhdgpdcdklaa
open Go.RowKit
set_option maxHeartbeats 1600000
set_option linter.unusedSimpArgs false
set_option linter.unusedVariables false

/-- a row of items and a bool, apart -/
def OwnIs (l : List Item) (b : Bool) (w : World) (e : Ending) (w' : World) : Prop :=
  ∃ (A : Option Addr) (m cap : Nat), e = .returned (.tuple #[.slice A m cap, .bool b]) ∧ OwnItems w' w.heap.size A m cap l ∧ Below w.heap.size w w'
theorem dictDropC_is (HC : DictDropC) {d l : List Item} {s : ByteArray} {b : Bool} (hv : dropR d s = (l, b)) (A : Option Addr) (n c B : Nat) (w : World) (hn : n ≤ 1048576) (hnc : n ≤ c) (hc : c ≤ maxLen) (h : Items w B A n d) (hB : B ≤ w.heap.size) (hs : s.size ≤ maxLen) :
    Calls Try.prog 34 #[.slice A n c, .string s] w (OwnIs l b w) := by
  have := HC A n c B d s w hn hnc hc h hB hs
  rw [hv] at this
  exact this
theorem dictDropS_is {d l : List Item} {s : ByteArray} {b : Bool} (hv : dropR d s = (l, b)) (A : Option Addr) (n c B : Nat) (w : World) (hn : n ≤ 1048576) (h : Items w B A n d) (hB : B ≤ w.heap.size) :
    Calls Try.prog 35 #[.slice A n c, .string s] w (OwnIs l b w) := by
  have := dictDrop_spec A n c B d s w hn h hB
  rw [hv] at this
  exact this
theorem dictAddC_is (HC : DictAddC) {d l : List Item} {s : ByteArray} {x : Int} {b : Bool} (hv : addR d s x = (l, b)) (A : Option Addr) (n c B : Nat) (w : World) (hn : n ≤ 1048576) (hnc : n ≤ c) (hc : c ≤ maxLen) (h : Items w B A n d) (hB : B ≤ w.heap.size) (hs : s.size ≤ maxLen) (hx : I64 x) :
    Calls Try.prog 30 #[.slice A n c, .string s, .int .i64 x] w (OwnIs l b w) := by
  have := HC A n c B d s x w hn hnc hc h hB hs hx
  rw [hv] at this
  exact this
theorem dictAddS_is {d l : List Item} {s : ByteArray} {x : Int} {r : Bool} (hv : addR d s x = (l, r)) (b o n c B : Nat) (w : World) (hn : n ≤ 1048576) (hnc : n ≤ c) (hc : c ≤ maxLen) (h : Items w B (some ⟨b, o, none⟩) n d) (hB : B ≤ w.heap.size) (hs : s.size ≤ maxLen) (hx : I64 x) :
    Calls Try.prog 31 #[.slice (some ⟨b, o, none⟩) n c, .string s, .int .i64 x] w (OwnIs l r w) := by
  have := dictAdd_spec b o n c B d s x w hn hnc hc h hB hs hx
  rw [hv] at this
  exact this
/-- the three cases of a drop -/
theorem drop_cases (d : List Item) (s : ByteArray) : dropR d s = ([], false) ∨ (dropR d s = (d, false)) ∨
    ∃ (e : List Item) (c : Int), dropR d s = (e, true) ∧ dropR e s = (e, false) ∧ addR e s c = (d, true) ∧ countI d s = c ∧ countI e s = 0 ∧ dictB e = true ∧ 0 ≤ c ∧ c ≤ 1000000 ∧ e.length ≤ d.length := by
  unfold dropR
  cases hv : dictB d
  · exact .inl rfl
  · cases hl : lookD d s with
    | none => right; left; rw [if_pos rfl, drop_none hl]; rfl
    | some c =>
      right; right
      obtain ⟨h1, h2, h3, h4⟩ := dict_parts hv
      have hmem := look_mem hl
      have hc := h1 _ hmem
      have hf := h3 _ hmem
      simp only [countB, Bool.and_eq_true, decide_eq_true_eq] at hc
      have he : dictB (dropL d s) = true := dict_filter hv _
      have hle : lookD (dropL d s) s = none := by rw [look_drop, if_pos rfl]
      have hlt : (dropL d s).length < d.length := (drop_shorter d s).2 (by rw [hl]; rfl)
      have hea := (dict_parts he).2.2.2
      have hadd : addL (dropL d s) s c = d := dict_ext (asc_add hea s c) h4 (fun t => by
        rw [look_add hea, look_drop, look_drop, if_pos rfl]
        by_cases hst : s = t
        · subst hst; rw [if_pos rfl, hl]; simp
        · rw [if_neg hst, if_neg hst])
      refine ⟨dropL d s, c, by rw [if_pos rfl]; rfl, by rw [if_pos he, drop_none hle, hle]; rfl, ?_, ?_, ?_, he, by omega, by omega, by omega⟩
      · unfold addR
        have hb : countB c = true := by simp only [countB, Bool.and_eq_true, decide_eq_true_eq]; omega
        have hok : addOkB (dropL d s) s c = true := by unfold addOkB; rw [hle]; simp only [decide_eq_true_eq]; omega
        rw [he, hf, hb, hok, hadd]; rfl
      · unfold countI; rw [if_pos hv, hl]; rfl
      · unfold countI; rw [if_pos he, hle]; rfl
theorem add_wide (d : List Item) (s : ByteArray) (x : Int) : (addR d s x).1.length ≤ d.length + 1 := addR_len d s x
/-- the order of adding does not matter -/
theorem add_comm (d : List Item) (s t : ByteArray) (m k : Int) {a b c e : List Item} (h1 : addR d s m = (a, true)) (h2 : addR a t k = (b, true)) (h3 : addR d t k = (c, true)) (h4 : addR c s m = (e, true)) : b = e := by
  have split : ∀ (x : List Item) (s : ByteArray) (m : Int) (y : List Item), addR x s m = (y, true) → dictB x = true ∧ y = addL x s m ∧ dictB y = true := by
    intro x s m y h
    unfold addR at h
    split at h
    · rename_i hc
      simp only [Bool.and_eq_true] at hc
      split at h
      · rename_i hok
        injection h with h _
        subst h
        refine ⟨hc.1.1, rfl, ?_⟩
        have hm := hc.2
        simp only [countB, Bool.and_eq_true, decide_eq_true_eq] at hm
        unfold addOkB at hok
        cases hl : lookD x s with
        | none =>
          rw [hl] at hok
          simp only [decide_eq_true_eq] at hok
          exact dict_add hc.1.1 hc.1.2 hm.1 (by rw [hl]; simpa using hm.2) (.inr hok)
        | some c =>
          rw [hl] at hok
          simp only [decide_eq_true_eq] at hok
          exact dict_add hc.1.1 hc.1.2 hm.1 (by rw [hl]; simpa using hok) (.inl (by rw [hl]; rfl))
      · injection h with _ h; cases h
    · injection h with _ h; cases h
  obtain ⟨hd, ha, hda⟩ := split _ _ _ _ h1
  obtain ⟨_, hb, hdb⟩ := split _ _ _ _ h2
  obtain ⟨_, hc, hdc⟩ := split _ _ _ _ h3
  obtain ⟨_, he, hde⟩ := split _ _ _ _ h4
  have A := (dict_parts hd).2.2.2
  refine dict_ext (dict_parts hdb).2.2.2 (dict_parts hde).2.2.2 (fun u => ?_)
  rw [hb, he, look_add (dict_parts hda).2.2.2, look_add (dict_parts hdc).2.2.2, ha, hc, look_add A, look_add A, look_add A, look_add A]
  by_cases p : t = u <;> by_cases q : s = u <;> by_cases r : s = t <;> simp_all
  all_goals omega
theorem walkFnDictDrop (HD : DrawnC 33 AskedPost) (HCV : DictValidC) (HCC : DictCountC) (HCA : DictAddC) (HCR : DictDropC) (A : Option Addr) (n c : Nat) (w : World) (h : Bytes w w.heap.size A n) (hnc : n ≤ c) (hc : c ≤ maxLen) :
    Calls Try.prog 7 #[.slice A n c] w fun e w' => e = .returned (.bool true) ∧ Below w.heap.size w w' := by
  have HD := Lib.hid HD
  have HCV := Lib.hid HCV
  have HCC := Lib.hid HCC
  have HCA := Lib.hid HCA
  have HCR := Lib.hid HCR
  have hn : n ≤ maxLen := Nat.le_trans hnc hc
  unfold maxLen at hn
  by_cases hn2 : (1048576 : Int) < n
  · go_enter Try.func7, Try.ntmps7
    go_wp2_with fail
    go_ret
    exact ⟨rfl, Below.refl _ _⟩
  · go_enter Try.func7, Try.ntmps7
    go_wp2_with fail
    refine (HD.out _ _ _ _ h hnc hc).mono ?_
    clear h
    rintro e w1 ⟨g, m, cap, d, s, rfl, own, hsm, hs, B1⟩
    have z1 := B1.size
    obtain ⟨hmc, hcm⟩ := own.caps
    have hl := own.len
    have hm64 : m ≤ 64 := by have := hsm.1; omega
    have hm : m ≤ 1048576 := by omega
    have hs' : s.size ≤ maxLen := by unfold maxLen; omega
    have H := own.recs
    clear own hsm
    have nb : ∀ l : List Item, l.length ≤ d.length + 1 → l.length ≤ 65 := by intro l hl; omega
    rcases drop_cases d s with hr | hr | ⟨e, ct, hr, hr2, ha, hct, hce, hve, hc0, hc1, hel⟩
    · have hl0 : ([] : List Item).length = 0 := rfl
      have CI := Lib.hid (dictDropC_is HCR.out hr)
      have CS := Lib.hid (dictDropS_is hr)
      clear hr
      go_wp2_with fail
      refine (CI.out _ _ _ w1.heap.size _ hm hmc hcm H (by omega) hs').mono ?_
      rintro e w2 ⟨Ax, nx, cx, rfl, ox, hb⟩
      have H := H.below (hb.mono (by omega))
      have B2 := below_step B1 (Nat.le_refl _) hb
      have z2 := hb.size
      clear B1 hb
      obtain ⟨nxc, cxm⟩ := ox.caps
      have nxl := ox.len
      have HX := ox.recs
      clear ox
      have nxb : nx ≤ 1048576 := by omega
      have nxx : nx ≤ maxLen := by omega
      go_wp2_with fail
      refine (CS.out _ _ _ w1.heap.size _ hm H (by omega)).mono ?_
      rintro e w3 ⟨Ay, ny, cy, rfl, oy, hb⟩
      have H := H.below (hb.mono (by omega))
      have HX := HX.below (hb.mono (by omega))
      have B3 := below_step B2 (Nat.le_refl _) hb
      have z3 := hb.size
      clear B2 hb
      have hny : ny = nx := oy.len.symm.trans nxl
      subst ny
      have HY := oy.recs
      clear oy
      go_wp2_with fail
      refine (sameItems_same _ _ _ _ _ w3.heap.size _ _ nxx (HX.more (by omega)) HY).mono ?_
      rintro e w4 ⟨rfl, hb⟩
      have hb : Below w3.heap.size w3 w4 := hb.below
      have H := H.below (hb.mono (by omega))
      have HX := HX.below (hb.mono (by omega))
      have HY := HY.below (hb.mono (by omega))
      have B4 := below_step B3 (Nat.le_refl _) hb
      have z4 := hb.size
      clear B3 hb
      clear HY
      obtain rfl : nx = 0 := by omega
      go_wp2_with fail
      refine (alive_any _).mono ?_
      rintro e w5 ⟨rfl, hb⟩
      have hb : Below w4.heap.size w4 w5 := hb.below
      have H := H.below (hb.mono (by omega))
      have HX := HX.below (hb.mono (by omega))
      have B5 := below_step B4 (Nat.le_refl _) hb
      have z5 := hb.size
      clear B4 hb
      go_wp2_with fail
      go_ret
      exact ⟨rfl, B5⟩
    · have hlw := hl
      have CI := Lib.hid (dictDropC_is HCR.out hr)
      have CS := Lib.hid (dictDropS_is hr)
      clear hr
      go_wp2_with fail
      refine (CI.out _ _ _ w1.heap.size _ hm hmc hcm H (by omega) hs').mono ?_
      rintro e w2 ⟨Ax, nx, cx, rfl, ox, hb⟩
      have H := H.below (hb.mono (by omega))
      have B2 := below_step B1 (Nat.le_refl _) hb
      have z2 := hb.size
      clear B1 hb
      obtain ⟨nxc, cxm⟩ := ox.caps
      have nxl := ox.len
      have HX := ox.recs
      clear ox
      have nxb : nx ≤ 1048576 := by omega
      have nxx : nx ≤ maxLen := by omega
      go_wp2_with fail
      refine (CS.out _ _ _ w1.heap.size _ hm H (by omega)).mono ?_
      rintro e w3 ⟨Ay, ny, cy, rfl, oy, hb⟩
      have H := H.below (hb.mono (by omega))
      have HX := HX.below (hb.mono (by omega))
      have B3 := below_step B2 (Nat.le_refl _) hb
      have z3 := hb.size
      clear B2 hb
      have hny : ny = nx := oy.len.symm.trans nxl
      subst ny
      have HY := oy.recs
      clear oy
      go_wp2_with fail
      refine (sameItems_same _ _ _ _ _ w3.heap.size _ _ nxx (HX.more (by omega)) HY).mono ?_
      rintro e w4 ⟨rfl, hb⟩
      have hb : Below w3.heap.size w3 w4 := hb.below
      have H := H.below (hb.mono (by omega))
      have HX := HX.below (hb.mono (by omega))
      have HY := HY.below (hb.mono (by omega))
      have B4 := below_step B3 (Nat.le_refl _) hb
      have z4 := hb.size
      clear B3 hb
      clear HY
      obtain rfl : nx = m := by omega
      by_cases hm0 : nx = 0
      · subst hm0
        go_wp2_with fail
        refine (alive_any _).mono ?_
        rintro e w5 ⟨rfl, hb⟩
        have hb : Below w4.heap.size w4 w5 := hb.below
        have H := H.below (hb.mono (by omega))
        have HX := HX.below (hb.mono (by omega))
        have B5 := below_step B4 (Nat.le_refl _) hb
        have z5 := hb.size
        clear B4 hb
        go_wp2_with fail
        go_ret
        exact ⟨rfl, B5⟩
      · have hq : ((nx : Int) == 0) = false := by simp; omega
        have hq0 : ¬ (nx : Int) = 0 := by omega
        go_wp2_with fail
        refine (sameItems_same _ _ _ _ _ w4.heap.size _ _ nxx (HX.more (by omega)) (H.more (by omega))).mono ?_
        rintro e w5 ⟨rfl, hb⟩
        have hb : Below w4.heap.size w4 w5 := hb.below
        have H := H.below (hb.mono (by omega))
        have HX := HX.below (hb.mono (by omega))
        have B5 := below_step B4 (Nat.le_refl _) hb
        have z5 := hb.size
        clear B4 hb
        go_wp2_with fail
        refine (alive_any _).mono ?_
        rintro e w6 ⟨rfl, hb⟩
        have hb : Below w5.heap.size w5 w6 := hb.below
        have H := H.below (hb.mono (by omega))
        have HX := HX.below (hb.mono (by omega))
        have B6 := below_step B5 (Nat.le_refl _) hb
        have z6 := hb.size
        clear B5 hb
        go_wp2_with fail
        go_ret
        exact ⟨rfl, B6⟩
    · have CR := Lib.hid (dictDropC_is HCR.out hr2)
      have CC := Lib.hid (dictCountC_is HCC.out hct)
      have CE := Lib.hid (dictCountC_is HCC.out hce)
      have CA := Lib.hid (dictAddC_is HCA.out ha)
      have CV := Lib.hid (dictValidC_is HCV.out hve)
      clear hr2 hct hce ha hve
      have CI := Lib.hid (dictDropC_is HCR.out hr)
      have CS := Lib.hid (dictDropS_is hr)
      clear hr
      go_wp2_with fail
      refine (CI.out _ _ _ w1.heap.size _ hm hmc hcm H (by omega) hs').mono ?_
      rintro e w2 ⟨Ax, nx, cx, rfl, ox, hb⟩
      have H := H.below (hb.mono (by omega))
      have B2 := below_step B1 (Nat.le_refl _) hb
      have z2 := hb.size
      clear B1 hb
      obtain ⟨nxc, cxm⟩ := ox.caps
      have nxl := ox.len
      have HX := ox.recs
      clear ox
      have nxb : nx ≤ 1048576 := by omega
      have nxx : nx ≤ maxLen := by omega
      go_wp2_with fail
      refine (CS.out _ _ _ w1.heap.size _ hm H (by omega)).mono ?_
      rintro e w3 ⟨Ay, ny, cy, rfl, oy, hb⟩
      have H := H.below (hb.mono (by omega))
      have HX := HX.below (hb.mono (by omega))
      have B3 := below_step B2 (Nat.le_refl _) hb
      have z3 := hb.size
      clear B2 hb
      have hny : ny = nx := oy.len.symm.trans nxl
      subst ny
      have HY := oy.recs
      clear oy
      go_wp2_with fail
      refine (sameItems_same _ _ _ _ _ w3.heap.size _ _ nxx (HX.more (by omega)) HY).mono ?_
      rintro e w4 ⟨rfl, hb⟩
      have hb : Below w3.heap.size w3 w4 := hb.below
      have H := H.below (hb.mono (by omega))
      have HX := HX.below (hb.mono (by omega))
      have HY := HY.below (hb.mono (by omega))
      have B4 := below_step B3 (Nat.le_refl _) hb
      have z4 := hb.size
      clear B3 hb
      clear HY
      go_wp2_with fail
      refine (CR.out _ _ _ w2.heap.size _ nxb nxc cxm HX (by omega) hs').mono ?_
      rintro e w5 ⟨Ar, nr, cr, rfl, orr, hb⟩
      have H := H.below (hb.mono (by omega))
      have HX := HX.below (hb.mono (by omega))
      have B5 := below_step B4 (Nat.le_refl _) hb
      have z5 := hb.size
      clear B4 hb
      clear orr
      go_wp2_with fail
      refine (CC.out _ _ _ w1.heap.size _ hm hmc hcm H (by omega) hs').mono ?_
      rintro e w6 ⟨rfl, hb⟩
      have H := H.below (hb.mono (by omega))
      have HX := HX.below (hb.mono (by omega))
      have B6 := below_step B5 (Nat.le_refl _) hb
      have z6 := hb.size
      clear B5 hb
      go_wp2_with fail
      refine (CA.out _ _ _ w2.heap.size _ nxb nxc cxm HX (by omega) hs' (by unfold I64; omega)).mono ?_
      rintro e w7 ⟨Az, nz, cz, rfl, oz, hb⟩
      have H := H.below (hb.mono (by omega))
      have HX := HX.below (hb.mono (by omega))
      have B7 := below_step B6 (Nat.le_refl _) hb
      have z7 := hb.size
      clear B6 hb
      have hnz : nz = m := oz.len.symm.trans hl
      subst hnz
      have HZ := oz.recs
      clear oz
      have hnm : nz ≤ maxLen := by omega
      go_wp2_with fail
      refine (CE.out _ _ _ w2.heap.size _ nxb nxc cxm HX (by omega) hs').mono ?_
      rintro e w8 ⟨rfl, hb⟩
      have H := H.below (hb.mono (by omega))
      have HX := HX.below (hb.mono (by omega))
      have HZ := HZ.below (hb.mono (by omega))
      have B8 := below_step B7 (Nat.le_refl _) hb
      have z8 := hb.size
      clear B7 hb
      go_wp2_with fail
      refine (sameItems_same _ _ _ _ _ w8.heap.size _ _ hnm (HZ.more (by omega)) (H.more (by omega))).mono ?_
      rintro e w9 ⟨rfl, hb⟩
      have hb : Below w8.heap.size w8 w9 := hb.below
      have H := H.below (hb.mono (by omega))
      have HX := HX.below (hb.mono (by omega))
      have HZ := HZ.below (hb.mono (by omega))
      have B9 := below_step B8 (Nat.le_refl _) hb
      have z9 := hb.size
      clear B8 hb
      go_wp2_with fail
      refine (CV.out _ _ _ w2.heap.size _ nxb nxc cxm HX (by omega)).mono ?_
      rintro e w10 ⟨rfl, hb⟩
      have H := H.below (hb.mono (by omega))
      have HX := HX.below (hb.mono (by omega))
      have HZ := HZ.below (hb.mono (by omega))
      have B10 := below_step B9 (Nat.le_refl _) hb
      have z10 := hb.size
      clear B9 hb
      go_wp2_with fail
      go_ret
      exact ⟨rfl, B10⟩
end Go.Proofs.Ytopjhdgpdcdklaa
