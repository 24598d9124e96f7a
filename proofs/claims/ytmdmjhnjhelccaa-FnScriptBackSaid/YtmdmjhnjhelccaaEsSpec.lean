/- Contract of the model's EditScript. -/
import Derived.Test.YtmdmjhnjhelccaaChgs
import Derived.Test.YtmdmjhnjhelccaaDistFns
namespace Go.Proofs.Ytmdmjhnjhelccaa
open Go.RowKit
set_option maxHeartbeats 1600000
set_option linter.unusedSimpArgs false
set_option linter.unusedVariables false

theorem word_first {l : List UInt8} (h : wordB l = true) (n : Nat) : wordB (l.take n) = true := by
  unfold wordB lettersB at *
  simp only [Bool.and_eq_true, decide_eq_true_eq] at *
  exact ⟨by have := List.length_take_le n l; have := List.length_take_le' n l; omega, all_take h.2 n⟩
noncomputable def scriptE (a b : List UInt8) : List Chg := if (wordB a && wordB b) = true then script a b else []
/-- what EditScript returns: a row of its own -/
def ScrPost (a b : ByteArray) (w : World) (e : Ending) (w' : World) : Prop :=
  ∃ g n cap : Nat, e = .returned (.slice (some ⟨g, 0, none⟩) n cap) ∧ OwnE w' w.heap.size g n cap (scriptE a.data.toList b.data.toList) ∧ Below w.heap.size w w'
def strLen : Value → Nat
  | .string s => s.size
  | _ => 0
/-- x is a beginning of a -/
def Start (a x : ByteArray) : Prop := x.data.toList = a.data.toList.take x.size
theorem Start.refl (a : ByteArray) : Start a a := by unfold Start; rw [List.take_of_length_le (by rw [len_eq]; omega)]
theorem Start.le {a x : ByteArray} (h : Start a x) : x.size ≤ a.size := by
  have := congrArg List.length h
  rw [len_eq, List.length_take, len_eq] at this
  omega
theorem Start.less {a x : ByteArray} (h : Start a x) (n : Nat) (hn : n ≤ x.size) : Start a (x.extract 0 n) ∧ (x.extract 0 n).size = n := by
  have hs : (x.extract 0 n).size = n := by rw [ByteArray.size_extract]; omega
  refine ⟨?_, hs⟩
  unfold Start
  rw [hs, extract_take, h, List.take_take, show min n x.size = n by omega]
theorem Start.get {a x : ByteArray} (h : Start a x) (n : Nat) (hn : n < x.size) : a.data.toList[n]? = some x[n] := by
  rw [← get_eq x n hn, h, List.getElem?_take_of_lt hn]
theorem Start.word {a x : ByteArray} (h : Start a x) (hw : wordB a.data.toList = true) : wordB x.data.toList = true := by rw [h]; exact word_first hw _
theorem Start.cell {a b x y : ByteArray} (h : Start a x) (k : Start b y) : ed false x.data.toList y.data.toList = cell false a.data.toList b.data.toList x.size y.size := by
  rw [h, k]; rfl
theorem l2Distance_is {a b : ByteArray} {d : Nat} (hd : ed false a.data.toList b.data.toList = d) (w : World) (ha : a.size ≤ 12) (hb : b.size ≤ 12) :
    Calls Try.prog 51 #[.string a, .string b] w fun e w' => e = .returned (.int .i64 (d : Int)) ∧ Below w.heap.size w w' := hd ▸ l2Distance_any a b w ha hb

/-- the next step of the script -/
theorem scr_both {a b : List UInt8} {n m : Nat} (h : a[n]? = b[m]?) : scr a b (n + 1) (m + 1) = scr a b n m := by
  rw [scr, dif_neg (by omega), dif_pos ⟨by omega, by omega, by simpa using h⟩]; rfl
theorem scr_del {a b : List UInt8} {n m : Nat} (h : 0 < m → a[n]? ≠ b[m - 1]?) (hc : cell false a b n m + 1 = cell false a b (n + 1) m) : scr a b (n + 1) m = ⟨2, (n : Int), 0⟩ :: scr a b n m := by
  rw [scr, dif_neg (by omega), dif_neg (by intro ⟨_, h2, h3⟩; exact h h2 (by simpa using h3)), dif_pos ⟨by omega, by simpa using hc⟩]
  simp
theorem scr_ins {a b : List UInt8} {n m : Nat} (h : 0 < n → a[n - 1]? ≠ b[m]?) (h2 : 0 < n → cell false a b (n - 1) (m + 1) + 1 ≠ cell false a b n (m + 1)) (hc : cell false a b n m + 1 = cell false a b n (m + 1)) : scr a b n (m + 1) = ⟨1, (n : Int), b.getD m 0⟩ :: scr a b n m := by
  rw [scr, dif_neg (by omega), dif_neg (by intro ⟨h0, _, h3⟩; exact h h0 (by simpa using h3)), dif_neg (by intro ⟨h0, h3⟩; exact h2 h0 h3), dif_pos ⟨by omega, by simpa using hc⟩]
  simp
theorem scr_rep {a b : List UInt8} {n m : Nat} (h : a[n]? ≠ b[m]?) (h2 : cell false a b n (m + 1) + 1 ≠ cell false a b (n + 1) (m + 1)) (h3 : cell false a b (n + 1) m + 1 ≠ cell false a b (n + 1) (m + 1)) : scr a b (n + 1) (m + 1) = ⟨3, (n : Int), b.getD m 0⟩ :: scr a b n m := by
  rw [scr, dif_neg (by omega), dif_neg (by intro ⟨_, _, h4⟩; exact h (by simpa using h4)), dif_neg (by intro ⟨_, h4⟩; exact h2 (by simpa using h4)), dif_neg (by intro ⟨_, h4⟩; exact h3 (by simpa using h4))]
  simp

set_option maxRecDepth 100000 in
theorem editScript_spec (a b : ByteArray) (w : World) (ha : a.size ≤ maxLen) (hb : b.size ≤ maxLen) :
    Calls Try.prog 24 #[.string a, .string b] w (ScrPost a b w) := by
  have ha' := ha
  have hb' := hb
  unfold maxLen at ha hb
  have hb0 : Below w.heap.size w (w.alloc (.cells #[] 24)) := (Below.refl _ _).alloc (Nat.le_refl _) _
  have HO0 := Lib.hid (OwnE.empty w)
  cases hv : (wordB a.data.toList && wordB b.data.toList)
  · have HE := Lib.hid (show scriptE a.data.toList b.data.toList = [] by unfold scriptE; rw [hv]; rfl)
    cases hva : wordB a.data.toList
    · have HA := Lib.hid hva
      clear hv hva
      go_enter Try.func24, Try.ntmps24
      go_wp2_with fail
      go_loopw [0, 1, 5] (fun u v s wr => u = .string a ∧ v = .string b ∧ s = .slice (some ⟨w.heap.size, 0, none⟩) 0 0 ∧ wr = w.alloc (.cells #[] 24)) (fun u v _ _ => strLen u + strLen v)
      case atStart => exact ⟨rfl, rfl, rfl, rfl⟩
      case round =>
        obtain ⟨rfl, rfl, rfl, rfl⟩ := hrel
        go_wp2_with fail
        refine (wordValid_spec _ _ ha').mono ?_
        rintro e w' ⟨rfl, rfl⟩
        rw [HA.out]
        go_wp2_with fail
        go_ret
        exact ⟨_, _, _, rfl, by rw [HE.out]; exact HO0.out, hb0⟩
    · have hvb : wordB b.data.toList = false := by rw [hva] at hv; exact hv
      have HA := Lib.hid hva
      have HB := Lib.hid hvb
      clear hv hva hvb
      go_enter Try.func24, Try.ntmps24
      go_wp2_with fail
      go_loopw [0, 1, 5] (fun u v s wr => u = .string a ∧ v = .string b ∧ s = .slice (some ⟨w.heap.size, 0, none⟩) 0 0 ∧ wr = w.alloc (.cells #[] 24)) (fun u v _ _ => strLen u + strLen v)
      case atStart => exact ⟨rfl, rfl, rfl, rfl⟩
      case round =>
        obtain ⟨rfl, rfl, rfl, rfl⟩ := hrel
        go_wp2_with fail
        refine (wordValid_spec _ _ ha').mono ?_
        rintro e w' ⟨rfl, rfl⟩
        rw [HA.out]
        go_wp2_with fail
        refine (wordValid_spec _ _ hb').mono ?_
        rintro e w' ⟨rfl, rfl⟩
        rw [HB.out]
        go_wp2_with fail
        go_ret
        exact ⟨_, _, _, rfl, by rw [HE.out]; exact HO0.out, hb0⟩
  · have HE := Lib.hid (show scriptE a.data.toList b.data.toList = script a.data.toList b.data.toList by unfold scriptE; rw [hv]; rfl)
    simp only [Bool.and_eq_true] at hv
    obtain ⟨hva, hvb⟩ := hv
    have a12 := word_size hva
    have b12 := word_size hvb
    have HA := Lib.hid hva
    have HB := Lib.hid hvb
    clear hva hvb
    go_enter Try.func24, Try.ntmps24
    go_wp2_with fail
    go_loopw [0, 1, 5] (fun u v s wr => ∃ (x y : ByteArray) (g q cap : Nat) (out : List Chg), u = .string x ∧ v = .string y ∧ s = .slice (some ⟨g, 0, none⟩) q cap ∧ Hid (Start a x) ∧ Hid (Start b y) ∧ q + (x.size + y.size) ≤ 24 ∧
      OwnE wr w.heap.size g q cap out ∧ Hid (out ++ scr a.data.toList b.data.toList x.size y.size = script a.data.toList b.data.toList) ∧ Below w.heap.size w wr) (fun u v _ _ => strLen u + strLen v)
    case atStart => exact ⟨a, b, _, _, _, [], rfl, rfl, rfl, Start.refl a, Start.refl b, by omega, HO0.out, by unfold script; rw [len_eq, len_eq]; rfl, hb0⟩
    case round =>
      clear HO0 hb0
      obtain ⟨x, y, g, q, cap, out, rfl, rfl, rfl, HX, HY, hq, hown, HS, hbel⟩ := hrel
      have hx1 := HX.out.le
      have hy1 := HY.out.le
      have HWX := Lib.hid (HX.out.word HA.out)
      have HWY := Lib.hid (HY.out.word HB.out)
      have xm : x.size ≤ maxLen := by unfold maxLen; omega
      have ym : y.size ≤ maxLen := by unfold maxLen; omega
      by_cases h0 : x.size + y.size = 0
      · have hx0 : x.size = 0 := by omega
        have hy0 : y.size = 0 := by omega
        have HOUT := Lib.hid (show scriptE a.data.toList b.data.toList = out by have := HS.out; rw [hx0, hy0, scr, dif_pos ⟨rfl, rfl⟩, List.append_nil] at this; rw [HE.out, this])
        have d0 : (x.size : Int) + (y.size : Int) ≤ 0 := by omega
        clear h0 hx0 hy0
        go_wp2_with fail
        refine (wordValid_spec _ _ xm).mono ?_
        rintro e w' ⟨rfl, rfl⟩
        rw [HWX.out]
        go_wp2_with fail
        refine (wordValid_spec _ _ ym).mono ?_
        rintro e w' ⟨rfl, rfl⟩
        rw [HWY.out]
        go_wp2_with fail
        go_ret
        exact ⟨_, _, _, rfl, by rw [HOUT.out]; exact hown, hbel⟩
      · have hge : (0 : Int) < (x.size : Int) + (y.size : Int) := by omega
        obtain ⟨d, hd⟩ : ∃ d, ed false x.data.toList y.data.toList = d := ⟨_, rfl⟩
        have hdc := hd
        rw [HX.out.cell HY.out] at hdc
        have x12 : x.size ≤ 12 := by omega
        have y12 : y.size ≤ 12 := by omega
        have hdm : d ≤ 12 := by
          have := cell_le false a.data.toList b.data.toList x.size y.size
          rw [hdc] at this
          omega
        have HD := Lib.hid hd
        have wd := IntWalk.i64_in ((d : Int) - 1) (by omega)
        clear hd
        by_cases hx : x.size = 0
        · obtain ⟨m, hm⟩ : ∃ m, y.size = m + 1 := ⟨y.size - 1, by omega⟩
          obtain ⟨hYm, hYs⟩ := HY.out.less m (by omega)
          have my : m < y.size := by omega
          have hYg := HY.out.get m my
          have hyb : m < b.data.toList.length := by rw [len_eq]; have := HY.out.le; omega
          have hc3 := cell_top false a.data.toList b.data.toList m (by omega)
          have hc4 := cell_top false a.data.toList b.data.toList (m + 1) (by omega)
          rw [hx, hm, hc4] at hdc
          have HD3 := Lib.hid (show ed false x.data.toList (y.extract 0 m).data.toList = m by rw [HX.out.cell hYm, hYs, hx, hc3])
          have HN := Lib.hid (show (out ++ [⟨1, 0, y[m]⟩]) ++ scr a.data.toList b.data.toList 0 m = script a.data.toList b.data.toList by
            have := HS.out
            rw [hx, hm, scr_ins (by omega) (by omega) (by omega)] at this
            rw [List.append_assoc, ← this, List.getD_eq_getElem?_getD, hYg]; rfl)
          have ym12 : (y.extract 0 m).size ≤ 12 := by omega
          have i0 : (x.size : Int) ≤ 0 := by omega
          have i2 : (0 : Int) ≤ (m : Int) := by omega
          have i3 : (m : Int) < (y.size : Int) := by omega
          have w2 : IntKind.i64.wrap ((y.size : Int) - 1) = (m : Int) := by rw [IntWalk.i64_in _ (by omega)]; omega
          have w1 : IntKind.i64.wrap ((x.size : Int) - 1) = -1 := by rw [IntWalk.i64_in _ (by omega)]; omega
          have e1 : (x.size : Int) - 1 = -1 := by omega
          have e2 : (y.size : Int) - 1 = (m : Int) := by omega
          have hdd : ((m : Int) == (d : Int) - 1) = true := by simp; omega
          have HX0 := Lib.hid hx
          have HYm := Lib.hid hYm
          have HYs := Lib.hid hYs
          have HM1 := Lib.hid hm
          clear hYm hYg hYs hm h0 hx hc3 hc4 hdc hyb i0
          go_wp2_with fail
          refine (wordValid_spec _ _ xm).mono ?_
          rintro e w' ⟨rfl, rfl⟩
          rw [HWX.out]
          go_wp2_with fail
          refine (wordValid_spec _ _ ym).mono ?_
          rintro e w' ⟨rfl, rfl⟩
          rw [HWY.out]
          go_wp2_with fail
          refine (l2Distance_is HD.out _ x12 y12).mono ?_
          rintro e w1 ⟨rfl, hb1⟩
          have hown := hown.below hb1
          have hbel := below_step hbel (Nat.le_refl _) hb1
          clear hb1
          go_wp2_with fail
          go_quiet (fail)
          generalize hW : w1.drewN nq = W
          have hdW : Drawn w1 W := ⟨nq, hW.symm⟩
          have hown := hown.drawn hdW
          have hbel := below_step hbel (Nat.le_refl _) hdW.below
          clear hW hdW
          go_wp2_with fail
          refine (l2Distance_is HD3.out _ x12 ym12).mono ?_
          rintro e W2 ⟨rfl, hb1⟩
          have hown := hown.below hb1
          have hbel := below_step hbel (Nat.le_refl _) hb1
          clear hb1
          go_wp2_with
            (at_builtin
             refine wp_append_chg rfl (.tmp 103) (.tmp 110) rfl w.heap.size g q cap 1 W2.heap.size out ⟨1, 0, y[m]⟩ rfl (hown.alloc _) rfl (World.cell?_alloc_at _ _ _ _ rfl) (World.cell?_alloc_at _ _ _ _ rfl) (World.cell?_alloc_at _ _ _ _ rfl) (by have := hbel.size; simp; omega) (by omega) ?_
             intro g6 cap6 w6 hown6 hg6)
          have hb6 : Below w.heap.size w w6 := (hbel.alloc hbel.size _).grown hg6 (by have := hbel.size; simp; omega) (by intro j hj; injection hj with hj; have := hown.lt.1; omega)
          go_wp2_with fail
          all_goals
            go_roundw
            case rel => exact ⟨_, _, g6, q + 1, cap6, _, rfl, rfl, rfl, HX, HYm, by rw [HYs.out]; have := HM1.out; omega, hown6, Lib.hid (by rw [HYs.out, HX0.out]; exact HN.out), hb6⟩
            case measure => simp only [strLen, HYs.out]; have := HM1.out; omega
        · obtain ⟨n, hn⟩ : ∃ n, x.size = n + 1 := ⟨x.size - 1, by omega⟩
          obtain ⟨hXn, hXs⟩ := HX.out.less n (by omega)
          have nx : n < x.size := by omega
          have hXg := HX.out.get n nx
          have i0 : (0 : Int) ≤ (n : Int) := by omega
          have i1 : (n : Int) < (x.size : Int) := by omega
          have w1 : IntKind.i64.wrap ((x.size : Int) - 1) = (n : Int) := by rw [IntWalk.i64_in _ (by omega)]; omega
          have e1 : (x.size : Int) - 1 = (n : Int) := by omega
          have xn12 : (x.extract 0 n).size ≤ 12 := by omega
          by_cases hy : y.size = 0
          · have hc3 := cell_left false a.data.toList b.data.toList n (by rw [len_eq]; omega)
            have hc4 := cell_left false a.data.toList b.data.toList (n + 1) (by rw [len_eq]; omega)
            rw [hy, hn, hc4] at hdc
            have HD2 := Lib.hid (show ed false (x.extract 0 n).data.toList y.data.toList = n by rw [hXn.cell HY.out, hXs, hy, hc3])
            have HN := Lib.hid (show (out ++ [⟨2, (n : Int), 0⟩]) ++ scr a.data.toList b.data.toList n 0 = script a.data.toList b.data.toList by
              have := HS.out
              rw [hy, hn, scr_del (by omega) (by rw [hc3, hc4])] at this
              rw [List.append_assoc, ← this]; rfl)
            have e2 : (y.size : Int) - 1 = -1 := by omega
            have w2 : IntKind.i64.wrap ((y.size : Int) - 1) = -1 := by rw [IntWalk.i64_in _ (by omega)]; omega
            have hdd : ((n : Int) == (d : Int) - 1) = true := by simp; omega
            have HY0 := Lib.hid hy
            have HXn := Lib.hid hXn
            have HXs := Lib.hid hXs
            have HN1 := Lib.hid hn
            clear hXn hXg hXs hn h0 hx hy hc3 hc4 hdc
            go_wp2_with fail
            refine (wordValid_spec _ _ xm).mono ?_
            rintro e w' ⟨rfl, rfl⟩
            rw [HWX.out]
            go_wp2_with fail
            refine (wordValid_spec _ _ ym).mono ?_
            rintro e w' ⟨rfl, rfl⟩
            rw [HWY.out]
            go_wp2_with fail
            refine (l2Distance_is HD.out _ x12 y12).mono ?_
            rintro e w1 ⟨rfl, hb1⟩
            have hown := hown.below hb1
            have hbel := below_step hbel (Nat.le_refl _) hb1
            clear hb1
            go_wp2_with fail
            go_quiet (fail)
            generalize hW : w1.drewN nq = W
            have hdW : Drawn w1 W := ⟨nq, hW.symm⟩
            have hown := hown.drawn hdW
            have hbel := below_step hbel (Nat.le_refl _) hdW.below
            clear hW hdW
            go_wp2_with fail
            refine (l2Distance_is HD2.out _ xn12 y12).mono ?_
            rintro e W2 ⟨rfl, hb1⟩
            have hown := hown.below hb1
            have hbel := below_step hbel (Nat.le_refl _) hb1
            clear hb1
            go_wp2_with
              (at_builtin
               refine wp_append_chg rfl (.tmp 82) (.tmp 85) rfl w.heap.size g q cap 1 W2.heap.size out ⟨2, (n : Int), 0⟩ rfl (hown.alloc _) rfl (World.cell?_alloc_at _ _ _ _ rfl) (World.cell?_alloc_at _ _ _ _ rfl) (World.cell?_alloc_at _ _ _ _ rfl) (by have := hbel.size; simp; omega) (by omega) ?_
               intro g6 cap6 w6 hown6 hg6)
            have hb6 : Below w.heap.size w w6 := (hbel.alloc hbel.size _).grown hg6 (by have := hbel.size; simp; omega) (by intro j hj; injection hj with hj; have := hown.lt.1; omega)
            go_wp2_with fail
            all_goals
              go_roundw
              case rel => exact ⟨_, _, g6, q + 1, cap6, _, rfl, rfl, rfl, HXn, HY, by rw [HXs.out]; have := HN1.out; omega, hown6, Lib.hid (by rw [HXs.out, HY0.out]; exact HN.out), hb6⟩
              case measure => simp only [strLen, HXs.out]; have := HN1.out; omega
          · obtain ⟨m, hm⟩ : ∃ m, y.size = m + 1 := ⟨y.size - 1, by omega⟩
            obtain ⟨hYm, hYs⟩ := HY.out.less m (by omega)
            have my : m < y.size := by omega
            have hYg := HY.out.get m my
            have i2 : (0 : Int) ≤ (m : Int) := by omega
            have i3 : (m : Int) < (y.size : Int) := by omega
            have w2 : IntKind.i64.wrap ((y.size : Int) - 1) = (m : Int) := by rw [IntWalk.i64_in _ (by omega)]; omega
            have e2 : (y.size : Int) - 1 = (m : Int) := by omega
            have ym12 : (y.extract 0 m).size ≤ 12 := by omega
            rw [hn, hm] at hdc
            cases h3 : ((x[n].toNat : Int) == y[m].toNat)
            · have hne : a.data.toList[n]? ≠ b.data.toList[m]? := by rw [hXg, hYg]; intro e; injection e with e; rw [e] at h3; simp at h3
              obtain ⟨d2, hd2⟩ : ∃ d2, cell false a.data.toList b.data.toList n (m + 1) = d2 := ⟨_, rfl⟩
              obtain ⟨d3, hd3⟩ : ∃ d3, cell false a.data.toList b.data.toList (n + 1) m = d3 := ⟨_, rfl⟩
              have HD2 := Lib.hid (show ed false (x.extract 0 n).data.toList y.data.toList = d2 by rw [hXn.cell HY.out, hXs, hm, hd2])
              have HD3 := Lib.hid (show ed false x.data.toList (y.extract 0 m).data.toList = d3 by rw [HX.out.cell hYm, hYs, hn, hd3])
              have HS2 := HS.out
              rw [hn, hm] at HS2
              have hgd : b.data.toList.getD m 0 = y[m] := by rw [List.getD_eq_getElem?_getD, hYg]; rfl
              have i4 : (0 : Int) ≤ (n : Int) + 1 := by omega
              have w4 := IntWalk.i64_in ((n : Int) + 1) (by omega)
              have HXn := Lib.hid hXn
              have HYm := Lib.hid hYm
              have HXs := Lib.hid hXs
              have HYs := Lib.hid hYs
              have HN1 := Lib.hid hn
              have HM1 := Lib.hid hm
              by_cases q2 : d2 + 1 = d
              · have HN := Lib.hid (show (out ++ [⟨2, (n : Int), 0⟩]) ++ scr a.data.toList b.data.toList n (m + 1) = script a.data.toList b.data.toList by
                  rw [scr_del (fun _ => by simpa using hne) (by rw [hd2, hdc, q2])] at HS2
                  rw [List.append_assoc, ← HS2]; rfl)
                have hdd : ((d2 : Int) == (d : Int) - 1) = true := by simp; omega
                clear hXn hYm hXg hYg hXs hYs hn hm h0 hx hy hdc hd2 hd3 hgd hne HS2 q2
                go_wp2_with fail
                refine (wordValid_spec _ _ xm).mono ?_
                rintro e w' ⟨rfl, rfl⟩
                rw [HWX.out]
                go_wp2_with fail
                refine (wordValid_spec _ _ ym).mono ?_
                rintro e w' ⟨rfl, rfl⟩
                rw [HWY.out]
                go_wp2_with fail
                refine (l2Distance_is HD.out _ x12 y12).mono ?_
                rintro e w1 ⟨rfl, hb1⟩
                have hown := hown.below hb1
                have hbel := below_step hbel (Nat.le_refl _) hb1
                clear hb1
                go_wp2_with fail
                go_quiet (fail)
                generalize hW : w1.drewN nq = W
                have hdW : Drawn w1 W := ⟨nq, hW.symm⟩
                have hown := hown.drawn hdW
                have hbel := below_step hbel (Nat.le_refl _) hdW.below
                clear hW hdW
                go_wp2_with fail
                refine (l2Distance_is HD2.out _ xn12 y12).mono ?_
                rintro e W2 ⟨rfl, hb1⟩
                have hown := hown.below hb1
                have hbel := below_step hbel (Nat.le_refl _) hb1
                clear hb1
                go_wp2_with
                  (at_builtin
                   refine wp_append_chg rfl (.tmp 82) (.tmp 85) rfl w.heap.size g q cap 1 W2.heap.size out ⟨2, (n : Int), 0⟩ rfl (hown.alloc _) rfl (World.cell?_alloc_at _ _ _ _ rfl) (World.cell?_alloc_at _ _ _ _ rfl) (World.cell?_alloc_at _ _ _ _ rfl) (by have := hbel.size; simp; omega) (by omega) ?_
                   intro g6 cap6 w6 hown6 hg6)
                have hb6 : Below w.heap.size w w6 := (hbel.alloc hbel.size _).grown hg6 (by have := hbel.size; simp; omega) (by intro j hj; injection hj with hj; have := hown.lt.1; omega)
                go_wp2_with fail
                all_goals
                  go_roundw
                  case rel => exact ⟨_, _, g6, q + 1, cap6, _, rfl, rfl, rfl, HXn, HY, by rw [HXs.out]; have := HN1.out; omega, hown6, Lib.hid (by rw [HXs.out, HM1.out]; exact HN.out), hb6⟩
                  case measure => simp only [strLen, HXs.out]; have := HN1.out; omega
              · have hdd : ((d2 : Int) == (d : Int) - 1) = false := by simp; omega
                by_cases q3 : d3 + 1 = d
                · have HN := Lib.hid (show (out ++ [⟨1, (n : Int) + 1, y[m]⟩]) ++ scr a.data.toList b.data.toList (n + 1) m = script a.data.toList b.data.toList by
                    rw [scr_ins (fun _ => by simpa using hne) (fun _ => by simpa [hd2, hdc] using q2) (by rw [hd3, hdc, q3]), hgd] at HS2
                    rw [List.append_assoc, ← HS2]; rfl)
                  have hdd3 : ((d3 : Int) == (d : Int) - 1) = true := by simp; omega
                  clear hXn hYm hXg hYg hXs hYs hn hm h0 hx hy hdc hd2 hd3 hgd hne HS2 q2 q3
                  go_wp2_with fail
                  refine (wordValid_spec _ _ xm).mono ?_
                  rintro e w' ⟨rfl, rfl⟩
                  rw [HWX.out]
                  go_wp2_with fail
                  refine (wordValid_spec _ _ ym).mono ?_
                  rintro e w' ⟨rfl, rfl⟩
                  rw [HWY.out]
                  go_wp2_with fail
                  refine (l2Distance_is HD.out _ x12 y12).mono ?_
                  rintro e w1 ⟨rfl, hb1⟩
                  have hown := hown.below hb1
                  have hbel := below_step hbel (Nat.le_refl _) hb1
                  clear hb1
                  go_wp2_with fail
                  go_quiet (fail)
                  generalize hW : w1.drewN nq = W
                  have hdW : Drawn w1 W := ⟨nq, hW.symm⟩
                  have hown := hown.drawn hdW
                  have hbel := below_step hbel (Nat.le_refl _) hdW.below
                  clear hW hdW
                  go_wp2_with fail
                  refine (l2Distance_is HD2.out _ xn12 y12).mono ?_
                  rintro e W2 ⟨rfl, hb1⟩
                  have hown := hown.below hb1
                  have hbel := below_step hbel (Nat.le_refl _) hb1
                  clear hb1
                  go_wp2_with fail
                  refine (l2Distance_is HD3.out _ x12 ym12).mono ?_
                  rintro e W3 ⟨rfl, hb1⟩
                  have hown := hown.below hb1
                  have hbel := below_step hbel (Nat.le_refl _) hb1
                  clear hb1
                  go_wp2_with
                    (at_builtin
                     refine wp_append_chg rfl (.tmp 103) (.tmp 110) rfl w.heap.size g q cap 1 W3.heap.size out ⟨1, (n : Int) + 1, y[m]⟩ rfl (hown.alloc _) rfl (World.cell?_alloc_at _ _ _ _ rfl) (World.cell?_alloc_at _ _ _ _ rfl) (World.cell?_alloc_at _ _ _ _ rfl) (by have := hbel.size; simp; omega) (by omega) ?_
                     intro g6 cap6 w6 hown6 hg6)
                  have hb6 : Below w.heap.size w w6 := (hbel.alloc hbel.size _).grown hg6 (by have := hbel.size; simp; omega) (by intro j hj; injection hj with hj; have := hown.lt.1; omega)
                  go_wp2_with fail
                  all_goals
                    go_roundw
                    case rel => exact ⟨_, _, g6, q + 1, cap6, _, rfl, rfl, rfl, HX, HYm, by rw [HYs.out]; have := HM1.out; omega, hown6, Lib.hid (by rw [HYs.out, HN1.out]; exact HN.out), hb6⟩
                    case measure => simp only [strLen, HYs.out]; have := HM1.out; omega
                · have HN := Lib.hid (show (out ++ [⟨3, (n : Int), y[m]⟩]) ++ scr a.data.toList b.data.toList n m = script a.data.toList b.data.toList by
                    rw [scr_rep hne (by rw [hd2, hdc]; exact q2) (by rw [hd3, hdc]; exact q3), hgd] at HS2
                    rw [List.append_assoc, ← HS2]; rfl)
                  have hdd3 : ((d3 : Int) == (d : Int) - 1) = false := by simp; omega
                  clear hXn hYm hXg hYg hXs hYs hn hm h0 hx hy hdc hd2 hd3 hgd hne HS2 q2 q3
                  go_wp2_with fail
                  refine (wordValid_spec _ _ xm).mono ?_
                  rintro e w' ⟨rfl, rfl⟩
                  rw [HWX.out]
                  go_wp2_with fail
                  refine (wordValid_spec _ _ ym).mono ?_
                  rintro e w' ⟨rfl, rfl⟩
                  rw [HWY.out]
                  go_wp2_with fail
                  refine (l2Distance_is HD.out _ x12 y12).mono ?_
                  rintro e w1 ⟨rfl, hb1⟩
                  have hown := hown.below hb1
                  have hbel := below_step hbel (Nat.le_refl _) hb1
                  clear hb1
                  go_wp2_with fail
                  go_quiet (fail)
                  generalize hW : w1.drewN nq = W
                  have hdW : Drawn w1 W := ⟨nq, hW.symm⟩
                  have hown := hown.drawn hdW
                  have hbel := below_step hbel (Nat.le_refl _) hdW.below
                  clear hW hdW
                  go_wp2_with fail
                  refine (l2Distance_is HD2.out _ xn12 y12).mono ?_
                  rintro e W2 ⟨rfl, hb1⟩
                  have hown := hown.below hb1
                  have hbel := below_step hbel (Nat.le_refl _) hb1
                  clear hb1
                  go_wp2_with fail
                  refine (l2Distance_is HD3.out _ x12 ym12).mono ?_
                  rintro e W3 ⟨rfl, hb1⟩
                  have hown := hown.below hb1
                  have hbel := below_step hbel (Nat.le_refl _) hb1
                  clear hb1
                  go_wp2_with
                    (at_builtin
                     refine wp_append_chg rfl (.tmp 33) (.tmp 39) rfl w.heap.size g q cap 1 W3.heap.size out ⟨3, (n : Int), y[m]⟩ rfl (hown.alloc _) rfl (World.cell?_alloc_at _ _ _ _ rfl) (World.cell?_alloc_at _ _ _ _ rfl) (World.cell?_alloc_at _ _ _ _ rfl) (by have := hbel.size; simp; omega) (by omega) ?_
                     intro g6 cap6 w6 hown6 hg6)
                  have hb6 : Below w.heap.size w w6 := (hbel.alloc hbel.size _).grown hg6 (by have := hbel.size; simp; omega) (by intro j hj; injection hj with hj; have := hown.lt.1; omega)
                  go_wp2_with fail
                  all_goals
                    go_roundw
                    case rel => exact ⟨_, _, g6, q + 1, cap6, _, rfl, rfl, rfl, HXn, HYm, by rw [HXs.out, HYs.out]; have := HN1.out; have := HM1.out; omega, hown6, Lib.hid (by rw [HXs.out, HYs.out]; exact HN.out), hb6⟩
                    case measure => simp only [strLen, HXs.out, HYs.out]; have := HN1.out; have := HM1.out; omega
            · have HN := Lib.hid (show out ++ scr a.data.toList b.data.toList n m = script a.data.toList b.data.toList by
                have := HS.out
                rw [hn, hm, scr_both (by rw [hXg, hYg, u8_eq h3])] at this
                exact this)
              have HXn := Lib.hid hXn
              have HYm := Lib.hid hYm
              have HXs := Lib.hid hXs
              have HYs := Lib.hid hYs
              have HN1 := Lib.hid hn
              have HM1 := Lib.hid hm
              clear hXn hYm hXg hYg hXs hYs hn hm h0 hx hy hdc
              go_wp2_with fail
              refine (wordValid_spec _ _ xm).mono ?_
              rintro e w' ⟨rfl, rfl⟩
              rw [HWX.out]
              go_wp2_with fail
              refine (wordValid_spec _ _ ym).mono ?_
              rintro e w' ⟨rfl, rfl⟩
              rw [HWY.out]
              go_wp2_with fail
              refine (l2Distance_is HD.out _ x12 y12).mono ?_
              rintro e w1 ⟨rfl, hb1⟩
              have hown := hown.below hb1
              have hbel := below_step hbel (Nat.le_refl _) hb1
              clear hb1
              go_wp2_with fail
              go_quiet (fail)
              generalize hW : w1.drewN nq = W
              have hdW : Drawn w1 W := ⟨nq, hW.symm⟩
              have hown := hown.drawn hdW
              have hbel := below_step hbel (Nat.le_refl _) hdW.below
              clear hW hdW
              go_wp2_with fail
              go_roundw
              case rel => exact ⟨_, _, g, q, cap, out, rfl, rfl, rfl, HXn, HYm, by rw [HXs.out, HYs.out]; have := HN1.out; have := HM1.out; omega, hown, Lib.hid (by rw [HXs.out, HYs.out]; exact HN.out), hbel⟩
              case measure => simp only [strLen, HXs.out, HYs.out]; have := HN1.out; have := HM1.out; omega
end Go.Proofs.Ytmdmjhnjhelccaa
