/- Contract of the model's ApplyScript. -/
import Derived.Test.YtmdmjhnjhelccaaChgs
namespace Go.Proofs.Ytmdmjhnjhelccaa
open Go.RowKit
set_option maxHeartbeats 1600000
set_option linter.unusedSimpArgs false
set_option linter.unusedVariables false

/-- what ApplyScript returns -/
def scriptV (s : ByteArray) (l : List Chg) : Value := .tuple #[.string (outB (scriptL s.data.toList l)), .bool (scriptL s.data.toList l).isSome]
theorem scriptV_none {s : ByteArray} {l : List Chg} (h : scriptL s.data.toList l = none) : scriptV s l = .tuple #[.string ⟨#[]⟩, .bool false] := by unfold scriptV; rw [h]; rfl
theorem scriptV_some {s x : ByteArray} {l : List Chg} (h : scriptL s.data.toList l = some x.data.toList) : scriptV s l = .tuple #[.string x, .bool true] := by
  unfold scriptV; rw [h]
  have := ba_eq (x := x) rfl
  simp only [outB, Option.isSome_some, ← this]
theorem scriptL_ok {s : List UInt8} {l : List Chg} (h : longB s = true) (hl : l.length ≤ 24) : scriptL s l = applyAll s l := by unfold scriptL; rw [if_pos (by simp only [h, Bool.true_and, decide_eq_true_eq]; exact hl)]
theorem scriptL_text {s : List UInt8} {l : List Chg} (h : longB s = false) : scriptL s l = none := by unfold scriptL; rw [h]; rfl
theorem scriptL_long {s : List UInt8} {l : List Chg} (hl : ¬ l.length ≤ 24) : scriptL s l = none := by unfold scriptL; rw [decide_eq_false hl]; simp
/-- behind j changes the text is x -/
def Sofar (s : ByteArray) (l : List Chg) (j : Nat) (x : ByteArray) : Prop := applyAll s.data.toList (l.take j) = some x.data.toList ∧ longB x.data.toList = true
theorem Sofar.next {s x : ByteArray} {l : List Chg} {j : Nat} {e : Chg} {y : List UInt8} (h : Sofar s l j x) (he : l[j]? = some e) (hy : applyL x.data.toList e = some y) : Sofar s l (j + 1) ⟨y.toArray⟩ := by
  refine ⟨?_, by simpa using (applyL_text hy).2⟩
  rw [List.take_add_one, he, applyAll_append, h.1]
  simp [applyAll, hy]
theorem Sofar.stop {s x : ByteArray} {l : List Chg} {j : Nat} {e : Chg} (h : Sofar s l j x) (he : l[j]? = some e) (hy : applyL x.data.toList e = none) : applyAll s.data.toList l = none := by
  have hj := (List.getElem?_eq_some_iff.1 he).1
  rw [← List.take_append_drop (j + 1) l, applyAll_append, List.take_add_one, he, applyAll_append, h.1]
  simp [applyAll, hy]

theorem applyScript_spec (s : ByteArray) (A : Option Addr) (n c B : Nat) (l : List Chg) (w : World) (hs : s.size ≤ maxLen) (hn : n ≤ maxLen) (hl : Chgs w B A n l) (hB : B ≤ w.heap.size) :
    Calls Try.prog 21 #[.string s, .slice A n c] w fun e w' => e = .returned (scriptV s l) ∧ Below w.heap.size w w' := by
  have hs' := hs
  unfold maxLen at hs hn
  cases hT : longB s.data.toList
  · have HN := Lib.hid (scriptV_none (scriptL_text (l := l) hT))
    have HT := Lib.hid hT
    clear hT
    go_enter Try.func21, Try.ntmps21
    go_wp2_with fail
    refine (l3Text_spec _ _ hs').mono ?_
    rintro e w' ⟨rfl, rfl⟩
    rw [HT.out]
    go_wp2_with fail
    go_ret2
    exact ⟨by rw [HN.out]; rfl, Below.refl _ _⟩
  · by_cases hlong : (24 : Int) < (n : Int)
    · have HN := Lib.hid (scriptV_none (s := s) (scriptL_long (l := l) (by rw [hl.len]; omega)))
      have HT := Lib.hid hT
      clear hT
      go_enter Try.func21, Try.ntmps21
      go_wp2_with fail
      refine (l3Text_spec _ _ hs').mono ?_
      rintro e w' ⟨rfl, rfl⟩
      rw [HT.out]
      go_wp2_with fail
      go_ret2
      exact ⟨by rw [HN.out]; rfl, Below.refl _ _⟩
    · have hOK := scriptL_ok (l := l) hT (by rw [hl.len]; omega)
      have HS0 := Lib.hid (show Sofar s l 0 s from ⟨by simp [applyAll], hT⟩)
      have HT := Lib.hid hT
      have HOK := Lib.hid hOK
      clear hT hOK
      go_enter Try.func21, Try.ntmps21
      go_wp2_with fail
      refine (l3Text_spec _ _ hs').mono ?_
      rintro e w' ⟨rfl, rfl⟩
      rw [HT.out]
      go_wp2_with fail
      go_loopw [0, 6] (fun v i wr => ∃ (j : Nat) (x : ByteArray), j ≤ n ∧ i = .int .i64 j ∧ v = .string x ∧ Hid (Sofar s l j x) ∧ Below w.heap.size w wr) (fun _ i _ => n - (intOf i).toNat)
      case atStart => exact ⟨0, s, Nat.zero_le _, rfl, rfl, HS0, Below.refl _ _⟩
      case round =>
        clear HS0
        obtain ⟨j, x, hj, rfl, rfl, HX, hbel⟩ := hrel
        by_cases hlt : j < n
        · have hlr := hl.step hbel hB
          obtain ⟨b, o, d, hA, hbB, hd, h0, h1, h2⟩ := hlr.at_ hlt
          subst hA
          have hxm : x.size ≤ maxLen := by have := longB_size HX.out.2; unfold maxLen; omega
          have i0 : (0 : Int) ≤ (j : Int) := by omega
          have i1 : (j : Int) < (n : Int) := by omega
          obtain ⟨dk, dp, dc⟩ := d
          simp only at h0 h1 h2
          have HD := Lib.hid hd
          clear hlr hd
          cases hy : applyL x.data.toList ⟨dk, dp, dc⟩
          · have HV := Lib.hid (applyV_none hy)
            have HN := Lib.hid (scriptV_none (HOK.out.trans (HX.out.stop HD.out hy)))
            clear hy
            go_wp2_with fail
            refine (applyEdit_spec_is HV.out _ hxm).mono ?_
            rintro e w1 ⟨rfl, hb⟩
            go_wp2_with fail
            go_ret2
            exact ⟨by rw [HN.out]; rfl, below_step hbel (Nat.le_refl _) hb⟩
          · rename_i y
            have HV := Lib.hid (applyV_some hy)
            have HY := Lib.hid (HX.out.next HD.out hy)
            clear hy
            go_wp2_with fail
            refine (applyEdit_spec_is HV.out _ hxm).mono ?_
            rintro e w1 ⟨rfl, hb⟩
            have hbel := below_step hbel (Nat.le_refl _) hb
            go_wp2_with fail
            go_roundw
            case rel => exact ⟨j + 1, _, by omega, by go_num, rfl, HY, hbel⟩
            case measure => simp [intOf]; omega
        · obtain rfl : j = n := by omega
          have HN := Lib.hid (scriptV_some (HOK.out.trans (by have := HX.out.1; rw [List.take_of_length_le (by rw [hl.len]; omega)] at this; exact this)))
          go_wp2_with fail
          go_ret2
          exact ⟨by rw [HN.out]; rfl, hbel⟩
end Go.Proofs.Ytmdmjhnjhelccaa
