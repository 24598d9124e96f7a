/- Contracts of the functions over lists of words: wordsFilled, ListValid (of the program and of the model). -/
import Derived.Test.YtmolphaihapkkaaSlc
namespace Go.Proofs.Ytmolphaihapkkaa
open Go.RowKit
set_option maxHeartbeats 400000
set_option linter.unusedSimpArgs false
set_option linter.unusedVariables false

def filledS (s : ByteArray) : Bool := !s.toList.isEmpty && wordB s.data.toList
def filledB (ss : List ByteArray) : Bool := decide (ss.length ≤ 60) && ss.all filledS
def ltS (s t : ByteArray) : Bool := Op.bytesLess s.toList t.toList
def ascB : List ByteArray → Bool
  | s :: t :: r => ltS s t && ascB (t :: r)
  | _ => true
def listB (ss : List ByteArray) : Bool := filledB ss && ascB ss

theorem all_upto {α} {p : α → Bool} {l : List α} (h : ∀ (j : Nat) (s : α), l[j]? = some s → p s = true) : l.all p = true := by
  rw [List.all_eq_true]
  intro x hx
  obtain ⟨j, hj, he⟩ := List.getElem_of_mem hx
  exact h j x (by rw [← he]; exact List.getElem?_eq_getElem hj)
theorem all_not {α} {p : α → Bool} {l : List α} {j : Nat} {s : α} (hs : l[j]? = some s) (h : p s = false) : l.all p = false := by
  rw [List.all_eq_false]
  exact ⟨s, List.mem_of_getElem? hs, by simp [h]⟩
theorem asc_iff : ∀ {ss : List ByteArray}, ascB ss = true ↔ ∀ j s t, ss[j]? = some s → ss[j + 1]? = some t → ltS s t = true
  | [] => by simp [ascB]
  | [s] => by simp [ascB]
  | s :: t :: r => by
    unfold ascB
    rw [Bool.and_eq_true, asc_iff]
    constructor
    · rintro ⟨h1, h2⟩ j a b ha hb
      cases j with
      | zero => simp at ha hb; subst ha hb; exact h1
      | succ j => exact h2 j a b (by simpa using ha) (by simpa using hb)
    · intro h
      exact ⟨h 0 s t rfl rfl, fun j a b ha hb => h (j + 1) a b (by simpa using ha) (by simpa using hb)⟩
theorem asc_not {ss : List ByteArray} {j : Nat} {s t : ByteArray} (hs : ss[j]? = some s) (ht : ss[j + 1]? = some t) (h : ltS s t = false) : ascB ss = false := by
  rw [Bool.eq_false_iff]
  intro ha
  rw [asc_iff.1 ha j s t hs ht] at h
  cases h
theorem asc_upto {ss : List ByteArray} {n : Nat} (hl : ss.length = n) (h : ∀ j s t, j + 1 < n → ss[j]? = some s → ss[j + 1]? = some t → ltS s t = true) : ascB ss = true :=
  asc_iff.2 fun j s t hs ht => h j s t (by have := (List.getElem?_eq_some_iff.1 ht).1; omega) hs ht

theorem wordsFilled_any (A : Option Addr) (n c B : Nat) (ss : List ByteArray) (w : World) (hn : n ≤ maxLen) (h : Strs w B A n ss) :
    Calls Try.prog 75 #[.slice A n c] w fun e w' => e = .returned (.bool (filledB ss)) ∧ w = w' := by
  unfold maxLen at hn
  have hl := h.1
  by_cases h60 : (60 : Int) < n
  · have hf : filledB ss = false := by unfold filledB; rw [decide_eq_false (by omega)]; rfl
    have HF := Lib.hid hf
    clear hf hl
    go_enter Try.func75, Try.ntmps75
    go_wp2
    go_ret
    exact ⟨ret_bool HF.out.symm, rfl⟩
  · have H60 := Lib.hid (decide_eq_true (show ss.length ≤ 60 by omega))
    have HL := Lib.hid hl
    clear hl
    go_enter Try.func75, Try.ntmps75
    go_wp2
    go_loop [10] (fun i => ∃ k : Nat, k ≤ n ∧ i = .int .i64 k ∧ (∀ j s, j < k → ss[j]? = some s → filledS s = true)) (fun i => n - (intOf i).toNat)
    case atStart => exact ⟨0, Nat.zero_le _, rfl, fun j s hj => absurd hj (by omega)⟩
    case round =>
      obtain ⟨k, hk, rfl, hall⟩ := hrel
      have HA := Lib.hid hall
      clear hall
      by_cases hlt : k < n
      · obtain ⟨b, o, s, rfl, hb, hs, hsz, hc⟩ := h.at_ hlt
        have HS := Lib.hid hs
        clear hs
        cases he : s.toList.isEmpty
        · cases hw : wordB s.data.toList
          · have HW := Lib.hid hw
            have HE := Lib.hid he
            clear hw
            go_wp2_with (go_at_call 44; refine (wordValid_impl _ _ hsz).mono ?_; rintro e w' ⟨rfl, rfl⟩; rw [HW.out])
            go_ret
            refine ⟨ret_bool ?_, rfl⟩
            have : ss.all filledS = false := all_not HS.out (by unfold filledS; rw [HE.out, HW.out]; rfl)
            unfold filledB; rw [this]; simp
          · have HW := Lib.hid hw
            have HE := Lib.hid he
            clear hw
            go_wp2_with (go_at_call 44; refine (wordValid_impl _ _ hsz).mono ?_; rintro e w' ⟨rfl, rfl⟩; rw [HW.out])
            go_round
            case rel =>
              refine ⟨k + 1, by omega, by go_num, fun j s' hj hs' => ?_⟩
              by_cases hjk : j < k
              · exact HA.out j s' hjk hs'
              · obtain rfl : j = k := by omega
                have := HS.out
                rw [hs'] at this
                injection this with this
                subst this
                unfold filledS; rw [HE.out, HW.out]; rfl
            case measure => simp [intOf]; omega
        · have HE := Lib.hid he
          go_wp2
          go_ret
          refine ⟨ret_bool ?_, rfl⟩
          have : ss.all filledS = false := all_not HS.out (by unfold filledS; rw [HE.out]; rfl)
          unfold filledB; rw [this]; simp
      · go_wp2
        go_ret
        refine ⟨ret_bool ?_, rfl⟩
        unfold filledB
        rw [H60.out, all_upto fun j s hs => HA.out j s (by have := (List.getElem?_eq_some_iff.1 hs).1; have := HL.out; omega) hs]
        rfl

theorem listB_filled_no {ss : List ByteArray} (h : filledB ss = false) : listB ss = false := by unfold listB; rw [h]; rfl
theorem listB_asc_no {ss : List ByteArray} (h : ascB ss = false) : listB ss = false := by unfold listB; rw [h]; simp

theorem listValid_impl (A : Option Addr) (n c B : Nat) (ss : List ByteArray) (w : World) (hn : n ≤ maxLen) (h : Strs w B A n ss) :
    Calls Try.prog 52 #[.slice A n c] w fun e w' => e = .returned (.bool (listB ss)) ∧ Drawn w w' := by
  have hn' := hn
  unfold maxLen at hn
  cases hf : filledB ss
  · have HN := Lib.hid (listB_filled_no hf)
    have HF := Lib.hid hf
    clear hf
    go_enter Try.func52, Try.ntmps52
    go_wp2_with fail
    refine (wordsFilled_any _ _ _ B ss _ hn' h).mono ?_
    rintro e w' ⟨rfl, rfl⟩
    rw [HF.out]
    go_wp2_with fail
    go_ret
    exact ⟨ret_bool HN.out.symm, Drawn.refl _⟩
  · have HF := Lib.hid hf
    have HL := Lib.hid h.1
    clear hf
    go_enter Try.func52, Try.ntmps52
    go_wp2_with fail
    refine (wordsFilled_any _ _ _ B ss _ hn' h).mono ?_
    rintro e w' ⟨rfl, rfl⟩
    rw [HF.out]
    go_wp2_with fail
    go_loopw [3] (fun i wr => ∃ k : Nat, k ≤ n ∧ i = .int .i64 (k + 1) ∧ (∀ j s t, j < k → ss[j]? = some s → ss[j + 1]? = some t → ltS s t = true) ∧ Drawn w wr) (fun i _ => n - (intOf i).toNat)
    case atStart => exact ⟨0, Nat.zero_le _, rfl, fun j s t hj => absurd hj (by omega), Drawn.refl _⟩
    case round =>
      obtain ⟨k, hk, rfl, hall, hbk⟩ := hrel
      have HA := Lib.hid hall
      clear hall
      by_cases hlt : k + 1 < n
      · obtain ⟨b, o, s, rfl, hb, hs, hsz, hc⟩ := (h.drawn hbk).at_ (show k < n by omega)
        obtain ⟨b2, o2, t, he, hb2, ht, htz, hc2⟩ := (h.drawn hbk).at_ hlt
        injection he with he; injection he with e1 e2; subst e1; subst e2
        have HS := Lib.hid hs
        have HT := Lib.hid ht
        clear hs ht
        cases hc3 : Op.bytesLess s.toList t.toList
        · have HC := Lib.hid hc3
          go_wp2
          go_quiet (fail)
          go_wp2
          go_ret
          exact ⟨ret_bool (listB_asc_no (asc_not HS.out HT.out HC.out)).symm, hbk.drewN _⟩
        · have HC := Lib.hid hc3
          go_wp2
          go_quiet (fail)
          go_wp2
          go_roundw
          case rel =>
            refine ⟨k + 1, by omega, by go_num, fun j s' t' hj hs' ht' => ?_, hbk.drewN _⟩
            by_cases hjk : j < k
            · exact HA.out j s' t' hjk hs' ht'
            · obtain rfl : j = k := by omega
              have g1 := HS.out
              have g2 := HT.out
              rw [hs'] at g1
              rw [ht'] at g2
              injection g1 with g1
              injection g2 with g2
              subst g1; subst g2
              exact HC.out
          case measure => simp [intOf]; omega
      · go_wp2
        go_ret
        refine ⟨ret_bool ?_, hbk⟩
        unfold listB
        rw [HF.out, asc_upto HL.out fun j s t hj => HA.out j s t (by omega)]
        rfl

theorem listValid_spec (A : Option Addr) (n c B : Nat) (ss : List ByteArray) (w : World) (hn : n ≤ maxLen) (h : Strs w B A n ss) :
    Calls Try.prog 21 #[.slice A n c] w fun e w' => e = .returned (.bool (listB ss)) ∧ Drawn w w' := by
  have hn' := hn
  unfold maxLen at hn
  have HL := Lib.hid h.1
  have HNO : ∀ (j : Nat) (s : ByteArray), ss[j]? = some s → filledS s = false → listB ss = false := fun j s hs hf => listB_filled_no (by unfold filledB; rw [all_not hs hf]; simp)
  have HNOT := Lib.hid HNO
  clear HNO
  go_enter Try.func21, Try.ntmps21
  go_wp2
  go_loopw [3] (fun i wr => ∃ k : Nat, k ≤ n ∧ i = .int .i64 k ∧ (∀ j s, j < k → ss[j]? = some s → filledS s = true) ∧ (∀ j s t, j + 1 < k → ss[j]? = some s → ss[j + 1]? = some t → ltS s t = true) ∧ Drawn w wr) (fun i _ => n - (intOf i).toNat)
  case atStart => exact ⟨0, Nat.zero_le _, rfl, fun j s hj => absurd hj (by omega), fun j s t hj => absurd hj (by omega), Drawn.refl _⟩
  case round =>
    obtain ⟨k, hk, rfl, hall, hasc, hbk⟩ := hrel
    have HA := Lib.hid hall
    have HB := Lib.hid hasc
    clear hall hasc
    by_cases hlt : k < n
    · obtain ⟨b, o, s, rfl, hb, hs, hsz, hc⟩ := (h.drawn hbk).at_ hlt
      have HS := Lib.hid hs
      have hst : ∀ s' : ByteArray, ss[k]? = some s' → s' = s := fun s' e => by rw [hs] at e; injection e with e; exact e.symm
      have HST := Lib.hid hst
      clear hs hst
      cases hw : wordB s.data.toList
      · have HN := Lib.hid (HNOT.out _ _ HS.out (by unfold filledS; rw [hw]; simp))
        have HW := Lib.hid (wordValid_spec_is hw)
        clear hw
        go_wp2
        go_quiet ((go_at_call 22; exact quiet_left (HW.out _ hsz)))
        go_wp2
        go_ret
        exact ⟨ret_bool HN.out.symm, hbk.drewN _⟩
      · have HW := Lib.hid (wordValid_spec_is hw)
        have HWB := Lib.hid hw
        clear hw
        cases he : s.toList.isEmpty
        · have HF := Lib.hid (show filledS s = true by unfold filledS; rw [he, HWB.out]; rfl)
          by_cases hk0 : k = 0
          · subst hk0
            rw [Nat.add_zero] at hc
            go_wp2
            go_quiet ((go_at_call 22; exact quiet_left (HW.out _ hsz)))
            go_wp2
            go_roundw
            case rel => exact ⟨1, by omega, rfl, fun j s' hj hs' => (by (obtain rfl : j = 0 := (by omega)); rw [HST.out _ hs']; exact HF.out), fun j s t hj => absurd hj (by omega), hbk.drewN _⟩
            case measure => simp [intOf]; omega
          · obtain ⟨m, rfl⟩ : ∃ m, k = m + 1 := ⟨k - 1, by omega⟩
            obtain ⟨b2, o2, t, he2, hb2, ht, htz, hc2⟩ := (h.drawn hbk).at_ (show m < n by omega)
            injection he2 with he2; injection he2 with e1 e2; subst e1; subst e2
            have HT := Lib.hid ht
            have htt : ∀ s' : ByteArray, ss[m]? = some s' → s' = t := fun s' e => by rw [ht] at e; injection e with e; exact e.symm
            have HTT := Lib.hid htt
            clear ht htt
            cases hc3 : Op.bytesLess t.toList s.toList
            · have HC := Lib.hid hc3
              go_wp2
              go_quiet ((go_at_call 22; exact quiet_left (HW.out _ hsz)))
              go_wp2
              go_ret
              exact ⟨ret_bool (listB_asc_no (asc_not HT.out HS.out HC.out)).symm, hbk.drewN _⟩
            · have HC := Lib.hid hc3
              go_wp2
              go_quiet ((go_at_call 22; exact quiet_left (HW.out _ hsz)))
              go_wp2
              go_roundw
              case rel =>
                refine ⟨m + 2, by omega, by go_num, fun j s' hj hs' => ?_, fun j s' t' hj hs' ht' => ?_, hbk.drewN _⟩
                · by_cases hjk : j < m + 1
                  · exact HA.out j s' hjk hs'
                  · obtain rfl : j = m + 1 := by omega
                    rw [HST.out _ hs']; exact HF.out
                · by_cases hjk : j + 1 < m + 1
                  · exact HB.out j s' t' hjk hs' ht'
                  · obtain rfl : j = m := by omega
                    rw [HTT.out _ hs', HST.out _ ht']
                    exact HC.out
              case measure => simp [intOf]; omega
        · have HN := Lib.hid (HNOT.out _ _ HS.out (by unfold filledS; rw [he]; rfl))
          go_wp2
          go_quiet ((go_at_call 22; exact quiet_left (HW.out _ hsz)))
          go_wp2
          go_ret
          exact ⟨ret_bool HN.out.symm, hbk.drewN _⟩
    · have hkn : ∀ j : Nat, ∀ s : ByteArray, ss[j]? = some s → j < k := fun j s hs => by have := (List.getElem?_eq_some_iff.1 hs).1; have := HL.out; omega
      have hfin : listB ss = decide (n ≤ 60) := by
        unfold listB filledB
        rw [all_upto fun j s hs => HA.out j s (hkn j s hs) hs, asc_upto HL.out fun j s t hj => HB.out j s t (by omega), HL.out]
        simp
      have HFIN := Lib.hid hfin
      clear hfin hkn
      go_wp2
      go_ret
      refine ⟨ret_bool ?_, hbk⟩
      rw [HFIN.out, Bool.eq_iff_iff]; simp; omega
end Go.Proofs.Ytmolphaihapkkaa
