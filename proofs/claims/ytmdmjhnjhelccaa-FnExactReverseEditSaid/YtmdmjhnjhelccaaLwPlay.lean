/- The walk of the law FnApplyScript, over a contract of the program's ApplyScript. -/
import Derived.Test.YtmdmjhnjhelccaaScrDraw
import Derived.Test.YtmdmjhnjhelccaaLwScript
namespace Go.Proofs.Ytmdmjhnjhelccaa
open Go.RowKit
set_option maxHeartbeats 1600000
set_option linter.unusedSimpArgs false
set_option linter.unusedVariables false

theorem Chgs.first {w : World} {B n h : Nat} {A : Option Addr} {l : List Chg} (k : Chgs w B A n l) (hh : h ≤ n) : Chgs w B A h (l.take h) :=
  ⟨by rw [List.length_take, k.1]; omega, fun h0 => by
    obtain ⟨b, o, e, hb, hc⟩ := k.2 (by omega)
    exact ⟨b, o, e, hb, fun j x hx => hc j x (by rw [List.getElem?_take] at hx; split at hx; exact hx; cases hx)⟩⟩
theorem Chgs.rest {w : World} {B n h b o : Nat} {l : List Chg} (k : Chgs w B (some ⟨b, o, none⟩) n l) (hh : h ≤ n) : Chgs w B (some ⟨b, o + h * 3, none⟩) (n - h) (l.drop h) :=
  ⟨by rw [List.length_drop, k.1], fun h0 => by
    obtain ⟨b', o', e, hb, hc⟩ := k.2 (by omega)
    injection e with e; injection e with e1 e2; subst e1; subst e2
    refine ⟨b, o + h * 3, rfl, hb, fun j x hx => ?_⟩
    rw [List.getElem?_drop] at hx
    have := hc (h + j) x hx
    rw [show o + h * 3 + j * 3 = o + (h + j) * 3 by omega]
    exact this⟩
theorem Chgs.empty {w : World} {B : Nat} {A : Option Addr} : Chgs w B A 0 [] := ⟨rfl, fun h => absurd h (by omega)⟩
/-- a script that can be played can be played in two parts -/
theorem script_parts {s x : List UInt8} {l : List Chg} (h : scriptL s l = some x) (m : Nat) : ∃ a, scriptL s (l.take m) = some a ∧ scriptL a (l.drop m) = some x ∧ scriptL s [] = some s ∧ longB s = true ∧ longB a = true ∧ longB x = true := by
  unfold scriptL at h
  split at h
  · rename_i h0
    simp only [Bool.and_eq_true, decide_eq_true_eq] at h0
    have h1 := h
    rw [← List.take_append_drop m l, applyAll_append] at h1
    cases ha : applyAll s (l.take m) with
    | none => rw [ha] at h1; cases h1
    | some a =>
      rw [ha] at h1
      have hl := applyAll_text h0.1 ha
      refine ⟨a, ?_, ?_, ?_, h0.1, hl, applyAll_text h0.1 h⟩
      · rw [scriptL_ok h0.1 (by rw [List.length_take]; omega)]; exact ha
      · rw [scriptL_ok hl (by rw [List.length_drop]; omega)]; exact h1
      · rw [scriptL_ok h0.1 (by simp)]; rfl
  · cases h
theorem PlayC.is (h : PlayC) {s : ByteArray} {l : List Chg} {v : Value} (hv : scriptV s l = v) (A : Option Addr) (n c B : Nat) (w : World) (hs : s.size ≤ maxLen) (hn : n ≤ maxLen) (hl : Chgs w B A n l) (hB : B ≤ w.heap.size) :
    Calls Try.prog 20 #[.string s, .slice A n c] w fun e w' => e = .returned v ∧ Below w.heap.size w w' := hv ▸ h s A n c B l w hs hn hl hB
theorem applyScript_spec_is {s : ByteArray} {l : List Chg} {v : Value} (hv : scriptV s l = v) (A : Option Addr) (n c B : Nat) (w : World) (hs : s.size ≤ maxLen) (hn : n ≤ maxLen) (hl : Chgs w B A n l) (hB : B ≤ w.heap.size) :
    Calls Try.prog 21 #[.string s, .slice A n c] w fun e w' => e = .returned v ∧ Below w.heap.size w w' := hv ▸ applyScript_spec s A n c B l w hs hn hl hB

set_option maxRecDepth 100000 in
theorem walkFnApplyScript (HP : PlayC) (A : Option Addr) (n c : Nat) (w : World) (h : Bytes w w.heap.size A n) (hnc : n ≤ c) (hc : c ≤ maxLen) :
    Calls Try.prog 4 #[.slice A n c] w fun e w' => e = .returned (.bool true) ∧ Below w.heap.size w w' := by
  have HP := Lib.hid HP
  have hn : n ≤ maxLen := Nat.le_trans hnc hc
  unfold maxLen at hn
  by_cases hn2 : (1048576 : Int) < n
  · go_enter Try.func4, Try.ntmps4
    go_wp2_with fail
    go_ret
    exact ⟨rfl, Below.refl _ _⟩
  · go_enter Try.func4, Try.ntmps4
    go_wp2_with fail
    refine (drawApplyScript_any _ _ _ _ h hnc hc).mono ?_
    rintro e w1 ⟨s, g, m, cap, l, rfl, hs, hm, hmc, hcm, hch, hb1⟩
    have sm : s.size ≤ maxLen := by unfold maxLen; omega
    have mm : m ≤ maxLen := by unfold maxLen; omega
    clear h hnc hc
    have HCH := Lib.hid hch
    clear hch
    cases ha : scriptL s.data.toList l
    · have HV := Lib.hid (scriptV_none ha)
      clear ha
      go_wp2_with fail
      refine (HP.out.is HV.out _ _ _ w1.heap.size _ sm mm HCH.out (Nat.le_refl _)).mono ?_
      rintro e w3 ⟨rfl, hb3⟩
      have hch3 := HCH.out.below hb3
      have hz3 := hb3.size
      have hb3 := below_step hb1 (Nat.le_refl _) hb3
      have HCH3 := Lib.hid hch3
      clear hch3
      go_wp2_with fail
      refine (applyScript_spec_is HV.out _ _ _ w1.heap.size _ sm mm HCH3.out hz3).mono ?_
      rintro e w4 ⟨rfl, hb4⟩
      have hb4 := below_step hb3 (Nat.le_refl _) hb4
      go_wp2_with fail
      refine (alive_any _).mono ?_
      rintro e w6 ⟨rfl, hd6⟩
      go_wp2_with fail
      go_ret
      exact ⟨rfl, below_step hb4 (Nat.le_refl _) hd6.below⟩
    · rename_i xl
      obtain ⟨x, rfl⟩ : ∃ x : ByteArray, xl = x.data.toList := ⟨⟨xl.toArray⟩, by simp⟩
      obtain ⟨al, p1, p2, p3, -, hla, hlx⟩ := script_parts ha (m / 2)
      obtain ⟨a, rfl⟩ : ∃ x : ByteArray, al = x.data.toList := ⟨⟨al.toArray⟩, by simp⟩
      have am : a.size ≤ maxLen := by have := longB_size hla; unfold maxLen; omega
      have HV := Lib.hid (scriptV_some ha)
      have HV1 := Lib.hid (scriptV_some p1)
      have HV2 := Lib.hid (scriptV_some p2)
      have HV3 := Lib.hid (scriptV_some (x := s) p3)
      have hq1 : (x.toList != x.toList) = false := by unfold bne; simp
      have hq2 : (x.toList == x.toList) = true := by simp
      have hq3 : (s.toList == s.toList) = true := by simp
      have htd : (m : Int).tdiv 2 = ((m / 2 : Nat) : Int) := rfl
      have hed : (m : Int) / 2 = ((m / 2 : Nat) : Int) := rfl
      have hh : m / 2 ≤ m := by omega
      have hh2 : m ≤ 2 * (m / 2) + 1 := by omega
      clear ha p1 p2 p3 hla hlx
      generalize m / 2 = k at *
      have i0 : (0 : Int) ≤ (k : Int) := by omega
      have i1 : (k : Int) ≤ (m : Int) := by omega
      have i2 : (k : Int) ≤ (cap : Int) := by omega
      have i3 : (m : Int) ≤ (cap : Int) := by omega
      have km : k ≤ maxLen := by omega
      have mkm : m - k ≤ maxLen := by omega
      go_wp2_with fail
      refine (HP.out.is HV.out _ _ _ w1.heap.size _ sm mm HCH.out (Nat.le_refl _)).mono ?_
      rintro e w3 ⟨rfl, hb3⟩
      have hch3 := HCH.out.below hb3
      have hz3 := hb3.size
      have hb3 := below_step hb1 (Nat.le_refl _) hb3
      have HCH3 := Lib.hid hch3
      clear hch3
      go_wp2_with fail
      refine (applyScript_spec_is HV.out _ _ _ w1.heap.size _ sm mm HCH3.out hz3).mono ?_
      rintro e w4 ⟨rfl, hb4⟩
      have hch4 := HCH3.out.below (hb4.mono hz3)
      have hz4 := Nat.le_trans hz3 hb4.size
      have hb4 := below_step hb3 (Nat.le_refl _) hb4
      have HCH4 := Lib.hid hch4
      clear hch4
      go_wp2_with fail
      refine (HP.out.is HV1.out _ _ _ w1.heap.size _ sm km (HCH4.out.first hh) hz4).mono ?_
      rintro e w5 ⟨rfl, hb5⟩
      have hch5 := HCH4.out.below (hb5.mono hz4)
      have hz5 := Nat.le_trans hz4 hb5.size
      have hb5 := below_step hb4 (Nat.le_refl _) hb5
      have HCH5 := Lib.hid hch5
      clear hch5
      by_cases hck : k < cap
      · have hR := HCH5.out.rest hh
        rw [Nat.zero_add] at hR
        have HR := Lib.hid hR
        have j1 : (k : Int) < (cap : Int) := by omega
        have j2 : ¬ cap = k := by omega
        have j3 : ¬ cap - k = 0 := by omega
        have j4 : ¬ cap ≤ k := by omega
        clear hR
        go_wp2_with fail
        refine (HP.out.is HV2.out _ _ _ w1.heap.size _ am mkm HR.out hz5).mono ?_
        rintro e w6 ⟨rfl, hb6⟩
        have hz6 := Nat.le_trans hz5 hb6.size
        have hb6 := below_step hb5 (Nat.le_refl _) hb6
        go_wp2_with fail
        refine (HP.out.is HV3.out _ _ _ w1.heap.size _ sm (by unfold maxLen; omega) Chgs.empty hz6).mono ?_
        rintro e w7 ⟨rfl, hb7⟩
        have hb7 := below_step hb6 (Nat.le_refl _) hb7
        go_wp2_with fail
        go_ret
        exact ⟨rfl, hb7⟩
      · obtain rfl : cap = k := by omega
        have hmk : m - cap = 0 := by omega
        have hlk : l.drop cap = [] := by rw [List.drop_of_length_le]; rw [HCH5.out.len]; omega
        have HR := Lib.hid (show Chgs w5 w1.heap.size (some ⟨g, 0, none⟩) 0 (l.drop cap) by rw [hlk]; exact Chgs.empty)
        clear hmk hlk hck
        go_wp2_with fail
        refine (HP.out.is HV2.out _ _ _ w1.heap.size _ am (by unfold maxLen; omega) HR.out hz5).mono ?_
        rintro e w6 ⟨rfl, hb6⟩
        have hz6 := Nat.le_trans hz5 hb6.size
        have hb6 := below_step hb5 (Nat.le_refl _) hb6
        go_wp2_with fail
        refine (HP.out.is HV3.out _ _ _ w1.heap.size _ sm (by unfold maxLen; omega) Chgs.empty hz6).mono ?_
        rintro e w7 ⟨rfl, hb7⟩
        have hb7 := below_step hb6 (Nat.le_refl _) hb7
        go_wp2_with fail
        go_ret
        exact ⟨rfl, hb7⟩
end Go.Proofs.Ytmdmjhnjhelccaa
