/- The walks of the laws FnEditScript and FnScriptBack, over contracts of the program's EditScript, ApplyScript, EditDistance. -/
import Derived.Test.YtmdmjhnjhelccaaEsSpec
import Derived.Test.YtmdmjhnjhelccaaScrSpec
import Derived.Test.YtmdmjhnjhelccaaDrawDist
namespace Go.Proofs.Ytmdmjhnjhelccaa
open Go.RowKit
set_option maxHeartbeats 1600000
set_option linter.unusedSimpArgs false
set_option linter.unusedVariables false

/-- a slice of changes that came out of a call -/
def CameOut (l : List Chg) (w : World) (e : Ending) (w' : World) : Prop :=
  ∃ (A : Option Addr) (n c : Nat), e = .returned (.slice A n c) ∧ n ≤ 24 ∧ Chgs w' w'.heap.size A n l ∧ Below w.heap.size w w'
/-- what impl.EditScript does -/
def ScriptC : Prop := ∀ (a b : ByteArray) (w : World), a.size ≤ maxLen → b.size ≤ maxLen →
  Calls Try.prog 23 #[.string a, .string b] w (CameOut (scriptE a.data.toList b.data.toList) w)
/-- what impl.ApplyScript does -/
def PlayC : Prop := ∀ (s : ByteArray) (A : Option Addr) (n c B : Nat) (l : List Chg) (w : World), s.size ≤ maxLen → n ≤ maxLen → Chgs w B A n l → B ≤ w.heap.size →
  Calls Try.prog 20 #[.string s, .slice A n c] w fun e w' => e = .returned (scriptV s l) ∧ Below w.heap.size w w'
theorem ScriptC.is (h : ScriptC) {a b : ByteArray} {l : List Chg} (hl : scriptE a.data.toList b.data.toList = l) (w : World) (ha : a.size ≤ maxLen) (hb : b.size ≤ maxLen) :
    Calls Try.prog 23 #[.string a, .string b] w (CameOut l w) := hl ▸ h a b w ha hb
theorem editScript_spec_is {a b : ByteArray} {l : List Chg} (hl : scriptE a.data.toList b.data.toList = l) (w : World) (ha : a.size ≤ maxLen) (hb : b.size ≤ maxLen) (hs : l.length ≤ 24) :
    Calls Try.prog 24 #[.string a, .string b] w (CameOut l w) :=
  (editScript_spec a b w ha hb).mono fun e w' ⟨g, n, cap, he, ho, hb⟩ => by
    rw [hl] at ho
    exact ⟨_, n, cap, he, by rw [← ho.len]; exact hs, ho.chgs, hb⟩
theorem scriptE_len {a b : List UInt8} (h : (wordB a && wordB b) = true) : (scriptE a b).length = ed false a b := by unfold scriptE; rw [if_pos h, script_len]
theorem scriptE_no {a b : List UInt8} (h : (wordB a && wordB b) = false) : scriptE a b = [] := by unfold scriptE; rw [h]; rfl
theorem scriptE_short (a b : List UInt8) : (scriptE a b).length ≤ 24 := by
  cases h : (wordB a && wordB b)
  · rw [scriptE_no h]; exact Nat.zero_le _
  · rw [scriptE_len h]
    simp only [Bool.and_eq_true, wordB, decide_eq_true_eq] at h
    have := ed_most false a b
    omega
theorem word_long {l : List UInt8} (h : wordB l = true) : longB l = true ∧ l.length ≤ 12 := by
  simp only [wordB, Bool.and_eq_true, decide_eq_true_eq] at h
  exact ⟨by simp only [longB, small_letters, h.2, Bool.true_and, decide_eq_true_eq]; omega, h.1⟩

theorem walkFnEditScript (HC : ScriptC) (HP : PlayC) (HE : EditC) (A : Option Addr) (n c : Nat) (w : World) (h : Bytes w w.heap.size A n) (hnc : n ≤ c) (hc : c ≤ maxLen) :
    Calls Try.prog 5 #[.slice A n c] w fun e w' => e = .returned (.bool true) ∧ Below w.heap.size w w' := by
  have HC := Lib.hid HC
  have HP := Lib.hid HP
  have HE := Lib.hid HE
  have hn : n ≤ maxLen := Nat.le_trans hnc hc
  unfold maxLen at hn
  by_cases hn2 : (1048576 : Int) < n
  · go_enter Try.func5, Try.ntmps5
    go_wp2_with fail
    go_ret
    exact ⟨rfl, Below.refl _ _⟩
  · go_enter Try.func5, Try.ntmps5
    go_wp2_with fail
    refine (drawEditScript_any _ _ _ _ h hnc hc).mono ?_
    rintro e w1 ⟨a, b, rfl, ha, hb, hb1⟩
    have am : a.size ≤ maxLen := by unfold maxLen; omega
    have bm : b.size ≤ maxLen := by unfold maxLen; omega
    clear h hnc hc
    obtain ⟨l, hl⟩ : ∃ l, scriptE a.data.toList b.data.toList = l := ⟨_, rfl⟩
    have hl24 : l.length ≤ 24 := by rw [← hl]; exact scriptE_short _ _
    have HL := Lib.hid hl
    clear hl
    go_wp2_with fail
    refine (HC.out.is HL.out _ am bm).mono ?_
    rintro e w2 ⟨A2, n2, c2, rfl, hn2', hch2, hb2⟩
    go_wp2_with fail
    refine (editScript_spec_is HL.out _ am bm hl24).mono ?_
    rintro e w3 ⟨A3, n3, c3, rfl, hn3', hch3, hb3⟩
    obtain rfl : n3 = n2 := by have := hch2.len; have := hch3.len; omega
    have hch2 := hch2.step hb3 (Nat.le_refl _)
    have hB2 := hb3.size
    have hbel := below_step (below_step hb1 (Nat.le_refl _) hb2) (Nat.le_refl _) hb3
    have hch2 := hch2.more hB2
    clear hb1 hb2 hb3 hB2
    have hnn : ((n3 : Int) != (n3 : Int)) = false := by simp
    go_wp2_with fail
    go_loopw [7] (fun i wr => ∃ k : Nat, k ≤ n3 ∧ i = .int .i64 k ∧ Drawn w3 wr) (fun i _ => n3 - (intOf i).toNat)
    case atStart => exact ⟨0, Nat.zero_le _, rfl, Drawn.refl _⟩
    case round =>
      obtain ⟨k, hk, rfl, hdr⟩ := hrel
      have hbw := below_step hbel (Nat.le_refl _) hdr.below
      have hc2r := hch2.drawn hdr
      have hc3r := hch3.drawn hdr
      by_cases hlt : k < n3
      · obtain ⟨b2, o2, d, hA2, -, hd, x0, x1, x2⟩ := hc2r.at_ hlt
        obtain ⟨b3, o3, d', hA3, -, hd', y0, y1, y2⟩ := hc3r.at_ hlt
        obtain rfl : d' = d := by rw [hd] at hd'; injection hd' with e; exact e.symm
        subst hA2
        subst hA3
        obtain ⟨dk, dp, dc⟩ := d'
        simp only at x0 x1 x2 y0 y1 y2
        have i0 : (0 : Int) ≤ (k : Int) := by omega
        have i1 : (k : Int) < (n3 : Int) := by omega
        clear hc2r hc3r hd hd' hch2 hch3
        go_wp2_with fail
        go_quiet (fail)
        go_wp2_with fail
        go_roundw
        case rel => exact ⟨k + 1, by omega, by go_num, hdr.drewN _⟩
        case measure => simp [intOf]; omega
      · obtain rfl : k = n3 := by omega
        clear hch2 hch3 hc3r hlt
        cases hva : wordB a.data.toList
        · have hl0 : l = [] := by rw [← HL.out]; exact scriptE_no (by rw [hva]; rfl)
          have hk0 : k = 0 := by have := hc2r.len; rw [hl0] at this; exact this.symm
          have hq : ((k : Int) == 0) = true := by simp; exact hk0
          have HA := Lib.hid hva
          clear hva hl0 hk0 hc2r
          go_wp2_with fail
          refine (wordValid_spec _ _ am).mono ?_
          rintro e w' ⟨rfl, rfl⟩
          rw [HA.out]
          go_wp2_with fail
          refine (alive_any _).mono ?_
          rintro e w5 ⟨rfl, hd5⟩
          go_wp2_with fail
          go_ret
          exact ⟨rfl, below_step hbw (Nat.le_refl _) hd5.below⟩
        · cases hvb : wordB b.data.toList
          · have hl0 : l = [] := by rw [← HL.out]; exact scriptE_no (by rw [hva, hvb]; rfl)
            have hk0 : k = 0 := by have := hc2r.len; rw [hl0] at this; exact this.symm
            have hq : ((k : Int) == 0) = true := by simp; exact hk0
            have HA := Lib.hid hva
            have HB := Lib.hid hvb
            clear hva hvb hl0 hk0 hc2r
            go_wp2_with fail
            refine (wordValid_spec _ _ am).mono ?_
            rintro e w' ⟨rfl, rfl⟩
            rw [HA.out]
            go_wp2_with fail
            refine (wordValid_spec _ _ bm).mono ?_
            rintro e w' ⟨rfl, rfl⟩
            rw [HB.out]
            go_wp2_with fail
            refine (alive_any _).mono ?_
            rintro e w5 ⟨rfl, hd5⟩
            go_wp2_with fail
            go_ret
            exact ⟨rfl, below_step hbw (Nat.le_refl _) hd5.below⟩
          · have hlen : ed false a.data.toList b.data.toList = k := by rw [← scriptE_len (by rw [hva, hvb]; rfl), HL.out]; exact hc2r.len
            have hvv : scriptV a l = .tuple #[.string b, .bool true] := scriptV_some (by
              rw [← HL.out]
              unfold scriptE
              rw [if_pos (by rw [hva, hvb]; rfl)]
              exact script_apply (word_long hva).1 (word_long hvb).1 (word_long hva).2 (word_long hvb).2)
            have hed := twoI_yes (f := fun x y => (ed false x y : Int)) (a := a.data.toList) (b := b.data.toList) (by rw [hva, hvb]; rfl)
            rw [hlen] at hed
            have HV := Lib.hid hvv
            have HED := Lib.hid hed
            have HA := Lib.hid hva
            have HB := Lib.hid hvb
            have HCH := Lib.hid hc2r
            have hsw : w3.heap.size ≤ wr.heap.size := by rw [hdr.size]; exact Nat.le_refl _
            have hbb : (b.toList == b.toList) = true := by simp
            have hkk : ((k : Int) == (k : Int)) = true := by simp
            have HPL := Lib.hid (show ∀ W, _ from fun W (hB : w3.heap.size ≤ W.heap.size) (hcg : Chgs W w3.heap.size A2 k l) => HP.out a A2 k c2 w3.heap.size l W am (by unfold maxLen; omega) hcg hB)
            clear hva hvb hlen hvv hed hc2r
            go_wp2_with fail
            refine (wordValid_spec _ _ am).mono ?_
            rintro e w' ⟨rfl, rfl⟩
            rw [HA.out]
            go_wp2_with fail
            refine (wordValid_spec _ _ bm).mono ?_
            rintro e w' ⟨rfl, rfl⟩
            rw [HB.out]
            go_wp2_with fail
            refine (HPL.out _ hsw HCH.out).mono ?_
            rintro e w5 ⟨rfl, hd5⟩
            rw [HV.out]
            have hbw := below_step hbw (Nat.le_refl _) hd5
            clear hd5 HCH
            go_wp2_with fail
            refine (HE.out _ _ _ am bm).mono ?_
            rintro e w6 ⟨rfl, hd6⟩
            rw [HED.out]
            go_wp2_with fail
            go_ret
            exact ⟨rfl, below_step hbw (Nat.le_refl _) hd6⟩

theorem walkFnScriptBack (HC : ScriptC) (A : Option Addr) (n c : Nat) (w : World) (h : Bytes w w.heap.size A n) (hnc : n ≤ c) (hc : c ≤ maxLen) :
    Calls Try.prog 7 #[.slice A n c] w fun e w' => e = .returned (.bool true) ∧ Below w.heap.size w w' := by
  have HC := Lib.hid HC
  have hn : n ≤ maxLen := Nat.le_trans hnc hc
  unfold maxLen at hn
  by_cases hn2 : (1048576 : Int) < n
  · go_enter Try.func7, Try.ntmps7
    go_wp2_with fail
    go_ret
    exact ⟨rfl, Below.refl _ _⟩
  · go_enter Try.func7, Try.ntmps7
    go_wp2_with fail
    refine (drawEditScript_any _ _ _ _ h hnc hc).mono ?_
    rintro e w1 ⟨a, b, rfl, ha, hb, hb1⟩
    have am : a.size ≤ maxLen := by unfold maxLen; omega
    have bm : b.size ≤ maxLen := by unfold maxLen; omega
    clear h hnc hc
    obtain ⟨l, hl⟩ : ∃ l, scriptE a.data.toList b.data.toList = l := ⟨_, rfl⟩
    obtain ⟨l2, hl2⟩ : ∃ l, scriptE b.data.toList a.data.toList = l := ⟨_, rfl⟩
    have hl24 : l.length ≤ 24 := by rw [← hl]; exact scriptE_short _ _
    have hll : l2.length = l.length := by
      rw [← hl, ← hl2]
      cases hv : (wordB a.data.toList && wordB b.data.toList)
      · rw [scriptE_no hv, scriptE_no (by rw [Bool.and_comm]; exact hv)]
      · rw [scriptE_len hv, scriptE_len (by rw [Bool.and_comm]; exact hv), ed_symm]
    have haa : scriptE a.data.toList a.data.toList = [] := by
      cases hv : wordB a.data.toList
      · exact scriptE_no (by rw [hv]; rfl)
      · have h1 := scriptE_len (a := a.data.toList) (b := a.data.toList) (by rw [hv]; rfl)
        rw [(ed_zero false _ _).2 rfl] at h1
        exact List.length_eq_zero_iff.1 h1
    have HL := Lib.hid hl
    have HL2 := Lib.hid hl2
    have HAA := Lib.hid haa
    clear hl hl2 haa
    go_wp2_with fail
    refine (HC.out.is HL.out _ am bm).mono ?_
    rintro e w2 ⟨A2, n2, c2, rfl, hn2', hch2, hb2⟩
    go_wp2_with fail
    refine (editScript_spec_is HL.out _ am bm hl24).mono ?_
    rintro e w3 ⟨A3, n3, c3, rfl, hn3', hch3, hb3⟩
    obtain rfl : n3 = n2 := by have := hch2.len; have := hch3.len; omega
    have hnn : ((n3 : Int) != (n3 : Int)) = false := by simp
    have hnn2 : ((n3 : Int) == (n3 : Int)) = true := by simp
    go_wp2_with fail
    refine (HC.out.is HL2.out _ bm am).mono ?_
    rintro e w4 ⟨A4, n4, c4, rfl, hn4', hch4, hb4⟩
    obtain rfl : n4 = n3 := by have := hch4.len; have := hch3.len; omega
    go_wp2_with fail
    refine (HC.out.is HAA.out _ am am).mono ?_
    rintro e w5 ⟨A5, n5, c5, rfl, hn5', hch5, hb5⟩
    obtain rfl : n5 = 0 := by have := hch5.len; simpa using this.symm
    have D := Lib.hid (below_step (below_step (below_step (below_step hb1 (Nat.le_refl _) hb2) (Nat.le_refl _) hb3) (Nat.le_refl _) hb4) (Nat.le_refl _) hb5)
    clear hb1 hb2 hb3 hb4 hb5 hch2 hch3 hch4 hch5
    go_wp2_with fail
    refine (alive_any _).mono ?_
    rintro e w6 ⟨rfl, hd6⟩
    go_wp2_with fail
    go_ret
    exact ⟨rfl, below_step D.out (Nat.le_refl _) hd6.below⟩
end Go.Proofs.Ytmdmjhnjhelccaa
