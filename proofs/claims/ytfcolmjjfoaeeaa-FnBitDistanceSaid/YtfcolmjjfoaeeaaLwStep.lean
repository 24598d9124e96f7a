/- The walks of the laws FnStepColumn, FnColumnRun and of chapter 5's exact laws over contracts of the program's functions. -/
import Derived.Test.YtfcolmjjfoaeeaaLwCols
import Derived.Deep.RegionHeld3
namespace Go.Proofs.Ytfcolmjjfoaeeaa
open Go.RowKit
set_option maxHeartbeats 1600000
set_option linter.unusedSimpArgs false
set_option linter.unusedVariables false

/-- what StepColumn answers: a column, or none -/
theorem step_cases (a b : ByteArray) (c : UInt8) : stepV a b c = .tuple #[.int .i64 (-1), .int .i64 (-1)] ∨
    (b.size < 12 ∧ wordB a.data.toList = true ∧ wordB b.data.toList = true ∧ wordB (snocB b c).data.toList = true ∧ stepV a b c = .tuple #[.int .i64 (upN a.data.toList (snocB b c).data.toList : Int), .int .i64 (downN a.data.toList (snocB b c).data.toList : Int)]) := by
  cases h : (letterB c.toNat && decide (b.size < 12))
  · exact .inl (stepV_no h)
  · have hy := stepV_yes (a := a) h
    cases hok : (wordB a.data.toList && wordB (snocB b c).data.toList)
    · exact .inl (by rw [hy, colV_no hok])
    · right
      have h2 := hok
      simp only [Bool.and_eq_true] at h2
      simp only [Bool.and_eq_true, decide_eq_true_eq] at h
      refine ⟨h.2, h2.1, ?_, h2.2, by rw [hy, colV_yes hok]⟩
      have := h2.2
      rw [snocB_list] at this
      unfold wordB lettersB at this ⊢
      simp only [Bool.and_eq_true, decide_eq_true_eq, List.all_append, List.length_append] at this ⊢
      exact ⟨by omega, this.2.1⟩

theorem walkFnStepColumn (HS : StepC) (HC : ColumnC) (HB : BitC) (HE : EditC) (A : Option Addr) (n c : Nat) (w : World) (h : Bytes w w.heap.size A n) (hnc : n ≤ c) (hc : c ≤ maxLen) :
    Calls Try.prog 6 #[.slice A n c] w fun e w' => e = .returned (.bool true) ∧ Below w.heap.size w w' := by
  have HS := Lib.hid HS
  have HC := Lib.hid HC
  have HB := Lib.hid HB
  have HE := Lib.hid HE
  have hn : n ≤ maxLen := Nat.le_trans hnc hc
  unfold maxLen at hn
  by_cases hn2 : (1048576 : Int) < n
  · go_enter Try.func6, Try.ntmps6
    go_wp2_with fail
    go_ret
    exact ⟨rfl, Below.refl _ _⟩
  · go_enter Try.func6, Try.ntmps6
    go_wp2_with fail
    refine (drawStepColumn_any _ _ _ _ h hnc hc).mono ?_
    rintro e w1 ⟨a, b, k, rfl, ha, hb, hb1⟩
    clear h hnc hc
    have am : a.size ≤ maxLen := by unfold maxLen; omega
    have bm : b.size ≤ maxLen := by unfold maxLen; omega
    rcases step_cases a b k with hv | ⟨hb12, hwa, hwb, hwx, hv⟩
    · have HV := Lib.hid hv
      clear hv
      go_wp2_with fail
      refine (HS.out.is HV.out _ am bm).mono ?_
      rintro e w2 ⟨rfl, hb2⟩
      have hb2 := below_step hb1 (Nat.le_refl _) hb2
      go_wp2_with fail
      refine (stepColumn_spec_is HV.out _ am bm).mono ?_
      rintro e w3 ⟨rfl, hb3⟩
      have hb3 := below_step hb2 (Nat.le_refl _) hb3
      go_wp2_with fail
      refine (alive_any _).mono ?_
      rintro e w4 ⟨rfl, hd4⟩
      go_wp2_with fail
      go_ret
      exact ⟨rfl, below_step hb3 (Nat.le_refl _) hd4.below⟩
    · have ha12 := word_len hwa
      have hx12 := word_len hwx
      have hcol := colV_yes (a := a.data.toList) (b := (snocB b k).data.toList) (by rw [hwa, hwx]; rfl)
      have hbc := bit_of_col ha12 hx12
      have s1 := up_small a.data.toList (snocB b k).data.toList ha12
      have s2 := down_small a.data.toList (snocB b k).data.toList ha12
      have hln := ed_longer a.data.toList b.data.toList k
      rw [← snocB_list] at hln
      have hmx := ed_most false a.data.toList b.data.toList
      have hb12' := word_len hwb
      rw [len_eq, len_eq, snocB_size] at hbc
      obtain ⟨d, hd⟩ : ∃ d, ed false a.data.toList b.data.toList = d := ⟨_, rfl⟩
      obtain ⟨d2, hd2⟩ : ∃ d, ed false a.data.toList (snocB b k).data.toList = d := ⟨_, rfl⟩
      rw [hd2] at hbc
      rw [hd, hd2] at hln
      rw [hd] at hmx
      generalize upN a.data.toList (snocB b k).data.toList = u at *
      generalize downN a.data.toList (snocB b k).data.toList = v at *
      have hsz : (b ++ (⟨#[k]⟩ : ByteArray)).size ≤ maxLen := by have := snocB_size b k; unfold snocB at this; unfold maxLen; omega
      have hcv := fun W => text_new W k
      have HV := Lib.hid hv
      have HCOL := Lib.hid hcol
      have HBC := Lib.hid hbc
      have HD := Lib.hid hd
      have H1 := Lib.hid hwa
      have H2 := Lib.hid hwb
      have u0 : ¬ ((u : Int) < 0) := by omega
      have Q := Lib.hid (show I64 (a.size : Int) ∧ I64 ((b.size + 1 : Nat) : Int) ∧ I64 (u : Int) ∧ I64 (v : Int) from ⟨i64_nat (by omega), i64_nat (by omega), i64_nat (by omega), i64_nat (by omega)⟩)
      rw [show ((b.size + 1 : Nat) : Int) = (b.size : Int) + 1 from rfl] at HBC Q
      have g1 : (d2 : Int) - (d : Int) ≤ 1 := by omega
      have g2 : (d : Int) - (d2 : Int) ≤ 1 := by omega
      have gw1 := IntWalk.i64_in ((d2 : Int) - (d : Int)) (by omega)
      have gw2 := IntWalk.i64_in ((d : Int) - (d2 : Int)) (by omega)
      clear hv hcol hbc hd hd2 hwa hwb hwx
      go_wp2_with fail
      refine (HS.out.is HV.out _ am bm).mono ?_
      rintro e w2 ⟨rfl, hb2⟩
      have hb2 := below_step hb1 (Nat.le_refl _) hb2
      go_wp2_with fail
      refine (stepColumn_spec_is HV.out _ am bm).mono ?_
      rintro e w3 ⟨rfl, hb3⟩
      have hb3 := below_step hb2 (Nat.le_refl _) hb3
      go_wp2_with fail
      refine (HC.out.is (b := b ++ (⟨#[k]⟩ : ByteArray)) HCOL.out _ am hsz).mono ?_
      rintro e w4 ⟨rfl, hb4⟩
      have hb4 := below_step (hb3.alloc hb3.size _) (Nat.le_refl _) hb4
      go_wp2_with fail
      refine (edit_is HE.out H1.out H2.out HD.out _).mono ?_
      rintro e w5 ⟨rfl, hb5⟩
      have hb5 := below_step hb4 (Nat.le_refl _) hb5
      go_wp2_with fail
      refine (HB.out.is HBC.out _ Q.out.1 Q.out.2.1 Q.out.2.2.1 Q.out.2.2.2).mono ?_
      rintro e w6 ⟨rfl, hb6⟩
      have hb6 := below_step hb5 (Nat.le_refl _) hb6
      go_wp2_with fail
      go_ret
      exact ⟨rfl, hb6⟩
/-- a step behind a beginning -/
theorem step_take {a b : ByteArray} (ha : wordB a.data.toList = true) (hb : wordB b.data.toList = true) (k : Nat) (hk : k < b.size) :
    stepV a (b.extract 0 k) b[k] = .tuple #[.int .i64 (upN a.data.toList (b.data.toList.take (k + 1)) : Int), .int .i64 (downN a.data.toList (b.data.toList.take (k + 1)) : Int)] := by
  have hl := word_len hb
  have hle : b.data.toList.take k ++ [b[k]] = b.data.toList.take (k + 1) := (take_snoc b k hk).symm
  have hw : wordB (b.data.toList.take (k + 1)) = true := by
    unfold wordB lettersB at hb ⊢
    simp only [Bool.and_eq_true, decide_eq_true_eq, List.all_eq_true] at hb ⊢
    exact ⟨by have := List.length_take_le (k + 1) b.data.toList; rw [List.length_take]; omega, fun x hx => hb.2 x (List.mem_of_mem_take hx)⟩
  have hlt : letterB b[k].toNat = true := by
    have h2 := hb
    unfold wordB lettersB at h2
    simp only [Bool.and_eq_true, List.all_eq_true] at h2
    exact h2.2 b[k] (List.mem_of_getElem? (get_eq b k hk))
  have hsz : (b.extract 0 k).size < 12 := by rw [ByteArray.size_extract]; rw [len_eq] at hl; omega
  rw [stepV_yes (by rw [hlt]; simpa using hsz), snocB_list, extract_take, hle, colV_yes (by rw [ha, hw]; rfl)]

theorem walkFnColumnRun (HS : StepC) (HC : ColumnC) (A : Option Addr) (n c : Nat) (w : World) (h : Bytes w w.heap.size A n) (hnc : n ≤ c) (hc : c ≤ maxLen) :
    Calls Try.prog 7 #[.slice A n c] w fun e w' => e = .returned (.bool true) ∧ Below w.heap.size w w' := by
  have HS := Lib.hid HS
  have HC := Lib.hid HC
  have hn : n ≤ maxLen := Nat.le_trans hnc hc
  unfold maxLen at hn
  by_cases hn2 : (1048576 : Int) < n
  · go_enter Try.func7, Try.ntmps7
    go_wp2_with fail
    go_ret
    exact ⟨rfl, Below.refl _ _⟩
  · go_enter Try.func7, Try.ntmps7
    go_wp2_with fail
    refine (drawBitColumn_any _ _ _ _ h hnc hc).mono ?_
    rintro e w1 ⟨a, b, rfl, ha, hb, hb1⟩
    clear h hnc hc
    have am : a.size ≤ maxLen := by unfold maxLen; omega
    have bm : b.size ≤ maxLen := by unfold maxLen; omega
    cases hok : (wordB a.data.toList && wordB b.data.toList)
    · have HV := Lib.hid (colV_no hok)
      clear hok
      go_wp2_with fail
      refine (HC.out.is HV.out _ am bm).mono ?_
      rintro e w2 ⟨rfl, hb2⟩
      have hb2 := below_step hb1 (Nat.le_refl _) hb2
      go_wp2_with fail
      refine (bitColumn_spec_is HV.out _ am bm).mono ?_
      rintro e w3 ⟨rfl, hb3⟩
      have hb3 := below_step hb2 (Nat.le_refl _) hb3
      go_wp2_with fail
      refine (alive_any _).mono ?_
      rintro e w4 ⟨rfl, hd4⟩
      go_wp2_with fail
      go_ret
      exact ⟨rfl, below_step hb3 (Nat.le_refl _) hd4.below⟩
    · have hv := colV_yes hok
      simp only [Bool.and_eq_true] at hok
      have hl := word_len hok.1
      have hl2 := word_len hok.2
      have hv0 : colV a.data.toList (ByteArray.mk #[]).data.toList = .tuple #[.int .i64 (upN a.data.toList (b.data.toList.take 0) : Int), .int .i64 (downN a.data.toList (b.data.toList.take 0) : Int)] := by
        have e0 : wordB (ByteArray.mk #[]).data.toList = true := by decide
        rw [colV_yes (by rw [hok.1, e0]; rfl), List.take_zero]
      have HSTEP := Lib.hid (fun k hk => step_take hok.1 hok.2 k hk)
      have HL := Lib.hid (show b.data.toList.take b.size = b.data.toList from List.take_of_length_le (by rw [len_eq]; omega))
      have s1 := up_small a.data.toList b.data.toList hl
      have u0 : ¬ ((upN a.data.toList b.data.toList : Int) < 0) := by omega
      have HV := Lib.hid hv
      have HV0 := Lib.hid hv0
      have em : (ByteArray.mk #[]).size ≤ maxLen := Nat.zero_le _
      rw [len_eq] at hl2
      clear hok hv hv0 s1
      go_wp2_with fail
      refine (HC.out.is HV.out _ am bm).mono ?_
      rintro e w2 ⟨rfl, hb2⟩
      have hb2 := below_step hb1 (Nat.le_refl _) hb2
      go_wp2_with fail
      refine (bitColumn_spec_is HV.out _ am bm).mono ?_
      rintro e w3 ⟨rfl, hb3⟩
      have hb3 := below_step hb2 (Nat.le_refl _) hb3
      go_wp2_with fail
      refine (HC.out.is HV0.out _ am em).mono ?_
      rintro e w4 ⟨rfl, hb4⟩
      have hb4 := below_step hb3 (Nat.le_refl _) hb4
      clear hb1 hb2 hb3 HV HV0
      go_wp2_with fail
      go_loopw [9, 10, 11] (fun x y i wr => ∃ k : Nat, k ≤ b.size ∧ i = .int .i64 k ∧ x = .int .i64 (upN a.data.toList (b.data.toList.take k) : Int) ∧ y = .int .i64 (downN a.data.toList (b.data.toList.take k) : Int) ∧ Below w.heap.size w wr) (fun _ _ i _ => b.size - (intOf i).toNat)
      case atStart => exact ⟨0, Nat.zero_le _, rfl, rfl, rfl, hb4⟩
      case round =>
        clear hb4
        obtain ⟨k, hk, rfl, rfl, rfl, hbel⟩ := hrel
        by_cases hlt : k < b.size
        · have hs := HSTEP.out k hlt
          have hk0 : (0 : Int) ≤ (k : Int) := by omega
          have hk1 : (k : Int) < (b.size : Int) := by omega
          have hk2 : (k : Int) ≤ (b.size : Int) := by omega
          have xm : (b.extract 0 k).size ≤ maxLen := by rw [ByteArray.size_extract]; unfold maxLen; omega
          obtain ⟨u, hu⟩ : ∃ u, upN a.data.toList (b.data.toList.take (k + 1)) = u := ⟨_, rfl⟩
          obtain ⟨v, hv⟩ : ∃ v, downN a.data.toList (b.data.toList.take (k + 1)) = v := ⟨_, rfl⟩
          rw [hu, hv] at hs
          have HU := Lib.hid hu
          have HV := Lib.hid hv
          have HST := Lib.hid hs
          clear hu hv hs
          go_wp2_with fail
          go_region_held3 (fun _ => True) (trivial)
            (first | ((go_at_call 24; refine (HS.out.is HST.out _ am xm).mono ?_; rintro e w5 ⟨rfl, hb5⟩)) | fail)
          all_goals
            have hb6 := below_step hbel.drew (Nat.le_refl _) hb5
            clear hb5
            go_wp2_with fail
            go_roundw
            case rel => exact ⟨k + 1, by omega, by go_num, by rw [HU.out], by rw [HV.out], hb6⟩
            case measure => simp [intOf]; omega
        · obtain rfl : k = b.size := by omega
          rw [HL.out]
          go_wp2_with fail
          go_ret
          exact ⟨rfl, hbel⟩

theorem walkFnExactLetterMask (HC : MaskC) (s : ByteArray) (c : Int) (w : World) (hs : s.size ≤ maxLen) (hc : (Lit.int .u8 c).wf = true) :
    Calls Try.prog 8 #[.string s, .int .u8 c] w fun e w' => e = .returned (.bool true) ∧ Below w.heap.size w w' := by
  have HC := Lib.hid HC
  have hs' := hs
  unfold maxLen at hs
  have hb : 0 ≤ c ∧ c ≤ 255 := by simpa [Lit.wf, IntKind.min, IntKind.max, IntKind.signed, IntKind.bits] using hc
  obtain ⟨c0, c1⟩ := hb
  clear hc
  by_cases h1 : (1048576 : Int) < s.size
  · go_enter Try.func8, Try.ntmps8
    go_wp2_with fail
    go_ret
    exact ⟨rfl, Below.refl _ _⟩
  · obtain ⟨v, hv⟩ : ∃ v, maskI s.data.toList c = v := ⟨_, rfl⟩
    have HV := Lib.hid hv
    clear hv
    go_enter Try.func8, Try.ntmps8
    go_wp2_with fail
    refine (letterMask_spec_is HV.out _ hs' c0 c1).mono ?_
    rintro e w1 ⟨rfl, hd1⟩
    have hb1 := hd1.below (B := w.heap.size)
    clear hd1
    go_wp2_with fail
    refine (HC.out.is HV.out _ hs' c0 c1).mono ?_
    rintro e w2 ⟨rfl, hb2⟩
    have hb2 := below_step hb1 (Nat.le_refl _) hb2
    go_wp2_with fail
    go_ret
    exact ⟨rfl, hb2⟩
theorem walkFnExactBitColumn (HC : ColumnC) (a b : ByteArray) (w : World) (ha : a.size ≤ maxLen) (hb : b.size ≤ maxLen) :
    Calls Try.prog 9 #[.string a, .string b] w fun e w' => e = .returned (.bool true) ∧ Below w.heap.size w w' := by
  have HC := Lib.hid HC
  have ha' := ha
  have hb' := hb
  unfold maxLen at ha hb
  by_cases h1 : (1048576 : Int) < a.size
  · go_enter Try.func9, Try.ntmps9
    go_wp2_with fail
    go_ret
    exact ⟨rfl, Below.refl _ _⟩
  · by_cases h2 : (1048576 : Int) < b.size
    · go_enter Try.func9, Try.ntmps9
      go_wp2_with fail
      go_ret
      exact ⟨rfl, Below.refl _ _⟩
    · obtain ⟨u, d, hv⟩ := colV_is a.data.toList b.data.toList
      have HV := Lib.hid hv
      clear hv
      go_enter Try.func9, Try.ntmps9
      go_wp2_with fail
      refine (bitColumn_spec_is HV.out _ ha' hb').mono ?_
      rintro e w1 ⟨rfl, hb1⟩
      go_wp2_with fail
      refine (HC.out.is HV.out _ ha' hb').mono ?_
      rintro e w2 ⟨rfl, hb2⟩
      have hb2 := below_step hb1 (Nat.le_refl _) hb2
      go_wp2_with fail
      go_ret
      exact ⟨rfl, hb2⟩
theorem i64_of {x : Int} (h : (Lit.int .i64 x).wf = true) : I64 x := by
  unfold I64
  simpa [Lit.wf, IntKind.min, IntKind.max, IntKind.signed, IntKind.bits] using h
theorem walkFnExactBitDistance (HC : BitC) (n m u d : Int) (w : World) (h1 : (Lit.int .i64 n).wf = true) (h2 : (Lit.int .i64 m).wf = true) (h3 : (Lit.int .i64 u).wf = true) (h4 : (Lit.int .i64 d).wf = true) :
    Calls Try.prog 10 #[.int .i64 n, .int .i64 m, .int .i64 u, .int .i64 d] w fun e w' => e = .returned (.bool true) ∧ Below w.heap.size w w' := by
  have HC := Lib.hid HC
  have Q := Lib.hid (And.intro (i64_of h1) (And.intro (i64_of h2) (And.intro (i64_of h3) (i64_of h4))))
  clear h1 h2 h3 h4
  obtain ⟨v, hv⟩ : ∃ v, bitI n m u d = v := ⟨_, rfl⟩
  have HV := Lib.hid hv
  clear hv
  go_enter Try.func10, Try.ntmps10
  go_wp2_with fail
  refine (bitDistance_spec_is HV.out _).mono ?_
  rintro e w1 ⟨rfl, hd1⟩
  have hb1 := hd1.below (B := w.heap.size)
  clear hd1
  go_wp2_with fail
  refine (HC.out.is HV.out _ Q.out.1 Q.out.2.1 Q.out.2.2.1 Q.out.2.2.2).mono ?_
  rintro e w2 ⟨rfl, hb2⟩
  have hb2 := below_step hb1 (Nat.le_refl _) hb2
  go_wp2_with fail
  go_ret
  exact ⟨rfl, hb2⟩
theorem stepV_is (a b : ByteArray) (c : UInt8) : ∃ u d : Int, stepV a b c = .tuple #[.int .i64 u, .int .i64 d] := by
  rcases step_cases a b c with h | ⟨_, _, _, _, h⟩
  · exact ⟨_, _, h⟩
  · exact ⟨_, _, h⟩
theorem walkFnExactStepColumn (HC : StepC) (a b : ByteArray) (c : Int) (w : World) (ha : a.size ≤ maxLen) (hb : b.size ≤ maxLen) (hc : (Lit.int .u8 c).wf = true) :
    Calls Try.prog 11 #[.string a, .string b, .int .u8 c] w fun e w' => e = .returned (.bool true) ∧ Below w.heap.size w w' := by
  have HC := Lib.hid HC
  have ha' := ha
  have hb' := hb
  unfold maxLen at ha hb
  have hbc : 0 ≤ c ∧ c ≤ 255 := by simpa [Lit.wf, IntKind.min, IntKind.max, IntKind.signed, IntKind.bits] using hc
  obtain ⟨k, rfl⟩ := u8_of hbc.1 hbc.2
  clear hc hbc
  by_cases h1 : (1048576 : Int) < a.size
  · go_enter Try.func11, Try.ntmps11
    go_wp2_with fail
    go_ret
    exact ⟨rfl, Below.refl _ _⟩
  · by_cases h2 : (1048576 : Int) < b.size
    · go_enter Try.func11, Try.ntmps11
      go_wp2_with fail
      go_ret
      exact ⟨rfl, Below.refl _ _⟩
    · obtain ⟨u, d, hv⟩ := stepV_is a b k
      have HV := Lib.hid hv
      clear hv
      go_enter Try.func11, Try.ntmps11
      go_wp2_with fail
      refine (stepColumn_spec_is HV.out _ ha' hb').mono ?_
      rintro e w1 ⟨rfl, hb1⟩
      go_wp2_with fail
      refine (HC.out.is HV.out _ ha' hb').mono ?_
      rintro e w2 ⟨rfl, hb2⟩
      have hb2 := below_step hb1 (Nat.le_refl _) hb2
      go_wp2_with fail
      go_ret
      exact ⟨rfl, hb2⟩
end Go.Proofs.Ytfcolmjjfoaeeaa
