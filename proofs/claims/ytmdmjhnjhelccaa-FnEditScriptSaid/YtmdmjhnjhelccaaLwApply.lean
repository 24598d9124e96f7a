/- The walks of the laws FnApplyEdit and FnReverseEdit, over contracts of the program's ApplyEdit, ReverseEdit, EditDistance. -/
import Derived.Test.YtmdmjhnjhelccaaEditDraw
import Derived.Test.YtmdmjhnjhelccaaDistFns
namespace Go.Proofs.Ytmdmjhnjhelccaa
open Go.RowKit
set_option maxHeartbeats 1600000
set_option linter.unusedSimpArgs false
set_option linter.unusedVariables false

/-- what impl.ApplyEdit does -/
def ApplyC : Prop := ∀ (s : ByteArray) (k p : Int) (c : UInt8) (w : World), s.size ≤ maxLen →
  Calls Try.prog 13 #[.string s, .agg #[.int .i64 k, .int .i64 p, .int .u8 (c.toNat : Int)]] w fun e w' => e = .returned (applyV s k p c) ∧ Below w.heap.size w w'
/-- what impl.ReverseEdit does -/
def ReverseC : Prop := ∀ (s : ByteArray) (k p : Int) (c : UInt8) (w : World), s.size ≤ maxLen →
  Calls Try.prog 16 #[.string s, .agg #[.int .i64 k, .int .i64 p, .int .u8 (c.toNat : Int)]] w fun e w' => e = .returned (reverseV s ⟨k, p, c⟩) ∧ Below w.heap.size w w'
theorem ApplyC.is (h : ApplyC) {s : ByteArray} {k p : Int} {c : UInt8} {v : Value} (hv : applyV s k p c = v) (w : World) (hs : s.size ≤ maxLen) :
    Calls Try.prog 13 #[.string s, .agg #[.int .i64 k, .int .i64 p, .int .u8 (c.toNat : Int)]] w fun e w' => e = .returned v ∧ Below w.heap.size w w' := hv ▸ h s k p c w hs
theorem ReverseC.is (h : ReverseC) {s : ByteArray} {k p : Int} {c : UInt8} {v : Value} (hv : reverseV s ⟨k, p, c⟩ = v) (w : World) (hs : s.size ≤ maxLen) :
    Calls Try.prog 16 #[.string s, .agg #[.int .i64 k, .int .i64 p, .int .u8 (c.toNat : Int)]] w fun e w' => e = .returned v ∧ Below w.heap.size w w' := hv ▸ h s k p c w hs
theorem reverseEdit_spec_is {s : ByteArray} {k p : Int} {c : UInt8} {v : Value} (hv : reverseV s ⟨k, p, c⟩ = v) (w : World) (hs : s.size ≤ maxLen) :
    Calls Try.prog 27 #[.string s, .agg #[.int .i64 k, .int .i64 p, .int .u8 (c.toNat : Int)]] w fun e w' => e = .returned v ∧ Below w.heap.size w w' := hv ▸ reverseEdit_spec s k p c w hs
theorem reverseV_some {s : ByteArray} {e r : Chg} (h : reverseL s.data.toList e = some r) : reverseV s e = .tuple #[.agg #[.int .i64 r.k, .int .i64 r.p, .int .u8 (r.c.toNat : Int)], .bool true] := by unfold reverseV; rw [h]; rfl
theorem applyV_text {s : ByteArray} {k p : Int} {c : UInt8} {x : ByteArray} (h : applyL s.data.toList ⟨k, p, c⟩ = some x.data.toList) : applyV s k p c = .tuple #[.string x, .bool true] := by
  rw [applyV_some h, ← ba_eq (x := x) rfl]
theorem held {w w' : World} {g : Nat} {o : Obj} (hb : Below w.heap.size w w') (h : w.heap[g]? = some o) : w'.heap[g]? = some o := (hb.block g (Array.getElem?_eq_some_iff.1 h).1).trans h
theorem text_ne {s t : ByteArray} (h : s.data.toList ≠ t.data.toList) : (s.toList != t.toList) = true := by unfold bne; rw [text_beq, decide_eq_false h]; rfl

set_option maxRecDepth 100000 in
theorem walkFnApplyEdit (HC : ApplyC) (HR : ReverseC) (HE : EditC) (A : Option Addr) (n c : Nat) (w : World) (h : Bytes w w.heap.size A n) (hnc : n ≤ c) (hc : c ≤ maxLen) :
    Calls Try.prog 3 #[.slice A n c] w fun e w' => e = .returned (.bool true) ∧ Below w.heap.size w w' := by
  have HC := Lib.hid HC
  have HR := Lib.hid HR
  have HE := Lib.hid HE
  have hn : n ≤ maxLen := Nat.le_trans hnc hc
  unfold maxLen at hn
  by_cases hn2 : (1048576 : Int) < n
  · go_enter Try.func3, Try.ntmps3
    go_wp2_with fail
    go_ret
    exact ⟨rfl, Below.refl _ _⟩
  · go_enter Try.func3, Try.ntmps3
    go_wp2_with fail
    refine (drawApplyEdit_any _ _ _ _ h hnc hc).mono ?_
    rintro e w1 ⟨s, ⟨k, p, z⟩, rfl, hs, hb1⟩
    have sm : s.size ≤ maxLen := by unfold maxLen; omega
    clear h hnc hc
    unfold chgV
    have hb2 := hb1.alloc hb1.size (.cells #[.int .i64 k, .int .i64 p, .int .u8 (z.toNat : Int)] 24)
    have he2 := heap_alloc_new w1 (.cells #[.int .i64 k, .int .i64 p, .int .u8 (z.toNat : Int)] 24)
    have HB2 := Lib.hid hb2
    have HE2 := Lib.hid he2
    clear hb1 hb2 he2
    cases ha : applyL s.data.toList ⟨k, p, z⟩
    · have HV := Lib.hid (applyV_none ha)
      clear ha
      go_wp2_with fail
      refine (HC.out.is HV.out _ sm).mono ?_
      rintro e w3 ⟨rfl, hb3⟩
      have he3 := held hb3 HE2.out
      have hb3 := below_step HB2.out (Nat.le_refl _) hb3
      obtain ⟨⟨r0, r1, r2⟩, -, -, -⟩ := row3 he3
      have HE3 := Lib.hid he3
      clear he3
      go_wp2_with fail
      refine (applyEdit_spec_is HV.out _ sm).mono ?_
      rintro e w4 ⟨rfl, hb4⟩
      have hb4 := below_step hb3 (Nat.le_refl _) hb4
      go_wp2_with fail
      refine (alive_any _).mono ?_
      rintro e w5 ⟨rfl, hd5⟩
      go_wp2_with fail
      go_ret
      exact ⟨rfl, below_step hb4 (Nat.le_refl _) hd5.below⟩
    · rename_i xl
      obtain ⟨x, rfl⟩ : ∃ x : ByteArray, xl = x.data.toList := ⟨⟨xl.toArray⟩, by simp⟩
      obtain ⟨r, hr, hxr, -, hl1, hl2, hne, -⟩ := apply_back ha
      obtain ⟨rk, rp, rc⟩ := r
      rw [len_eq, len_eq] at hl1 hl2
      have xm : x.size ≤ maxLen := by unfold maxLen; omega
      have HV := Lib.hid (applyV_text ha)
      have HRV := Lib.hid (reverseV_some hr)
      have HXV := Lib.hid (applyV_text (x := s) hxr)
      have hq1 : (x.toList == s.toList) = false := by rw [text_beq, decide_eq_false hne]
      have hq2 : (s.toList == s.toList) = true := by simp
      have hq3 : (x.toList != x.toList) = false := by unfold bne; simp
      have i1 : (x.size : Int) - s.size ≤ 1 := by omega
      have i2 : (s.size : Int) - x.size ≤ 1 := by omega
      have j1 := IntWalk.i64_in ((x.size : Int) - s.size) (by omega)
      have j2 := IntWalk.i64_in ((s.size : Int) - x.size) (by omega)
      have hed := ed_of_apply ha
      have HA := Lib.hid hed
      clear ha hr hxr hne hed
      go_wp2_with fail
      refine (HC.out.is HV.out _ sm).mono ?_
      rintro e w3 ⟨rfl, hb3⟩
      have he3 := held hb3 HE2.out
      have hb3 := below_step HB2.out (Nat.le_refl _) hb3
      obtain ⟨⟨r0, r1, r2⟩, -, -, -⟩ := row3 he3
      have HE3 := Lib.hid he3
      clear he3
      go_wp2_with fail
      refine (applyEdit_spec_is HV.out _ sm).mono ?_
      rintro e w4 ⟨rfl, hb4⟩
      have he4 := held hb4 HE3.out
      have hb4 := below_step hb3 (Nat.le_refl _) hb4
      obtain ⟨⟨t0, t1, t2⟩, -, -, -⟩ := row3 he4
      clear he4 r0 r1 r2
      go_wp2_with fail
      refine (HR.out.is HRV.out _ sm).mono ?_
      rintro e w5 ⟨rfl, hb5⟩
      have hb5 := below_step hb4 (Nat.le_refl _) hb5
      clear t0 t1 t2
      simp only
      go_wp2_with fail
      refine (HC.out.is HXV.out _ xm).mono ?_
      rintro e w6 ⟨rfl, hb6⟩
      have hb6 := below_step (hb5.alloc hb5.size (.cells #[.int .i64 rk, .int .i64 rp, .int .u8 (rc.toNat : Int)] 24)) (Nat.le_refl _) hb6
      cases hvs : wordB s.data.toList
      · have C1 := Lib.hid hvs
        clear hvs
        go_wp2_with fail
        refine (wordValid_impl_is C1.out _ sm).mono ?_
        rintro e w' ⟨rfl, rfl⟩
        go_wp2_with fail
        go_ret
        exact ⟨rfl, hb6⟩
      · cases hvx : wordB x.data.toList
        · have C1 := Lib.hid hvs
          have C2 := Lib.hid hvx
          clear hvs hvx
          go_wp2_with fail
          refine (wordValid_impl_is C1.out _ sm).mono ?_
          rintro e w' ⟨rfl, rfl⟩
          go_wp2_with fail
          refine (wordValid_impl_is C2.out _ xm).mono ?_
          rintro e w' ⟨rfl, rfl⟩
          go_wp2_with fail
          go_ret
          exact ⟨rfl, hb6⟩
        · have hI := twoI_yes (f := fun x y => (ed false x y : Int)) (a := s.data.toList) (b := x.data.toList) (by rw [hvs, hvx]; rfl)
          rw [HA.out] at hI
          have HI := Lib.hid hI
          have C1 := Lib.hid hvs
          have C2 := Lib.hid hvx
          clear hvs hvx hI
          go_wp2_with fail
          refine (wordValid_impl_is C1.out _ sm).mono ?_
          rintro e w' ⟨rfl, rfl⟩
          go_wp2_with fail
          refine (wordValid_impl_is C2.out _ xm).mono ?_
          rintro e w' ⟨rfl, rfl⟩
          go_wp2_with fail
          refine (HE.out _ _ _ sm xm).mono ?_
          rintro e w7 ⟨rfl, hb7⟩
          rw [HI.out]
          go_wp2_with fail
          go_ret
          exact ⟨rfl, below_step hb6 (Nat.le_refl _) hb7⟩

set_option maxRecDepth 100000 in
theorem walkFnReverseEdit (HC : ApplyC) (HR : ReverseC) (A : Option Addr) (n c : Nat) (w : World) (h : Bytes w w.heap.size A n) (hnc : n ≤ c) (hc : c ≤ maxLen) :
    Calls Try.prog 6 #[.slice A n c] w fun e w' => e = .returned (.bool true) ∧ Below w.heap.size w w' := by
  have HC := Lib.hid HC
  have HR := Lib.hid HR
  have hn : n ≤ maxLen := Nat.le_trans hnc hc
  unfold maxLen at hn
  by_cases hn2 : (1048576 : Int) < n
  · go_enter Try.func6, Try.ntmps6
    go_wp2_with fail
    go_ret
    exact ⟨rfl, Below.refl _ _⟩
  · go_enter Try.func6, Try.ntmps6
    go_wp2_with fail
    refine (drawReverseEdit_any _ _ _ _ h hnc hc).mono ?_
    rintro e w1 ⟨s, ⟨k, p, z⟩, rfl, hs, hb1⟩
    have sm : s.size ≤ maxLen := by unfold maxLen; omega
    clear h hnc hc
    unfold chgV
    have hb2 := hb1.alloc hb1.size (.cells #[.int .i64 k, .int .i64 p, .int .u8 (z.toNat : Int)] 24)
    have he2 := heap_alloc_new w1 (.cells #[.int .i64 k, .int .i64 p, .int .u8 (z.toNat : Int)] 24)
    have HB2 := Lib.hid hb2
    have HE2 := Lib.hid he2
    clear hb1 hb2 he2
    cases ha : applyL s.data.toList ⟨k, p, z⟩
    · have HV := Lib.hid (reverseV_none ha)
      clear ha
      go_wp2_with fail
      refine (HR.out.is HV.out _ sm).mono ?_
      rintro e w3 ⟨rfl, hb3⟩
      have he3 := held hb3 HE2.out
      have hb3 := below_step HB2.out (Nat.le_refl _) hb3
      have hb3' := hb3.alloc hb3.size (.cells #[.int .i64 0, .int .i64 0, .int .u8 0] 24)
      have he3' := (heap_alloc_old w3 (.cells #[.int .i64 0, .int .i64 0, .int .u8 0] 24) (Array.getElem?_eq_some_iff.1 he3).1).trans he3
      have hr3 := heap_alloc_new w3 (.cells #[.int .i64 0, .int .i64 0, .int .u8 0] 24)
      obtain ⟨⟨r0, r1, r2⟩, -, -, -⟩ := row3 he3'
      have HE3 := Lib.hid he3'
      have HR3 := Lib.hid hr3
      have HB3 := Lib.hid hb3'
      clear he3 he3' hr3 hb3 hb3'
      go_wp2_with fail
      refine (reverseEdit_spec_is HV.out _ sm).mono ?_
      rintro e w4 ⟨rfl, hb4⟩
      have hr4 := held hb4 HR3.out
      have hb4 := below_step HB3.out (Nat.le_refl _) hb4
      have hr5 := (heap_alloc_old w4 (.cells #[.int .i64 0, .int .i64 0, .int .u8 0] 24) (Array.getElem?_eq_some_iff.1 hr4).1).trans hr4
      obtain ⟨⟨t0, t1, t2⟩, -, -, -⟩ := row3 hr5
      have hb5 := hb4.alloc hb4.size (.cells #[.int .i64 0, .int .i64 0, .int .u8 0] 24)
      clear hr4 r0 r1 r2 hr5
      go_wp2_with fail
      refine (alive_any _).mono ?_
      rintro e w6 ⟨rfl, hd6⟩
      go_wp2_with fail
      go_ret
      exact ⟨rfl, below_step hb5 (Nat.le_refl _) hd6.below⟩
    · rename_i xl
      obtain ⟨x, rfl⟩ : ∃ x : ByteArray, xl = x.data.toList := ⟨⟨xl.toArray⟩, by simp⟩
      obtain ⟨r, hr, hxr, hrr, hl1, hl2, hne, -⟩ := apply_back ha
      obtain ⟨rk, rp, rc⟩ := r
      rw [len_eq, len_eq] at hl1 hl2
      have xm : x.size ≤ maxLen := by unfold maxLen; omega
      have HV := Lib.hid (applyV_text ha)
      have HRV := Lib.hid (reverseV_some hr)
      have HXR := Lib.hid (reverseV_some hrr)
      clear ha hr hxr hne hrr hl1 hl2
      go_wp2_with fail
      refine (HR.out.is HRV.out _ sm).mono ?_
      rintro e w3 ⟨rfl, hb3⟩
      simp only
      have he3 := held hb3 HE2.out
      have hb3 := below_step HB2.out (Nat.le_refl _) hb3
      have hb3' := hb3.alloc hb3.size (.cells #[.int .i64 rk, .int .i64 rp, .int .u8 (rc.toNat : Int)] 24)
      have he3' := (heap_alloc_old w3 (.cells #[.int .i64 rk, .int .i64 rp, .int .u8 (rc.toNat : Int)] 24) (Array.getElem?_eq_some_iff.1 he3).1).trans he3
      have hr3 := heap_alloc_new w3 (.cells #[.int .i64 rk, .int .i64 rp, .int .u8 (rc.toNat : Int)] 24)
      obtain ⟨⟨r0, r1, r2⟩, -, -, -⟩ := row3 he3'
      have HE3 := Lib.hid he3'
      have HR3 := Lib.hid hr3
      have HB3 := Lib.hid hb3'
      clear he3 he3' hr3 hb3 hb3'
      go_wp2_with fail
      refine (reverseEdit_spec_is HRV.out _ sm).mono ?_
      rintro e w4 ⟨rfl, hb4⟩
      simp only
      have hr4 := held hb4 HR3.out
      have he4 := held hb4 HE3.out
      have hb4 := below_step HB3.out (Nat.le_refl _) hb4
      have hr5 := (heap_alloc_old w4 (.cells #[.int .i64 rk, .int .i64 rp, .int .u8 (rc.toNat : Int)] 24) (Array.getElem?_eq_some_iff.1 hr4).1).trans hr4
      have he5 := (heap_alloc_old w4 (.cells #[.int .i64 rk, .int .i64 rp, .int .u8 (rc.toNat : Int)] 24) (Array.getElem?_eq_some_iff.1 he4).1).trans he4
      obtain ⟨⟨t0, t1, t2⟩, -, -, -⟩ := row3 hr5
      obtain ⟨⟨u0, u1, u2⟩, -, -, -⟩ := row3 he5
      have HR5 := Lib.hid hr5
      have HE5 := Lib.hid he5
      have hb5 := hb4.alloc hb4.size (.cells #[.int .i64 rk, .int .i64 rp, .int .u8 (rc.toNat : Int)] 24)
      clear hr4 he4 r0 r1 r2 hr5 he5
      go_wp2_with fail
      refine (HC.out.is HV.out _ sm).mono ?_
      rintro e w6 ⟨rfl, hb6⟩
      have hr6 := held hb6 HR5.out
      have he6 := held hb6 HE5.out
      have hb6 := below_step hb5 (Nat.le_refl _) hb6
      obtain ⟨⟨t0, t1, t2⟩, -, -, -⟩ := row3 hr6
      have HE6 := Lib.hid he6
      clear hr6 he6 u0 u1 u2
      go_wp2_with fail
      refine (HR.out.is HXR.out _ xm).mono ?_
      rintro e w7 ⟨rfl, hb7⟩
      simp only
      have he7 := held hb7 HE6.out
      have hb7 := below_step hb6 (Nat.le_refl _) hb7
      have he8 := (heap_alloc_old w7 (.cells #[.int .i64 k, .int .i64 p, .int .u8 (z.toNat : Int)] 24) (Array.getElem?_eq_some_iff.1 he7).1).trans he7
      obtain ⟨⟨u0, u1, u2⟩, -, -, -⟩ := row3 he8
      have hb8 := hb7.alloc hb7.size (.cells #[.int .i64 k, .int .i64 p, .int .u8 (z.toNat : Int)] 24)
      clear he7 he8 t0 t1 t2
      go_wp2_with fail
      go_ret
      exact ⟨rfl, hb8⟩
end Go.Proofs.Ytmdmjhnjhelccaa
