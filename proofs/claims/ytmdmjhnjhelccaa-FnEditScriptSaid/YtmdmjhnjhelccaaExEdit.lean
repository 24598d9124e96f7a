/- Contracts of the helpers of the exact laws of changes (toEdit, eqEdit); the walks of FnExactApplyEdit and FnExactReverseEdit over contracts of the program. -/
import Derived.Test.YtmdmjhnjhelccaaLwApply
namespace Go.Proofs.Ytmdmjhnjhelccaa
open Go.RowKit
set_option maxHeartbeats 1600000
set_option linter.unusedSimpArgs false
set_option linter.unusedVariables false

theorem toEdit_any (k p z : Int) (w : World) :
    Calls Try.prog 28 #[.agg #[.int .i64 k, .int .i64 p, .int .u8 z]] w fun e w' => e = .returned (.agg #[.int .i64 k, .int .i64 p, .int .u8 z]) ∧ Below w.heap.size w w' := by
  go_enter Try.func28, Try.ntmps28
  go_wp2_with fail
  refine bodyPost_ret (v := .agg #[.int .i64 k, .int .i64 p, .int .u8 z]) (by simp [results, Try.results28, go_sem]) rfl ?_
  exact ⟨rfl, (((Below.refl _ _).alloc (Nat.le_refl _) _).alloc (by simp) _).alloc (by simp; omega) _⟩
theorem eqEdit_same (k p z : Int) (w : World) :
    Calls Try.prog 34 #[.agg #[.int .i64 k, .int .i64 p, .int .u8 z], .agg #[.int .i64 k, .int .i64 p, .int .u8 z]] w fun e w' => e = .returned (.bool true) ∧ Below w.heap.size w w' := by
  have h1 : (k != k) = false := by simp
  have h2 : (p != p) = false := by simp
  have h3 : (z != z) = false := by simp
  go_enter Try.func34, Try.ntmps34
  go_wp2_with fail
  go_ret
  exact ⟨rfl, ((Below.refl _ _).alloc (Nat.le_refl _) _).alloc (by simp) _⟩
theorem reverseV_shape (s : ByteArray) (e : Chg) : ∃ (k p z : Int) (b : Bool), reverseV s e = .tuple #[.agg #[.int .i64 k, .int .i64 p, .int .u8 z], .bool b] := by
  unfold reverseV
  split
  · exact ⟨_, _, _, _, rfl⟩
  · exact ⟨0, 0, 0, false, rfl⟩
theorem applyV_shape (s : ByteArray) (k p : Int) (c : UInt8) : ∃ (x : ByteArray) (b : Bool), applyV s k p c = .tuple #[.string x, .bool b] := ⟨_, _, rfl⟩

theorem walkFnExactApplyEdit (HC : ApplyC) (s : ByteArray) (k p : Int) (c : UInt8) (w : World) (hs : s.size ≤ maxLen) :
    Calls Try.prog 8 #[.string s, .agg #[.int .i64 k, .int .i64 p, .int .u8 (c.toNat : Int)]] w fun e w' => e = .returned (.bool true) ∧ Below w.heap.size w w' := by
  have HC := Lib.hid HC
  have hs' := hs
  unfold maxLen at hs
  have hb1 : Below w.heap.size w (w.alloc (.cells #[.int .i64 k, .int .i64 p, .int .u8 (c.toNat : Int)] 42)) := (Below.refl _ _).alloc (Nat.le_refl _) _
  have he1 := heap_alloc_new w (.cells #[.int .i64 k, .int .i64 p, .int .u8 (c.toNat : Int)] 42)
  have HB := Lib.hid hb1
  have HE := Lib.hid he1
  clear hb1 he1
  by_cases hl : (1048576 : Int) < s.size
  · go_enter Try.func8, Try.ntmps8
    go_wp2_with fail
    go_ret
    exact ⟨rfl, HB.out⟩
  · obtain ⟨x, b, hv⟩ := applyV_shape s k p c
    have HV := Lib.hid hv
    clear hv
    have hq1 : (x.toList != x.toList) = false := by unfold bne; simp
    have hq2 : (b != b) = false := by simp
    go_enter Try.func8, Try.ntmps8
    go_wp2_with fail
    refine (toEdit_any _ _ _ _).mono ?_
    rintro e w2 ⟨rfl, hb2⟩
    have he2 := held hb2 HE.out
    have hb2 := below_step HB.out (Nat.le_refl _) hb2
    obtain ⟨⟨r0, r1, r2⟩, -, -, -⟩ := row3 he2
    have HE2 := Lib.hid he2
    clear he2
    go_wp2_with fail
    refine (applyEdit_spec_is HV.out _ hs').mono ?_
    rintro e w3 ⟨rfl, hb3⟩
    have he3 := held hb3 HE2.out
    have hb3 := below_step hb2 (Nat.le_refl _) hb3
    obtain ⟨⟨t0, t1, t2⟩, -, -, -⟩ := row3 he3
    clear he3 r0 r1 r2
    go_wp2_with fail
    refine (toEdit_any _ _ _ _).mono ?_
    rintro e w4 ⟨rfl, hb4⟩
    have hb4 := below_step hb3 (Nat.le_refl _) hb4
    clear t0 t1 t2
    go_wp2_with fail
    refine (HC.out.is HV.out _ hs').mono ?_
    rintro e w5 ⟨rfl, hb5⟩
    have hb5 := below_step hb4 (Nat.le_refl _) hb5
    go_wp2_with fail
    go_ret
    exact ⟨rfl, hb5⟩
theorem walkFnExactReverseEdit (HC : ReverseC) (s : ByteArray) (k p : Int) (c : UInt8) (w : World) (hs : s.size ≤ maxLen) :
    Calls Try.prog 11 #[.string s, .agg #[.int .i64 k, .int .i64 p, .int .u8 (c.toNat : Int)]] w fun e w' => e = .returned (.bool true) ∧ Below w.heap.size w w' := by
  have HC := Lib.hid HC
  have hs' := hs
  unfold maxLen at hs
  have hb1 : Below w.heap.size w (w.alloc (.cells #[.int .i64 k, .int .i64 p, .int .u8 (c.toNat : Int)] 42)) := (Below.refl _ _).alloc (Nat.le_refl _) _
  have he1 := heap_alloc_new w (.cells #[.int .i64 k, .int .i64 p, .int .u8 (c.toNat : Int)] 42)
  have HB := Lib.hid hb1
  have HE := Lib.hid he1
  clear hb1 he1
  by_cases hl : (1048576 : Int) < s.size
  · go_enter Try.func11, Try.ntmps11
    go_wp2_with fail
    go_ret
    exact ⟨rfl, HB.out⟩
  · obtain ⟨rk, rp, rz, b, hv⟩ := reverseV_shape s ⟨k, p, c⟩
    have HV := Lib.hid hv
    clear hv
    have hq2 : (b != b) = false := by simp
    go_enter Try.func11, Try.ntmps11
    go_wp2_with fail
    refine (toEdit_any _ _ _ _).mono ?_
    rintro e w2 ⟨rfl, hb2⟩
    have he2 := held hb2 HE.out
    have hb2 := below_step HB.out (Nat.le_refl _) hb2
    obtain ⟨⟨r0, r1, r2⟩, -, -, -⟩ := row3 he2
    have HE2 := Lib.hid he2
    clear he2
    go_wp2_with fail
    refine (reverseEdit_spec_is HV.out _ hs').mono ?_
    rintro e w3 ⟨rfl, hb3⟩
    have he3 := held hb3 HE2.out
    have hb3 := below_step hb2 (Nat.le_refl _) hb3
    have he4 := (heap_alloc_old w3 (.cells #[.int .i64 rk, .int .i64 rp, .int .u8 rz] 24) (Array.getElem?_eq_some_iff.1 he3).1).trans he3
    have hr4 := heap_alloc_new w3 (.cells #[.int .i64 rk, .int .i64 rp, .int .u8 rz] 24)
    have hb4 := hb3.alloc hb3.size (.cells #[.int .i64 rk, .int .i64 rp, .int .u8 rz] 24)
    obtain ⟨⟨t0, t1, t2⟩, -, -, -⟩ := row3 he4
    have HR4 := Lib.hid hr4
    have HB4 := Lib.hid hb4
    clear he3 he4 hr4 hb3 hb4 r0 r1 r2
    go_wp2_with fail
    refine (toEdit_any _ _ _ _).mono ?_
    rintro e w5 ⟨rfl, hb5⟩
    have hr5 := held hb5 HR4.out
    have hb5 := below_step HB4.out (Nat.le_refl _) hb5
    have HR5 := Lib.hid hr5
    clear t0 t1 t2 hr5
    go_wp2_with fail
    refine (HC.out.is HV.out _ hs').mono ?_
    rintro e w6 ⟨rfl, hb6⟩
    have hr6 := held hb6 HR5.out
    have hb6 := below_step hb5 (Nat.le_refl _) hb6
    have hr7 := (heap_alloc_old w6 (.cells #[.int .i64 rk, .int .i64 rp, .int .u8 rz] 24) (Array.getElem?_eq_some_iff.1 hr6).1).trans hr6
    have hb7 := hb6.alloc hb6.size (.cells #[.int .i64 rk, .int .i64 rp, .int .u8 rz] 24)
    obtain ⟨⟨u0, u1, u2⟩, -, -, -⟩ := row3 hr7
    clear hr6 hr7
    go_wp2_with fail
    refine (eqEdit_same _ _ _ _).mono ?_
    rintro e w8 ⟨rfl, hb8⟩
    have hb8 := below_step hb7 (Nat.le_refl _) hb8
    go_wp2_with fail
    go_ret
    exact ⟨rfl, hb8⟩
end Go.Proofs.Ytmdmjhnjhelccaa
