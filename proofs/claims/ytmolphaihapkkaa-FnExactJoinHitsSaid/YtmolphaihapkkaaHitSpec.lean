/- Contracts of the model's l7Before and HitsValid. -/
import Derived.Test.YtmolphaihapkkaaHitRec
import Derived.Test.YtmolphaihapkkaaL1In
import Derived.Test.YtmolphaihapkkaaLst
import Derived.StillTailTactics
import Derived.BigQuiet
namespace Go.Proofs.Ytmolphaihapkkaa
open Go.RowKit
set_option maxHeartbeats 3200000
set_option maxRecDepth 8192
set_option linter.unusedSimpArgs false
set_option linter.unusedVariables false

theorem before_any (s t : ByteArray) (x y : Int) (w : World) :
    Calls Try.prog 48 #[.agg #[.string s, .int .i64 x], .agg #[.string t, .int .i64 y]] w fun e w' => e = .returned (.bool (beforeH (s, x) (t, y))) ∧ Below w.heap.size w w' := by
  by_cases h1 : x < y
  · have HB := Lib.hid (show beforeH (s, x) (t, y) = true by unfold beforeH; simp [h1])
    go_enter Try.func48, Try.ntmps48
    go_wp2_with fail
    go_ret
    exact ⟨ret_bool HB.out.symm, ((Below.refl _ _).alloc (Nat.le_refl _) _).alloc (by simp) _⟩
  · by_cases h2 : x = y
    · subst h2
      have hq : (x == x) = true := by simp
      cases h3 : Op.bytesLess s.toList t.toList
      · have HB := Lib.hid (show beforeH (s, x) (t, x) = false by unfold beforeH ltS; simp [h3])
        go_enter Try.func48, Try.ntmps48
        go_wp2_with fail
        go_ret
        exact ⟨ret_bool HB.out.symm, ((Below.refl _ _).alloc (Nat.le_refl _) _).alloc (by simp) _⟩
      · have HB := Lib.hid (show beforeH (s, x) (t, x) = true by unfold beforeH ltS; simp [h3])
        go_enter Try.func48, Try.ntmps48
        go_wp2_with fail
        go_ret
        exact ⟨ret_bool HB.out.symm, ((Below.refl _ _).alloc (Nat.le_refl _) _).alloc (by simp) _⟩
    · have HB := Lib.hid (show beforeH (s, x) (t, y) = false by unfold beforeH; simp [h1, h2])
      have hq : (x == y) = false := by simp [h2]
      go_enter Try.func48, Try.ntmps48
      go_wp2_with fail
      go_ret
      exact ⟨ret_bool HB.out.symm, ((Below.refl _ _).alloc (Nat.le_refl _) _).alloc (by simp) _⟩
theorem before_is {s t : ByteArray} {x y : Int} {v : Bool} (hv : beforeH (s, x) (t, y) = v) (w : World) :
    Calls Try.prog 48 #[.agg #[.string s, .int .i64 x], .agg #[.string t, .int .i64 y]] w fun e w' => e = .returned (.bool v) ∧ Below w.heap.size w w' := hv ▸ before_any s t x y w
theorem hitB_inB (s : ByteArray) (x : Int) : hitB (s, x) = (filledS s && inB x 0 4) := rfl
theorem hitsValid_spec (A : Option Addr) (n c B : Nat) (d : List Hit) (w : World) (hn : n ≤ 1048576) (h : Hits w B A n d) (hB : B ≤ w.heap.size) :
    Calls Try.prog 15 #[.slice A n c] w fun e w' => e = .returned (.bool (hitsB d)) ∧ Below w.heap.size w w' := by
  have HL := Lib.hid h.len
  go_enter Try.func15, Try.ntmps15
  go_wp2_with fail
  go_loopw [3] (fun i wr => ∃ k : Nat, k ≤ n ∧ i = .int .i64 k ∧ Hid (∀ j x, j < k → d[j]? = some x → hitB x = true) ∧ Hid (∀ j x y, j + 1 < k → d[j]? = some x → d[j + 1]? = some y → beforeH x y = true) ∧ Below w.heap.size w wr) (fun i _ => n - (intOf i).toNat)
  case atStart => exact ⟨0, Nat.zero_le _, rfl, Lib.hid (fun j x hj => absurd hj (by omega)), Lib.hid (fun j x y hj => absurd hj (by omega)), Below.refl _ _⟩
  case round =>
    obtain ⟨k, hk, rfl, HP, HQ, hbel⟩ := hrel
    by_cases hlt : k < n
    · have hr := h.step hbel hB
      obtain ⟨b, o, s, x, rfl, hbB, hd, hs, hx, c0, c1⟩ := hits_at hr hlt
      have i0 : (0 : Int) ≤ (k : Int) := by omega
      have i1 : (k : Int) < (n : Int) := by omega
      have hz := hbel.size
      have HD0 := Lib.hid ((hits_one wr s x hs hx).cell (j := 0) (i := 0) rfl rfl)
      have HD1 := Lib.hid ((hits_one wr s x hs hx).cell (j := 0) (i := 1) rfl rfl)
      have HBW := Lib.hid (hbel.alloc hz (.cells #[.string s, .int .i64 x] 28))
      have HSZ := Lib.hid (show (wr.alloc (.cells #[.string s, .int .i64 x] 28)).heap.size = wr.heap.size + 1 by simp)
      have HRW := Lib.hid (hr.step (Below.alloc (Below.refl _ wr) (Nat.le_refl _) (.cells #[.string s, .int .i64 x] 28)) (by omega))
      have hs' := hs
      unfold maxLen at hs
      cases hw : wordB s.data.toList
      · have HN := Lib.hid (show hitsB d = false from hits_bad (List.mem_of_getElem? hd) (by rw [hitB_inB]; simp [filledS, hw]))
        have HW := Lib.hid (wordValid_spec_is hw)
        clear hd hw
        go_wp2_with fail
        have d0 := HD0.out
        have d1 := HD1.out
        have hbW := HBW.out
        have hzW := HSZ.out
        change World.cell? _ ⟨wr.heap.size, 0, none⟩ = _ at d0
        change World.cell? _ ⟨wr.heap.size, 1, none⟩ = _ at d1
        clear HD0 HD1 HBW HSZ HRW
        generalize hgg : wr.heap.size = g at *
        generalize (wr.alloc (.cells #[.string s, .int .i64 x] 28)) = W at *
        go_quiet (first | (go_at_call 22; exact Calls.quiet_of_same ((HW.out _ hs').mono (fun _ _ q => ⟨q.1, q.2.symm⟩))))
        go_wp2_with fail
        go_ret
        exact ⟨ret_bool HN.out.symm, by first | exact hbW | exact hbW.drew | exact below_drewN hbW _⟩
      · have HW := Lib.hid (wordValid_spec_is hw)
        cases he : s.toList.isEmpty
        · cases hc : inB x 0 4
          · have HN := Lib.hid (show hitsB d = false from hits_bad (List.mem_of_getElem? hd) (by rw [hitB_inB, hc]; simp))
            have HC := Lib.hid (l1In_is hc)
            clear hd hw hc
            go_wp2_with fail
            have d0 := HD0.out
            have d1 := HD1.out
            have hbW := HBW.out
            have hzW := HSZ.out
            change World.cell? _ ⟨wr.heap.size, 0, none⟩ = _ at d0
            change World.cell? _ ⟨wr.heap.size, 1, none⟩ = _ at d1
            clear HD0 HD1 HBW HSZ HRW
            generalize hgg : wr.heap.size = g at *
            generalize (wr.alloc (.cells #[.string s, .int .i64 x] 28)) = W at *
            go_quiet (first | (go_at_call 22; exact Calls.quiet_of_same ((HW.out _ hs').mono (fun _ _ q => ⟨q.1, q.2.symm⟩))) | (go_at_call 47; exact Calls.quiet_of_same ((HC.out _).mono (fun _ _ q => ⟨q.1, q.2.symm⟩))))
            go_wp2_with fail
            go_ret
            exact ⟨ret_bool HN.out.symm, by first | exact hbW | exact hbW.drew | exact below_drewN hbW _⟩
          · have hok : hitB (s, x) = true := by rw [hitB_inB, hc]; simp [filledS, hw, he]
            have HC := Lib.hid (l1In_is hc)
            have HP2 : Hid (∀ j y, j < k + 1 → d[j]? = some y → hitB y = true) := Lib.hid fun j y hj hy => by
              by_cases e : j = k
              · subst e; rw [hd] at hy; injection hy with hy; subst hy; exact hok
              · exact HP.out j y (by omega) hy
            rcases Nat.eq_zero_or_pos k with h0 | h0
            · subst h0
              have HQ2 : Hid (∀ j x y, j + 1 < 0 + 1 → d[j]? = some x → d[j + 1]? = some y → beforeH x y = true) := Lib.hid fun j x y hj => absurd hj (by omega)
              clear hd hw hc hok
              simp only [Nat.zero_mul, Nat.add_zero] at c0 c1
              go_wp2_with fail
              have d0 := HD0.out
              have d1 := HD1.out
              have hbW := HBW.out
              have hzW := HSZ.out
              change World.cell? _ ⟨wr.heap.size, 0, none⟩ = _ at d0
              change World.cell? _ ⟨wr.heap.size, 1, none⟩ = _ at d1
              clear HD0 HD1 HBW HSZ HRW
              generalize hgg : wr.heap.size = g at *
              generalize (wr.alloc (.cells #[.string s, .int .i64 x] 28)) = W at *
              go_quiet (first | (go_at_call 22; exact Calls.quiet_of_same ((HW.out _ hs').mono (fun _ _ q => ⟨q.1, q.2.symm⟩))) | (go_at_call 47; exact Calls.quiet_of_same ((HC.out _).mono (fun _ _ q => ⟨q.1, q.2.symm⟩))))
              go_wp2_with fail
              go_roundw
              case rel => exact ⟨_, by omega, by go_num, HP2, HQ2, by first | exact hbW | exact hbW.drew | exact below_drewN hbW _⟩
              case measure => simp [intOf]; omega
            · obtain ⟨m, rfl⟩ : ∃ m, k = m + 1 := ⟨k - 1, by omega⟩
              obtain ⟨b', o', s', x', hA, _, hdp, hs2, hx2, _, _⟩ := hits_at hr (show m < n by omega)
              have HDP := Lib.hid hdp
              have hpos : (0 : Int) < (m : Int) + 1 := by omega
              have hwm := IntWalk.i64_in (m : Int) (by omega)
              have im0 : (0 : Int) ≤ (m : Int) := by omega
              have im1 : (m : Int) < (n : Int) := by omega
              clear hA
              cases hbf : beforeH (s', x') (s, x)
              · have HN := Lib.hid (show hitsB d = false from hits_asc_bad hdp hd hbf)
                have HBF := Lib.hid (before_is hbf)
                clear hd hw hc hok hdp hbf
                go_wp2_with fail
                have d0 := HD0.out
                have d1 := HD1.out
                have hbW := HBW.out
                have hzW := HSZ.out
                change World.cell? _ ⟨wr.heap.size, 0, none⟩ = _ at d0
                change World.cell? _ ⟨wr.heap.size, 1, none⟩ = _ at d1
                have hrW := HRW.out
                obtain ⟨e0, e1⟩ := hits_cell hrW HDP.out
                simp only at e0 e1
                clear HD0 HD1 HBW HSZ HRW hrW
                generalize hgg : wr.heap.size = g at *
                generalize (wr.alloc (.cells #[.string s, .int .i64 x] 28)) = W at *
                go_still_tail 25, (by kernel_rfl)
                still_call ((HW.out _ hs').mono (fun _ _ q => ⟨q.1, q.2.symm⟩))
                repeat still_step
                still_call ((HC.out _).mono (fun _ _ q => ⟨q.1, q.2.symm⟩))
                repeat still_step
                refine wpStill_nil ?_
                change wpList _ _ _ _ _ W.drew
                have hbW := hbW.drew
                go_wp2_with (go_at_call 48; (with_reducible refine (HBF.out _).mono ?_); rintro e w4 ⟨rfl, hb4⟩; have hbW := below_step hbW (Nat.le_refl _) hb4)
                go_ret
                exact ⟨ret_bool HN.out.symm, by first | exact hbW | exact hbW.drew | exact below_drewN hbW _⟩
              · have HBF := Lib.hid (before_is hbf)
                have HQ2 : Hid (∀ j x y, j + 1 < m + 1 + 1 → d[j]? = some x → d[j + 1]? = some y → beforeH x y = true) := Lib.hid fun j p q hj hp hq => by
                  by_cases e : j = m
                  · subst e; rw [hdp] at hp; rw [hd] at hq; injection hp with hp; injection hq with hq; subst hp hq; exact hbf
                  · exact HQ.out j p q (by omega) hp hq
                clear hd hw hc hok hdp hbf
                go_wp2_with fail
                have d0 := HD0.out
                have d1 := HD1.out
                have hbW := HBW.out
                have hzW := HSZ.out
                change World.cell? _ ⟨wr.heap.size, 0, none⟩ = _ at d0
                change World.cell? _ ⟨wr.heap.size, 1, none⟩ = _ at d1
                have hrW := HRW.out
                obtain ⟨e0, e1⟩ := hits_cell hrW HDP.out
                simp only at e0 e1
                clear HD0 HD1 HBW HSZ HRW hrW
                generalize hgg : wr.heap.size = g at *
                generalize (wr.alloc (.cells #[.string s, .int .i64 x] 28)) = W at *
                go_still_tail 25, (by kernel_rfl)
                still_call ((HW.out _ hs').mono (fun _ _ q => ⟨q.1, q.2.symm⟩))
                repeat still_step
                still_call ((HC.out _).mono (fun _ _ q => ⟨q.1, q.2.symm⟩))
                repeat still_step
                refine wpStill_nil ?_
                change wpList _ _ _ _ _ W.drew
                have hbW := hbW.drew
                go_wp2_with (go_at_call 48; (with_reducible refine (HBF.out _).mono ?_); rintro e w4 ⟨rfl, hb4⟩; have hbW := below_step hbW (Nat.le_refl _) hb4)
                go_roundw
                case rel => exact ⟨_, by omega, by go_num, HP2, HQ2, by first | exact hbW | exact hbW.drew | exact below_drewN hbW _⟩
                case measure => simp [intOf]; omega
        · have HN := Lib.hid (show hitsB d = false from hits_bad (List.mem_of_getElem? hd) (by rw [hitB_inB]; simp [filledS, he]))
          clear hd hw
          go_wp2_with fail
          have d0 := HD0.out
          have d1 := HD1.out
          have hbW := HBW.out
          have hzW := HSZ.out
          change World.cell? _ ⟨wr.heap.size, 0, none⟩ = _ at d0
          change World.cell? _ ⟨wr.heap.size, 1, none⟩ = _ at d1
          clear HD0 HD1 HBW HSZ HRW
          generalize hgg : wr.heap.size = g at *
          generalize (wr.alloc (.cells #[.string s, .int .i64 x] 28)) = W at *
          go_quiet (first | (go_at_call 22; exact Calls.quiet_of_same ((HW.out _ hs').mono (fun _ _ q => ⟨q.1, q.2.symm⟩))))
          go_wp2_with fail
          go_ret
          exact ⟨ret_bool HN.out.symm, by first | exact hbW | exact hbW.drew | exact below_drewN hbW _⟩
    · obtain rfl : k = n := by omega
      have HN := Lib.hid (show hitsB d = true from hits_of (fun y hy => by obtain ⟨j, hj⟩ := List.mem_iff_getElem?.1 hy; exact HP.out j y (by have := (List.getElem?_eq_some_iff.1 hj).1; rw [HL.out] at this; exact this) hj) (asc_adj fun j p q hp hq => HQ.out j p q (by have := (List.getElem?_eq_some_iff.1 hq).1; rw [HL.out] at this; exact this) hp hq))
      go_wp2_with fail
      go_ret
      exact ⟨ret_bool HN.out.symm, hbel⟩
theorem hitsValid_spec_is {d : List Hit} {v : Bool} (hv : hitsB d = v) (A : Option Addr) (n c B : Nat) (w : World) (hn : n ≤ 1048576) (h : Hits w B A n d) (hB : B ≤ w.heap.size) :
    Calls Try.prog 15 #[.slice A n c] w fun e w' => e = .returned (.bool v) ∧ Below w.heap.size w w' := hv ▸ hitsValid_spec A n c B d w hn h hB
end Go.Proofs.Ytmolphaihapkkaa
