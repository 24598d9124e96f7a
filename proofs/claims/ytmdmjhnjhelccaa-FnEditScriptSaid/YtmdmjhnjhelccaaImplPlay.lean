/- Contract of the program's ApplyScript, over one of its ApplyEdit. -/
import Derived.Test.YtmdmjhnjhelccaaImplEd
import Derived.Test.YtmdmjhnjhelccaaLwApply
import Derived.Test.YtmdmjhnjhelccaaLwScript
import Derived.Test.YtmdmjhnjhelccaaShelf
namespace Go.Proofs.Ytmdmjhnjhelccaa
open Go.RowKit
set_option maxHeartbeats 1600000
set_option linter.unusedSimpArgs false
set_option linter.unusedVariables false

theorem strings_Clone_any (s : ByteArray) (w : World) (hs : s.size ≤ 24) :
    Calls Try.prog 49 #[.string s] w fun e w' => e = .returned (.string s) ∧ Below w.heap.size w w' := by
  go_enter Try.func49, Try.ntmps49
  go_wp2_with fail
  refine (Try.stringslite_Clone s _ (by omega)).mono ?_
  rintro e w1 ⟨rfl, hb⟩
  go_wp2_with fail
  go_ret
  exact ⟨rfl, hb⟩

theorem applyScript_impl (HC : ApplyC) : PlayC := by
  intro s A n c B l w hs hn hl hB
  have hs' := hs
  unfold maxLen at hs hn
  cases hT : longB s.data.toList
  · have HN := Lib.hid (scriptV_none (scriptL_text (l := l) hT))
    have HT := Lib.hid hT
    clear hT
    go_enter Try.func20, Try.ntmps20
    go_wp2_with fail
    refine (textValid_is HT.out _ hs').mono ?_
    rintro e w' ⟨rfl, rfl⟩
    go_wp2_with fail
    go_ret2
    exact ⟨by rw [HN.out]; rfl, Below.refl _ _⟩
  · by_cases hlong : (24 : Int) < (n : Int)
    · have HN := Lib.hid (scriptV_none (s := s) (scriptL_long (l := l) (by rw [hl.len]; omega)))
      have HT := Lib.hid hT
      clear hT
      go_enter Try.func20, Try.ntmps20
      go_wp2_with fail
      refine (textValid_is HT.out _ hs').mono ?_
      rintro e w' ⟨rfl, rfl⟩
      go_wp2_with fail
      go_ret2
      exact ⟨by rw [HN.out]; rfl, Below.refl _ _⟩
    · have hOK := scriptL_ok (l := l) hT (by rw [hl.len]; omega)
      have HS0 := Lib.hid (show Sofar s l 0 s from ⟨by simp [applyAll], hT⟩)
      have h24 := longB_size hT
      have HT := Lib.hid hT
      have HOK := Lib.hid hOK
      clear hT hOK
      go_enter Try.func20, Try.ntmps20
      go_wp2_with fail
      refine (textValid_is HT.out _ hs').mono ?_
      rintro e w' ⟨rfl, rfl⟩
      go_wp2_with fail
      refine (strings_Clone_any s _ h24).mono ?_
      rintro e w0 ⟨rfl, hb0⟩
      go_wp2_with fail
      go_loopw [6, 23] (fun v i wr => ∃ (j : Nat) (x : ByteArray), j ≤ n ∧ i = .int .i64 j ∧ v = .string x ∧ Hid (Sofar s l j x) ∧ Below w.heap.size w wr) (fun _ i _ => n - (intOf i).toNat)
      case atStart => exact ⟨0, s, Nat.zero_le _, rfl, rfl, HS0, hb0⟩
      case round =>
        clear HS0 hb0
        obtain ⟨j, x, hj, rfl, rfl, HX, hbel⟩ := hrel
        by_cases hlt : j < n
        · have hlr := hl.step hbel hB
          obtain ⟨b, o, d, hA, hbB, hd, h0, h1, h2⟩ := hlr.at_ hlt
          subst hA
          have hxm : x.size ≤ maxLen := by have := longB_size HX.out.2; unfold maxLen; omega
          have i0 : (0 : Int) ≤ (j : Int) := by omega
          have i1 : (j : Int) < (n : Int) := by omega
          obtain ⟨dk, dp, dc⟩ := d
          simp only at h0 h1 h2
          have HD := Lib.hid hd
          clear hlr hd
          cases hy : applyL x.data.toList ⟨dk, dp, dc⟩
          · have HV := Lib.hid (applyV_none hy)
            have HN := Lib.hid (scriptV_none (HOK.out.trans (HX.out.stop HD.out hy)))
            clear hy
            go_wp2_with fail
            refine (HC.is HV.out _ hxm).mono ?_
            rintro e w1 ⟨rfl, hb⟩
            go_wp2_with fail
            go_ret2
            exact ⟨by rw [HN.out]; rfl, below_step (hbel.alloc hbel.size _) (Nat.le_refl _) hb⟩
          · rename_i y
            have HV := Lib.hid (applyV_some hy)
            have HY := Lib.hid (HX.out.next HD.out hy)
            clear hy
            go_wp2_with fail
            refine (HC.is HV.out _ hxm).mono ?_
            rintro e w1 ⟨rfl, hb⟩
            have hbel := below_step (hbel.alloc hbel.size _) (Nat.le_refl _) hb
            go_wp2_with fail
            go_roundw
            case rel => exact ⟨j + 1, _, by omega, by go_num, rfl, HY, hbel⟩
            case measure => simp [intOf]; omega
        · obtain rfl : j = n := by omega
          have HN := Lib.hid (scriptV_some (HOK.out.trans (by have := HX.out.1; rw [List.take_of_length_le (by rw [hl.len]; omega)] at this; exact this)))
          go_wp2_with fail
          go_ret2
          exact ⟨by rw [HN.out]; rfl, hbel⟩
end Go.Proofs.Ytmdmjhnjhelccaa
