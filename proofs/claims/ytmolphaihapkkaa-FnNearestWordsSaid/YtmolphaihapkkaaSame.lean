/- Contract of the laws' sameTexts. -/
import Derived.Test.YtmolphaihapkkaaSlc
namespace Go.Proofs.Ytmolphaihapkkaa
open Go.RowKit
set_option maxHeartbeats 400000
set_option linter.unusedSimpArgs false
set_option linter.unusedVariables false

theorem sameTexts_any (A1 A2 : Option Addr) (n1 c1 n2 c2 B : Nat) (ss ts : List ByteArray) (w : World) (hn1 : n1 ≤ maxLen) (hn2 : n2 ≤ maxLen) (h1 : Strs w B A1 n1 ss) (h2 : Strs w B A2 n2 ts) :
    Calls Try.prog 31 #[.slice A1 n1 c1, .slice A2 n2 c2] w fun e w' => e = .returned (.bool (decide (ss = ts))) ∧ Drawn w w' := by
  unfold maxLen at hn1 hn2
  have l1 := h1.1
  have l2 := h2.1
  by_cases hl : n1 = n2
  · subst hl
    have L1 := Lib.hid l1
    have L2 := Lib.hid l2
    clear l1 l2
    go_enter Try.func31, Try.ntmps31
    go_wp2
    go_loopw [5] (fun i wr => ∃ k : Nat, k ≤ n1 ∧ i = .int .i64 k ∧ (∀ j < k, ss[j]? = ts[j]?) ∧ Drawn w wr) (fun i _ => n1 - (intOf i).toNat)
    case atStart => exact ⟨0, Nat.zero_le _, rfl, fun j hj => absurd hj (by omega), Drawn.refl _⟩
    case round =>
      obtain ⟨k, hk, rfl, hall, hbk⟩ := hrel
      have HA := Lib.hid hall
      clear hall
      by_cases hlt : k < n1
      · obtain ⟨b, o, s, rfl, hb, hs, hsz, hc⟩ := (h1.drawn hbk).at_ hlt
        obtain ⟨b2, o2, t, rfl, hb2, ht, htz, hc2⟩ := (h2.drawn hbk).at_ hlt
        have HS := Lib.hid hs
        have HT := Lib.hid ht
        clear hs ht
        have hbq := str_beq s t
        by_cases he : s = t
        · have hbe : (s.toList == t.toList) = true := by rw [hbq, decide_eq_true he]
          have HE := Lib.hid he
          clear he hbq
          go_wp2
          go_quiet (fail)
          go_wp2
          go_roundw
          case rel =>
            refine ⟨k + 1, by omega, by go_num, fun j hj => ?_, hbk.drewN _⟩
            by_cases hjk : j < k
            · exact HA.out j hjk
            · obtain rfl : j = k := by omega
              rw [HS.out, HT.out, HE.out]
          case measure => simp [intOf]; omega
        · have hbe : (s.toList == t.toList) = false := by rw [hbq, decide_eq_false he]
          have HE := Lib.hid he
          clear he hbq
          go_wp2
          go_quiet (fail)
          go_wp2
          go_ret
          refine ⟨ret_bool (Eq.symm (decide_eq_false fun e => HE.out ?_)), hbk.drewN _⟩
          have := HS.out
          rw [e, HT.out] at this
          injection this with this
          exact this.symm
      · go_wp2
        go_ret
        refine ⟨ret_bool (Eq.symm (decide_eq_true (eq_upto (by rw [L1.out, L2.out]) fun j hj => HA.out j (by have := L1.out; omega)))), hbk⟩
  · have hne : ss ≠ ts := fun e => hl (by rw [← l1, ← l2, e])
    have HN := Lib.hid hne
    clear hne l1 l2
    have hl2 : ((n1 : Int) == n2) = false := by simp; omega
    have HL := Lib.hid hl
    clear hl
    go_enter Try.func31, Try.ntmps31
    go_wp2
    go_ret
    exact ⟨ret_bool (Eq.symm (decide_eq_false HN.out)), Drawn.refl _⟩
end Go.Proofs.Ytmolphaihapkkaa
