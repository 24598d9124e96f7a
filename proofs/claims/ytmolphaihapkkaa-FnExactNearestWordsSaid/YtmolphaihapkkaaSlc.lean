/- Contracts of the laws' helpers over slices of texts: szStringS, toStringS, eqStringS. -/
import Derived.Test.YtmolphaihapkkaaBase
namespace Go.Proofs.Ytmolphaihapkkaa
open Go.RowKit
set_option maxHeartbeats 400000
set_option linter.unusedSimpArgs false
set_option linter.unusedVariables false

theorem str_info : (Try.prog.info? 9).map (fun i => (i.zero, i.size, i.bytes)) = some (some (.string ⟨#[]⟩), 1, 16) := by kernel_rfl

/-- szStringS: either it answers less than 0, or the slice is short and its texts are. -/
def SzPost (w : World) (n : Nat) (ss : List ByteArray) (left : Int) (e : Ending) (w' : World) : Prop :=
  ∃ r : Int, e = .returned (.int .i64 r) ∧ w = w' ∧ (0 ≤ r → (n : Int) ≤ left ∧ ∀ s ∈ ss, (s.size : Int) ≤ left)

theorem szStringS_any (A : Option Addr) (n c B : Nat) (ss : List ByteArray) (left : Int) (w : World) (hn : n ≤ maxLen) (h : Strs w B A n ss) (h0 : 0 ≤ left) (h1 : left ≤ 1048576) :
    Calls Try.prog 35 #[.slice A n c, .int .i64 left] w (SzPost w n ss left) := by
  unfold maxLen at hn
  by_cases hl : left < n
  · go_enter Try.func35, Try.ntmps35
    go_wp2
    go_ret
    exact ⟨-1, rfl, rfl, fun h => absurd h (by omega)⟩
  · have hns : n ≤ 1048576 := by omega
    go_enter Try.func35, Try.ntmps35
    go_wp2
    go_loop [1, 5] (fun l i => ∃ (k : Nat) (r : Int), k ≤ n ∧ i = .int .i64 k ∧ l = .int .i64 r ∧ 0 ≤ r ∧ r ≤ left - n ∧ (∀ j s, j < k → ss[j]? = some s → (s.size : Int) ≤ left)) (fun _ i => n - (intOf i).toNat)
    case atStart => exact ⟨0, _, Nat.zero_le _, rfl, rfl, by omega, Int.le_refl _, fun j s hj => absurd hj (by omega)⟩
    case round =>
      obtain ⟨k, r, hk, rfl, rfl, hr0, hr1, hall⟩ := hrel
      have HA := Lib.hid hall
      clear hall
      by_cases hlt : k < n
      · obtain ⟨b, o, s, rfl, hb, hs, hsz, hc⟩ := h.at_ hlt
        have HS := Lib.hid hs
        clear hs
        unfold maxLen at hsz
        by_cases hneg : r - s.size < 0
        · go_wp2
          go_ret
          exact ⟨-1, rfl, rfl, fun h => absurd h (by omega)⟩
        · go_wp2
          go_round
          case rel =>
            refine ⟨k + 1, _, by omega, by go_num, rfl, by omega, by omega, fun j s' hj hs' => ?_⟩
            by_cases hjk : j < k
            · exact HA.out j s' hjk hs'
            · obtain rfl : j = k := by omega
              have := HS.out
              rw [hs'] at this
              injection this with this
              subst this
              omega
          case measure => simp [intOf]; omega
      · go_wp2
        go_ret
        refine ⟨r, rfl, rfl, fun _ => ⟨by omega, fun s hs => ?_⟩⟩
        obtain ⟨j, hj, he⟩ := List.getElem_of_mem hs
        have := h.1
        exact HA.out j s (by omega) (by rw [← he]; exact List.getElem?_eq_getElem hj)

/-- toStringS: a row of the call's own with the same texts. -/
def ToPost (w : World) (n : Nat) (ss : List ByteArray) (e : Ending) (w' : World) : Prop :=
  ∃ g c, e = .returned (.slice (some ⟨g, 0, none⟩) n c) ∧ w'.ownsRow w.heap.size 9 1 (.slice (some ⟨g, 0, none⟩) n c) n (ss.map Value.string) ∧ Below w.heap.size w w'

/-- what toStringS has copied behind k rounds -/
def copied (ss : List ByteArray) (n k : Nat) : List Value := (ss.take k).map Value.string ++ List.replicate (n - k) (.string ⟨#[]⟩)
theorem copied_zero (ss : List ByteArray) (n : Nat) : copied ss n 0 = List.replicate n (.string ⟨#[]⟩) := by simp [copied]
theorem copied_all (ss : List ByteArray) : copied ss ss.length ss.length = ss.map Value.string := by simp [copied]
theorem copied_len {ss : List ByteArray} {n k : Nat} (hn : ss.length = n) (hk : k ≤ n) : (copied ss n k).length = n := by simp [copied]; omega
theorem copied_set {ss : List ByteArray} {n k : Nat} {s : ByteArray} (hn : ss.length = n) (hs : ss[k]? = some s) : (copied ss n k).set k (.string s) = copied ss n (k + 1) := by
  obtain ⟨hk, he⟩ := List.getElem?_eq_some_iff.1 hs
  unfold copied
  have e1 : ((ss.take k).map Value.string).length = k := by simp; omega
  have e2 : n - k = (n - (k + 1)) + 1 := by omega
  rw [List.set_append_right _ _ (by omega), e1, Nat.sub_self, e2, List.replicate_succ, List.set_cons_zero, List.take_succ_eq_append_getElem hk, he]
  simp

theorem toStringS_any (A : Option Addr) (n c B : Nat) (ss : List ByteArray) (w : World) (hn : n ≤ 1048576) (h : Strs w B A n ss) (hB : B ≤ w.heap.size) :
    Calls Try.prog 36 #[.slice A n c] w (ToPost w n ss) := by
  obtain ⟨i0, hi0, hz0, hz1, hz2⟩ := info_parts str_info
  go_enter Try.func36, Try.ntmps36
  go_wp2_with (at_make; refine wpList_make_full _ rfl (.tmp 6) (.tmp 6) _ rfl w.heap.size 9 i0 _ 1 Try.underlying30 hi0 hz0 hz1 .i64 .i64 _ _ n rfl rfl rfl rfl (by rw [hz2]; omega) (by unfold maxLen; omega) (Nat.le_refl _) ?_; intro w1 hown hg)
  have hb1 : Below w.heap.size w w1 := (Below.refl _ _).grown hg (Nat.le_refl _) (by simp)
  have hz : w.heap.size < w1.heap.size := (hown.lt w.heap.size rfl).2
  rw [Nat.mul_one, show (Value.string ⟨#[]⟩).cells = #[.string ⟨#[]⟩] from rfl, toList_madeCells_one, ← copied_zero ss n] at hown
  have h1 : Strs w1 B A n ss := h.step hb1 hB
  go_wp2
  go_loopw [4] (fun i wr => ∃ k : Nat, k ≤ n ∧ i = .int .i64 k ∧ wr.ownsRow w.heap.size 9 1 (.slice (some ⟨w.heap.size, 0, none⟩) n n) n (copied ss n k) ∧ Below w.heap.size w wr) (fun i _ => n - (intOf i).toNat)
  case atStart => exact ⟨0, Nat.zero_le _, rfl, hown, hb1⟩
  case round =>
    obtain ⟨k, hk, rfl, hownk, hbk⟩ := hrel
    by_cases hlt : k < n
    · have hr := h.step hbk hB
      obtain ⟨b, o, s, rfl, hb, hs, hsz, hc⟩ := hr.at_ hlt
      have HS := Lib.hid hs
      clear hs
      have hcell : wr.cell? ⟨w.heap.size, k, none⟩ = some (.string ⟨#[]⟩) := by
        rw [hownk.cellAt k (by omega)]
        unfold copied
        have e1 : ((ss.take k).map Value.string).length = k := by have := h.1; simp; omega
        rw [List.getElem?_append_right (by omega), e1, Nat.sub_self, List.getElem?_replicate, if_pos (by omega)]
      have hfr := hownk.frozenAt k
      obtain ⟨hst, hgr⟩ := hownk.stored k (.string s)
      rw [copied_set h.1 HS.out] at hst
      have hbn : Below w.heap.size w (wr.setCell ⟨w.heap.size, k, none⟩ (.string s)) := hbk.setCell (Nat.le_refl _) _
      go_wp2
      go_roundw
      case rel => exact ⟨k + 1, by omega, by go_num, hst, hbn⟩
      case measure => simp [intOf]; omega
    · obtain rfl : k = n := by omega
      have hl := h.1
      have e : copied ss k k = ss.map Value.string := by have := copied_all ss; rw [hl] at this; exact this
      rw [e] at hownk
      go_wp2
      go_ret
      exact ⟨_, _, rfl, hownk, hbk⟩

theorem str_beq (s t : ByteArray) : (s.toList == t.toList) = decide (s = t) := by
  rw [ByteArray.toList_eq, ByteArray.toList_eq]
  by_cases h : s = t
  · subst h; simp
  · simp only [h, decide_false, beq_eq_false_iff_ne, ne_eq]
    intro e
    exact h (by cases s; cases t; simp at e; simp [e])
theorem eq_upto {ss ts : List ByteArray} (hl : ss.length = ts.length) (h : ∀ j < ss.length, ss[j]? = ts[j]?) : ss = ts := by
  apply List.ext_getElem? ; intro j
  by_cases hj : j < ss.length
  · exact h j hj
  · rw [List.getElem?_eq_none (by omega), List.getElem?_eq_none (by omega)]

theorem eqStringS_any (A1 A2 : Option Addr) (n1 c1 n2 c2 B : Nat) (ss ts : List ByteArray) (w : World) (hn1 : n1 ≤ maxLen) (hn2 : n2 ≤ maxLen) (h1 : Strs w B A1 n1 ss) (h2 : Strs w B A2 n2 ts) :
    Calls Try.prog 37 #[.slice A1 n1 c1, .slice A2 n2 c2] w fun e w' => e = .returned (.bool (decide (ss = ts))) ∧ Drawn w w' := by
  unfold maxLen at hn1 hn2
  have l1 := h1.1
  have l2 := h2.1
  by_cases hl : n1 = n2
  · subst hl
    have L1 := Lib.hid l1
    have L2 := Lib.hid l2
    clear l1 l2
    go_enter Try.func37, Try.ntmps37
    go_wp2
    go_loopw [5] (fun i wr => ∃ k : Nat, k ≤ n1 ∧ i = .int .i64 k ∧ (∀ j < k, ss[j]? = ts[j]?) ∧ Drawn w wr) (fun i _ => n1 - (intOf i).toNat)
    case atStart => exact ⟨0, Nat.zero_le _, rfl, fun j hj => absurd hj (by omega), Drawn.refl _⟩
    case round =>
      obtain ⟨k, hk, rfl, hall, hbk⟩ := hrel
      have HA := Lib.hid hall
      clear hall
      by_cases hlt : k < n1
      · obtain ⟨b, o, s, rfl, hb, hs, hsz, hc⟩ := (h1.drawn hbk).at_ hlt
        obtain ⟨b2, o2, t, rfl, hb2, ht, htz, hc2⟩ := (h2.drawn hbk).at_ hlt
        have HS := Lib.hid hs
        have HT := Lib.hid ht
        clear hs ht
        have hbq := str_beq s t
        by_cases he : s = t
        · have hbe : (s.toList == t.toList) = true := by rw [hbq, decide_eq_true he]
          have HE := Lib.hid he
          clear he hbq
          go_wp2
          go_quiet (fail)
          go_wp2
          go_roundw
          case rel =>
            refine ⟨k + 1, by omega, by go_num, fun j hj => ?_, hbk.drewN _⟩
            by_cases hjk : j < k
            · exact HA.out j hjk
            · obtain rfl : j = k := by omega
              rw [HS.out, HT.out, HE.out]
          case measure => simp [intOf]; omega
        · have hbe : (s.toList == t.toList) = false := by rw [hbq, decide_eq_false he]
          have HE := Lib.hid he
          clear he hbq
          go_wp2
          go_quiet (fail)
          go_wp2
          go_ret
          refine ⟨ret_bool (Eq.symm (decide_eq_false fun e => HE.out ?_)), hbk.drewN _⟩
          have := HS.out
          rw [e, HT.out] at this
          injection this with this
          exact this.symm
      · go_wp2
        go_ret
        refine ⟨ret_bool (Eq.symm (decide_eq_true (eq_upto (by rw [L1.out, L2.out]) fun j hj => HA.out j (by have := L1.out; omega)))), hbk⟩
  · have hne : ss ≠ ts := fun e => hl (by rw [← l1, ← l2, e])
    have HN := Lib.hid hne
    clear hne l1 l2
    have hl2 : ((n1 : Int) == n2) = false := by simp; omega
    have HL := Lib.hid hl
    clear hl
    go_enter Try.func37, Try.ntmps37
    go_wp2
    go_ret
    exact ⟨ret_bool (Eq.symm (decide_eq_false HN.out)), Drawn.refl _⟩
end Go.Proofs.Ytmolphaihapkkaa
