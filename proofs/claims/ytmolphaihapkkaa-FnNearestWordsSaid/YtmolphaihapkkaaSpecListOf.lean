/- Contract of the model's ListOf. -/
import Derived.Test.YtmolphaihapkkaaIns
namespace Go.Proofs.Ytmolphaihapkkaa
open Go.RowKit
set_option maxHeartbeats 800000
set_option linter.unusedSimpArgs false
set_option linter.unusedVariables false

def foldIns (ss : List ByteArray) : List ByteArray := ss.foldl (fun l x => insOf x l) []
/-- the answer of ListOf -/
def listOfB (ss : List ByteArray) : List ByteArray := if filledB ss then foldIns ss else []
theorem foldIns_snoc (ss : List ByteArray) (x : ByteArray) : foldIns (ss ++ [x]) = insOf x (foldIns ss) := by simp [foldIns]
theorem insOf_len (x : ByteArray) (l : List ByteArray) : (insOf x l).length ≤ l.length + 1 := by
  unfold insOf
  split
  · omega
  · simp; have := atFrom_le x l l.length; omega
theorem foldIns_take {ss : List ByteArray} {k : Nat} {x : ByteArray} (h : ss[k]? = some x) : foldIns (ss.take (k + 1)) = insOf x (foldIns (ss.take k)) := by
  obtain ⟨hk, he⟩ := List.getElem?_eq_some_iff.1 h
  rw [List.take_succ_eq_append_getElem hk, he, foldIns_snoc]

theorem listOf_spec (A : Option Addr) (n c B : Nat) (ss : List ByteArray) (w : World) (hn : n ≤ maxLen) (h : Strs w B A n ss) (hB : B ≤ w.heap.size) :
    Calls Try.prog 82 #[.slice A n c] w (InsPost w w.heap.size (listOfB ss)) := by
  unfold maxLen at hn
  have hl := h.1
  have HNO := Lib.hid (fun (hf : filledB ss = false) => show listOfB ss = [] by unfold listOfB; rw [hf]; rfl)
  have empty : ∀ wr : World, Below w.heap.size w wr → OwnS (wr.alloc (.cells #[] 9)) w.heap.size wr.heap.size 0 0 [] ∧ Below w.heap.size w (wr.alloc (.cells #[] 9)) := fun wr hb =>
    ⟨(OwnS.empty wr).mono hb.size, hb.alloc hb.size _⟩
  have HE := Lib.hid empty
  clear empty
  by_cases h60 : (60 : Int) < n
  · have HF := Lib.hid (HNO.out (by unfold filledB; rw [decide_eq_false (by omega)]; rfl))
    clear hl
    go_enter Try.func82, Try.ntmps82
    go_wp2_with fail
    go_ret
    obtain ⟨e1, e2⟩ := HE.out w (Below.refl _ _)
    exact ⟨_, _, _, rfl, by rw [HF.out]; exact e1, e2⟩
  · have H60 := Lib.hid (decide_eq_true (show ss.length ≤ 60 by omega))
    have HL := Lib.hid hl
    clear hl
    have hs0 : OwnS (w.alloc (.cells #[] 9)) w.heap.size w.heap.size 0 0 (foldIns (ss.take 0)) ∧ Below w.heap.size w (w.alloc (.cells #[] 9)) := HE.out w (Below.refl _ _)
    have HS0 := Lib.hid hs0
    clear hs0
    go_enter Try.func82, Try.ntmps82
    go_wp2_with fail
    go_loopw [3, 4] (fun v i wr => ∃ k g m cap : Nat, k ≤ n ∧ i = .int .i64 k ∧ v = .slice (some ⟨g, 0, none⟩) m cap ∧ m ≤ k ∧ OwnS wr w.heap.size g m cap (foldIns (ss.take k)) ∧ Hid (∀ j s, j < k → ss[j]? = some s → filledS s = true) ∧ Below w.heap.size w wr) (fun _ i _ => n - (intOf i).toNat)
    case atStart => exact ⟨0, _, _, _, Nat.zero_le _, rfl, rfl, Nat.le_refl _, HS0.out.1, fun j s hj => absurd hj (by omega), HS0.out.2⟩
    case round =>
      obtain ⟨k, g, m, cap, hk, rfl, rfl, hmk, hown, HA, hbel⟩ := hrel
      by_cases hlt : k < n
      · obtain ⟨b, o, s, rfl, hb, hs, hsz, hc⟩ := (h.below (hbel.mono hB)).at_ hlt
        have HS := Lib.hid hs
        have HFT := Lib.hid (foldIns_take hs)
        have HBAD := Lib.hid (fun hf : filledS s = false => HNO.out (show filledB ss = false by unfold filledB; rw [all_not hs hf]; simp))
        clear hs
        cases hw : wordB s.data.toList
        · have HN := Lib.hid (HBAD.out (by unfold filledS; rw [hw]; simp))
          have HW := Lib.hid (wordValid_spec_is hw)
          clear hw
          go_wp2_with fail
          refine (HW.out _ hsz).mono ?_
          rintro e w' ⟨rfl, rfl⟩
          go_wp2_with fail
          go_ret
          obtain ⟨e1, e2⟩ := HE.out _ hbel
          exact ⟨_, _, _, rfl, by rw [HN.out]; exact e1, e2⟩
        · have HW := Lib.hid (wordValid_spec_is hw)
          have HWB := Lib.hid hw
          clear hw
          cases he : s.toList.isEmpty
          · have HF := Lib.hid (show filledS s = true by unfold filledS; rw [he, HWB.out]; rfl)
            go_wp2_with fail
            refine (HW.out _ hsz).mono ?_
            rintro e w' ⟨rfl, rfl⟩
            go_wp2_with fail
            refine (insert_any w.heap.size g m cap _ s _ hown (by omega) hbel.size hsz).mono ?_
            rintro e w2 ⟨g2, m2, cap2, rfl, hown2, hb2⟩
            rw [← HFT.out] at hown2
            have hm2 : m2 ≤ k + 1 := by
              have l1 := hown2.len
              have l2 := hown.len
              have l3 := insOf_len s (foldIns (ss.take k))
              rw [HFT.out] at l1
              omega
            have hbel2 := below_step hbel (Nat.le_refl _) hb2
            clear hown hb2 hbel
            go_wp2_with fail
            go_roundw
            case rel =>
              refine ⟨k + 1, g2, m2, cap2, by omega, by go_num, rfl, hm2, hown2, fun j s' hj hs' => ?_, hbel2⟩
              by_cases hjk : j < k
              · exact HA.out j s' hjk hs'
              · obtain rfl : j = k := by omega
                have := HS.out
                rw [hs'] at this
                injection this with this
                subst this
                exact HF.out
            case measure => simp [intOf]; omega
          · have HN := Lib.hid (HBAD.out (by unfold filledS; rw [he]; rfl))
            go_wp2_with fail
            refine (HW.out _ hsz).mono ?_
            rintro e w' ⟨rfl, rfl⟩
            go_wp2_with fail
            go_ret
            obtain ⟨e1, e2⟩ := HE.out _ hbel
            exact ⟨_, _, _, rfl, by rw [HN.out]; exact e1, e2⟩
      · obtain rfl : k = n := by omega
        have hfin : foldIns (ss.take k) = listOfB ss := by
          unfold listOfB
          rw [List.take_of_length_le (by rw [HL.out]; exact Nat.le_refl _), if_pos]
          unfold filledB
          rw [H60.out, all_upto fun j s hs => HA.out j s (by have := (List.getElem?_eq_some_iff.1 hs).1; have := HL.out; omega) hs]
          rfl
        rw [hfin] at hown
        clear hfin
        go_wp2_with fail
        go_ret
        exact ⟨g, m, cap, rfl, hown, hbel⟩
end Go.Proofs.Ytmolphaihapkkaa
