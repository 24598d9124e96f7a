/- Contracts of the model's l7Scan, ScanWords, NearestWords. -/
import Derived.Test.YtmolphaihapkkaaHitSpec2
import Derived.Test.YtmolphaihapkkaaBandSpec
import Derived.Test.YtmolphaihapkkaaHitOut
namespace Go.Proofs.Ytmolphaihapkkaa
open Go.RowKit
set_option maxHeartbeats 3200000
set_option maxRecDepth 8192
set_option linter.unusedSimpArgs false
set_option linter.unusedVariables false

theorem filled_word {s : ByteArray} (h : filledS s = true) : wordB s.data.toList = true := by
  unfold filledS at h; rw [Bool.and_eq_true] at h; exact h.2
theorem within_any (a b : ByteArray) (k : Int) (w : World) (ha : a.size ≤ maxLen) (hb : b.size ≤ maxLen) (h1 : wordB a.data.toList = true) (h2 : wordB b.data.toList = true) (h0 : 0 ≤ k) (h4 : k ≤ 4) :
    Calls Try.prog 76 #[.string a, .string b, .int .i64 k] w fun e w' => e = .returned (.int .i64 (withinV a.data.toList b.data.toList k)) ∧ Below w.heap.size w w' := by
  have := withinDistance_spec a b k w ha hb
  rwa [threeI_yes (by unfold errB; rw [h1, h2, decide_eq_true h0, decide_eq_true h4]; rfl)] at this

theorem scan_any (A : Option Addr) (n c B : Nat) (ss : List ByteArray) (s : ByteArray) (k : Int) (w : World) (hn : n ≤ 1048576) (h : Strs w B A n ss) (hB : B ≤ w.heap.size) (hs : s.size ≤ maxLen) (hv : listB ss = true) (hw : wordB s.data.toList = true) (h0 : 0 ≤ k) (h4 : k ≤ 4) :
    Calls Try.prog 54 #[.slice A n c, .string s, .int .i64 k] w (HitsPost (scanF s k ss) w) := by
  have HL := Lib.hid h.1
  have HF := Lib.hid (list_filled hv).2
  have HW := Lib.hid hw
  have h60 := (list_filled hv).1
  rw [HL.out] at h60
  have HO := Lib.hid (fun W : World => hits_empty W)
  have hs' := hs
  unfold maxLen at hs
  clear hv hw
  go_enter Try.func54, Try.ntmps54
  go_wp2_with fail
  go_loopw [7, 8] (fun v i wr => ∃ j g cap : Nat, j ≤ n ∧ i = .int .i64 j ∧ v = .slice (some ⟨g, 0, none⟩) (scanF s k (ss.take j)).length cap ∧ OwnHits wr w.heap.size (some ⟨g, 0, none⟩) (scanF s k (ss.take j)).length cap (scanF s k (ss.take j)) ∧ Below w.heap.size w wr) (fun _ i _ => n - (intOf i).toNat)
  case atStart => exact ⟨0, _, 0, Nat.zero_le _, rfl, rfl, HO.out w, (Below.refl _ _).alloc (Nat.le_refl _) _⟩
  case round =>
    obtain ⟨j, g, cap, hj, rfl, rfl, hown, hbel⟩ := hrel
    by_cases hlt : j < n
    · have hr := h.below (hbel.mono hB)
      obtain ⟨b, o, t, rfl, hbB, ht, htz, hc⟩ := hr.at_ hlt
      have HT := Lib.hid ht
      have htf := HF.out t (List.mem_of_getElem? ht)
      have HWT := Lib.hid (filled_word htf)
      have HN := Lib.hid (scanF_next s k ss ht)
      have hlen := scanF_len s k ss j
      have hed := ed_most false s.data.toList t.data.toList
      have hsz := word_size HW.out
      have htz2 := word_size HWT.out
      rw [len_eq, len_eq] at hed
      have HWI := Lib.hid (fun W : World => within_any s t k W hs' htz HW.out HWT.out h0 h4)
      unfold withinV at HWI
      clear ht htf
      have hcc := hown.shape
      have hcap : (scanF s k (ss.take j)).length ≤ cap ∧ cap ≤ maxLen := by
        rcases hcc with ⟨e, _⟩ | ⟨_, _, _, _, h1, h2⟩
        · cases e
        · exact ⟨h1, h2⟩
      clear hcc
      have hz := hbel.size
      have i0 : (0 : Int) ≤ (j : Int) := by omega
      have i1 : (j : Int) < (n : Int) := by omega
      generalize ed false s.data.toList t.data.toList = d at hed HN HWI
      generalize scanF s k (ss.take j) = L at hown hlen HN hcap ⊢
      generalize L.length = m at hown hlen hcap ⊢
      have HOW := Lib.hid hown
      have hcap1 := hcap.1
      have HC2 := Lib.hid hcap.2
      clear hown hcap
      by_cases hle : (d : Int) ≤ k
      · have HWI2 := Lib.hid (fun W : World => by have q := HWI.out W; rw [if_pos hle] at q; exact q)
        have HN2 := Lib.hid (HN.out.trans (if_pos hle))
        have hd0 : (0 : Int) ≤ (d : Int) := by omega
        clear HWI HN hle
        go_wp2_with (go_at_call 76; (with_reducible refine (HWI2.out _).mono ?_); rintro e w1 ⟨rfl, hb1⟩; have hc := (hb1.cell (p := ⟨b, o + j, none⟩) (by show b < wr.heap.size; omega)).trans hc)
        have HOW1 := Lib.hid (HOW.out.below hb1)
        refine (hitIns_any g 0 m cap w1.heap.size L t d w1 (by omega) hcap1 HC2.out HOW1.out.recs (Nat.le_refl _) htz (by unfold I64; omega)).mono ?_
        rintro e w2 ⟨g2, cap2, rfl, hown2, hb2⟩
        have hbel2 := below_step (below_step hbel (Nat.le_refl _) hb1) (Nat.le_refl _) hb2
        have hlen2 := hown2.len
        go_wp2_with fail
        go_roundw
        case rel => exact ⟨j + 1, g2, cap2, by omega, by go_num, by rw [HN2.out, hlen2], by rw [HN2.out, hlen2]; exact hown2.mono (by have := hb1.size; omega), hbel2⟩
        case measure => simp [intOf]; omega
      · have HWI2 := Lib.hid (fun W : World => by have q := HWI.out W; rw [if_neg hle] at q; exact q)
        have HN2 := Lib.hid (HN.out.trans (if_neg hle))
        clear HWI HN hle
        go_wp2_with (go_at_call 76; (with_reducible refine (HWI2.out _).mono ?_); rintro e w1 ⟨rfl, hb1⟩)
        have hown1 := HOW.out.below hb1
        have hlen1 := hown1.len
        go_roundw
        case rel => exact ⟨j + 1, g, cap, by omega, by go_num, by rw [HN2.out, hlen1], by rw [HN2.out, hlen1]; exact hown1, below_step hbel (Nat.le_refl _) hb1⟩
        case measure => simp [intOf]; omega
    · obtain rfl : j = n := by omega
      have HT := Lib.hid (show ss.take j = ss from List.take_of_length_le (by rw [HL.out]; omega))
      rw [HT.out] at hown ⊢
      go_wp2_with fail
      go_ret
      exact ⟨g, cap, rfl, hown, hbel⟩

theorem hitsPost_nil {w w' : World} (h : Below w.heap.size w w') : ∀ l : List Hit, l = [] → HitsPost l w (.returned (.slice (some ⟨w'.heap.size, 0, none⟩) 0 0)) (w'.alloc (.cells #[] 28)) := by
  rintro _ rfl
  exact ⟨w'.heap.size, 0, rfl, (hits_empty w').mono h.size, h.alloc h.size _⟩
theorem scanWords_spec (A : Option Addr) (n c B : Nat) (ss : List ByteArray) (s : ByteArray) (k : Int) (w : World) (hn : n ≤ 1048576) (h : Strs w B A n ss) (hB : B ≤ w.heap.size) (hs : s.size ≤ maxLen) :
    Calls Try.prog 20 #[.slice A n c, .string s, .int .i64 k] w (HitsPost (scanE ss s k) w) := by
  have hn2 : n ≤ maxLen := by unfold maxLen; omega
  have hs' := hs
  cases hv : listB ss
  · have HE := Lib.hid (show scanE ss s k = [] by unfold scanE; rw [hv]; rfl)
    have HV := Lib.hid hv
    clear hv
    go_enter Try.func20, Try.ntmps20
    go_wp2_with fail
    refine (listValid_spec A n c B ss w hn2 h).mono ?_
    rintro e w1 ⟨rfl, hd1⟩
    rw [HV.out]
    go_wp2_with fail
    go_ret
    exact hitsPost_nil hd1.below _ HE.out
  · cases hw : wordB s.data.toList
    · have HE := Lib.hid (show scanE ss s k = [] by unfold scanE; rw [hv, hw]; rfl)
      have HV := Lib.hid hv
      have HW := Lib.hid (wordValid_spec_is hw)
      clear hv hw
      go_enter Try.func20, Try.ntmps20
      go_wp2_with fail
      refine (listValid_spec A n c B ss w hn2 h).mono ?_
      rintro e w1 ⟨rfl, hd1⟩
      rw [HV.out]
      go_wp2_with fail
      refine (HW.out _ hs').mono ?_
      rintro e w' ⟨rfl, rfl⟩
      go_wp2_with fail
      go_ret
      exact hitsPost_nil hd1.below _ HE.out
    · cases hk : inB k 0 4
      · have HE := Lib.hid (show scanE ss s k = [] by unfold scanE; rw [hv, hw, show (decide (0 ≤ k) && decide (k ≤ 4)) = false from hk]; rfl)
        have HV := Lib.hid hv
        have HW := Lib.hid (wordValid_spec_is hw)
        have HK := Lib.hid (l1In_is hk)
        clear hv hw hk
        go_enter Try.func20, Try.ntmps20
        go_wp2_with fail
        refine (listValid_spec A n c B ss w hn2 h).mono ?_
        rintro e w1 ⟨rfl, hd1⟩
        rw [HV.out]
        go_wp2_with fail
        refine (HW.out _ hs').mono ?_
        rintro e w' ⟨rfl, rfl⟩
        go_wp2_with fail
        refine (HK.out _).mono ?_
        rintro e w' ⟨rfl, rfl⟩
        go_wp2_with fail
        go_ret
        exact hitsPost_nil hd1.below _ HE.out
      · have HE := Lib.hid (show scanE ss s k = scanF s k ss by unfold scanE; rw [hv, hw, show (decide (0 ≤ k) && decide (k ≤ 4)) = true from hk]; rfl)
        have hk2 : 0 ≤ k ∧ k ≤ 4 := by unfold inB at hk; simpa using hk
        have HS := Lib.hid (fun (W : World) (h2 : Strs W B A n ss) (hB2 : B ≤ W.heap.size) => scan_any A n c B ss s k W hn h2 hB2 hs' hv hw hk2.1 hk2.2)
        have HV := Lib.hid hv
        have HW := Lib.hid (wordValid_spec_is hw)
        have HK := Lib.hid (l1In_is hk)
        clear hv hw hk hk2
        rw [HE.out]
        go_enter Try.func20, Try.ntmps20
        go_wp2_with fail
        refine (listValid_spec A n c B ss w hn2 h).mono ?_
        rintro e w1 ⟨rfl, hd1⟩
        rw [HV.out]
        go_wp2_with fail
        refine (HW.out _ hs').mono ?_
        rintro e w' ⟨rfl, rfl⟩
        go_wp2_with fail
        refine (HK.out _).mono ?_
        rintro e w' ⟨rfl, rfl⟩
        go_wp2_with fail
        have hz1 := (hd1.below (B := w.heap.size)).size
        refine (HS.out _ (h.below (hd1.below.mono hB)) (by omega)).mono ?_
        rintro e w2 ⟨g, cap, rfl, hown, hb2⟩
        go_wp2_with fail
        go_ret
        exact ⟨g, cap, rfl, hown.mono hz1, below_step hd1.below (Nat.le_refl _) hb2⟩
end Go.Proofs.Ytmolphaihapkkaa
