/- Contract of the model's NearestWords. -/
import Derived.Test.YtmolphaihapkkaaHitSpec3
import Derived.Test.YtmolphaihapkkaaOwn
import Derived.Test.YtmolphaihapkkaaDistFns
namespace Go.Proofs.Ytmolphaihapkkaa
open Go.RowKit
set_option maxHeartbeats 3200000
set_option maxRecDepth 8192
set_option linter.unusedSimpArgs false
set_option linter.unusedVariables false

/-- what NearestWords leaves: words of the call's own, and a distance -/
def NearPost (l : List ByteArray) (d : Int) (w : World) (e : Ending) (w' : World) : Prop := ∃ g cap, e = .returned (.tuple #[.slice (some ⟨g, 0, none⟩) l.length cap, .int .i64 d]) ∧ OwnS w' w.heap.size g l.length cap l ∧ Below w.heap.size w w'
theorem nearestWords_spec (A : Option Addr) (n c B : Nat) (ss : List ByteArray) (s : ByteArray) (w : World) (hn : n ≤ 1048576) (h : Strs w B A n ss) (hB : B ≤ w.heap.size) (hs : s.size ≤ maxLen) :
    Calls Try.prog 30 #[.slice A n c, .string s] w (NearPost (nearEL ss s) (nearEI ss s) w) := by
  have HL := Lib.hid h.1
  have hs' := hs
  have hn2 : n ≤ maxLen := by unfold maxLen; omega
  have HS0 := Lib.hid (show OwnS (w.alloc (.cells #[] 9)) w.heap.size w.heap.size 0 0 [] ∧ Below w.heap.size w (w.alloc (.cells #[] 9)) from ⟨OwnS.empty w, (Below.refl _ _).alloc (Nat.le_refl _) _⟩)
  rcases Nat.eq_zero_or_pos n with h0 | hpos
  · subst h0
    have hnil : ss = [] := List.eq_nil_of_length_eq_zero HL.out
    have HE := Lib.hid (show nearEL ss s = [] ∧ nearEI ss s = -1 by subst hnil; unfold nearEL nearEI nearL nearI; constructor <;> (split <;> rfl))
    rw [HE.out.1, HE.out.2]
    go_enter Try.func30, Try.ntmps30
    go_wp2_with fail
    go_loopw [6, 7, 8] (fun v d i wr => v = .slice (some ⟨w.heap.size, 0, none⟩) 0 0 ∧ d = .int .i64 (-1) ∧ i = .int .i64 0 ∧ wr = w.alloc (.cells #[] 9)) (fun _ _ i _ => 0)
    case atStart => exact ⟨rfl, rfl, rfl, rfl⟩
    case round =>
      obtain ⟨rfl, rfl, rfl, rfl⟩ := hrel
      go_wp2_with fail
      go_ret2
      exact ⟨_, 0, rfl, HS0.out.1, HS0.out.2⟩
  · have hposI : (0 : Int) < (n : Int) := by omega
    cases hv : listB ss
    · have HE := Lib.hid (show nearEL ss s = [] ∧ nearEI ss s = -1 by unfold nearEL nearEI; rw [hv]; exact ⟨rfl, rfl⟩)
      have HV := Lib.hid hv
      clear hv
      rw [HE.out.1, HE.out.2]
      go_enter Try.func30, Try.ntmps30
      go_wp2_with fail
      go_loopw [6, 7, 8] (fun v d i wr => v = .slice (some ⟨w.heap.size, 0, none⟩) 0 0 ∧ d = .int .i64 (-1) ∧ i = .int .i64 0 ∧ wr = w.alloc (.cells #[] 9)) (fun _ _ i _ => 0)
      case atStart => exact ⟨rfl, rfl, rfl, rfl⟩
      case round =>
        obtain ⟨rfl, rfl, rfl, rfl⟩ := hrel
        go_wp2_with fail
        refine (listValid_spec A n c B ss _ hn2 (h.below (HS0.out.2.mono hB))).mono ?_
        rintro e w1 ⟨rfl, hd1⟩
        rw [HV.out]
        go_wp2_with fail
        go_ret2
        exact ⟨_, 0, rfl, HS0.out.1.drawn hd1, below_step HS0.out.2 (Nat.le_refl _) hd1.below⟩
    · cases hw : wordB s.data.toList
      · have HE := Lib.hid (show nearEL ss s = [] ∧ nearEI ss s = -1 by unfold nearEL nearEI; rw [hv, hw]; exact ⟨rfl, rfl⟩)
        have HV := Lib.hid hv
        have HW := Lib.hid (wordValid_spec_is hw)
        clear hv hw
        rw [HE.out.1, HE.out.2]
        go_enter Try.func30, Try.ntmps30
        go_wp2_with fail
        go_loopw [6, 7, 8] (fun v d i wr => v = .slice (some ⟨w.heap.size, 0, none⟩) 0 0 ∧ d = .int .i64 (-1) ∧ i = .int .i64 0 ∧ wr = w.alloc (.cells #[] 9)) (fun _ _ i _ => 0)
        case atStart => exact ⟨rfl, rfl, rfl, rfl⟩
        case round =>
          obtain ⟨rfl, rfl, rfl, rfl⟩ := hrel
          go_wp2_with fail
          refine (listValid_spec A n c B ss _ hn2 (h.below (HS0.out.2.mono hB))).mono ?_
          rintro e w1 ⟨rfl, hd1⟩
          rw [HV.out]
          go_wp2_with fail
          refine (HW.out _ hs').mono ?_
          rintro e w' ⟨rfl, rfl⟩
          go_wp2_with fail
          go_ret2
          exact ⟨_, 0, rfl, HS0.out.1.drawn hd1, below_step HS0.out.2 (Nat.le_refl _) hd1.below⟩
      · have HE := Lib.hid (show nearEL ss s = nearL s ss ∧ nearEI ss s = nearI s ss by unfold nearEL nearEI; rw [hv, hw]; exact ⟨rfl, rfl⟩)
        have HF := Lib.hid (list_filled hv).2
        have h60 := (list_filled hv).1
        rw [HL.out] at h60
        have HV := Lib.hid hv
        have HW := Lib.hid (wordValid_spec_is hw)
        have hsz := word_size hw
        clear hv hw
        rw [HE.out.1, HE.out.2]
        go_enter Try.func30, Try.ntmps30
        go_wp2_with fail
        go_loopw [6, 7, 8] (fun v d i wr => ∃ k g m cap : Nat, k ≤ n ∧ i = .int .i64 k ∧ d = .int .i64 (nearI s (ss.take k)) ∧ v = .slice (some ⟨g, 0, none⟩) m cap ∧ OwnS wr w.heap.size g m cap (nearL s (ss.take k)) ∧ Below w.heap.size w wr) (fun _ _ i _ => n - (intOf i).toNat)
        case atStart => exact ⟨0, w.heap.size, 0, 0, Nat.zero_le _, rfl, by simp [nearI], rfl, by simpa [nearL] using HS0.out.1, HS0.out.2⟩
        case round =>
          clear HS0
          obtain ⟨k, g, m, cap, hk, rfl, rfl, rfl, hown, hbel⟩ := hrel
          by_cases hlt : k < n
          · have hr := h.below (hbel.mono hB)
            obtain ⟨b, o, t, rfl, hbB, ht, htz, hc⟩ := hr.at_ hlt
            have htf := HF.out t (List.mem_of_getElem? ht)
            have HWT := Lib.hid (filled_word htf)
            have hi0 := near_facts s ss k (by rw [HL.out]; omega)
            have HIN := Lib.hid (nearI_next s ss ht)
            have HNL := Lib.hid (nearL_next s ss (by rw [HL.out]; omega) ht)
            have hed := ed_most false s.data.toList t.data.toList
            have htz2 := word_size HWT.out
            rw [len_eq, len_eq] at hed
            have HD := Lib.hid (fun W => l2Distance_any s t W hsz htz2)
            have hz := hbel.size
            have hm := hown.len
            have hml : m ≤ k := by
              rw [← hm]
              refine Nat.le_trans (List.length_filter_le _ _) ?_
              rw [List.length_take]; omega
            have hcaps := hown.caps
            have i0 : (0 : Int) ≤ (k : Int) := by omega
            have i1 : (k : Int) < (n : Int) := by omega
            have hbI : -1 ≤ nearI s (ss.take k) ∧ nearI s (ss.take k) ≤ 12 := by
              rcases Nat.eq_zero_or_pos k with h0 | h0
              · rw [hi0.1 h0]; omega
              · obtain ⟨q1, x, hx, q2⟩ := hi0.2.1 h0
                have hxe := ed_most false s.data.toList x.data.toList
                have hxz := word_size (filled_word (HF.out x (List.mem_of_mem_take hx)))
                rw [len_eq, len_eq] at hxe
                omega
            generalize ed false s.data.toList t.data.toList = d at hed HIN HNL HD
            generalize nearI s (ss.take k) = bi at hbI HIN HNL ⊢
            clear ht htf hi0 hm
            have HOW := Lib.hid hown
            clear hown
            have HHC := Lib.hid (fun (W : World) (hd1 : Drawn wr W) => hd1.cell ⟨b, o + k, none⟩)
            by_cases hneg : bi < 0 ∨ (d : Int) < bi
            · have HI2 := Lib.hid (HIN.out.trans (if_pos hneg))
              have HN2 := Lib.hid (HNL.out.1 hneg)
              clear HIN HNL
              have hdd : ((d : Int) == (d : Int)) = true := by simp
              rcases (show bi < 0 ∨ (¬ bi < 0 ∧ (d : Int) < bi) by omega) with q | ⟨q, q2⟩
              all_goals
                clear hneg
                go_wp2_with fail
                refine (listValid_spec (some ⟨b, o, none⟩) n c B ss wr hn2 hr).mono ?_
                rintro e w1 ⟨rfl, hd1⟩
                rw [HV.out]
                have hc1 := (HHC.out _ hd1).trans hc
                go_wp2_with fail
                refine (HW.out _ hs').mono ?_
                rintro e w' ⟨rfl, rfl⟩
                go_wp2_with fail
                refine (HD.out _).mono ?_
                rintro e w2 ⟨rfl, hb2⟩
                have hbb := below_step (below_step hbel (Nat.le_refl _) hd1.below) (Nat.le_refl _) hb2
                have hzz := hbb.size
                have hc2 := (hb2.cell (p := ⟨b, o + k, none⟩) (show b < w1.heap.size by have := (hd1.below (B := wr.heap.size)).size; omega)).trans hc1
                have HS2 := Lib.hid (show OwnS (w2.alloc (.cells #[] 9)) w2.heap.size w2.heap.size 0 0 [] from OwnS.empty w2)
                have HST := Lib.hid (show Strs ((w2.alloc (.cells #[] 9)).alloc (.cells #[.string t] 9)) (w2.heap.size + 1 + 1) (some ⟨w2.heap.size + 1, 0, none⟩) 1 [t] by
                  have q := Strs.one (w2.alloc (.cells #[] 9)) t htz
                  rw [show (w2.alloc (.cells #[] 9)).heap.size = w2.heap.size + 1 by simp] at q
                  exact q)
                have hc3 := (((Below.refl w2.heap.size w2).alloc (Nat.le_refl _) (.cells #[] 9)).cell (p := ⟨b, o + k, none⟩) (show b < w2.heap.size by omega)).trans hc2
                go_wp2_with
                  (at_builtin
                   refine wp_append_texts rfl (.tmp 43) (.tmp 48) rfl w2.heap.size (w2.heap.size + 1 + 1) w2.heap.size 0 0 1 1 [] [t] (some ⟨w2.heap.size + 1, 0, none⟩) rfl (HS2.out.below ((Below.refl _ _).alloc (Nat.le_refl _) _)) rfl HST.out (by simp; omega) (by omega) ?_
                   intro g2 cap2 w3 hown2 hg2 hat2)
                have hb3 : Below w.heap.size w w3 := ((hbb.alloc hzz _).alloc (by simp; omega) _).grown hg2 (by simp; omega) (fun j hj => by injection hj with hj; omega)
                go_wp2_with fail
                go_roundw
                case rel => exact ⟨k + 1, g2, 1, cap2, by omega, by go_num, by rw [HI2.out], rfl, by rw [HN2.out]; exact hown2.mono hzz, hb3⟩
                case measure => simp [intOf]; omega
            · have HI2 := Lib.hid (HIN.out.trans (if_neg hneg))
              have q : ¬ bi < 0 := by omega
              have q2 : ¬ (d : Int) < bi := by omega
              by_cases heq : (d : Int) = bi
              · subst heq
                have HN2 := Lib.hid ((HNL.out.2 hneg).trans (if_pos rfl))
                clear HIN HNL hneg
                have hdd : ((d : Int) == (d : Int)) = true := by simp
                go_wp2_with fail
                refine (listValid_spec (some ⟨b, o, none⟩) n c B ss wr hn2 hr).mono ?_
                rintro e w1 ⟨rfl, hd1⟩
                rw [HV.out]
                have hc1 := (HHC.out _ hd1).trans hc
                go_wp2_with fail
                refine (HW.out _ hs').mono ?_
                rintro e w' ⟨rfl, rfl⟩
                go_wp2_with fail
                refine (HD.out _).mono ?_
                rintro e w2 ⟨rfl, hb2⟩
                have hbb := below_step (below_step hbel (Nat.le_refl _) hd1.below) (Nat.le_refl _) hb2
                have hzz := hbb.size
                have hc2 := (hb2.cell (p := ⟨b, o + k, none⟩) (show b < w1.heap.size by have := (hd1.below (B := wr.heap.size)).size; omega)).trans hc1
                have HS2 := Lib.hid ((HOW.out.drawn hd1).below hb2)
                go_wp2_with
                  (at_builtin
                   refine wp_append_texts rfl (.tmp 43) (.tmp 48) rfl w.heap.size (w2.heap.size + 1) g m cap 1 1 (nearL s (ss.take k)) [t] (some ⟨w2.heap.size, 0, none⟩) rfl (HS2.out.below ((Below.refl _ _).alloc (Nat.le_refl _) _)) rfl (Strs.one w2 t htz) (by simp; omega) (by omega) ?_
                   intro g2 cap2 w3 hown2 hg2 hat2)
                have hgl := HS2.out.lt.1
                have hb3 : Below w.heap.size w w3 := (hbb.alloc hzz _).grown hg2 (by simp; omega) (fun j hj => by injection hj with hj; omega)
                go_wp2_with fail
                go_roundw
                case rel => exact ⟨k + 1, g2, m + 1, cap2, by omega, by go_num, by rw [HI2.out], rfl, by rw [HN2.out]; exact hown2, hb3⟩
                case measure => simp [intOf]; omega
              · have hdd : ((d : Int) == bi) = false := by simp [heq]
                have HN2 := Lib.hid ((HNL.out.2 hneg).trans (if_neg heq))
                clear HIN HNL hneg
                go_wp2_with fail
                refine (listValid_spec (some ⟨b, o, none⟩) n c B ss wr hn2 hr).mono ?_
                rintro e w1 ⟨rfl, hd1⟩
                rw [HV.out]
                have hc1 := (HHC.out _ hd1).trans hc
                go_wp2_with fail
                refine (HW.out _ hs').mono ?_
                rintro e w' ⟨rfl, rfl⟩
                go_wp2_with fail
                refine (HD.out _).mono ?_
                rintro e w2 ⟨rfl, hb2⟩
                have hbb := below_step (below_step hbel (Nat.le_refl _) hd1.below) (Nat.le_refl _) hb2
                go_wp2_with fail
                go_roundw
                case rel => exact ⟨k + 1, g, m, cap, by omega, by go_num, by rw [HI2.out], rfl, by rw [HN2.out]; exact (HOW.out.drawn hd1).below hb2, hbb⟩
                case measure => simp [intOf]; omega
          · obtain rfl : k = n := by omega
            have HT := Lib.hid (show ss.take k = ss from List.take_of_length_le (by rw [HL.out]; omega))
            rw [HT.out] at hown ⊢
            have hm := hown.len
            go_wp2_with fail
            go_ret2
            exact ⟨g, cap, by rw [hm]; rfl, by rw [hm]; exact hown, hbel⟩
end Go.Proofs.Ytmolphaihapkkaa
