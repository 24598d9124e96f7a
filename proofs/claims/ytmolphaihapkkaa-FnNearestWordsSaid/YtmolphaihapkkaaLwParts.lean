/- The walks of the laws FnScanParts, FnNearestWords, over contracts. -/
import Derived.Test.YtmolphaihapkkaaLwMore
import Derived.Test.YtmolphaihapkkaaSame
namespace Go.Proofs.Ytmolphaihapkkaa
open Go.RowKit
set_option maxHeartbeats 3200000
set_option maxRecDepth 8192
set_option linter.unusedSimpArgs false
set_option linter.unusedVariables false

theorem scanE_parts {ss : List ByteArray} (hv : listB ss = true) (s : ByteArray) (k : Int) (h : Nat) : joinE (scanE (ss.take h) s k) (scanE (ss.drop h) s k) = scanE ss s k := by
  have hp := list_part hv h
  unfold scanE
  rw [hv, hp.1, hp.2]
  cases hw : (wordB s.data.toList && (decide (0 ≤ k) && decide (k ≤ 4)))
  · simp only [Bool.true_and, hw]
    simp [joinE, hitsB, ascHB, joinF]
  · simp only [Bool.true_and, hw, if_true]
    have hk : k ≤ 4 := by simp only [Bool.and_eq_true, decide_eq_true_eq] at hw; exact hw.2.2
    exact scan_parts hv hk hp.1 hp.2
theorem walkFnScanParts (HC : ScanC) (HJ : JoinC) (A : Option Addr) (n c : Nat) (w : World) (h : Bytes w w.heap.size A n) (hnc : n ≤ c) (hc : c ≤ maxLen) :
    Calls Try.prog 8 #[.slice A n c] w fun e w' => e = .returned (.bool true) ∧ Below w.heap.size w w' := by
  have HC := Lib.hid HC
  have HJ := Lib.hid HJ
  have hn : n ≤ maxLen := Nat.le_trans hnc hc
  unfold maxLen at hn
  by_cases hn2 : (1048576 : Int) < n
  · go_enter Try.func8, Try.ntmps8
    go_wp2_with fail
    go_ret
    exact ⟨rfl, Below.refl _ _⟩
  · go_enter Try.func8, Try.ntmps8
    go_wp2_with fail
    refine (drawScanWords_any _ _ _ _ h hnc hc).mono ?_
    clear h
    rintro e w1 ⟨g, m, cap, ss, s, k, rfl, own, hm, hsh, hs, hk0, hk1, B1⟩
    obtain ⟨hmc, hcm⟩ := own.caps
    have hlen := own.len
    have HS := own.strs
    have z1 := B1.size
    have hsm : s.size ≤ maxLen := by unfold maxLen; omega
    clear own
    go_wp2_with fail
    refine (HC.out _ m cap _ ss s k _ (by omega) hmc hcm HS (Nat.le_refl _) hsm (by unfold I64; omega)).mono ?_
    rintro e w2 ⟨A2, cap2, rfl, own2, hb2⟩
    have HS := HS.below hb2
    have B2 := below_step B1 (Nat.le_refl _) hb2
    have z2 := hb2.size
    have H := own2.recs
    have hl62 := scanE_len ss s k
    clear own2 hb2 B1
    go_wp2_with fail
    refine (scanWords_spec _ m cap _ ss s k _ (by omega) HS (by omega) hsm).mono ?_
    rintro e w3 ⟨g3, cap3, rfl, own3, hb3⟩
    have HS := HS.below (hb3.mono (by omega))
    have H := H.step hb3 (Nat.le_refl _)
    have B3 := below_step B2 (Nat.le_refl _) hb3
    have z3 := hb3.size
    have H3 := own3.recs
    clear own3 hb3 B2
    go_wp2_with fail
    refine (sameHits_same _ _ _ _ _ w3.heap.size (scanE ss s k) _ (by unfold maxLen; omega) (H.more z3) H3).mono ?_
    rintro e w4 ⟨rfl, hd4⟩
    have HS := HS.drawn hd4
    have H := H.drawn hd4
    have B4 := below_step B3 (Nat.le_refl _) hd4.below
    have z4 := (hd4.below (B := w3.heap.size)).size
    clear H3 hd4 B3
    cases hv : listB ss
    · have CV := Lib.hid (listValid_spec_v hv)
      clear hv
      go_wp2_with fail
      refine (CV.out _ m cap _ _ (by unfold maxLen; omega) HS).mono ?_
      rintro e w5 ⟨rfl, hd5⟩
      have B5 := below_step B4 (Nat.le_refl _) hd5.below
      go_wp2_with fail
      refine (alive_any _).mono ?_
      rintro e w6 ⟨rfl, hd6⟩
      go_wp2_with fail
      go_ret
      exact ⟨rfl, below_step B5 (Nat.le_refl _) hd6.below⟩
    · have CV := Lib.hid (listValid_spec_v hv)
      have htd : (m : Int).tdiv 2 = ((m / 2 : Nat) : Int) := rfl
      have hhf : m / 2 ≤ m := by omega
      have hdeg : cap = m / 2 → m = 0 ∧ cap = 0 := fun q => by omega
      generalize m / 2 = hf at htd hhf hdeg
      have HPT := Lib.hid (scanE_parts hv s k hf)
      have hwk := IntWalk.i64_in (hf : Int) (by omega)
      have hl1 := scanE_len (ss.take hf) s k
      have hl2 := scanE_len (ss.drop hf) s k
      rw [List.length_take] at hl1
      rw [List.length_drop] at hl2
      clear hv
      go_wp2_with fail
      refine (CV.out _ m cap _ _ (by unfold maxLen; omega) HS).mono ?_
      rintro e w5 ⟨rfl, hd5⟩
      have HS := HS.drawn hd5
      have H := H.drawn hd5
      have B5 := below_step B4 (Nat.le_refl _) hd5.below
      have z5 := (hd5.below (B := w4.heap.size)).size
      clear hd5 B4
      have HSH := Lib.hid (HS.head (k := hf) hhf)
      have HST := Lib.hid (HS.tail (k := hf) hhf)
      have CA := Lib.hid (HC.out (some ⟨g, 0, none⟩) hf cap w1.heap.size (ss.take hf) s k)
      have hI : I64 k := by unfold I64; omega
      have HSS := Lib.hid HS
      have hB5 : w1.heap.size ≤ w5.heap.size := by omega
      clear HS
      by_cases hce : cap = hf
      · obtain ⟨rfl, rfl⟩ := hdeg hce
        subst hce
        have CB := Lib.hid (HC.out (some ⟨g, 0, none⟩) 0 0 w1.heap.size (ss.drop 0) s k)
        have HT0 : Hid (Strs w5 w1.heap.size (some ⟨g, 0, none⟩) 0 (ss.drop 0)) := HST
        generalize scanE ss s k = l at H hl62 HPT ⊢
        generalize scanE (ss.take 0) s k = la at CA HPT hl1
        generalize scanE (ss.drop 0) s k = lb at CB HPT hl2
        obtain ⟨L, hL⟩ : ∃ L, L = l.length := ⟨_, rfl⟩
        rw [← hL] at H hl62 ⊢
        have CJ := Lib.hid (joinC_is HJ.out HPT.out)
        unfold HitsOut at CJ CA CB
        rw [← hL] at CJ
        clear hL HPT
        have HH := Lib.hid H
        clear H
        go_wp2_with fail
        go_region_held3 (fun _ => True) (trivial)
          (first
            | (go_at_call 18
               (with_reducible refine (CA.out _ (by omega) (by omega) hcm ?_ ?_ hsm hI).mono ?_)
               · first | exact HSH.out | exact HSH.out.drawn (Drawn.drew1 _)
               · first | omega | exact hB5
               rintro e w6 ⟨A6, cap6, rfl, own6, hb6⟩
               have hb6 : Below w5.heap.size w5 w6 := ⟨hb6.os, hb6.tape, hb6.output, hb6.size, hb6.block⟩
               have z6 := hb6.size
               have HT6 := HT0.out.below (hb6.mono hB5)
               obtain ⟨c6a, c6b⟩ := own6.capsH
               have R6 := own6.recs
               have hB6 : w1.heap.size ≤ w6.heap.size := by omega)
            | (go_at_call 18
               (with_reducible refine (CB.out w6 (by omega) (by omega) (by omega) HT6 hB6 hsm hI).mono ?_)
               rintro e w7 ⟨A7, cap7, rfl, own7, hb7⟩
               have z7 := hb7.size
               obtain ⟨c7a, c7b⟩ := own7.capsH
               have R7 := own7.recs
               have R6 := R6.step hb7 (Nat.le_refl _))
            | (go_at_call 26
               (with_reducible refine (CJ.out A6 A7 la.length lb.length cap6 cap7 w7.heap.size w7 (by omega) (by omega) c6a c6b c7a c7b (R6.more z7) R7 (Nat.le_refl _)).mono ?_)
               rintro e w8 ⟨A8, cap8, rfl, own8, hb8⟩
               have z8 := hb8.size
               have R8 := own8.recs
               have hb58 := below_step (below_step hb6 (Nat.le_refl _) hb7) (Nat.le_refl _) hb8
               have R2 := HH.out.step hb58 (by omega)
               have B8 := B5.trans (hb58.mono (by omega)))
            | (go_at_call 19
               (with_reducible refine (sameHits_same _ _ L _ _ w8.heap.size l _ (by unfold maxLen; omega) R8 (R2.more (by omega))).mono ?_)
               rintro e w9 ⟨rfl, hd9⟩
               have B9 := below_step B8 (Nat.le_refl _) hd9.below)
            | fail)
        all_goals
          go_wp2_with fail
          go_ret
          exact ⟨rfl, by first | exact B9 | exact B9.drew⟩
      · have CB := Lib.hid (HC.out (some ⟨g, 0 + hf, none⟩) (m - hf) (cap - hf) w1.heap.size (ss.drop hf) s k)
        rw [Nat.zero_add] at HST CB
        have i0 : (0 : Int) ≤ (hf : Int) := by omega
        have i1 : (hf : Int) ≤ (m : Int) := by omega
        have i2 : (hf : Int) ≤ (cap : Int) := by omega
        have i3 : hf ≤ cap := by omega
        clear hdeg
        generalize scanE ss s k = l at H hl62 HPT ⊢
        generalize scanE (ss.take hf) s k = la at CA HPT hl1
        generalize scanE (ss.drop hf) s k = lb at CB HPT hl2
        obtain ⟨L, hL⟩ : ∃ L, L = l.length := ⟨_, rfl⟩
        rw [← hL] at H hl62 ⊢
        have CJ := Lib.hid (joinC_is HJ.out HPT.out)
        unfold HitsOut at CJ CA CB
        rw [← hL] at CJ
        clear hL HPT
        have HH := Lib.hid H
        clear H
        go_wp2_with fail
        go_region_held3 (fun _ => True) (trivial)
          (first
            | (go_at_call 18
               (with_reducible refine (CA.out _ (by omega) (by omega) hcm ?_ ?_ hsm hI).mono ?_)
               · first | exact HSH.out | exact HSH.out.drawn (Drawn.drew1 _)
               · first | omega | exact hB5
               rintro e w6 ⟨A6, cap6, rfl, own6, hb6⟩
               have hb6 : Below w5.heap.size w5 w6 := ⟨hb6.os, hb6.tape, hb6.output, hb6.size, hb6.block⟩
               have z6 := hb6.size
               have HT6 := HST.out.below (hb6.mono hB5)
               obtain ⟨c6a, c6b⟩ := own6.capsH
               have R6 := own6.recs
               have hB6 : w1.heap.size ≤ w6.heap.size := by omega)
            | (go_at_call 18
               (with_reducible refine (CB.out w6 (by omega) (by omega) (by omega) HT6 hB6 hsm hI).mono ?_)
               rintro e w7 ⟨A7, cap7, rfl, own7, hb7⟩
               have z7 := hb7.size
               obtain ⟨c7a, c7b⟩ := own7.capsH
               have R7 := own7.recs
               have R6 := R6.step hb7 (Nat.le_refl _))
            | (go_at_call 26
               (with_reducible refine (CJ.out A6 A7 la.length lb.length cap6 cap7 w7.heap.size w7 (by omega) (by omega) c6a c6b c7a c7b (R6.more z7) R7 (Nat.le_refl _)).mono ?_)
               rintro e w8 ⟨A8, cap8, rfl, own8, hb8⟩
               have z8 := hb8.size
               have R8 := own8.recs
               have hb58 := below_step (below_step hb6 (Nat.le_refl _) hb7) (Nat.le_refl _) hb8
               have R2 := HH.out.step hb58 (by omega)
               have B8 := B5.trans (hb58.mono (by omega)))
            | (go_at_call 19
               (with_reducible refine (sameHits_same _ _ L _ _ w8.heap.size l _ (by unfold maxLen; omega) R8 (R2.more (by omega))).mono ?_)
               rintro e w9 ⟨rfl, hd9⟩
               have B9 := below_step B8 (Nat.le_refl _) hd9.below)
            | fail)
        all_goals
          go_wp2_with fail
          go_ret
          exact ⟨rfl, by first | exact B9 | exact B9.drew⟩
theorem filter_get {p : ByteArray → Bool} : ∀ (l : List ByteArray) (j : Nat) (x : ByteArray), l[j]? = some x → p x = true → (l.filter p)[((l.take j).filter p).length]? = some x
  | [], j, x, h, _ => by simp at h
  | a :: l, 0, x, h, hp => by
    simp at h; subst h
    simp [List.filter_cons, hp]
  | a :: l, j + 1, x, h, hp => by
    have h' : l[j]? = some x := by simpa using h
    have ih := filter_get l j x h' hp
    rw [List.take_succ_cons, List.filter_cons, List.filter_cons]
    cases ha : p a
    · simpa using ih
    · simpa using ih
theorem filter_len_next {p : ByteArray → Bool} {l : List ByteArray} {j : Nat} {x : ByteArray} (h : l[j]? = some x) : ((l.take (j + 1)).filter p).length = ((l.take j).filter p).length + (if p x = true then 1 else 0) := by
  rw [List.take_add_one, h, List.filter_append, List.length_append]
  cases hp : p x <;> simp [hp]
theorem near_neg {ss : List ByteArray} {s : ByteArray} (h : nearEI ss s < 0) : nearEI ss s = -1 ∧ nearEL ss s = [] := by
  unfold nearEI nearEL at *
  split at h
  · rename_i hv
    rw [if_pos hv, if_pos hv]
    have hf := near_facts s ss ss.length (Nat.le_refl _)
    rw [List.take_length] at hf
    rcases Nat.eq_zero_or_pos ss.length with h0 | h0
    · have := List.eq_nil_of_length_eq_zero h0
      subst this
      exact ⟨rfl, rfl⟩
    · have := (hf.2.1 h0).1; omega
  · rename_i hv
    rw [if_neg hv, if_neg hv]; exact ⟨rfl, rfl⟩
theorem near_pos {ss : List ByteArray} {s : ByteArray} (h : ¬ nearEI ss s < 0) : listB ss = true ∧ wordB s.data.toList = true ∧ nearEL ss s = ss.filter (fun w => decide ((ed false s.data.toList w.data.toList : Int) = nearEI ss s)) ∧ (∀ w ∈ ss, nearEI ss s ≤ (ed false s.data.toList w.data.toList : Int)) ∧ 0 < (nearEL ss s).length := by
  have hv : (listB ss && wordB s.data.toList) = true := by
    cases q : (listB ss && wordB s.data.toList)
    · unfold nearEI at h; rw [q] at h; exact absurd (show (-1 : Int) < 0 by omega) h
    · rfl
  have e1 : nearEI ss s = nearI s ss := by unfold nearEI; rw [if_pos hv]
  have e2 : nearEL ss s = nearL s ss := by unfold nearEL; rw [if_pos hv]
  have hf := near_facts s ss ss.length (Nat.le_refl _)
  rw [List.take_length] at hf
  rw [e1] at h ⊢
  rw [e2]
  simp only [Bool.and_eq_true] at hv
  refine ⟨hv.1, hv.2, rfl, hf.2.2, ?_⟩
  rcases Nat.eq_zero_or_pos ss.length with h0 | h0
  · exact absurd (by rw [hf.1 h0]; omega) h
  · obtain ⟨w, hw, he⟩ := (hf.2.1 h0).2
    exact List.length_pos_of_mem (List.mem_filter.2 ⟨hw, decide_eq_true he⟩)
theorem walkFnNearestWords (HC : NearC) (HE : EditC) (A : Option Addr) (n c : Nat) (w : World) (h : Bytes w w.heap.size A n) (hnc : n ≤ c) (hc : c ≤ maxLen) :
    Calls Try.prog 6 #[.slice A n c] w fun e w' => e = .returned (.bool true) ∧ Below w.heap.size w w' := by
  have HC := Lib.hid HC
  have HE := Lib.hid HE
  have hn : n ≤ maxLen := Nat.le_trans hnc hc
  unfold maxLen at hn
  by_cases hn2 : (1048576 : Int) < n
  · go_enter Try.func6, Try.ntmps6
    go_wp2_with fail
    go_ret
    exact ⟨rfl, Below.refl _ _⟩
  · go_enter Try.func6, Try.ntmps6
    go_wp2_with fail
    refine (drawNearestWords_any _ _ _ _ h hnc hc).mono ?_
    clear h
    rintro e w1 ⟨g, m, cap, ss, s, rfl, own, hm, hsh, hs, B1⟩
    obtain ⟨hmc, hcm⟩ := own.caps
    have hlen := own.len
    have HS := own.strs
    have z1 := B1.size
    have hsm : s.size ≤ maxLen := by unfold maxLen; omega
    have hxl : (nearEL ss s).length ≤ ss.length := by
      unfold nearEL
      split
      · exact List.length_filter_le _ _
      · simp
    have CN := Lib.hid (HC.out (some ⟨g, 0, none⟩) m cap w1.heap.size ss s)
    have CS := Lib.hid (nearestWords_spec (some ⟨g, 0, none⟩) m cap w1.heap.size ss s)
    have key : (nearEI ss s = -1 ∧ nearEL ss s = []) ∨ (¬ nearEI ss s < 0 ∧ listB ss = true ∧ wordB s.data.toList = true ∧ nearEL ss s = ss.filter (fun w => decide ((ed false s.data.toList w.data.toList : Int) = nearEI ss s)) ∧ (∀ w ∈ ss, nearEI ss s ≤ (ed false s.data.toList w.data.toList : Int)) ∧ 0 < (nearEL ss s).length) := by
      by_cases q : nearEI ss s < 0
      · exact .inl (near_neg q)
      · exact .inr ⟨q, near_pos q⟩
    generalize nearEI ss s = d at CN CS key
    generalize nearEL ss s = x at CN CS key hxl
    obtain ⟨X, hX⟩ : ∃ X, X = x.length := ⟨_, rfl⟩
    unfold NearOut at CN
    unfold NearPost at CS
    rw [← hX] at CN CS hxl key
    have hdd : (d != d) = false := by simp
    have HX := Lib.hid hX
    have HKEY := Lib.hid key
    clear own hX key
    go_wp2_with fail
    refine (CN.out _ (by omega) hmc hcm HS (Nat.le_refl _) hsm).mono ?_
    rintro e w2 ⟨A2, cap2, rfl, own2, hb2⟩
    have HS := HS.below hb2
    have B2 := below_step B1 (Nat.le_refl _) hb2
    have z2 := hb2.size
    have H := own2.recs
    clear own2 hb2 B1
    go_wp2_with fail
    refine (CS.out _ (by omega) HS (by omega) hsm).mono ?_
    rintro e w3 ⟨g3, cap3, rfl, own3, hb3⟩
    have HS := HS.below (hb3.mono (by omega))
    have H := H.below hb3
    have B3 := below_step B2 (Nat.le_refl _) hb3
    have z3 := hb3.size
    have H3 := own3.strs
    clear own3 hb3 B2
    go_wp2_with fail
    refine (sameTexts_any _ _ X _ X _ w3.heap.size x x _ (by unfold maxLen; omega) (by unfold maxLen; omega) (H.more z3) H3).mono ?_
    rintro e w4 ⟨rfl, hd4⟩
    rw [decide_eq_true (show x = x from rfl)]
    have HS := HS.drawn hd4
    have H := H.drawn hd4
    have B4 := below_step B3 (Nat.le_refl _) hd4.below
    have z4 := (hd4.below (B := w3.heap.size)).size
    clear H3 hd4 B3
    rcases HKEY.out with ⟨rfl, rfl⟩ | ⟨hd0, hv, hw, hxe, hmin, hpos⟩
    · have hX0 : X = 0 := HX.out
      subst hX0
      clear HKEY CN CS
      go_wp2_with fail
      refine (alive_any _).mono ?_
      rintro e w6 ⟨rfl, hd6⟩
      go_wp2_with fail
      go_ret
      exact ⟨rfl, below_step B4 (Nat.le_refl _) hd6.below⟩
    · have HMIN := Lib.hid hmin
      have HF := Lib.hid (list_filled hv).2
      have HW := Lib.hid hw
      have HXE := Lib.hid hxe
      have HFG := Lib.hid (fun j t (ht : ss[j]? = some t) => filter_get (p := fun w => decide ((ed false s.data.toList w.data.toList : Int) = d)) ss j t ht)
      have HFN := Lib.hid (fun j t (ht : ss[j]? = some t) => filter_len_next (p := fun w => decide ((ed false s.data.toList w.data.toList : Int) = d)) (l := ss) ht)
      have hTK : ss.take m = ss := List.take_of_length_le (by omega)
      have HEND := Lib.hid (show X = ((ss.take m).filter (fun w => decide ((ed false s.data.toList w.data.toList : Int) = d))).length by rw [HX.out, hTK]; exact congrArg List.length hxe)
      have HLEQ := Lib.hid (fun j => show ((ss.take j).filter (fun w => decide ((ed false s.data.toList w.data.toList : Int) = d))).length ≤ X by
        rw [HX.out, hxe]
        exact (List.Sublist.filter _ (List.take_sublist _ _)).length_le)
      clear hmin hv hw hxe hTK HKEY CN CS
      obtain ⟨f, hf⟩ : ∃ f : Nat → Nat, f = fun j => ((ss.take j).filter (fun w => decide ((ed false s.data.toList w.data.toList : Int) = d))).length := ⟨_, rfl⟩
      have HFN := Lib.hid (fun j t (ht : ss[j]? = some t) => show f (j + 1) = f j + (if (ed false s.data.toList t.data.toList : Int) = d then 1 else 0) by have q := HFN.out j t ht; simp only [decide_eq_true_eq] at q; rw [hf]; exact q)
      have HFG := Lib.hid (fun j t (ht : ss[j]? = some t) (hp : (ed false s.data.toList t.data.toList : Int) = d) => show x[f j]? = some t by rw [hf, HXE.out]; exact HFG.out j t ht (decide_eq_true hp))
      have HEND := Lib.hid (show X = f m by rw [hf]; exact HEND.out)
      have HLEQ := Lib.hid (fun j => show f j ≤ X by rw [hf]; exact HLEQ.out j)
      have HF0 := Lib.hid (show f 0 = 0 by rw [hf]; simp)
      clear hf HXE
      go_wp2_with fail
      go_loopw [9, 10] (fun v i wr => ∃ j : Nat, j ≤ m ∧ i = .int .i64 j ∧ v = .int .i64 (f j : Nat) ∧ Below w4.heap.size w4 wr) (fun _ i _ => m - (intOf i).toNat)
      case atStart => exact ⟨0, Nat.zero_le _, rfl, by rw [HF0.out]; rfl, Below.refl _ _⟩
      case round =>
        obtain ⟨j, hj, rfl, rfl, hbel⟩ := hrel
        have hfx := HLEQ.out j
        by_cases hlt : j < m
        · have HSr := HS.below (hbel.mono (by omega))
          have Hr := H.below (hbel.mono (by omega))
          obtain ⟨b, o, t, he, hbB, ht, htz, hcell⟩ := HSr.at_ hlt
          injection he with he
          injection he with e1 e2
          subst e1 e2
          rw [Nat.zero_add] at hcell
          have hwt := filled_word (HF.out t (List.mem_of_getElem? ht))
          have CE := Lib.hid (fun W => edit_words HE.out s t W hsm htz HW.out hwt)
          have hge := HMIN.out t (List.mem_of_getElem? ht)
          have hfn := HFN.out j t ht
          have hfg := HFG.out j t ht
          have hed := ed_most false s.data.toList t.data.toList
          have hs12 := word_size HW.out
          have ht12 := word_size hwt
          rw [len_eq, len_eq] at hed
          generalize ed false s.data.toList t.data.toList = q at CE hge hfn hfg hed
          have i0 : (0 : Int) ≤ (j : Int) := by omega
          have i1 : (j : Int) < (m : Int) := by omega
          have hzr := hbel.size
          have hqd : ¬ (q : Int) < d := by omega
          have hqd2 : decide ((q : Int) < d) = false := decide_eq_false hqd
          by_cases heq : (q : Int) = d
          · have hxj := hfg heq
            have hfj : f j < X := by rw [HX.out]; exact (List.getElem?_eq_some_iff.1 hxj).1
            obtain ⟨b2, o2, t2, rfl, hb2B, ht2, htz2, hcell2⟩ := Hr.at_ hfj
            rw [hxj] at ht2
            injection ht2 with ht2
            subst ht2
            have hqq : ((q : Int) == d) = true := by simp [heq]
            have hft0 : (0 : Int) ≤ (f j : Int) := by omega
            have hft1 : (f j : Int) < (X : Int) := by omega
            have hft2 : ¬ (X : Int) ≤ (f j : Int) := by omega
            have hft3 : decide ((X : Int) ≤ (f j : Int)) = false := decide_eq_false hft2
            have hft4 : ¬ X ≤ f j := by omega
            have hft5 : decide (X ≤ f j) = false := decide_eq_false hft4
            have hne : (t.toList != t.toList) = false := by simp
            have HFN2 := Lib.hid (hfn.trans (by rw [if_pos heq]))
            obtain ⟨F, hF⟩ : ∃ F, F = f j := ⟨_, rfl⟩
            rw [← hF] at hcell2 hft0 hft1 hft2 hft3 hft4 hft5 HFN2 hfx ⊢
            have hwF := IntWalk.i64_in ((F : Int) + 1) (by omega)
            clear hfn hfg heq hxj ht hwt hF hfj
            go_wp2_with fail
            refine (CE.out _).mono ?_
            rintro e w6 ⟨rfl, hb6⟩
            have hcell := (hb6.cell (p := ⟨g, j, none⟩) (by show g < wr.heap.size; omega)).trans hcell
            have hcell2 := (hb6.cell (p := ⟨b2, o2 + F, none⟩) (by show b2 < wr.heap.size; omega)).trans hcell2
            have hbel6 := below_step hbel (Nat.le_refl _) hb6
            clear hbel hb6 HSr Hr
            go_wp2_with fail
            go_quiet (fail)
            go_wp2_with fail
            go_roundw
            case rel => exact ⟨j + 1, by omega, by go_num, by rw [HFN2.out]; go_num, below_drewN hbel6 _⟩
            case measure => simp [intOf]; omega
          · have hqq : ((q : Int) == d) = false := by simp [heq]
            have HFN2 := Lib.hid (hfn.trans (by rw [if_neg heq, Nat.add_zero]))
            obtain ⟨F, hF⟩ : ∃ F, F = f j := ⟨_, rfl⟩
            rw [← hF] at HFN2 hfx ⊢
            clear hfn hfg heq ht hwt hF
            go_wp2_with fail
            refine (CE.out _).mono ?_
            rintro e w6 ⟨rfl, hb6⟩
            have hcell := (hb6.cell (p := ⟨g, j, none⟩) (by show g < wr.heap.size; omega)).trans hcell
            have hbel6 := below_step hbel (Nat.le_refl _) hb6
            clear hbel hb6 HSr Hr
            go_wp2_with fail
            go_quiet (fail)
            go_wp2_with fail
            go_roundw
            case rel => exact ⟨j + 1, by omega, by go_num, by rw [HFN2.out], below_drewN hbel6 _⟩
            case measure => simp [intOf]; omega
        · obtain rfl : j = m := by omega
          rw [← HEND.out]
          have hqq : ((X : Int) == (X : Int)) = true := by simp
          have hp1 : (0 : Int) < (X : Int) := by omega
          go_wp2_with fail
          go_ret
          exact ⟨rfl, below_step B4 (Nat.le_refl _) hbel⟩
end Go.Proofs.Ytmolphaihapkkaa
