/- The walk of the law FnScanWords, over contracts. -/
import Derived.Test.YtmolphaihapkkaaLwHits
import Derived.Test.YtmolphaihapkkaaDistFns
namespace Go.Proofs.Ytmolphaihapkkaa
open Go.RowKit
set_option maxHeartbeats 3200000
set_option maxRecDepth 8192
set_option linter.unusedSimpArgs false
set_option linter.unusedVariables false

theorem errorsOk_is {k : Int} {v : Bool} (hv : (decide (0 ≤ k) && decide (k ≤ 4)) = v) (w : World) : Calls Try.prog 23 #[.int .i64 k] w fun e w' => e = .returned (.bool v) ∧ w' = w := by
  by_cases h1 : 0 ≤ k
  · by_cases h2 : k ≤ 4
    · have h : v = true := by rw [← hv]; simp [h1, h2]
      rw [h]
      go_enter Try.func23, Try.ntmps23
      go_wp2_with fail
      go_ret
      exact ⟨rfl, rfl⟩
    · have h : v = false := by rw [← hv]; simp [h1, h2]
      rw [h]
      go_enter Try.func23, Try.ntmps23
      go_wp2_with fail
      go_ret
      exact ⟨rfl, rfl⟩
  · have h : v = false := by rw [← hv, decide_eq_false h1, Bool.false_and]
    rw [h]
    go_enter Try.func23, Try.ntmps23
    go_wp2_with fail
    go_ret
    exact ⟨rfl, rfl⟩
theorem edit_words (HE : EditC) (a b : ByteArray) (w : World) (ha : a.size ≤ maxLen) (hb : b.size ≤ maxLen) (h1 : wordB a.data.toList = true) (h2 : wordB b.data.toList = true) :
    Calls Try.prog 24 #[.string a, .string b] w fun e w' => e = .returned (.int .i64 (ed false a.data.toList b.data.toList : Int)) ∧ Below w.heap.size w w' := by
  have := HE a b w ha hb
  rwa [twoI_yes (by rw [h1, h2]; rfl)] at this
theorem listValid_spec_v {ss : List ByteArray} {v : Bool} (hv : listB ss = v) (A : Option Addr) (n c B : Nat) (w : World) (hn : n ≤ maxLen) (h : Strs w B A n ss) :
    Calls Try.prog 21 #[.slice A n c] w fun e w' => e = .returned (.bool v) ∧ Drawn w w' := hv ▸ listValid_spec A n c B ss w hn h

theorem walkFnScanWords (HC : ScanC) (HV : HitsValidC) (HE : EditC) (A : Option Addr) (n c : Nat) (w : World) (h : Bytes w w.heap.size A n) (hnc : n ≤ c) (hc : c ≤ maxLen) :
    Calls Try.prog 4 #[.slice A n c] w fun e w' => e = .returned (.bool true) ∧ Below w.heap.size w w' := by
  have HC := Lib.hid HC
  have HV := Lib.hid HV
  have HE := Lib.hid HE
  have hn : n ≤ maxLen := Nat.le_trans hnc hc
  unfold maxLen at hn
  by_cases hn2 : (1048576 : Int) < n
  · go_enter Try.func4, Try.ntmps4
    go_wp2_with fail
    go_ret
    exact ⟨rfl, Below.refl _ _⟩
  · go_enter Try.func4, Try.ntmps4
    go_wp2_with fail
    refine (drawScanWords_any _ _ _ _ h hnc hc).mono ?_
    clear h
    rintro e w1 ⟨g, m, cap, ss, s, k, rfl, own, hm, hsh, hs, hk0, hk1, B1⟩
    obtain ⟨hmc, hcm⟩ := own.caps
    have hlen := own.len
    have HS := own.strs
    have z1 := B1.size
    have hsm : s.size ≤ maxLen := by unfold maxLen; omega
    clear own
    go_wp2_with fail
    refine (HC.out _ m cap _ ss s k _ (by omega) hmc hcm HS (Nat.le_refl _) hsm (by unfold I64; omega)).mono ?_
    rintro e w2 ⟨A2, cap2, rfl, own2, hb2⟩
    have HS := HS.below hb2
    have B2 := below_step B1 (Nat.le_refl _) hb2
    have z2 := hb2.size
    obtain ⟨hc2a, hc2b⟩ := own2.capsH
    have H := own2.recs
    have hl62 := scanE_len ss s k
    clear own2 hb2 B1
    go_wp2_with fail
    refine (scanWords_spec _ m cap _ ss s k _ (by omega) HS (by omega) hsm).mono ?_
    rintro e w3 ⟨g3, cap3, rfl, own3, hb3⟩
    have HS := HS.below (hb3.mono (by omega))
    have H := H.step hb3 (Nat.le_refl _)
    have B3 := below_step B2 (Nat.le_refl _) hb3
    have z3 := hb3.size
    have H3 := own3.recs
    clear own3 hb3 B2
    go_wp2_with fail
    refine (sameHits_same _ _ _ _ _ w3.heap.size (scanE ss s k) _ (by unfold maxLen; omega) (H.more z3) H3).mono ?_
    rintro e w4 ⟨rfl, hd4⟩
    have HS := HS.drawn hd4
    have H := H.drawn hd4
    have B4 := below_step B3 (Nat.le_refl _) hd4.below
    have z4 := (hd4.below (B := w3.heap.size)).size
    clear H3 hd4 B3
    cases hv : listB ss
    · have hE : scanE ss s k = [] := by unfold scanE; rw [hv]; rfl
      have CV := Lib.hid (listValid_spec_v hv)
      rw [hE] at H hc2a ⊢
      clear hv hE
      go_wp2_with fail
      refine (CV.out _ m cap _ _ (by unfold maxLen; omega) HS).mono ?_
      rintro e w5 ⟨rfl, hd5⟩
      have B5 := below_step B4 (Nat.le_refl _) hd5.below
      go_wp2_with fail
      refine (alive_any _).mono ?_
      rintro e w6 ⟨rfl, hd6⟩
      go_wp2_with fail
      go_ret
      exact ⟨rfl, below_step B5 (Nat.le_refl _) hd6.below⟩
    · have CV := Lib.hid (listValid_spec_v hv)
      cases hw : wordB s.data.toList
      · have hE : scanE ss s k = [] := by unfold scanE; rw [hv, hw]; rfl
        have CW := Lib.hid (wordValid_spec_is hw)
        rw [hE] at H hc2a ⊢
        clear hv hE hw
        go_wp2_with fail
        refine (CV.out _ m cap _ _ (by unfold maxLen; omega) HS).mono ?_
        rintro e w5 ⟨rfl, hd5⟩
        have B5 := below_step B4 (Nat.le_refl _) hd5.below
        go_wp2_with fail
        refine (CW.out _ hsm).mono ?_
        rintro e w' ⟨rfl, rfl⟩
        go_wp2_with fail
        refine (alive_any _).mono ?_
        rintro e w6 ⟨rfl, hd6⟩
        go_wp2_with fail
        go_ret
        exact ⟨rfl, below_step B5 (Nat.le_refl _) hd6.below⟩
      · have CW := Lib.hid (wordValid_spec_is hw)
        cases hkk : (decide (0 ≤ k) && decide (k ≤ 4))
        · have hE : scanE ss s k = [] := by unfold scanE; rw [hv, hw, hkk]; rfl
          have CK := Lib.hid (errorsOk_is hkk)
          rw [hE] at H hc2a ⊢
          clear hv hE hw hkk
          go_wp2_with fail
          refine (CV.out _ m cap _ _ (by unfold maxLen; omega) HS).mono ?_
          rintro e w5 ⟨rfl, hd5⟩
          have B5 := below_step B4 (Nat.le_refl _) hd5.below
          go_wp2_with fail
          refine (CW.out _ hsm).mono ?_
          rintro e w' ⟨rfl, rfl⟩
          go_wp2_with fail
          refine (CK.out _).mono ?_
          rintro e w' ⟨rfl, rfl⟩
          go_wp2_with fail
          refine (alive_any _).mono ?_
          rintro e w6 ⟨rfl, hd6⟩
          go_wp2_with fail
          go_ret
          exact ⟨rfl, below_step B5 (Nat.le_refl _) hd6.below⟩
        · have hE : scanE ss s k = scanF s k ss := by unfold scanE; rw [hv, hw, hkk]; rfl
          have CK := Lib.hid (errorsOk_is hkk)
          have hk2 : 0 ≤ k ∧ k ≤ 4 := by simpa using hkk
          have CH := Lib.hid (hitsValidC_is HV.out (scan_hits hv s hk2.2))
          have HM := Lib.hid (scan_mem hv s k)
          have HF := Lib.hid (list_filled hv).2
          have HW := Lib.hid hw
          rw [hE] at H hc2a hl62 ⊢
          have HLN := Lib.hid H.len
          have HNX := Lib.hid (fun j t (ht : ss[j]? = some t) => scanF_next s k ss ht)
          have HLE := Lib.hid (scanF_len s k ss)
          have HTK := Lib.hid (show ss.take m = ss from List.take_of_length_le (by omega))
          have HFULL := Lib.hid (show scanF s k ss = scanF s k (ss.take m) by rw [HTK.out])
          generalize hll : scanF s k ss = l at H hc2a hl62 CH HM HLN HFULL ⊢
          clear hll
          obtain ⟨L, hL⟩ : ∃ L, L = l.length := ⟨_, rfl⟩
          rw [← hL] at H hc2a hl62 HLN ⊢
          have HL := Lib.hid hL
          clear hv hE hw hkk hL hk2
          go_wp2_with fail
          refine (CV.out _ m cap _ _ (by unfold maxLen; omega) HS).mono ?_
          rintro e w5 ⟨rfl, hd5⟩
          have HS := HS.drawn hd5
          have H := H.drawn hd5
          have B5 := below_step B4 (Nat.le_refl _) hd5.below
          have z5 := (hd5.below (B := w4.heap.size)).size
          clear hd5 B4
          go_wp2_with fail
          refine (CW.out _ hsm).mono ?_
          rintro e w' ⟨rfl, rfl⟩
          go_wp2_with fail
          refine (CK.out _).mono ?_
          rintro e w' ⟨rfl, rfl⟩
          go_wp2_with fail
          go_loopw [7, 8] (fun v i wr => ∃ j : Nat, j ≤ m ∧ i = .int .i64 j ∧ v = .int .i64 ((scanF s k (ss.take j)).length : Nat) ∧ Below w'.heap.size w' wr) (fun _ i _ => m - (intOf i).toNat)
          case atStart => exact ⟨0, Nat.zero_le _, rfl, by simp [scanF], Below.refl _ _⟩
          case round =>
            obtain ⟨j, hj, rfl, rfl, hbel⟩ := hrel
            by_cases hlt : j < m
            · have HSr := HS.below (hbel.mono (by omega))
              obtain ⟨b, o, t, he, hbB, ht, htz, hcell⟩ := HSr.at_ hlt
              injection he with he
              injection he with e1 e2
              subst e1 e2
              rw [Nat.zero_add] at hcell
              have hwt := filled_word (HF.out t (List.mem_of_getElem? ht))
              have CE := Lib.hid (fun W => edit_words HE.out s t W hsm htz HW.out hwt)
              have hmem : ((t, (ed false s.data.toList t.data.toList : Int)) ∈ l ↔ (ed false s.data.toList t.data.toList : Int) ≤ k) := by
                rw [HM.out]
                exact ⟨fun q => q.2.2, fun q => ⟨List.mem_of_getElem? ht, rfl, q⟩⟩
              have hnx := HNX.out j t ht
              have hle := HLE.out j
              have hed := ed_most false s.data.toList t.data.toList
              rw [len_eq, len_eq] at hed
              generalize ed false s.data.toList t.data.toList = d at CE hmem hnx hed
              generalize scanF s k (ss.take j) = lj at hnx hle ⊢
              have i0 : (0 : Int) ≤ (j : Int) := by omega
              have i1 : (j : Int) < (m : Int) := by omega
              have HMEM := Lib.hid hmem
              have HNX2 := Lib.hid hnx
              have hzr := hbel.size
              clear hmem hnx ht hwt
              obtain ⟨M, hM⟩ : ∃ M, M = lj.length := ⟨_, rfl⟩
              rw [← hM] at hle ⊢
              have HMM := Lib.hid hM
              clear hM
              go_wp2_with fail
              refine (CE.out _).mono ?_
              rintro e w6 ⟨rfl, hb6⟩
              have hcell := (hb6.cell (p := ⟨g, j, none⟩) (by show g < wr.heap.size; omega)).trans hcell
              have hbel6 := below_step hbel (Nat.le_refl _) hb6
              have Hr := (H.below (hbel6.mono (by omega)))
              clear hbel hb6 HSr
              have hz6 := hbel6.size
              go_wp2_with fail
              go_loopw [10, 11] (fun v i wx => ∃ p : Nat, p ≤ L ∧ i = .int .i64 p ∧ v = .bool (hasH (l.take p) (t, (d : Int))) ∧ Drawn w6 wx) (fun _ i _ => L - (intOf i).toNat)
              case atStart => exact ⟨0, Nat.zero_le _, rfl, by simp [hasH], Drawn.refl _⟩
              case round =>
                obtain ⟨p, hp, rfl, rfl, hdr⟩ := hrel
                by_cases hlp : p < L
                · obtain ⟨b2, o2, t2, y, rfl, hb2B, hdp, ht2, hy, e0, e1⟩ := hits_at (Hr.drawn hdr) hlp
                  have hcell2 := (hdr.cell _).trans hcell
                  have HX := Lib.hid (has_next (x := (t, (d : Int))) hdp)
                  have p0 : (0 : Int) ≤ (p : Int) := by omega
                  have p1 : (p : Int) < (L : Int) := by omega
                  clear hdp
                  cases hh : hasH (l.take p) (t, (d : Int))
                  · cases hst : (t2.toList == t.toList)
                    · have HX2 := Lib.hid (show hasH (l.take (p + 1)) (t, (d : Int)) = false by rw [HX.out, hh, Bool.false_or, decide_eq_false (fun e => by injection e with e1 _; rw [e1] at hst; simp at hst)])
                      clear HX hh
                      go_wp2_with fail
                      go_quiet (fail)
                      go_wp2_with fail
                      go_roundw
                      case rel => exact ⟨p + 1, by omega, by go_num, by rw [HX2.out], hdr.drewN _⟩
                      case measure => simp [intOf]; omega
                    · by_cases hxy : y = (d : Int)
                      · subst hxy
                        have hq2 : ((d : Int) == (d : Int)) = true := by simp
                        have HX2 := Lib.hid (show hasH (l.take (p + 1)) (t, (d : Int)) = true by rw [HX.out, decide_eq_true (by rw [str_beq, decide_eq_true_eq] at hst; rw [hst]), Bool.or_true])
                        clear HX hh
                        go_wp2_with fail
                        go_quiet (fail)
                        go_wp2_with fail
                        go_roundw
                        case rel => exact ⟨p + 1, by omega, by go_num, by rw [HX2.out], hdr.drewN _⟩
                        case measure => simp [intOf]; omega
                      · have hq2 : (y == (d : Int)) = false := by simp [hxy]
                        have HX2 := Lib.hid (show hasH (l.take (p + 1)) (t, (d : Int)) = false by rw [HX.out, hh, Bool.false_or, decide_eq_false (fun e => by injection e with _ e2; exact hxy e2)])
                        clear HX hh hxy
                        go_wp2_with fail
                        go_quiet (fail)
                        go_wp2_with fail
                        go_roundw
                        case rel => exact ⟨p + 1, by omega, by go_num, by rw [HX2.out], hdr.drewN _⟩
                        case measure => simp [intOf]; omega
                  · have HX2 := Lib.hid (show hasH (l.take (p + 1)) (t, (d : Int)) = true by rw [HX.out, hh, Bool.true_or])
                    clear HX hh
                    go_wp2_with fail
                    go_quiet (fail)
                    go_wp2_with fail
                    go_roundw
                    case rel => exact ⟨p + 1, by omega, by go_num, by rw [HX2.out], hdr.drewN _⟩
                    case measure => simp [intOf]; omega
                · obtain rfl : p = L := by omega
                  rw [show l.take p = l from List.take_of_length_le (by rw [← HL.out]; exact Nat.le_refl _)]
                  have hbx := below_step hbel6 (Nat.le_refl _) hdr.below
                  by_cases hdk : (d : Int) ≤ k
                  · have hh : hasH l (t, (d : Int)) = true := hasH_iff.2 (HMEM.out.2 hdk)
                    have HN3 := Lib.hid (HNX2.out.trans (if_pos hdk))
                    rw [hh]
                    clear hh
                    go_wp2_with fail
                    go_roundw
                    case rel => exact ⟨j + 1, by omega, by go_num, by rw [HN3.out, insH_len, ← HMM.out]; go_num, hbx⟩
                    case measure => simp [intOf]; omega
                  · have hh : hasH l (t, (d : Int)) = false := by
                      cases q : hasH l (t, (d : Int))
                      · rfl
                      · exact absurd (HMEM.out.1 (hasH_iff.1 q)) hdk
                    have HN3 := Lib.hid (HNX2.out.trans (if_neg hdk))
                    rw [hh]
                    clear hh
                    go_wp2_with fail
                    go_roundw
                    case rel => exact ⟨j + 1, by omega, by go_num, by rw [HN3.out, ← HMM.out], hbx⟩
                    case measure => simp [intOf]; omega
            · obtain rfl : j = m := by omega
              rw [← HFULL.out, ← HL.out]
              have hqq : ((L : Int) == (L : Int)) = true := by simp
              have Hr := H.below (hbel.mono (by omega))
              have hzr := hbel.size
              have Br := below_step B5 (Nat.le_refl _) hbel
              go_wp2_with fail
              refine (CH.out _ L cap2 _ _ (by omega) hc2a hc2b Hr (by omega)).mono ?_
              rintro e w7 ⟨rfl, hb7⟩
              go_wp2_with fail
              go_ret
              exact ⟨rfl, below_step Br (Nat.le_refl _) hb7⟩
end Go.Proofs.Ytmolphaihapkkaa
