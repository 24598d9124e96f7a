/- The walks of the laws FnScanMore, FnJoinHits, over contracts. -/
import Derived.Test.YtmolphaihapkkaaLwScan
namespace Go.Proofs.Ytmolphaihapkkaa
open Go.RowKit
set_option maxHeartbeats 3200000
set_option maxRecDepth 8192
set_option linter.unusedSimpArgs false
set_option linter.unusedVariables false

theorem scanE_more {ss : List ByteArray} {s : ByteArray} {k : Int} (h0 : 0 ≤ k) (h3 : k ≤ 3) : (scanE ss s (k + 1)).take (scanE ss s k).length = scanE ss s k ∧ (scanE ss s k).length ≤ (scanE ss s (k + 1)).length := by
  have e1 : (decide (0 ≤ k) && decide (k ≤ 4)) = true := by simp; omega
  have e2 : (decide (0 ≤ k + 1) && decide (k + 1 ≤ 4)) = true := by simp; omega
  unfold scanE
  rw [e1, e2]
  cases hv : listB ss
  · simp
  · cases hw : wordB s.data.toList
    · simp
    · simp only [Bool.and_self, if_true]
      exact ⟨scan_more hv s k, scan_more_len hv s k⟩
theorem walkFnScanMore (HC : ScanC) (A : Option Addr) (n c : Nat) (w : World) (h : Bytes w w.heap.size A n) (hnc : n ≤ c) (hc : c ≤ maxLen) :
    Calls Try.prog 7 #[.slice A n c] w fun e w' => e = .returned (.bool true) ∧ Below w.heap.size w w' := by
  have HC := Lib.hid HC
  have hn : n ≤ maxLen := Nat.le_trans hnc hc
  unfold maxLen at hn
  by_cases hn2 : (1048576 : Int) < n
  · go_enter Try.func7, Try.ntmps7
    go_wp2_with fail
    go_ret
    exact ⟨rfl, Below.refl _ _⟩
  · go_enter Try.func7, Try.ntmps7
    go_wp2_with fail
    refine (drawScanWords_any _ _ _ _ h hnc hc).mono ?_
    clear h
    rintro e w1 ⟨g, m, cap, ss, s, k, rfl, own, hm, hsh, hs, hk0, hk1, B1⟩
    obtain ⟨hmc, hcm⟩ := own.caps
    have hlen := own.len
    have HS := own.strs
    have z1 := B1.size
    have hsm : s.size ≤ maxLen := by unfold maxLen; omega
    clear own
    go_wp2_with fail
    refine (HC.out _ m cap _ ss s k _ (by omega) hmc hcm HS (Nat.le_refl _) hsm (by unfold I64; omega)).mono ?_
    rintro e w2 ⟨A2, cap2, rfl, own2, hb2⟩
    have HS := HS.below hb2
    have B2 := below_step B1 (Nat.le_refl _) hb2
    have z2 := hb2.size
    have H := own2.recs
    have hl62 := scanE_len ss s k
    clear own2 hb2 B1
    go_wp2_with fail
    refine (scanWords_spec _ m cap _ ss s k _ (by omega) HS (by omega) hsm).mono ?_
    rintro e w3 ⟨g3, cap3, rfl, own3, hb3⟩
    have HS := HS.below (hb3.mono (by omega))
    have H := H.step hb3 (Nat.le_refl _)
    have B3 := below_step B2 (Nat.le_refl _) hb3
    have z3 := hb3.size
    have H3 := own3.recs
    clear own3 hb3 B2
    go_wp2_with fail
    refine (sameHits_same _ _ _ _ _ w3.heap.size (scanE ss s k) _ (by unfold maxLen; omega) (H.more z3) H3).mono ?_
    rintro e w4 ⟨rfl, hd4⟩
    have HS := HS.drawn hd4
    have H := H.drawn hd4
    have B4 := below_step B3 (Nat.le_refl _) hd4.below
    have z4 := (hd4.below (B := w3.heap.size)).size
    clear H3 hd4 B3
    cases hkk : (decide (0 ≤ k) && decide (k ≤ 4))
    · have CK := Lib.hid (errorsOk_is hkk)
      clear hkk
      go_wp2_with fail
      refine (CK.out _).mono ?_
      rintro e w' ⟨rfl, rfl⟩
      go_wp2_with fail
      refine (alive_any _).mono ?_
      rintro e w6 ⟨rfl, hd6⟩
      go_wp2_with fail
      go_ret
      exact ⟨rfl, below_step B4 (Nat.le_refl _) hd6.below⟩
    · have CK := Lib.hid (errorsOk_is hkk)
      have hk2 : 0 ≤ k ∧ k ≤ 4 := by simpa using hkk
      clear hkk
      by_cases h4 : k = 4
      · subst h4
        go_wp2_with fail
        refine (CK.out _).mono ?_
        rintro e w' ⟨rfl, rfl⟩
        go_wp2_with fail
        refine (alive_any _).mono ?_
        rintro e w6 ⟨rfl, hd6⟩
        go_wp2_with fail
        go_ret
        exact ⟨rfl, below_step B4 (Nat.le_refl _) hd6.below⟩
      · have hk4 : (k == 4) = false := by simp [h4]
        obtain ⟨hmore, hmle⟩ := scanE_more (ss := ss) (s := s) (k := k) (by omega) (by omega)
        have CM := Lib.hid (HC.out (some ⟨g, 0, none⟩) m cap w1.heap.size ss s (k + 1))
        have hlm := scanE_len ss s (k + 1)
        have hI : I64 (k + 1) := by unfold I64; omega
        have hwk := IntWalk.i64_in (k + 1) (by omega)
        generalize scanE ss s (k + 1) = more at hmore hmle CM hlm
        generalize scanE ss s k = l at H hl62 hmore hmle ⊢
        generalize l.length = L at H hl62 hmore hmle ⊢
        clear h4 hk2
        go_wp2_with fail
        refine (CK.out _).mono ?_
        rintro e w' ⟨rfl, rfl⟩
        go_wp2_with fail
        refine (CM.out _ (by omega) hmc hcm HS (by omega) hsm hI).mono ?_
        rintro e w5 ⟨A5, cap5, rfl, own5, hb5⟩
        have H := H.step hb5 (by omega)
        have B5 := below_step B4 (Nat.le_refl _) hb5
        have z5 := hb5.size
        have hH5 := own5.recs.head (k := L) hmle
        rw [hmore] at hH5
        obtain ⟨h5a, h5b⟩ := own5.capsH
        have HSH := Lib.hid own5.shape
        generalize more.length = M at hmle hlm h5a HSH ⊢
        have i0 : (0 : Int) ≤ (L : Int) := by omega
        have i1 : (L : Int) ≤ (M : Int) := by omega
        have i2 : (L : Int) ≤ (cap5 : Int) := by omega
        clear own5 hb5 B4 hmore CM
        rcases HSH.out with ⟨rfl, hM0, hc0⟩ | ⟨g5, rfl, _⟩
        · obtain rfl : L = 0 := by omega
          subst hM0 hc0
          go_wp2_with fail
          refine (sameHits_same none _ 0 _ _ w5.heap.size l _ (Nat.zero_le _) hH5 (H.more (by omega))).mono ?_
          rintro e w6 ⟨rfl, hd6⟩
          go_wp2_with fail
          go_ret
          exact ⟨rfl, below_step B5 (Nat.le_refl _) hd6.below⟩
        · go_wp2_with fail
          refine (sameHits_same _ _ L _ _ w5.heap.size l _ (by unfold maxLen; omega) hH5 (H.more (by omega))).mono ?_
          rintro e w6 ⟨rfl, hd6⟩
          go_wp2_with fail
          go_ret
          exact ⟨rfl, below_step B5 (Nat.le_refl _) hd6.below⟩
theorem joinE_nil {a b : List Hit} (h : (hitsB a && hitsB b) = false) : joinE a b = [] := by unfold joinE; rw [h]; rfl
theorem joinE_len {a b : List Hit} : (joinE a b).length ≤ a.length + b.length := by
  unfold joinE
  split
  · rename_i h
    simp only [Bool.and_eq_true] at h
    exact (join_len (hits_parts h.1).2 (hits_parts h.2).2).2
  · simp
theorem joinC_is (HC : JoinC) {a b l : List Hit} (hv : joinE a b = l) (A1 A2 : Option Addr) (n1 n2 c1 c2 B : Nat) (w : World) (h1 : n1 ≤ 1048576) (h2 : n2 ≤ 1048576) (h3 : n1 ≤ c1) (h4 : c1 ≤ maxLen) (h5 : n2 ≤ c2) (h6 : c2 ≤ maxLen) (ha : Hits w B A1 n1 a) (hb : Hits w B A2 n2 b) (hB : B ≤ w.heap.size) :
    Calls Try.prog 26 #[.slice A1 n1 c1, .slice A2 n2 c2] w (HitsOut l w) := hv ▸ HC A1 A2 n1 n2 c1 c2 B a b w h1 h2 h3 h4 h5 h6 ha hb hB
theorem walkFnJoinHits (HC : JoinC) (HV : HitsValidC) (A : Option Addr) (n c : Nat) (w : World) (h : Bytes w w.heap.size A n) (hnc : n ≤ c) (hc : c ≤ maxLen) :
    Calls Try.prog 5 #[.slice A n c] w fun e w' => e = .returned (.bool true) ∧ Below w.heap.size w w' := by
  have HC := Lib.hid HC
  have HV := Lib.hid HV
  have hn : n ≤ maxLen := Nat.le_trans hnc hc
  unfold maxLen at hn
  by_cases hn2 : (1048576 : Int) < n
  · go_enter Try.func5, Try.ntmps5
    go_wp2_with fail
    go_ret
    exact ⟨rfl, Below.refl _ _⟩
  · go_enter Try.func5, Try.ntmps5
    go_wp2_with fail
    refine (drawJoinHits_any _ _ _ _ h hnc hc).mono ?_
    clear h
    rintro e w1 ⟨A1, A2, n1, c1, n2, c2, a, b, rfl, H1, H2, hc1a, hc1b, hc2a, hc2b, hn1, hn2, -, -, B1⟩
    have z1 := B1.size
    have hl1 := H1.len
    have hl2 := H2.len
    have hjl := joinE_len (a := a) (b := b)
    have CJ := Lib.hid (joinC_is HC.out (a := a) (b := b) rfl)
    have CJ2 := Lib.hid (joinC_is HC.out (joinE_symm b a))
    have CS := Lib.hid (joinHits_spec A1 A2 n1 n2 c1 c2 w1.heap.size a b)
    have key : ((hitsB a && hitsB b) = true → hitsB (joinE a b) = true ∧ joinE (joinE a b) a = joinE a b ∧ a.length ≤ (joinE a b).length) ∧ ((hitsB a && hitsB b) = false → (joinE a b).length = 0) := by
      constructor
      · intro q
        have e : joinE a b = joinF a b := by unfold joinE; rw [q]; rfl
        simp only [Bool.and_eq_true] at q
        exact ⟨by rw [e]; exact join_hits q.1 q.2, joinE_again q.1 q.2, by rw [e]; exact (join_len (hits_parts q.1).2 (hits_parts q.2).2).1⟩
      · intro q; rw [joinE_nil q]; rfl
    have HK := Lib.hid key
    have HJ2 := Lib.hid (fun q => joinC_is HC.out (HK.out.1 q).2.1)
    clear key
    generalize joinE a b = l at hjl CJ CJ2 CS HK HJ2
    obtain ⟨L, hL⟩ : ∃ L, L = l.length := ⟨_, rfl⟩
    unfold HitsOut at CJ CJ2
    unfold HitsPost at CS
    rw [← hL] at CJ CJ2 CS hjl HK
    have HLL := Lib.hid hL
    clear hL
    go_wp2_with fail
    refine (CJ.out A1 A2 n1 n2 c1 c2 _ _ (by omega) (by omega) hc1a hc1b hc2a hc2b H1 H2 (Nat.le_refl _)).mono ?_
    rintro e w2 ⟨A3, cap3, rfl, own3, hb2⟩
    have H1 := H1.step hb2 (Nat.le_refl _)
    have H2 := H2.step hb2 (Nat.le_refl _)
    have B2 := below_step B1 (Nat.le_refl _) hb2
    have z2 := hb2.size
    obtain ⟨hc3a, hc3b⟩ := own3.capsH
    have H := own3.recs
    clear own3 hb2 B1
    go_wp2_with fail
    refine (CS.out _ (by omega) H1 H2 (by omega)).mono ?_
    rintro e w3 ⟨g4, cap4, rfl, own4, hb3⟩
    have H1 := H1.step hb3 (by omega)
    have H2 := H2.step hb3 (by omega)
    have H := H.step hb3 (Nat.le_refl _)
    have B3 := below_step B2 (Nat.le_refl _) hb3
    have z3 := hb3.size
    have H4 := own4.recs
    clear own4 hb3 B2
    go_wp2_with fail
    refine (sameHits_same _ _ L _ _ w3.heap.size l _ (by unfold maxLen; omega) (H.more z3) H4).mono ?_
    rintro e w4 ⟨rfl, hd4⟩
    have H1 := H1.drawn hd4
    have H2 := H2.drawn hd4
    have H := H.drawn hd4
    have B4 := below_step B3 (Nat.le_refl _) hd4.below
    have z4 := (hd4.below (B := w3.heap.size)).size
    clear H4 hd4 B3
    go_wp2_with fail
    refine (CJ2.out A2 A1 n2 n1 c2 c1 w1.heap.size _ (by omega) (by omega) hc2a hc2b hc1a hc1b H2 H1 (by omega)).mono ?_
    rintro e w5 ⟨A5, cap5, rfl, own5, hb5⟩
    have H1 := H1.step hb5 (by omega)
    have H2 := H2.step hb5 (by omega)
    have H := H.step hb5 (by omega)
    have B5 := below_step B4 (Nat.le_refl _) hb5
    have z5 := hb5.size
    have H5 := own5.recs
    clear own5 hb5 B4
    go_wp2_with fail
    refine (sameHits_same _ _ L _ _ w5.heap.size l _ (by unfold maxLen; omega) (H.more (by omega)) H5).mono ?_
    rintro e w6 ⟨rfl, hd6⟩
    have H1 := H1.drawn hd6
    have H2 := H2.drawn hd6
    have H := H.drawn hd6
    have B6 := below_step B5 (Nat.le_refl _) hd6.below
    have z6 := (hd6.below (B := w5.heap.size)).size
    clear H5 hd6 B5
    cases ha : hitsB a
    · have CA := Lib.hid (hitsValid_spec_is ha)
      have hL0 := HK.out.2 (by rw [ha]; rfl)
      subst hL0
      clear ha
      go_wp2_with fail
      refine (CA.out A1 n1 c1 w1.heap.size _ (by omega) H1 (by omega)).mono ?_
      rintro e w7 ⟨rfl, hb7⟩
      have B7 := below_step B6 (Nat.le_refl _) hb7
      go_wp2_with fail
      refine (alive_any _).mono ?_
      rintro e w8 ⟨rfl, hd8⟩
      go_wp2_with fail
      go_ret
      exact ⟨rfl, below_step B7 (Nat.le_refl _) hd8.below⟩
    · have CA := Lib.hid (hitsValid_spec_is ha)
      cases hb : hitsB b
      · have CB := Lib.hid (hitsValid_spec_is hb)
        have hL0 := HK.out.2 (by rw [ha, hb]; rfl)
        subst hL0
        clear ha hb
        go_wp2_with fail
        refine (CA.out A1 n1 c1 w1.heap.size _ (by omega) H1 (by omega)).mono ?_
        rintro e w7 ⟨rfl, hb7⟩
        have H2 := H2.step hb7 (by omega)
        have z7 := hb7.size
        have B7 := below_step B6 (Nat.le_refl _) hb7
        go_wp2_with fail
        refine (CB.out A2 n2 c2 w1.heap.size _ (by omega) H2 (by omega)).mono ?_
        rintro e w8 ⟨rfl, hb8⟩
        have B8 := below_step B7 (Nat.le_refl _) hb8
        go_wp2_with fail
        refine (alive_any _).mono ?_
        rintro e w9 ⟨rfl, hd9⟩
        go_wp2_with fail
        go_ret
        exact ⟨rfl, below_step B8 (Nat.le_refl _) hd9.below⟩
      · have CB := Lib.hid (hitsValid_spec_is hb)
        have hkk := HK.out.1 (by rw [ha, hb]; rfl)
        have CX := Lib.hid (hitsValidC_is HV.out hkk.1)
        have hgeN : n1 ≤ L := by have := hkk.2.2; omega
        have hge : (n1 : Int) ≤ (L : Int) := by omega
        have hle : (L : Int) ≤ (n1 : Int) + (n2 : Int) := by omega
        have hleN : L ≤ n1 + n2 := by omega
        have CJ3 := Lib.hid (HJ2.out (by rw [ha, hb]; rfl))
        unfold HitsOut at CJ3
        rw [← HLL.out] at CJ3
        have hwk := IntWalk.i64_in ((n1 : Int) + (n2 : Int)) (by omega)
        clear ha hb hkk HJ2 HK
        go_wp2_with fail
        refine (CA.out A1 n1 c1 w1.heap.size _ (by omega) H1 (by omega)).mono ?_
        rintro e w7 ⟨rfl, hb7⟩
        have H1 := H1.step hb7 (by omega)
        have H2 := H2.step hb7 (by omega)
        have H := H.step hb7 (by omega)
        have z7 := hb7.size
        have B7 := below_step B6 (Nat.le_refl _) hb7
        go_wp2_with fail
        refine (CB.out A2 n2 c2 w1.heap.size _ (by omega) H2 (by omega)).mono ?_
        rintro e w8 ⟨rfl, hb8⟩
        have H1 := H1.step hb8 (by omega)
        have H := H.step hb8 (by omega)
        have z8 := hb8.size
        have B8 := below_step B7 (Nat.le_refl _) hb8
        go_wp2_with fail
        refine (CX.out A3 L cap3 w2.heap.size _ (by omega) hc3a hc3b H (by omega)).mono ?_
        rintro e w9 ⟨rfl, hb9⟩
        have H1 := H1.step hb9 (by omega)
        have H := H.step hb9 (by omega)
        have z9 := hb9.size
        have B9 := below_step B8 (Nat.le_refl _) hb9
        go_wp2_with fail
        refine (CJ3.out A3 A1 L n1 cap3 c1 w2.heap.size _ (by omega) (by omega) hc3a hc3b hc1a hc1b H (H1.more z2) (by omega)).mono ?_
        rintro e w10 ⟨A10, cap10, rfl, own10, hb10⟩
        have H := H.step hb10 (by omega)
        have z10 := hb10.size
        have B10 := below_step B9 (Nat.le_refl _) hb10
        have H10 := own10.recs
        go_wp2_with fail
        refine (sameHits_same _ _ L _ _ w10.heap.size l _ (by unfold maxLen; omega) H10 (H.more (by omega))).mono ?_
        rintro e w11 ⟨rfl, hd11⟩
        go_wp2_with fail
        go_ret
        exact ⟨rfl, below_step B10 (Nat.le_refl _) hd11.below⟩
end Go.Proofs.Ytmolphaihapkkaa
