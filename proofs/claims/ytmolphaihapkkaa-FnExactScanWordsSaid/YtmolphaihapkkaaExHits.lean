/- The walks of the exact laws of chapter 7, over contracts of the program (written by wip/tools/genexact2.py). -/
import Derived.Test.YtmolphaihapkkaaLwMore
import Derived.Test.YtmolphaihapkkaaOwnTx
namespace Go.Proofs.Ytmolphaihapkkaa
open Go.RowKit
set_option maxHeartbeats 1600000
set_option maxRecDepth 8192
set_option linter.unusedSimpArgs false
set_option linter.unusedVariables false


theorem walkFnExactHitsValid (HC : HitsValidC) (A0 : Option Addr) (n0 c0 : Nat) (d0 : List Hit) (w : World) (hn0 : n0 ≤ maxLen) (ha0 : Recs hitL w w.heap.size A0 n0 d0) :
    Calls Try.prog 9 #[.slice A0 n0 c0] w fun e w' => e = .returned (.bool true) ∧ Below w.heap.size w w' := by
  have HC := Lib.hid HC
  have hn0' := hn0
  unfold maxLen at hn0
  have CS := Lib.hid (fun A n c B W => hitsValid_spec A n c B d0 W)
  have CI := Lib.hid (fun A n c B W => HC.out A n c B d0 W)
  generalize hitsB d0 = v0 at CS CI
  have hq0 : (v0 != v0) = false := by simp
  have hl0 := ha0.len
  go_enter Try.func9, Try.ntmps9
  go_wp2_with fail
  have Bz : Below w.heap.size w w := Below.refl _ _
  go_wp2_with fail
  refine (szHitS_any _ _ _ w.heap.size d0 _ _ hn0' ha0 (by omega) (by omega) (by omega)).mono ?_
  rintro e w0 ⟨r0, rfl, hr0, hrk0, hb⟩
  have ha0 := ha0.below (hb.mono (by omega))
  have B0 := below_step Bz (Nat.le_refl _) hb
  have z0 := hb.size
  clear Bz hb
  by_cases hneg0 : r0 < 0
  · clear hr0
    go_wp2_with fail
    go_ret
    exact ⟨rfl, B0⟩
  · have hs0 := hr0 (by omega)
    have hm0 : n0 ≤ 1048576 := by omega
    clear hr0
    have hs0 := Lib.hid hs0
    have hneg0 := Lib.hid hneg0
    go_wp2_with fail
    refine (toHitS_any _ _ _ w.heap.size d0 _ hm0 ha0 (by omega)).mono ?_
    rintro e w1 ⟨ga0, rfl, oa0, hb⟩
    have ha0 := ha0.below (hb.mono (by omega))
    have B1 := below_step B0 (Nat.le_refl _) hb
    have z1 := hb.size
    clear B0 hb
    have bla0 := oa0.blockAt rfl
    have cpa0 := oa0.caps'
    have H0 := oa0.recs
    go_wp2_with fail
    refine (CS.out (some ⟨ga0, 0, none⟩) n0 n0 _ _ hm0 H0 (Nat.le_refl _)).mono ?_
    rintro e w2 ⟨rfl, hb⟩
    have ha0 := ha0.below (hb.mono (by omega))
    have oa0 := oa0.below hb
    have B2 := below_step B1 (Nat.le_refl _) hb
    have z2 := hb.size
    clear B1 hb
    clear H0 oa0 bla0 cpa0
    go_wp2_with fail
    refine (toHitS_any _ _ _ w.heap.size d0 _ hm0 ha0 (by omega)).mono ?_
    rintro e w3 ⟨gx0, rfl, ox0, hb⟩
    have ha0 := ha0.below (hb.mono (by omega))
    have B3 := below_step B2 (Nat.le_refl _) hb
    have z3 := hb.size
    clear B2 hb
    have blx0 := ox0.blockAt rfl
    have cpx0 := ox0.caps'
    have H0 := ox0.recs
    go_wp2_with fail
    refine (CI.out (some ⟨gx0, 0, none⟩) n0 n0 _ _ hm0 cpx0.1 cpx0.2 H0 (Nat.le_refl _)).mono ?_
    rintro e w4 ⟨rfl, hb⟩
    have ha0 := ha0.below (hb.mono (by omega))
    have ox0 := ox0.below hb
    have B4 := below_step B3 (Nat.le_refl _) hb
    have z4 := hb.size
    clear B3 hb
    clear H0
    go_wp2_with fail
    refine (toHitS_any _ _ _ w.heap.size d0 _ hm0 ha0 (by omega)).mono ?_
    rintro e w5 ⟨gy0, rfl, oy0, hb⟩
    have ha0 := ha0.below (hb.mono (by omega))
    have ox0 := ox0.below hb
    have B5 := below_step B4 (Nat.le_refl _) hb
    have z5 := hb.size
    clear B4 hb
    have bly0 := oy0.blockAt rfl
    have cpy0 := oy0.caps'
    have H1 := ox0.recs
    have H2 := oy0.recs
    go_wp2_with fail
    refine (eqHitS_same _ _ n0 _ _ w5.heap.size d0 _ hn0' H1 H2 (Nat.le_refl _)).mono ?_
    rintro e w6 ⟨rfl, hb⟩
    have ha0 := ha0.below (hb.mono (by omega))
    have ox0 := ox0.below hb
    have oy0 := oy0.below hb
    have B6 := below_step B5 (Nat.le_refl _) hb
    have z6 := hb.size
    clear B5 hb
    clear H1 H2
    clear oy0 bly0 cpy0
    go_wp2_with fail
    go_ret
    exact ⟨rfl, B6⟩
theorem walkFnExactScanWords (HC : ScanC) (A0 : Option Addr) (n0 c0 : Nat) (d0 : List ByteArray) (s : ByteArray) (m : Int) (w : World) (ha0 : Strs w w.heap.size A0 n0 d0) (hn0 : n0 ≤ maxLen) (hs : s.size ≤ maxLen) (hm : I64 m) :
    Calls Try.prog 10 #[.slice A0 n0 c0, .string s, .int .i64 m] w fun e w' => e = .returned (.bool true) ∧ Below w.heap.size w w' := by
  have HC := Lib.hid HC
  have hn0' := hn0
  have hs' := hs
  unfold maxLen at hn0 hs
  have CS := Lib.hid (fun A n c B W => scanWords_spec A n c B d0 s m W)
  have CI := Lib.hid (fun A n c B W => HC.out A n c B d0 s m W)
  have hlen : (scanE d0 s m).length ≤ d0.length := scanE_len d0 s m
  generalize scanE d0 s m = l at CS CI hlen
  obtain ⟨L, hL⟩ : ∃ L, L = l.length := ⟨_, rfl⟩
  unfold HitsPost at CS
  unfold HitsOut at CI
  rw [← hL] at CS CI hlen
  clear hL
  have hl0 := ha0.len'
  by_cases q0 : (1048576 : Int) < s.size
  · go_enter Try.func10, Try.ntmps10
    go_wp2_with fail
    go_ret
    exact ⟨rfl, Below.refl _ _⟩
  · have q0' := q0
    go_enter Try.func10, Try.ntmps10
    go_wp2_with fail
    have Bz : Below w.heap.size w w := Below.refl _ _
    go_wp2_with fail
    refine (szStringS_any _ _ _ w.heap.size d0 _ _ hn0' ha0 (by omega) (by omega)).mono ?_
    rintro e w' ⟨r0, rfl, rfl, hr0⟩
    by_cases hneg0 : r0 < 0
    · clear hr0
      go_wp2_with fail
      go_ret
      exact ⟨rfl, Bz⟩
    · have hs0 := hr0 (by omega)
      have hm0 : n0 ≤ 1048576 := by omega
      clear hr0
      have hL1 : L ≤ 1048576 := by omega
      have hLm : L ≤ maxLen := by unfold maxLen; omega
      have hs0 := Lib.hid hs0
      have hneg0 := Lib.hid hneg0
      go_wp2_with fail
      refine (toTexts_any _ _ _ w.heap.size d0 _ hm0 ha0 (by omega)).mono ?_
      rintro e w0 ⟨ga0, ka0, rfl, oa0, hb⟩
      have ha0 := ha0.below (hb.mono (by omega))
      have B0 := below_step Bz (Nat.le_refl _) hb
      have z0 := hb.size
      clear Bz hb
      have bla0 := oa0.blockAt rfl
      have cpa0 := oa0.caps'
      have H0 := oa0.recs
      go_wp2_with fail
      refine (CS.out (some ⟨ga0, 0, none⟩) n0 ka0 _ _ hm0 H0 (Nat.le_refl _) hs').mono ?_
      rintro e w1 ⟨gw, cw, rfl, ow, hb⟩
      have ha0 := ha0.below (hb.mono (by omega))
      have oa0 := oa0.below hb
      have B1 := below_step B0 (Nat.le_refl _) hb
      have z1 := hb.size
      clear B0 hb
      have hw := ow.recs
      clear ow
      clear H0 oa0 bla0 cpa0
      go_wp2_with fail
      refine (toTexts_any _ _ _ w.heap.size d0 _ hm0 ha0 (by omega)).mono ?_
      rintro e w2 ⟨gx0, kx0, rfl, ox0, hb⟩
      have ha0 := ha0.below (hb.mono (by omega))
      have hw := hw.below (hb.mono (by omega))
      have B2 := below_step B1 (Nat.le_refl _) hb
      have z2 := hb.size
      clear B1 hb
      have blx0 := ox0.blockAt rfl
      have cpx0 := ox0.caps'
      have H0 := ox0.recs
      go_wp2_with fail
      refine (CI.out (some ⟨gx0, 0, none⟩) n0 kx0 _ _ hm0 cpx0.1 cpx0.2 H0 (Nat.le_refl _) hs' hm).mono ?_
      rintro e w3 ⟨Ag, cg, rfl, og, hb⟩
      have ha0 := ha0.below (hb.mono (by omega))
      have hw := hw.below (hb.mono (by omega))
      have ox0 := ox0.below hb
      have B3 := below_step B2 (Nat.le_refl _) hb
      have z3 := hb.size
      clear B2 hb
      clear H0
      have H1 := og.recs
      go_wp2_with fail
      refine (eqHitS_same _ _ L _ _ w3.heap.size l _ hLm H1 (hw.more (by omega)) (Nat.le_refl _)).mono ?_
      rintro e w4 ⟨rfl, hb⟩
      have ha0 := ha0.below (hb.mono (by omega))
      have hw := hw.below (hb.mono (by omega))
      have ox0 := ox0.below hb
      have og := og.below hb
      have B4 := below_step B3 (Nat.le_refl _) hb
      have z4 := hb.size
      clear B3 hb
      clear H1
      go_wp2_with fail
      refine (toTexts_any _ _ _ w.heap.size d0 _ hm0 ha0 (by omega)).mono ?_
      rintro e w5 ⟨gy0, ky0, rfl, oy0, hb⟩
      have ha0 := ha0.below (hb.mono (by omega))
      have hw := hw.below (hb.mono (by omega))
      have ox0 := ox0.below hb
      have og := og.below hb
      have B5 := below_step B4 (Nat.le_refl _) hb
      have z5 := hb.size
      clear B4 hb
      have bly0 := oy0.blockAt rfl
      have cpy0 := oy0.caps'
      have H1 := ox0.recs
      have H2 := oy0.recs
      go_wp2_with fail
      refine (eqTexts_same _ _ n0 _ _ w5.heap.size d0 _ hn0' H1 H2 (Nat.le_refl _)).mono ?_
      rintro e w6 ⟨rfl, hb⟩
      have ha0 := ha0.below (hb.mono (by omega))
      have hw := hw.below (hb.mono (by omega))
      have ox0 := ox0.below hb
      have og := og.below hb
      have oy0 := oy0.below hb
      have B6 := below_step B5 (Nat.le_refl _) hb
      have z6 := hb.size
      clear B5 hb
      clear H1 H2
      clear oy0 bly0 cpy0
      go_wp2_with fail
      refine (markTexts_any _ _ _ _ _ _ 1 ox0 (by omega) (by omega) (by omega)).mono ?_
      rintro e w7 ⟨rfl, -, hg⟩
      replace hg : w6.grownBy w7 (some gx0) := hg
      have ha0 := ha0.below (Below.grown (Below.refl w.heap.size w6) hg (by omega) (by intro k hk; injection hk with hk; omega))
      have hw := hw.below (Below.grown (Below.refl w1.heap.size w6) hg (by omega) (by intro k hk; injection hk with hk; omega))
      have og := og.grown hg (fun hk => by have := (og.blockAt hk).1; omega)
      have B7 : Below w.heap.size w w7 := B6.grown hg B6.size (by intro k hk; injection hk with hk; omega)
      have z7 := hg.size
      clear hg ox0 B6
      have H1 := og.recs
      go_wp2_with fail
      refine (eqHitS_same _ _ L _ _ w7.heap.size l _ hLm H1 (hw.more (by omega)) (Nat.le_refl _)).mono ?_
      rintro e w8 ⟨rfl, hb⟩
      have ha0 := ha0.below (hb.mono (by omega))
      have hw := hw.below (hb.mono (by omega))
      have og := og.below hb
      have B8 := below_step B7 (Nat.le_refl _) hb
      have z8 := hb.size
      clear B7 hb
      clear H1
      go_wp2_with fail
      refine (markHitS_any w2.heap.size _ _ _ _ _ 1 og (by omega) (by omega) (by omega)).mono ?_
      rintro e w9 ⟨rfl, om, hg⟩
      have hrow : ∀ k, (Value.slice Ag L cg).ownBlock = some k → w2.heap.size ≤ k := fun k hk => (og.blockAt hk).1
      have ha0 := ha0.below (Below.grown (Below.refl w.heap.size w8) hg (by omega) (fun k hk => by have := hrow k hk; omega))
      have hw := hw.below (Below.grown (Below.refl w1.heap.size w8) hg (by omega) (fun k hk => by have := hrow k hk; omega))
      have B9 : Below w.heap.size w w9 := B8.grown hg B8.size (fun k hk => by have := hrow k hk; omega)
      have z9 := hg.size
      clear hg og B8 hrow
      have H1 := om.recs
      go_wp2_with fail
      refine (heldHitS_any _ _ _ _ 1 H1 (by omega) (by omega)).mono ?_
      rintro e w10 ⟨rfl, hb⟩
      have ha0 := ha0.below (hb.mono (by omega))
      have hw := hw.below (hb.mono (by omega))
      have om := om.below hb
      have B10 := below_step B9 (Nat.le_refl _) hb
      have z10 := hb.size
      clear B9 hb
      clear H1
      go_wp2_with fail
      refine (toTexts_any _ _ _ w.heap.size d0 _ hm0 ha0 (by omega)).mono ?_
      rintro e w11 ⟨gu0, ku0, rfl, ou0, hb⟩
      have ha0 := ha0.below (hb.mono (by omega))
      have hw := hw.below (hb.mono (by omega))
      have om := om.below hb
      have B11 := below_step B10 (Nat.le_refl _) hb
      have z11 := hb.size
      clear B10 hb
      have blu0 := ou0.blockAt rfl
      have cpu0 := ou0.caps'
      clear ha0
      have H0 := ou0.recs
      clear ou0
      go_wp2_with fail
      refine (CI.out (some ⟨gu0, 0, none⟩) n0 ku0 _ _ hm0 cpu0.1 cpu0.2 H0 (Nat.le_refl _) hs' hm).mono ?_
      rintro e w12 ⟨Ah, ch, rfl, oh, hb⟩
      have hw := hw.below (hb.mono (by omega))
      have om := om.below hb
      have B12 := below_step B11 (Nat.le_refl _) hb
      have z12 := hb.size
      clear B11 hb
      clear H0
      have H1 := oh.recs
      clear oh
      go_wp2_with fail
      refine (eqHitS_same _ _ L _ _ w12.heap.size l _ hLm H1 (hw.more (by omega)) (Nat.le_refl _)).mono ?_
      rintro e w13 ⟨rfl, hb⟩
      have hw := hw.below (hb.mono (by omega))
      have om := om.below hb
      have B13 := below_step B12 (Nat.le_refl _) hb
      have z13 := hb.size
      clear B12 hb
      clear H1
      clear hw
      have H1 := om.recs
      go_wp2_with fail
      refine (heldHitS_any _ _ _ _ 1 H1 (by omega) (by omega)).mono ?_
      rintro e w14 ⟨rfl, hb⟩
      have om := om.below hb
      have B14 := below_step B13 (Nat.le_refl _) hb
      have z14 := hb.size
      clear B13 hb
      clear H1
      go_wp2_with fail
      go_ret
      exact ⟨rfl, B14⟩
theorem walkFnExactJoinHits (HC : JoinC) (A0 : Option Addr) (n0 c0 : Nat) (d0 : List Hit) (A1 : Option Addr) (n1 c1 : Nat) (d1 : List Hit) (w : World) (hn0 : n0 ≤ maxLen) (ha0 : Recs hitL w w.heap.size A0 n0 d0) (hn1 : n1 ≤ maxLen) (ha1 : Recs hitL w w.heap.size A1 n1 d1) :
    Calls Try.prog 11 #[.slice A0 n0 c0, .slice A1 n1 c1] w fun e w' => e = .returned (.bool true) ∧ Below w.heap.size w w' := by
  have HC := Lib.hid HC
  have hn0' := hn0
  have hn1' := hn1
  unfold maxLen at hn0 hn1
  have CS := Lib.hid (fun A1 A2 n1 n2 c1 c2 B W => joinHits_spec A1 A2 n1 n2 c1 c2 B d0 d1 W)
  have CI := Lib.hid (fun A1 A2 n1 n2 c1 c2 B W => HC.out A1 A2 n1 n2 c1 c2 B d0 d1 W)
  have hlen : (joinE d0 d1).length ≤ d0.length + d1.length := joinE_len
  generalize joinE d0 d1 = l at CS CI hlen
  obtain ⟨L, hL⟩ : ∃ L, L = l.length := ⟨_, rfl⟩
  unfold HitsPost at CS
  unfold HitsOut at CI
  rw [← hL] at CS CI hlen
  clear hL
  have hl0 := ha0.len
  have hl1 := ha1.len
  go_enter Try.func11, Try.ntmps11
  go_wp2_with fail
  have Bz : Below w.heap.size w w := Below.refl _ _
  go_wp2_with fail
  refine (szHitS_any _ _ _ w.heap.size d0 _ _ hn0' ha0 (by omega) (by omega) (by omega)).mono ?_
  rintro e w0 ⟨r0, rfl, hr0, hrk0, hb⟩
  have ha0 := ha0.below (hb.mono (by omega))
  have ha1 := ha1.below (hb.mono (by omega))
  have B0 := below_step Bz (Nat.le_refl _) hb
  have z0 := hb.size
  clear Bz hb
  by_cases hneg0 : r0 < 0
  · clear hr0
    go_wp2_with fail
    go_ret
    exact ⟨rfl, B0⟩
  · have hs0 := hr0 (by omega)
    have hm0 : n0 ≤ 1048576 := by omega
    clear hr0
    go_wp2_with fail
    refine (szHitS_any _ _ _ w.heap.size d1 _ _ hn1' ha1 (by omega) (by omega) (by omega)).mono ?_
    rintro e w1 ⟨r1, rfl, hr1, hrk1, hb⟩
    have ha0 := ha0.below (hb.mono (by omega))
    have ha1 := ha1.below (hb.mono (by omega))
    have B1 := below_step B0 (Nat.le_refl _) hb
    have z1 := hb.size
    clear B0 hb
    by_cases hneg1 : r1 < 0
    · clear hr1
      go_wp2_with fail
      go_ret
      exact ⟨rfl, B1⟩
    · have hs1 := hr1 (by omega)
      have hm1 : n1 ≤ 1048576 := by omega
      clear hr1
      have hL1 : L ≤ 1048576 := by omega
      have hLm : L ≤ maxLen := by unfold maxLen; omega
      have hs0 := Lib.hid hs0
      have hs1 := Lib.hid hs1
      have hneg0 := Lib.hid hneg0
      have hneg1 := Lib.hid hneg1
      go_wp2_with fail
      refine (toHitS_any _ _ _ w.heap.size d0 _ hm0 ha0 (by omega)).mono ?_
      rintro e w2 ⟨ga0, rfl, oa0, hb⟩
      have ha0 := ha0.below (hb.mono (by omega))
      have ha1 := ha1.below (hb.mono (by omega))
      have B2 := below_step B1 (Nat.le_refl _) hb
      have z2 := hb.size
      clear B1 hb
      have bla0 := oa0.blockAt rfl
      have cpa0 := oa0.caps'
      go_wp2_with fail
      refine (toHitS_any _ _ _ w.heap.size d1 _ hm1 ha1 (by omega)).mono ?_
      rintro e w3 ⟨ga1, rfl, oa1, hb⟩
      have ha0 := ha0.below (hb.mono (by omega))
      have ha1 := ha1.below (hb.mono (by omega))
      have oa0 := oa0.below hb
      have B3 := below_step B2 (Nat.le_refl _) hb
      have z3 := hb.size
      clear B2 hb
      have bla1 := oa1.blockAt rfl
      have cpa1 := oa1.caps'
      have H0 := oa0.recs
      have H1 := oa1.recs
      go_wp2_with fail
      refine (CS.out (some ⟨ga0, 0, none⟩) (some ⟨ga1, 0, none⟩) n0 n1 n0 n1 _ _ (by have e0 := hs0.out; have e1 := hs1.out; omega) H0 H1 (Nat.le_refl _)).mono ?_
      rintro e w4 ⟨gw, cw, rfl, ow, hb⟩
      have ha0 := ha0.below (hb.mono (by omega))
      have ha1 := ha1.below (hb.mono (by omega))
      have oa0 := oa0.below hb
      have oa1 := oa1.below hb
      have B4 := below_step B3 (Nat.le_refl _) hb
      have z4 := hb.size
      clear B3 hb
      have hw := ow.recs
      clear ow
      clear H0 H1 oa0 oa1 bla0 bla1 cpa0 cpa1
      go_wp2_with fail
      refine (toHitS_any _ _ _ w.heap.size d0 _ hm0 ha0 (by omega)).mono ?_
      rintro e w5 ⟨gx0, rfl, ox0, hb⟩
      have ha0 := ha0.below (hb.mono (by omega))
      have ha1 := ha1.below (hb.mono (by omega))
      have hw := hw.below (hb.mono (by omega))
      have B5 := below_step B4 (Nat.le_refl _) hb
      have z5 := hb.size
      clear B4 hb
      have blx0 := ox0.blockAt rfl
      have cpx0 := ox0.caps'
      go_wp2_with fail
      refine (toHitS_any _ _ _ w.heap.size d1 _ hm1 ha1 (by omega)).mono ?_
      rintro e w6 ⟨gx1, rfl, ox1, hb⟩
      have ha0 := ha0.below (hb.mono (by omega))
      have ha1 := ha1.below (hb.mono (by omega))
      have hw := hw.below (hb.mono (by omega))
      have ox0 := ox0.below hb
      have B6 := below_step B5 (Nat.le_refl _) hb
      have z6 := hb.size
      clear B5 hb
      have blx1 := ox1.blockAt rfl
      have cpx1 := ox1.caps'
      have H0 := ox0.recs
      have H1 := ox1.recs
      go_wp2_with fail
      refine (CI.out (some ⟨gx0, 0, none⟩) (some ⟨gx1, 0, none⟩) n0 n1 n0 n1 _ _ hm0 hm1 cpx0.1 cpx0.2 cpx1.1 cpx1.2 H0 H1 (Nat.le_refl _)).mono ?_
      rintro e w7 ⟨Ag, cg, rfl, og, hb⟩
      have ha0 := ha0.below (hb.mono (by omega))
      have ha1 := ha1.below (hb.mono (by omega))
      have hw := hw.below (hb.mono (by omega))
      have ox0 := ox0.below hb
      have ox1 := ox1.below hb
      have B7 := below_step B6 (Nat.le_refl _) hb
      have z7 := hb.size
      clear B6 hb
      clear H0 H1
      have H1 := og.recs
      go_wp2_with fail
      refine (eqHitS_same _ _ L _ _ w7.heap.size l _ hLm H1 (hw.more (by omega)) (Nat.le_refl _)).mono ?_
      rintro e w8 ⟨rfl, hb⟩
      have ha0 := ha0.below (hb.mono (by omega))
      have ha1 := ha1.below (hb.mono (by omega))
      have hw := hw.below (hb.mono (by omega))
      have ox0 := ox0.below hb
      have ox1 := ox1.below hb
      have og := og.below hb
      have B8 := below_step B7 (Nat.le_refl _) hb
      have z8 := hb.size
      clear B7 hb
      clear H1
      go_wp2_with fail
      refine (toHitS_any _ _ _ w.heap.size d0 _ hm0 ha0 (by omega)).mono ?_
      rintro e w9 ⟨gy0, rfl, oy0, hb⟩
      have ha0 := ha0.below (hb.mono (by omega))
      have ha1 := ha1.below (hb.mono (by omega))
      have hw := hw.below (hb.mono (by omega))
      have ox0 := ox0.below hb
      have ox1 := ox1.below hb
      have og := og.below hb
      have B9 := below_step B8 (Nat.le_refl _) hb
      have z9 := hb.size
      clear B8 hb
      have bly0 := oy0.blockAt rfl
      have cpy0 := oy0.caps'
      have H1 := ox0.recs
      have H2 := oy0.recs
      go_wp2_with fail
      refine (eqHitS_same _ _ n0 _ _ w9.heap.size d0 _ hn0' H1 H2 (Nat.le_refl _)).mono ?_
      rintro e w10 ⟨rfl, hb⟩
      have ha0 := ha0.below (hb.mono (by omega))
      have ha1 := ha1.below (hb.mono (by omega))
      have hw := hw.below (hb.mono (by omega))
      have ox0 := ox0.below hb
      have ox1 := ox1.below hb
      have og := og.below hb
      have oy0 := oy0.below hb
      have B10 := below_step B9 (Nat.le_refl _) hb
      have z10 := hb.size
      clear B9 hb
      clear H1 H2
      clear oy0 bly0 cpy0
      go_wp2_with fail
      refine (toHitS_any _ _ _ w.heap.size d1 _ hm1 ha1 (by omega)).mono ?_
      rintro e w11 ⟨gy1, rfl, oy1, hb⟩
      have ha0 := ha0.below (hb.mono (by omega))
      have ha1 := ha1.below (hb.mono (by omega))
      have hw := hw.below (hb.mono (by omega))
      have ox0 := ox0.below hb
      have ox1 := ox1.below hb
      have og := og.below hb
      have B11 := below_step B10 (Nat.le_refl _) hb
      have z11 := hb.size
      clear B10 hb
      have bly1 := oy1.blockAt rfl
      have cpy1 := oy1.caps'
      have H1 := ox1.recs
      have H2 := oy1.recs
      go_wp2_with fail
      refine (eqHitS_same _ _ n1 _ _ w11.heap.size d1 _ hn1' H1 H2 (Nat.le_refl _)).mono ?_
      rintro e w12 ⟨rfl, hb⟩
      have ha0 := ha0.below (hb.mono (by omega))
      have ha1 := ha1.below (hb.mono (by omega))
      have hw := hw.below (hb.mono (by omega))
      have ox0 := ox0.below hb
      have ox1 := ox1.below hb
      have og := og.below hb
      have oy1 := oy1.below hb
      have B12 := below_step B11 (Nat.le_refl _) hb
      have z12 := hb.size
      clear B11 hb
      clear H1 H2
      clear oy1 bly1 cpy1
      go_wp2_with fail
      refine (markHitS_any _ _ _ _ _ _ 1 ox0 (by omega) (by omega) (by omega)).mono ?_
      rintro e w13 ⟨rfl, -, hg⟩
      replace hg : w12.grownBy w13 (some gx0) := hg
      have ha0 := ha0.below (Below.grown (Below.refl w.heap.size w12) hg (by omega) (by intro k hk; injection hk with hk; omega))
      have ha1 := ha1.below (Below.grown (Below.refl w.heap.size w12) hg (by omega) (by intro k hk; injection hk with hk; omega))
      have hw := hw.below (Below.grown (Below.refl w4.heap.size w12) hg (by omega) (by intro k hk; injection hk with hk; omega))
      have ox1 := ox1.grown hg (fun hk => by have e : gx1 = gx0 := Option.some.inj hk; omega)
      have og := og.grown hg (fun hk => by have := (og.blockAt hk).1; omega)
      have B13 : Below w.heap.size w w13 := B12.grown hg B12.size (by intro k hk; injection hk with hk; omega)
      have z13 := hg.size
      clear hg ox0 B12
      obtain ⟨K0, hK0⟩ : ∃ K, K = 1 + 2 * n0 := ⟨_, rfl⟩
      rw [← hK0]
      have hKn0 : ¬ (K0 : Int) < 0 := by omega
      have hKb0 : 0 < K0 := by omega
      have HK0 := Lib.hid hK0
      have hKt0 : K0 ≤ 1 + 2 * 1048576 := by have e := HK0.out; have e0 := hs0.out; omega
      clear hK0
      have hKs0 : K0 + 2 * n1 ≤ 3000000 := by have e := HK0.out; have e0 := hs0.out; have e1 := hs1.out; omega
      go_wp2_with fail
      refine (markHitS_any _ _ _ _ _ _ K0 ox1 (by omega) (by omega) (by omega)).mono ?_
      rintro e w14 ⟨rfl, -, hg⟩
      replace hg : w13.grownBy w14 (some gx1) := hg
      have ha0 := ha0.below (Below.grown (Below.refl w.heap.size w13) hg (by omega) (by intro k hk; injection hk with hk; omega))
      have ha1 := ha1.below (Below.grown (Below.refl w.heap.size w13) hg (by omega) (by intro k hk; injection hk with hk; omega))
      have hw := hw.below (Below.grown (Below.refl w4.heap.size w13) hg (by omega) (by intro k hk; injection hk with hk; omega))
      have og := og.grown hg (fun hk => by have := (og.blockAt hk).1; omega)
      have B14 : Below w.heap.size w w14 := B13.grown hg B13.size (by intro k hk; injection hk with hk; omega)
      have z14 := hg.size
      clear hg ox1 B13
      obtain ⟨K1, hK1⟩ : ∃ K, K = K0 + 2 * n1 := ⟨_, rfl⟩
      rw [← hK1]
      have hKn1 : ¬ (K1 : Int) < 0 := by omega
      have hKb1 : 0 < K1 := by omega
      have HK1 := Lib.hid hK1
      have hKt1 : K1 ≤ 1 + 4 * 1048576 := by have e := HK1.out; have e0 := hs0.out; have e1 := hs1.out; omega
      clear hK1
      have H1 := og.recs
      go_wp2_with fail
      refine (eqHitS_same _ _ L _ _ w14.heap.size l _ hLm H1 (hw.more (by omega)) (Nat.le_refl _)).mono ?_
      rintro e w15 ⟨rfl, hb⟩
      have ha0 := ha0.below (hb.mono (by omega))
      have ha1 := ha1.below (hb.mono (by omega))
      have hw := hw.below (hb.mono (by omega))
      have og := og.below hb
      have B15 := below_step B14 (Nat.le_refl _) hb
      have z15 := hb.size
      clear B14 hb
      clear H1
      go_wp2_with fail
      refine (markHitS_any w6.heap.size _ _ _ _ _ 1 og (by omega) (by omega) (by omega)).mono ?_
      rintro e w16 ⟨rfl, om, hg⟩
      have hrow : ∀ k, (Value.slice Ag L cg).ownBlock = some k → w6.heap.size ≤ k := fun k hk => (og.blockAt hk).1
      have ha0 := ha0.below (Below.grown (Below.refl w.heap.size w15) hg (by omega) (fun k hk => by have := hrow k hk; omega))
      have ha1 := ha1.below (Below.grown (Below.refl w.heap.size w15) hg (by omega) (fun k hk => by have := hrow k hk; omega))
      have hw := hw.below (Below.grown (Below.refl w4.heap.size w15) hg (by omega) (fun k hk => by have := hrow k hk; omega))
      have B16 : Below w.heap.size w w16 := B15.grown hg B15.size (fun k hk => by have := hrow k hk; omega)
      have z16 := hg.size
      clear hg og B15 hrow
      have H1 := om.recs
      go_wp2_with fail
      refine (heldHitS_any _ _ _ _ 1 H1 (by omega) (by omega)).mono ?_
      rintro e w17 ⟨rfl, hb⟩
      have ha0 := ha0.below (hb.mono (by omega))
      have ha1 := ha1.below (hb.mono (by omega))
      have hw := hw.below (hb.mono (by omega))
      have om := om.below hb
      have B17 := below_step B16 (Nat.le_refl _) hb
      have z17 := hb.size
      clear B16 hb
      clear H1
      go_wp2_with fail
      refine (toHitS_any _ _ _ w.heap.size d0 _ hm0 ha0 (by omega)).mono ?_
      rintro e w18 ⟨gu0, rfl, ou0, hb⟩
      have ha0 := ha0.below (hb.mono (by omega))
      have ha1 := ha1.below (hb.mono (by omega))
      have hw := hw.below (hb.mono (by omega))
      have om := om.below hb
      have B18 := below_step B17 (Nat.le_refl _) hb
      have z18 := hb.size
      clear B17 hb
      have blu0 := ou0.blockAt rfl
      have cpu0 := ou0.caps'
      go_wp2_with fail
      refine (toHitS_any _ _ _ w.heap.size d1 _ hm1 ha1 (by omega)).mono ?_
      rintro e w19 ⟨gu1, rfl, ou1, hb⟩
      have ha0 := ha0.below (hb.mono (by omega))
      have ha1 := ha1.below (hb.mono (by omega))
      have hw := hw.below (hb.mono (by omega))
      have om := om.below hb
      have ou0 := ou0.below hb
      have B19 := below_step B18 (Nat.le_refl _) hb
      have z19 := hb.size
      clear B18 hb
      have blu1 := ou1.blockAt rfl
      have cpu1 := ou1.caps'
      clear ha0 ha1
      have H0 := ou0.recs
      have H1 := ou1.recs
      clear ou0 ou1
      go_wp2_with fail
      refine (CI.out (some ⟨gu0, 0, none⟩) (some ⟨gu1, 0, none⟩) n0 n1 n0 n1 _ _ hm0 hm1 cpu0.1 cpu0.2 cpu1.1 cpu1.2 H0 H1 (Nat.le_refl _)).mono ?_
      rintro e w20 ⟨Ah, ch, rfl, oh, hb⟩
      have hw := hw.below (hb.mono (by omega))
      have om := om.below hb
      have B20 := below_step B19 (Nat.le_refl _) hb
      have z20 := hb.size
      clear B19 hb
      clear H0 H1
      have H1 := oh.recs
      clear oh
      go_wp2_with fail
      refine (eqHitS_same _ _ L _ _ w20.heap.size l _ hLm H1 (hw.more (by omega)) (Nat.le_refl _)).mono ?_
      rintro e w21 ⟨rfl, hb⟩
      have hw := hw.below (hb.mono (by omega))
      have om := om.below hb
      have B21 := below_step B20 (Nat.le_refl _) hb
      have z21 := hb.size
      clear B20 hb
      clear H1
      clear hw
      have H1 := om.recs
      go_wp2_with fail
      refine (heldHitS_any _ _ _ _ 1 H1 (by omega) (by omega)).mono ?_
      rintro e w22 ⟨rfl, hb⟩
      have om := om.below hb
      have B22 := below_step B21 (Nat.le_refl _) hb
      have z22 := hb.size
      clear B21 hb
      clear H1
      go_wp2_with fail
      go_ret
      exact ⟨rfl, B22⟩
theorem nearEL_len (ss : List ByteArray) (s : ByteArray) : (nearEL ss s).length ≤ ss.length := by
  unfold nearEL
  split
  · exact List.length_filter_le _ _
  · simp
theorem walkFnExactNearestWords (HC : NearC) (A0 : Option Addr) (n0 c0 : Nat) (d0 : List ByteArray) (s : ByteArray) (w : World) (ha0 : Strs w w.heap.size A0 n0 d0) (hn0 : n0 ≤ maxLen) (hs : s.size ≤ maxLen) :
    Calls Try.prog 12 #[.slice A0 n0 c0, .string s] w fun e w' => e = .returned (.bool true) ∧ Below w.heap.size w w' := by
  have HC := Lib.hid HC
  have hn0' := hn0
  have hs' := hs
  unfold maxLen at hn0 hs
  have CS := Lib.hid (fun A n c B W => nearestWords_spec A n c B d0 s W)
  have CI := Lib.hid (fun A n c B W => HC.out A n c B d0 s W)
  have hlen : (nearEL d0 s).length ≤ d0.length := nearEL_len d0 s
  generalize nearEL d0 s = l at CS CI hlen
  obtain ⟨L, hL⟩ : ∃ L, L = l.length := ⟨_, rfl⟩
  unfold NearPost at CS
  unfold NearOut at CI
  rw [← hL] at CS CI hlen
  clear hL
  generalize nearEI d0 s = v0 at CS CI
  have hq0 : (v0 != v0) = false := by simp
  have hl0 := ha0.len'
  by_cases q0 : (1048576 : Int) < s.size
  · go_enter Try.func12, Try.ntmps12
    go_wp2_with fail
    go_ret
    exact ⟨rfl, Below.refl _ _⟩
  · have q0' := q0
    go_enter Try.func12, Try.ntmps12
    go_wp2_with fail
    have Bz : Below w.heap.size w w := Below.refl _ _
    go_wp2_with fail
    refine (szStringS_any _ _ _ w.heap.size d0 _ _ hn0' ha0 (by omega) (by omega)).mono ?_
    rintro e w' ⟨r0, rfl, rfl, hr0⟩
    by_cases hneg0 : r0 < 0
    · clear hr0
      go_wp2_with fail
      go_ret
      exact ⟨rfl, Bz⟩
    · have hs0 := hr0 (by omega)
      have hm0 : n0 ≤ 1048576 := by omega
      clear hr0
      have hL1 : L ≤ 1048576 := by omega
      have hLm : L ≤ maxLen := by unfold maxLen; omega
      have hs0 := Lib.hid hs0
      have hneg0 := Lib.hid hneg0
      go_wp2_with fail
      refine (toTexts_any _ _ _ w.heap.size d0 _ hm0 ha0 (by omega)).mono ?_
      rintro e w0 ⟨ga0, ka0, rfl, oa0, hb⟩
      have ha0 := ha0.below (hb.mono (by omega))
      have B0 := below_step Bz (Nat.le_refl _) hb
      have z0 := hb.size
      clear Bz hb
      have bla0 := oa0.blockAt rfl
      have cpa0 := oa0.caps'
      have H0 := oa0.recs
      go_wp2_with fail
      refine (CS.out (some ⟨ga0, 0, none⟩) n0 ka0 _ _ hm0 H0 (Nat.le_refl _) hs').mono ?_
      rintro e w1 ⟨gw, cw, rfl, ow, hb⟩
      have ha0 := ha0.below (hb.mono (by omega))
      have oa0 := oa0.below hb
      have B1 := below_step B0 (Nat.le_refl _) hb
      have z1 := hb.size
      clear B0 hb
      have hw := ow.strs
      clear ow
      clear H0 oa0 bla0 cpa0
      go_wp2_with fail
      refine (toTexts_any _ _ _ w.heap.size d0 _ hm0 ha0 (by omega)).mono ?_
      rintro e w2 ⟨gx0, kx0, rfl, ox0, hb⟩
      have ha0 := ha0.below (hb.mono (by omega))
      have hw := hw.below (hb.mono (by omega))
      have B2 := below_step B1 (Nat.le_refl _) hb
      have z2 := hb.size
      clear B1 hb
      have blx0 := ox0.blockAt rfl
      have cpx0 := ox0.caps'
      have H0 := ox0.recs
      go_wp2_with fail
      refine (CI.out (some ⟨gx0, 0, none⟩) n0 kx0 _ _ hm0 cpx0.1 cpx0.2 H0 (Nat.le_refl _) hs').mono ?_
      rintro e w3 ⟨Ag, cg, rfl, og, hb⟩
      have ha0 := ha0.below (hb.mono (by omega))
      have hw := hw.below (hb.mono (by omega))
      have ox0 := ox0.below hb
      have B3 := below_step B2 (Nat.le_refl _) hb
      have z3 := hb.size
      clear B2 hb
      clear H0
      have H1 := og.recs
      go_wp2_with fail
      refine (eqTexts_same _ _ L _ _ w3.heap.size l _ hLm H1 (hw.more (by omega)) (Nat.le_refl _)).mono ?_
      rintro e w4 ⟨rfl, hb⟩
      have ha0 := ha0.below (hb.mono (by omega))
      have hw := hw.below (hb.mono (by omega))
      have ox0 := ox0.below hb
      have og := og.below hb
      have B4 := below_step B3 (Nat.le_refl _) hb
      have z4 := hb.size
      clear B3 hb
      clear H1
      go_wp2_with fail
      refine (toTexts_any _ _ _ w.heap.size d0 _ hm0 ha0 (by omega)).mono ?_
      rintro e w5 ⟨gy0, ky0, rfl, oy0, hb⟩
      have ha0 := ha0.below (hb.mono (by omega))
      have hw := hw.below (hb.mono (by omega))
      have ox0 := ox0.below hb
      have og := og.below hb
      have B5 := below_step B4 (Nat.le_refl _) hb
      have z5 := hb.size
      clear B4 hb
      have bly0 := oy0.blockAt rfl
      have cpy0 := oy0.caps'
      have H1 := ox0.recs
      have H2 := oy0.recs
      go_wp2_with fail
      refine (eqTexts_same _ _ n0 _ _ w5.heap.size d0 _ hn0' H1 H2 (Nat.le_refl _)).mono ?_
      rintro e w6 ⟨rfl, hb⟩
      have ha0 := ha0.below (hb.mono (by omega))
      have hw := hw.below (hb.mono (by omega))
      have ox0 := ox0.below hb
      have og := og.below hb
      have oy0 := oy0.below hb
      have B6 := below_step B5 (Nat.le_refl _) hb
      have z6 := hb.size
      clear B5 hb
      clear H1 H2
      clear oy0 bly0 cpy0
      go_wp2_with fail
      refine (markTexts_any _ _ _ _ _ _ 1 ox0 (by omega) (by omega) (by omega)).mono ?_
      rintro e w7 ⟨rfl, -, hg⟩
      replace hg : w6.grownBy w7 (some gx0) := hg
      have ha0 := ha0.below (Below.grown (Below.refl w.heap.size w6) hg (by omega) (by intro k hk; injection hk with hk; omega))
      have hw := hw.below (Below.grown (Below.refl w1.heap.size w6) hg (by omega) (by intro k hk; injection hk with hk; omega))
      have og := og.grown hg (fun hk => by have := (og.blockAt hk).1; omega)
      have B7 : Below w.heap.size w w7 := B6.grown hg B6.size (by intro k hk; injection hk with hk; omega)
      have z7 := hg.size
      clear hg ox0 B6
      have H1 := og.recs
      go_wp2_with fail
      refine (eqTexts_same _ _ L _ _ w7.heap.size l _ hLm H1 (hw.more (by omega)) (Nat.le_refl _)).mono ?_
      rintro e w8 ⟨rfl, hb⟩
      have ha0 := ha0.below (hb.mono (by omega))
      have hw := hw.below (hb.mono (by omega))
      have og := og.below hb
      have B8 := below_step B7 (Nat.le_refl _) hb
      have z8 := hb.size
      clear B7 hb
      clear H1
      go_wp2_with fail
      refine (markTexts_any w2.heap.size _ _ _ _ _ 1 og (by omega) (by omega) (by omega)).mono ?_
      rintro e w9 ⟨rfl, om, hg⟩
      have hrow : ∀ k, (Value.slice Ag L cg).ownBlock = some k → w2.heap.size ≤ k := fun k hk => (og.blockAt hk).1
      have ha0 := ha0.below (Below.grown (Below.refl w.heap.size w8) hg (by omega) (fun k hk => by have := hrow k hk; omega))
      have hw := hw.below (Below.grown (Below.refl w1.heap.size w8) hg (by omega) (fun k hk => by have := hrow k hk; omega))
      have B9 : Below w.heap.size w w9 := B8.grown hg B8.size (fun k hk => by have := hrow k hk; omega)
      have z9 := hg.size
      clear hg og B8 hrow
      have H1 := om.recs
      go_wp2_with fail
      refine (heldTexts_any _ _ _ _ 1 H1 (by omega) (by omega)).mono ?_
      rintro e w10 ⟨rfl, hb⟩
      have ha0 := ha0.below (hb.mono (by omega))
      have hw := hw.below (hb.mono (by omega))
      have om := om.below hb
      have B10 := below_step B9 (Nat.le_refl _) hb
      have z10 := hb.size
      clear B9 hb
      clear H1
      go_wp2_with fail
      refine (toTexts_any _ _ _ w.heap.size d0 _ hm0 ha0 (by omega)).mono ?_
      rintro e w11 ⟨gu0, ku0, rfl, ou0, hb⟩
      have ha0 := ha0.below (hb.mono (by omega))
      have hw := hw.below (hb.mono (by omega))
      have om := om.below hb
      have B11 := below_step B10 (Nat.le_refl _) hb
      have z11 := hb.size
      clear B10 hb
      have blu0 := ou0.blockAt rfl
      have cpu0 := ou0.caps'
      clear ha0
      have H0 := ou0.recs
      clear ou0
      go_wp2_with fail
      refine (CI.out (some ⟨gu0, 0, none⟩) n0 ku0 _ _ hm0 cpu0.1 cpu0.2 H0 (Nat.le_refl _) hs').mono ?_
      rintro e w12 ⟨Ah, ch, rfl, oh, hb⟩
      have hw := hw.below (hb.mono (by omega))
      have om := om.below hb
      have B12 := below_step B11 (Nat.le_refl _) hb
      have z12 := hb.size
      clear B11 hb
      clear H0
      have H1 := oh.recs
      clear oh
      go_wp2_with fail
      refine (eqTexts_same _ _ L _ _ w12.heap.size l _ hLm H1 (hw.more (by omega)) (Nat.le_refl _)).mono ?_
      rintro e w13 ⟨rfl, hb⟩
      have hw := hw.below (hb.mono (by omega))
      have om := om.below hb
      have B13 := below_step B12 (Nat.le_refl _) hb
      have z13 := hb.size
      clear B12 hb
      clear H1
      clear hw
      have H1 := om.recs
      go_wp2_with fail
      refine (heldTexts_any _ _ _ _ 1 H1 (by omega) (by omega)).mono ?_
      rintro e w14 ⟨rfl, hb⟩
      have om := om.below hb
      have B14 := below_step B13 (Nat.le_refl _) hb
      have z14 := hb.size
      clear B13 hb
      clear H1
      go_wp2_with fail
      go_ret
      exact ⟨rfl, B14⟩
end Go.Proofs.Ytmolphaihapkkaa
