/- Contract of the model's JoinHits. -/
import Derived.Test.YtmolphaihapkkaaHitSpec3
namespace Go.Proofs.Ytmolphaihapkkaa
open Go.RowKit
set_option maxHeartbeats 3200000
set_option maxRecDepth 8192
set_option linter.unusedSimpArgs false
set_option linter.unusedVariables false

/-- x is among the first j of a -/
theorem has_next {a : List Hit} {j : Nat} {y x : Hit} (h : a[j]? = some y) : hasH (a.take (j + 1)) x = (hasH (a.take j) x || decide (y = x)) := by
  unfold hasH
  rw [List.take_add_one, h, List.any_append]
  simp
theorem joinHits_spec (A1 A2 : Option Addr) (n1 n2 c1 c2 B : Nat) (a b : List Hit) (w : World) (hnn : n1 + n2 ≤ 1048576) (h1 : Hits w B A1 n1 a) (h2 : Hits w B A2 n2 b) (hB : B ≤ w.heap.size) :
    Calls Try.prog 27 #[.slice A1 n1 c1, .slice A2 n2 c2] w (HitsPost (joinE a b) w) := by
  have HL1 := Lib.hid h1.len
  have HL2 := Lib.hid h2.len
  have HO := Lib.hid (fun W : World => hits_empty W)
  have B0 := (Below.refl w.heap.size w).alloc (Nat.le_refl _) (.cells #[] 28)
  have hB1 : B ≤ (w.alloc (.cells #[] 28)).heap.size := by simp; omega
  cases ha : hitsB a
  · have HE := Lib.hid (show joinE a b = [] by unfold joinE; rw [ha]; rfl)
    have HA := Lib.hid (hitsValid_spec_is ha)
    clear ha
    rw [HE.out]
    go_enter Try.func27, Try.ntmps27
    go_wp2_with fail
    refine (HA.out A1 n1 c1 B _ (by omega) (h1.step B0 hB) hB1).mono ?_
    rintro e w1 ⟨rfl, hb1⟩
    go_wp2_with fail
    go_ret
    exact ⟨w.heap.size, 0, rfl, (HO.out w).below hb1, below_step B0 (Nat.le_refl _) hb1⟩
  · cases hb : hitsB b
    · have HE := Lib.hid (show joinE a b = [] by unfold joinE; rw [ha, hb]; rfl)
      have HA := Lib.hid (hitsValid_spec_is ha)
      have HBB := Lib.hid (hitsValid_spec_is hb)
      clear ha hb
      rw [HE.out]
      go_enter Try.func27, Try.ntmps27
      go_wp2_with fail
      refine (HA.out A1 n1 c1 B _ (by omega) (h1.step B0 hB) hB1).mono ?_
      rintro e w1 ⟨rfl, hb1⟩
      have B1 := below_step B0 (Nat.le_refl _) hb1
      have hz1 := hb1.size
      go_wp2_with fail
      refine (HBB.out A2 n2 c2 B _ (by omega) (h2.step B1 hB) (by omega)).mono ?_
      rintro e w2 ⟨rfl, hb2⟩
      go_wp2_with fail
      go_ret
      exact ⟨w.heap.size, 0, rfl, ((HO.out w).below hb1).below hb2, below_step B1 (Nat.le_refl _) hb2⟩
    · have HE := Lib.hid (show joinE a b = joinF a b by unfold joinE; rw [ha, hb]; rfl)
      have HASC := Lib.hid (hits_parts ha).2
      have HND := Lib.hid (asc_nodup (hits_parts hb).2)
      have HA := Lib.hid (hitsValid_spec_is ha)
      have HBB := Lib.hid (hitsValid_spec_is hb)
      clear ha hb
      rw [HE.out]
      go_enter Try.func27, Try.ntmps27
      go_wp2_with fail
      refine (HA.out A1 n1 c1 B _ (by omega) (h1.step B0 hB) hB1).mono ?_
      rintro e w1 ⟨rfl, hb1⟩
      have B1 := below_step B0 (Nat.le_refl _) hb1
      have hz1 := hb1.size
      go_wp2_with fail
      refine (HBB.out A2 n2 c2 B _ (by omega) (h2.step B1 hB) (by omega)).mono ?_
      rintro e w2 ⟨rfl, hb2⟩
      have B2 := below_step B1 (Nat.le_refl _) hb2
      have O2 := ((HO.out w).below hb1).below hb2
      clear hb1 hb2 B0 B1 hB1
      go_wp2_with fail
      go_loopw [5, 6] (fun v i wr => ∃ j g cap : Nat, j ≤ n1 ∧ i = .int .i64 j ∧ v = .slice (some ⟨g, 0, none⟩) j cap ∧ OwnHits wr w.heap.size (some ⟨g, 0, none⟩) j cap (a.take j) ∧ Below w.heap.size w wr) (fun _ i _ => n1 - (intOf i).toNat)
      case atStart => exact ⟨0, w.heap.size, 0, Nat.zero_le _, rfl, rfl, O2, B2⟩
      case round =>
        clear O2 B2
        obtain ⟨j, g, cap, hj, rfl, rfl, hown, hbel⟩ := hrel
        by_cases hlt : j < n1
        · obtain ⟨b', o, s, x, rfl, hbB, hd, hs, hx, e0, e1⟩ := hits_at (h1.step hbel hB) hlt
          have HG := Lib.hid (insH_grow HASC.out hd)
          have hcap : j ≤ cap ∧ cap ≤ maxLen := by
            rcases hown.shape with ⟨e, _⟩ | ⟨_, _, _, _, q1, q2⟩
            · cases e
            · exact ⟨q1, q2⟩
          have hcap1 := hcap.1
          have HC2 := Lib.hid hcap.2
          have HOW := Lib.hid hown
          have hz := hbel.size
          have i0 : (0 : Int) ≤ (j : Int) := by omega
          have i1 : (j : Int) < (n1 : Int) := by omega
          clear hd hown hcap
          go_wp2_with fail
          refine (hitIns_any g 0 j cap wr.heap.size (a.take j) s x wr (by omega) hcap1 HC2.out HOW.out.recs (Nat.le_refl _) hs hx).mono ?_
          rintro e w3 ⟨g2, cap2, rfl, hown2, hb3⟩
          have hbel3 := below_step hbel (Nat.le_refl _) hb3
          go_wp2_with fail
          go_roundw
          case rel => exact ⟨j + 1, g2, cap2, by omega, by go_num, rfl, by rw [HG.out] at hown2; exact hown2.mono hz, hbel3⟩
          case measure => simp [intOf]; omega
        · obtain rfl : j = n1 := by omega
          have HT := Lib.hid (show a.take j = a from List.take_of_length_le (by rw [HL1.out]; omega))
          rw [HT.out] at hown
          have JF := Lib.hid (fun k hk => join_facts a b HASC.out HND.out k hk)
          go_wp2_with fail
          go_loopw [5, 7] (fun v i wr => ∃ k g cap m : Nat, k ≤ n2 ∧ i = .int .i64 k ∧ v = .slice (some ⟨g, 0, none⟩) m cap ∧ OwnHits wr w.heap.size (some ⟨g, 0, none⟩) m cap (joinF a (b.take k)) ∧ Below w.heap.size w wr) (fun _ i _ => n2 - (intOf i).toNat)
          case atStart => exact ⟨0, g, cap, j, Nat.zero_le _, rfl, rfl, by simpa [joinF] using hown, hbel⟩
          case round =>
            clear hown hbel
            obtain ⟨k, g, cap, m, hk, rfl, rfl, hown, hbel⟩ := hrel
            by_cases hlk : k < n2
            · obtain ⟨b', o, s, x, rfl, hbB, hd, hs, hx, _, _⟩ := hits_at (h2.step hbel hB) hlk
              have HD := Lib.hid hd
              have HJ := Lib.hid (joinF_next a b hd)
              have hml := (JF.out k (by rw [HL2.out]; omega)).2.2.2
              rw [hown.len, HL1.out] at hml
              have hcap : m ≤ cap ∧ cap ≤ maxLen := by
                rcases hown.shape with ⟨e, _⟩ | ⟨_, _, _, _, q1, q2⟩
                · cases e
                · exact ⟨q1, q2⟩
              have hcap1 := hcap.1
              have HC2 := Lib.hid hcap.2
              clear hd hcap
              have HOW := Lib.hid hown
              clear hown
              have hz := hbel.size
              have i0 : (0 : Int) ≤ (k : Int) := by omega
              have i1 : (k : Int) < (n2 : Int) := by omega
              go_wp2_with fail
              go_loopw [8, 9] (fun v i wx => ∃ p : Nat, p ≤ j ∧ i = .int .i64 p ∧ v = .bool (hasH (a.take p) (s, x)) ∧ Drawn wr wx) (fun _ i _ => j - (intOf i).toNat)
              case atStart => exact ⟨0, Nat.zero_le _, rfl, by simp [hasH], Drawn.refl _⟩
              case round =>
                obtain ⟨p, hp, rfl, rfl, hdr⟩ := hrel
                by_cases hlp : p < j
                · obtain ⟨b2, o2, t, y, rfl, hb2B, hdp, ht, hy, e0, e1⟩ := hits_at ((h1.step hbel hB).drawn hdr) hlp
                  obtain ⟨e2, e3⟩ := hits_cell ((h2.step hbel hB).drawn hdr) HD.out
                  simp only at e2 e3
                  have HX := Lib.hid (has_next (x := (s, x)) hdp)
                  have p0 : (0 : Int) ≤ (p : Int) := by omega
                  have p1 : (p : Int) < (j : Int) := by omega
                  clear hdp
                  cases hh : hasH (a.take p) (s, x)
                  · cases hst : (t.toList == s.toList)
                    · have HX2 := Lib.hid (show hasH (a.take (p + 1)) (s, x) = false by rw [HX.out, hh, Bool.false_or, decide_eq_false (fun e => by injection e with e1 _; rw [e1] at hst; simp at hst)])
                      clear HX hh
                      go_wp2_with fail
                      go_quiet (fail)
                      go_wp2_with fail
                      go_roundw
                      case rel => exact ⟨p + 1, by omega, by go_num, by rw [HX2.out], hdr.drewN _⟩
                      case measure => simp [intOf]; omega
                    · by_cases hxy : y = x
                      · subst hxy
                        have hq2 : (y == y) = true := by simp
                        have HX2 := Lib.hid (show hasH (a.take (p + 1)) (s, y) = true by rw [HX.out, decide_eq_true (by rw [str_beq, decide_eq_true_eq] at hst; rw [hst]), Bool.or_true])
                        clear HX hh
                        go_wp2_with fail
                        go_quiet (fail)
                        go_wp2_with fail
                        go_roundw
                        case rel => exact ⟨p + 1, by omega, by go_num, by rw [HX2.out], hdr.drewN _⟩
                        case measure => simp [intOf]; omega
                      · have hq2 : (y == x) = false := by simp [hxy]
                        have HX2 := Lib.hid (show hasH (a.take (p + 1)) (s, x) = false by rw [HX.out, hh, Bool.false_or, decide_eq_false (fun e => by injection e with _ e2; exact hxy e2)])
                        clear HX hh hxy
                        go_wp2_with fail
                        go_quiet (fail)
                        go_wp2_with fail
                        go_roundw
                        case rel => exact ⟨p + 1, by omega, by go_num, by rw [HX2.out], hdr.drewN _⟩
                        case measure => simp [intOf]; omega
                  · have HX2 := Lib.hid (show hasH (a.take (p + 1)) (s, x) = true by rw [HX.out, hh, Bool.true_or])
                    clear HX hh
                    go_wp2_with fail
                    go_quiet (fail)
                    go_wp2_with fail
                    go_roundw
                    case rel => exact ⟨p + 1, by omega, by go_num, by rw [HX2.out], hdr.drewN _⟩
                    case measure => simp [intOf]; omega
                · obtain rfl : p = j := by omega
                  rw [HT.out]
                  have hbx := below_step hbel (Nat.le_refl _) hdr.below
                  have hzx := hbx.size
                  obtain ⟨e2, e3⟩ := hits_cell ((h2.step hbel hB).drawn hdr) HD.out
                  simp only at e2 e3
                  have HOX := Lib.hid (HOW.out.drawn hdr)
                  cases hh : hasH a (s, x)
                  · have HJ2 := Lib.hid (HJ.out.trans (if_neg (by rw [hh]; simp)))
                    clear HJ hh
                    go_wp2_with fail
                    refine (hitIns_any g 0 m cap wr.heap.size (joinF a (b.take k)) s x wr (by omega) hcap1 HC2.out HOX.out.recs (Nat.le_refl _) hs hx).mono ?_
                    rintro e w3 ⟨g2, cap2, rfl, hown2, hb3⟩
                    have hbel3 := below_step hbx (Nat.le_refl _) hb3
                    go_wp2_with fail
                    go_roundw
                    case rel => exact ⟨k + 1, g2, cap2, m + 1, by omega, by go_num, rfl, by rw [HJ2.out]; exact hown2.mono hzx, hbel3⟩
                    case measure => simp [intOf]; omega
                  · have HJ2 := Lib.hid (HJ.out.trans (if_pos hh))
                    clear HJ hh
                    go_wp2_with fail
                    go_roundw
                    case rel => exact ⟨k + 1, g, cap, m, by omega, by go_num, rfl, by rw [HJ2.out]; exact HOX.out, hbx⟩
                    case measure => simp [intOf]; omega
            · obtain rfl : k = n2 := by omega
              have HT2 := Lib.hid (show b.take k = b from List.take_of_length_le (by rw [HL2.out]; omega))
              rw [HT2.out] at hown
              have hm := hown.len
              go_wp2_with fail
              go_ret
              exact ⟨g, cap, by rw [hm]; rfl, by rw [hm]; exact hown, hbel⟩
end Go.Proofs.Ytmolphaihapkkaa
