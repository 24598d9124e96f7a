/- The walk of the law FnHitsValid, over contracts of the program (written by wip/tools/genlwhits.py). -/
import Derived.Test.YtmolphaihapkkaaHitDraw
import Derived.Test.YtmolphaihapkkaaHitSpec4
import Derived.Test.YtmolphaihapkkaaHitSpec5
import Derived.Test.YtmolphaihapkkaaLawHits
import Derived.Test.YtmolphaihapkkaaOwnTx
import Derived.Deep.RegionLaw
import Derived.Deep.RegionWith
namespace Go.Proofs.Ytmolphaihapkkaa
open Go.RowKit
set_option maxHeartbeats 3200000
set_option maxRecDepth 8192
set_option linter.unusedSimpArgs false
set_option linter.unusedVariables false

theorem litH_kept2 {W w5 : World} {g : Nat} {e : Option Nat} {s : ByteArray} {m : Int} (h : Hits (W.alloc (.cells #[.string s, .int .i64 m] 28)) (W.heap.size + 1) (some ⟨W.heap.size, 0, none⟩) 1 [(s, m)]) (hg : W.heap.size = g)
    (hg5 : (W.alloc (.cells #[.string s, .int .i64 m] 28)).grownBy w5 e) (hne : e ≠ some g) : Hits w5 (g + 1) (some ⟨g, 0, none⟩) 1 [(s, m)] := by
  subst hg
  have hk : w5.heap[W.heap.size]? = (W.alloc (.cells #[.string s, .int .i64 m] 28)).heap[W.heap.size]? := hg5.block _ (by simp) (fun e2 => hne e2.symm)
  refine ⟨rfl, h.2.1, fun _ => ⟨W.heap.size, 0, rfl, by omega, fun j x hx i v hv => ?_⟩⟩
  have := h.cell hx hv
  rw [World.cell?_of_block hk]
  exact this
theorem litH_first2 {W w5 : World} {o : Obj} {e : Option Nat} {s : ByteArray} {m : Int} (h : Hits (W.alloc (.cells #[.string s, .int .i64 m] 28)) (W.heap.size + 1) (some ⟨W.heap.size, 0, none⟩) 1 [(s, m)])
    (hg5 : ((W.alloc (.cells #[.string s, .int .i64 m] 28)).alloc o).grownBy w5 e) (hne : e ≠ some W.heap.size) : Hits w5 (W.heap.size + 1) (some ⟨W.heap.size, 0, none⟩) 1 [(s, m)] := by
  have hk : w5.heap[W.heap.size]? = ((W.alloc (.cells #[.string s, .int .i64 m] 28)).alloc o).heap[W.heap.size]? := hg5.block _ (by simp; omega) (fun e2 => hne e2.symm)
  have h2 : Hits ((W.alloc (.cells #[.string s, .int .i64 m] 28)).alloc o) (W.heap.size + 1) (some ⟨W.heap.size, 0, none⟩) 1 [(s, m)] := h.below ((Below.refl _ _).alloc (by simp) _)
  refine ⟨rfl, h.2.1, fun _ => ⟨W.heap.size, 0, rfl, by omega, fun j x hx i v hv => ?_⟩⟩
  rw [World.cell?_of_block hk]
  exact h2.cell hx hv
theorem walkFnHitsValid (HC : HitsValidC) (A : Option Addr) (n c : Nat) (w : World) (h : Bytes w w.heap.size A n) (hnc : n ≤ c) (hc : c ≤ maxLen) :
    Calls Try.prog 3 #[.slice A n c] w fun e w' => e = .returned (.bool true) ∧ Below w.heap.size w w' := by
  have HC := Lib.hid HC
  have hn : n ≤ maxLen := Nat.le_trans hnc hc
  unfold maxLen at hn
  by_cases hn2 : (1048576 : Int) < n
  · go_enter Try.func3, Try.ntmps3
    go_wp2_with fail
    go_ret
    exact ⟨rfl, Below.refl _ _⟩
  · go_enter Try.func3, Try.ntmps3
    go_wp2_with fail
    refine (drawHitsValid_any _ _ _ _ h hnc hc).mono ?_
    clear h
    rintro e w1 ⟨g, m, cap, d, rfl, own, hm64, hdr, B1⟩
    obtain ⟨hmc, hcm⟩ := own.capsH
    have hl := own.len
    have hm : m ≤ 1048576 := by omega
    have H := own.recs
    have hgl : g < w1.heap.size := by
      rcases own.shape with ⟨q, _⟩ | ⟨_, q, _, q2, _⟩
      · cases q
      · cases q; exact q2
    have z1 := B1.size
    clear own
    cases hv : hitsB d
    · have CI := Lib.hid (hitsValidC_is HC.out hv)
      have CS := Lib.hid (hitsValid_spec_is hv)
      clear hv hl hdr
      go_wp2_with fail
      refine (CI.out _ _ _ _ _ hm hmc hcm H (Nat.le_refl _)).mono ?_
      rintro e w2 ⟨rfl, hb⟩
      have H := H.step hb (Nat.le_refl _)
      have B2 := below_step B1 (Nat.le_refl _) hb
      have z2 := hb.size
      clear hb B1
      go_wp2_with fail
      refine (CS.out _ _ _ _ _ hm H z2).mono ?_
      rintro e w3 ⟨rfl, hb⟩
      have B3 := below_step B2 (Nat.le_refl _) hb
      clear hb B2 H
      go_wp2_with fail
      refine (alive_any _).mono ?_
      rintro e w4 ⟨rfl, hd⟩
      go_wp2_with fail
      go_ret
      exact ⟨rfl, below_step B3 (Nat.le_refl _) hd.below⟩
    · have CI := Lib.hid (hitsValidC_is HC.out hv)
      have CS := Lib.hid (hitsValid_spec_is hv)
      by_cases hm0 : m = 0
      · subst hm0
        clear hv hl hdr
        go_wp2_with fail
        refine (CI.out _ _ _ _ _ hm hmc hcm H (Nat.le_refl _)).mono ?_
        rintro e w2 ⟨rfl, hb⟩
        have H := H.step hb (Nat.le_refl _)
        have B2 := below_step B1 (Nat.le_refl _) hb
        have z2 := hb.size
        clear hb B1
        go_wp2_with fail
        refine (CS.out _ _ _ _ _ hm H z2).mono ?_
        rintro e w3 ⟨rfl, hb⟩
        have B3 := below_step B2 (Nat.le_refl _) hb
        clear hb B2 H
        go_wp2_with fail
        refine (alive_any _).mono ?_
        rintro e w4 ⟨rfl, hd⟩
        go_wp2_with fail
        go_ret
        exact ⟨rfl, below_step B3 (Nat.le_refl _) hd.below⟩
      · have hmp : 0 < m := by omega
        have hmb : ((m : Int) == 0) = false := by simp; omega
        obtain ⟨⟨s, x⟩, hx⟩ : ∃ x, d[0]? = some x := ⟨_, List.getElem?_eq_getElem (by omega)⟩
        have hok := hdr _ (List.mem_of_getElem? hx)
        have hs' : s.size ≤ maxLen := by have := hok.1; unfold maxLen; simp only at this; omega
        have hx' : I64 x := by have := hok.2; unfold I64; simp only at this; omega
        have hbad : hitsB (d ++ [(s, x)]) = false := hits_twice (List.mem_of_getElem? hx)
        have hmid : m / 2 < m := by omega
        have htd : (m : Int).tdiv 2 = ((m / 2 : Nat) : Int) := rfl
        generalize m / 2 = mid at hmid htd
        have hpart := hits_drop hv mid
        have hwk := IntWalk.i64_in (mid : Int) (by omega)
        have CB := Lib.hid (fun A n c B W => hitsValidC_is HC.out hbad A n c B W)
        have CP := Lib.hid (hitsValidC_is HC.out hpart)
        have HO := Lib.hid (fun W : World => hits_empty W)
        have HIT := Lib.hid (fun W : World => hits_one W s x hs' hx')
        have HX := Lib.hid hx
        have hmi : (0 : Int) < (m : Int) := by omega
        clear hv hbad hpart hx hdr hl hm0 hok
        go_wp2_with fail
        refine (CI.out _ _ _ _ _ hm hmc hcm H (Nat.le_refl _)).mono ?_
        rintro e w2 ⟨rfl, hb⟩
        have H := H.step hb (Nat.le_refl _)
        have B2 := below_step B1 (Nat.le_refl _) hb
        have z2 := hb.size
        clear hb B1
        go_wp2_with fail
        refine (CS.out _ _ _ _ _ hm H z2).mono ?_
        rintro e w3 ⟨rfl, hb⟩
        have H := H.step hb z2
        have B3 := below_step B2 (Nat.le_refl _) hb
        have z3 := hb.size
        clear hb B2
        have hcut : Hits w3 w1.heap.size (some ⟨g, mid * 2, none⟩) (m - mid) (d.drop mid) := by have := H.tail (k := mid) (by omega); rwa [Nat.zero_add] at this
        obtain ⟨q0, q1⟩ := hits_cell H HX.out
        simp only [Nat.zero_mul, Nat.zero_add] at q0 q1
        have hmne : ¬ cap = mid := by omega
        have hk0 : (0 : Int) ≤ ((mid : Nat) : Int) := by omega
        have hk1 : ((mid : Nat) : Int) ≤ (m : Int) := by omega
        have hk2 : ((mid : Nat) : Int) ≤ (cap : Int) := by omega
        have hz31 : w1.heap.size ≤ w3.heap.size := by omega
        have HH := Lib.hid H
        have HCUT := Lib.hid hcut
        clear H hcut
        go_wp2_with fail
        go_region_held3 (fun w' => w'.cell? ⟨g, 0, none⟩ = some (.string s) ∧ w'.cell? ⟨g, 1, none⟩ = some (.int .i64 x))
          (first | exact ⟨q0, q1⟩ | exact ⟨o0, o1⟩ | exact ⟨p0, p1⟩ | exact ⟨r0, r1⟩ | exact ⟨u0, u1⟩ | go_keep | assumption)
          (first
            | (go_at_call 14
               (with_reducible refine (CP.out _ (m - mid) (cap - mid) w1.heap.size _ (by omega) (by omega) (by omega) ?_ ?_).mono ?_)
               · first | exact HCUT.out | exact HCUT.out.drawn (Drawn.drew1 _)
               · first | omega | exact hz31
               rintro e w4 ⟨rfl, hb4⟩
               have hb4 : Below w3.heap.size w3 w4 := ⟨hb4.os, hb4.tape, hb4.output, hb4.size, hb4.block⟩
               have H4 := HH.out.step hb4 hz31
               have o0 := (hb4.cell (p := ⟨g, 0, none⟩) (show g < w3.heap.size by omega)).trans q0
               have o1 := (hb4.cell (p := ⟨g, 1, none⟩) (show g < w3.heap.size by omega)).trans q1
               have B4 := below_step B3 (Nat.le_refl _) hb4
               have z4 := hb4.size
               have hBr : w1.heap.size ≤ w4.heap.size := by omega)
            | ((with_reducible refine step_append_recs (R := hitR) ?_ (.tmp 31) (.tmp 32) ?_ w4.heap.size w1.heap.size 0 0 m cap (some ⟨w4.heap.size, 0, none⟩) (some ⟨g, 0, none⟩) [] d ?_ (HO.out w4) ?_ (H4.step ((Below.refl _ _).alloc (Nat.le_refl _) _) hBr) ?_ ?_ ?_)
               · rfl
               · rfl
               · rfl
               · rfl
               · first | (simp; done) | (simp; omega)
               · omega
               intro A5 cap5 w5 hown5 hg5 hr5 hne5
               have hb5 : Below w4.heap.size w4 w5 := below_append ((Below.refl _ _).alloc (Nat.le_refl _) _) (by simp) (HO.out w4) (Nat.le_refl _) hg5
               simp only [Nat.zero_add, List.nil_append] at hown5 ⊢
               have hz5 := hb5.size
               have p0 := (hb5.cell (p := ⟨g, 0, none⟩) (show g < w4.heap.size by omega)).trans o0
               have p1 := (hb5.cell (p := ⟨g, 1, none⟩) (show g < w4.heap.size by omega)).trans o1
               have hlit5 : Hits (w5.alloc (.cells #[.string s, .int .i64 x] 28)) (w5.heap.size + 1) (some ⟨w5.heap.size, 0, none⟩) 1 [(s, x)] := HIT.out w5
               clear hg5 hr5 hne5)
            | ((with_reducible refine step_append_recs (R := hitR) ?_ (.tmp 31) (.tmp 32) ?_ w4.heap.size w1.heap.size 0 0 m cap (some ⟨w4.heap.size, 0, none⟩) (some ⟨g, 0, none⟩) [] d ?_ ((HO.out w4).alloc _) ?_ (H4.step (((Below.refl _ _).alloc (Nat.le_refl _) _).alloc (by simp) _) hBr) ?_ ?_ ?_)
               · rfl
               · rfl
               · rfl
               · rfl
               · first | (simp; done) | (simp; omega)
               · omega
               intro A5 cap5 w5 hown5 hg5 hr5 hne5
               have hb5 : Below w4.heap.size w4 w5 := below_append (((Below.refl _ _).alloc (Nat.le_refl _) _).alloc (by simp) _) (by simp; omega) ((HO.out w4).alloc _) (Nat.le_refl _) hg5
               have hlit5 : Hits w5 (w4.heap.size + 2) (some ⟨w4.heap.size + 1, 0, none⟩) 1 [(s, x)] := litH_kept2 (HIT.out (w4.alloc (.cells #[] 28))) (by simp) hg5 (by simp [Value.ownBlock])
               simp only [Nat.zero_add, List.nil_append] at hown5 ⊢
               have hz5 := hb5.size
               have p0 := (hb5.cell (p := ⟨g, 0, none⟩) (show g < w4.heap.size by omega)).trans o0
               have p1 := (hb5.cell (p := ⟨g, 1, none⟩) (show g < w4.heap.size by omega)).trans o1
               clear hg5 hr5 hne5)
            | ((with_reducible refine step_append_recs (R := hitR) ?_ (.tmp 31) (.tmp 32) ?_ w4.heap.size w1.heap.size 0 0 m cap (some ⟨w4.heap.size + 1, 0, none⟩) (some ⟨g, 0, none⟩) [] d ?_ (ownH_second w4 (.cells #[.string s, .int .i64 x] 28)) ?_ (H4.step (((Below.refl _ _).alloc (Nat.le_refl _) _).alloc (by simp) _) hBr) ?_ ?_ ?_)
               · rfl
               · rfl
               · rfl
               · rfl
               · first | (simp; done) | (simp; omega)
               · omega
               intro A5 cap5 w5 hown5 hg5 hr5 hne5
               have hb5 : Below w4.heap.size w4 w5 := below_append (((Below.refl _ _).alloc (Nat.le_refl _) _).alloc (by simp) _) (by simp; omega) (ownH_second w4 (.cells #[.string s, .int .i64 x] 28)) (Nat.le_refl _) hg5
               have hlit5 : Hits w5 (w4.heap.size + 1) (some ⟨w4.heap.size, 0, none⟩) 1 [(s, x)] := litH_first2 (HIT.out w4) hg5 (by simp [Value.ownBlock])
               simp only [Nat.zero_add, List.nil_append] at hown5 ⊢
               have hz5 := hb5.size
               have p0 := (hb5.cell (p := ⟨g, 0, none⟩) (show g < w4.heap.size by omega)).trans o0
               have p1 := (hb5.cell (p := ⟨g, 1, none⟩) (show g < w4.heap.size by omega)).trans o1
               clear hg5 hr5 hne5)
            | ((with_reducible refine step_append_recs (R := hitR) ?_ (.tmp 33) (.tmp 37) ?_ w4.heap.size (w5.heap.size + 1) m cap5 1 1 A5 (some ⟨w5.heap.size, 0, none⟩) d [(s, x)] ?_ (hown5.alloc _) ?_ hlit5 ?_ ?_ ?_)
               · rfl
               · rfl
               · rfl
               · rfl
               · first | exact hz5 | (simp; done) | (simp; omega)
               · omega
               intro A6 cap6 w6 hown6 hg6 hr6 hne6
               have hb6 : Below w4.heap.size w4 w6 := below_append (hb5.alloc hz5 _) (by simp; omega) (hown5.alloc _) (Nat.le_refl _) hg6
               have hz6 := hb6.size
               have r0 := (hb6.cell (p := ⟨g, 0, none⟩) (show g < w4.heap.size by omega)).trans o0
               have r1 := (hb6.cell (p := ⟨g, 1, none⟩) (show g < w4.heap.size by omega)).trans o1
               have own6c := hown6.capsH
               clear hg6 hr6 hne6)
            | ((with_reducible refine step_append_recs (R := hitR) ?_ (.tmp 33) (.tmp 37) ?_ w4.heap.size (w4.heap.size + 2) m cap5 1 1 A5 (some ⟨w4.heap.size + 1, 0, none⟩) d [(s, x)] ?_ hown5 ?_ hlit5 ?_ ?_ ?_)
               · rfl
               · rfl
               · rfl
               · rfl
               · first | exact hz5 | (simp; done) | (simp; omega)
               · omega
               intro A6 cap6 w6 hown6 hg6 hr6 hne6
               have hb6 : Below w4.heap.size w4 w6 := below_append hb5 hz5 hown5 (Nat.le_refl _) hg6
               have hz6 := hb6.size
               have r0 := (hb6.cell (p := ⟨g, 0, none⟩) (show g < w4.heap.size by omega)).trans o0
               have r1 := (hb6.cell (p := ⟨g, 1, none⟩) (show g < w4.heap.size by omega)).trans o1
               have own6c := hown6.capsH
               clear hg6 hr6 hne6)
            | ((with_reducible refine step_append_recs (R := hitR) ?_ (.tmp 33) (.tmp 37) ?_ w4.heap.size (w4.heap.size + 1) m cap5 1 1 A5 (some ⟨w4.heap.size, 0, none⟩) d [(s, x)] ?_ hown5 ?_ hlit5 ?_ ?_ ?_)
               · rfl
               · rfl
               · rfl
               · rfl
               · first | exact hz5 | (simp; done) | (simp; omega)
               · omega
               intro A6 cap6 w6 hown6 hg6 hr6 hne6
               have hb6 : Below w4.heap.size w4 w6 := below_append hb5 hz5 hown5 (Nat.le_refl _) hg6
               have hz6 := hb6.size
               have r0 := (hb6.cell (p := ⟨g, 0, none⟩) (show g < w4.heap.size by omega)).trans o0
               have r1 := (hb6.cell (p := ⟨g, 1, none⟩) (show g < w4.heap.size by omega)).trans o1
               have own6c := hown6.capsH
               clear hg6 hr6 hne6)
            | (go_at_call 14
               (with_reducible refine (CB.out A6 (m + 1) cap6 w6.heap.size w6 (by omega) own6c.1 own6c.2 hown6.recs (Nat.le_refl _)).mono ?_)
               rintro e w7 ⟨rfl, hb7⟩
               have hb67 := below_step hb6 (Nat.le_refl _) hb7
               have u0 := (hb67.cell (p := ⟨g, 0, none⟩) (show g < w4.heap.size by omega)).trans o0
               have u1 := (hb67.cell (p := ⟨g, 1, none⟩) (show g < w4.heap.size by omega)).trans o1
               have B7 := B4.trans (hb67.mono (by have := B4.size; omega)))
            | fail)
        all_goals
          go_wp2_with fail
          go_ret
          exact ⟨rfl, by first | exact B7 | exact B7.drew⟩
end Go.Proofs.Ytmolphaihapkkaa
