/- Contract of the model's l7Insert. -/
import Derived.Test.YtmolphaihapkkaaHitSpec
import Derived.Deep.RegionHeld3
import Derived.Deep.RegionLaw
import Derived.Deep.RegionWith
import Derived.Deep.Cut
namespace Go.Proofs.Ytmolphaihapkkaa
open Go.RowKit
set_option maxHeartbeats 3200000
set_option maxRecDepth 4096
set_option linter.unusedSimpArgs false
set_option linter.unusedVariables false

theorem hits_cut {w : World} {B n b o : Nat} {d : List Hit} (h : Hits w B (some ⟨b, o, none⟩) n d) (c k : Nat) (hk : k ≤ n) (hn : n ≤ c) : Hits w B (if c = k then some ⟨b, o, none⟩ else some ⟨b, o + k * 2, none⟩) (n - k) (d.drop k) := by
  by_cases e : c = k
  · rw [if_pos e]
    have h1 : n - k = 0 := by omega
    have h2 : d.drop k = [] := List.drop_eq_nil_of_le (by rw [h.len]; omega)
    rw [h1, h2]
    exact Recs.nothing _
  · rw [if_neg e]; exact h.tail hk
theorem ownH_second (w : World) (o : Obj) : OwnHits ((w.alloc o).alloc (.cells #[] 28)) w.heap.size (some ⟨w.heap.size + 1, 0, none⟩) 0 0 [] := by
  have h := (OwnR.empty (R := hitR) (w.alloc o)).mono (base := w.heap.size) (by simp)
  have e : (w.alloc o).heap.size = w.heap.size + 1 := by simp
  rw [e] at h
  exact h
theorem litH_kept {W w5 : World} {g : Nat} {e : Option Nat} {s : ByteArray} {m : Int} (h : Hits (W.alloc (.cells #[.string s, .int .i64 m] 28)) (W.heap.size + 1) (some ⟨W.heap.size, 0, none⟩) 1 [(s, m)]) (hg : W.heap.size = g)
    (hg5 : (W.alloc (.cells #[.string s, .int .i64 m] 28)).drew.grownBy w5 e) (hne : e ≠ some g) : Hits w5 (g + 1) (some ⟨g, 0, none⟩) 1 [(s, m)] := by
  subst hg
  have hk : w5.heap[W.heap.size]? = (W.alloc (.cells #[.string s, .int .i64 m] 28)).heap[W.heap.size]? := hg5.block _ (by show W.heap.size < (W.alloc _).heap.size; simp) (fun e2 => hne e2.symm)
  refine ⟨rfl, h.2.1, fun _ => ⟨W.heap.size, 0, rfl, by omega, fun j x hx i v hv => ?_⟩⟩
  have := h.cell hx hv
  rw [World.cell?_of_block hk]
  exact this
theorem litH_first {W w5 : World} {o : Obj} {e : Option Nat} {s : ByteArray} {m : Int} (h : Hits (W.alloc (.cells #[.string s, .int .i64 m] 28)) (W.heap.size + 1) (some ⟨W.heap.size, 0, none⟩) 1 [(s, m)])
    (hg5 : ((W.alloc (.cells #[.string s, .int .i64 m] 28)).alloc o).drew.grownBy w5 e) (hne : e ≠ some W.heap.size) : Hits w5 (W.heap.size + 1) (some ⟨W.heap.size, 0, none⟩) 1 [(s, m)] := by
  have hk : w5.heap[W.heap.size]? = ((W.alloc (.cells #[.string s, .int .i64 m] 28)).alloc o).heap[W.heap.size]? := hg5.block _ (by show W.heap.size < ((W.alloc _).alloc _).heap.size; simp; omega) (fun e2 => hne e2.symm)
  have h2 : Hits ((W.alloc (.cells #[.string s, .int .i64 m] 28)).alloc o) (W.heap.size + 1) (some ⟨W.heap.size, 0, none⟩) 1 [(s, m)] := h.below ((Below.refl _ _).alloc (by simp) _)
  refine ⟨rfl, h.2.1, fun _ => ⟨W.heap.size, 0, rfl, by omega, fun j x hx i v hv => ?_⟩⟩
  rw [World.cell?_of_block hk]
  exact h2.cell hx hv

theorem hitIns_any (b o n c B : Nat) (l : List Hit) (s : ByteArray) (x : Int) (w : World) (hn : n ≤ 1048576) (hnc : n ≤ c) (hc : c ≤ maxLen) (h : Hits w B (some ⟨b, o, none⟩) n l) (hB : B ≤ w.heap.size) (hs : s.size ≤ maxLen) (hx : I64 x) :
    Calls Try.prog 61 #[.slice (some ⟨b, o, none⟩) n c, .agg #[.string s, .int .i64 x]] w fun e w' => ∃ g cap, e = .returned (.slice (some ⟨g, 0, none⟩) (n + 1) cap) ∧ OwnHits w' w.heap.size (some ⟨g, 0, none⟩) (n + 1) cap (insH (s, x) l) ∧ Below w.heap.size w w' := by
  have HL := Lib.hid h.len
  have hs' := hs
  have hc' := hc
  unfold maxLen at hs hc
  have HIT := Lib.hid (fun W : World => hits_one W s x hs' hx)
  have HO := Lib.hid (fun W : World => hits_empty W)
  have HD0 := Lib.hid ((hits_one w s x hs' hx).cell (j := 0) (i := 0) rfl rfl)
  have HD1 := Lib.hid ((hits_one w s x hs' hx).cell (j := 0) (i := 1) rfl rfl)
  have HBW := Lib.hid ((Below.refl _ w).alloc (Nat.le_refl _) (.cells #[.string s, .int .i64 x] 28))
  have HSZ := Lib.hid (show (w.alloc (.cells #[.string s, .int .i64 x] 28)).heap.size = w.heap.size + 1 by simp)
  have HR := Lib.hid (h.step ((Below.refl _ w).alloc (Nat.le_refl _) (.cells #[.string s, .int .i64 x] 28)) hB)
  go_enter Try.func61, Try.ntmps61
  go_wp2_with fail
  have d0 := HD0.out
  have d1 := HD1.out
  have hb0 := HBW.out
  have hz0 := HSZ.out
  have hr := HR.out
  change World.cell? _ ⟨w.heap.size, 0, none⟩ = _ at d0
  change World.cell? _ ⟨w.heap.size, 1, none⟩ = _ at d1
  clear HD0 HD1 HBW HSZ HR h
  generalize hgg : w.heap.size = g at *
  generalize (w.alloc (.cells #[.string s, .int .i64 x] 28)) = W at *
  go_loopw [5] (fun i wr => ∃ k : Nat, k ≤ n ∧ i = .int .i64 k ∧ Hid (atH (s, x) l n = atH (s, x) l k) ∧ Below W.heap.size W wr) (fun i _ => (intOf i).toNat)
  case atStart => exact ⟨n, Nat.le_refl _, rfl, Lib.hid rfl, Below.refl _ _⟩
  case round =>
    obtain ⟨k, hk, rfl, HK, hbel⟩ := hrel
    have hzb := hbel.size
    have q0 := (hbel.cell (p := ⟨g, 0, none⟩) (show g < W.heap.size by omega)).trans d0
    have q1 := (hbel.cell (p := ⟨g, 1, none⟩) (show g < W.heap.size by omega)).trans d1
    have hr2 := hr.step hbel (by omega)
    have hcase : (k = 0 ∧ atH (s, x) l k = k) ∨ ∃ m s' x', k = m + 1 ∧ l[m]? = some (s', x') := by
      rcases Nat.eq_zero_or_pos k with h0 | h0
      · exact .inl ⟨h0, by rw [h0]; rfl⟩
      · obtain ⟨b', o', s', x', hA, _, hdp, hs2, hx2, _, _⟩ := hits_at hr2 (show k - 1 < n by omega)
        exact .inr ⟨k - 1, s', x', by omega, hdp⟩
    rcases hcase with ⟨h0, hat⟩ | ⟨m, s', x', rfl, hdp⟩
    · have HAT := Lib.hid (HK.out.trans hat)
      have HK0 := Lib.hid h0
      clear hat HK h0
      have i0 : ¬ (0 : Int) < (k : Int) := by have := HK0.out; omega
      have i1 : decide ((0 : Int) < (k : Int)) = false := decide_eq_false i0
      have i2 : decide ((k : Int) > 0) = false := decide_eq_false i0
      have i3 : ¬ 0 < k := by omega
      have i4 : decide (0 < k) = false := decide_eq_false i3
      go_wp2_with fail
      go_quiet (fail)
      generalize hVV : wr.drewN nq = V
      have hdV : Drawn wr V := ⟨nq, hVV.symm⟩
      clear hVV
      clear i0 i1 i2 i3 i4
      have hbV : Below W.heap.size W V := below_step hbel (Nat.le_refl _) hdV.below
      have q0 := (hdV.cell _).trans q0
      have q1 := (hdV.cell _).trans q1
      have hr2 := hr2.drawn hdV
      have hzV := hbV.size
      have hBV : B ≤ V.heap.size := by omega
      have i0 : (0 : Int) ≤ (k : Int) := by omega
      have i1 : (k : Int) ≤ (n : Int) := by omega
      have i2 : (k : Int) ≤ (c : Int) := by omega
      have HC2 := Lib.hid (hits_cut hr2 c k hk hnc)
      have HH := Lib.hid (hr2.head (k := k) hk)
      have HI := Lib.hid (show insH (s, x) l = (l.take k ++ [(s, x)]) ++ l.drop k by unfold insH; rw [HL.out, HAT.out])
      clear hr2 HAT
      by_cases hck : c = k
      · have HC2 := Lib.hid (by have q := HC2.out; rwa [if_pos hck] at q : Hits _ B (some ⟨b, o, none⟩) (n - k) (l.drop k))
        obtain rfl : n = k := by omega
        obtain rfl : c = n := by omega
        rw [Nat.sub_self] at HC2
        clear hck i0 i1 i2 hk hnc
        have i0 : (0 : Int) ≤ (c : Int) := by omega
        go_wp2_with
          (at_builtin
           refine wp_append_recs (R := hitR) rfl (.tmp 22) (.tmp 25) rfl V.heap.size B 0 0 0 0 (some ⟨V.heap.size, 0, none⟩) (some ⟨b, o, none⟩) [] (l.drop c) rfl (HO.out V) rfl (HC2.out.step ((Below.refl _ _).alloc (Nat.le_refl _) _) hBV) (by simp) (by omega) ?_
           intro AT capT wT hownT hgT hrT hneT)
        have hbT : Below V.heap.size V wT := below_append ((Below.refl _ _).alloc (Nat.le_refl _) _) (by simp) (HO.out V) (Nat.le_refl _) hgT
        simp only [Nat.zero_add, List.nil_append] at hownT ⊢
        have hzT := hbT.size
        have hT : Hits wT wT.heap.size AT 0 (l.drop c) := hownT.recs
        have HH := Lib.hid (HH.out.step hbT hBV)
        have q0 := (hbT.cell (p := ⟨g, 0, none⟩) (show g < V.heap.size by omega)).trans q0
        have q1 := (hbT.cell (p := ⟨g, 1, none⟩) (show g < V.heap.size by omega)).trans q1
        have hbR := below_step hbV (Nat.le_refl _) hbT
        have hBr : B ≤ wT.heap.size := by omega
        have HT := Lib.hid hT
        clear hownT hgT hrT hneT HC2 hbT hbV hT
        have hzR := hbR.size
        go_wp2_with fail
        go_region_held3 (fun w' => w'.cell? ⟨g, 0, none⟩ = some (.string s) ∧ w'.cell? ⟨g, 1, none⟩ = some (.int .i64 x))
          (first | exact ⟨q0, q1⟩ | exact ⟨p0, p1⟩ | exact ⟨r0, r1⟩ | exact ⟨s0, s1⟩ | go_keep | assumption)
          (first
            | ((with_reducible refine step_append_recs (R := hitR) ?_ (.tmp 27) (.tmp 30) ?_ wT.heap.size B 0 0 c c (some ⟨wT.heap.size, 0, none⟩) (some ⟨b, o, none⟩) [] (l.take c) ?_ ((HO.out wT).drawn (Drawn.drew1 _)) ?_ (HH.out.step ((Below.refl _ _).alloc (Nat.le_refl _) _).drew hBr) ?_ ?_ ?_)
               · rfl
               · rfl
               · rfl
               · rfl
               · first | (simp; done) | (simp; omega)
               · omega
               intro A5 cap5 w5 hown5 hg5 hr5 hne5
               have hb5 : Below wT.heap.size wT w5 := below_append ((Below.refl _ _).alloc (Nat.le_refl _) _).drew (by simp) ((HO.out wT).drawn (Drawn.drew1 _)) (Nat.le_refl _) hg5
               simp only [Nat.zero_add, List.nil_append] at hown5 ⊢
               have hz5 := hb5.size
               have p0 := (hb5.cell (p := ⟨g, 0, none⟩) (show g < wT.heap.size by omega)).trans q0
               have p1 := (hb5.cell (p := ⟨g, 1, none⟩) (show g < wT.heap.size by omega)).trans q1
               have hlit5 : Hits (w5.alloc (.cells #[.string s, .int .i64 x] 28)) (w5.heap.size + 1) (some ⟨w5.heap.size, 0, none⟩) 1 [(s, x)] := HIT.out w5
               clear hg5 hr5 hne5)
            | ((with_reducible refine step_append_recs (R := hitR) ?_ (.tmp 27) (.tmp 30) ?_ wT.heap.size B 0 0 c c (some ⟨wT.heap.size, 0, none⟩) (some ⟨b, o, none⟩) [] (l.take c) ?_ (((HO.out wT).alloc _).drawn (Drawn.drew1 _)) ?_ (HH.out.step (((Below.refl _ _).alloc (Nat.le_refl _) _).alloc (by simp) _).drew hBr) ?_ ?_ ?_)
               · rfl
               · rfl
               · rfl
               · rfl
               · first | (simp; done) | (simp; omega)
               · omega
               intro A5 cap5 w5 hown5 hg5 hr5 hne5
               have hb5 : Below wT.heap.size wT w5 := below_append (((Below.refl _ _).alloc (Nat.le_refl _) _).alloc (by simp) _).drew (by simp; omega) (((HO.out wT).alloc _).drawn (Drawn.drew1 _)) (Nat.le_refl _) hg5
               have hlit5 : Hits w5 (wT.heap.size + 2) (some ⟨wT.heap.size + 1, 0, none⟩) 1 [(s, x)] := litH_kept (HIT.out (wT.alloc (.cells #[] 28))) (by simp) hg5 (by simp [Value.ownBlock])
               simp only [Nat.zero_add, List.nil_append] at hown5 ⊢
               have hz5 := hb5.size
               have p0 := (hb5.cell (p := ⟨g, 0, none⟩) (show g < wT.heap.size by omega)).trans q0
               have p1 := (hb5.cell (p := ⟨g, 1, none⟩) (show g < wT.heap.size by omega)).trans q1
               clear hg5 hr5 hne5)
            | ((with_reducible refine step_append_recs (R := hitR) ?_ (.tmp 27) (.tmp 30) ?_ wT.heap.size B 0 0 c c (some ⟨wT.heap.size + 1, 0, none⟩) (some ⟨b, o, none⟩) [] (l.take c) ?_ ((ownH_second wT (.cells #[.string s, .int .i64 x] 28)).drawn (Drawn.drew1 _)) ?_ (HH.out.step (((Below.refl _ _).alloc (Nat.le_refl _) _).alloc (by simp) _).drew hBr) ?_ ?_ ?_)
               · rfl
               · rfl
               · rfl
               · rfl
               · first | (simp; done) | (simp; omega)
               · omega
               intro A5 cap5 w5 hown5 hg5 hr5 hne5
               have hb5 : Below wT.heap.size wT w5 := below_append (((Below.refl _ _).alloc (Nat.le_refl _) _).alloc (by simp) _).drew (by simp; omega) ((ownH_second wT (.cells #[.string s, .int .i64 x] 28)).drawn (Drawn.drew1 _)) (Nat.le_refl _) hg5
               have hlit5 : Hits w5 (wT.heap.size + 1) (some ⟨wT.heap.size, 0, none⟩) 1 [(s, x)] := litH_first (HIT.out wT) hg5 (by simp [Value.ownBlock])
               simp only [Nat.zero_add, List.nil_append] at hown5 ⊢
               have hz5 := hb5.size
               have p0 := (hb5.cell (p := ⟨g, 0, none⟩) (show g < wT.heap.size by omega)).trans q0
               have p1 := (hb5.cell (p := ⟨g, 1, none⟩) (show g < wT.heap.size by omega)).trans q1
               clear hg5 hr5 hne5)
            | ((with_reducible refine step_append_recs (R := hitR) ?_ (.tmp 31) (.tmp 33) ?_ wT.heap.size (w5.heap.size + 1) c cap5 1 1 A5 (some ⟨w5.heap.size, 0, none⟩) (l.take c) [(s, x)] ?_ (hown5.alloc _) ?_ hlit5 ?_ ?_ ?_)
               · rfl
               · rfl
               · rfl
               · rfl
               · first | exact hz5 | (simp; done) | (simp; omega)
               · omega
               intro A6 cap6 w6 hown6 hg6 hr6 hne6
               have hb6 : Below wT.heap.size wT w6 := below_append (hb5.alloc hz5 _) (by simp; omega) (hown5.alloc _) (Nat.le_refl _) hg6
               have hz6 := hb6.size
               have r0 := (hb6.cell (p := ⟨g, 0, none⟩) (show g < wT.heap.size by omega)).trans q0
               have r1 := (hb6.cell (p := ⟨g, 1, none⟩) (show g < wT.heap.size by omega)).trans q1
               clear hg6 hr6 hne6)
            | ((with_reducible refine step_append_recs (R := hitR) ?_ (.tmp 31) (.tmp 33) ?_ wT.heap.size (wT.heap.size + 2) c cap5 1 1 A5 (some ⟨wT.heap.size + 1, 0, none⟩) (l.take c) [(s, x)] ?_ hown5 ?_ hlit5 ?_ ?_ ?_)
               · rfl
               · rfl
               · rfl
               · rfl
               · first | exact hz5 | (simp; done) | (simp; omega)
               · omega
               intro A6 cap6 w6 hown6 hg6 hr6 hne6
               have hb6 : Below wT.heap.size wT w6 := below_append hb5 hz5 hown5 (Nat.le_refl _) hg6
               have hz6 := hb6.size
               have r0 := (hb6.cell (p := ⟨g, 0, none⟩) (show g < wT.heap.size by omega)).trans q0
               have r1 := (hb6.cell (p := ⟨g, 1, none⟩) (show g < wT.heap.size by omega)).trans q1
               clear hg6 hr6 hne6)
            | ((with_reducible refine step_append_recs (R := hitR) ?_ (.tmp 31) (.tmp 33) ?_ wT.heap.size (wT.heap.size + 1) c cap5 1 1 A5 (some ⟨wT.heap.size, 0, none⟩) (l.take c) [(s, x)] ?_ hown5 ?_ hlit5 ?_ ?_ ?_)
               · rfl
               · rfl
               · rfl
               · rfl
               · first | exact hz5 | (simp; done) | (simp; omega)
               · omega
               intro A6 cap6 w6 hown6 hg6 hr6 hne6
               have hb6 : Below wT.heap.size wT w6 := below_append hb5 hz5 hown5 (Nat.le_refl _) hg6
               have hz6 := hb6.size
               have r0 := (hb6.cell (p := ⟨g, 0, none⟩) (show g < wT.heap.size by omega)).trans q0
               have r1 := (hb6.cell (p := ⟨g, 1, none⟩) (show g < wT.heap.size by omega)).trans q1
               clear hg6 hr6 hne6)
            | ((with_reducible refine step_append_recs (R := hitR) ?_ (.tmp 34) (.tmp 35) ?_ wT.heap.size wT.heap.size (c + 1) cap6 0 capT A6 AT (l.take c ++ [(s, x)]) (l.drop c) ?_ hown6 ?_ (HT.out.step hb6 (Nat.le_refl _)) ?_ ?_ ?_)
               · rfl
               · rfl
               · rfl
               · rfl
               · exact hz6
               · omega
               intro A7 cap7 w7 hown7 hg7 hr7 hne7
               have hb7 : Below wT.heap.size wT w7 := below_append hb6 hz6 hown6 (Nat.le_refl _) hg7
               obtain ⟨g7, rfl, hgl7⟩ : ∃ g7, A7 = some ⟨g7, 0, none⟩ ∧ wT.heap.size ≤ g7 := by
                 rcases hown7.shape with ⟨_, e, _⟩ | ⟨g7, e, hg, _⟩
                 · exact absurd e (by omega)
                 · exact ⟨g7, e, hg⟩
               have s0 := (hb7.cell (p := ⟨g, 0, none⟩) (show g < wT.heap.size by omega)).trans q0
               have s1 := (hb7.cell (p := ⟨g, 1, none⟩) (show g < wT.heap.size by omega)).trans q1
               clear hg7 hr7 hne7)
            | fail)
        all_goals
          go_wp2_with fail
          all_goals
           go_ret
           first
            | exact ⟨g7, cap7, by first | rfl | (rw [show c + 1 = c + 1 + 0 by omega]; rfl), by rw [HI.out, hgg, show c + 1 = c + 1 + 0 by omega]; exact hown7.mono (by omega), by rw [hgg]; exact hb0.trans ((hbR.trans (hb7.mono hzR)).mono (by omega))⟩
            | exact ⟨g7, cap7, by first | rfl | (rw [show c + 1 = c + 1 + 0 by omega]; rfl), by rw [HI.out, hgg, show c + 1 = c + 1 + 0 by omega]; exact (hown7.drawn (Drawn.drew1 _)).mono (by omega), by rw [hgg]; exact hb0.trans ((hbR.trans (hb7.drew.mono hzR)).mono (by omega))⟩
      · have HC2 := Lib.hid (by have q := HC2.out; rwa [if_neg hck] at q : Hits _ B (some ⟨b, o + k * 2, none⟩) (n - k) (l.drop k))
        go_wp2_with
          (at_builtin
           refine wp_append_recs (R := hitR) rfl (.tmp 22) (.tmp 25) rfl V.heap.size B 0 0 (n - k) (c - k) (some ⟨V.heap.size, 0, none⟩) (some ⟨b, o + k * 2, none⟩) [] (l.drop k) rfl (HO.out V) rfl (HC2.out.step ((Below.refl _ _).alloc (Nat.le_refl _) _) hBV) (by simp) (by omega) ?_
           intro AT capT wT hownT hgT hrT hneT)
        have hbT : Below V.heap.size V wT := below_append ((Below.refl _ _).alloc (Nat.le_refl _) _) (by simp) (HO.out V) (Nat.le_refl _) hgT
        simp only [Nat.zero_add, List.nil_append] at hownT ⊢
        have hzT := hbT.size
        have hT : Hits wT wT.heap.size AT (n - k) (l.drop k) := hownT.recs
        have HH := Lib.hid (HH.out.step hbT hBV)
        have q0 := (hbT.cell (p := ⟨g, 0, none⟩) (show g < V.heap.size by omega)).trans q0
        have q1 := (hbT.cell (p := ⟨g, 1, none⟩) (show g < V.heap.size by omega)).trans q1
        have hbR := below_step hbV (Nat.le_refl _) hbT
        have hBr : B ≤ wT.heap.size := by omega
        have HT := Lib.hid hT
        clear hownT hgT hrT hneT HC2 hbT hbV hT
        have hzR := hbR.size
        go_wp2_with fail
        go_region_held3 (fun w' => w'.cell? ⟨g, 0, none⟩ = some (.string s) ∧ w'.cell? ⟨g, 1, none⟩ = some (.int .i64 x))
          (first | exact ⟨q0, q1⟩ | exact ⟨p0, p1⟩ | exact ⟨r0, r1⟩ | exact ⟨s0, s1⟩ | go_keep | assumption)
          (first
            | ((with_reducible refine step_append_recs (R := hitR) ?_ (.tmp 27) (.tmp 30) ?_ wT.heap.size B 0 0 k c (some ⟨wT.heap.size, 0, none⟩) (some ⟨b, o, none⟩) [] (l.take k) ?_ ((HO.out wT).drawn (Drawn.drew1 _)) ?_ (HH.out.step ((Below.refl _ _).alloc (Nat.le_refl _) _).drew hBr) ?_ ?_ ?_)
               · rfl
               · rfl
               · rfl
               · rfl
               · first | (simp; done) | (simp; omega)
               · omega
               intro A5 cap5 w5 hown5 hg5 hr5 hne5
               have hb5 : Below wT.heap.size wT w5 := below_append ((Below.refl _ _).alloc (Nat.le_refl _) _).drew (by simp) ((HO.out wT).drawn (Drawn.drew1 _)) (Nat.le_refl _) hg5
               simp only [Nat.zero_add, List.nil_append] at hown5 ⊢
               have hz5 := hb5.size
               have p0 := (hb5.cell (p := ⟨g, 0, none⟩) (show g < wT.heap.size by omega)).trans q0
               have p1 := (hb5.cell (p := ⟨g, 1, none⟩) (show g < wT.heap.size by omega)).trans q1
               have hlit5 : Hits (w5.alloc (.cells #[.string s, .int .i64 x] 28)) (w5.heap.size + 1) (some ⟨w5.heap.size, 0, none⟩) 1 [(s, x)] := HIT.out w5
               clear hg5 hr5 hne5)
            | ((with_reducible refine step_append_recs (R := hitR) ?_ (.tmp 27) (.tmp 30) ?_ wT.heap.size B 0 0 k c (some ⟨wT.heap.size, 0, none⟩) (some ⟨b, o, none⟩) [] (l.take k) ?_ (((HO.out wT).alloc _).drawn (Drawn.drew1 _)) ?_ (HH.out.step (((Below.refl _ _).alloc (Nat.le_refl _) _).alloc (by simp) _).drew hBr) ?_ ?_ ?_)
               · rfl
               · rfl
               · rfl
               · rfl
               · first | (simp; done) | (simp; omega)
               · omega
               intro A5 cap5 w5 hown5 hg5 hr5 hne5
               have hb5 : Below wT.heap.size wT w5 := below_append (((Below.refl _ _).alloc (Nat.le_refl _) _).alloc (by simp) _).drew (by simp; omega) (((HO.out wT).alloc _).drawn (Drawn.drew1 _)) (Nat.le_refl _) hg5
               have hlit5 : Hits w5 (wT.heap.size + 2) (some ⟨wT.heap.size + 1, 0, none⟩) 1 [(s, x)] := litH_kept (HIT.out (wT.alloc (.cells #[] 28))) (by simp) hg5 (by simp [Value.ownBlock])
               simp only [Nat.zero_add, List.nil_append] at hown5 ⊢
               have hz5 := hb5.size
               have p0 := (hb5.cell (p := ⟨g, 0, none⟩) (show g < wT.heap.size by omega)).trans q0
               have p1 := (hb5.cell (p := ⟨g, 1, none⟩) (show g < wT.heap.size by omega)).trans q1
               clear hg5 hr5 hne5)
            | ((with_reducible refine step_append_recs (R := hitR) ?_ (.tmp 27) (.tmp 30) ?_ wT.heap.size B 0 0 k c (some ⟨wT.heap.size + 1, 0, none⟩) (some ⟨b, o, none⟩) [] (l.take k) ?_ ((ownH_second wT (.cells #[.string s, .int .i64 x] 28)).drawn (Drawn.drew1 _)) ?_ (HH.out.step (((Below.refl _ _).alloc (Nat.le_refl _) _).alloc (by simp) _).drew hBr) ?_ ?_ ?_)
               · rfl
               · rfl
               · rfl
               · rfl
               · first | (simp; done) | (simp; omega)
               · omega
               intro A5 cap5 w5 hown5 hg5 hr5 hne5
               have hb5 : Below wT.heap.size wT w5 := below_append (((Below.refl _ _).alloc (Nat.le_refl _) _).alloc (by simp) _).drew (by simp; omega) ((ownH_second wT (.cells #[.string s, .int .i64 x] 28)).drawn (Drawn.drew1 _)) (Nat.le_refl _) hg5
               have hlit5 : Hits w5 (wT.heap.size + 1) (some ⟨wT.heap.size, 0, none⟩) 1 [(s, x)] := litH_first (HIT.out wT) hg5 (by simp [Value.ownBlock])
               simp only [Nat.zero_add, List.nil_append] at hown5 ⊢
               have hz5 := hb5.size
               have p0 := (hb5.cell (p := ⟨g, 0, none⟩) (show g < wT.heap.size by omega)).trans q0
               have p1 := (hb5.cell (p := ⟨g, 1, none⟩) (show g < wT.heap.size by omega)).trans q1
               clear hg5 hr5 hne5)
            | ((with_reducible refine step_append_recs (R := hitR) ?_ (.tmp 31) (.tmp 33) ?_ wT.heap.size (w5.heap.size + 1) k cap5 1 1 A5 (some ⟨w5.heap.size, 0, none⟩) (l.take k) [(s, x)] ?_ (hown5.alloc _) ?_ hlit5 ?_ ?_ ?_)
               · rfl
               · rfl
               · rfl
               · rfl
               · first | exact hz5 | (simp; done) | (simp; omega)
               · omega
               intro A6 cap6 w6 hown6 hg6 hr6 hne6
               have hb6 : Below wT.heap.size wT w6 := below_append (hb5.alloc hz5 _) (by simp; omega) (hown5.alloc _) (Nat.le_refl _) hg6
               have hz6 := hb6.size
               have r0 := (hb6.cell (p := ⟨g, 0, none⟩) (show g < wT.heap.size by omega)).trans q0
               have r1 := (hb6.cell (p := ⟨g, 1, none⟩) (show g < wT.heap.size by omega)).trans q1
               clear hg6 hr6 hne6)
            | ((with_reducible refine step_append_recs (R := hitR) ?_ (.tmp 31) (.tmp 33) ?_ wT.heap.size (wT.heap.size + 2) k cap5 1 1 A5 (some ⟨wT.heap.size + 1, 0, none⟩) (l.take k) [(s, x)] ?_ hown5 ?_ hlit5 ?_ ?_ ?_)
               · rfl
               · rfl
               · rfl
               · rfl
               · first | exact hz5 | (simp; done) | (simp; omega)
               · omega
               intro A6 cap6 w6 hown6 hg6 hr6 hne6
               have hb6 : Below wT.heap.size wT w6 := below_append hb5 hz5 hown5 (Nat.le_refl _) hg6
               have hz6 := hb6.size
               have r0 := (hb6.cell (p := ⟨g, 0, none⟩) (show g < wT.heap.size by omega)).trans q0
               have r1 := (hb6.cell (p := ⟨g, 1, none⟩) (show g < wT.heap.size by omega)).trans q1
               clear hg6 hr6 hne6)
            | ((with_reducible refine step_append_recs (R := hitR) ?_ (.tmp 31) (.tmp 33) ?_ wT.heap.size (wT.heap.size + 1) k cap5 1 1 A5 (some ⟨wT.heap.size, 0, none⟩) (l.take k) [(s, x)] ?_ hown5 ?_ hlit5 ?_ ?_ ?_)
               · rfl
               · rfl
               · rfl
               · rfl
               · first | exact hz5 | (simp; done) | (simp; omega)
               · omega
               intro A6 cap6 w6 hown6 hg6 hr6 hne6
               have hb6 : Below wT.heap.size wT w6 := below_append hb5 hz5 hown5 (Nat.le_refl _) hg6
               have hz6 := hb6.size
               have r0 := (hb6.cell (p := ⟨g, 0, none⟩) (show g < wT.heap.size by omega)).trans q0
               have r1 := (hb6.cell (p := ⟨g, 1, none⟩) (show g < wT.heap.size by omega)).trans q1
               clear hg6 hr6 hne6)
            | ((with_reducible refine step_append_recs (R := hitR) ?_ (.tmp 34) (.tmp 35) ?_ wT.heap.size wT.heap.size (k + 1) cap6 (n - k) capT A6 AT (l.take k ++ [(s, x)]) (l.drop k) ?_ hown6 ?_ (HT.out.step hb6 (Nat.le_refl _)) ?_ ?_ ?_)
               · rfl
               · rfl
               · rfl
               · rfl
               · exact hz6
               · omega
               intro A7 cap7 w7 hown7 hg7 hr7 hne7
               have hb7 : Below wT.heap.size wT w7 := below_append hb6 hz6 hown6 (Nat.le_refl _) hg7
               obtain ⟨g7, rfl, hgl7⟩ : ∃ g7, A7 = some ⟨g7, 0, none⟩ ∧ wT.heap.size ≤ g7 := by
                 rcases hown7.shape with ⟨_, e, _⟩ | ⟨g7, e, hg, _⟩
                 · exact absurd e (by omega)
                 · exact ⟨g7, e, hg⟩
               have s0 := (hb7.cell (p := ⟨g, 0, none⟩) (show g < wT.heap.size by omega)).trans q0
               have s1 := (hb7.cell (p := ⟨g, 1, none⟩) (show g < wT.heap.size by omega)).trans q1
               clear hg7 hr7 hne7)
            | fail)
        all_goals
          go_wp2_with fail
          all_goals
           go_ret
           first
            | exact ⟨g7, cap7, by first | rfl | (rw [show n + 1 = k + 1 + (n - k) by omega]; rfl), by rw [HI.out, hgg, show n + 1 = k + 1 + (n - k) by omega]; exact hown7.mono (by omega), by rw [hgg]; exact hb0.trans ((hbR.trans (hb7.mono hzR)).mono (by omega))⟩
            | exact ⟨g7, cap7, by first | rfl | (rw [show n + 1 = k + 1 + (n - k) by omega]; rfl), by rw [HI.out, hgg, show n + 1 = k + 1 + (n - k) by omega]; exact (hown7.drawn (Drawn.drew1 _)).mono (by omega), by rw [hgg]; exact hb0.trans ((hbR.trans (hb7.drew.mono hzR)).mono (by omega))⟩
    · have hpos : (0 : Int) < (m : Int) + 1 := by omega
      have hwm := IntWalk.i64_in (m : Int) (by omega)
      have im0 : (0 : Int) ≤ (m : Int) := by omega
      have im1 : (m : Int) < (n : Int) := by omega
      obtain ⟨e0, e1⟩ := hits_cell hr2 hdp
      simp only at e0 e1
      cases hbf : beforeH (s, x) (s', x')
      · have HBF := Lib.hid (before_is hbf)
        have HAT := Lib.hid (HK.out.trans (atH_stop hdp hbf))
        clear hdp hbf HK
        go_wp2_with fail
        go_still_tail 9, (by kernel_rfl)
        change wpList _ _ _ _ _ wr.drew
        have hbel := hbel.drew
        have hr2 := hr2.drawn (Drawn.drew1 _)
        go_upto_region 4 with (go_at_call 48; (with_reducible refine (HBF.out _).mono ?_); rintro e w4 ⟨rfl, hb4⟩)
        have hbV := below_step hbel (Nat.le_refl _) hb4
        have hb4' : Below wr.heap.size wr w4 := ⟨hb4.os, hb4.tape, hb4.output, hb4.size, hb4.block⟩
        have q0 := (hb4'.cell (p := ⟨g, 0, none⟩) (show g < wr.heap.size by omega)).trans q0
        have q1 := (hb4'.cell (p := ⟨g, 1, none⟩) (show g < wr.heap.size by omega)).trans q1
        have hr2 := hr2.step hb4 (by show _ ≤ wr.heap.size; omega)
        clear hb4 hb4' e0 e1 hbel
        generalize w4 = V at *
        have hk' : m + 1 ≤ n := hk
        obtain ⟨k, hkm⟩ : ∃ k, k = m + 1 := ⟨_, rfl⟩
        rw [show ((m : Int) + 1) = ((k : Nat) : Int) by omega]
        rw [← hkm] at HAT
        clear hpos hwm im0 im1
        have hk : k ≤ n := by omega
        clear hkm hk'
        have hzV := hbV.size
        have hBV : B ≤ V.heap.size := by omega
        have i0 : (0 : Int) ≤ (k : Int) := by omega
        have i1 : (k : Int) ≤ (n : Int) := by omega
        have i2 : (k : Int) ≤ (c : Int) := by omega
        have HC2 := Lib.hid (hits_cut hr2 c k hk hnc)
        have HH := Lib.hid (hr2.head (k := k) hk)
        have HI := Lib.hid (show insH (s, x) l = (l.take k ++ [(s, x)]) ++ l.drop k by unfold insH; rw [HL.out, HAT.out])
        clear hr2 HAT
        by_cases hck : c = k
        · have HC2 := Lib.hid (by have q := HC2.out; rwa [if_pos hck] at q : Hits _ B (some ⟨b, o, none⟩) (n - k) (l.drop k))
          obtain rfl : n = k := by omega
          obtain rfl : c = n := by omega
          rw [Nat.sub_self] at HC2
          clear hck i0 i1 i2 hk hnc
          have i0 : (0 : Int) ≤ (c : Int) := by omega
          go_wp2_with
            (at_builtin
             refine wp_append_recs (R := hitR) rfl (.tmp 22) (.tmp 25) rfl V.heap.size B 0 0 0 0 (some ⟨V.heap.size, 0, none⟩) (some ⟨b, o, none⟩) [] (l.drop c) rfl (HO.out V) rfl (HC2.out.step ((Below.refl _ _).alloc (Nat.le_refl _) _) hBV) (by simp) (by omega) ?_
             intro AT capT wT hownT hgT hrT hneT)
          have hbT : Below V.heap.size V wT := below_append ((Below.refl _ _).alloc (Nat.le_refl _) _) (by simp) (HO.out V) (Nat.le_refl _) hgT
          simp only [Nat.zero_add, List.nil_append] at hownT ⊢
          have hzT := hbT.size
          have hT : Hits wT wT.heap.size AT 0 (l.drop c) := hownT.recs
          have HH := Lib.hid (HH.out.step hbT hBV)
          have q0 := (hbT.cell (p := ⟨g, 0, none⟩) (show g < V.heap.size by omega)).trans q0
          have q1 := (hbT.cell (p := ⟨g, 1, none⟩) (show g < V.heap.size by omega)).trans q1
          have hbR := below_step hbV (Nat.le_refl _) hbT
          have hBr : B ≤ wT.heap.size := by omega
          have HT := Lib.hid hT
          clear hownT hgT hrT hneT HC2 hbT hbV hT
          have hzR := hbR.size
          go_wp2_with fail
          go_region_held3 (fun w' => w'.cell? ⟨g, 0, none⟩ = some (.string s) ∧ w'.cell? ⟨g, 1, none⟩ = some (.int .i64 x))
            (first | exact ⟨q0, q1⟩ | exact ⟨p0, p1⟩ | exact ⟨r0, r1⟩ | exact ⟨s0, s1⟩ | go_keep | assumption)
            (first
              | ((with_reducible refine step_append_recs (R := hitR) ?_ (.tmp 27) (.tmp 30) ?_ wT.heap.size B 0 0 c c (some ⟨wT.heap.size, 0, none⟩) (some ⟨b, o, none⟩) [] (l.take c) ?_ ((HO.out wT).drawn (Drawn.drew1 _)) ?_ (HH.out.step ((Below.refl _ _).alloc (Nat.le_refl _) _).drew hBr) ?_ ?_ ?_)
                 · rfl
                 · rfl
                 · rfl
                 · rfl
                 · first | (simp; done) | (simp; omega)
                 · omega
                 intro A5 cap5 w5 hown5 hg5 hr5 hne5
                 have hb5 : Below wT.heap.size wT w5 := below_append ((Below.refl _ _).alloc (Nat.le_refl _) _).drew (by simp) ((HO.out wT).drawn (Drawn.drew1 _)) (Nat.le_refl _) hg5
                 simp only [Nat.zero_add, List.nil_append] at hown5 ⊢
                 have hz5 := hb5.size
                 have p0 := (hb5.cell (p := ⟨g, 0, none⟩) (show g < wT.heap.size by omega)).trans q0
                 have p1 := (hb5.cell (p := ⟨g, 1, none⟩) (show g < wT.heap.size by omega)).trans q1
                 have hlit5 : Hits (w5.alloc (.cells #[.string s, .int .i64 x] 28)) (w5.heap.size + 1) (some ⟨w5.heap.size, 0, none⟩) 1 [(s, x)] := HIT.out w5
                 clear hg5 hr5 hne5)
              | ((with_reducible refine step_append_recs (R := hitR) ?_ (.tmp 27) (.tmp 30) ?_ wT.heap.size B 0 0 c c (some ⟨wT.heap.size, 0, none⟩) (some ⟨b, o, none⟩) [] (l.take c) ?_ (((HO.out wT).alloc _).drawn (Drawn.drew1 _)) ?_ (HH.out.step (((Below.refl _ _).alloc (Nat.le_refl _) _).alloc (by simp) _).drew hBr) ?_ ?_ ?_)
                 · rfl
                 · rfl
                 · rfl
                 · rfl
                 · first | (simp; done) | (simp; omega)
                 · omega
                 intro A5 cap5 w5 hown5 hg5 hr5 hne5
                 have hb5 : Below wT.heap.size wT w5 := below_append (((Below.refl _ _).alloc (Nat.le_refl _) _).alloc (by simp) _).drew (by simp; omega) (((HO.out wT).alloc _).drawn (Drawn.drew1 _)) (Nat.le_refl _) hg5
                 have hlit5 : Hits w5 (wT.heap.size + 2) (some ⟨wT.heap.size + 1, 0, none⟩) 1 [(s, x)] := litH_kept (HIT.out (wT.alloc (.cells #[] 28))) (by simp) hg5 (by simp [Value.ownBlock])
                 simp only [Nat.zero_add, List.nil_append] at hown5 ⊢
                 have hz5 := hb5.size
                 have p0 := (hb5.cell (p := ⟨g, 0, none⟩) (show g < wT.heap.size by omega)).trans q0
                 have p1 := (hb5.cell (p := ⟨g, 1, none⟩) (show g < wT.heap.size by omega)).trans q1
                 clear hg5 hr5 hne5)
              | ((with_reducible refine step_append_recs (R := hitR) ?_ (.tmp 27) (.tmp 30) ?_ wT.heap.size B 0 0 c c (some ⟨wT.heap.size + 1, 0, none⟩) (some ⟨b, o, none⟩) [] (l.take c) ?_ ((ownH_second wT (.cells #[.string s, .int .i64 x] 28)).drawn (Drawn.drew1 _)) ?_ (HH.out.step (((Below.refl _ _).alloc (Nat.le_refl _) _).alloc (by simp) _).drew hBr) ?_ ?_ ?_)
                 · rfl
                 · rfl
                 · rfl
                 · rfl
                 · first | (simp; done) | (simp; omega)
                 · omega
                 intro A5 cap5 w5 hown5 hg5 hr5 hne5
                 have hb5 : Below wT.heap.size wT w5 := below_append (((Below.refl _ _).alloc (Nat.le_refl _) _).alloc (by simp) _).drew (by simp; omega) ((ownH_second wT (.cells #[.string s, .int .i64 x] 28)).drawn (Drawn.drew1 _)) (Nat.le_refl _) hg5
                 have hlit5 : Hits w5 (wT.heap.size + 1) (some ⟨wT.heap.size, 0, none⟩) 1 [(s, x)] := litH_first (HIT.out wT) hg5 (by simp [Value.ownBlock])
                 simp only [Nat.zero_add, List.nil_append] at hown5 ⊢
                 have hz5 := hb5.size
                 have p0 := (hb5.cell (p := ⟨g, 0, none⟩) (show g < wT.heap.size by omega)).trans q0
                 have p1 := (hb5.cell (p := ⟨g, 1, none⟩) (show g < wT.heap.size by omega)).trans q1
                 clear hg5 hr5 hne5)
              | ((with_reducible refine step_append_recs (R := hitR) ?_ (.tmp 31) (.tmp 33) ?_ wT.heap.size (w5.heap.size + 1) c cap5 1 1 A5 (some ⟨w5.heap.size, 0, none⟩) (l.take c) [(s, x)] ?_ (hown5.alloc _) ?_ hlit5 ?_ ?_ ?_)
                 · rfl
                 · rfl
                 · rfl
                 · rfl
                 · first | exact hz5 | (simp; done) | (simp; omega)
                 · omega
                 intro A6 cap6 w6 hown6 hg6 hr6 hne6
                 have hb6 : Below wT.heap.size wT w6 := below_append (hb5.alloc hz5 _) (by simp; omega) (hown5.alloc _) (Nat.le_refl _) hg6
                 have hz6 := hb6.size
                 have r0 := (hb6.cell (p := ⟨g, 0, none⟩) (show g < wT.heap.size by omega)).trans q0
                 have r1 := (hb6.cell (p := ⟨g, 1, none⟩) (show g < wT.heap.size by omega)).trans q1
                 clear hg6 hr6 hne6)
              | ((with_reducible refine step_append_recs (R := hitR) ?_ (.tmp 31) (.tmp 33) ?_ wT.heap.size (wT.heap.size + 2) c cap5 1 1 A5 (some ⟨wT.heap.size + 1, 0, none⟩) (l.take c) [(s, x)] ?_ hown5 ?_ hlit5 ?_ ?_ ?_)
                 · rfl
                 · rfl
                 · rfl
                 · rfl
                 · first | exact hz5 | (simp; done) | (simp; omega)
                 · omega
                 intro A6 cap6 w6 hown6 hg6 hr6 hne6
                 have hb6 : Below wT.heap.size wT w6 := below_append hb5 hz5 hown5 (Nat.le_refl _) hg6
                 have hz6 := hb6.size
                 have r0 := (hb6.cell (p := ⟨g, 0, none⟩) (show g < wT.heap.size by omega)).trans q0
                 have r1 := (hb6.cell (p := ⟨g, 1, none⟩) (show g < wT.heap.size by omega)).trans q1
                 clear hg6 hr6 hne6)
              | ((with_reducible refine step_append_recs (R := hitR) ?_ (.tmp 31) (.tmp 33) ?_ wT.heap.size (wT.heap.size + 1) c cap5 1 1 A5 (some ⟨wT.heap.size, 0, none⟩) (l.take c) [(s, x)] ?_ hown5 ?_ hlit5 ?_ ?_ ?_)
                 · rfl
                 · rfl
                 · rfl
                 · rfl
                 · first | exact hz5 | (simp; done) | (simp; omega)
                 · omega
                 intro A6 cap6 w6 hown6 hg6 hr6 hne6
                 have hb6 : Below wT.heap.size wT w6 := below_append hb5 hz5 hown5 (Nat.le_refl _) hg6
                 have hz6 := hb6.size
                 have r0 := (hb6.cell (p := ⟨g, 0, none⟩) (show g < wT.heap.size by omega)).trans q0
                 have r1 := (hb6.cell (p := ⟨g, 1, none⟩) (show g < wT.heap.size by omega)).trans q1
                 clear hg6 hr6 hne6)
              | ((with_reducible refine step_append_recs (R := hitR) ?_ (.tmp 34) (.tmp 35) ?_ wT.heap.size wT.heap.size (c + 1) cap6 0 capT A6 AT (l.take c ++ [(s, x)]) (l.drop c) ?_ hown6 ?_ (HT.out.step hb6 (Nat.le_refl _)) ?_ ?_ ?_)
                 · rfl
                 · rfl
                 · rfl
                 · rfl
                 · exact hz6
                 · omega
                 intro A7 cap7 w7 hown7 hg7 hr7 hne7
                 have hb7 : Below wT.heap.size wT w7 := below_append hb6 hz6 hown6 (Nat.le_refl _) hg7
                 obtain ⟨g7, rfl, hgl7⟩ : ∃ g7, A7 = some ⟨g7, 0, none⟩ ∧ wT.heap.size ≤ g7 := by
                   rcases hown7.shape with ⟨_, e, _⟩ | ⟨g7, e, hg, _⟩
                   · exact absurd e (by omega)
                   · exact ⟨g7, e, hg⟩
                 have s0 := (hb7.cell (p := ⟨g, 0, none⟩) (show g < wT.heap.size by omega)).trans q0
                 have s1 := (hb7.cell (p := ⟨g, 1, none⟩) (show g < wT.heap.size by omega)).trans q1
                 clear hg7 hr7 hne7)
              | fail)
          all_goals
            go_wp2_with fail
            all_goals
             go_ret
             first
              | exact ⟨g7, cap7, by first | rfl | (rw [show c + 1 = c + 1 + 0 by omega]; rfl), by rw [HI.out, hgg, show c + 1 = c + 1 + 0 by omega]; exact hown7.mono (by omega), by rw [hgg]; exact hb0.trans ((hbR.trans (hb7.mono hzR)).mono (by omega))⟩
              | exact ⟨g7, cap7, by first | rfl | (rw [show c + 1 = c + 1 + 0 by omega]; rfl), by rw [HI.out, hgg, show c + 1 = c + 1 + 0 by omega]; exact (hown7.drawn (Drawn.drew1 _)).mono (by omega), by rw [hgg]; exact hb0.trans ((hbR.trans (hb7.drew.mono hzR)).mono (by omega))⟩
        · have HC2 := Lib.hid (by have q := HC2.out; rwa [if_neg hck] at q : Hits _ B (some ⟨b, o + k * 2, none⟩) (n - k) (l.drop k))
          go_wp2_with
            (at_builtin
             refine wp_append_recs (R := hitR) rfl (.tmp 22) (.tmp 25) rfl V.heap.size B 0 0 (n - k) (c - k) (some ⟨V.heap.size, 0, none⟩) (some ⟨b, o + k * 2, none⟩) [] (l.drop k) rfl (HO.out V) rfl (HC2.out.step ((Below.refl _ _).alloc (Nat.le_refl _) _) hBV) (by simp) (by omega) ?_
             intro AT capT wT hownT hgT hrT hneT)
          have hbT : Below V.heap.size V wT := below_append ((Below.refl _ _).alloc (Nat.le_refl _) _) (by simp) (HO.out V) (Nat.le_refl _) hgT
          simp only [Nat.zero_add, List.nil_append] at hownT ⊢
          have hzT := hbT.size
          have hT : Hits wT wT.heap.size AT (n - k) (l.drop k) := hownT.recs
          have HH := Lib.hid (HH.out.step hbT hBV)
          have q0 := (hbT.cell (p := ⟨g, 0, none⟩) (show g < V.heap.size by omega)).trans q0
          have q1 := (hbT.cell (p := ⟨g, 1, none⟩) (show g < V.heap.size by omega)).trans q1
          have hbR := below_step hbV (Nat.le_refl _) hbT
          have hBr : B ≤ wT.heap.size := by omega
          have HT := Lib.hid hT
          clear hownT hgT hrT hneT HC2 hbT hbV hT
          have hzR := hbR.size
          go_wp2_with fail
          go_region_held3 (fun w' => w'.cell? ⟨g, 0, none⟩ = some (.string s) ∧ w'.cell? ⟨g, 1, none⟩ = some (.int .i64 x))
            (first | exact ⟨q0, q1⟩ | exact ⟨p0, p1⟩ | exact ⟨r0, r1⟩ | exact ⟨s0, s1⟩ | go_keep | assumption)
            (first
              | ((with_reducible refine step_append_recs (R := hitR) ?_ (.tmp 27) (.tmp 30) ?_ wT.heap.size B 0 0 k c (some ⟨wT.heap.size, 0, none⟩) (some ⟨b, o, none⟩) [] (l.take k) ?_ ((HO.out wT).drawn (Drawn.drew1 _)) ?_ (HH.out.step ((Below.refl _ _).alloc (Nat.le_refl _) _).drew hBr) ?_ ?_ ?_)
                 · rfl
                 · rfl
                 · rfl
                 · rfl
                 · first | (simp; done) | (simp; omega)
                 · omega
                 intro A5 cap5 w5 hown5 hg5 hr5 hne5
                 have hb5 : Below wT.heap.size wT w5 := below_append ((Below.refl _ _).alloc (Nat.le_refl _) _).drew (by simp) ((HO.out wT).drawn (Drawn.drew1 _)) (Nat.le_refl _) hg5
                 simp only [Nat.zero_add, List.nil_append] at hown5 ⊢
                 have hz5 := hb5.size
                 have p0 := (hb5.cell (p := ⟨g, 0, none⟩) (show g < wT.heap.size by omega)).trans q0
                 have p1 := (hb5.cell (p := ⟨g, 1, none⟩) (show g < wT.heap.size by omega)).trans q1
                 have hlit5 : Hits (w5.alloc (.cells #[.string s, .int .i64 x] 28)) (w5.heap.size + 1) (some ⟨w5.heap.size, 0, none⟩) 1 [(s, x)] := HIT.out w5
                 clear hg5 hr5 hne5)
              | ((with_reducible refine step_append_recs (R := hitR) ?_ (.tmp 27) (.tmp 30) ?_ wT.heap.size B 0 0 k c (some ⟨wT.heap.size, 0, none⟩) (some ⟨b, o, none⟩) [] (l.take k) ?_ (((HO.out wT).alloc _).drawn (Drawn.drew1 _)) ?_ (HH.out.step (((Below.refl _ _).alloc (Nat.le_refl _) _).alloc (by simp) _).drew hBr) ?_ ?_ ?_)
                 · rfl
                 · rfl
                 · rfl
                 · rfl
                 · first | (simp; done) | (simp; omega)
                 · omega
                 intro A5 cap5 w5 hown5 hg5 hr5 hne5
                 have hb5 : Below wT.heap.size wT w5 := below_append (((Below.refl _ _).alloc (Nat.le_refl _) _).alloc (by simp) _).drew (by simp; omega) (((HO.out wT).alloc _).drawn (Drawn.drew1 _)) (Nat.le_refl _) hg5
                 have hlit5 : Hits w5 (wT.heap.size + 2) (some ⟨wT.heap.size + 1, 0, none⟩) 1 [(s, x)] := litH_kept (HIT.out (wT.alloc (.cells #[] 28))) (by simp) hg5 (by simp [Value.ownBlock])
                 simp only [Nat.zero_add, List.nil_append] at hown5 ⊢
                 have hz5 := hb5.size
                 have p0 := (hb5.cell (p := ⟨g, 0, none⟩) (show g < wT.heap.size by omega)).trans q0
                 have p1 := (hb5.cell (p := ⟨g, 1, none⟩) (show g < wT.heap.size by omega)).trans q1
                 clear hg5 hr5 hne5)
              | ((with_reducible refine step_append_recs (R := hitR) ?_ (.tmp 27) (.tmp 30) ?_ wT.heap.size B 0 0 k c (some ⟨wT.heap.size + 1, 0, none⟩) (some ⟨b, o, none⟩) [] (l.take k) ?_ ((ownH_second wT (.cells #[.string s, .int .i64 x] 28)).drawn (Drawn.drew1 _)) ?_ (HH.out.step (((Below.refl _ _).alloc (Nat.le_refl _) _).alloc (by simp) _).drew hBr) ?_ ?_ ?_)
                 · rfl
                 · rfl
                 · rfl
                 · rfl
                 · first | (simp; done) | (simp; omega)
                 · omega
                 intro A5 cap5 w5 hown5 hg5 hr5 hne5
                 have hb5 : Below wT.heap.size wT w5 := below_append (((Below.refl _ _).alloc (Nat.le_refl _) _).alloc (by simp) _).drew (by simp; omega) ((ownH_second wT (.cells #[.string s, .int .i64 x] 28)).drawn (Drawn.drew1 _)) (Nat.le_refl _) hg5
                 have hlit5 : Hits w5 (wT.heap.size + 1) (some ⟨wT.heap.size, 0, none⟩) 1 [(s, x)] := litH_first (HIT.out wT) hg5 (by simp [Value.ownBlock])
                 simp only [Nat.zero_add, List.nil_append] at hown5 ⊢
                 have hz5 := hb5.size
                 have p0 := (hb5.cell (p := ⟨g, 0, none⟩) (show g < wT.heap.size by omega)).trans q0
                 have p1 := (hb5.cell (p := ⟨g, 1, none⟩) (show g < wT.heap.size by omega)).trans q1
                 clear hg5 hr5 hne5)
              | ((with_reducible refine step_append_recs (R := hitR) ?_ (.tmp 31) (.tmp 33) ?_ wT.heap.size (w5.heap.size + 1) k cap5 1 1 A5 (some ⟨w5.heap.size, 0, none⟩) (l.take k) [(s, x)] ?_ (hown5.alloc _) ?_ hlit5 ?_ ?_ ?_)
                 · rfl
                 · rfl
                 · rfl
                 · rfl
                 · first | exact hz5 | (simp; done) | (simp; omega)
                 · omega
                 intro A6 cap6 w6 hown6 hg6 hr6 hne6
                 have hb6 : Below wT.heap.size wT w6 := below_append (hb5.alloc hz5 _) (by simp; omega) (hown5.alloc _) (Nat.le_refl _) hg6
                 have hz6 := hb6.size
                 have r0 := (hb6.cell (p := ⟨g, 0, none⟩) (show g < wT.heap.size by omega)).trans q0
                 have r1 := (hb6.cell (p := ⟨g, 1, none⟩) (show g < wT.heap.size by omega)).trans q1
                 clear hg6 hr6 hne6)
              | ((with_reducible refine step_append_recs (R := hitR) ?_ (.tmp 31) (.tmp 33) ?_ wT.heap.size (wT.heap.size + 2) k cap5 1 1 A5 (some ⟨wT.heap.size + 1, 0, none⟩) (l.take k) [(s, x)] ?_ hown5 ?_ hlit5 ?_ ?_ ?_)
                 · rfl
                 · rfl
                 · rfl
                 · rfl
                 · first | exact hz5 | (simp; done) | (simp; omega)
                 · omega
                 intro A6 cap6 w6 hown6 hg6 hr6 hne6
                 have hb6 : Below wT.heap.size wT w6 := below_append hb5 hz5 hown5 (Nat.le_refl _) hg6
                 have hz6 := hb6.size
                 have r0 := (hb6.cell (p := ⟨g, 0, none⟩) (show g < wT.heap.size by omega)).trans q0
                 have r1 := (hb6.cell (p := ⟨g, 1, none⟩) (show g < wT.heap.size by omega)).trans q1
                 clear hg6 hr6 hne6)
              | ((with_reducible refine step_append_recs (R := hitR) ?_ (.tmp 31) (.tmp 33) ?_ wT.heap.size (wT.heap.size + 1) k cap5 1 1 A5 (some ⟨wT.heap.size, 0, none⟩) (l.take k) [(s, x)] ?_ hown5 ?_ hlit5 ?_ ?_ ?_)
                 · rfl
                 · rfl
                 · rfl
                 · rfl
                 · first | exact hz5 | (simp; done) | (simp; omega)
                 · omega
                 intro A6 cap6 w6 hown6 hg6 hr6 hne6
                 have hb6 : Below wT.heap.size wT w6 := below_append hb5 hz5 hown5 (Nat.le_refl _) hg6
                 have hz6 := hb6.size
                 have r0 := (hb6.cell (p := ⟨g, 0, none⟩) (show g < wT.heap.size by omega)).trans q0
                 have r1 := (hb6.cell (p := ⟨g, 1, none⟩) (show g < wT.heap.size by omega)).trans q1
                 clear hg6 hr6 hne6)
              | ((with_reducible refine step_append_recs (R := hitR) ?_ (.tmp 34) (.tmp 35) ?_ wT.heap.size wT.heap.size (k + 1) cap6 (n - k) capT A6 AT (l.take k ++ [(s, x)]) (l.drop k) ?_ hown6 ?_ (HT.out.step hb6 (Nat.le_refl _)) ?_ ?_ ?_)
                 · rfl
                 · rfl
                 · rfl
                 · rfl
                 · exact hz6
                 · omega
                 intro A7 cap7 w7 hown7 hg7 hr7 hne7
                 have hb7 : Below wT.heap.size wT w7 := below_append hb6 hz6 hown6 (Nat.le_refl _) hg7
                 obtain ⟨g7, rfl, hgl7⟩ : ∃ g7, A7 = some ⟨g7, 0, none⟩ ∧ wT.heap.size ≤ g7 := by
                   rcases hown7.shape with ⟨_, e, _⟩ | ⟨g7, e, hg, _⟩
                   · exact absurd e (by omega)
                   · exact ⟨g7, e, hg⟩
                 have s0 := (hb7.cell (p := ⟨g, 0, none⟩) (show g < wT.heap.size by omega)).trans q0
                 have s1 := (hb7.cell (p := ⟨g, 1, none⟩) (show g < wT.heap.size by omega)).trans q1
                 clear hg7 hr7 hne7)
              | fail)
          all_goals
            go_wp2_with fail
            all_goals
             go_ret
             first
              | exact ⟨g7, cap7, by first | rfl | (rw [show n + 1 = k + 1 + (n - k) by omega]; rfl), by rw [HI.out, hgg, show n + 1 = k + 1 + (n - k) by omega]; exact hown7.mono (by omega), by rw [hgg]; exact hb0.trans ((hbR.trans (hb7.mono hzR)).mono (by omega))⟩
              | exact ⟨g7, cap7, by first | rfl | (rw [show n + 1 = k + 1 + (n - k) by omega]; rfl), by rw [HI.out, hgg, show n + 1 = k + 1 + (n - k) by omega]; exact (hown7.drawn (Drawn.drew1 _)).mono (by omega), by rw [hgg]; exact hb0.trans ((hbR.trans (hb7.drew.mono hzR)).mono (by omega))⟩
      · have HBF := Lib.hid (before_is hbf)
        have HK2 := Lib.hid (HK.out.trans (atH_on hdp hbf))
        clear hdp hbf HK
        go_wp2_with fail
        go_still_tail 9, (by kernel_rfl)
        change wpList _ _ _ _ _ wr.drew
        have hbel := hbel.drew
        go_wp2_with (go_at_call 48; (with_reducible refine (HBF.out _).mono ?_); rintro e w4 ⟨rfl, hb4⟩; have hbel := below_step hbel (Nat.le_refl _) hb4)
        go_roundw
        case rel => exact ⟨m, by omega, by go_num, HK2, hbel⟩
        case measure => simp [intOf]
end Go.Proofs.Ytmolphaihapkkaa
