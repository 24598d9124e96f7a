/- Contract of the program's WithinDistance: a row whose numbers agree with the distances as far as the number of errors. -/
import Derived.Test.YtocmlkkigejifaaImplBand
import Derived.Test.YtocmlkkigejifaaImplEdit
namespace Go.Proofs.Ytocmlkkigejifaa
open Go.RowKit
set_option maxHeartbeats 3200000
set_option linter.unusedSimpArgs false
set_option linter.unusedVariables false

theorem dist_diff (a b : ByteArray) {i j : Nat} (hi : i ≤ a.size) (hj : j ≤ b.size) : i ≤ j + dist a b i j ∧ j ≤ i + dist a b i j := by
  have h := ed_diff false (a.data.toList.take i) (b.data.toList.take j)
  rw [List.length_take, List.length_take, len_eq, len_eq, Nat.min_eq_left hi, Nat.min_eq_left hj] at h
  exact h
/-- the row k, in which a number above e stands for any number above e -/
def Capped (a b : ByteArray) (e k : Nat) (R : Nat → Nat) : Prop := ∀ x, x ≤ b.size → R x ≤ x + k ∧ min (R x) (e + 1) = min (dist a b k x) (e + 1)
/-- the row in which the first m + 1 numbers are those of the next row already -/
def CapM (a b : ByteArray) (e k m : Nat) (R : Nat → Nat) : Prop := ∀ x, x ≤ b.size → R x ≤ x + k + 1 ∧ min (R x) (e + 1) = min (if x ≤ m then dist a b (k + 1) x else dist a b k x) (e + 1)
theorem capped_top (a b : ByteArray) (e : Nat) : Capped a b e 0 (fun x => x) := fun x hx => ⟨Nat.le_refl _, by rw [dist_top a b hx]⟩
theorem capM_start {a b : ByteArray} {e k : Nat} {R : Nat → Nat} (h : Capped a b e k R) (hk : k < a.size) : CapM a b e k (k - e) (fun x => if x = k - e then k + 1 else R x) := by
  intro x hx
  have h0 := h x hx
  have h1 := dist_diff a b (i := k) (j := x) (by omega) hx
  have h2 := dist_diff a b (i := k + 1) (j := x) (by omega) hx
  have h3 := dist_left a b (i := k + 1) (by omega)
  show (if x = k - e then k + 1 else R x) ≤ _ ∧ min (if x = k - e then k + 1 else R x) (e + 1) = _
  by_cases hL : x = k - e
  · rw [if_pos hL, if_pos (by omega)]
    refine ⟨by omega, ?_⟩
    by_cases hz : x = 0
    · subst hz; rw [h3]
    · omega
  · rw [if_neg hL]
    refine ⟨by omega, ?_⟩
    by_cases hl : x ≤ k - e
    · rw [if_pos hl]; omega
    · rw [if_neg hl]; exact h0.2
theorem capM_next {a b : ByteArray} {e k m C : Nat} {R : Nat → Nat} (h : CapM a b e k m R) (hk : k < a.size) (hm : m < b.size) (hC : C ≤ m + k + 1) (hC2 : min C (e + 1) = min (dist a b k m) (e + 1)) {c : Nat} (hc : (if a[k] = b[m] then 0 else 1) = c) :
    CapM a b e k (m + 1) (fun x => if x = m + 1 then min (C + c) (min (R (m + 1)) (R m) + 1) else R x) := by
  intro x hx
  have h0 := h x hx
  have h1 := h m (by omega)
  have h2 := h (m + 1) (by omega)
  rw [if_pos (Nat.le_refl _)] at h1
  rw [if_neg (by omega)] at h2
  have hd := dist_step a b k m hk hm
  rw [hc] at hd
  have hc1 : c ≤ 1 := by rw [← hc]; split <;> omega
  show (if x = m + 1 then _ else R x) ≤ _ ∧ min (if x = m + 1 then _ else R x) (e + 1) = _
  by_cases hx1 : x = m + 1
  · subst hx1
    rw [if_pos rfl, if_pos (Nat.le_refl _), hd]
    omega
  · rw [if_neg hx1]
    refine ⟨h0.1, ?_⟩
    rw [h0.2]
    by_cases hl : x ≤ m
    · rw [if_pos hl, if_pos (by omega)]
    · rw [if_neg hl, if_neg (by omega)]
theorem capM_end {a b : ByteArray} {e k : Nat} {R : Nat → Nat} (h : CapM a b e k (min b.size (k + 1 + e)) R) (hk : k < a.size) : Capped a b e (k + 1) R := by
  intro x hx
  have h0 := h x hx
  refine ⟨by omega, ?_⟩
  rw [h0.2]
  by_cases hl : x ≤ min b.size (k + 1 + e)
  · rw [if_pos hl]
  · rw [if_neg hl]
    have h1 := dist_diff a b (i := k) (j := x) (by omega) hx
    have h2 := dist_diff a b (i := k + 1) (j := x) (by omega) hx
    omega
theorem capped_end {a b : ByteArray} {e : Nat} {R : Nat → Nat} (h : Capped a b e a.size R) : (R b.size : Int) ≤ (a.size + b.size : Nat) ∧ withinV a.data.toList b.data.toList (e : Int) = if (R b.size : Int) ≤ e then (R b.size : Int) else -1 := by
  have h0 := h b.size (Nat.le_refl _)
  rw [dist_last] at h0
  unfold withinV
  generalize ed false a.data.toList b.data.toList = d at h0 ⊢
  generalize R b.size = r at h0 ⊢
  refine ⟨by omega, ?_⟩
  by_cases h1 : (d : Int) ≤ e
  · rw [if_pos h1, if_pos (by omega)]; omega
  · rw [if_neg h1, if_neg (by omega)]
theorem bandAt_next (k m e : Nat) (w : World) (hi : k + 1 ≤ 20) (hm : m ≤ 20) (he : e ≤ 4) :
    Calls Try.prog 32 #[.int .i64 ((k : Int) + 1), .int .i64 m, .int .i64 e] w fun r w' => r = .returned (.tuple #[.int .i64 ((k + 1 - e : Nat) : Int), .int .i64 ((min m (k + 1 + e) : Nat) : Int)]) ∧ w' = w :=
  bandAt_impl (k + 1) m e w hi hm he

theorem withinDistance_impl : WithinC := by
  intro a b k w ha hb
  have ha' := ha
  have hb' := hb
  unfold maxLen at ha hb
  cases hv : errB k && wordB a.data.toList && wordB b.data.toList
  · have HN := Lib.hid (threeI_no (f := withinV) hv)
    have HV := Lib.hid hv
    clear hv
    go_enter Try.func11, Try.ntmps11
    go_wp2_with fail
    refine (bandAsked_impl _ _ _ _ ha' hb').mono ?_
    rintro e w' ⟨rfl, rfl⟩
    rw [HV.out]
    go_wp2_with fail
    go_ret
    exact ⟨ret_int HN.out.symm, Below.refl _ _⟩
  · have hN := threeI_yes (f := withinV) hv
    have hv2 := hv
    simp only [Bool.and_eq_true] at hv2
    have ha2 := word_size hv2.1.2
    have hb2 := word_size hv2.2
    have hk : 0 ≤ k ∧ k ≤ 4 := by have h := hv2.1.1; unfold errB at h; simpa using h
    obtain ⟨e, rfl⟩ : ∃ e : Nat, k = (e : Int) := ⟨k.toNat, by omega⟩
    have he4 : e ≤ 4 := by omega
    have hdf := ed_diff false a.data.toList b.data.toList
    rw [len_eq, len_eq] at hdf
    have HV := Lib.hid hv
    clear hv hv2 hk
    by_cases hfar : a.size ≤ b.size + e ∧ b.size ≤ a.size + e
    · have HN := Lib.hid hN
      clear hN hdf
      have hcase : ((a.size : Int) - (b.size : Int) < (b.size : Int) - (a.size : Int) ∧ ¬ (e : Int) < (b.size : Int) - (a.size : Int)) ∨ (¬ (a.size : Int) - (b.size : Int) < (b.size : Int) - (a.size : Int) ∧ ¬ (e : Int) < (a.size : Int) - (b.size : Int)) := by omega
      rcases hcase with ⟨c1, c2⟩ | ⟨c1, c2⟩
      all_goals
        go_enter Try.func11, Try.ntmps11
        go_wp2_with fail
        refine (bandAsked_impl _ _ _ _ ha' hb').mono ?_
        rintro e2 w' ⟨rfl, rfl⟩
        rw [HV.out]
        go_wp2_with fail
        clear c1 c2
        refine (countingRow_any _).mono ?_
        rintro e2 w1 ⟨rfl, hb1⟩
        have hz := hb1.size
        go_wp2_with (with_reducible refine wp_store_arr rfl (.tmp 7) (.tmp 35) rfl w1.heap.size w1.heap.size (fun _ => 0) (fun k => (k : Int)) rfl rfl (OwnA.zero _) ?_)
        have hown0 := (OwnA.zero w1).rowed (f' := fun k => (k : Int))
        have hbel0 := below_setRow (g := w1.heap.size) (hb1.alloc hz (.cells #[.int .i64 0, .int .i64 0, .int .i64 0, .int .i64 0, .int .i64 0, .int .i64 0, .int .i64 0, .int .i64 0, .int .i64 0, .int .i64 0, .int .i64 0, .int .i64 0, .int .i64 0] 40)) hz (arr fun k => (k : Int))
        generalize w1.heap.size = g at *
        go_loopw [38] (fun i wr => ∃ (k : Nat) (R : Nat → Nat), k ≤ a.size ∧ i = .int .i64 k ∧ OwnA wr g g (fun x => (R x : Int)) ∧ Capped a b e k R ∧ Below w'.heap.size w' wr) (fun i _ => a.size - (intOf i).toNat)
        case atStart => exact ⟨0, fun x => x, Nat.zero_le _, rfl, hown0, capped_top a b e, hbel0⟩
        case round =>
          clear hown0 hbel0
          obtain ⟨k, R, hk, rfl, hown, hcap, hbel⟩ := hrel
          by_cases hlt : k < a.size
          · go_wp2_with fail
            refine (bandAt_next _ _ _ _ (by omega) (by omega) (by omega)).mono ?_
            rintro e3 w3 ⟨rfl, rfl⟩
            obtain ⟨F, hF⟩ : ∃ F, F = k + 1 - e := ⟨_, rfl⟩
            obtain ⟨T, hT⟩ : ∃ T, T = min b.size (k + 1 + e) := ⟨_, rfl⟩
            obtain ⟨L, hL⟩ : ∃ L, L = k - e := ⟨_, rfl⟩
            have hF2 : F ≤ 12 := by omega
            have hT2 : T ≤ b.size := by omega
            have hLT : L ≤ T := by omega
            have hLF : (L : Int) = if (0 : Int) < (F : Int) - 1 then (F : Int) - 1 else 0 := by split <;> omega
            have hst := capM_start hcap hlt
            have hcL := hcap L (by omega)
            rw [← hF, ← hT]
            rw [← hL] at hst
            have HST := Lib.hid hst
            have HCL := Lib.hid hcL
            have HT := Lib.hid hT
            have HLF := Lib.hid hLF
            clear hF hT hL hst hcap hLF hcL
            have hfr := hown.frozen L
            have hc0 := hown.at_ (k := L) (by omega)
            have hi0 : (0 : Int) ≤ (L : Int) := by omega
            have hi1 : (L : Int) < 13 := by omega
            have HO : Hid (OwnA (w3.setCell ⟨g, L, none⟩ (.int .i64 ((k : Int) + 1))) g g (fun x => ((if x = L then k + 1 else R x : Nat) : Int))) := Lib.hid ((hown.stored L _).congr (fun j _ => by by_cases hj : j = L <;> simp [hj]))
            clear hown
            go_wp2_with (with_reducible refine wp_max_int rfl (.const (.int .i64 0)) (.tmp 51) rfl _ _ rfl rfl ?_; intro vv hvv; obtain rfl : vv = (L : Int) := hvv.out.trans HLF.out.symm; clear hvv)
            go_loopw [12, 13] (fun c i wr => ∃ (m C : Nat) (R' : Nat → Nat), L ≤ m ∧ m ≤ T ∧ i = .int .i64 m ∧ c = .int .i64 C ∧ C ≤ m + k + 1 ∧ Hid (min C (e + 1) = min (dist a b k m) (e + 1)) ∧ OwnA wr g g (fun x => (R' x : Int)) ∧ Hid (CapM a b e k m R') ∧ Below w'.heap.size w' wr) (fun _ i _ => T - (intOf i).toNat)
            case atStart => exact ⟨L, R L, _, Nat.le_refl _, hLT, rfl, rfl, by have := HCL.out.1; omega, HCL.out.2, HO.out, HST, hbel.setCell (by assumption) _⟩
            case round =>
              clear HST HCL HO hbel hfr hc0 hi0 hi1
              obtain ⟨m, C, R', hLm, hm, rfl, rfl, hC, HC2, hown, HM, hbel⟩ := hrel
              by_cases hlm : m < T
              · have hfr := hown.frozen (m + 1)
                have hc1 := hown.at_ (k := m) (by omega)
                have hc2 := hown.at_ (k := m + 1) (by omega)
                have l2 := (HM.out (m + 1) (by omega)).1
                have l3 := (HM.out m (by omega)).1
                have hm0 : (0 : Int) ≤ (m : Int) := by omega
                have hm1 : (m : Int) < (b.size : Int) := by omega
                have hk0 : (0 : Int) ≤ (k : Int) := by omega
                have hk1 : (k : Int) < (a.size : Int) := by omega
                have hx1 : (m : Int) + 1 < 13 := by omega
                have hx2 : (m : Int) < 13 := by omega
                have hlb : m < b.size := by omega
                obtain ⟨c, hc, hcl, hcd⟩ : ∃ c : Nat, (if ((a[k].toNat : Int) = (b[m].toNat : Int)) then (0 : Int) else 1) = (c : Int) ∧ c ≤ 1 ∧ (if a[k] = b[m] then 0 else 1) = c := by
                  by_cases h : a[k] = b[m]
                  · exact ⟨0, by rw [if_pos (by rw [h])]; rfl, by omega, by rw [if_pos h]⟩
                  · exact ⟨1, by rw [if_neg (fun e => h (UInt8.toNat_inj.1 (by omega)))]; rfl, by omega, by rw [if_neg h]⟩
                have HNX := Lib.hid (capM_next HM.out hlt hlb hC HC2.out hcd)
                have HY := Lib.hid (show min (R' (m + 1)) (e + 1) = min (dist a b k (m + 1)) (e + 1) by have := (HM.out (m + 1) (by omega)).2; rwa [if_neg (by omega)] at this)
                have HO := Lib.hid hown
                have HC := Lib.hid hc
                clear hc hown HM HC2 hcd
                obtain ⟨y0, hy⟩ : ∃ y0, y0 = R' (m + 1) := ⟨_, rfl⟩
                obtain ⟨z, hzz⟩ : ∃ z, z = R' m := ⟨_, rfl⟩
                rw [← hy] at hc2 l2 HY HNX
                rw [← hzz] at hc1 l3 HNX
                clear hy hzz
                go_wp2_with fail
                have ha0 := a[k].toNat_lt
                have hb0 := b[m].toNat_lt
                have hx3 : (0 : Int) ≤ (m : Int) + 1 := by omega
                have hw1 := IntWalk.i64_in ((m : Int) + 1) (by omega)
                have hw2 := IntWalk.i64_in ((y0 : Int) + 1) (by omega)
                have hw3 := IntWalk.i64_in ((z : Int) + 1) (by omega)
                have hw4 := IntWalk.i64_in ((C : Int) + c) (by omega)
                have HK := Lib.hid (fun v : Value => cell_other_drew hc1 (k := m + 1) v (by omega))
                have HF := Lib.hid (fun v : Int => (HO.out.stored (m + 1) v).frozen (m + 1))
                go_region_held3 (fun w' => w'.cell? ⟨g, m, none⟩ = some (.int .i64 z) ∧ w'.frozen? ⟨g, m + 1, none⟩ = false)
                    (first | assumption | exact ⟨HK.out _, HF.out _⟩ | go_keep)
                    (first | ((go_at_call 33; refine (costOfPair_is HC.out _ (by omega) (by have := a[k].toNat_lt; omega) (by omega) (by have := b[m].toNat_lt; omega)).mono ?_; rintro e w' ⟨rfl, rfl⟩)) | fail)
                clear hw1 hw2 hw3 hw4
                all_goals
                  rw [show (if (C : Int) + (c : Int) < (if z < y0 then (z : Int) + 1 else (y0 : Int) + 1) then (C : Int) + (c : Int) else (if z < y0 then (z : Int) + 1 else (y0 : Int) + 1)) = ((min (C + c) (min y0 z + 1) : Nat) : Int) by split <;> split <;> omega]
                  have hown := (HO.out.stored (m + 1) ((min (C + c) (min y0 z + 1) : Nat) : Int)).congr (f' := fun x => ((if x = m + 1 then min (C + c) (min y0 z + 1) else R' x : Nat) : Int)) (fun j _ => by by_cases hj : j = m + 1 <;> simp [hj])
                  have hbel := hbel.setCell (p := ⟨g, m + 1, none⟩) (by assumption) (.int .i64 ((min (C + c) (min y0 z + 1) : Nat) : Int))
                  generalize wr.setCell ⟨g, m + 1, none⟩ (.int .i64 ((min (C + c) (min y0 z + 1) : Nat) : Int)) = W at *
                  go_wp2_with fail
                  go_roundw
                  case rel => exact ⟨m + 1, y0, _, by omega, by omega, by go_num, rfl, by omega, HY, hown.drawn (Drawn.drew1 _), HNX, hbel.drew⟩
                  case measure => simp [intOf]; omega
              · obtain rfl : m = T := by omega
                have HE := Lib.hid (capM_end (by have := HM.out; rwa [HT.out] at this) hlt)
                go_wp2_with fail
                go_roundw
                case rel => exact ⟨k + 1, _, by omega, by go_num, hown, HE.out, hbel⟩
                case measure => simp [intOf]; omega
          · obtain rfl : k = a.size := by omega
            have hlast := hown.at_ (k := b.size) (by omega)
            have hi0 : (0 : Int) ≤ (b.size : Int) := by omega
            have hi1 : (b.size : Int) < 13 := by omega
            obtain ⟨hle, hV⟩ := capped_end hcap
            have HX := Lib.hid (HN.out.trans hV)
            clear hV hcap
            generalize R b.size = r at hlast hle HX
            by_cases hre : (e : Int) < (r : Int)
            · have HX2 := Lib.hid (HX.out.trans (if_neg (by omega)))
              go_wp2_with fail
              go_ret
              exact ⟨ret_int HX2.out.symm, hbel⟩
            · have HX2 := Lib.hid (HX.out.trans (if_pos (by omega)))
              go_wp2_with fail
              go_ret
              exact ⟨ret_int HX2.out.symm, hbel⟩
    · have HN := Lib.hid (show threeI withinV a.data.toList b.data.toList (e : Int) = -1 by rw [hN]; unfold withinV; rw [if_neg (by omega)])
      clear hN hdf
      have hcase : ((a.size : Int) - (b.size : Int) < (b.size : Int) - (a.size : Int) ∧ (e : Int) < (b.size : Int) - (a.size : Int)) ∨ (¬ (a.size : Int) - (b.size : Int) < (b.size : Int) - (a.size : Int) ∧ (e : Int) < (a.size : Int) - (b.size : Int)) := by omega
      rcases hcase with ⟨c1, c2⟩ | ⟨c1, c2⟩
      all_goals
        go_enter Try.func11, Try.ntmps11
        go_wp2_with fail
        refine (bandAsked_impl _ _ _ _ ha' hb').mono ?_
        rintro e2 w' ⟨rfl, rfl⟩
        rw [HV.out]
        go_wp2_with fail
        go_ret
        exact ⟨ret_int HN.out.symm, Below.refl _ _⟩
end Go.Proofs.Ytocmlkkigejifaa
