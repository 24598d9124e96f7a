/- Contract of the program's SwapDistance. -/
import Derived.Test.YtocmlkkigejifaaArr
import Derived.Test.YtocmlkkigejifaaDistFns
import Derived.Test.YtocmlkkigejifaaEnds
import Derived.StillTailTactics
namespace Go.Proofs.Ytocmlkkigejifaa
open Go.RowKit
set_option maxHeartbeats 1600000
set_option linter.unusedSimpArgs false
set_option linter.unusedVariables false

/-- row k of the table with exchanges, as the program keeps it; the row before it; the next row, of which m + 1 numbers are there -/
noncomputable def srow (a b : ByteArray) (k x : Nat) : Int := if x ≤ b.size then (sdist a b k x : Int) else if k = 0 then (x : Int) else 0
noncomputable def brow (a b : ByteArray) (k x : Nat) : Int := if k = 0 then 0 else srow a b (k - 1) x
noncomputable def nrow (a b : ByteArray) (k m x : Nat) : Int := if x ≤ m then (sdist a b (k + 1) x : Int) else 0
theorem srow_top (a b : ByteArray) (x : Nat) : (x : Int) = srow a b 0 x := by
  unfold srow
  by_cases h : x ≤ b.size
  · rw [if_pos h, sdist_top a b h]
  · rw [if_neg h, if_pos rfl]
theorem nrow_start (a b : ByteArray) (k x : Nat) (hk : k < a.size) : (if x = 0 then ((k : Int) + 1) else 0) = nrow a b k 0 x := by
  unfold nrow
  by_cases h : x = 0
  · subst h; simp [sdist_left a b (show k + 1 ≤ a.size by omega)]
  · simp [h]
theorem nrow_next (a b : ByteArray) (k m x : Nat) (v : Int) (hv : v = (sdist a b (k + 1) (m + 1) : Int)) : (if x = m + 1 then v else nrow a b k m x) = nrow a b k (m + 1) x := by
  unfold nrow
  by_cases h : x = m + 1
  · subst h; simp [hv]
  · simp only [h, if_false]
    by_cases hx : x ≤ m
    · rw [if_pos hx, if_pos (by omega)]
    · rw [if_neg hx, if_neg (by omega)]
theorem nrow_over (a b : ByteArray) (k m x : Nat) (v u : Int) : (if x = m + 1 then v else if x = m + 1 then u else nrow a b k m x) = if x = m + 1 then v else nrow a b k m x := by
  by_cases h : x = m + 1 <;> simp [h]
theorem nrow_end (a b : ByteArray) (k x : Nat) : nrow a b k b.size x = srow a b (k + 1) x := by
  unfold nrow srow
  simp
theorem brow_next (a b : ByteArray) (k x : Nat) : srow a b k x = brow a b (k + 1) x := by unfold brow; simp
theorem nrow_here (a b : ByteArray) (k m : Nat) : nrow a b k m m = (sdist a b (k + 1) m : Int) := by unfold nrow; simp
theorem nrow_free (a b : ByteArray) (k m : Nat) : nrow a b k m (m + 1) = 0 := by unfold nrow; rw [if_neg (by omega)]
theorem srow_here (a b : ByteArray) (k m : Nat) (hm : m ≤ b.size) : srow a b k m = (sdist a b k m : Int) := by unfold srow; simp [hm]
theorem brow_here (a b : ByteArray) (k m : Nat) (hk : 0 < k) (hm : m ≤ b.size) : brow a b k m = (sdist a b (k - 1) m : Int) := by unfold brow; rw [if_neg (by omega), srow_here a b _ m hm]
theorem brow_zero (a b : ByteArray) (x : Nat) : 0 = brow a b 0 x := by unfold brow; simp

theorem swapDistance_impl (a b : ByteArray) (w : World) (ha : a.size ≤ maxLen) (hb : b.size ≤ maxLen) :
    Calls Try.prog 26 #[.string a, .string b] w fun e w' => e = .returned (.int .i64 (twoI (fun x y => (ed true x y : Int)) a.data.toList b.data.toList)) ∧ Below w.heap.size w w' := by
  have ha' := ha
  have hb' := hb
  unfold maxLen at ha hb
  cases hva : wordB a.data.toList
  · have HN := Lib.hid (twoI_no (f := fun x y => (ed true x y : Int)) (a := a.data.toList) (b := b.data.toList) (by rw [hva]; rfl))
    have HA := Lib.hid hva
    clear hva
    go_enter Try.func26, Try.ntmps26
    go_wp2_with fail
    refine (wordValid_impl _ _ ha').mono ?_
    rintro e w' ⟨rfl, rfl⟩
    rw [HA.out]
    go_wp2_with fail
    go_ret
    exact ⟨ret_int HN.out.symm, Below.refl _ _⟩
  · cases hvb : wordB b.data.toList
    · have HN := Lib.hid (twoI_no (f := fun x y => (ed true x y : Int)) (a := a.data.toList) (b := b.data.toList) (by rw [hva, hvb]; rfl))
      have HA := Lib.hid hva
      have HB := Lib.hid hvb
      clear hva hvb
      go_enter Try.func26, Try.ntmps26
      go_wp2_with fail
      refine (wordValid_impl _ _ ha').mono ?_
      rintro e w' ⟨rfl, rfl⟩
      rw [HA.out]
      go_wp2_with fail
      refine (wordValid_impl _ _ hb').mono ?_
      rintro e w' ⟨rfl, rfl⟩
      rw [HB.out]
      go_wp2_with fail
      go_ret
      exact ⟨ret_int HN.out.symm, Below.refl _ _⟩
    · have HN := Lib.hid (twoI_yes (f := fun x y => (ed true x y : Int)) (a := a.data.toList) (b := b.data.toList) (by rw [hva, hvb]; rfl))
      have ha2 := word_size hva
      have hb2 := word_size hvb
      have HA := Lib.hid hva
      have HB := Lib.hid hvb
      clear hva hvb
      go_enter Try.func26, Try.ntmps26
      go_wp2_with fail
      refine (wordValid_impl _ _ ha').mono ?_
      rintro e w' ⟨rfl, rfl⟩
      rw [HA.out]
      go_wp2_with fail
      refine (wordValid_impl _ _ hb').mono ?_
      rintro e w' ⟨rfl, rfl⟩
      rw [HB.out]
      go_wp2_with fail
      have hb0 : Below w.heap.size w (w.alloc (.cells #[.int .i64 0, .int .i64 0, .int .i64 0, .int .i64 0, .int .i64 0, .int .i64 0, .int .i64 0, .int .i64 0, .int .i64 0, .int .i64 0, .int .i64 0, .int .i64 0, .int .i64 0] 40)) := (Below.refl _ _).alloc (Nat.le_refl _) _
      have hob0 : OwnA (w.alloc (.cells #[.int .i64 0, .int .i64 0, .int .i64 0, .int .i64 0, .int .i64 0, .int .i64 0, .int .i64 0, .int .i64 0, .int .i64 0, .int .i64 0, .int .i64 0, .int .i64 0, .int .i64 0] 40)) w.heap.size w.heap.size (brow a b 0) := (OwnA.zero w).congr (fun j _ => brow_zero a b j)
      have hsz0 : w.heap.size < (w.alloc (.cells #[.int .i64 0, .int .i64 0, .int .i64 0, .int .i64 0, .int .i64 0, .int .i64 0, .int .i64 0, .int .i64 0, .int .i64 0, .int .i64 0, .int .i64 0, .int .i64 0, .int .i64 0] 40)).heap.size := by simp
      generalize w.alloc (.cells #[.int .i64 0, .int .i64 0, .int .i64 0, .int .i64 0, .int .i64 0, .int .i64 0, .int .i64 0, .int .i64 0, .int .i64 0, .int .i64 0, .int .i64 0, .int .i64 0, .int .i64 0] 40) = w0 at *
      refine (countingRow_any _).mono ?_
      rintro e w1 ⟨rfl, hb1⟩
      have hz1 := hb1.size
      have hob1 := hob0.below hb1
      have hz : w.heap.size ≤ w1.heap.size := by omega
      go_wp2_with (with_reducible refine wp_store_arr rfl (.tmp 6) (.tmp 18) rfl w.heap.size w1.heap.size (fun _ => 0) (fun k => (k : Int)) rfl rfl (OwnA.zero_at rfl hz) ?_)
      have hown0 : OwnA ((w1.alloc (.cells #[.int .i64 0, .int .i64 0, .int .i64 0, .int .i64 0, .int .i64 0, .int .i64 0, .int .i64 0, .int .i64 0, .int .i64 0, .int .i64 0, .int .i64 0, .int .i64 0, .int .i64 0] 40)).setRow w1.heap.size (arr fun k => (k : Int))) w.heap.size w1.heap.size (srow a b 0) :=
        (OwnA.zero_at rfl hz).rowed.congr (fun j _ => srow_top a b j)
      have hob2 : OwnA ((w1.alloc (.cells #[.int .i64 0, .int .i64 0, .int .i64 0, .int .i64 0, .int .i64 0, .int .i64 0, .int .i64 0, .int .i64 0, .int .i64 0, .int .i64 0, .int .i64 0, .int .i64 0, .int .i64 0] 40)).setRow w1.heap.size (arr fun k => (k : Int))) w.heap.size w.heap.size (brow a b 0) := (hob1.alloc _).setRow _ (by omega)
      have hbel0 : Below w.heap.size w ((w1.alloc (.cells #[.int .i64 0, .int .i64 0, .int .i64 0, .int .i64 0, .int .i64 0, .int .i64 0, .int .i64 0, .int .i64 0, .int .i64 0, .int .i64 0, .int .i64 0, .int .i64 0, .int .i64 0] 40)).setRow w1.heap.size (arr fun k => (k : Int))) := below_setRow ((below_step hb0 (by omega) hb1).alloc hz _) hz _
      have hne : w.heap.size ≠ w1.heap.size := by omega
      clear hob0 hob1 hb0 hb1 hsz0 hz1
      generalize w1.heap.size = g at *
      go_loopw [21] (fun i wr => ∃ k : Nat, k ≤ a.size ∧ i = .int .i64 k ∧ OwnA wr w.heap.size g (srow a b k) ∧ OwnA wr w.heap.size w.heap.size (brow a b k) ∧ Below w.heap.size w wr) (fun i _ => a.size - (intOf i).toNat)
      case atStart => exact ⟨0, Nat.zero_le _, rfl, hown0, hob2, hbel0⟩
      case round =>
        clear hown0 hob2 hbel0
        obtain ⟨k, hk, rfl, hown, hob, hbel⟩ := hrel
        by_cases hlt : k < a.size
        · have hg := hown.lt
          go_wp2_with (with_reducible refine wp_store_arr rfl (.tmp 8) (.tmp 26) rfl w.heap.size wr.heap.size (fun _ => 0) (fun x => if x = 0 then (k : Int) + 1 else 0) rfl rfl (OwnA.zero_at rfl hbel.size) ?_)
          have hownn : OwnA ((wr.alloc (.cells #[.int .i64 0, .int .i64 0, .int .i64 0, .int .i64 0, .int .i64 0, .int .i64 0, .int .i64 0, .int .i64 0, .int .i64 0, .int .i64 0, .int .i64 0, .int .i64 0, .int .i64 0] 40)).setRow wr.heap.size (arr fun x => if x = 0 then (k : Int) + 1 else 0)) w.heap.size wr.heap.size (nrow a b k 0) :=
            (OwnA.zero_at rfl hbel.size).rowed.congr (fun j _ => nrow_start a b k j hlt)
          have hown2 : OwnA ((wr.alloc (.cells #[.int .i64 0, .int .i64 0, .int .i64 0, .int .i64 0, .int .i64 0, .int .i64 0, .int .i64 0, .int .i64 0, .int .i64 0, .int .i64 0, .int .i64 0, .int .i64 0, .int .i64 0] 40)).setRow wr.heap.size (arr fun x => if x = 0 then (k : Int) + 1 else 0)) w.heap.size g (srow a b k) := (hown.alloc _).setRow _ (by omega)
          have hob2 : OwnA ((wr.alloc (.cells #[.int .i64 0, .int .i64 0, .int .i64 0, .int .i64 0, .int .i64 0, .int .i64 0, .int .i64 0, .int .i64 0, .int .i64 0, .int .i64 0, .int .i64 0, .int .i64 0, .int .i64 0] 40)).setRow wr.heap.size (arr fun x => if x = 0 then (k : Int) + 1 else 0)) w.heap.size w.heap.size (brow a b k) := (hob.alloc _).setRow _ (by omega)
          have hbel2 : Below w.heap.size w ((wr.alloc (.cells #[.int .i64 0, .int .i64 0, .int .i64 0, .int .i64 0, .int .i64 0, .int .i64 0, .int .i64 0, .int .i64 0, .int .i64 0, .int .i64 0, .int .i64 0, .int .i64 0, .int .i64 0] 40)).setRow wr.heap.size (arr fun x => if x = 0 then (k : Int) + 1 else 0)) := below_setRow (hbel.alloc hbel.size _) hbel.size _
          have hn1 : g ≠ wr.heap.size := by omega
          have hn2 : w.heap.size ≠ wr.heap.size := by omega
          have hzn : w.heap.size ≤ wr.heap.size := by omega
          clear hown hob hbel hg
          generalize wr.heap.size = gn at *
          go_loopw [29] (fun i wr => ∃ m : Nat, m ≤ b.size ∧ i = .int .i64 m ∧ OwnA wr w.heap.size gn (nrow a b k m) ∧ OwnA wr w.heap.size g (srow a b k) ∧ OwnA wr w.heap.size w.heap.size (brow a b k) ∧ Below w.heap.size w wr) (fun i _ => b.size - (intOf i).toNat)
          case atStart => exact ⟨0, Nat.zero_le _, rfl, hownn, hown2, hob2, hbel2⟩
          case round =>
            clear hownn hown2 hob2 hbel2
            obtain ⟨m, hm, rfl, hownn, hown, hob, hbel⟩ := hrel
            by_cases hlm : m < b.size
            · have hfr := hownn.frozen (m + 1)
              have hc1 := hown.at_ (k := m) (by omega)
              have hc2 := hown.at_ (k := m + 1) (by omega)
              have hc3 := hownn.at_ (k := m) (by omega)
              rw [srow_here a b k m hm] at hc1
              rw [srow_here a b k (m + 1) hlm] at hc2
              rw [nrow_here a b k m] at hc3
              have hc4 := hownn.at_ (k := m + 1) (by omega)
              rw [nrow_free a b k m] at hc4
              have l1 := sdist_le a b k m
              have l2 := sdist_le a b k (m + 1)
              have l3 := sdist_le a b (k + 1) m
              have hm0 : (0 : Int) ≤ (m : Int) := by omega
              have hm1 : (m : Int) < (b.size : Int) := by omega
              have hk0 : (0 : Int) ≤ (k : Int) := by omega
              have hk1 : (k : Int) < (a.size : Int) := by omega
              have hx1 : (m : Int) + 1 < 13 := by omega
              have hx2 : (m : Int) < 13 := by omega
              obtain ⟨c, hc, hcl, hce⟩ : ∃ c : Nat, (if ((a[k].toNat : Int) = (b[m].toNat : Int)) then (0 : Int) else 1) = (c : Int) ∧ c ≤ 1 ∧ (if a[k] = b[m] then 0 else 1) = c := by
                by_cases h : a[k] = b[m]
                · exact ⟨0, by rw [if_pos (by rw [h])]; rfl, by omega, if_pos h⟩
                · exact ⟨1, by rw [if_neg (fun e => h (UInt8.toNat_inj.1 (by omega)))]; rfl, by omega, if_neg h⟩
              have HEN := Lib.hid (ends_at a b · k m ha2 hb2 hlt hlm)
              have hyes := sdist_yes a b k m hlt hlm
              have hno := sdist_no a b k m hlt hlm
              rw [hce] at hyes hno
              have HYES := Lib.hid hyes
              have HNO := Lib.hid hno
              have HO := Lib.hid hownn
              have HC := Lib.hid hc
              clear hc hce hyes hno hownn
              generalize sdist a b k m = x at *
              generalize sdist a b k (m + 1) = y at *
              generalize sdist a b (k + 1) m = z at *
              go_wp2_with fail
              have ha0 := a[k].toNat_lt
              have hb0 := b[m].toNat_lt
              have hx3 : (0 : Int) ≤ (m : Int) + 1 := by omega
              have hw1 := IntWalk.i64_in ((m : Int) + 1) (by omega)
              have hw2 := IntWalk.i64_in ((y : Int) + 1) (by omega)
              have hw3 := IntWalk.i64_in ((z : Int) + 1) (by omega)
              have hw4 := IntWalk.i64_in ((x : Int) + c) (by omega)
              have HK1 := Lib.hid (fun v : Value => cell_far_drew hc1 (k := m + 1) v hn1)
              have HK2 := Lib.hid (fun v : Value => cell_far_drew hc2 (k := m + 1) v hn1)
              have HK3 := Lib.hid (fun v : Value => cell_other_drew hc3 (k := m + 1) v (by omega))
              have HF := Lib.hid (fun v : Int => (HO.out.stored (m + 1) v).frozen (m + 1))
              go_region_held3 (fun w' => w'.cell? ⟨g, m, none⟩ = some (.int .i64 x) ∧ w'.cell? ⟨g, m + 1, none⟩ = some (.int .i64 y) ∧ w'.cell? ⟨gn, m, none⟩ = some (.int .i64 z) ∧ w'.frozen? ⟨gn, m + 1, none⟩ = false)
                  (first | assumption | exact ⟨HK1.out _, HK2.out _, HK3.out _, HF.out _⟩ | go_keep)
                  (first | ((go_at_call 33; refine (costOfPair_is HC.out _ (by omega) (by have := a[k].toNat_lt; omega) (by omega) (by have := b[m].toNat_lt; omega)).mono ?_; rintro e w' ⟨rfl, rfl⟩)) | fail)
              all_goals
                clear hw2 hw3 hw4
                rw [show (if (x : Int) + (c : Int) < (if z < y then (z : Int) + 1 else (y : Int) + 1) then (x : Int) + (c : Int) else (if z < y then (z : Int) + 1 else (y : Int) + 1)) = ((min (x + c) (min y z + 1) : Nat) : Int) by split <;> split <;> omega]
                have hv1 : min (x + c) (min y z + 1) ≤ 13 := by omega
                generalize min (x + c) (min y z + 1) = v1 at *
                have hownn := HO.out.stored (m + 1) (v1 : Int)
                have hown := hown.setCell (p := ⟨gn, m + 1, none⟩) (.int .i64 (v1 : Int)) hn1
                have hob := hob.setCell (p := ⟨gn, m + 1, none⟩) (.int .i64 (v1 : Int)) hn2
                have hbel := hbel.setCell (p := ⟨gn, m + 1, none⟩) hzn (.int .i64 (v1 : Int))
                clear HO HK1 HK2 HK3 HF hc1 hc2 hc3 hc4 hfr
                generalize wr.setCell ⟨gn, m + 1, none⟩ (.int .i64 (v1 : Int)) = W at *
                have hownn := hownn.drawn (Drawn.drew1 _)
                have hown := hown.drawn (Drawn.drew1 _)
                have hob := hob.drawn (Drawn.drew1 _)
                have hbel := hbel.drew
                generalize W.drew = W2 at *
                have hk3 : (0 : Int) ≤ (k : Int) + 1 := by omega
                have hk4 : (k : Int) + 1 ≤ (a.size : Int) := by omega
                have hm4 : (m : Int) + 1 ≤ (b.size : Int) := by omega
                have hwk := IntWalk.i64_in ((k : Int) + 1) (by omega)
                cases hx : exchB a b k m
                · have HV := Lib.hid (HNO.out hx)
                  have HEN2 := Lib.hid (fun W => (HEN.out W).mono fun e w' h => (show e = .returned (.bool false) ∧ Drawn W w' from by rw [← hx]; exact h))
                  clear HEN HYES HNO hx
                  go_wp2_with fail
                  go_quiet ((go_at_call 40; exact quiet_drawn (HEN2.out _)))
                  go_wp2_with fail
                  go_roundw
                  case rel => exact ⟨m + 1, by omega, by go_num, (hownn.congr (fun j _ => nrow_next a b k m j _ (by rw [HV.out]))).drawn ⟨_, rfl⟩, hown.drawn ⟨_, rfl⟩, hob.drawn ⟨_, rfl⟩, below_drewN hbel _⟩
                  case measure => simp [intOf]; omega
                · obtain ⟨hkp, hmp, hval⟩ := HYES.out hx
                  have HV := Lib.hid hval
                  have HEN2 := Lib.hid (fun W => (HEN.out W).mono fun e w' h => (show e = .returned (.bool true) ∧ Drawn W w' from by rw [← hx]; exact h))
                  clear HEN HYES HNO hx hval
                  go_wp2_with fail
                  go_quiet ((go_at_call 40; exact quiet_drawn (HEN2.out _)))
                  go_wp2_with fail
                  have hownn := hownn.drawn (w' := W2.drewN nq) ⟨nq, rfl⟩
                  have hown := hown.drawn (w' := W2.drewN nq) ⟨nq, rfl⟩
                  have hob := hob.drawn (w' := W2.drewN nq) ⟨nq, rfl⟩
                  have hbel := below_drewN hbel nq
                  generalize W2.drewN nq = W3 at *
                  have hc4 := hownn.at_ (k := m + 1) (by omega)
                  rw [if_pos rfl] at hc4
                  have hc5 := hob.at_ (k := m - 1) (by omega)
                  rw [brow_here a b k (m - 1) hkp (by omega)] at hc5
                  have l5 := sdist_le a b (k - 1) (m - 1)
                  generalize sdist a b (k - 1) (m - 1) = q at *
                  obtain ⟨m', rfl⟩ : ∃ m', m = m' + 1 := ⟨m - 1, by omega⟩
                  have hfr := hownn.frozen (m' + 1 + 1)
                  have hk5 : (0 : Int) ≤ (m' : Int) := by omega
                  have hk6 : (m' : Int) < 13 := by omega
                  have hw5 : IntKind.i64.wrap ((m' : Int) + 1 - 1) = (m' : Int) := by rw [IntWalk.i64_in _ (by omega)]; omega
                  have hw6 := IntWalk.i64_in ((q : Int) + 1) (by omega)
                  have hq1 : (0 : Int) ≤ (m' : Int) + 1 + 1 := by omega
                  have hq2 : (m' : Int) + 1 + 1 < 13 := by omega
                  have hq3 : ((m' : Int) + 1 + 1).toNat = m' + 1 + 1 := by omega
                  have hw7 := IntWalk.i64_in (m' : Int) (by omega)
                  have hwm := IntWalk.i64_in ((m' : Int) + 1 + 1) (by omega)
                  have hownn := hownn.drawn (Drawn.drew1 _)
                  have hown := hown.drawn (Drawn.drew1 _)
                  have hob := hob.drawn (Drawn.drew1 _)
                  have hbel := hbel.drew
                  have hc4 : W3.drew.cell? ⟨gn, m' + 1 + 1, none⟩ = some (.int .i64 (v1 : Int)) := hc4
                  have hc5 : W3.drew.cell? ⟨w.heap.size, m', none⟩ = some (.int .i64 (q : Int)) := hc5
                  have hfr : W3.drew.frozen? ⟨gn, m' + 1 + 1, none⟩ = false := hfr
                  refine wp_region_still_tail 13 (by kernel_rfl) (by kernel_rfl) ?_
                  rw [← show W3.drew = ({ heap := W3.heap, tape := W3.tape, drawn := W3.drawn + 1, os := W3.os, output := W3.output } : World) from rfl]
                  generalize W3.drew = W4 at *
                  simp only [List.take_succ_cons, List.take_zero, List.drop_succ_cons, List.drop_zero]
                  repeat still_step
                  try refine wpStill_nil ?_
                  go_wp2_with fail
                  rw [show (if (q : Int) + 1 < (v1 : Int) then (q : Int) + 1 else (v1 : Int)) = ((min v1 (q + 1) : Nat) : Int) by split <;> omega]
                  go_roundw
                  case rel =>
                    exact ⟨m' + 1 + 1, by omega, by go_num, (hownn.stored (m' + 1 + 1) _).congr (fun j _ => (nrow_over a b k (m' + 1) j _ _).trans (nrow_next a b k (m' + 1) j _ (by rw [HV.out]))),
                      hown.setCell _ hn1, hob.setCell _ hn2, hbel.setCell hzn _⟩
                  case measure => simp [intOf]; omega
            · obtain rfl : m = b.size := by omega
              have HN2 := Lib.hid (show OwnA wr w.heap.size gn (srow a b (k + 1)) from hownn.congr (fun j _ => nrow_end a b k j))
              have HB2 := Lib.hid (show OwnA wr w.heap.size g (brow a b (k + 1)) from hown.congr (fun j _ => brow_next a b k j))
              have HO1 := Lib.hid (hown.drawn (Drawn.drew1 _))
              have HO2 := Lib.hid (HN2.out.drawn (Drawn.drew1 _))
              have HO3 := Lib.hid (hob.drawn (Drawn.drew1 _))
              have HG : OwnA ((wr.drew.setRow w.heap.size (arr (srow a b k))).setRow g (arr (srow a b (k + 1)))) w.heap.size g (srow a b (k + 1)) := (HO1.out.setRow _ (Ne.symm hne)).rowed
              have HB : OwnA ((wr.drew.setRow w.heap.size (arr (srow a b k))).setRow g (arr (srow a b (k + 1)))) w.heap.size w.heap.size (brow a b (k + 1)) := (HO3.out.rowed.setRow _ hne).congr (fun j _ => brow_next a b k j)
              have HD := below_setRow (below_setRow hbel.drew (Nat.le_refl _) (arr (srow a b k))) hz (arr (srow a b (k + 1)))
              clear hownn hown hob hbel HN2 HB2
              go_wp2_with fail
              refine wp_region_any (by kernel_rfl) ?_
              rw [← show wr.drew = ({ heap := wr.heap, tape := wr.tape, drawn := wr.drawn + 1, os := wr.os, output := wr.output } : World) from rfl]
              have HO4 := Lib.hid (HO1.out.setRow (g2 := w.heap.size) (arr (srow a b k)) (Ne.symm hne))
              have HO5 := Lib.hid (HO2.out.setRow (g2 := w.heap.size) (arr (srow a b k)) (Ne.symm hn2))
              refine wpAny_ready (rs := [0, 1]) (by kernel_rfl) (by simp) ?_
              refine AllReady.cons rfl (fun K hK => ?_) (AllReady.cons rfl (fun K hK => ?_) AllReady.nil)
              · refine step_load_arr rfl (.tmp 6) rfl _ g _ rfl HO1.out ?_
                refine hK _ _ ?_
                clear hK K
                simp only [Act.put, List.setIfInBounds_toArray, List.set_cons_zero, List.set_cons_succ]
                refine wpAny_ready (rs := [1, 2]) (by kernel_rfl) (by simp) ?_
                refine AllReady.cons rfl (fun K hK => ?_) (AllReady.cons rfl (fun K hK => ?_) AllReady.nil)
                · refine step_load_arr rfl (.tmp 8) rfl _ gn _ rfl HO2.out ?_
                  refine hK _ _ ?_
                  clear hK K
                  simp only [Act.put, List.setIfInBounds_toArray, List.set_cons_zero, List.set_cons_succ]
                  refine wpAny_ready (rs := [2]) (by kernel_rfl) (by simp) ?_
                  refine AllReady.cons rfl (fun K hK => ?_) AllReady.nil
                  refine step_store_arr rfl (.tmp 5) (.tmp 79) rfl _ w.heap.size _ _ rfl rfl HO3.out ?_
                  refine hK _ _ ?_
                  clear hK K
                  simp only [Act.put, List.setIfInBounds_toArray, List.set_cons_zero, List.set_cons_succ]
                  refine wpAny_ready (rs := [3]) (by kernel_rfl) (by simp) ?_
                  refine AllReady.cons rfl (fun K hK => ?_) AllReady.nil
                  refine step_store_arr rfl (.tmp 6) (.tmp 80) rfl _ g _ _ rfl rfl HO4.out ?_
                  refine hK _ _ ?_
                  clear hK K
                  simp only [Act.put, List.setIfInBounds_toArray, List.set_cons_zero, List.set_cons_succ]
                  refine wpAny_done (by kernel_rfl) ?_ _
                  generalize (wr.drew.setRow w.heap.size (arr (srow a b k))).setRow g (arr (srow a b (k + 1))) = W at *
                  go_wp2_with fail
                  go_roundw
                  case rel => exact ⟨k + 1, by omega, by go_num, HG, HB, HD⟩
                  case measure => simp [intOf]; omega
                · refine step_store_arr rfl (.tmp 5) (.tmp 79) rfl _ w.heap.size _ _ rfl rfl HO3.out ?_
                  refine hK _ _ ?_
                  clear hK K
                  simp only [Act.put, List.setIfInBounds_toArray, List.set_cons_zero, List.set_cons_succ]
                  refine wpAny_ready (rs := [1]) (by kernel_rfl) (by simp) ?_
                  refine AllReady.cons rfl (fun K hK => ?_) AllReady.nil
                  refine step_load_arr rfl (.tmp 8) rfl _ gn _ rfl HO5.out ?_
                  refine hK _ _ ?_
                  clear hK K
                  simp only [Act.put, List.setIfInBounds_toArray, List.set_cons_zero, List.set_cons_succ]
                  refine wpAny_ready (rs := [3]) (by kernel_rfl) (by simp) ?_
                  refine AllReady.cons rfl (fun K hK => ?_) AllReady.nil
                  refine step_store_arr rfl (.tmp 6) (.tmp 80) rfl _ g _ _ rfl rfl HO4.out ?_
                  refine hK _ _ ?_
                  clear hK K
                  simp only [Act.put, List.setIfInBounds_toArray, List.set_cons_zero, List.set_cons_succ]
                  refine wpAny_done (by kernel_rfl) ?_ _
                  generalize (wr.drew.setRow w.heap.size (arr (srow a b k))).setRow g (arr (srow a b (k + 1))) = W at *
                  go_wp2_with fail
                  go_roundw
                  case rel => exact ⟨k + 1, by omega, by go_num, HG, HB, HD⟩
                  case measure => simp [intOf]; omega
              · refine step_load_arr rfl (.tmp 8) rfl _ gn _ rfl HO2.out ?_
                refine hK _ _ ?_
                clear hK K
                simp only [Act.put, List.setIfInBounds_toArray, List.set_cons_zero, List.set_cons_succ]
                refine wpAny_ready (rs := [0]) (by kernel_rfl) (by simp) ?_
                refine AllReady.cons rfl (fun K hK => ?_) AllReady.nil
                refine step_load_arr rfl (.tmp 6) rfl _ g _ rfl HO1.out ?_
                refine hK _ _ ?_
                clear hK K
                simp only [Act.put, List.setIfInBounds_toArray, List.set_cons_zero, List.set_cons_succ]
                refine wpAny_ready (rs := [2]) (by kernel_rfl) (by simp) ?_
                refine AllReady.cons rfl (fun K hK => ?_) AllReady.nil
                refine step_store_arr rfl (.tmp 5) (.tmp 79) rfl _ w.heap.size _ _ rfl rfl HO3.out ?_
                refine hK _ _ ?_
                clear hK K
                simp only [Act.put, List.setIfInBounds_toArray, List.set_cons_zero, List.set_cons_succ]
                refine wpAny_ready (rs := [3]) (by kernel_rfl) (by simp) ?_
                refine AllReady.cons rfl (fun K hK => ?_) AllReady.nil
                refine step_store_arr rfl (.tmp 6) (.tmp 80) rfl _ g _ _ rfl rfl HO4.out ?_
                refine hK _ _ ?_
                clear hK K
                simp only [Act.put, List.setIfInBounds_toArray, List.set_cons_zero, List.set_cons_succ]
                refine wpAny_done (by kernel_rfl) ?_ _
                generalize (wr.drew.setRow w.heap.size (arr (srow a b k))).setRow g (arr (srow a b (k + 1))) = W at *
                go_wp2_with fail
                go_roundw
                case rel => exact ⟨k + 1, by omega, by go_num, HG, HB, HD⟩
                case measure => simp [intOf]; omega
        · obtain rfl : k = a.size := by omega
          have hlast := hown.at_ (k := b.size) (by omega)
          rw [srow_here a b _ _ (Nat.le_refl _), sdist_last] at hlast
          have hi0 : (0 : Int) ≤ (b.size : Int) := by omega
          have hi1 : (b.size : Int) < 13 := by omega
          go_wp2_with fail
          go_ret
          exact ⟨ret_int HN.out.symm, hbel⟩
end Go.Proofs.Ytocmlkkigejifaa
