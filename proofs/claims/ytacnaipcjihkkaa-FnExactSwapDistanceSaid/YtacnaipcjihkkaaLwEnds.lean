/- The walk of the law FnEditEnds, over a contract of impl.EditDistance (EditC). -/
import Derived.Test.YtacnaipcjihkkaaLwEdit
import Derived.Deep.RegionHeld3
import Derived.Deep.RegionLaw
import Derived.Deep.RegionWith
namespace Go.Proofs.Ytacnaipcjihkkaa
open Go.RowKit
set_option maxHeartbeats 1600000
set_option linter.unusedSimpArgs false
set_option linter.unusedVariables false

theorem word_drop {l : List UInt8} (h : wordB l = true) (k : Nat) : wordB (l.drop k) = true := by
  unfold wordB lettersB at *
  rw [Bool.and_eq_true, decide_eq_true_iff, List.all_eq_true] at *
  exact ⟨by rw [List.length_drop]; omega, fun x hx => h.2 x (List.mem_of_mem_drop hx)⟩
theorem word_add {l : List UInt8} {u : UInt8} (h : wordB l = true) (hl : l.length < 12) (hu : letterB u.toNat = true) : wordB (l ++ [u]) = true ∧ wordB (u :: l) = true := by
  unfold wordB lettersB at *
  rw [Bool.and_eq_true] at h
  obtain ⟨_, h2⟩ := h
  rw [List.all_append, List.all_cons, List.all_cons, List.all_nil, h2, hu, List.length_append, List.length_cons, List.length_cons, List.length_nil, decide_eq_true (show l.length + (0 + 1) ≤ 12 by omega)]
  exact ⟨rfl, rfl⟩
theorem drop_list (s : ByteArray) (k : Nat) (hk : k ≤ s.size) : (s.extract k s.size).data.toList = s.data.toList.drop k := by
  rw [ByteArray.data_extract, Array.toList_extract, List.extract_eq_take_drop]
  apply List.take_of_length_le
  simp
theorem ed_drop {a b : List UInt8} {k : Nat} (h : a.take k = b.take k) : ed false (a.drop k) (b.drop k) = ed false a b := by
  have := ed_same_start (a.take k) (a.drop k) (b.drop k)
  rw [List.take_append_drop] at this
  rw [← this, h, List.take_append_drop]

theorem walkFnEditEnds (HC : EditC) (A : Option Addr) (n c : Nat) (A2 : Option Addr) (n2 c2 : Nat) (w : World) (h : Bytes w w.heap.size A n) (hnc : n ≤ c) (hc : c ≤ maxLen) (hn2c : n2 ≤ c2) (hc2 : c2 ≤ maxLen) :
    Calls Try.prog 7 #[.slice A n c, .slice A2 n2 c2] w fun e w' => e = .returned (.bool true) ∧ Below w.heap.size w w' := by
  have HC := Lib.hid HC
  have hn : n ≤ maxLen := Nat.le_trans hnc hc
  have hn' : n2 ≤ maxLen := Nat.le_trans hn2c hc2
  unfold maxLen at hn hn'
  by_cases hn2 : (1048576 : Int) < n
  · go_enter Try.func7, Try.ntmps7
    go_wp2_with fail
    go_ret
    exact ⟨rfl, Below.refl _ _⟩
  by_cases hn3 : (1048576 : Int) < n2
  · go_enter Try.func7, Try.ntmps7
    go_wp2_with fail
    go_ret
    exact ⟨rfl, Below.refl _ _⟩
  · have hcv := text_of_byte
    go_enter Try.func7, Try.ntmps7
    go_wp2_with fail
    refine (drawEditDistance_any _ _ _ _ h hnc hc).mono ?_
    rintro e w1 ⟨a, b, rfl, ha, hb, hb1⟩
    have am : a.size ≤ maxLen := by unfold maxLen; omega
    have bm : b.size ≤ maxLen := by unfold maxLen; omega
    by_cases hv : (wordB a.data.toList && wordB b.data.toList) = true
    · have hI := twoI_yes (f := fun x y => (ed false x y : Int)) hv
      have hH : sharedI a.data.toList b.data.toList = (shared a.data.toList b.data.toList : Int) := by unfold sharedI; rw [if_pos hv]
      obtain ⟨f1, f2, f3, -⟩ := shared_facts a.data.toList b.data.toList
      have hva : wordB a.data.toList = true := by simp at hv; exact hv.1
      have hvb : wordB b.data.toList = true := by simp at hv; exact hv.2
      rw [len_eq] at f1 f2
      generalize shared a.data.toList b.data.toList = k at *
      have hD := twoI_yes (f := fun x y => (ed false x y : Int)) (a := (a.extract k a.size).data.toList) (b := (b.extract k b.size).data.toList) (by rw [drop_list a k f1, drop_list b k f2, word_drop hva, word_drop hvb]; rfl)
      rw [drop_list a k f1, drop_list b k f2, ed_drop f3, ← drop_list a k f1, ← drop_list b k f2] at hD
      have HE := Lib.hid (fun (u : UInt8) (hu : letterB u.toNat = true) (h1 : a.size < 12) (h2 : b.size < 12) => show
          twoI (fun x y => (ed false x y : Int)) (a ++ ⟨#[u]⟩).data.toList (b ++ ⟨#[u]⟩).data.toList = (ed false a.data.toList b.data.toList : Int) ∧
          twoI (fun x y => (ed false x y : Int)) ((⟨#[u]⟩ : ByteArray) ++ a).data.toList ((⟨#[u]⟩ : ByteArray) ++ b).data.toList = (ed false a.data.toList b.data.toList : Int) from by
        obtain ⟨p1, p2⟩ := word_add hva (by rw [len_eq]; exact h1) hu
        obtain ⟨q1, q2⟩ := word_add hvb (by rw [len_eq]; exact h2) hu
        simp only [ByteArray.data_append, Array.toList_append, List.cons_append, List.nil_append]
        rw [twoI_yes (by rw [p1, q1]; rfl), twoI_yes (by rw [p2, q2]; rfl), ed_same_end, ed_same]
        exact ⟨rfl, rfl⟩)
      generalize ed false a.data.toList b.data.toList = d at *
      have I1 := Lib.hid hI
      have I3 := Lib.hid hD
      have I5 := Lib.hid hH
      have ha12 := word_size hva
      have hb12 := word_size hvb
      clear hI hD hH hv h hnc hc hn2c hc2 f3 hva hvb
      have htm : (n2 : Int).tmod 26 = ((n2 % 26 : Nat) : Int) := rfl
      have hr : n2 % 26 < 26 := Nat.mod_lt _ (by omega)
      generalize n2 % 26 = r at *
      have hu : letterB (UInt8.ofNat (97 + r)).toNat = true := by
        rw [UInt8.toNat_ofNat']
        unfold letterB
        simp; omega
      obtain ⟨L, hL⟩ : ∃ L : ByteArray, (⟨#[UInt8.ofNat (97 + r)]⟩ : ByteArray) = L := ⟨_, rfl⟩
      have HEL := HE.out _ hu
      rw [hL] at HEL
      have HEL := Lib.hid HEL
      have HL := Lib.hid hL
      have hL1 : L.size = 1 := by rw [← hL]; rfl
      clear hL HE hu
      have g1 : decide ((k : Int) < 0) = false := by simp
      have g2 : decide ((a.size : Int) < (k : Int)) = false := by simp; omega
      have g3 : decide ((b.size : Int) < (k : Int)) = false := by simp; omega
      have g4 : ¬ a.size < k := by omega
      have g5 : ¬ b.size < k := by omega
      have g6 : ¬ (a.size : Int) < (k : Int) := by omega
      have g7 : ¬ (b.size : Int) < (k : Int) := by omega
      have g8 : ¬ (k : Int) < 0 := by omega
      have g9 : decide (a.size < k) = false := by simp; omega
      have g10 : decide (b.size < k) = false := by simp; omega
      have hr0 : (0 : Int) ≤ (r : Int) := by omega
      have hr1 : (r : Int) < 26 := by omega
      have hk0 : (0 : Int) ≤ (k : Int) := by omega
      have hk1 : (k : Int) ≤ (a.size : Int) := by omega
      have hk2 : (k : Int) ≤ (b.size : Int) := by omega
      have hbz : ((d : Int) == (d : Int)) = true := by simp
      have hbz2 : ((d : Int) != (d : Int)) = false := by simp
      go_wp2_with fail
      refine (HC.out _ _ _ am bm).mono ?_
      rintro e w2 ⟨rfl, hd2'⟩
      rw [I1.out]
      go_wp2_with fail
      refine (editDistance_spec _ _ _ am bm).mono ?_
      rintro e w3 ⟨rfl, hd3'⟩
      rw [I1.out]
      have D := Lib.hid (below_step (below_step hb1 (Nat.le_refl _) hd2') (Nat.le_refl _) hd3')
      clear hd2' hd3' hb1
      go_wp2_with fail
      rw [HL.out]
      refine (sharedStart_impl _ _ _ am bm).mono ?_
      rintro e w4 ⟨rfl, hd4⟩
      rw [I5.out]
      have D4 := below_step (D.out.alloc D.out.size _) (Nat.le_refl _) hd4.below
      clear hd4
      have hka : (a.extract k a.size).size ≤ maxLen := by rw [ByteArray.size_extract]; unfold maxLen; omega
      have hkb : (b.extract k b.size).size ≤ maxLen := by rw [ByteArray.size_extract]; unfold maxLen; omega
      have HK := Lib.hid (show ∀ W : World, Calls Try.prog 13 #[.string (a.extract k a.size), .string (b.extract k b.size)] W fun e w' => e = .returned (.int .i64 (d : Int)) ∧ Below W.heap.size W w' from fun W => by
        have h := HC.out (a.extract k a.size) (b.extract k b.size) W hka hkb
        rw [I3.out] at h
        exact h)
      clear hka hkb
      go_wp2_with fail
      go_region_held3 (fun w' => True)
        (first | trivial | go_keep | assumption)
        ((go_at_call 13
          (with_reducible refine (HK.out _).mono ?_)
          rintro e w5 ⟨rfl, hd5⟩
          have hd5 : Below w4.heap.size w4 w5 := ⟨hd5.os, hd5.tape, hd5.output, hd5.size, hd5.block⟩
          have D5 := below_step D4 (Nat.le_refl _) hd5))
      by_cases hab : a.size < b.size
      · have x1 : (a.size : Int) < b.size := by omega
        by_cases h12 : b.size = 12
        · have x2 : ((b.size : Int) == 12) = true := by simp; omega
          go_wp2_with fail
          go_ret
          exact ⟨rfl, D5⟩
        · have x2 : ((b.size : Int) == 12) = false := by simp; omega
          obtain ⟨e1, e2⟩ := HEL.out (by omega) (by omega)
          have z1 : (a ++ L).size ≤ maxLen := by rw [ByteArray.size_append, hL1]; unfold maxLen; omega
          have z2 : (b ++ L).size ≤ maxLen := by rw [ByteArray.size_append, hL1]; unfold maxLen; omega
          have z3 : (L ++ a).size ≤ maxLen := by rw [ByteArray.size_append, hL1]; unfold maxLen; omega
          have z4 : (L ++ b).size ≤ maxLen := by rw [ByteArray.size_append, hL1]; unfold maxLen; omega
          have E1 := Lib.hid e1
          have E2 := Lib.hid e2
          clear e1 e2
          go_wp2_with fail
          refine (HC.out _ _ _ z1 z2).mono ?_
          rintro e w6 ⟨rfl, hd6⟩
          rw [E1.out]
          go_wp2_with fail
          refine (HC.out _ _ _ z3 z4).mono ?_
          rintro e w7 ⟨rfl, hd7⟩
          rw [E2.out]
          go_wp2_with fail
          go_ret
          exact ⟨rfl, below_step (below_step D5 (Nat.le_refl _) hd6) (Nat.le_refl _) hd7⟩
      · have x1 : ¬ (a.size : Int) < b.size := by omega
        by_cases h12 : a.size = 12
        · have x2 : ((a.size : Int) == 12) = true := by simp; omega
          go_wp2_with fail
          go_ret
          exact ⟨rfl, D5⟩
        · have x2 : ((a.size : Int) == 12) = false := by simp; omega
          obtain ⟨e1, e2⟩ := HEL.out (by omega) (by omega)
          have z1 : (a ++ L).size ≤ maxLen := by rw [ByteArray.size_append, hL1]; unfold maxLen; omega
          have z2 : (b ++ L).size ≤ maxLen := by rw [ByteArray.size_append, hL1]; unfold maxLen; omega
          have z3 : (L ++ a).size ≤ maxLen := by rw [ByteArray.size_append, hL1]; unfold maxLen; omega
          have z4 : (L ++ b).size ≤ maxLen := by rw [ByteArray.size_append, hL1]; unfold maxLen; omega
          have E1 := Lib.hid e1
          have E2 := Lib.hid e2
          clear e1 e2
          go_wp2_with fail
          refine (HC.out _ _ _ z1 z2).mono ?_
          rintro e w6 ⟨rfl, hd6⟩
          rw [E1.out]
          go_wp2_with fail
          refine (HC.out _ _ _ z3 z4).mono ?_
          rintro e w7 ⟨rfl, hd7⟩
          rw [E2.out]
          go_wp2_with fail
          go_ret
          exact ⟨rfl, below_step (below_step D5 (Nat.le_refl _) hd6) (Nat.le_refl _) hd7⟩
    · have hI := twoI_no (f := fun x y => (ed false x y : Int)) (by simpa using hv : (wordB a.data.toList && wordB b.data.toList) = false)
      have I1 := Lib.hid hI
      clear hI hv h hnc hc
      go_wp2_with fail
      refine (HC.out _ _ _ am bm).mono ?_
      rintro e w2 ⟨rfl, hd2'⟩
      rw [I1.out]
      go_wp2_with fail
      refine (editDistance_spec _ _ _ am bm).mono ?_
      rintro e w3 ⟨rfl, hd3'⟩
      rw [I1.out]
      go_wp2_with fail
      refine (alive_any _).mono ?_
      rintro e w5 ⟨rfl, hd5⟩
      go_wp2_with fail
      go_ret
      exact ⟨rfl, below_step (below_step (below_step hb1 (Nat.le_refl _) hd2') (Nat.le_refl _) hd3') (Nat.le_refl _) hd5.below⟩
end Go.Proofs.Ytacnaipcjihkkaa
