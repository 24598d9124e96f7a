/- Contracts of the program's isCount, wordsOf, DictValid, DictWords. -/
import Derived.Test.YtopjhdgpdcdklaaItems
import Derived.Test.YtopjhdgpdcdklaaTextRec
namespace Go.Proofs.Ytopjhdgpdcdklaa
open Go.RowKit
set_option maxHeartbeats 1600000
set_option linter.unusedSimpArgs false
set_option linter.unusedVariables false

theorem isCount_impl (m : Int) (w : World) : Calls Try.prog 50 #[.int .i64 m] w fun e w' => e = .returned (.bool (countB m)) ∧ w = w' := by
  by_cases h1 : 1 ≤ m
  · by_cases h2 : m ≤ 1000000
    · have HE := Lib.hid (show countB m = true by simp [countB]; omega)
      go_enter Try.func50, Try.ntmps50
      go_wp2_with fail
      go_ret
      exact ⟨ret_bool HE.out.symm, rfl⟩
    · have HE := Lib.hid (show countB m = false by simp [countB]; omega)
      go_enter Try.func50, Try.ntmps50
      go_wp2_with fail
      go_ret
      exact ⟨ret_bool HE.out.symm, rfl⟩
  · have HE := Lib.hid (show countB m = false by simp [countB]; omega)
    go_enter Try.func50, Try.ntmps50
    go_wp2_with fail
    go_ret
    exact ⟨ret_bool HE.out.symm, rfl⟩
theorem isCount_is {m : Int} {v : Bool} (hv : countB m = v) (w : World) : Calls Try.prog 50 #[.int .i64 m] w fun e w' => e = .returned (.bool v) ∧ w = w' := hv ▸ isCount_impl m w

theorem wordsOf_any (A : Option Addr) (n c B : Nat) (d : List Item) (w : World) (hn : n ≤ 1048576) (h : Items w B A n d) (hB : B ≤ w.heap.size) :
    Calls Try.prog 51 #[.slice A n c] w fun e w' => ∃ g, e = .returned (.slice (some ⟨g, 0, none⟩) n n) ∧ OwnTx w' w.heap.size (some ⟨g, 0, none⟩) n n (wordsD d) ∧ Below w.heap.size w w' := by
  have HL := Lib.hid (show (wordsD d).length = n by unfold wordsD; rw [List.length_map]; exact h.len)
  go_enter Try.func51, Try.ntmps51
  go_wp2_with (at_make; go_loud (refine wp_make_recs textR ByteArray.empty rfl (by show (0:Nat) ≤ maxLen; omega) rfl _ _ rfl n _ _ rfl rfl rfl rfl (by omega) ?_); intro w1 hown hg hz)
  have hb1 : Below w.heap.size w w1 := (Below.refl _ _).grown hg (Nat.le_refl _) (by simp)
  have hown := ownTx_iff.1 hown
  rw [← copiedR_zero _ (wordsD d)] at hown
  clear hg hz
  go_loopw [11] (fun i wr => ∃ k : Nat, k ≤ n ∧ i = .int .i64 k ∧ OwnTx wr w.heap.size (some ⟨w.heap.size, 0, none⟩) n n (copiedR ByteArray.empty (wordsD d) n k) ∧ Below w.heap.size w wr) (fun i _ => n - (intOf i).toNat)
  case atStart => exact ⟨0, Nat.zero_le _, rfl, hown, hb1⟩
  case round =>
    clear hown hb1
    obtain ⟨k, hk, rfl, hown, hbel⟩ := hrel
    by_cases hlt : k < n
    · obtain ⟨b, o, s, v, rfl, hb, hd, hs, hv, c0, c1⟩ := items_at (h.step hbel hB) hlt
      have hw : (wordsD d)[k]? = some s := by unfold wordsD; rw [List.getElem?_map, hd]; rfl
      have hk0 : (0 : Int) ≤ (k : Int) := by omega
      have hk1 : (k : Int) < (n : Int) := by omega
      have hgs : w.heap.size < wr.heap.size := ((ownTx_iff.2 hown).blockAt rfl).2
      have ownA := ownTx_iff.2 hown
      have hcg := copiedR_get ByteArray.empty HL.out hlt
      have v0 : wr.cell? ⟨w.heap.size, k, none⟩ = some (.string ⟨#[]⟩) := by have := ownA.at_ (i := 0) hcg rfl; rwa [show k * textR.k + 0 = k from by show k * 1 + 0 = k; omega] at this
      have f0 := ownA.frozen k
      have HO := Lib.hid (show OwnR textR (wr.setCell ⟨w.heap.size, k, none⟩ (.string s)) w.heap.size (some ⟨w.heap.size, 0, none⟩) n n (copiedR ByteArray.empty (wordsD d) n (k + 1)) from by
        have := ownA.stored (i := 0) (e' := s) (v := .string s) hcg (by show 0 < 1; omega) rfl hs
        rwa [copiedR_set _ HL.out hw, show k * textR.k + 0 = k from by show k * 1 + 0 = k; omega] at this)
      have HB := Lib.hid (hbel.setCell (p := ⟨w.heap.size, k, none⟩) (Nat.le_refl _) (.string s))
      have hbz := hbel.size
      clear hown hbel ownA hcg hd hw
      go_wp2_with fail
      go_roundw
      case rel => exact ⟨k + 1, by omega, by go_num, ownTx_iff.1 (HO.out.alloc _), HB.out.alloc (by simpa using hbz) _⟩
      case measure => simp [intOf]; omega
    · obtain rfl : k = n := by omega
      rw [copiedR_all _ HL.out] at hown
      go_wp2_with fail
      go_ret
      exact ⟨_, rfl, hown, hbel⟩

theorem dictValid_impl (A : Option Addr) (n c B : Nat) (d : List Item) (w : World) (hn : n ≤ 1048576) (h : Items w B A n d) (hB : B ≤ w.heap.size) :
    Calls Try.prog 17 #[.slice A n c] w fun e w' => e = .returned (.bool (dictB d)) ∧ Below w.heap.size w w' := by
  have HL := Lib.hid h.len
  go_enter Try.func17, Try.ntmps17
  go_wp2_with fail
  go_loopw [7] (fun i wr => ∃ k : Nat, k ≤ n ∧ i = .int .i64 k ∧ Hid (∀ j x, j < k → d[j]? = some x → countB x.2 = true) ∧ Below w.heap.size w wr) (fun i _ => n - (intOf i).toNat)
  case atStart => exact ⟨0, Nat.zero_le _, rfl, Lib.hid (fun j x hj => absurd hj (by omega)), Below.refl _ _⟩
  case round =>
    obtain ⟨k, hk, rfl, HP, hbel⟩ := hrel
    have hbz := hbel.size
    by_cases hlt : k < n
    · obtain ⟨b, o, s, x, rfl, hbB, hd, hs, hx, c0, c1⟩ := items_at (h.step hbel hB) hlt
      have i0 : (0 : Int) ≤ (k : Int) := by omega
      have i1 : (k : Int) < (n : Int) := by omega
      cases hc : countB x
      · have HN := Lib.hid (show dictB d = false from dict_bad (List.mem_of_getElem? hd) hc)
        have HC := Lib.hid (isCount_is hc)
        clear hd hc
        go_wp2_with fail
        refine (HC.out _).mono ?_
        rintro e w' ⟨rfl, rfl⟩
        go_wp2_with fail
        go_ret
        exact ⟨ret_bool HN.out.symm, hbel.alloc hbz _⟩
      · have HC := Lib.hid (isCount_is hc)
        have HP2 := Lib.hid (show ∀ j y, j < k + 1 → d[j]? = some y → countB y.2 = true from fun j y hj hy => by
          by_cases e : j = k
          · subst e; rw [hd] at hy; injection hy with hy; subst hy; exact hc
          · exact HP.out j y (by omega) hy)
        clear hd hc
        go_wp2_with fail
        refine (HC.out _).mono ?_
        rintro e w' ⟨rfl, rfl⟩
        go_wp2_with fail
        go_roundw
        case rel => exact ⟨k + 1, by omega, by go_num, HP2, hbel.alloc hbz _⟩
        case measure => simp [intOf]; omega
    · obtain rfl : k = n := by omega
      have HA := Lib.hid (show dictB d = listB (wordsD d) by
        unfold dictB
        rw [show d.all (fun x => countB x.2) = true from List.all_eq_true.2 fun x hx => by
          obtain ⟨j, hj⟩ := List.mem_iff_getElem?.1 hx
          exact HP.out j x (by have := (List.getElem?_eq_some_iff.1 hj).1; rw [HL.out] at this; exact this) hj]
        rfl)
      have hr := h.step hbel hB
      have hB2 : B ≤ wr.heap.size := by omega
      have km : k ≤ maxLen := by unfold maxLen; omega
      go_wp2_with fail
      refine (wordsOf_any A k c B d wr hn hr hB2).mono ?_
      rintro e w1 ⟨g, rfl, hown, hb1⟩
      have hbel := below_step hbel (Nat.le_refl _) hb1
      go_wp2_with fail
      refine (listValid_impl (some ⟨g, 0, none⟩) k k w1.heap.size (wordsD d) w1 km hown.recs).mono ?_
      rintro e w2 ⟨rfl, hd2⟩
      rw [← HA.out]
      go_wp2_with fail
      go_ret
      exact ⟨rfl, below_step hbel (Nat.le_refl _) hd2.below⟩
theorem dictValid_impl_is {d : List Item} {v : Bool} (hv : dictB d = v) (A : Option Addr) (n c B : Nat) (w : World) (hn : n ≤ 1048576) (h : Items w B A n d) (hB : B ≤ w.heap.size) :
    Calls Try.prog 17 #[.slice A n c] w fun e w' => e = .returned (.bool v) ∧ Below w.heap.size w w' := hv ▸ dictValid_impl A n c B d w hn h hB

theorem dictWords_impl (A : Option Addr) (n c B : Nat) (d : List Item) (w : World) (hn : n ≤ 1048576) (h : Items w B A n d) (hB : B ≤ w.heap.size) :
    Calls Try.prog 21 #[.slice A n c] w fun e w' => ∃ (A2 : Option Addr) (m cap : Nat), e = .returned (.slice A2 m cap) ∧ OwnTx w' w.heap.size A2 m cap (wordsE d) ∧ Below w.heap.size w w' := by
  cases hv : dictB d
  · have HV := Lib.hid (dictValid_impl_is hv)
    have HE := Lib.hid (show wordsE d = [] by unfold wordsE; rw [hv]; rfl)
    clear hv
    go_enter Try.func21, Try.ntmps21
    go_wp2_with fail
    refine (HV.out A n c B _ hn h hB).mono ?_
    rintro e w1 ⟨rfl, hb1⟩
    go_wp2_with fail
    go_ret
    exact ⟨none, 0, 0, rfl, by rw [HE.out]; exact ownTx_iff.1 (OwnR.nil _ _), hb1⟩
  · have HV := Lib.hid (dictValid_impl_is hv)
    have HE := Lib.hid (show wordsE d = wordsD d by unfold wordsE; rw [if_pos hv])
    clear hv
    go_enter Try.func21, Try.ntmps21
    go_wp2_with fail
    refine (HV.out A n c B _ hn h hB).mono ?_
    rintro e w1 ⟨rfl, hb1⟩
    have hr := h.step hb1 hB
    have hB2 : B ≤ w1.heap.size := by have := hb1.size; omega
    go_wp2_with fail
    refine (wordsOf_any A n c B d w1 hn hr hB2).mono ?_
    rintro e w2 ⟨g, rfl, hown, hb2⟩
    go_wp2_with fail
    go_ret
    exact ⟨some ⟨g, 0, none⟩, n, n, rfl, by rw [HE.out]; exact hown.mono hb1.size, below_step hb1 (Nat.le_refl _) hb2⟩
end Go.Proofs.Ytopjhdgpdcdklaa
