/- Contracts of the model's DictValid, l6Words, DictWords, DictCount. -/
import Derived.Test.YtopjhdgpdcdklaaItems
import Derived.Test.YtopjhdgpdcdklaaL1In
import Derived.Test.YtopjhdgpdcdklaaFind
namespace Go.Proofs.Ytopjhdgpdcdklaa
open Go.RowKit
set_option maxHeartbeats 1600000
set_option linter.unusedSimpArgs false
set_option linter.unusedVariables false

theorem wordsD_len (d : List Item) : (wordsD d).length = d.length := by unfold wordsD; simp
theorem wordsD_take (d : List Item) {k : Nat} {s : ByteArray} {c : Int} (h : d[k]? = some (s, c)) : wordsD (d.take (k + 1)) = wordsD (d.take k) ++ [s] := by
  unfold wordsD
  rw [List.take_add_one, h]
  simp
theorem inB_count (c : Int) : inB c 1 1000000 = countB c := rfl

theorem l6Words_any (A : Option Addr) (n c B : Nat) (d : List Item) (w : World) (hn : n ≤ 1048576) (h : Items w B A n d) (hB : B ≤ w.heap.size) :
    Calls Try.prog 54 #[.slice A n c] w fun e w' => ∃ g cap : Nat, e = .returned (.slice (some ⟨g, 0, none⟩) n cap) ∧ OwnS w' w.heap.size g n cap (wordsD d) ∧ Below w.heap.size w w' := by
  have HS0 := Lib.hid (show OwnS (w.alloc (.cells #[] 9)) w.heap.size w.heap.size 0 0 (wordsD (d.take 0)) ∧ Below w.heap.size w (w.alloc (.cells #[] 9)) from ⟨by simpa [wordsD] using OwnS.empty w, (Below.refl _ _).alloc (Nat.le_refl _) _⟩)
  go_enter Try.func54, Try.ntmps54
  go_wp2_with fail
  go_loopw [3, 4] (fun v i wr => ∃ k g cap : Nat, k ≤ n ∧ i = .int .i64 k ∧ v = .slice (some ⟨g, 0, none⟩) k cap ∧ OwnS wr w.heap.size g k cap (wordsD (d.take k)) ∧ Below w.heap.size w wr) (fun _ i _ => n - (intOf i).toNat)
  case atStart => exact ⟨0, _, _, Nat.zero_le _, rfl, rfl, HS0.out.1, HS0.out.2⟩
  case round =>
    clear HS0
    obtain ⟨k, g, cap, hk, rfl, rfl, hown, hbel⟩ := hrel
    by_cases hlt : k < n
    · obtain ⟨b, o, s, x, rfl, hbB, hd, hs, hx, c0, c1⟩ := items_at (h.step hbel hB) hlt
      have HT := Lib.hid (wordsD_take d hd)
      have i0 : (0 : Int) ≤ (k : Int) := by omega
      have i1 : (k : Int) < (n : Int) := by omega
      clear hd
      go_wp2_with
        (at_builtin
         refine wp_append_texts rfl (.tmp 12) (.tmp 18) rfl w.heap.size (wr.heap.size + 1) g k cap 1 1 (wordsD (d.take k)) [s] (some ⟨wr.heap.size, 0, none⟩) rfl (hown.below ((Below.refl _ _).alloc (Nat.le_refl _) _)) rfl (Strs.one wr s hs) (by have := hbel.size; simp; omega) (by omega) ?_
         intro g2 cap2 w2 hown2 hg2 hat2)
      have hb2 : Below w.heap.size w w2 := (hbel.alloc hbel.size _).grown hg2 (by have := hbel.size; simp; omega) (fun j hj => by injection hj with hj; have := hown.lt.1; omega)
      go_wp2_with fail
      go_roundw
      case rel => exact ⟨k + 1, g2, cap2, by omega, by go_num, rfl, by rw [HT.out]; exact hown2, hb2⟩
      case measure => simp [intOf]; omega
    · obtain rfl : k = n := by omega
      have HT := Lib.hid (show d.take k = d from List.take_of_length_le (by rw [h.len]; omega))
      go_wp2_with fail
      go_ret
      exact ⟨g, cap, rfl, by rw [HT.out] at hown; exact hown, hbel⟩

theorem dictValid_spec (A : Option Addr) (n c B : Nat) (d : List Item) (w : World) (hn : n ≤ 1048576) (h : Items w B A n d) (hB : B ≤ w.heap.size) :
    Calls Try.prog 18 #[.slice A n c] w fun e w' => e = .returned (.bool (dictB d)) ∧ Below w.heap.size w w' := by
  have HL := Lib.hid h.len
  go_enter Try.func18, Try.ntmps18
  go_wp2_with fail
  go_loopw [3] (fun i wr => ∃ k : Nat, k ≤ n ∧ i = .int .i64 k ∧ Hid (∀ j x, j < k → d[j]? = some x → countB x.2 = true) ∧ Below w.heap.size w wr) (fun i _ => n - (intOf i).toNat)
  case atStart => exact ⟨0, Nat.zero_le _, rfl, Lib.hid (fun j x hj => absurd hj (by omega)), Below.refl _ _⟩
  case round =>
    obtain ⟨k, hk, rfl, HP, hbel⟩ := hrel
    by_cases hlt : k < n
    · obtain ⟨b, o, s, x, rfl, hbB, hd, hs, hx, c0, c1⟩ := items_at (h.step hbel hB) hlt
      have i0 : (0 : Int) ≤ (k : Int) := by omega
      have i1 : (k : Int) < (n : Int) := by omega
      cases hc : countB x
      · have HN := Lib.hid (show dictB d = false from dict_bad (List.mem_of_getElem? hd) hc)
        have HC := Lib.hid ((inB_count x).trans hc)
        clear hd hc
        go_wp2_with fail
        refine (l1In_is HC.out _).mono ?_
        rintro e w' ⟨rfl, rfl⟩
        go_wp2_with fail
        go_ret
        exact ⟨ret_bool HN.out.symm, hbel⟩
      · have HC := Lib.hid ((inB_count x).trans hc)
        have HP2 := Lib.hid (show ∀ j y, j < k + 1 → d[j]? = some y → countB y.2 = true from fun j y hj hy => by
          by_cases e : j = k
          · subst e; rw [hd] at hy; injection hy with hy; subst hy; exact hc
          · exact HP.out j y (by omega) hy)
        clear hd hc
        go_wp2_with fail
        refine (l1In_is HC.out _).mono ?_
        rintro e w' ⟨rfl, rfl⟩
        go_wp2_with fail
        go_roundw
        case rel => exact ⟨k + 1, by omega, by go_num, HP2, hbel⟩
        case measure => simp [intOf]; omega
    · obtain rfl : k = n := by omega
      have HA := Lib.hid (show dictB d = listB (wordsD d) by
        unfold dictB
        rw [show d.all (fun x => countB x.2) = true from List.all_eq_true.2 fun x hx => by
          obtain ⟨j, hj⟩ := List.mem_iff_getElem?.1 hx
          exact HP.out j x (by have := (List.getElem?_eq_some_iff.1 hj).1; rw [HL.out] at this; exact this) hj]
        rfl)
      have hr := h.step hbel hB
      have hB2 : B ≤ wr.heap.size := by have := hbel.size; omega
      have km : k ≤ maxLen := by unfold maxLen; omega
      go_wp2_with fail
      refine (l6Words_any A k c B d wr hn hr hB2).mono ?_
      rintro e w1 ⟨g, cap, rfl, hown, hb1⟩
      have hbel := below_step hbel (Nat.le_refl _) hb1
      go_wp2_with fail
      refine (listValid_spec (some ⟨g, 0, none⟩) k cap w1.heap.size (wordsD d) w1 km hown.strs).mono ?_
      rintro e w2 ⟨rfl, hd2⟩
      rw [← HA.out]
      go_wp2_with fail
      go_ret
      exact ⟨rfl, below_step hbel (Nat.le_refl _) hd2.below⟩
theorem dictValid_spec_is {d : List Item} {v : Bool} (hv : dictB d = v) (A : Option Addr) (n c B : Nat) (w : World) (hn : n ≤ 1048576) (h : Items w B A n d) (hB : B ≤ w.heap.size) :
    Calls Try.prog 18 #[.slice A n c] w fun e w' => e = .returned (.bool v) ∧ Below w.heap.size w w' := hv ▸ dictValid_spec A n c B d w hn h hB
theorem wordsE_len (d : List Item) : (wordsE d).length = if dictB d = true then d.length else 0 := by unfold wordsE; split <;> simp [wordsD_len]

theorem dictWords_spec (A : Option Addr) (n c B : Nat) (d : List Item) (w : World) (hn : n ≤ 1048576) (h : Items w B A n d) (hB : B ≤ w.heap.size) :
    Calls Try.prog 23 #[.slice A n c] w fun e w' => ∃ g m cap : Nat, e = .returned (.slice (some ⟨g, 0, none⟩) m cap) ∧ OwnS w' w.heap.size g m cap (wordsE d) ∧ Below w.heap.size w w' := by
  cases hv : dictB d
  · have HV := Lib.hid (dictValid_spec_is hv)
    have HE := Lib.hid (show wordsE d = [] by unfold wordsE; rw [hv]; rfl)
    clear hv
    go_enter Try.func23, Try.ntmps23
    go_wp2_with fail
    refine (HV.out A n c B _ hn h hB).mono ?_
    rintro e w1 ⟨rfl, hb1⟩
    go_wp2_with fail
    go_ret
    exact ⟨w1.heap.size, 0, 0, rfl, by rw [HE.out]; exact (OwnS.empty w1).mono hb1.size, hb1.alloc hb1.size _⟩
  · have HV := Lib.hid (dictValid_spec_is hv)
    have HE := Lib.hid (show wordsE d = wordsD d by unfold wordsE; rw [if_pos hv])
    clear hv
    go_enter Try.func23, Try.ntmps23
    go_wp2_with fail
    refine (HV.out A n c B _ hn h hB).mono ?_
    rintro e w1 ⟨rfl, hb1⟩
    have hr := h.step hb1 hB
    have hB2 : B ≤ w1.heap.size := by have := hb1.size; omega
    go_wp2_with fail
    refine (l6Words_any A n c B d w1 hn hr hB2).mono ?_
    rintro e w2 ⟨g, cap, rfl, hown, hb2⟩
    go_wp2_with fail
    go_ret
    exact ⟨g, n, cap, rfl, by rw [HE.out]; exact hown.mono hb1.size, below_step hb1 (Nat.le_refl _) hb2⟩
theorem dictCount_spec (A : Option Addr) (n c B : Nat) (d : List Item) (s : ByteArray) (w : World) (hn : n ≤ 1048576) (h : Items w B A n d) (hB : B ≤ w.heap.size) :
    Calls Try.prog 27 #[.slice A n c, .string s] w fun e w' => e = .returned (.int .i64 (countI d s)) ∧ Below w.heap.size w w' := by
  have HL := Lib.hid h.len
  have key : (findI (wordsE d) s = -1 ∧ countI d s = 0) ∨ ∃ (k : Nat) (x : Int), findI (wordsE d) s = (k : Int) ∧ d[k]? = some (s, x) ∧ countI d s = x := by
    unfold wordsE countI
    cases hv : dictB d
    · exact .inl ⟨findI_none (by simp), rfl⟩
    · rw [if_pos rfl, if_pos rfl]
      cases hl : lookD d s with
      | none => exact .inl ⟨find_no hl, rfl⟩
      | some x =>
        obtain ⟨k, hk, hf⟩ := find_some hv hl
        exact .inr ⟨k, x, hf, hk, rfl⟩
  rcases key with ⟨hf, hc⟩ | ⟨k, x, hf, hd, hc⟩
  · have HF := Lib.hid hf
    have HC := Lib.hid hc
    clear hf hc
    go_enter Try.func27, Try.ntmps27
    go_wp2_with fail
    refine (dictWords_spec A n c B d w hn h hB).mono ?_
    rintro e w1 ⟨g, m, cap, rfl, hown, hb1⟩
    go_wp2_with fail
    refine (listFind_spec (some ⟨g, 0, none⟩) m cap w1.heap.size (wordsE d) s w1 (Nat.le_trans hown.caps.1 hown.caps.2) hown.strs).mono ?_
    rintro e w2 ⟨rfl, hd2⟩
    rw [HF.out]
    go_wp2_with fail
    go_ret
    exact ⟨ret_int HC.out.symm, below_step hb1 (Nat.le_refl _) hd2.below⟩
  · have hkn : k < n := by rw [← HL.out]; exact (List.getElem?_eq_some_iff.1 hd).1
    have HF := Lib.hid hf
    have HC := Lib.hid hc
    have HD := Lib.hid hd
    have i0 : (0 : Int) ≤ (k : Int) := by omega
    have i1 : (k : Int) < (n : Int) := by omega
    clear hf hc hd
    go_enter Try.func27, Try.ntmps27
    go_wp2_with fail
    refine (dictWords_spec A n c B d w hn h hB).mono ?_
    rintro e w1 ⟨g, m, cap, rfl, hown, hb1⟩
    go_wp2_with fail
    refine (listFind_spec (some ⟨g, 0, none⟩) m cap w1.heap.size (wordsE d) s w1 (Nat.le_trans hown.caps.1 hown.caps.2) hown.strs).mono ?_
    rintro e w2 ⟨rfl, hd2⟩
    rw [HF.out]
    have hb2 := below_step hb1 (Nat.le_refl _) hd2.below
    obtain ⟨b, o, s', x', rfl, hbB, hdd, hs, hx, c0, c1⟩ := items_at (h.step hb2 hB) hkn
    rw [HD.out] at hdd
    injection hdd with hdd
    injection hdd with e1 e2
    subst e1 e2
    clear hd2
    go_wp2_with fail
    go_ret
    exact ⟨ret_int HC.out.symm, hb2⟩
theorem dictCount_spec_is {d : List Item} {s : ByteArray} {v : Int} (hv : countI d s = v) (A : Option Addr) (n c B : Nat) (w : World) (hn : n ≤ 1048576) (h : Items w B A n d) (hB : B ≤ w.heap.size) :
    Calls Try.prog 27 #[.slice A n c, .string s] w fun e w' => e = .returned (.int .i64 v) ∧ Below w.heap.size w w' := hv ▸ dictCount_spec A n c B d s w hn h hB
end Go.Proofs.Ytopjhdgpdcdklaa
