/- Contracts of the model's DictDrop and DictStarts. -/
import Derived.Test.YtopjhdgpdcdklaaDictSpec
namespace Go.Proofs.Ytopjhdgpdcdklaa
open Go.RowKit
set_option maxHeartbeats 1600000
set_option linter.unusedSimpArgs false
set_option linter.unusedVariables false

theorem filter_take (d : List Item) (p : Item → Bool) {k : Nat} {x : Item} (h : d[k]? = some x) : (d.take (k + 1)).filter p = (d.take k).filter p ++ (if p x = true then [x] else []) := by
  rw [List.take_add_one, h, List.filter_append]
  congr 1
  simp only [Option.toList, List.filter_cons, List.filter_nil]
theorem own_start (w : World) (p : Item → Bool) (d : List Item) : OwnItems (w.alloc (.cells #[] 28)) w.heap.size (some ⟨w.heap.size, 0, none⟩) 0 0 ((d.take 0).filter p) := by
  rw [List.take_zero, List.filter_nil]
  exact OwnR.empty (R := itemR) w
theorem filter_len_le (d : List Item) (p : Item → Bool) (k : Nat) : ((d.take k).filter p).length ≤ k := by
  have h1 := List.length_filter_le p (d.take k)
  have h2 := List.length_take_le k d
  omega

/-- a row of items and a bool -/
def OwnOk (r : List Item × Bool) (w : World) (e : Ending) (w' : World) : Prop :=
  ∃ (A : Option Addr) (m cap : Nat), e = .returned (.tuple #[.slice A m cap, .bool r.2]) ∧ OwnItems w' w.heap.size A m cap r.1 ∧ Below w.heap.size w w'
theorem dictDrop_spec (A : Option Addr) (n c B : Nat) (d : List Item) (s : ByteArray) (w : World) (hn : n ≤ 1048576) (h : Items w B A n d) (hB : B ≤ w.heap.size) :
    Calls Try.prog 35 #[.slice A n c, .string s] w (OwnOk (dropR d s) w) := by
  have HL := Lib.hid h.len
  have hb0 : Below w.heap.size w (w.alloc (.cells #[] 28)) := (Below.refl _ _).alloc (Nat.le_refl _) _
  cases hv : dictB d
  · have HV := Lib.hid (dictValid_spec_is hv)
    have HR := Lib.hid (show dropR d s = ([], false) by unfold dropR; rw [hv]; rfl)
    have HO := Lib.hid (OwnR.empty (R := itemR) w)
    clear hv
    go_enter Try.func35, Try.ntmps35
    go_wp2_with fail
    refine (HV.out A n c B _ hn (h.below (hb0.mono hB)) (by simp; omega)).mono ?_
    rintro e w1 ⟨rfl, hb1⟩
    go_wp2_with fail
    go_ret2
    exact ⟨_, 0, 0, by rw [HR.out]; rfl, by rw [HR.out]; exact HO.out.below hb1, hb0.trans (hb1.mono (by simp))⟩
  · have HV := Lib.hid (dictValid_spec_is hv)
    have HR := Lib.hid (show dropR d s = (dropL d s, (lookD d s).isSome) by unfold dropR; rw [if_pos hv])
    have HO := Lib.hid (own_start w (fun x => decide (x.1 ≠ s)) d)
    clear hv
    go_enter Try.func35, Try.ntmps35
    go_wp2_with fail
    refine (HV.out A n c B _ hn (h.below (hb0.mono hB)) (by simp; omega)).mono ?_
    rintro e w1 ⟨rfl, hb1⟩
    have hbl1 : Below w.heap.size w w1 := hb0.trans (hb1.mono (by simp))
    have hown1 := HO.out.below hb1
    clear hb1 HO HV
    go_wp2_with fail
    go_loopw [6, 7] (fun v i wr => ∃ (k q cap : Nat) (A2 : Option Addr), k ≤ n ∧ q ≤ k ∧ i = .int .i64 k ∧ v = .slice A2 q cap ∧ OwnItems wr w.heap.size A2 q cap ((d.take k).filter fun x => decide (x.1 ≠ s)) ∧ Below w.heap.size w wr) (fun _ i _ => n - (intOf i).toNat)
    case atStart => exact ⟨0, 0, 0, _, Nat.zero_le _, Nat.zero_le _, rfl, rfl, hown1, hbl1⟩
    case round =>
      clear hown1 hbl1 hb0
      obtain ⟨k, q, cap, A2, hk, hqk, rfl, rfl, hown, hbel⟩ := hrel
      by_cases hlt : k < n
      · obtain ⟨b, o, s', x, rfl, hbB, hd, hs, hx, c0, c1⟩ := items_at (h.step hbel hB) hlt
        have i0 : (0 : Int) ≤ (k : Int) := by omega
        have i1 : (k : Int) < (n : Int) := by omega
        have hf := filter_take d (fun x => decide (x.1 ≠ s)) hd
        by_cases he : s' = s
        · subst he
          have hq2 : (s'.toList == s'.toList) = true := by simp
          rw [if_neg (by simp), List.append_nil] at hf
          have HF := Lib.hid hf
          clear hf hd
          go_wp2_with fail
          go_roundw
          case rel => exact ⟨k + 1, q, cap, A2, by omega, by omega, by go_num, rfl, by rw [HF.out]; exact hown, hbel⟩
          case measure => simp [intOf]; omega
        · have hq2 : (s'.toList == s.toList) = false := by rw [str_beq]; simpa using he
          rw [if_pos (by simpa using he)] at hf
          have HF := Lib.hid hf
          clear hf hd
          go_wp2_with
            (at_builtin
             refine wp_append_recs (R := itemR) rfl (.tmp 26) (.tmp 31) rfl w.heap.size (wr.heap.size + 1) q cap 1 1 A2 (some ⟨wr.heap.size, 0, none⟩) _ [(s', x)] rfl (hown.alloc _) rfl (items_one wr s' x hs hx) (by have := hbel.size; simp; omega) (by omega) ?_
             intro A6 cap6 w6 hown6 hg6 hr6 hne6)
          have hb6 : Below w.heap.size w w6 := below_append (hbel.alloc hbel.size _) (by have := hbel.size; simp; omega) (hown.alloc _) (Nat.le_refl _) hg6
          go_wp2_with fail
          go_roundw
          case rel => exact ⟨k + 1, q + 1, cap6, A6, by omega, by omega, by go_num, rfl, by rw [HF.out]; exact hown6, hb6⟩
          case measure => simp [intOf]; omega
      · obtain rfl : k = n := by omega
        have HT := Lib.hid (show d.take k = d from List.take_of_length_le (by rw [HL.out]; omega))
        rw [HT.out] at hown
        have hlen := hown.len
        have hsh := drop_shorter d s
        rw [HL.out] at hsh
        unfold dropL at hsh
        rw [hlen] at hsh
        cases hl : (lookD d s).isSome
        · rw [hl] at hsh
          have hnl : ¬ (q : Int) < (k : Int) := by have := mt hsh.1 (by simp); omega
          have HLK := Lib.hid hl
          clear hsh hl hlen
          go_wp2_with fail
          go_ret2
          exact ⟨A2, q, cap, by rw [HR.out, HLK.out]; rfl, by rw [HR.out]; exact hown, hbel⟩
        · rw [hl] at hsh
          have hnl : (q : Int) < (k : Int) := by have := hsh.2 rfl; omega
          have HLK := Lib.hid hl
          clear hsh hl hlen
          go_wp2_with fail
          go_ret2
          exact ⟨A2, q, cap, by rw [HR.out, HLK.out]; rfl, by rw [HR.out]; exact hown, hbel⟩
theorem sharedStart_spec_is {a b : ByteArray} {v : Int} (hv : sharedI a.data.toList b.data.toList = v) (w : World) (ha : a.size ≤ maxLen) (hb : b.size ≤ maxLen) :
    Calls Try.prog 68 #[.string a, .string b] w fun e w' => e = .returned (.int .i64 v) ∧ Drawn w w' := hv ▸ sharedStart_spec a b w ha hb
theorem dictStarts_spec (A : Option Addr) (n c B : Nat) (d : List Item) (s : ByteArray) (w : World) (hn : n ≤ 1048576) (h : Items w B A n d) (hB : B ≤ w.heap.size) (hs : s.size ≤ maxLen) :
    Calls Try.prog 38 #[.slice A n c, .string s] w fun e w' => ∃ (A2 : Option Addr) (m cap : Nat), e = .returned (.slice A2 m cap) ∧ OwnItems w' w.heap.size A2 m cap (startsR d s) ∧ Below w.heap.size w w' := by
  have HL := Lib.hid h.len
  have hs' := hs
  unfold maxLen at hs
  have hb0 : Below w.heap.size w (w.alloc (.cells #[] 28)) := (Below.refl _ _).alloc (Nat.le_refl _) _
  have h0 := h.below (hb0.mono hB)
  have hB0 : B ≤ (w.alloc (.cells #[] 28)).heap.size := by simp; omega
  have HO := Lib.hid (own_start w (beginsB s) d)
  by_cases hn0 : n = 0
  · subst hn0
    have HR := Lib.hid (show startsR d s = [] by
      have : d = [] := List.eq_nil_of_length_eq_zero HL.out
      subst this
      unfold startsR; split <;> rfl)
    have HO2 := Lib.hid (OwnR.empty (R := itemR) w)
    go_enter Try.func38, Try.ntmps38
    go_wp2_with fail
    refine wp_loop_rounds 1 ?_
    rw [rounds_succ]
    go_wp2_with fail
    go_ret
    exact ⟨_, 0, 0, rfl, by rw [HR.out]; exact HO2.out, hb0⟩
  · have n0 : (0 : Int) < (n : Int) := by omega
    cases hv : dictB d
    · have HV := Lib.hid (dictValid_spec_is hv)
      have HR := Lib.hid (show startsR d s = [] by unfold startsR; rw [hv]; rfl)
      have HO2 := Lib.hid (OwnR.empty (R := itemR) w)
      clear hv
      go_enter Try.func38, Try.ntmps38
      go_wp2_with fail
      refine wp_loop_rounds 1 ?_
      rw [rounds_succ]
      go_wp2_with fail
      refine (HV.out A n c B _ hn h0 hB0).mono ?_
      rintro e w1 ⟨rfl, hb1⟩
      go_wp2_with fail
      go_ret
      exact ⟨_, 0, 0, rfl, by rw [HR.out]; exact HO2.out.below hb1, hb0.trans (hb1.mono (by simp))⟩
    · cases hw : wordB s.data.toList
      · have HV := Lib.hid (dictValid_spec_is hv)
        have HW := Lib.hid (wordValid_spec_is hw)
        have HR := Lib.hid (show startsR d s = [] by unfold startsR; rw [hv, hw]; rfl)
        have HO2 := Lib.hid (OwnR.empty (R := itemR) w)
        clear hv hw
        go_enter Try.func38, Try.ntmps38
        go_wp2_with fail
        refine wp_loop_rounds 1 ?_
        rw [rounds_succ]
        go_wp2_with fail
        refine (HV.out A n c B _ hn h0 hB0).mono ?_
        rintro e w1 ⟨rfl, hb1⟩
        go_wp2_with fail
        refine (HW.out _ hs').mono ?_
        rintro e w' ⟨rfl, rfl⟩
        go_wp2_with fail
        go_ret
        exact ⟨_, 0, 0, rfl, by rw [HR.out]; exact HO2.out.below hb1, hb0.trans (hb1.mono (by simp))⟩
      · have HV := Lib.hid (dictValid_spec_is hv)
        have HW := Lib.hid (wordValid_spec_is hw)
        have HR := Lib.hid (show startsR d s = d.filter (beginsB s) by unfold startsR; rw [hv, hw]; rfl)
        have HWD := Lib.hid (show ∀ (k : Nat) (t : ByteArray) (x : Int), d[k]? = some (t, x) → sharedI t.data.toList s.data.toList = (shared t.data.toList s.data.toList : Int) from fun k t x hd => by
          have := (dict_parts hv).2.2.1 _ (List.mem_of_getElem? hd)
          unfold filledS at this
          simp only [Bool.and_eq_true] at this
          unfold sharedI
          rw [this.2, hw]; rfl)
        clear hv hw
        go_enter Try.func38, Try.ntmps38
        go_wp2_with fail
        go_loopw [5, 6] (fun v i wr => ∃ (k q cap : Nat) (A2 : Option Addr), k ≤ n ∧ q ≤ k ∧ i = .int .i64 k ∧ v = .slice A2 q cap ∧ OwnItems wr w.heap.size A2 q cap ((d.take k).filter (beginsB s)) ∧ Below w.heap.size w wr) (fun _ i _ => n - (intOf i).toNat)
        case atStart => exact ⟨0, 0, 0, _, Nat.zero_le _, Nat.zero_le _, rfl, rfl, HO.out, hb0⟩
        case round =>
          clear HO hb0 h0 hB0
          obtain ⟨k, q, cap, A2, hk, hqk, rfl, rfl, hown, hbel⟩ := hrel
          by_cases hlt : k < n
          · have i0 : (0 : Int) ≤ (k : Int) := by omega
            have i1 : (k : Int) < (n : Int) := by omega
            have hr := h.step hbel hB
            have hB2 : B ≤ wr.heap.size := by have := hbel.size; omega
            go_wp2_with fail
            refine (HV.out A n c B _ hn hr hB2).mono ?_
            rintro e w1 ⟨rfl, hb1⟩
            have hown := hown.below hb1
            have hbel := below_step hbel (Nat.le_refl _) hb1
            clear hb1 hr
            obtain ⟨b, o, s', x, rfl, hbB, hd, hs2, hx, c0, c1⟩ := items_at (h.step hbel hB) hlt
            have hf := filter_take d (beginsB s) hd
            have HSH := Lib.hid (HWD.out k s' x hd)
            by_cases he : shared s'.data.toList s.data.toList = s.size
            · have hq2 : ((s.size : Int) == (s.size : Int)) = true := by simp
              rw [he] at HSH
              rw [if_pos (by simpa [beginsB] using he)] at hf
              have HF := Lib.hid hf
              clear hf hd
              go_wp2_with fail
              refine (HW.out _ hs').mono ?_
              rintro e w' ⟨rfl, rfl⟩
              go_wp2_with fail
              refine (sharedStart_spec_is HSH.out _ hs2 hs').mono ?_
              rintro e w2 ⟨rfl, hd2⟩
              have hown := hown.drawn hd2
              have hbel := below_step hbel (Nat.le_refl _) hd2.below
              have c0 := (hd2.cell _).trans c0
              have c1 := (hd2.cell _).trans c1
              clear hd2
              go_wp2_with
                (at_builtin
                 refine wp_append_recs (R := itemR) rfl (.tmp 32) (.tmp 37) rfl w.heap.size (w2.heap.size + 1) q cap 1 1 A2 (some ⟨w2.heap.size, 0, none⟩) _ [(s', x)] rfl (hown.alloc _) rfl (items_one w2 s' x hs2 hx) (by have := hbel.size; simp; omega) (by omega) ?_
                 intro A6 cap6 w6 hown6 hg6 hr6 hne6)
              have hb6 : Below w.heap.size w w6 := below_append (hbel.alloc hbel.size _) (by have := hbel.size; simp; omega) (hown.alloc _) (Nat.le_refl _) hg6
              go_wp2_with fail
              go_roundw
              case rel => exact ⟨k + 1, q + 1, cap6, A6, by omega, by omega, by go_num, rfl, by rw [HF.out]; exact hown6, hb6⟩
              case measure => simp [intOf]; omega
            · obtain ⟨m, hm⟩ : ∃ m, shared s'.data.toList s.data.toList = m := ⟨_, rfl⟩
              rw [hm] at HSH he
              have hq2 : ((m : Int) == (s.size : Int)) = false := by simp; omega
              rw [if_neg (by simp [beginsB, hm, he]), List.append_nil] at hf
              have HF := Lib.hid hf
              clear hf hd hm
              go_wp2_with fail
              refine (HW.out _ hs').mono ?_
              rintro e w' ⟨rfl, rfl⟩
              go_wp2_with fail
              refine (sharedStart_spec_is HSH.out _ hs2 hs').mono ?_
              rintro e w2 ⟨rfl, hd2⟩
              have hown := hown.drawn hd2
              have hbel := below_step hbel (Nat.le_refl _) hd2.below
              clear hd2
              go_wp2_with fail
              go_roundw
              case rel => exact ⟨k + 1, q, cap, A2, by omega, by omega, by go_num, rfl, by rw [HF.out]; exact hown, hbel⟩
              case measure => simp [intOf]; omega
          · obtain rfl : k = n := by omega
            have HT := Lib.hid (show d.take k = d from List.take_of_length_le (by rw [HL.out]; omega))
            rw [HT.out] at hown
            go_wp2_with fail
            go_ret
            exact ⟨A2, q, cap, rfl, by rw [HR.out]; exact hown, hbel⟩
end Go.Proofs.Ytopjhdgpdcdklaa
