/- Contracts of the program's DictCount, DictDrop, DictStarts, DictAdd. -/
import Derived.Test.YtopjhdgpdcdklaaImplBook
import Derived.Test.YtopjhdgpdcdklaaImplInsS
import Derived.Test.YtopjhdgpdcdklaaDictSpec2
import Derived.Lib.SliceRun
namespace Go.Proofs.Ytopjhdgpdcdklaa
open Go.RowKit
set_option maxHeartbeats 1600000
set_option linter.unusedSimpArgs false
set_option linter.unusedVariables false

theorem nilItems (w : World) (a : Option Addr) (n c n' c' : Nat) : (binOp .eql 23 (.slice a n c) (.slice none n' c')).run Try.prog w = .ok (.bool a.isNone) w := Lib.run_eql_slice_nil w _ _ a n c n' c' Try.underlying23
theorem field_counts (w : World) (m : Option Nat) (A : Option Addr) (n c : Nat) : (Instr.field 64 (.agg #[.map m, .slice A n c]) 0).run Try.prog w = .ok (.map m) w := by kernel_rfl
theorem cloneItems_any (A : Option Addr) (n c B : Nat) (d : List Item) (w : World) (hn : n ≤ 1048576) (h : Items w B A n d) (hB : B ≤ w.heap.size) :
    Calls Try.prog 63 #[.slice A n c] w fun e w' => ∃ (A2 : Option Addr) (cap : Nat), e = .returned (.slice A2 n cap) ∧ OwnItems w' w.heap.size A2 n cap d ∧ Below w.heap.size w w' := by
  have H := Lib.hid h
  have q := nilItems
  cases A with
  | none =>
    have h0 : n = 0 := by
      by_cases h0 : 0 < n
      · obtain ⟨b, o, e, _⟩ := h.2.2 h0; cases e
      · omega
    subst h0
    obtain rfl : d = [] := List.eq_nil_of_length_eq_zero h.len
    clear h
    go_enter Try.func63, Try.ntmps63
    go_wp2_with fail
    go_ret
    exact ⟨none, 0, rfl, OwnR.nil _ _, Below.refl _ _⟩
  | some a =>
    have HE := Lib.hid (items_empty w)
    clear h
    go_enter Try.func63, Try.ntmps63
    go_wp2_with
      (at_builtin
       go_loud (refine wp_append_recs (R := itemR) rfl (.tmp 5) (.tmp 6) rfl w.heap.size B 0 0 n c (some ⟨w.heap.size, 0, none⟩) (some a) [] d rfl HE.out rfl (H.out.step ((Below.refl _ _).alloc (Nat.le_refl _) _) hB) (by simp) (by omega) ?_)
       intro A3 cap3 w3 hown3 hg3 hat3 hne3)
    have hb3 : Below w.heap.size w w3 := below_append ((Below.refl _ _).alloc (Nat.le_refl _) _) (by simp) HE.out (Nat.le_refl _) hg3
    simp only [Nat.zero_add, List.nil_append] at hown3 ⊢
    go_wp2_with fail
    go_ret
    exact ⟨A3, cap3, rfl, hown3, hb3⟩

/-- what the map of a valid dictionary tells -/
theorem mapD_count {d : List Item} (hv : dictB d = true) (s : ByteArray) : (mapD d s.data.toList).getD 0 = (lookD d s).getD 0 := by rw [mapD_look (dict_parts hv).2.2.2]
theorem mapD_i64 {d : List Item} (hv : dictB d = true) (t : List UInt8) : I64 ((mapD d t).getD 0) := by
  have e : t = (ofBytes t).data.toList := (bytesOf_ofBytes t).symm
  rw [e, mapD_look (dict_parts hv).2.2.2]
  cases hl : lookD d (ofBytes t) with
  | none => show I64 0; unfold I64; omega
  | some c =>
    have := (dict_parts hv).1 _ (look_mem hl)
    simp only [countB, Bool.and_eq_true, decide_eq_true_eq] at this
    show I64 c
    unfold I64; omega

theorem dictCount_impl (A : Option Addr) (n c B : Nat) (d : List Item) (s : ByteArray) (w : World) (hn : n ≤ 1048576) (h : Items w B A n d) (hB : B ≤ w.heap.size) (hs : s.size ≤ maxLen) :
    Calls Try.prog 26 #[.slice A n c, .string s] w fun e w' => e = .returned (.int .i64 (countI d s)) ∧ Below w.heap.size w w' := by
  cases hv : dictB d
  · have HV := Lib.hid (dictValid_impl_is hv)
    have HE := Lib.hid (show countI d s = 0 by unfold countI; rw [hv]; rfl)
    clear hv
    go_enter Try.func26, Try.ntmps26
    go_wp2_with fail
    refine (HV.out A n c B _ hn h hB).mono ?_
    rintro e w1 ⟨rfl, hb1⟩
    go_wp2_with fail
    go_ret
    exact ⟨ret_int HE.out.symm, hb1⟩
  · have HV := Lib.hid (dictValid_impl_is hv)
    have HE := Lib.hid (show countI d s = (mapD d s.data.toList).getD 0 by unfold countI; rw [if_pos hv, mapD_count hv])
    have h60 : n ≤ 60 := by have := (dict_parts hv).2.1; rw [h.len] at this; exact this
    have hfc := field_counts
    clear hv
    go_enter Try.func26, Try.ntmps26
    go_wp2_with fail
    refine (HV.out A n c B _ hn h hB).mono ?_
    rintro e w1 ⟨rfl, hb1⟩
    have hr := h.step hb1 hB
    have hB2 : B ≤ w1.heap.size := by have := hb1.size; omega
    go_wp2_with fail
    refine (bookOf_any A n c B d w1 h60 hr hB2).mono ?_
    rintro e w2 ⟨m, g, rfl, hm, htx, hb2⟩
    have hb := below_step hb1 (Nat.le_refl _) hb2
    clear hb1 hb2 hr htx
    have HM := Lib.hid hm
    clear hm
    go_wp2_with (at_lookup; refine wp_look_m rfl _ _ rfl w1.heap.size m n (mapD d) rfl HM.out s rfl hs ?_; rw [← HE.out])
    go_ret
    exact ⟨rfl, hb⟩
end Go.Proofs.Ytopjhdgpdcdklaa
