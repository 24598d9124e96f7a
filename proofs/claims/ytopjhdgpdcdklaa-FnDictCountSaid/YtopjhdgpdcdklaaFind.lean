/- Contracts of ListFind, of the program and of the model. -/
import Derived.Test.YtopjhdgpdcdklaaOrd
import Derived.Test.YtopjhdgpdcdklaaShelf
namespace Go.Proofs.Ytopjhdgpdcdklaa
open Go.RowKit
set_option maxHeartbeats 400000
set_option linter.unusedSimpArgs false
set_option linter.unusedVariables false

theorem listValid_impl_is {A : Option Addr} {n B : Nat} {ss : List ByteArray} {v : Bool} (hv : listB ss = v) (c : Nat) (w : World) (hn : n ≤ maxLen) (h : Strs w B A n ss) :
    Calls Try.prog 24 #[.slice A n c] w fun e w' => e = .returned (.bool v) ∧ Drawn w w' := hv ▸ listValid_impl A n c B ss w hn h
theorem listValid_spec_is {A : Option Addr} {n B : Nat} {ss : List ByteArray} {v : Bool} (hv : listB ss = v) (c : Nat) (w : World) (hn : n ≤ maxLen) (h : Strs w B A n ss) :
    Calls Try.prog 53 #[.slice A n c] w fun e w' => e = .returned (.bool v) ∧ Drawn w w' := hv ▸ listValid_spec A n c B ss w hn h
theorem listB_len {ss : List ByteArray} (h : listB ss = true) : ss.length ≤ 60 := by
  unfold listB filledB at h; simp at h; exact h.1.1

/-- the library's halving, over a valid list -/
theorem search_any (A : Option Addr) (n c B : Nat) (ss : List ByteArray) (x : ByteArray) (w : World) (hb : listB ss = true) (h : Strs w B A n ss) :
    Calls Try.prog 60 #[.slice A n c, .string x] w fun e w' =>
      ∃ (I : Nat) (f : Bool), e = .returned (.tuple #[.int .i64 I, .bool f]) ∧ (if f then findI ss x = (I : Int) else findI ss x = -1) ∧ Drawn w w' := by
  have hl := h.1
  by_cases hn : n = 0
  · subst hn
    refine (Try.slices_BinarySearch_string_empty A c x w).mono ?_
    rintro e w' ⟨rfl, rfl⟩
    refine ⟨0, false, rfl, ?_, Drawn.refl _⟩
    obtain rfl : ss = [] := List.eq_nil_of_length_eq_zero hl
    exact findI_none (by simp)
  · obtain ⟨b, o, rfl, hbB, hc⟩ := h.2.2 (by omega)
    have h60 := listB_len hb
    refine (Try.slices_BinarySearch_string b o n c (fun t => (ss[t]?).getD x) x w (by omega) (fun j hj => ?_)).mono ?_
    · have hj' : ss[j]? = some (ss[j]'(by omega)) := List.getElem?_eq_getElem (by omega)
      rw [hj']
      exact hc j _ hj'
    · rintro e w' ⟨rfl, q, rfl⟩
      subst hl
      obtain ⟨I, hI⟩ : ∃ I, Lib.bsGo (fun t => Op.bytesLess ((ss[t]?).getD x).toList x.toList) ss.length 0 ss.length = I := ⟨_, rfl⟩
      rw [hI]
      exact ⟨I, _, rfl, (search_find hb I hI).2, ⟨q, rfl⟩⟩
theorem listFind_impl (A : Option Addr) (n c B : Nat) (ss : List ByteArray) (x : ByteArray) (w : World) (hn : n ≤ maxLen) (h : Strs w B A n ss) :
    Calls Try.prog 28 #[.slice A n c, .string x] w fun e w' => e = .returned (.int .i64 (findI ss x)) ∧ Drawn w w' := by
  cases hb : listB ss
  · have HB := Lib.hid (listValid_impl_is (A := A) (n := n) (B := B) hb)
    have HN := Lib.hid (findI_bad (x := x) hb)
    clear hb
    go_enter Try.func28, Try.ntmps28
    go_wp2_with fail
    refine (HB.out c _ hn h).mono ?_
    rintro e w1 ⟨rfl, hd⟩
    go_wp2_with fail
    go_ret
    exact ⟨ret_int HN.out.symm, hd⟩
  · have HB := Lib.hid (listValid_impl_is (A := A) (n := n) (B := B) hb)
    have HS := Lib.hid (search_any (ss := ss) (x := x) (hb := hb))
    clear hb
    go_enter Try.func28, Try.ntmps28
    go_wp2_with fail
    refine (HB.out c _ hn h).mono ?_
    rintro e w1 ⟨rfl, hd⟩
    have h1 := h.drawn hd
    go_wp2_with fail
    refine (HS.out A n c B _ h1).mono ?_
    rintro e w2 ⟨I, f, rfl, hf, hd2⟩
    have hd3 := hd.trans hd2
    cases f
    · have HF := Lib.hid (show findI ss x = -1 from hf)
      clear hf hd hd2 h1
      go_wp2_with fail
      go_ret
      exact ⟨ret_int HF.out.symm, hd3⟩
    · have HF := Lib.hid (show findI ss x = I from hf)
      clear hf hd hd2 h1
      go_wp2_with fail
      go_ret
      exact ⟨ret_int HF.out.symm, hd3⟩
theorem listFind_spec (A : Option Addr) (n c B : Nat) (ss : List ByteArray) (x : ByteArray) (w : World) (hn : n ≤ maxLen) (h : Strs w B A n ss) :
    Calls Try.prog 59 #[.slice A n c, .string x] w fun e w' => e = .returned (.int .i64 (findI ss x)) ∧ Drawn w w' := by
  have hn' := hn
  unfold maxLen at hn
  cases hb : listB ss
  · have HB := Lib.hid (listValid_spec_is (A := A) (n := n) (B := B) hb)
    have HN := Lib.hid (findI_bad (x := x) hb)
    clear hb
    by_cases h0 : 0 < n
    · go_enter Try.func59, Try.ntmps59
      go_wp2_with fail
      refine wp_loop_rounds 1 ?_
      rw [rounds_succ]
      go_wp2_with fail
      refine (HB.out c _ hn' h).mono ?_
      rintro e w1 ⟨rfl, hd⟩
      go_wp2_with fail
      go_ret
      exact ⟨ret_int HN.out.symm, hd⟩
    · go_enter Try.func59, Try.ntmps59
      go_wp2_with fail
      refine wp_loop_rounds 1 ?_
      rw [rounds_succ]
      go_wp2_with fail
      go_ret
      exact ⟨ret_int HN.out.symm, Drawn.refl _⟩
  · have HB := Lib.hid (listValid_spec_is (A := A) (n := n) (B := B) hb)
    have HAT := Lib.hid (fun (k : Nat) => findI_at (x := x) (k := k) hb)
    have HL := Lib.hid h.1
    clear hb
    go_enter Try.func59, Try.ntmps59
    go_wp2_with fail
    go_loopw [5] (fun i wr => ∃ k : Nat, k ≤ n ∧ i = .int .i64 k ∧ (∀ j, j < k → ss[j]? ≠ some x) ∧ Drawn w wr) (fun i _ => n - (intOf i).toNat)
    case atStart => exact ⟨0, Nat.zero_le _, rfl, fun j hj => absurd hj (by omega), Drawn.refl _⟩
    case round =>
      obtain ⟨k, hk, rfl, hall, hbk⟩ := hrel
      have HA := Lib.hid hall
      clear hall
      by_cases hlt : k < n
      · have hr := h.drawn hbk
        go_wp2_with fail
        refine (HB.out c _ hn' hr).mono ?_
        rintro e w1 ⟨rfl, hd⟩
        have hd1 := hbk.trans hd
        obtain ⟨b, o, s, rfl, _, hs, hsz, hc⟩ := (h.drawn hd1).at_ hlt
        have HS := Lib.hid hs
        clear hs hr hd
        have hbq := str_beq s x
        by_cases he : s = x
        · have hbe : (s.toList == x.toList) = true := by rw [hbq, decide_eq_true he]
          have HE := Lib.hid he
          clear he hbq
          go_wp2_with fail
          go_ret
          exact ⟨ret_int (HAT.out k (by rw [HS.out, HE.out]) HA.out).symm, hd1⟩
        · have hbe : (s.toList == x.toList) = false := by rw [hbq, decide_eq_false he]
          have HE := Lib.hid he
          clear he hbq
          go_wp2_with fail
          go_roundw
          case rel =>
            refine ⟨k + 1, by omega, by go_num, fun j hj e => ?_, hd1⟩
            by_cases hjk : j < k
            · exact HA.out j hjk e
            · obtain rfl : j = k := by omega
              rw [HS.out] at e
              injection e with e
              exact HE.out e
          case measure => simp [intOf]; omega
      · go_wp2_with fail
        go_ret
        refine ⟨ret_int (findI_none fun j e => ?_).symm, hbk⟩
        have := (List.getElem?_eq_some_iff.1 e).1
        exact HA.out j (by have := HL.out; omega) e
end Go.Proofs.Ytopjhdgpdcdklaa
