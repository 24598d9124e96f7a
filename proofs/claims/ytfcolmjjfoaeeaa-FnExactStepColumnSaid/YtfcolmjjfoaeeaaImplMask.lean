/- Contracts of the program's masksOf and LetterMask. -/
import Derived.Test.YtfcolmjjfoaeeaaAbc
import Derived.Test.YtfcolmjjfoaeeaaLwBits
import Derived.StillTailTactics
namespace Go.Proofs.Ytfcolmjjfoaeeaa
open Go.RowKit
set_option maxHeartbeats 1600000
set_option linter.unusedSimpArgs false
set_option linter.unusedVariables false

/-- the places of the i-th letter among the first k -/
def placeN (s : ByteArray) (k i : Nat) : Nat := maskN (hasAt s.data.toList (97 + (i : Int))) k
theorem place_next {s : ByteArray} {k : Nat} (hk : k < s.size) {p : Nat} (hp : s[k].toNat = 97 + p) (i : Nat) : placeN s (k + 1) i = if i = p then placeN s k p ||| 2 ^ k else placeN s k i := by
  unfold placeN
  by_cases h : i = p
  · subst h
    rw [if_pos rfl, maskN_or, maskN, hasAt_eq s _ k hk, hp]
    have : (((97 + i : Nat) : Int) == 97 + (i : Int)) = true := by simp
    rw [this, if_pos rfl]
  · rw [if_neg h, maskN, hasAt_eq s _ k hk, hp]
    have : (((97 + p : Nat) : Int) == 97 + (i : Int)) = false := by simp; omega
    rw [this]
    simp
theorem place_small (s : ByteArray) {k : Nat} (hk : k ≤ 12) (i : Nat) : placeN s k i ≤ 8192 := mask_small _ (by omega)

theorem masksOf_impl {s : ByteArray} (h : wordB s.data.toList = true) (w : World) :
    Calls Try.prog 31 #[.string s] w fun e w' => e = .returned (.agg (abc fun i => (placeN s s.size i : Int))) ∧ Below w.heap.size w w' := by
  have h12 := word_size h
  have HA := Lib.hid h
  clear h
  go_enter Try.func31, Try.ntmps31
  go_wp2_with fail
  go_loopw [7] (fun i wr => ∃ k : Nat, k ≤ s.size ∧ i = .int .i64 k ∧ OwnL wr w.heap.size (w.heap.size + 1) (fun i => (placeN s k i : Int)) ∧ OwnL wr w.heap.size w.heap.size (fun _ => 0) ∧ Below w.heap.size w wr) (fun i _ => s.size - (intOf i).toNat)
  case atStart =>
    refine ⟨0, Nat.zero_le _, rfl, ?_, ?_, ?_⟩
    · exact OwnL.zero_at (by simp) (by omega)
    · exact (OwnL.zero w).alloc _
    · exact ((Below.refl _ _).alloc (Nat.le_refl _) _).alloc (by simp) _
  case round =>
    obtain ⟨k, hk, rfl, hown, hres, hbel⟩ := hrel
    by_cases hlt : k < s.size
    · obtain ⟨p, hp, hap⟩ := letter_at HA.out hlt
      have hc := hown.at_ hp
      have hfr := hown.frozen p
      have hN1 := place_small s (k := k) (by omega) p
      have HH := Lib.hid (fun i => place_next hlt hap i)
      have HO := Lib.hid hown
      have HR := Lib.hid hres
      clear hown hres
      obtain ⟨y, hy⟩ : ∃ y, y = placeN s k p := ⟨_, rfl⟩
      have HY := Lib.hid hy
      rw [← hy] at hc hN1
      have hx : (s[k].toNat : Int) = 97 + (p : Int) := by omega
      have hk0 : (0 : Int) ≤ (k : Int) := by omega
      have hk1 : (k : Int) < (s.size : Int) := by omega
      have hp0 : (0 : Int) ≤ (p : Int) := by omega
      have hp1 : (p : Int) < 26 := by omega
      have hw0 : IntKind.u8.wrap (97 + (p : Int) - 97) = (p : Int) := by rw [IntWalk.u8_in _ (by omega)]; omega
      clear hy
      go_wp2_with fail
      go_still_tail 10, (by kernel_rfl)
      change wpList _ _ _ _ _ wr.drew
      have hc : wr.drew.cell? ⟨w.heap.size + 1, p, none⟩ = some (.int .i64 (y : Int)) := by have := (HO.out.drawn (Drawn.drew1 _)).at_ hp; rw [← HY.out] at this; exact this
      have hfr : wr.drew.frozen? ⟨w.heap.size + 1, p, none⟩ = false := (HO.out.drawn (Drawn.drew1 _)).frozen p
      have HO := Lib.hid (HO.out.drawn (Drawn.drew1 _))
      have HR := Lib.hid (HR.out.drawn (Drawn.drew1 _))
      have hbel := hbel.drew
      generalize wr.drew = wq at *
      go_wp2_with fail
      go_roundw
      case rel =>
        rw [or_pow (by omega) (by omega)]
        refine ⟨k + 1, by omega, by go_num, (HO.out.stored p _).congr (fun j hj => ?_), HR.out.setCell _ (by simp), hbel.setCell (by simp) _⟩
        show (if j = p then ((y ||| 2 ^ k : Nat) : Int) else _) = _
        rw [HH.out j]
        by_cases h : j = p
        · subst h; rw [if_pos rfl, if_pos rfl, HY.out]
        · rw [if_neg h, if_neg h]
      case measure => simp [intOf]; omega
    · obtain rfl : k = s.size := by omega
      go_wp2_with (first | (with_reducible refine wp_load_abc rfl (.tmp 3) rfl w.heap.size _ _ rfl hown ?_) | (with_reducible refine wp_store_abc rfl (.tmp 2) (.tmp 21) rfl w.heap.size w.heap.size (fun _ => 0) _ rfl rfl hres ?_))
      have hr := hres.rowed (f' := fun i => (placeN s s.size i : Int))
      have hb2 := below_setRow hbel (Nat.le_refl _) (abc fun i => (placeN s s.size i : Int))
      refine bodyPost_ret (v := .agg (abc fun i => (placeN s s.size i : Int))) ?_ rfl ⟨rfl, hb2⟩
      rw [results_cell_row rfl _ _ w.heap.size _ _ _ _ rfl hr.2 Try.underlying49 rfl (by rw [abc_size]; exact (zero_of_info abc_info).2)]

theorem maskI_place {s : ByteArray} (h : wordB s.data.toList = true) {c : Int} {p : Nat} (hp : p < 26) (hc : c = 97 + (p : Int)) : maskI s.data.toList c = (placeN s s.size p : Int) := by
  subst hc
  rw [maskI_yes (by rw [h]; simp [letterB]; omega), len_eq]
  rfl

theorem letterMask_impl : MaskC := by
  intro s c w hs h0 h1
  have hs' := hs
  unfold maxLen at hs
  cases hv : wordB s.data.toList
  · have HN := Lib.hid (maskI_no (s := s.data.toList) (c := c) (by rw [hv]; rfl))
    have HV := Lib.hid hv
    clear hv
    go_enter Try.func13, Try.ntmps13
    go_wp2_with fail
    refine (wordValid_impl _ _ hs').mono ?_
    rintro e w' ⟨rfl, rfl⟩
    rw [HV.out]
    go_wp2_with fail
    go_ret
    exact ⟨ret_int HN.out.symm, Below.refl _ _⟩
  · by_cases hc : 97 ≤ c ∧ c ≤ 122
    · obtain ⟨p, hp, hcp⟩ : ∃ p : Nat, p < 26 ∧ c = 97 + (p : Int) := ⟨(c - 97).toNat, by omega, by omega⟩
      have HN := Lib.hid (maskI_place hv hp hcp)
      have HL := Lib.hid (show letterB c = true by simp [letterB]; omega)
      have HV := Lib.hid hv
      clear hv
      have hg := abc_get (fun i => (placeN s s.size i : Int)) hp
      have hw0 : IntKind.u8.wrap (c - 97) = (p : Int) := by rw [IntWalk.u8_in _ (by omega)]; omega
      have hcc : 97 ≤ c ∧ c ≤ 122 := hc
      have hix := fun W => index_abc8 hg hp W
      clear hg
      clear hcp
      go_enter Try.func13, Try.ntmps13
      go_wp2_with fail
      refine (wordValid_impl _ _ hs').mono ?_
      rintro e w' ⟨rfl, rfl⟩
      rw [HV.out]
      go_wp2_with (go_at_call 30; refine (isLetter_any _ _ (by omega) (by omega)).mono ?_; rintro e w' ⟨rfl, rfl⟩; rw [HL.out])
      refine (masksOf_impl HV.out _).mono ?_
      rintro e w1 ⟨rfl, hb1⟩
      go_wp2_with fail
      go_ret
      exact ⟨ret_int HN.out.symm, hb1⟩
    · have HN := Lib.hid (maskI_no (s := s.data.toList) (c := c) (by rw [hv]; simp [letterB]; omega))
      have HL := Lib.hid (show letterB c = false by simp [letterB]; omega)
      have HV := Lib.hid hv
      clear hv
      go_enter Try.func13, Try.ntmps13
      go_wp2_with fail
      refine (wordValid_impl _ _ hs').mono ?_
      rintro e w' ⟨rfl, rfl⟩
      rw [HV.out]
      go_wp2_with (go_at_call 30; refine (isLetter_any _ _ (by omega) (by omega)).mono ?_; rintro e w' ⟨rfl, rfl⟩; rw [HL.out])
      go_ret
      exact ⟨ret_int HN.out.symm, Below.refl _ _⟩
end Go.Proofs.Ytfcolmjjfoaeeaa
