/- Contracts of the model's LetterMask, l5Column, BitColumn, BitDistance, StepColumn. -/
import Derived.Test.YtfcolmjjfoaeeaaBits5
import Derived.Test.YtfcolmjjfoaeeaaBandSpec
import Derived.Test.YtfcolmjjfoaeeaaTwo
namespace Go.Proofs.Ytfcolmjjfoaeeaa
open Go.RowKit
set_option maxHeartbeats 1600000
set_option linter.unusedSimpArgs false
set_option linter.unusedVariables false

theorem bits_and_i64_nat (a b : Nat) (ha : a < 4611686018427387904) (hb : b < 4611686018427387904) : bits .and .i64 (a : Int) (b : Int) = ((a &&& b : Nat) : Int) := by
  have hx : a &&& b < 2 ^ 62 := Nat.and_lt_two_pow _ (by omega)
  have h1 : (BitVec.ofInt 64 (a : Int)).toNat = a := by
    rw [BitVec.ofInt_natCast, BitVec.toNat_ofNat]; exact Nat.mod_eq_of_lt (by omega)
  have h2 : (BitVec.ofInt 64 (b : Int)).toNat = b := by
    rw [BitVec.ofInt_natCast, BitVec.toNat_ofNat]; exact Nat.mod_eq_of_lt (by omega)
  show IntKind.i64.wrap ((BitVec.ofInt 64 (a : Int) &&& BitVec.ofInt 64 (b : Int)).toNat : Int) = _
  rw [BitVec.toNat_and, h1, h2, IntKind.wrap_i64]
  omega
theorem bits_or_i64_nat (a b : Nat) (ha : a < 4611686018427387904) (hb : b < 4611686018427387904) : bits .or .i64 (a : Int) (b : Int) = ((a ||| b : Nat) : Int) := by
  have hx : a ||| b < 2 ^ 62 := Nat.or_lt_two_pow (by omega) (by omega)
  have h1 : (BitVec.ofInt 64 (a : Int)).toNat = a := by
    rw [BitVec.ofInt_natCast, BitVec.toNat_ofNat]; exact Nat.mod_eq_of_lt (by omega)
  have h2 : (BitVec.ofInt 64 (b : Int)).toNat = b := by
    rw [BitVec.ofInt_natCast, BitVec.toNat_ofNat]; exact Nat.mod_eq_of_lt (by omega)
  show IntKind.i64.wrap ((BitVec.ofInt 64 (a : Int) ||| BitVec.ofInt 64 (b : Int)).toNat : Int) = _
  rw [BitVec.toNat_or, h1, h2, IntKind.wrap_i64]
  omega
theorem pow_small {k : Nat} (hk : k ≤ 13) : 2 ^ k ≤ 8192 := by
  have := Nat.pow_le_pow_right (n := 2) (by omega) hk
  simpa using this

theorem pow_i64 {k : Nat} (hk : k ≤ 13) : wrap64 ((2 : Int) ^ k) = ((2 ^ k : Nat) : Int) := by
  have h := pow_small hk
  rw [show ((2 : Int) ^ k) = ((2 ^ k : Nat) : Int) by norm_cast]
  generalize 2 ^ k = x at *
  unfold wrap64
  omega
theorem or_pow {x k : Nat} (hx : x ≤ 8192) (hk : k ≤ 12) : bits .or .i64 (x : Int) (wrap64 ((2 : Int) ^ k)) = ((x ||| 2 ^ k : Nat) : Int) := by
  rw [pow_i64 (by omega)]
  exact bits_or_i64_nat x (2 ^ k) (by omega) (by have := pow_small (k := k) (by omega); omega)
theorem mask_small (p : Nat → Bool) {k : Nat} (hk : k ≤ 13) : maskN p k ≤ 8192 := by have := maskN_lt p k; have := pow_small hk; omega

/-- the letter c stands at the place k -/
def hasAt (s : List UInt8) (c : Int) (k : Nat) : Bool := (s[k]?.map fun x => (x.toNat : Int)) == some c
theorem hasAt_eq (s : ByteArray) (c : Int) (k : Nat) (hk : k < s.size) : hasAt s.data.toList c k = ((s[k].toNat : Int) == c) := by
  unfold hasAt
  rw [get_eq s k hk]
  rfl
def maskI (s : List UInt8) (c : Int) : Int := if (wordB s && letterB c) = true then (maskN (hasAt s c) s.length : Int) else -1
theorem maskI_no {s : List UInt8} {c : Int} (h : (wordB s && letterB c) = false) : maskI s c = -1 := by unfold maskI; rw [h]; rfl
theorem maskI_yes {s : List UInt8} {c : Int} (h : (wordB s && letterB c) = true) : maskI s c = (maskN (hasAt s c) s.length : Int) := by unfold maskI; rw [if_pos h]

theorem letterMask_spec (s : ByteArray) (c : Int) (w : World) (hs : s.size ≤ maxLen) (h0 : 0 ≤ c) (h1 : c ≤ 255) :
    Calls Try.prog 14 #[.string s, .int .u8 c] w fun e w' => e = .returned (.int .i64 (maskI s.data.toList c)) ∧ Drawn w w' := by
  have hs' := hs
  unfold maxLen at hs
  cases hv : wordB s.data.toList
  · have HN := Lib.hid (maskI_no (s := s.data.toList) (c := c) (by rw [hv]; rfl))
    have HV := Lib.hid hv
    clear hv
    go_enter Try.func14, Try.ntmps14
    go_wp2_with fail
    refine (wordValid_spec_is HV.out _ hs').mono ?_
    rintro e w' ⟨rfl, rfl⟩
    go_wp2_with fail
    go_ret
    exact ⟨ret_int HN.out.symm, Drawn.refl _⟩
  · have h12 := word_size hv
    by_cases hc1 : c < 97
    · have HN := Lib.hid (maskI_no (s := s.data.toList) (c := c) (by rw [hv]; simp [letterB]; omega))
      have HV := Lib.hid hv
      clear hv
      go_enter Try.func14, Try.ntmps14
      go_wp2_with fail
      refine (wordValid_spec_is HV.out _ hs').mono ?_
      rintro e w' ⟨rfl, rfl⟩
      go_wp2_with fail
      go_ret
      exact ⟨ret_int HN.out.symm, Drawn.refl _⟩
    · by_cases hc2 : 122 < c
      · have HN := Lib.hid (maskI_no (s := s.data.toList) (c := c) (by rw [hv]; simp [letterB]; omega))
        have HV := Lib.hid hv
        clear hv
        go_enter Try.func14, Try.ntmps14
        go_wp2_with fail
        refine (wordValid_spec_is HV.out _ hs').mono ?_
        rintro e w' ⟨rfl, rfl⟩
        go_wp2_with fail
        go_ret
        exact ⟨ret_int HN.out.symm, Drawn.refl _⟩
      · have HN := Lib.hid (maskI_yes (s := s.data.toList) (c := c) (by rw [hv]; simp [letterB]; omega))
        rw [len_eq] at HN
        have HV := Lib.hid hv
        clear hv
        go_enter Try.func14, Try.ntmps14
        go_wp2_with fail
        refine (wordValid_spec_is HV.out _ hs').mono ?_
        rintro e w' ⟨rfl, rfl⟩
        go_wp2_with fail
        go_loopw [5, 6] (fun n i wr => ∃ k : Nat, k ≤ s.size ∧ i = .int .i64 k ∧ n = .int .i64 (maskN (hasAt s.data.toList c) k : Int) ∧ Drawn w wr) (fun _ i _ => s.size - (intOf i).toNat)
        case atStart => exact ⟨0, Nat.zero_le _, rfl, rfl, Drawn.refl _⟩
        case round =>
          obtain ⟨k, hk, rfl, rfl, hdr⟩ := hrel
          by_cases hlt : k < s.size
          · have hk0 : (0 : Int) ≤ (k : Int) := by omega
            have hk1 : (k : Int) < (s.size : Int) := by omega
            cases hq : ((s[k].toNat : Int) == c)
            · have HM := Lib.hid (show maskN (hasAt s.data.toList c) (k + 1) = maskN (hasAt s.data.toList c) k by rw [maskN, hasAt_eq s c k hlt, hq]; simp)
              go_wp2_with fail
              go_roundw
              case rel => exact ⟨k + 1, by omega, by go_num, by rw [HM.out], hdr⟩
              case measure => simp [intOf]; omega
            · have HM := Lib.hid (show maskN (hasAt s.data.toList c) (k + 1) = maskN (hasAt s.data.toList c) k ||| 2 ^ k by rw [maskN_or, maskN, hasAt_eq s c k hlt, hq]; rfl)
              go_wp2_with fail
              go_roundw
              case rel => exact ⟨k + 1, by omega, by go_num, by rw [HM.out, or_pow (mask_small _ (by omega)) (by omega)], hdr⟩
              case measure => simp [intOf]; omega
          · obtain rfl : k = s.size := by omega
            go_wp2_with fail
            go_ret
            exact ⟨ret_int HN.out.symm, hdr⟩

/-- the distances of the beginnings of a, as many as there are -/
theorem l5Column_any (a b : ByteArray) (w : World) (ha : a.size ≤ 12) (hb : b.size ≤ 12) :
    Calls Try.prog 37 #[.string a, .string b] w fun e w' => ∃ g cap : Nat, e = .returned (.slice (some ⟨g, 0, none⟩) (a.size + 1) cap) ∧ OwnI w' w.heap.size g (a.size + 1) cap (upto (colN a.data.toList b.data.toList) (a.size + 1)) ∧ Below w.heap.size w w' := by
  have hs0 : OwnI (w.alloc (.cells #[] 3)) w.heap.size w.heap.size 0 0 (upto (colN a.data.toList b.data.toList) 0) ∧ Below w.heap.size w (w.alloc (.cells #[] 3)) := ⟨OwnI.empty w, (Below.refl _ _).alloc (Nat.le_refl _) _⟩
  have HS0 := Lib.hid hs0
  clear hs0
  go_enter Try.func37, Try.ntmps37
  go_wp2_with fail
  go_loopw [5, 6] (fun v i wr => ∃ k g cap : Nat, k ≤ a.size + 1 ∧ i = .int .i64 k ∧ v = .slice (some ⟨g, 0, none⟩) k cap ∧ OwnI wr w.heap.size g k cap (upto (colN a.data.toList b.data.toList) k) ∧ Below w.heap.size w wr) (fun _ i _ => a.size + 1 - (intOf i).toNat)
  case atStart => exact ⟨0, _, _, Nat.zero_le _, rfl, rfl, HS0.out.1, HS0.out.2⟩
  case round =>
    clear HS0
    obtain ⟨k, g, cap, hk, rfl, rfl, hown, hbel⟩ := hrel
    by_cases hlt : k ≤ a.size
    · have hd : ed false (a.extract 0 k).data.toList b.data.toList = colN a.data.toList b.data.toList k := by
        unfold colN cell
        rw [extract_take, List.take_of_length_le (Nat.le_refl b.data.toList.length)]
      have HD := Lib.hid hd
      have HU := Lib.hid (upto_succ (colN a.data.toList b.data.toList) k)
      have hsz : (a.extract 0 k).size ≤ 12 := by rw [ByteArray.size_extract]; omega
      have hk0 : (0 : Int) ≤ (k : Int) := by omega
      have hk1 : (k : Int) ≤ (a.size : Int) := by omega
      clear hd
      go_wp2_with fail
      refine (l2Distance_any (a.extract 0 k) b _ hsz hb).mono ?_
      rintro e w1 ⟨rfl, hb1⟩
      rw [HD.out]
      have hown := hown.below hb1
      have hbel := below_step hbel (Nat.le_refl _) hb1
      clear hb1
      go_wp2_with
        (at_builtin
         refine wp_append_int rfl (.tmp 14) (.tmp 20) rfl w.heap.size g k cap 1 w1.heap.size _ (colN a.data.toList b.data.toList k : Int) rfl (hown.alloc _) rfl ((OwnI.lit w1 (colN a.data.toList b.data.toList k : Int)).at_ (k := 0) rfl) (by have := hbel.size; simp; omega) (by omega) ?_
         intro g2 cap2 w2 hown2 hg2 hat2 hst2)
      go_wp2_with fail
      go_roundw
      case rel =>
        rw [← HU.out] at hown2
        exact ⟨k + 1, g2, cap2, by omega, by go_num, rfl, hown2, (hbel.alloc hbel.size _).grown hg2 (by have := hbel.size; simp; omega) (fun j hj => by injection hj with hj; have := hown.lt.1; omega)⟩
      case measure => simp [intOf]; omega
    · obtain rfl : k = a.size + 1 := by omega
      go_wp2_with fail
      go_ret
      exact ⟨g, cap, rfl, hown, hbel⟩

/-- what BitColumn returns -/
noncomputable def upI (a b : List UInt8) : Int := twoI (fun x y => (upN x y : Int)) a b
noncomputable def downI (a b : List UInt8) : Int := twoI (fun x y => (downN x y : Int)) a b
noncomputable def colV (a b : List UInt8) : Value := .tuple #[.int .i64 (upI a b), .int .i64 (downI a b)]
theorem colV_no {a b : List UInt8} (h : (wordB a && wordB b) = false) : colV a b = .tuple #[.int .i64 (-1), .int .i64 (-1)] := by unfold colV upI downI; rw [twoI_no h, twoI_no h]
theorem colV_yes {a b : List UInt8} (h : (wordB a && wordB b) = true) : colV a b = .tuple #[.int .i64 (upN a b : Int), .int .i64 (downN a b : Int)] := by unfold colV upI downI; rw [twoI_yes h, twoI_yes h]
theorem colN_le (a b : List UInt8) (k : Nat) (ha : a.length ≤ 12) (hb : b.length ≤ 12) (hk : k ≤ a.length) : colN a b k ≤ 12 := by
  have := cell_le false a b k b.length
  unfold colN
  omega

theorem bitColumn_spec (a b : ByteArray) (w : World) (ha : a.size ≤ maxLen) (hb : b.size ≤ maxLen) :
    Calls Try.prog 18 #[.string a, .string b] w fun e w' => e = .returned (colV a.data.toList b.data.toList) ∧ Below w.heap.size w w' := by
  have ha' := ha
  have hb' := hb
  unfold maxLen at ha hb
  cases hva : wordB a.data.toList
  · have HN := Lib.hid (colV_no (a := a.data.toList) (b := b.data.toList) (by rw [hva]; rfl))
    have HA := Lib.hid hva
    clear hva
    go_enter Try.func18, Try.ntmps18
    go_wp2_with fail
    refine (wordValid_spec_is HA.out _ ha').mono ?_
    rintro e w' ⟨rfl, rfl⟩
    go_wp2_with fail
    go_ret2
    exact ⟨by rw [HN.out]; rfl, Below.refl _ _⟩
  · cases hvb : wordB b.data.toList
    · have HN := Lib.hid (colV_no (a := a.data.toList) (b := b.data.toList) (by rw [hva, hvb]; rfl))
      have HA := Lib.hid hva
      have HB := Lib.hid hvb
      clear hva hvb
      go_enter Try.func18, Try.ntmps18
      go_wp2_with fail
      refine (wordValid_spec_is HA.out _ ha').mono ?_
      rintro e w' ⟨rfl, rfl⟩
      go_wp2_with fail
      refine (wordValid_spec_is HB.out _ hb').mono ?_
      rintro e w' ⟨rfl, rfl⟩
      go_wp2_with fail
      go_ret2
      exact ⟨by rw [HN.out]; rfl, Below.refl _ _⟩
    · have HN := Lib.hid (colV_yes (a := a.data.toList) (b := b.data.toList) (by rw [hva, hvb]; rfl))
      have ha2 := word_size hva
      have hb2 := word_size hvb
      have HA := Lib.hid hva
      have HB := Lib.hid hvb
      clear hva hvb
      go_enter Try.func18, Try.ntmps18
      go_wp2_with fail
      refine (wordValid_spec_is HA.out _ ha').mono ?_
      rintro e w' ⟨rfl, rfl⟩
      go_wp2_with fail
      refine (wordValid_spec_is HB.out _ hb').mono ?_
      rintro e w' ⟨rfl, rfl⟩
      go_wp2_with fail
      refine (l5Column_any a b _ ha2 hb2).mono ?_
      rintro e w1 ⟨g, cap, rfl, hown1, hbel1⟩
      go_wp2_with fail
      go_loopw [6, 7, 9] (fun u d i wr => ∃ k : Nat, k ≤ a.size ∧ i = .int .i64 k ∧ u = .int .i64 (maskN (upP a.data.toList b.data.toList) k : Int) ∧ d = .int .i64 (maskN (downP a.data.toList b.data.toList) k : Int) ∧
        OwnI wr w.heap.size g (a.size + 1) cap (upto (colN a.data.toList b.data.toList) (a.size + 1)) ∧ Below w.heap.size w wr) (fun _ _ i _ => a.size - (intOf i).toNat)
      case atStart => exact ⟨0, Nat.zero_le _, rfl, rfl, rfl, hown1, hbel1⟩
      case round =>
        clear hown1 hbel1
        obtain ⟨k, hk, rfl, rfl, rfl, hown, hbel⟩ := hrel
        by_cases hlt : k < a.size
        · have hc1 := hown.at_ (upto_get (colN a.data.toList b.data.toList) (show k < a.size + 1 by omega))
          have hc2 := hown.at_ (upto_get (colN a.data.toList b.data.toList) (show k + 1 < a.size + 1 by omega))
          have l1 := colN_le a.data.toList b.data.toList k (by rw [len_eq]; exact ha2) (by rw [len_eq]; exact hb2) (by rw [len_eq]; omega)
          have l2 := colN_le a.data.toList b.data.toList (k + 1) (by rw [len_eq]; exact ha2) (by rw [len_eq]; exact hb2) (by rw [len_eq]; omega)
          have hst := colN_step a.data.toList b.data.toList k (by rw [len_eq]; exact hlt)
          have hu : maskN (upP a.data.toList b.data.toList) (k + 1) = if colN a.data.toList b.data.toList (k + 1) = colN a.data.toList b.data.toList k + 1 then maskN (upP a.data.toList b.data.toList) k ||| 2 ^ k else maskN (upP a.data.toList b.data.toList) k := by
            rw [maskN_or, maskN]; simp only [upP, decide_eq_true_eq]; split <;> omega
          have hd : maskN (downP a.data.toList b.data.toList) (k + 1) = if colN a.data.toList b.data.toList (k + 1) + 1 = colN a.data.toList b.data.toList k then maskN (downP a.data.toList b.data.toList) k ||| 2 ^ k else maskN (downP a.data.toList b.data.toList) k := by
            rw [maskN_or, maskN]; simp only [downP, decide_eq_true_eq]; split <;> omega
          have s1 := mask_small (upP a.data.toList b.data.toList) (k := k) (by omega)
          have s2 := mask_small (downP a.data.toList b.data.toList) (k := k) (by omega)
          have hk0 : (0 : Int) ≤ (k : Int) := by omega
          have hk1 : (k : Int) < (a.size : Int) + 1 := by omega
          have hk2 : (k : Int) + 1 < (a.size : Int) + 1 := by omega
          have hk3 : (0 : Int) ≤ (k : Int) + 1 := by omega
          have hk4 : (k : Int) < ((a.size + 1 : Nat) : Int) := by omega
          have hk5 : (k : Int) + 1 < ((a.size + 1 : Nat) : Int) := by omega
          have hk6 : ((k : Int) + 1).toNat = k + 1 := by omega
          have hkw := IntWalk.i64_in ((k : Int) + 1) (by omega)
          generalize colN a.data.toList b.data.toList (k + 1) = x at hc2 l2 hst hu hd
          generalize colN a.data.toList b.data.toList k = y at hc1 l1 hst hu hd
          rcases (show x = y + 1 ∨ y = x + 1 ∨ x = y by omega) with he | he | he
          · subst he
            rw [if_pos rfl] at hu
            rw [if_neg (by omega)] at hd
            rw [show ((y + 1 : Nat) : Int) = (y : Int) + 1 from rfl] at hc2
            have hdf : IntKind.i64.wrap ((y : Int) + 1 - (y : Int)) = 1 := by rw [IntWalk.i64_in _ (by omega)]; omega
            have hdf2 : (y : Int) + 1 - (y : Int) = 1 := by omega
            have HU := Lib.hid hu
            have HD := Lib.hid hd
            clear hu hd
            go_wp2_with fail
            go_quiet (fail)
            go_wp2_with fail
            go_roundw
            case rel => exact ⟨k + 1, by omega, by go_num, by rw [HU.out, or_pow (by omega) (by omega)], by rw [HD.out], hown.drawn ⟨_, rfl⟩, below_drewN hbel _⟩
            case measure => simp [intOf]; omega
          · subst he
            rw [if_neg (by omega)] at hu
            rw [if_pos rfl] at hd
            rw [show ((x + 1 : Nat) : Int) = (x : Int) + 1 from rfl] at hc1
            have hdf : IntKind.i64.wrap ((x : Int) - ((x : Int) + 1)) = -1 := by rw [IntWalk.i64_in _ (by omega)]; omega
            have hdf2 : (x : Int) - ((x : Int) + 1) = -1 := by omega
            have HU := Lib.hid hu
            have HD := Lib.hid hd
            clear hu hd
            go_wp2_with fail
            go_quiet (fail)
            go_wp2_with fail
            go_roundw
            case rel => exact ⟨k + 1, by omega, by go_num, by rw [HU.out], by rw [HD.out, or_pow (by omega) (by omega)], hown.drawn ⟨_, rfl⟩, below_drewN hbel _⟩
            case measure => simp [intOf]; omega
          · subst he
            rw [if_neg (by omega)] at hu hd
            have hdf : IntKind.i64.wrap ((x : Int) - (x : Int)) = 0 := by rw [IntWalk.i64_in _ (by omega)]; omega
            have hdf2 : (x : Int) - (x : Int) = 0 := by omega
            have HU := Lib.hid hu
            have HD := Lib.hid hd
            clear hu hd
            go_wp2_with fail
            go_quiet (fail)
            go_wp2_with fail
            go_roundw
            case rel => exact ⟨k + 1, by omega, by go_num, by rw [HU.out], by rw [HD.out], hown.drawn ⟨_, rfl⟩, below_drewN hbel _⟩
            case measure => simp [intOf]; omega
        · obtain rfl : k = a.size := by omega
          have e1 : maskN (upP a.data.toList b.data.toList) a.size = upN a.data.toList b.data.toList := by unfold upN; rw [len_eq]
          have e2 : maskN (downP a.data.toList b.data.toList) a.size = downN a.data.toList b.data.toList := by unfold downN; rw [len_eq]
          rw [e1, e2]
          go_wp2_with fail
          go_ret2
          exact ⟨by rw [HN.out]; rfl, hbel⟩
end Go.Proofs.Ytfcolmjjfoaeeaa
