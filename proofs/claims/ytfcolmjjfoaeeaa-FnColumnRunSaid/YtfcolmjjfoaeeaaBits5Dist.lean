/- Contracts of the model's BitDistance and StepColumn. -/
import Derived.Test.YtfcolmjjfoaeeaaBits5Spec
import Derived.Laws.BytesString
import Derived.Laws.NewBlocks
namespace Go.Proofs.Ytfcolmjjfoaeeaa
open Go.RowKit
set_option maxHeartbeats 1600000
set_option linter.unusedSimpArgs false
set_option linter.unusedVariables false

/-- the arguments that BitDistance answers -/
def bitOk (n m u d : Int) : Bool := inB n 0 12 && inB m 0 12 && inB u 0 (2 ^ n.toNat - 1) && inB d 0 (2 ^ n.toNat - 1) && decide (u.toNat &&& d.toNat = 0)
def bitI (n m u d : Int) : Int := if bitOk n m u d = true then max (-1) (m + digits u.toNat n.toNat - digits d.toNat n.toNat) else -1
theorem bitI_no {n m u d : Int} (h : bitOk n m u d = false) : bitI n m u d = -1 := by unfold bitI; rw [h]; rfl
theorem bitI_yes {n m u d : Int} (h : bitOk n m u d = true) : bitI n m u d = max (-1) (m + digits u.toNat n.toNat - digits d.toNat n.toNat) := by unfold bitI; rw [if_pos h]
theorem two_pow_cast (k : Nat) : ((2 : Int) ^ k) = ((2 ^ k : Nat) : Int) := by norm_cast

theorem digit_tmod (x j : Nat) : ((x : Int) / 2 ^ j).tmod 2 = ((x / 2 ^ j % 2 : Nat) : Int) := by
  rw [two_pow_cast, ← Int.natCast_ediv]
  generalize x / 2 ^ j = q
  rw [Int.tmod_eq_emod_of_nonneg (by omega)]
  omega
theorem step_sum {m a b x y j : Nat} (hm : m ≤ 12) (ha : a ≤ 64) (hb : b ≤ 64) :
    wrap64 (wrap64 ((m : Int) + (a : Int) - (b : Int) + ((x : Int) / 2 ^ j).tmod 2) - ((y : Int) / 2 ^ j).tmod 2) = (m : Int) + ((a + x / 2 ^ j % 2 : Nat) : Int) - ((b + y / 2 ^ j % 2 : Nat) : Int) := by
  rw [digit_tmod, digit_tmod]
  have h1 : x / 2 ^ j % 2 < 2 := Nat.mod_lt _ (by omega)
  have h2 : y / 2 ^ j % 2 < 2 := Nat.mod_lt _ (by omega)
  generalize x / 2 ^ j % 2 = q at *
  generalize y / 2 ^ j % 2 = r at *
  unfold wrap64
  omega

theorem bitDistance_spec (n m u d : Int) (w : World) :
    Calls Try.prog 22 #[.int .i64 n, .int .i64 m, .int .i64 u, .int .i64 d] w fun e w' => e = .returned (.int .i64 (bitI n m u d)) ∧ Drawn w w' := by
  cases h1 : inB n 0 12
  · have HN := Lib.hid (bitI_no (n := n) (m := m) (u := u) (d := d) (by unfold bitOk; rw [h1]; rfl))
    have H1 := Lib.hid h1
    clear h1
    go_enter Try.func22, Try.ntmps22
    go_wp2_with fail
    refine (l1In_is H1.out _).mono ?_
    rintro e w' ⟨rfl, rfl⟩
    go_wp2_with fail
    go_ret
    exact ⟨ret_int HN.out.symm, Drawn.refl _⟩
  · obtain ⟨k, rfl, hk⟩ := inB_nat h1
    have H1 := Lib.hid h1
    cases h2 : inB m 0 12
    · have HN := Lib.hid (bitI_no (n := k) (m := m) (u := u) (d := d) (by unfold bitOk; rw [h1, h2]; rfl))
      have H2 := Lib.hid h2
      clear h1 h2
      go_enter Try.func22, Try.ntmps22
      go_wp2_with fail
      refine (l1In_is H1.out _).mono ?_
      rintro e w' ⟨rfl, rfl⟩
      go_wp2_with fail
      refine (l1In_is H2.out _).mono ?_
      rintro e w' ⟨rfl, rfl⟩
      go_wp2_with fail
      go_ret
      exact ⟨ret_int HN.out.symm, Drawn.refl _⟩
    · obtain ⟨m, rfl, hm⟩ := inB_nat h2
      have H2 := Lib.hid h2
      have hkc : (0 : Int) ≤ (k : Int) := by omega
      have hp := pow_i64 (k := k) (by omega)
      have hps := pow_small (k := k) (by omega)
      have hpp := Nat.two_pow_pos k
      have hpe : (2 : Int) ^ (k : Int).toNat - 1 = ((2 ^ k : Nat) : Int) - 1 := by rw [Int.toNat_natCast, two_pow_cast]
      obtain ⟨p, hpd⟩ : ∃ p, 2 ^ k = p := ⟨_, rfl⟩
      rw [hpd] at hp hps hpp hpe
      have HPD := Lib.hid hpd
      have hpw : IntKind.i64.wrap ((p : Int) - 1) = (p : Int) - 1 := IntWalk.i64_in _ (by omega)
      cases h3 : inB u 0 ((p : Int) - 1)
      · have HN := Lib.hid (bitI_no (n := k) (m := m) (u := u) (d := d) (by unfold bitOk; rw [h1, h2, hpe, h3]; rfl))
        have H3 := Lib.hid h3
        clear h1 h2 h3 hpe hpd
        go_enter Try.func22, Try.ntmps22
        go_wp2_with fail
        refine (l1In_is H1.out _).mono ?_
        rintro e w' ⟨rfl, rfl⟩
        go_wp2_with fail
        refine (l1In_is H2.out _).mono ?_
        rintro e w' ⟨rfl, rfl⟩
        go_wp2_with fail
        refine (l1In_is H3.out _).mono ?_
        rintro e w' ⟨rfl, rfl⟩
        go_wp2_with fail
        go_ret
        exact ⟨ret_int HN.out.symm, Drawn.refl _⟩
      · obtain ⟨x, rfl, hx⟩ := inB_nat h3
        have H3 := Lib.hid h3
        cases h4 : inB d 0 ((p : Int) - 1)
        · have HN := Lib.hid (bitI_no (n := k) (m := m) (u := x) (d := d) (by unfold bitOk; rw [h1, h2, hpe, h3, h4]; rfl))
          have H4 := Lib.hid h4
          clear h1 h2 h3 h4 hpe hpd
          go_enter Try.func22, Try.ntmps22
          go_wp2_with fail
          refine (l1In_is H1.out _).mono ?_
          rintro e w' ⟨rfl, rfl⟩
          go_wp2_with fail
          refine (l1In_is H2.out _).mono ?_
          rintro e w' ⟨rfl, rfl⟩
          go_wp2_with fail
          refine (l1In_is H3.out _).mono ?_
          rintro e w' ⟨rfl, rfl⟩
          go_wp2_with fail
          refine (l1In_is H4.out _).mono ?_
          rintro e w' ⟨rfl, rfl⟩
          go_wp2_with fail
          go_ret
          exact ⟨ret_int HN.out.symm, Drawn.refl _⟩
        · obtain ⟨y, rfl, hy⟩ := inB_nat h4
          have H4 := Lib.hid h4
          have hxy := bits_and_i64_nat x y (by omega) (by omega)
          by_cases h5 : x &&& y = 0
          · have hok : bitOk k m x y = true := by unfold bitOk; rw [h1, h2, hpe, h3, h4]; simp [h5]
            have HN := Lib.hid (bitI_yes hok)
            simp only [Int.toNat_natCast] at HN
            rw [h5] at hxy
            have hk12 : k ≤ 12 := by omega
            have hm12 : m ≤ 12 := by omega
            clear h1 h2 h3 h4 hpe hpd h5 hok
            go_enter Try.func22, Try.ntmps22
            go_wp2_with fail
            refine (l1In_is H1.out _).mono ?_
            rintro e w' ⟨rfl, rfl⟩
            go_wp2_with fail
            refine (l1In_is H2.out _).mono ?_
            rintro e w' ⟨rfl, rfl⟩
            go_wp2_with fail
            refine (l1In_is H3.out _).mono ?_
            rintro e w' ⟨rfl, rfl⟩
            go_wp2_with fail
            refine (l1In_is H4.out _).mono ?_
            rintro e w' ⟨rfl, rfl⟩
            go_wp2_with fail
            go_loopw [9, 10] (fun v i wr => ∃ j : Nat, j ≤ k ∧ i = .int .i64 j ∧ v = .int .i64 ((m : Int) + digits x j - digits y j) ∧ Drawn w wr) (fun _ i _ => k - (intOf i).toNat)
            case atStart => exact ⟨0, Nat.zero_le _, rfl, by simp [digits], Drawn.refl _⟩
            case round =>
              obtain ⟨j, hj, rfl, rfl, hdr⟩ := hrel
              by_cases hlt : j < k
              · have hj0 : (0 : Int) ≤ (j : Int) := by omega
                have hj1 : (j : Int) < (k : Int) := by omega
                have d1 := digits_le x j
                have d2 := digits_le y j
                have q1 : digits x (j + 1) = digits x j + x / 2 ^ j % 2 := rfl
                have q2 : digits y (j + 1) = digits y j + y / 2 ^ j % 2 := rfl
                have HQ1 := Lib.hid q1
                have HQ2 := Lib.hid q2
                clear q1 q2
                go_wp2_with fail
                go_quiet (fail)
                go_wp2_with fail
                go_roundw
                case rel => exact ⟨j + 1, by omega, by go_num, by rw [HQ1.out, HQ2.out, step_sum hm12 (by omega) (by omega)], hdr.drewN _⟩
                case measure => simp [intOf]; omega
              · obtain rfl : j = k := by omega
                go_wp2_with fail
                all_goals
                  go_ret
                  exact ⟨ret_int (by rw [HN.out]; omega), hdr⟩
          · have hok : bitOk k m x y = false := by unfold bitOk; rw [h1, h2, hpe, h3, h4]; simp [h5]
            have HN := Lib.hid (bitI_no hok)
            have h6 : ((x &&& y : Nat) : Int) ≠ 0 := by omega
            have h7 : (((x &&& y : Nat) : Int) != 0) = true := by simpa using h6
            generalize x &&& y = z at hxy h6 h7
            clear h1 h2 h3 h4 hpe hpd h5 hok
            go_enter Try.func22, Try.ntmps22
            go_wp2_with fail
            refine (l1In_is H1.out _).mono ?_
            rintro e w' ⟨rfl, rfl⟩
            go_wp2_with fail
            refine (l1In_is H2.out _).mono ?_
            rintro e w' ⟨rfl, rfl⟩
            go_wp2_with fail
            refine (l1In_is H3.out _).mono ?_
            rintro e w' ⟨rfl, rfl⟩
            go_wp2_with fail
            refine (l1In_is H4.out _).mono ?_
            rintro e w' ⟨rfl, rfl⟩
            go_wp2_with fail
            go_ret
            exact ⟨ret_int HN.out.symm, Drawn.refl _⟩

/-- a word, and a letter behind it -/
def snocB (b : ByteArray) (c : UInt8) : ByteArray := b ++ ⟨#[c]⟩
theorem snocB_list (b : ByteArray) (c : UInt8) : (snocB b c).data.toList = b.data.toList ++ [c] := by unfold snocB; simp
theorem snocB_size (b : ByteArray) (c : UInt8) : (snocB b c).size = b.size + 1 := by rw [← len_eq, snocB_list, List.length_append, len_eq]; rfl
/-- what StepColumn returns -/
noncomputable def stepV (a b : ByteArray) (c : UInt8) : Value := if (letterB c.toNat && decide (b.size < 12)) = true then colV a.data.toList (b.data.toList ++ [c]) else .tuple #[.int .i64 (-1), .int .i64 (-1)]
theorem stepV_no {a b : ByteArray} {c : UInt8} (h : (letterB c.toNat && decide (b.size < 12)) = false) : stepV a b c = .tuple #[.int .i64 (-1), .int .i64 (-1)] := by unfold stepV; rw [h]; rfl
theorem stepV_yes {a b : ByteArray} {c : UInt8} (h : (letterB c.toNat && decide (b.size < 12)) = true) : stepV a b c = colV a.data.toList (snocB b c).data.toList := by unfold stepV; rw [if_pos h, snocB_list]
theorem text_new (w : World) (c : UInt8) : (convert 22 9 (.slice (some ⟨w.heap.size, 0, none⟩) 1 1)).run Try.prog (w.alloc (.cells #[.int .u8 (c.toNat : Int)] 5)) = .ok (.string ⟨#[c]⟩) (w.alloc (.cells #[.int .u8 (c.toNat : Int)] 5)) := by
  rw [run_convert_bytes_string (e := 5) _ _ _ _ _ _ Try.underlying22 Try.underlying5 Try.underlying9]
  have := run_bytesToString (P := Try.prog) (w.alloc (.cells #[.int .u8 (c.toNat : Int)] 5)) ⟨w.heap.size, 0, none⟩ 1 1 [(c.toNat : Int)] (run_loadCells_list _ _ [.int .u8 (c.toNat : Int)] (fun j u hj => by
    match j, hj with
    | 0, hj => simp at hj; subst hj; simp [Addr.add]))
  rw [this]
  simp
  rfl
theorem bitColumn_spec_is {a b : ByteArray} {v : Value} (hv : colV a.data.toList b.data.toList = v) (w : World) (ha : a.size ≤ maxLen) (hb : b.size ≤ maxLen) :
    Calls Try.prog 18 #[.string a, .string b] w fun e w' => e = .returned v ∧ Below w.heap.size w w' := hv ▸ bitColumn_spec a b w ha hb
theorem colV_is (a b : List UInt8) : ∃ u d : Int, colV a b = .tuple #[.int .i64 u, .int .i64 d] := ⟨_, _, rfl⟩

theorem stepColumn_spec (a b : ByteArray) (c : UInt8) (w : World) (ha : a.size ≤ maxLen) (hb : b.size ≤ maxLen) :
    Calls Try.prog 25 #[.string a, .string b, .int .u8 (c.toNat : Int)] w fun e w' => e = .returned (stepV a b c) ∧ Below w.heap.size w w' := by
  have hb' := hb
  unfold maxLen at hb
  have hc0 : (0 : Int) ≤ (c.toNat : Int) := by omega
  by_cases h1 : (c.toNat : Int) < 97
  · have HN := Lib.hid (stepV_no (a := a) (b := b) (c := c) (by simp [letterB]; omega))
    go_enter Try.func25, Try.ntmps25
    go_wp2_with fail
    go_ret2
    exact ⟨by rw [HN.out]; rfl, Below.refl _ _⟩
  · by_cases h2 : (122 : Int) < (c.toNat : Int)
    · have HN := Lib.hid (stepV_no (a := a) (b := b) (c := c) (by simp [letterB]; omega))
      go_enter Try.func25, Try.ntmps25
      go_wp2_with fail
      go_ret2
      exact ⟨by rw [HN.out]; rfl, Below.refl _ _⟩
    · by_cases h3 : (12 : Int) ≤ (b.size : Int)
      · have HN := Lib.hid (stepV_no (a := a) (b := b) (c := c) (by simp; omega))
        go_enter Try.func25, Try.ntmps25
        go_wp2_with fail
        go_ret2
        exact ⟨by rw [HN.out]; rfl, Below.refl _ _⟩
      · have hy := stepV_yes (a := a) (b := b) (c := c) (by simp [letterB]; omega)
        obtain ⟨u, d, hv⟩ := colV_is a.data.toList (snocB b c).data.toList
        rw [hv] at hy
        have HN := Lib.hid hy
        have HV := Lib.hid hv
        have hsz : (b ++ (⟨#[c]⟩ : ByteArray)).size ≤ maxLen := by have := snocB_size b c; unfold snocB at this; unfold maxLen; omega
        have hcv := text_new w c
        clear hy hv
        go_enter Try.func25, Try.ntmps25
        go_wp2_with fail
        refine (bitColumn_spec_is HV.out _ ha hsz).mono ?_
        rintro e w1 ⟨rfl, hb1⟩
        go_wp2_with fail
        go_ret2
        exact ⟨by rw [HN.out]; rfl, ((Below.refl _ _).alloc (Nat.le_refl _) _).trans (hb1.mono (by simp))⟩
end Go.Proofs.Ytfcolmjjfoaeeaa
