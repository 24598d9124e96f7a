/- Contracts of the model's l3Text and ApplyEdit. -/
import Derived.Test.YtmdmjhnjhelccaaScript
import Derived.Test.YtmdmjhnjhelccaaTwo
import Derived.Deep.RegionHeld3
import Derived.BigRegion
import Derived.Deep.CutRange
import Derived.Deep.DeepCutAuto
namespace Go.Proofs.Ytmdmjhnjhelccaa
open Go.RowKit
set_option maxHeartbeats 1600000
set_option linter.unusedSimpArgs false
set_option linter.unusedVariables false

theorem small_letters (l : List UInt8) : l.all smallB = lettersB l := by
  unfold lettersB letterB smallB
  congr 1
theorem longB_eq (s : ByteArray) : longB s.data.toList = (lettersB s.data.toList && decide (s.size ≤ 24)) := by unfold longB; rw [small_letters, len_eq]

theorem l3Text_spec (s : ByteArray) (w : World) (hs : s.size ≤ maxLen) :
    Calls Try.prog 42 #[.string s] w fun e w' => e = .returned (.bool (longB s.data.toList)) ∧ w = w' := by
  unfold maxLen at hs
  rw [longB_eq]
  go_enter Try.func42, Try.ntmps42
  go_wp2
  go_loop [3] (fun i => ∃ k : Nat, k ≤ s.size ∧ i = .int .i64 k ∧ lettersB (s.data.toList.take k) = true) (fun i => s.size - (intOf i).toNat)
  case atStart => exact ⟨0, Nat.zero_le _, rfl, rfl⟩
  case round =>
    obtain ⟨k, hk, rfl, hp⟩ := hrel
    have HP := Lib.hid hp
    clear hp
    by_cases hlt : k < s.size
    · have hst := letters_step s k hlt
      have HS := Lib.hid hst
      clear hst
      by_cases ha : (s[k].toNat : Int) < 97
      · go_wp2
        go_ret
        refine ⟨ret_bool ?_, rfl⟩
        have : lettersB s.data.toList = false := letters_take _ (k + 1) (by rw [HS.out, HP.out]; simp [letterB]; omega)
        rw [this]; simp
      · by_cases hb : (122 : Int) < s[k].toNat
        · go_wp2
          go_ret
          refine ⟨ret_bool ?_, rfl⟩
          have : lettersB s.data.toList = false := letters_take _ (k + 1) (by rw [HS.out, HP.out]; simp [letterB]; omega)
          rw [this]; simp
        · go_wp2
          go_round
          case rel => exact ⟨k + 1, by omega, by go_num, by rw [HS.out, HP.out]; simp [letterB]; omega⟩
          case measure => simp [intOf]; omega
    · have h2 := HP.out
      rw [List.take_of_length_le (by rw [len_eq]; omega)] at h2
      have H2 := Lib.hid h2
      clear h2
      go_wp2
      go_ret
      refine ⟨ret_bool ?_, rfl⟩
      rw [H2.out]; simp; omega

/-- the text that came out, or the empty one -/
def outB (o : Option (List UInt8)) : ByteArray := match o with
  | some l => ⟨l.toArray⟩
  | none => ⟨#[]⟩
/-- what ApplyEdit returns -/
def applyV (s : ByteArray) (k p : Int) (c : UInt8) : Value := .tuple #[.string (outB (applyL s.data.toList ⟨k, p, c⟩)), .bool (applyL s.data.toList ⟨k, p, c⟩).isSome]
theorem applyV_none {s : ByteArray} {k p : Int} {c : UInt8} (h : applyL s.data.toList ⟨k, p, c⟩ = none) : applyV s k p c = .tuple #[.string ⟨#[]⟩, .bool false] := by unfold applyV; rw [h]; rfl
theorem applyV_some {s : ByteArray} {k p : Int} {c : UInt8} {l : List UInt8} (h : applyL s.data.toList ⟨k, p, c⟩ = some l) : applyV s k p c = .tuple #[.string ⟨l.toArray⟩, .bool true] := by unfold applyV; rw [h]; rfl

theorem applyL_none {s : List UInt8} {e : Chg} (h1 : insOk s e = false) (h2 : delOk s e = false) (h3 : repOk s e = false) : applyL s e = none := by
  unfold applyL
  split
  · rw [h1, h2, h3]; rfl
  · rfl
theorem applyL_bad {s : List UInt8} {e : Chg} (h : (longB s && decide (0 ≤ e.p)) = false) : applyL s e = none := by unfold applyL; rw [h]; rfl
theorem longB_size {s : ByteArray} (h : longB s.data.toList = true) : s.size ≤ 24 := by
  rw [longB_eq] at h
  simp only [Bool.and_eq_true, decide_eq_true_eq] at h
  exact h.2
theorem longB_all {s : List UInt8} (h : longB s = true) : s.all smallB = true := by
  simp only [longB, Bool.and_eq_true] at h
  exact h.1
theorem c_zero {c : UInt8} (h : ((c.toNat : Int) == 0) = true) : c = 0 := by
  simp only [beq_iff_eq] at h
  exact UInt8.toNat_inj.1 (by simpa using h)
theorem c_not {c : UInt8} (h : ((c.toNat : Int) == 0) = false) : c ≠ 0 := by intro e; subst e; simp at h

theorem ba_eq {x : ByteArray} {l : List UInt8} (h : x.data.toList = l) : x = ⟨l.toArray⟩ := by subst h; cases x; simp
theorem extract_drop (s : ByteArray) (k : Nat) (hk : k ≤ s.size) : (s.extract k s.size).data.toList = s.data.toList.drop k := by
  rw [ByteArray.data_extract, Array.toList_extract, List.extract_eq_take_drop]
  rw [List.take_of_length_le (by simp [len_eq])]
theorem ins_eq (s : ByteArray) (n : Nat) (c : UInt8) (hn : n ≤ s.size) : s.extract 0 n ++ ⟨#[c]⟩ ++ s.extract n s.size = ⟨(s.data.toList.take n ++ c :: s.data.toList.drop n).toArray⟩ := by
  apply ba_eq
  simp only [ByteArray.data_append, Array.toList_append, extract_take, extract_drop s n hn, List.append_assoc, List.cons_append, List.nil_append]
theorem del_eq (s : ByteArray) (n : Nat) (hn : n < s.size) : s.extract 0 n ++ s.extract (n + 1) s.size = ⟨(s.data.toList.take n ++ s.data.toList.drop (n + 1)).toArray⟩ := by
  apply ba_eq
  simp only [ByteArray.data_append, Array.toList_append, extract_take, extract_drop s (n + 1) hn]
theorem rep_eq (s : ByteArray) (n : Nat) (c : UInt8) (hn : n < s.size) : s.extract 0 n ++ ⟨#[c]⟩ ++ s.extract (n + 1) s.size = ⟨(s.data.toList.take n ++ c :: s.data.toList.drop (n + 1)).toArray⟩ := by
  apply ba_eq
  simp only [ByteArray.data_append, Array.toList_append, extract_take, extract_drop s (n + 1) hn, List.append_assoc, List.cons_append, List.nil_append]
theorem text_of_cell (V : World) (g : Nat) (c : UInt8) (h : V.cell? ⟨g, 0, none⟩ = some (.int .u8 (c.toNat : Int))) :
    (convert 22 9 (.slice (some ⟨g, 0, none⟩) 1 1)).run Try.prog V = .ok (.string ⟨#[c]⟩) V := by
  rw [run_convert_bytes_string (e := 5) _ _ _ _ _ _ Try.underlying22 Try.underlying5 Try.underlying9]
  have := run_bytesToString (P := Try.prog) V ⟨g, 0, none⟩ 1 1 [(c.toNat : Int)] (run_loadCells_list _ _ [.int .u8 (c.toNat : Int)] (fun j u hj => by
    match j, hj with
    | 0, hj => simp at hj; subst hj; simpa [Addr.add] using h))
  rw [this]
  simp
  rfl
theorem text_in_box (w : World) (x : Value) (y : Value) (T : TypeId) (c : UInt8) :
    (convert 22 9 (.slice (some ⟨w.heap.size + 1, 0, none⟩) 1 1)).run Try.prog ((w.alloc (.cells #[x, y, .int .u8 (c.toNat : Int)] T)).alloc (.cells #[.int .u8 (c.toNat : Int)] 5)).drew =
      .ok (.string ⟨#[c]⟩) ((w.alloc (.cells #[x, y, .int .u8 (c.toNat : Int)] T)).alloc (.cells #[.int .u8 (c.toNat : Int)] 5)).drew :=
  text_of_cell _ _ _ (World.cell?_alloc_at _ _ _ _ (by simp))

set_option maxRecDepth 100000 in
theorem applyEdit_spec (s : ByteArray) (k p : Int) (c : UInt8) (w : World) (hs : s.size ≤ maxLen) :
    Calls Try.prog 14 #[.string s, .agg #[.int .i64 k, .int .i64 p, .int .u8 c.toNat]] w fun e w' => e = .returned (applyV s k p c) ∧ Below w.heap.size w w' := by
  have hs' := hs
  unfold maxLen at hs
  have hc0 : (0 : Int) ≤ (c.toNat : Int) := by omega
  go_enter Try.func14, Try.ntmps14
  go_upto_region 1 with (fail)
  go_cut [6] from 7 to 14 (fun s6 wc => s6 = .bool (smallB c) ∧ wc = w.alloc (.cells #[.int .i64 k, .int .i64 p, .int .u8 c.toNat] 24))
  case first =>
    by_cases h1 : (97 : Int) ≤ c.toNat
    · by_cases h2 : (c.toNat : Int) ≤ 122
      · go_wp2_with fail
        go_meet
        case rel => exact ⟨by unfold smallB; rw [decide_eq_true h1, decide_eq_true h2]; rfl, rfl⟩
      · go_wp2_with fail
        go_meet
        case rel => exact ⟨by unfold smallB; rw [decide_eq_true h1, decide_eq_false (by omega)]; rfl, rfl⟩
    · go_wp2_with fail
      go_meet
      case rel => exact ⟨by unfold smallB; rw [decide_eq_false (by omega)]; rfl, rfl⟩
  case rest =>
    obtain ⟨rfl, rfl⟩ := hcut
    cases hT : longB s.data.toList
    · have HN := Lib.hid (applyV_none (s := s) (k := k) (p := p) (c := c) (applyL_bad (by rw [hT]; rfl)))
      have HT := Lib.hid hT
      clear hT
      go_wp2_with fail
      refine (l3Text_spec _ _ hs').mono ?_
      rintro e w' ⟨rfl, rfl⟩
      rw [HT.out]
      go_wp2_with fail
      go_ret2
      exact ⟨by rw [HN.out]; rfl, (Below.refl _ _).alloc (Nat.le_refl _) _⟩
    · have hl24 := longB_size hT
      have hall := longB_all hT
      by_cases hp : p < 0
      · have HN := Lib.hid (applyV_none (s := s) (k := k) (p := p) (c := c) (applyL_bad (by simp; omega)))
        have HT := Lib.hid hT
        clear hT hall
        go_wp2_with fail
        refine (l3Text_spec _ _ hs').mono ?_
        rintro e w' ⟨rfl, rfl⟩
        rw [HT.out]
        go_wp2_with fail
        go_ret2
        exact ⟨by rw [HN.out]; rfl, (Below.refl _ _).alloc (Nat.le_refl _) _⟩
      · obtain ⟨n, rfl⟩ : ∃ n : Nat, p = (n : Int) := ⟨p.toNat, by omega⟩
        have HT := Lib.hid hT
        have HL := Lib.hid hall
        clear hp hT hall
        have hn0 : (0 : Int) ≤ (n : Int) := by omega
        have hnn : decide ((n : Int) < 0) = false := by simp
        have hk : k = 1 ∨ k = 2 ∨ k = 3 ∨ (k ≠ 1 ∧ k ≠ 2 ∧ k ≠ 3) := by omega
        rcases hk with rfl | rfl | rfl | ⟨k1, k2, k3⟩
        · cases hc : smallB c
          · have HN := Lib.hid (applyV_none (s := s) (k := 1) (p := (n : Int)) (c := c) (applyL_none (by simp [insOk, hc]) (by simp [delOk]) (by simp [repOk])))
            clear hc0
            go_wp2_with fail
            refine (l3Text_spec _ _ hs').mono ?_
            rintro e w' ⟨rfl, rfl⟩
            rw [HT.out]
            go_wp2_with fail
            go_quiet (fail)
            go_wp2_with fail
            go_ret2
            exact ⟨by rw [HN.out]; rfl, below_drewN ((Below.refl _ _).alloc (Nat.le_refl _) _) _⟩
          · by_cases hn : n ≤ s.size
            · by_cases hl : s.size < 24
              · have HN := Lib.hid (applyV_some (s := s) (k := 1) (p := (n : Int)) (c := c) (applyL_ins HL.out (by rw [len_eq]; exact hl) hc (by rw [len_eq]; exact hn)))
                have i1 : (n : Int) ≤ (s.size : Int) := by omega
                have i2 : (s.size : Int) < 24 := by omega
                go_wp2_with fail
                refine (l3Text_spec _ _ hs').mono ?_
                rintro e w' ⟨rfl, rfl⟩
                rw [HT.out]
                go_wp2_with fail
                have hcv := text_in_box w (.int .i64 1) (.int .i64 (n : Int)) 24 c
                go_region
                go_wp2_with fail
                go_ret2
                exact ⟨by rw [HN.out, ← ins_eq s n c hn]; rfl, (((Below.refl _ _).alloc (Nat.le_refl _) _).alloc (by simp) _).drew⟩
              · have HN := Lib.hid (applyV_none (s := s) (k := 1) (p := (n : Int)) (c := c) (applyL_none (by simp [insOk]; intros; omega) (by simp [delOk]) (by simp [repOk])))
                have i1 : (n : Int) ≤ (s.size : Int) := by omega
                have i2 : ¬ (s.size : Int) < 24 := by omega
                go_wp2_with fail
                refine (l3Text_spec _ _ hs').mono ?_
                rintro e w' ⟨rfl, rfl⟩
                rw [HT.out]
                go_wp2_with fail
                go_quiet (fail)
                go_wp2_with fail
                go_ret2
                exact ⟨by rw [HN.out]; rfl, below_drewN ((Below.refl _ _).alloc (Nat.le_refl _) _) _⟩
            · have HN := Lib.hid (applyV_none (s := s) (k := 1) (p := (n : Int)) (c := c) (applyL_none (by simp [insOk]; intros; omega) (by simp [delOk]) (by simp [repOk])))
              have i1 : ¬ (n : Int) ≤ (s.size : Int) := by omega
              go_wp2_with fail
              refine (l3Text_spec _ _ hs').mono ?_
              rintro e w' ⟨rfl, rfl⟩
              rw [HT.out]
              go_wp2_with fail
              go_quiet (fail)
              go_wp2_with fail
              go_ret2
              exact ⟨by rw [HN.out]; rfl, below_drewN ((Below.refl _ _).alloc (Nat.le_refl _) _) _⟩
        · cases hc : ((c.toNat : Int) == 0)
          · have HN := Lib.hid (applyV_none (s := s) (k := 2) (p := (n : Int)) (c := c) (applyL_none (by simp [insOk]) (by simp [delOk, c_not hc]) (by simp [repOk])))
            go_wp2_with fail
            refine (l3Text_spec _ _ hs').mono ?_
            rintro e w' ⟨rfl, rfl⟩
            rw [HT.out]
            go_wp2_with fail
            go_quiet (fail)
            go_wp2_with fail
            go_ret2
            exact ⟨by rw [HN.out]; rfl, below_drewN ((Below.refl _ _).alloc (Nat.le_refl _) _) _⟩
          · by_cases hn : n < s.size
            · have HN := Lib.hid (applyV_some (s := s) (k := 2) (p := (n : Int)) (c := c) (by rw [c_zero hc]; exact applyL_del HL.out (by rw [len_eq]; exact hl24) (by rw [len_eq]; exact hn)))
              have i1 : (n : Int) < (s.size : Int) := by omega
              go_wp2_with fail
              refine (l3Text_spec _ _ hs').mono ?_
              rintro e w' ⟨rfl, rfl⟩
              rw [HT.out]
              go_wp2_with fail
              go_quiet (fail)
              go_wp2_with fail
              go_ret2
              exact ⟨by rw [HN.out, ← del_eq s n hn]; rfl, below_drewN ((Below.refl _ _).alloc (Nat.le_refl _) _) _⟩
            · have HN := Lib.hid (applyV_none (s := s) (k := 2) (p := (n : Int)) (c := c) (applyL_none (by simp [insOk]) (by simp [delOk]; intros; omega) (by simp [repOk])))
              have i1 : ¬ (n : Int) < (s.size : Int) := by omega
              go_wp2_with fail
              refine (l3Text_spec _ _ hs').mono ?_
              rintro e w' ⟨rfl, rfl⟩
              rw [HT.out]
              go_wp2_with fail
              go_quiet (fail)
              go_wp2_with fail
              go_ret2
              exact ⟨by rw [HN.out]; rfl, below_drewN ((Below.refl _ _).alloc (Nat.le_refl _) _) _⟩
        · cases hc : smallB c
          · have HN := Lib.hid (applyV_none (s := s) (k := 3) (p := (n : Int)) (c := c) (applyL_none (by simp [insOk]) (by simp [delOk]) (by simp [repOk, hc])))
            clear hc0
            go_wp2_with fail
            refine (l3Text_spec _ _ hs').mono ?_
            rintro e w' ⟨rfl, rfl⟩
            rw [HT.out]
            go_wp2_with fail
            go_quiet (fail)
            go_wp2_with fail
            go_ret2
            exact ⟨by rw [HN.out]; rfl, below_drewN ((Below.refl _ _).alloc (Nat.le_refl _) _) _⟩
          · by_cases hn : n < s.size
            · have i1 : (n : Int) < (s.size : Int) := by omega
              cases hd : ((s[n].toNat : Int) == c.toNat)
              · have hd2 : ((s[n].toNat : Int) != c.toNat) = true := by unfold bne; rw [hd]; rfl
                have HN := Lib.hid (applyV_some (s := s) (k := 3) (p := (n : Int)) (c := c) (applyL_rep HL.out (by rw [len_eq]; exact hl24) hc (by rw [len_eq]; exact hn) (by rw [get_eq s n hn]; intro e; injection e with e; rw [e] at hd; simp at hd)))
                have i2 : (n : Int) + 1 ≤ (s.size : Int) := by omega
                have i3 : (0 : Int) ≤ (n : Int) + 1 := by omega
                have hw := IntWalk.i64_in ((n : Int) + 1) (by omega)
                go_wp2_with fail
                refine (l3Text_spec _ _ hs').mono ?_
                rintro e w' ⟨rfl, rfl⟩
                rw [HT.out]
                go_wp2_with fail
                go_quiet (fail)
                go_wp2_with fail
                have b1 : ((w.alloc (.cells #[.int .i64 3, .int .i64 (n : Int), .int .u8 (c.toNat : Int)] 24)).drewN nq).cell? ⟨w.heap.size, 1, none⟩ = some (.int .i64 (n : Int)) := World.cell?_alloc_at _ _ _ _ rfl
                have b2 : ((w.alloc (.cells #[.int .i64 3, .int .i64 (n : Int), .int .u8 (c.toNat : Int)] 24)).drewN nq).cell? ⟨w.heap.size, 2, none⟩ = some (.int .u8 (c.toNat : Int)) := World.cell?_alloc_at _ _ _ _ rfl
                have b3 := below_drewN ((Below.refl w.heap.size w).alloc (Nat.le_refl _) (.cells #[.int .i64 3, .int .i64 (n : Int), .int .u8 (c.toNat : Int)] 24)) nq
                have b4 : w.heap.size < ((w.alloc (.cells #[.int .i64 3, .int .i64 (n : Int), .int .u8 (c.toNat : Int)] 24)).drewN nq).heap.size := by show w.heap.size < (w.alloc _).heap.size; simp
                generalize (w.alloc (.cells #[.int .i64 3, .int .i64 (n : Int), .int .u8 (c.toNat : Int)] 24)).drewN nq = W at *
                have b5 : (W.alloc (.cells #[.int .u8 (c.toNat : Int)] 5)).drew.cell? ⟨w.heap.size, 1, none⟩ = some (.int .i64 (n : Int)) := (World.cell?_alloc_lt W _ _ b4).trans b1
                have b6 : (W.alloc (.cells #[.int .u8 (c.toNat : Int)] 5)).drew.cell? ⟨w.heap.size, 2, none⟩ = some (.int .u8 (c.toNat : Int)) := (World.cell?_alloc_lt W _ _ b4).trans b2
                have hcv := text_of_cell (W.alloc (.cells #[.int .u8 (c.toNat : Int)] 5)).drew W.heap.size c (World.cell?_alloc_at _ _ _ _ rfl)
                go_region
                go_wp2_with fail
                go_ret2
                exact ⟨by rw [HN.out, ← rep_eq s n c hn]; rfl, (b3.alloc b3.size _).drew⟩
              · have HN := Lib.hid (applyV_none (s := s) (k := 3) (p := (n : Int)) (c := c) (applyL_none (by simp [insOk]) (by simp [delOk]) (by unfold repOk; rw [show (decide (s.data.toList[((n : Int)).toNat]? ≠ some c)) = false by rw [Int.toNat_natCast, get_eq s n hn, u8_eq hd]; simp]; simp)))
                have hd2 : ((s[n].toNat : Int) != c.toNat) = false := by unfold bne; rw [hd]; rfl
                go_wp2_with fail
                refine (l3Text_spec _ _ hs').mono ?_
                rintro e w' ⟨rfl, rfl⟩
                rw [HT.out]
                go_wp2_with fail
                go_quiet (fail)
                go_wp2_with fail
                go_ret2
                exact ⟨by rw [HN.out]; rfl, below_drewN ((Below.refl _ _).alloc (Nat.le_refl _) _) _⟩
            · have HN := Lib.hid (applyV_none (s := s) (k := 3) (p := (n : Int)) (c := c) (applyL_none (by simp [insOk]) (by simp [delOk]) (by simp [repOk]; intros; omega)))
              have i1 : ¬ (n : Int) < (s.size : Int) := by omega
              have i3 : decide ((n : Int) < (s.size : Int)) = false := by simp; omega
              go_wp2_with fail
              refine (l3Text_spec _ _ hs').mono ?_
              rintro e w' ⟨rfl, rfl⟩
              rw [HT.out]
              go_wp2_with fail
              go_quiet (fail)
              go_wp2_with fail
              go_ret2
              exact ⟨by rw [HN.out]; rfl, below_drewN ((Below.refl _ _).alloc (Nat.le_refl _) _) _⟩
        · have HN := Lib.hid (applyV_none (s := s) (k := k) (p := (n : Int)) (c := c) (applyL_none (by simp [insOk, k1]) (by simp [delOk, k2]) (by simp [repOk, k3])))
          have j1 : ((k : Int) == 1) = false := by simp; exact k1
          have j2 : ((k : Int) == 2) = false := by simp; exact k2
          have j3 : ((k : Int) == 3) = false := by simp; exact k3
          clear k1 k2 k3
          go_wp2_with fail
          refine (l3Text_spec _ _ hs').mono ?_
          rintro e w' ⟨rfl, rfl⟩
          rw [HT.out]
          go_wp2_with fail
          go_quiet (fail)
          go_wp2_with fail
          go_ret2
          exact ⟨by rw [HN.out]; rfl, below_drewN ((Below.refl _ _).alloc (Nat.le_refl _) _) _⟩
end Go.Proofs.Ytmdmjhnjhelccaa
