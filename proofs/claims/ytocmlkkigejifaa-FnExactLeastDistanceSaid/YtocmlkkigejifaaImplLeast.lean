/- Contract of the program's LeastDistance: how many more of each letter. -/
import Derived.Test.YtocmlkkigejifaaArr
import Derived.Test.YtocmlkkigejifaaLwLeast
namespace Go.Proofs.Ytocmlkkigejifaa
open Go.RowKit
set_option maxHeartbeats 1600000
set_option linter.unusedSimpArgs false
set_option linter.unusedVariables false

theorem abc_info : (Try.prog.info? 47).map (fun i => (i.zero, i.size)) = some (some (.agg (Array.replicate 26 (.int .i64 0))), 26) := by kernel_rfl

/-- the numbers of the 26 letters -/
def abc (f : Nat → Int) : Array Value := ((List.range 26).map fun j => Value.int .i64 (f j)).toArray
theorem abc_size (f : Nat → Int) : (abc f).size = 26 := by simp [abc]
theorem abc_get (f : Nat → Int) {j : Nat} (h : j < 26) : (abc f)[j]? = some (.int .i64 (f j)) := by simp [abc, h]
theorem abc_congr {f g : Nat → Int} (h : ∀ j, j < 26 → f j = g j) : abc f = abc g := by
  unfold abc
  congr 1
  apply List.map_congr_left
  intro j hj
  rw [h j (List.mem_range.1 hj)]
theorem abc_set (f : Nat → Int) (k : Nat) (v : Int) : (abc f).setIfInBounds k (.int .i64 v) = abc (fun j => if j = k then v else f j) := by
  apply Array.ext_getElem?
  intro j
  rw [Array.getElem?_setIfInBounds]
  by_cases hj : j < 26
  · rw [abc_get _ hj, abc_get _ hj]
    by_cases e : k = j
    · subst e; simp [abc_size, hj]
    · simp [e, Ne.symm e]
  · have h1 : (abc f)[j]? = none := Array.getElem?_eq_none (by rw [abc_size]; omega)
    have h2 : (abc fun j => if j = k then v else f j)[j]? = none := Array.getElem?_eq_none (by rw [abc_size]; omega)
    rw [h1, h2]
    by_cases e : k = j
    · subst e; simp [abc_size, hj]
    · simp [e]
/-- block g, which the call owns from base on, holds the numbers of the 26 letters -/
def OwnL (w : World) (base g : Nat) (f : Nat → Int) : Prop := base ≤ g ∧ w.heap[g]? = some (.cells (abc f) 47 (0, 0))
section
variable {w w' : World} {base g : Nat} {f : Nat → Int}
theorem OwnL.lt (h : OwnL w base g f) : base ≤ g ∧ g < w.heap.size := ⟨h.1, (Array.getElem?_eq_some_iff.1 h.2).1⟩
theorem OwnL.block (h : OwnL w base g f) (hk : w'.heap[g]? = w.heap[g]?) : OwnL w' base g f := ⟨h.1, hk.trans h.2⟩
theorem OwnL.below (h : OwnL w base g f) (hb : Below w.heap.size w w') : OwnL w' base g f := h.block (hb.block g h.lt.2)
theorem OwnL.drawn (h : OwnL w base g f) (hd : Drawn w w') : OwnL w' base g f := h.below hd.below
theorem OwnL.congr {f' : Nat → Int} (h : OwnL w base g f) (e : ∀ j, j < 26 → f j = f' j) : OwnL w base g f' := ⟨h.1, by rw [← abc_congr e]; exact h.2⟩
theorem OwnL.at_ {k : Nat} (h : OwnL w base g f) (hk : k < 26) : w.cell? ⟨g, k, none⟩ = some (.int .i64 (f k)) := by
  rw [cell_of_row w g k _ _ _ h.2, abc_get f hk]
theorem OwnL.frozen (h : OwnL w base g f) (k : Nat) : w.frozen? ⟨g, k, none⟩ = false := frozen_of_row w g k _ _ h.2
theorem OwnL.stored (h : OwnL w base g f) (k : Nat) (v : Int) : OwnL (w.setCell ⟨g, k, none⟩ (.int .i64 v)) base g (fun j => if j = k then v else f j) :=
  ⟨h.1, by rw [heap_setCell_same w g k _ _ _ h.2, abc_set]⟩
theorem OwnL.zero (w : World) : OwnL (w.alloc (.cells #[.int .i64 0, .int .i64 0, .int .i64 0, .int .i64 0, .int .i64 0, .int .i64 0, .int .i64 0, .int .i64 0, .int .i64 0, .int .i64 0, .int .i64 0, .int .i64 0, .int .i64 0, .int .i64 0, .int .i64 0, .int .i64 0, .int .i64 0, .int .i64 0, .int .i64 0, .int .i64 0, .int .i64 0, .int .i64 0, .int .i64 0, .int .i64 0, .int .i64 0, .int .i64 0] 47)) w.heap.size w.heap.size (fun _ => 0) := ⟨Nat.le_refl _, heap_alloc_new w _⟩
theorem OwnL.load (h : OwnL w base g f) : (Instr.loadAt 47 (.pointer (some ⟨g, 0, none⟩))).run Try.prog w = .ok (.agg (abc f)) w := by
  simp only [Instr.loadAt, Instr.sureAddr, Sem.run_bind, Sem.run_pure, Result.andThen]
  exact run_loadVar_row w g _ _ _ _ _ h.2 Try.underlying47 rfl (by rw [abc_size]; exact (zero_of_info abc_info).2)
end
theorem wp_load_abc {ops : Array Oper} {rest : List Oper} {o : Oper} {a : Act} {w : World} {Q : Exit → Act → World → Prop} (hgd : o.guard = none) (x : Operand) (ho : o.op = .load 47 x)
    (base g : Nat) (f : Nat → Int) (hx : a.eval x = .pointer (some ⟨g, 0, none⟩)) (h : OwnL w base g f) (hk : wpList Try.prog ops Q rest (a.put o.dst (.agg (abc f))) w) : wpList Try.prog ops Q (o :: rest) a w := by
  refine wpList_plain hgd fun K hK => ?_
  unfold Oper.wp execOp
  simp only [ho, hx, Sem.run_bind, h.load, Result.andThen_ok]
  exact hK _ _ hk

theorem index_abc {cs : Array Value} {p : Nat} {v : Int} (h : cs[p]? = some (.int .i64 v)) (hp : p < 26) (w : World) : (Instr.index 47 (.agg cs) (.int .i64 (p : Int))).run Try.prog w = .ok (.int .i64 v) w := by
  have h2 : (0 : Int) ≤ (p : Int) ∧ (p : Int) < 26 := by omega
  simp [Instr.index, asIntOf, go_sem, Try.underlying47, h, h2]
  omega

/-- how many of letter i are among the first k of a -/
def howN (a : ByteArray) (k i : Nat) : Nat := (a.data.toList.take k).count (letterN i)
theorem howN_le (a : ByteArray) (k i : Nat) : howN a k i ≤ k := by
  have h1 := List.count_le_length (l := a.data.toList.take k) (a := letterN i)
  have h2 := List.length_take_le k a.data.toList
  unfold howN
  omega
theorem howN_next {a : ByteArray} {k : Nat} (hk : k < a.size) {i : Nat} (hi : i < 26) {p : Nat} (hp : a[k].toNat = 97 + p) : howN a (k + 1) i = howN a k i + (if i = p then 1 else 0) := by
  unfold howN
  rw [count_next a k hk, letterN_nat hi, hp]
  congr 1
  by_cases h : i = p
  · subst h; simp
  · rw [if_neg (by omega), if_neg h]
theorem howN_all (a : ByteArray) (i : Nat) : howN a a.size i = a.data.toList.count (letterN i) := by
  unfold howN
  rw [List.take_of_length_le (by rw [len_eq]; exact Nat.le_refl _)]
theorem letter_at {a : ByteArray} (h : wordB a.data.toList = true) {k : Nat} (hk : k < a.size) : ∃ p : Nat, p < 26 ∧ a[k].toNat = 97 + p := by
  have := word_letters h a[k] (by
    rw [show a[k] = a.data.toList[k]'(by rw [len_eq]; exact hk) from rfl]
    exact List.getElem_mem _)
  exact ⟨a[k].toNat - 97, by omega, by omega⟩

theorem leastDistance_impl : LeastC := by
  intro a b w ha hb
  have ha' := ha
  have hb' := hb
  unfold maxLen at ha hb
  cases hva : wordB a.data.toList
  · have HN := Lib.hid (twoI_no (f := fun x y => (leastD x y : Int)) (a := a.data.toList) (b := b.data.toList) (by rw [hva]; rfl))
    have HA := Lib.hid hva
    clear hva
    go_enter Try.func20, Try.ntmps20
    go_wp2_with fail
    refine (wordValid_impl _ _ ha').mono ?_
    rintro e w' ⟨rfl, rfl⟩
    rw [HA.out]
    go_wp2_with fail
    go_ret
    exact ⟨ret_int HN.out.symm, Below.refl _ _⟩
  · cases hvb : wordB b.data.toList
    · have HN := Lib.hid (twoI_no (f := fun x y => (leastD x y : Int)) (a := a.data.toList) (b := b.data.toList) (by rw [hva, hvb]; rfl))
      have HA := Lib.hid hva
      have HB := Lib.hid hvb
      clear hva hvb
      go_enter Try.func20, Try.ntmps20
      go_wp2_with fail
      refine (wordValid_impl _ _ ha').mono ?_
      rintro e w' ⟨rfl, rfl⟩
      rw [HA.out]
      go_wp2_with fail
      refine (wordValid_impl _ _ hb').mono ?_
      rintro e w' ⟨rfl, rfl⟩
      rw [HB.out]
      go_wp2_with fail
      go_ret
      exact ⟨ret_int HN.out.symm, Below.refl _ _⟩
    · have HN := Lib.hid (twoI_yes (f := fun x y => (leastD x y : Int)) (a := a.data.toList) (b := b.data.toList) (by rw [hva, hvb]; rfl))
      have ha2 := word_size hva
      have hb2 := word_size hvb
      have HA := Lib.hid hva
      have HB := Lib.hid hvb
      clear hva hvb
      go_enter Try.func20, Try.ntmps20
      go_wp2_with fail
      refine (wordValid_impl _ _ ha').mono ?_
      rintro e w' ⟨rfl, rfl⟩
      rw [HA.out]
      go_wp2_with fail
      refine (wordValid_impl _ _ hb').mono ?_
      rintro e w' ⟨rfl, rfl⟩
      rw [HB.out]
      go_wp2_with fail
      go_loopw [22] (fun i wr => ∃ k : Nat, k ≤ a.size ∧ i = .int .i64 k ∧ OwnL wr w.heap.size w.heap.size (fun i => (howN a k i : Int)) ∧ Below w.heap.size w wr) (fun i _ => a.size - (intOf i).toNat)
      case atStart => exact ⟨0, Nat.zero_le _, rfl, (OwnL.zero w).congr (fun j _ => by simp [howN]), (Below.refl _ _).alloc (Nat.le_refl _) _⟩
      case round =>
        obtain ⟨k, hk, rfl, hown, hbel⟩ := hrel
        by_cases hlt : k < a.size
        · obtain ⟨p, hp, hap⟩ := letter_at HA.out hlt
          have hc := hown.at_ hp
          have hfr := hown.frozen p
          have hN1 := howN_le a k p
          have HH := Lib.hid (fun i (hi : i < 26) => howN_next hlt hi hap)
          have HO := Lib.hid hown
          clear hown
          obtain ⟨y, hy⟩ : ∃ y, y = howN a k p := ⟨_, rfl⟩
          have HY := Lib.hid hy
          rw [← hy] at hc hN1
          have hx : (a[k].toNat : Int) = 97 + (p : Int) := by omega
          have hk0 : (0 : Int) ≤ (k : Int) := by omega
          have hk1 : (k : Int) < (a.size : Int) := by omega
          have hp0 : (0 : Int) ≤ (p : Int) := by omega
          have hp1 : (p : Int) < 26 := by omega
          have hw0 : IntKind.u8.wrap (97 + (p : Int) - 97) = (p : Int) := by rw [IntWalk.u8_in _ (by omega)]; omega
          clear hy
          go_wp2_with fail
          go_roundw
          case rel =>
            refine ⟨k + 1, by omega, by go_num, (HO.out.stored p ((y : Int) + 1)).congr (fun j hj => ?_), hbel.setCell (by simp) _⟩
            show (if j = p then (y : Int) + 1 else _) = _
            rw [HH.out j hj]
            by_cases h : j = p
            · subst h; rw [if_pos rfl, if_pos rfl, HY.out]; omega
            · rw [if_neg h, if_neg h]; omega
          case measure => simp [intOf]; omega
        · obtain rfl : k = a.size := by omega
          go_wp2_with fail
          go_loopw [36] (fun i wr => ∃ k : Nat, k ≤ b.size ∧ i = .int .i64 k ∧ OwnL wr w.heap.size w.heap.size (fun i => (howN a a.size i : Int) - (howN b k i : Int)) ∧ Below w.heap.size w wr) (fun i _ => b.size - (intOf i).toNat)
          case atStart => exact ⟨0, Nat.zero_le _, rfl, hown.congr (fun j _ => by simp [howN]), hbel⟩
          case round =>
            clear hown hbel
            obtain ⟨k, hk, rfl, hown, hbel⟩ := hrel
            by_cases hlt : k < b.size
            · obtain ⟨p, hp, hap⟩ := letter_at HB.out hlt
              have hc := hown.at_ hp
              have hfr := hown.frozen p
              have hN1 := howN_le b k p
              have hN2 := howN_le a a.size p
              have HH := Lib.hid (fun i (hi : i < 26) => howN_next hlt hi hap)
              have HO := Lib.hid hown
              clear hown
              obtain ⟨y, hy⟩ : ∃ y : Int, y = (howN a a.size p : Int) - (howN b k p : Int) := ⟨_, rfl⟩
              have HY := Lib.hid hy
              have hy1 : y ≤ 12 := by omega
              have hy2 : -12 ≤ y := by omega
              rw [← hy] at hc
              have hx : (b[k].toNat : Int) = 97 + (p : Int) := by omega
              have hk0 : (0 : Int) ≤ (k : Int) := by omega
              have hk1 : (k : Int) < (b.size : Int) := by omega
              have hp0 : (0 : Int) ≤ (p : Int) := by omega
              have hp1 : (p : Int) < 26 := by omega
              have hw0 : IntKind.u8.wrap (97 + (p : Int) - 97) = (p : Int) := by rw [IntWalk.u8_in _ (by omega)]; omega
              clear hy hN1 hN2
              go_wp2_with fail
              go_roundw
              case rel =>
                refine ⟨k + 1, by omega, by go_num, (HO.out.stored p (y - 1)).congr (fun j hj => ?_), hbel.setCell (by simp) _⟩
                show (if j = p then y - 1 else _) = _
                rw [HH.out j hj]
                by_cases h : j = p
                · subst h; rw [if_pos rfl, if_pos rfl, HY.out]; omega
                · rw [if_neg h, if_neg h]; omega
              case measure => simp [intOf]; omega
            · obtain rfl : k = b.size := by omega
              go_wp2_with (with_reducible refine wp_load_abc rfl (.tmp 5) rfl _ _ _ rfl hown ?_)
              go_loopw [8, 9, 49] (fun x y i wr => ∃ p : Nat, p ≤ 26 ∧ x = .int .i64 (moreN a.data.toList b.data.toList p : Int) ∧ y = .int .i64 (moreN b.data.toList a.data.toList p : Int) ∧ i = .int .i64 p ∧ Below w.heap.size w wr) (fun _ _ i _ => 26 - (intOf i).toNat)
              case atStart => exact ⟨0, Nat.zero_le _, rfl, rfl, rfl, hbel⟩
              case round =>
                clear hown hbel
                obtain ⟨p, hp, rfl, rfl, rfl, hbel⟩ := hrel
                by_cases hlt : p < 26
                · have hg := abc_get (fun i => (howN a a.size i : Int) - (howN b b.size i : Int)) hlt
                  have hN1 := howN_le b b.size p
                  have hN2 := howN_le a a.size p
                  have hm1 := moreN_bound a.data.toList b.data.toList p
                  have hm2 := moreN_bound b.data.toList a.data.toList p
                  rw [len_eq] at hm1 hm2
                  have hm3 := Nat.mul_le_mul (show p ≤ 26 by omega) ha2
                  have hm4 := Nat.mul_le_mul (show p ≤ 26 by omega) hb2
                  have hM1 : moreN a.data.toList b.data.toList p ≤ 312 := by omega
                  have hM2 : moreN b.data.toList a.data.toList p ≤ 312 := by omega
                  have HS1 := Lib.hid (show moreN a.data.toList b.data.toList (p + 1) = moreN a.data.toList b.data.toList p + (howN a a.size p - howN b b.size p) by rw [howN_all, howN_all]; rfl)
                  have HS2 := Lib.hid (show moreN b.data.toList a.data.toList (p + 1) = moreN b.data.toList a.data.toList p + (howN b b.size p - howN a a.size p) by rw [howN_all, howN_all]; rfl)
                  generalize moreN a.data.toList b.data.toList p = M1 at hM1 HS1
                  generalize moreN b.data.toList a.data.toList p = M2 at hM2 HS2
                  generalize abc (fun i => (howN a a.size i : Int) - (howN b b.size i : Int)) = AB at hg ⊢
                  obtain ⟨y, hy⟩ : ∃ y : Int, y = (howN a a.size p : Int) - (howN b b.size p : Int) := ⟨_, rfl⟩
                  have HY := Lib.hid hy
                  have hy1 : y ≤ 12 := by omega
                  have hy2 : -12 ≤ y := by omega
                  rw [← hy] at hg
                  have hix := fun W => index_abc hg hlt W
                  have hp1 : (p : Int) < 26 := by omega
                  clear hg
                  clear hm1 hm2 hm3 hm4 hN1 hN2 hy
                  by_cases hpos : (0 : Int) < y
                  · have hneg : ¬ (0 : Int) < -y := by omega
                    have F1 := Lib.hid (show ((moreN a.data.toList b.data.toList (p + 1) : Nat) : Int) = (M1 : Int) + y by have h1 := HS1.out; have h2 := HY.out; omega)
                    have F2 := Lib.hid (show ((moreN b.data.toList a.data.toList (p + 1) : Nat) : Int) = (M2 : Int) by have h1 := HS2.out; have h2 := HY.out; omega)
                    clear HS1 HS2 HY
                    go_wp2_with fail
                    go_roundw
                    case rel => exact ⟨p + 1, by omega, by rw [F1.out], by rw [F2.out], by go_num, hbel⟩
                    case measure => simp [intOf]; omega
                  · by_cases hneg : (0 : Int) < -y
                    · have F1 := Lib.hid (show ((moreN a.data.toList b.data.toList (p + 1) : Nat) : Int) = (M1 : Int) by have h1 := HS1.out; have h2 := HY.out; omega)
                      have F2 := Lib.hid (show ((moreN b.data.toList a.data.toList (p + 1) : Nat) : Int) = (M2 : Int) + -y by have h1 := HS2.out; have h2 := HY.out; omega)
                      clear HS1 HS2 HY
                      go_wp2_with fail
                      go_roundw
                      case rel => exact ⟨p + 1, by omega, by rw [F1.out], by rw [F2.out], by go_num, hbel⟩
                      case measure => simp [intOf]; omega
                    · have F1 := Lib.hid (show ((moreN a.data.toList b.data.toList (p + 1) : Nat) : Int) = (M1 : Int) by have h1 := HS1.out; have h2 := HY.out; omega)
                      have F2 := Lib.hid (show ((moreN b.data.toList a.data.toList (p + 1) : Nat) : Int) = (M2 : Int) by have h1 := HS2.out; have h2 := HY.out; omega)
                      clear HS1 HS2 HY
                      go_wp2_with fail
                      go_roundw
                      case rel => exact ⟨p + 1, by omega, by rw [F1.out], by rw [F2.out], by go_num, hbel⟩
                      case measure => simp [intOf]; omega
                · obtain rfl : p = 26 := by omega
                  have hm1 := moreN_bound a.data.toList b.data.toList 26
                  have hm2 := moreN_bound b.data.toList a.data.toList 26
                  rw [len_eq] at hm1 hm2
                  have HF : Hid (((leastD a.data.toList b.data.toList : Nat) : Int) = ((max (moreN a.data.toList b.data.toList 26) (moreN b.data.toList a.data.toList 26) : Nat) : Int)) := rfl
                  generalize moreN a.data.toList b.data.toList 26 = M1 at hm1 HF ⊢
                  generalize moreN b.data.toList a.data.toList 26 = M2 at hm2 HF ⊢
                  by_cases hmm : (M1 : Int) < (M2 : Int)
                  · go_wp2_with fail
                    go_ret
                    exact ⟨ret_int (by rw [HN.out, HF.out]; omega), hbel⟩
                  · go_wp2_with fail
                    go_ret
                    exact ⟨ret_int (by rw [HN.out, HF.out]; omega), hbel⟩
end Go.Proofs.Ytocmlkkigejifaa
