/- Contracts of the laws' helpers szEditS, toEditS; the walk of FnExactApplyScript over a contract. -/
import Derived.Test.YtmdmjhnjhelccaaMarkEd
import Derived.Test.YtmdmjhnjhelccaaScrSpec
namespace Go.Proofs.Ytmdmjhnjhelccaa
open Go.RowKit
set_option maxHeartbeats 1600000
set_option linter.unusedSimpArgs false
set_option linter.unusedVariables false

theorem szEditS_any (A : Option Addr) (n c : Nat) (k : Int) (w : World) (hn : n ≤ maxLen) (h0 : 0 ≤ k) (h1 : k ≤ 1048576) :
    Calls Try.prog 29 #[.slice A n c, .int .i64 k] w fun e w' => ∃ r : Int, e = .returned (.int .i64 r) ∧ w' = w ∧ (0 ≤ r → (n : Int) ≤ k) := by
  unfold maxLen at hn
  by_cases h : k - n < 0
  · go_enter Try.func29, Try.ntmps29
    go_wp2_with fail
    go_ret
    exact ⟨_, rfl, rfl, by omega⟩
  · go_enter Try.func29, Try.ntmps29
    go_wp2_with fail
    go_ret
    exact ⟨_, rfl, rfl, by omega⟩
/-- the three cells of a change, stored -/
theorem rowCells_set {l : List Chg} {j : Nat} (e : Chg) (h : j < l.length) : (((rowCells l).set (j * 3) (.int .i64 e.k)).set (j * 3 + 1) (.int .i64 e.p)).set (j * 3 + 2) (.int .u8 (e.c.toNat : Int)) = rowCells (l.set j e) := by
  have e1 : l = l.take j ++ (l[j] :: l.drop (j + 1)) := by rw [← List.drop_eq_getElem_cons h, List.take_append_drop]
  have e2 : l.set j e = l.take j ++ (e :: l.drop (j + 1)) := by rw [List.set_eq_take_append_cons_drop, if_pos h]
  have e3 : (rowCells (l.take j)).length = j * 3 := by rw [rowCells_len, List.length_take]; congr 1; omega
  have e4 : rowCells (l[j] :: l.drop (j + 1)) = .int .i64 l[j].k :: .int .i64 l[j].p :: .int .u8 (l[j].c.toNat : Int) :: rowCells (l.drop (j + 1)) := rfl
  have e5 : rowCells (e :: l.drop (j + 1)) = .int .i64 e.k :: .int .i64 e.p :: .int .u8 (e.c.toNat : Int) :: rowCells (l.drop (j + 1)) := rfl
  have e6 : rowCells l = rowCells (l.take j) ++ rowCells (l[j] :: l.drop (j + 1)) := by rw [← rowCells_append, ← e1]
  rw [e6, e2, rowCells_append, e4, e5, List.set_append_right _ _ (by omega), List.set_append_right _ _ (by omega), List.set_append_right _ _ (by omega), e3]
  rw [show j * 3 - j * 3 = 0 by omega, show j * 3 + 1 - j * 3 = 1 by omega, show j * 3 + 2 - j * 3 = 2 by omega]
  rfl
def noChg : Chg := ⟨0, 0, 0⟩
theorem toList_made3 (n : Nat) : (madeCells (Value.agg #[.int .i64 0, .int .i64 0, .int .u8 0]).cells (n * 3)).toList = rowCells (List.replicate n noChg) := by
  have e0 : (Value.agg #[.int .i64 0, .int .i64 0, .int .u8 0]).cells = #[.int .i64 0, .int .i64 0, .int .u8 0] := by rfl
  rw [e0]
  apply List.ext_getElem?
  intro i
  by_cases hi : i < n * 3
  · have hq : (List.replicate n noChg)[i / 3]? = some noChg := by rw [List.getElem?_replicate, if_pos (by omega)]
    obtain ⟨a, b, c⟩ := rowCells_get _ _ _ hq
    have hL : (madeCells #[.int .i64 0, .int .i64 0, .int .u8 0] (n * 3)).toList[i]? = some (#[Value.int .i64 0, .int .i64 0, .int .u8 0][i % 3]!) := by simp [madeCells, hi]
    rw [hL]
    rcases (show i % 3 = 0 ∨ i % 3 = 1 ∨ i % 3 = 2 by omega) with h | h | h
    · rw [h]; rw [show i / 3 * 3 = i by omega] at a; rw [a]; rfl
    · rw [h]; rw [show i / 3 * 3 + 1 = i by omega] at b; rw [b]; rfl
    · rw [h]; rw [show i / 3 * 3 + 2 = i by omega] at c; rw [c]; rfl
  · rw [List.getElem?_eq_none (by rw [Array.length_toList, size_madeCells]; omega), List.getElem?_eq_none (by rw [rowCells_len, List.length_replicate]; omega)]
/-- what toEditS has copied behind k rounds -/
def copiedE (l : List Chg) (n k : Nat) : List Chg := l.take k ++ List.replicate (n - k) noChg
theorem copiedE_zero (l : List Chg) (n : Nat) : copiedE l n 0 = List.replicate n noChg := by simp [copiedE]
theorem copiedE_all {l : List Chg} {n : Nat} (h : l.length = n) : copiedE l n n = l := by subst h; simp [copiedE]
theorem copiedE_set {l : List Chg} {n k : Nat} {e : Chg} (hn : l.length = n) (he : l[k]? = some e) : (copiedE l n k).set k e = copiedE l n (k + 1) := by
  obtain ⟨hk, h2⟩ := List.getElem?_eq_some_iff.1 he
  unfold copiedE
  have e1 : (l.take k).length = k := by simp; omega
  have e2 : n - k = (n - (k + 1)) + 1 := by omega
  rw [List.set_append_right _ _ (by omega), e1, Nat.sub_self, e2, List.replicate_succ, List.set_cons_zero, List.take_succ_eq_append_getElem hk, h2]
  simp
theorem toEditS_any (A : Option Addr) (n c B : Nat) (l : List Chg) (w : World) (hn : n ≤ 1048576) (h : Chgs w B A n l) (hB : B ≤ w.heap.size) :
    Calls Try.prog 30 #[.slice A n c] w fun e w' => ∃ g cap, e = .returned (.slice (some ⟨g, 0, none⟩) n cap) ∧ OwnE w' w.heap.size g n cap l ∧ Below w.heap.size w w' := by
  obtain ⟨i0, hi0, hz0, hz1, hz2⟩ := info_parts chg_info
  go_enter Try.func30, Try.ntmps30
  go_wp2_with (at_make; refine wpList_make_full _ rfl (.tmp 6) (.tmp 6) _ rfl w.heap.size 24 i0 _ 3 Try.underlying35 hi0 hz0 hz1 .i64 .i64 _ _ n rfl rfl rfl rfl (by rw [hz2]; omega) (by unfold maxLen; omega) (Nat.le_refl _) ?_; intro w1 hown hg)
  have hb1 : Below w.heap.size w w1 := (Below.refl _ _).grown hg (Nat.le_refl _) (by simp)
  have hz : w.heap.size < w1.heap.size := (hown.lt w.heap.size rfl).2
  rw [toList_made3, ← copiedE_zero l n] at hown
  have h1 : Chgs w1 B A n l := h.step hb1 hB
  go_wp2_with fail
  go_loopw [4] (fun i wr => ∃ k : Nat, k ≤ n ∧ i = .int .i64 k ∧ OwnE wr w.heap.size w.heap.size n n (copiedE l n k) ∧ Below w.heap.size w wr) (fun i _ => n - (intOf i).toNat)
  case atStart => exact ⟨0, Nat.zero_le _, rfl, hown, hb1⟩
  case round =>
    obtain ⟨k, hk, rfl, hownk, hbk⟩ := hrel
    by_cases hlt : k < n
    · have hr := h.step hbk hB
      obtain ⟨b, o, d, hA, hbB, hd, x0, x1, x2⟩ := hr.at_ hlt
      have hrl := hr.len
      subst hA
      obtain ⟨dk, dp, dc⟩ := d
      simp only at x0 x1 x2
      have HC := Lib.hid (fun W : World => toEdit_any dk dp (dc.toNat : Int) W)
      have i0 : (0 : Int) ≤ (k : Int) := by omega
      have i1 : (k : Int) < (n : Int) := by omega
      have hbz := hbk.size
      clear hr
      go_wp2_with fail
      refine (HC.out _).mono ?_
      rintro e w2 ⟨rfl, hb2⟩
      have hbel := below_step hbk (Nat.le_refl _) hb2
      have hset := rowCells_set (l := copiedE l n k) (j := k) ⟨dk, dp, dc⟩ (by rw [hownk.len]; exact hlt)
      rw [copiedE_set h.len hd] at hset
      have hlen : (rowCells (copiedE l n k)).length = n * 3 := by rw [rowCells_len, hownk.len]
      have own0 : w2.ownsRow w.heap.size 24 3 (.slice (some ⟨w.heap.size, 0, none⟩) n n) n (rowCells (copiedE l n k)) := hownk.below hb2
      generalize rowCells (copiedE l n k) = row at own0 hset hlen
      obtain ⟨v0, hv0⟩ : ∃ v, w2.cell? ⟨w.heap.size, k * 3, none⟩ = some v := by
        rw [own0.cellAt _ (by omega)]; exact ⟨_, List.getElem?_eq_getElem (by omega)⟩
      have hf0 := own0.frozenAt (k * 3)
      obtain ⟨own1, -⟩ := own0.stored (k * 3) (.int .i64 dk)
      obtain ⟨v1, hv1⟩ : ∃ v, (w2.setCell ⟨w.heap.size, k * 3, none⟩ (.int .i64 dk)).cell? ⟨w.heap.size, k * 3 + 1, none⟩ = some v := by
        rw [own1.cellAt _ (by omega)]; exact ⟨_, List.getElem?_eq_getElem (by rw [List.length_set]; omega)⟩
      have hf1 := own1.frozenAt (k * 3 + 1)
      obtain ⟨own2, -⟩ := own1.stored (k * 3 + 1) (.int .i64 dp)
      obtain ⟨v2, hv2⟩ : ∃ v, ((w2.setCell ⟨w.heap.size, k * 3, none⟩ (.int .i64 dk)).setCell ⟨w.heap.size, k * 3 + 1, none⟩ (.int .i64 dp)).cell? ⟨w.heap.size, k * 3 + 2, none⟩ = some v := by
        rw [own2.cellAt _ (by omega)]; exact ⟨_, List.getElem?_eq_getElem (by rw [List.length_set, List.length_set]; omega)⟩
      have hf2 := own2.frozenAt (k * 3 + 2)
      obtain ⟨own3, -⟩ := own2.stored (k * 3 + 2) (.int .u8 (dc.toNat : Int))
      simp only at hset
      rw [hset] at own3
      have hbel : Below w.heap.size w (w2.setCell ⟨w.heap.size, k * 3, none⟩ (.int .i64 dk)) := hbel.setCell (Nat.le_refl _) _
      have hbel : Below w.heap.size w ((w2.setCell ⟨w.heap.size, k * 3, none⟩ (.int .i64 dk)).setCell ⟨w.heap.size, k * 3 + 1, none⟩ (.int .i64 dp)) := hbel.setCell (Nat.le_refl _) _
      have hbel : Below w.heap.size w (((w2.setCell ⟨w.heap.size, k * 3, none⟩ (.int .i64 dk)).setCell ⟨w.heap.size, k * 3 + 1, none⟩ (.int .i64 dp)).setCell ⟨w.heap.size, k * 3 + 2, none⟩ (.int .u8 (dc.toNat : Int))) := hbel.setCell (Nat.le_refl _) _
      have HO := Lib.hid (show OwnE _ w.heap.size w.heap.size n n (copiedE l n (k + 1)) from own3)
      have HG := Lib.hid hbel
      clear hset hlen own0 own1 own2 own3 hbel hownk row
      go_wp2_with fail
      go_roundw
      case rel => exact ⟨k + 1, by omega, by go_num, HO.out, HG.out⟩
      case measure => simp [intOf]; omega
    · obtain rfl : k = n := by omega
      rw [copiedE_all h.len] at hownk
      go_wp2_with fail
      go_ret
      exact ⟨_, _, rfl, hownk, hbk⟩

theorem scriptV_shape (s : ByteArray) (l : List Chg) : ∃ (x : ByteArray) (b : Bool), scriptV s l = .tuple #[.string x, .bool b] := ⟨_, _, rfl⟩
theorem applyScript_spec_is {s : ByteArray} {l : List Chg} {v : Value} (hv : scriptV s l = v) {A : Option Addr} {n c B : Nat} (w : World) (hs : s.size ≤ maxLen) (hn : n ≤ maxLen) (hl : Chgs w B A n l) (hB : B ≤ w.heap.size) :
    Calls Try.prog 21 #[.string s, .slice A n c] w fun e w' => e = .returned v ∧ Below w.heap.size w w' := hv ▸ applyScript_spec s A n c B l w hs hn hl hB
theorem PlayC.is' (h : PlayC) {s : ByteArray} {l : List Chg} {v : Value} (hv : scriptV s l = v) {A : Option Addr} {n c B : Nat} (w : World) (hs : s.size ≤ maxLen) (hn : n ≤ maxLen) (hl : Chgs w B A n l) (hB : B ≤ w.heap.size) :
    Calls Try.prog 20 #[.string s, .slice A n c] w fun e w' => e = .returned v ∧ Below w.heap.size w w' := hv ▸ h s A n c B l w hs hn hl hB
theorem walkFnExactApplyScript (HP : PlayC) (s : ByteArray) (A : Option Addr) (n c : Nat) (l : List Chg) (w : World) (hs : s.size ≤ maxLen) (hn : n ≤ maxLen) (h : Chgs w w.heap.size A n l) :
    Calls Try.prog 9 #[.string s, .slice A n c] w fun e w' => e = .returned (.bool true) ∧ Below w.heap.size w w' := by
  have HP := Lib.hid HP
  have hs' := hs
  have hn' := hn
  unfold maxLen at hs hn
  by_cases h1 : (1048576 : Int) < s.size
  · go_enter Try.func9, Try.ntmps9
    go_wp2_with fail
    go_ret
    exact ⟨rfl, Below.refl _ _⟩
  · go_enter Try.func9, Try.ntmps9
    go_wp2_with fail
    refine (szEditS_any _ _ _ _ _ hn' (by omega) (by omega)).mono ?_
    rintro e w' ⟨r, rfl, rfl, hr⟩
    by_cases hneg : r < 0
    · clear hr
      go_wp2_with fail
      go_ret
      exact ⟨rfl, Below.refl _ _⟩
    · have hn1 : n ≤ 1048576 := by have := hr (by omega); omega
      clear hr
      obtain ⟨x, b, hv⟩ := scriptV_shape s l
      have HV := Lib.hid hv
      clear hv
      have hq1 : (x.toList != x.toList) = false := by unfold bne; simp
      have hq2 : (b != b) = false := by simp
      go_wp2_with fail
      refine (toEditS_any _ _ _ _ l _ hn1 h (Nat.le_refl _)).mono ?_
      rintro e wa ⟨g1, c1, rfl, o1, B1⟩
      have h := h.below B1
      have z1 := B1.size
      have H1 := o1.chgs
      go_wp2_with fail
      refine (applyScript_spec_is HV.out _ hs' hn' H1 (Nat.le_refl _)).mono ?_
      rintro e wb ⟨rfl, hb2⟩
      have h := h.below (hb2.mono z1)
      have B2 := below_step B1 (Nat.le_refl _) hb2
      clear B1 hb2 H1 o1
      go_wp2_with fail
      have z2 := B2.size
      refine (toEditS_any _ _ _ _ l _ hn1 h (by omega)).mono ?_
      rintro e wc ⟨gx, cx, rfl, ox, hb3⟩
      have h := h.below (hb3.mono z2)
      have B3 := below_step B2 (Nat.le_refl _) hb3
      have hx := ox.chgs
      clear B2 hb3
      go_wp2_with fail
      refine (HP.out.is' HV.out _ hs' hn' hx (Nat.le_refl _)).mono ?_
      rintro e wd ⟨rfl, hb4⟩
      have z3 := B3.size
      have h := h.below (hb4.mono z3)
      have ox := ox.below hb4
      have B4 := below_step B3 (Nat.le_refl _) hb4
      clear B3 hb4 hx
      go_wp2_with fail
      have z4 := B4.size
      refine (toEditS_any _ _ _ _ l _ hn1 h (by omega)).mono ?_
      rintro e we ⟨gy, cy, rfl, oy, hb5⟩
      have ox := ox.below hb5
      have B5 := below_step B4 (Nat.le_refl _) hb5
      have hx := ox.chgs
      have hy := oy.chgs
      clear B4 hb5 ox oy h
      go_wp2_with fail
      refine (eqEditS_same _ _ _ _ _ _ l _ hn' hx hy (Nat.le_refl _)).mono ?_
      rintro e wf ⟨rfl, hb6⟩
      have B6 := below_step B5 (Nat.le_refl _) hb6
      go_wp2_with fail
      go_ret
      exact ⟨rfl, B6⟩
end Go.Proofs.Ytmdmjhnjhelccaa
