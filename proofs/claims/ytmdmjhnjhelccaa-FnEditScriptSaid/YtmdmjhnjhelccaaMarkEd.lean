/- Contracts of the laws' helpers for slices of changes: eqEditS, markEditS, heldEditS. -/
import Derived.Test.YtmdmjhnjhelccaaExEdit
import Derived.Test.YtmdmjhnjhelccaaLwScript
namespace Go.Proofs.Ytmdmjhnjhelccaa
open Go.RowKit
set_option maxHeartbeats 1600000
set_option linter.unusedSimpArgs false
set_option linter.unusedVariables false

theorem eqEditS_same (A1 A2 : Option Addr) (n c1 c2 B : Nat) (l : List Chg) (w : World) (hn : n ≤ maxLen) (h1 : Chgs w B A1 n l) (h2 : Chgs w B A2 n l) (hB : B ≤ w.heap.size) :
    Calls Try.prog 31 #[.slice A1 n c1, .slice A2 n c2] w fun e w' => e = .returned (.bool true) ∧ Below w.heap.size w w' := by
  unfold maxLen at hn
  go_enter Try.func31, Try.ntmps31
  go_wp2_with fail
  go_loopw [5] (fun i wr => ∃ j : Nat, j ≤ n ∧ i = .int .i64 j ∧ Below w.heap.size w wr) (fun i _ => n - (intOf i).toNat)
  case atStart => exact ⟨0, Nat.zero_le _, rfl, Below.refl _ _⟩
  case round =>
    obtain ⟨j, hj, rfl, hbel⟩ := hrel
    by_cases hlt : j < n
    · have hr1 := h1.step hbel hB
      have hr2 := h2.step hbel hB
      obtain ⟨b, o, d, hA, hbB, hd, x0, x1, x2⟩ := hr1.at_ hlt
      obtain ⟨b2, o2, d2, hA2, hbB2, hd2, y0, y1, y2⟩ := hr2.at_ hlt
      obtain rfl : d2 = d := by rw [hd] at hd2; injection hd2 with hd2; exact hd2.symm
      subst hA hA2
      have i0 : (0 : Int) ≤ (j : Int) := by omega
      have i1 : (j : Int) < (n : Int) := by omega
      obtain ⟨dk, dp, dc⟩ := d2
      simp only at x0 x1 x2 y0 y1 y2
      clear hr1 hr2 hd hd2
      have HC := Lib.hid (fun W : World => eqEdit_same dk dp (dc.toNat : Int) W)
      have hbz := hbel.size
      go_wp2_with fail
      go_region_held3 (fun w' => w'.cell? ⟨b, o + j * 3, none⟩ = some (.int .i64 dk) ∧ w'.cell? ⟨b, o + j * 3 + 1, none⟩ = some (.int .i64 dp) ∧ w'.cell? ⟨b, o + j * 3 + 2, none⟩ = some (.int .u8 (dc.toNat : Int)) ∧ w'.cell? ⟨b2, o2 + j * 3, none⟩ = some (.int .i64 dk) ∧ w'.cell? ⟨b2, o2 + j * 3 + 1, none⟩ = some (.int .i64 dp) ∧ w'.cell? ⟨b2, o2 + j * 3 + 2, none⟩ = some (.int .u8 (dc.toNat : Int)))
        (first | exact ⟨x0, x1, x2, y0, y1, y2⟩ | exact ⟨z0, z1, z2, z3, z4, z5⟩ | go_keep | assumption)
        (first
          | (go_at_call 34
             (with_reducible refine (HC.out _).mono ?_)
             rintro e w4 ⟨rfl, hb4⟩
             have hb4' : Below wr.heap.size wr w4 := ⟨hb4.os, hb4.tape, hb4.output, hb4.size, hb4.block⟩
             have z0 := (hb4'.cell (p := ⟨b, o + j * 3, none⟩) (show b < wr.heap.size by omega)).trans x0
             have z1 := (hb4'.cell (p := ⟨b, o + j * 3 + 1, none⟩) (show b < wr.heap.size by omega)).trans x1
             have z2 := (hb4'.cell (p := ⟨b, o + j * 3 + 2, none⟩) (show b < wr.heap.size by omega)).trans x2
             have z3 := (hb4'.cell (p := ⟨b2, o2 + j * 3, none⟩) (show b2 < wr.heap.size by omega)).trans y0
             have z4 := (hb4'.cell (p := ⟨b2, o2 + j * 3 + 1, none⟩) (show b2 < wr.heap.size by omega)).trans y1
             have z5 := (hb4'.cell (p := ⟨b2, o2 + j * 3 + 2, none⟩) (show b2 < wr.heap.size by omega)).trans y2
             have hb4' := below_step hbel (Nat.le_refl _) hb4')
          | fail)
      all_goals
        go_wp2_with fail
        go_roundw
        case rel => exact ⟨j + 1, by omega, by go_num, by first | exact hb4' | exact hb4'.drew⟩
        case measure => simp [intOf]; omega
    · obtain rfl : j = n := by omega
      go_wp2_with fail
      go_ret
      exact ⟨rfl, hbel⟩

/-- the marks k, k + 1 .. in n changes -/
def markE (k i : Nat) : Chg := ⟨((k + 3 * i : Nat) : Int), ((k + 3 * i + 1 : Nat) : Int), UInt8.ofNat (k + 3 * i + 2)⟩
def marksE (k n : Nat) : List Chg := (List.range n).map (markE k)
theorem marksE_len (k n : Nat) : (marksE k n).length = n := by simp [marksE]
theorem marksE_get {k n j : Nat} (h : j < n) : (marksE k n)[j]? = some (markE k j) := by simp [marksE, h]
/-- a row of which the first j are marked -/
def markedE (k j : Nat) (l : List Chg) : List Chg := marksE k j ++ l.drop j
theorem markedE_set {k j : Nat} {l : List Chg} (h : j < l.length) : (((rowCells (markedE k j l)).set (j * 3) (.int .i64 ((k + 3 * j : Nat) : Int))).set (j * 3 + 1) (.int .i64 ((k + 3 * j + 1 : Nat) : Int))).set (j * 3 + 2) (.int .u8 (((k + 3 * j + 2) % 256 : Nat) : Int)) = rowCells (markedE k (j + 1) l) := by
  have e1 : markedE k j l = marksE k j ++ (l[j] :: l.drop (j + 1)) := by unfold markedE; rw [List.drop_eq_getElem_cons h]
  have e2 : markedE k (j + 1) l = marksE k j ++ (markE k j :: l.drop (j + 1)) := by unfold markedE; simp [marksE, List.range_succ]
  have e3 : (rowCells (marksE k j)).length = j * 3 := by rw [rowCells_len, marksE_len]
  rw [e1, e2, rowCells_append, rowCells_append]
  have e4 : rowCells (l[j] :: l.drop (j + 1)) = .int .i64 l[j].k :: .int .i64 l[j].p :: .int .u8 (l[j].c.toNat : Int) :: rowCells (l.drop (j + 1)) := rfl
  have e5 : rowCells (markE k j :: l.drop (j + 1)) = .int .i64 ((k + 3 * j : Nat) : Int) :: .int .i64 ((k + 3 * j + 1 : Nat) : Int) :: .int .u8 (((k + 3 * j + 2) % 256 : Nat) : Int) :: rowCells (l.drop (j + 1)) := by
    show rowCells ([markE k j] ++ _) = _
    rw [rowCells_append]
    simp [rowCells, chgCells, markE]
  rw [e4, e5, List.set_append_right _ _ (by omega), List.set_append_right _ _ (by omega), List.set_append_right _ _ (by omega), e3]
  rw [show j * 3 - j * 3 = 0 by omega, show j * 3 + 1 - j * 3 = 1 by omega, show j * 3 + 2 - j * 3 = 2 by omega]
  rfl

def MarkedE (w : World) (base g n cap k : Nat) (e : Ending) (w' : World) : Prop :=
  e = .returned (.int .i64 ((k + 3 * n : Nat) : Int)) ∧ OwnE w' base g n cap (marksE k n) ∧ w.grownBy w' (some g)
theorem markEditS_any (base g n c : Nat) (l : List Chg) (w : World) (k : Nat) (hown : OwnE w base g n c l) (hb : base ≤ w.heap.size) (hk : k + 3 * n ≤ 3000000) :
    Calls Try.prog 32 #[.slice (some ⟨g, 0, none⟩) n c, .int .i64 k] w (MarkedE w base g n c k) := by
  have hl := hown.len
  have hown0 : OwnE w base g n c (markedE k 0 l) := by simpa [markedE, marksE] using hown
  have HL := Lib.hid hl
  have HFIN := Lib.hid (show markedE k n l = marksE k n by unfold markedE; rw [List.drop_eq_nil_of_le (by omega), List.append_nil])
  clear hl hown
  go_enter Try.func32, Try.ntmps32
  go_wp2_with fail
  go_loopw [1, 5] (fun x i wr => ∃ j : Nat, j ≤ n ∧ x = .int .i64 ((k + 3 * j : Nat) : Int) ∧ i = .int .i64 j ∧ OwnE wr base g n c (markedE k j l) ∧ w.grownBy wr (some g)) (fun _ i _ => n - (intOf i).toNat)
  case atStart => exact ⟨0, Nat.zero_le _, by simp, rfl, hown0, only_refl _ _⟩
  case round =>
    obtain ⟨j, hj, rfl, rfl, hownj, hgr⟩ := hrel
    by_cases hlt : j < n
    · have hgl := hownj.lt.2
      have hset := markedE_set (k := k) (j := j) (l := l) (by rw [HL.out]; exact hlt)
      rw [show (((k + 3 * j : Nat) : Int)) = (k : Int) + 3 * (j : Int) by omega, show (((k + 3 * j + 1 : Nat) : Int)) = (k : Int) + 3 * (j : Int) + 1 by omega, show ((((k + 3 * j + 2) % 256 : Nat) : Int)) = ((k : Int) + 3 * (j : Int) + 1 + 1) % 256 by omega] at hset
      have hlen : (rowCells (markedE k j l)).length = n * 3 := by rw [rowCells_len, hownj.len]
      have own0 : wr.ownsRow base 24 3 (.slice (some ⟨g, 0, none⟩) n c) n (rowCells (markedE k j l)) := hownj
      generalize rowCells (markedE k j l) = row at own0 hset hlen
      obtain ⟨v0, hv0⟩ : ∃ v, wr.cell? ⟨g, j * 3, none⟩ = some v := by
        rw [own0.cellAt _ (by omega)]; exact ⟨_, List.getElem?_eq_getElem (by omega)⟩
      have hf0 := own0.frozenAt (j * 3)
      obtain ⟨own1, g1⟩ := own0.stored (j * 3) (.int .i64 ((k : Int) + 3 * (j : Int)))
      obtain ⟨v1, hv1⟩ : ∃ v, (wr.setCell ⟨g, j * 3, none⟩ (.int .i64 ((k : Int) + 3 * (j : Int)))).cell? ⟨g, j * 3 + 1, none⟩ = some v := by
        rw [own1.cellAt _ (by omega)]; exact ⟨_, List.getElem?_eq_getElem (by rw [List.length_set]; omega)⟩
      have hf1 := own1.frozenAt (j * 3 + 1)
      obtain ⟨own2, g2⟩ := own1.stored (j * 3 + 1) (.int .i64 ((k : Int) + 3 * (j : Int) + 1))
      obtain ⟨v2, hv2⟩ : ∃ v, ((wr.setCell ⟨g, j * 3, none⟩ (.int .i64 ((k : Int) + 3 * (j : Int)))).setCell ⟨g, j * 3 + 1, none⟩ (.int .i64 ((k : Int) + 3 * (j : Int) + 1))).cell? ⟨g, j * 3 + 2, none⟩ = some v := by
        rw [own2.cellAt _ (by omega)]; exact ⟨_, List.getElem?_eq_getElem (by rw [List.length_set, List.length_set]; omega)⟩
      have hf2 := own2.frozenAt (j * 3 + 2)
      obtain ⟨own3, g3⟩ := own2.stored (j * 3 + 2) (.int .u8 (((k : Int) + 3 * (j : Int) + 1 + 1) % 256))
      rw [hset] at own3
      have hgr := only_trans (only_trans (only_trans hgr g1) g2) g3
      have HO := Lib.hid (show OwnE _ base g n c (markedE k (j + 1) l) from own3)
      have HG := Lib.hid hgr
      clear hset hlen own0 own1 own2 own3 g1 g2 g3 hgr hownj hown0 row
      go_wp2_with fail
      go_roundw
      case rel => exact ⟨j + 1, by omega, by go_num, by go_num, HO.out, HG.out⟩
      case measure => simp [intOf]; omega
    · obtain rfl : j = n := by omega
      rw [HFIN.out] at hownj
      go_wp2_with fail
      go_ret
      exact ⟨rfl, hownj, hgr⟩

theorem heldEditS_any (A : Option Addr) (n c : Nat) (w : World) (k : Nat) (h : Chgs w w.heap.size A n (marksE k n)) (hk : k + 3 * n ≤ 3000000) :
    Calls Try.prog 33 #[.slice A n c, .int .i64 k] w fun e w' => e = .returned (.int .i64 ((k + 3 * n : Nat) : Int)) ∧ Below w.heap.size w w' := by
  go_enter Try.func33, Try.ntmps33
  go_wp2_with fail
  go_loopw [1, 5] (fun x i wr => ∃ j : Nat, j ≤ n ∧ x = .int .i64 ((k + 3 * j : Nat) : Int) ∧ i = .int .i64 j ∧ Below w.heap.size w wr) (fun _ i _ => n - (intOf i).toNat)
  case atStart => exact ⟨0, Nat.zero_le _, by simp, rfl, Below.refl _ _⟩
  case round =>
    obtain ⟨j, hj, rfl, rfl, hbj⟩ := hrel
    by_cases hlt : j < n
    · have hr := h.step hbj (Nat.le_refl _)
      obtain ⟨b, o, d, hA, hbB, hd, x0, x1, x2⟩ := hr.at_ hlt
      rw [marksE_get hlt] at hd
      injection hd with hd
      subst hd
      subst hA
      rw [show (markE k j).k = (k : Int) + 3 * (j : Int) by simp [markE]] at x0
      rw [show (markE k j).p = (k : Int) + 3 * (j : Int) + 1 by simp [markE]] at x1
      rw [show ((markE k j).c.toNat : Int) = ((k : Int) + 3 * (j : Int) + 1 + 1) % 256 by simp [markE]; omega] at x2
      have i0 : (0 : Int) ≤ (j : Int) := by omega
      have i1 : (j : Int) < (n : Int) := by omega
      have e1 : (((k : Int) + 3 * (j : Int)) != ((k : Int) + 3 * (j : Int))) = false := by simp
      have e2 : (((k : Int) + 3 * (j : Int) + 1) != ((k : Int) + 3 * (j : Int) + 1)) = false := by simp
      have e3 : ((((k : Int) + 3 * (j : Int) + 1 + 1) % 256) != (((k : Int) + 3 * (j : Int) + 1 + 1) % 256)) = false := by simp
      clear hr
      go_wp2_with fail
      go_roundw
      case rel => exact ⟨j + 1, by omega, by go_num, by go_num, hbj⟩
      case measure => simp [intOf]; omega
    · obtain rfl : j = n := by omega
      go_wp2_with fail
      go_ret
      exact ⟨rfl, hbj⟩

/-- a slice that is a row of the call's own, or none -/
def OwnS3 (w : World) (base : Nat) (A : Option Addr) (n cap : Nat) (l : List Chg) : Prop := w.ownsRow base 24 3 (.slice A n cap) n (rowCells l)
section
variable {w w' : World} {base n cap : Nat} {A : Option Addr} {l : List Chg}
theorem OwnS3.len (h : OwnS3 w base A n cap l) : l.length = n := by have := h.1; rw [rowCells_len] at this; omega
theorem OwnS3.below (h : OwnS3 w base A n cap l) (hb : Below w.heap.size w w') : OwnS3 w' base A n cap l :=
  World.ownsRow.kept h (row := none) ⟨hb.os, hb.tape, hb.output, hb.size, fun i hi _ => hb.block i hi⟩ (by
    cases hv : (Value.slice A n cap).ownBlock with
    | none => exact .inl rfl
    | some g => exact .inr (by simp))
theorem OwnS3.row (h : OwnS3 w base A n cap l) (hn : 0 < n) : ∃ g, A = some ⟨g, 0, none⟩ ∧ OwnE w base g n cap l := by
  have h' : w.ownsRow base 24 3 (.slice A n cap) n (rowCells l) := h
  rcases h.2 with ⟨_, h0⟩ | ⟨g, cap', cur, hv, _⟩
  · omega
  · injection hv with e1 e2 e3
    subst e1
    exact ⟨g, rfl, h'⟩
theorem OwnS3.chgs (h : OwnS3 w base A n cap l) : Chgs w w.heap.size A n l := by
  by_cases hn : 0 < n
  · obtain ⟨g, rfl, ho⟩ := h.row hn
    exact ho.chgs
  · exact ⟨h.len, fun h0 => absurd h0 hn⟩
theorem OwnS3.blockAt {g : Nat} (h : OwnS3 w base A n cap l) (hg : (Value.slice A n cap).ownBlock = some g) : base ≤ g ∧ g < w.heap.size := World.ownsRow.lt h g hg
end

theorem markEditS_own (base : Nat) (A : Option Addr) (n c : Nat) (l : List Chg) (w : World) (k : Nat) (hown : OwnS3 w base A n c l) (hb : base ≤ w.heap.size) (hk : k + 3 * n ≤ 3000000) :
    Calls Try.prog 32 #[.slice A n c, .int .i64 k] w fun e w' => e = .returned (.int .i64 ((k + 3 * n : Nat) : Int)) ∧ OwnS3 w' base A n c (marksE k n) ∧ w.grownBy w' (Value.slice A n c).ownBlock := by
  by_cases hn : 0 < n
  · obtain ⟨g, rfl, ho⟩ := hown.row hn
    exact (markEditS_any base g n c l w k ho hb hk).mono fun e w' h => h
  · obtain rfl : n = 0 := by omega
    have hm : marksE k 0 = l := (List.eq_nil_of_length_eq_zero hown.len).symm
    rw [← hm] at hown
    clear hm hn
    go_enter Try.func32, Try.ntmps32
    go_wp2_with fail
    refine wp_loop_rounds 1 ?_
    rw [rounds_succ]
    go_wp2_with fail
    go_ret
    exact ⟨rfl, hown, World.grownBy.refl _ _⟩
/-- what impl.EditScript does, in memory of its own -/
def ScriptOwnC : Prop := ∀ (a b : ByteArray) (w : World), a.size ≤ maxLen → b.size ≤ maxLen →
  Calls Try.prog 23 #[.string a, .string b] w fun e w' => ∃ (A : Option Addr) (n cap : Nat), e = .returned (.slice A n cap) ∧ OwnS3 w' w.heap.size A n cap (scriptE a.data.toList b.data.toList) ∧ Below w.heap.size w w'
theorem walkFnExactEditScript (HC : ScriptOwnC) (a b : ByteArray) (w : World) (ha : a.size ≤ maxLen) (hb : b.size ≤ maxLen) :
    Calls Try.prog 10 #[.string a, .string b] w fun e w' => e = .returned (.bool true) ∧ Below w.heap.size w w' := by
  have HC := Lib.hid HC
  have ha' := ha
  have hb' := hb
  unfold maxLen at ha hb
  by_cases h1 : (1048576 : Int) < a.size
  · go_enter Try.func10, Try.ntmps10
    go_wp2_with fail
    go_ret
    exact ⟨rfl, Below.refl _ _⟩
  · by_cases h2 : (1048576 : Int) < b.size
    · go_enter Try.func10, Try.ntmps10
      go_wp2_with fail
      go_ret
      exact ⟨rfl, Below.refl _ _⟩
    · have hsh := scriptE_short a.data.toList b.data.toList
      go_enter Try.func10, Try.ntmps10
      go_wp2_with fail
      refine (editScript_spec _ _ _ ha' hb').mono ?_
      rintro e w1 ⟨g0, n0, c0, rfl, o0, B1⟩
      have H0 := o0.chgs
      have z0 := B1.size
      have l0 := o0.len
      have n24 : n0 ≤ 24 := by omega
      have nm : n0 ≤ maxLen := by unfold maxLen; omega
      clear o0
      have HC2 := Lib.hid (fun W => HC.out a b W ha' hb')
      generalize scriptE a.data.toList b.data.toList = l at *
      clear hsh HC
      go_wp2_with fail
      refine (HC2.out _).mono ?_
      rintro e w2 ⟨Ag, ng, cg, rfl, og, hb2⟩
      obtain rfl : ng = n0 := by have := og.len; omega
      have B2 := below_step B1 (Nat.le_refl _) hb2
      have H0 := H0.below hb2
      have z1 := hb2.size
      have hg := og.chgs
      clear B1 hb2
      go_wp2_with fail
      refine (eqEditS_same Ag (some ⟨g0, 0, none⟩) ng cg c0 w2.heap.size l _ nm hg (H0.more z1) (Nat.le_refl _)).mono ?_
      rintro e w3 ⟨rfl, hb3⟩
      have B3 := below_step B2 (Nat.le_refl _) hb3
      have H0 := H0.below (hb3.mono z1)
      have og := og.below hb3
      have z2 := hb3.size
      clear B2 hb3 hg
      go_wp2_with fail
      refine (markEditS_own w1.heap.size Ag ng cg l _ 1 og (by omega) (by omega)).mono ?_
      rintro e w4 ⟨rfl, om, hgr⟩
      have hrow : ∀ k, (Value.slice Ag ng cg).ownBlock = some k → w1.heap.size ≤ k := fun k hk => (og.blockAt hk).1
      have B4 : Below w.heap.size w w4 := B3.grown hgr B3.size (fun k hk => by have := hrow k hk; have := B3.size; omega)
      have H0 := H0.below (Below.grown (Below.refl w1.heap.size w3) hgr (by omega) (fun k hk => by have := hrow k hk; omega))
      have hm := om.chgs
      have z3 := hgr.size
      clear B3 og hgr hrow
      go_wp2_with fail
      refine (heldEditS_any Ag ng cg _ 1 hm (by omega)).mono ?_
      rintro e w5 ⟨rfl, hb5⟩
      have B5 := below_step B4 (Nat.le_refl _) hb5
      have H0 := H0.below (hb5.mono (by omega))
      have om := om.below hb5
      have z4 := hb5.size
      clear B4 hm hb5
      go_wp2_with fail
      refine (HC2.out _).mono ?_
      rintro e w6 ⟨Ah, nh, ch, rfl, oh, hb6⟩
      obtain rfl : nh = ng := by have := oh.len; omega
      have B6 := below_step B5 (Nat.le_refl _) hb6
      have H0 := H0.below (hb6.mono (by omega))
      have om := om.below hb6
      have hh := oh.chgs
      have z5 := hb6.size
      clear B5 hb6 oh
      go_wp2_with fail
      refine (eqEditS_same Ah (some ⟨g0, 0, none⟩) nh ch c0 w6.heap.size l _ nm hh (H0.more (by omega)) (Nat.le_refl _)).mono ?_
      rintro e w7 ⟨rfl, hb7⟩
      have B7 := below_step B6 (Nat.le_refl _) hb7
      have om := om.below hb7
      have hm := om.chgs
      clear B6 hb7 hh H0
      go_wp2_with fail
      refine (heldEditS_any Ag nh cg _ 1 hm (by omega)).mono ?_
      rintro e w8 ⟨rfl, hb8⟩
      have B8 := below_step B7 (Nat.le_refl _) hb8
      go_wp2_with fail
      go_ret
      exact ⟨rfl, B8⟩
end Go.Proofs.Ytmdmjhnjhelccaa
