/- The walks of the exact laws of chapter 6, over contracts of the program (written by wip/tools/genexact.py). -/
import Derived.Test.YtopjhdgpdcdklaaLawItems
import Derived.Test.YtopjhdgpdcdklaaDictSpec3
import Derived.Test.YtopjhdgpdcdklaaOwnTx
namespace Go.Proofs.Ytopjhdgpdcdklaa
open Go.RowKit
set_option maxHeartbeats 1600000
set_option linter.unusedSimpArgs false
set_option linter.unusedVariables false

theorem addR_len (d : List Item) (s : ByteArray) (m : Int) : (addR d s m).1.length ≤ d.length + 1 := by
  unfold addR
  split
  · split
    · exact len_add_le d s m
    · simp
  · simp
theorem dropR_len (d : List Item) (s : ByteArray) : (dropR d s).1.length ≤ d.length := by
  unfold dropR dropL
  split
  · exact List.length_filter_le _ _
  · simp
theorem startsR_len (d : List Item) (s : ByteArray) : (startsR d s).length ≤ d.length := by
  unfold startsR
  split
  · exact List.length_filter_le _ _
  · simp
theorem wordsE_le (d : List Item) : (wordsE d).length ≤ d.length := by
  rw [wordsE_len]
  split <;> omega
/-- the contracts of the program -/
def DictWordsC : Prop := ∀ (A : Option Addr) (n c B : Nat) (d : List Item) (w : World), n ≤ 1048576 → n ≤ c → c ≤ maxLen → Items w B A n d → B ≤ w.heap.size →
  Calls Try.prog 21 #[.slice A n c] w fun e w' => ∃ (A2 : Option Addr) (m cap : Nat), e = .returned (.slice A2 m cap) ∧ OwnTx w' w.heap.size A2 m cap (wordsE d) ∧ Below w.heap.size w w'
def DictValidC : Prop := ∀ (A : Option Addr) (n c B : Nat) (d : List Item) (w : World), n ≤ 1048576 → n ≤ c → c ≤ maxLen → Items w B A n d → B ≤ w.heap.size →
  Calls Try.prog 17 #[.slice A n c] w fun e w' => e = .returned (.bool (dictB d)) ∧ Below w.heap.size w w'
def DictCountC : Prop := ∀ (A : Option Addr) (n c B : Nat) (d : List Item) (s : ByteArray) (w : World), n ≤ 1048576 → n ≤ c → c ≤ maxLen → Items w B A n d → B ≤ w.heap.size → s.size ≤ maxLen →
  Calls Try.prog 26 #[.slice A n c, .string s] w fun e w' => e = .returned (.int .i64 (countI d s)) ∧ Below w.heap.size w w'
def DictAddC : Prop := ∀ (A : Option Addr) (n c B : Nat) (d : List Item) (s : ByteArray) (m : Int) (w : World), n ≤ 1048576 → n ≤ c → c ≤ maxLen → Items w B A n d → B ≤ w.heap.size → s.size ≤ maxLen → I64 m →
  Calls Try.prog 30 #[.slice A n c, .string s, .int .i64 m] w (OwnOk (addR d s m) w)
def DictDropC : Prop := ∀ (A : Option Addr) (n c B : Nat) (d : List Item) (s : ByteArray) (w : World), n ≤ 1048576 → n ≤ c → c ≤ maxLen → Items w B A n d → B ≤ w.heap.size → s.size ≤ maxLen →
  Calls Try.prog 34 #[.slice A n c, .string s] w (OwnOk (dropR d s) w)
def DictStartsC : Prop := ∀ (A : Option Addr) (n c B : Nat) (d : List Item) (s : ByteArray) (w : World), n ≤ 1048576 → n ≤ c → c ≤ maxLen → Items w B A n d → B ≤ w.heap.size → s.size ≤ maxLen →
  Calls Try.prog 37 #[.slice A n c, .string s] w fun e w' => ∃ (A2 : Option Addr) (m cap : Nat), e = .returned (.slice A2 m cap) ∧ OwnItems w' w.heap.size A2 m cap (startsR d s) ∧ Below w.heap.size w w'

theorem walkFnExactDictValid (HC : DictValidC) (A : Option Addr) (n c : Nat) (d : List Item) (w : World) (hn : n ≤ maxLen) (h : Recs itemL w w.heap.size A n d) :
    Calls Try.prog 10 #[.slice A n c] w fun e w' => e = .returned (.bool true) ∧ Below w.heap.size w w' := by
  have HC := Lib.hid HC
  have hn' := hn
  unfold maxLen at hn
  go_enter Try.func10, Try.ntmps10
  go_wp2_with fail
  refine (szItemS_any _ _ _ w.heap.size d _ _ hn' h (Nat.le_refl _) (by omega) (by omega)).mono ?_
  rintro e w0 ⟨r, rfl, hr, hrk, B0⟩
  by_cases hneg : r < 0
  · clear hr
    go_wp2_with fail
    go_ret
    exact ⟨rfl, B0⟩
  · have hn1 : n ≤ 1048576 := by have := hr (by omega); omega
    clear hr
    have ha := h.below B0
    have z0 := B0.size
    clear h
    have hq : (dictB d != dictB d) = false := by simp
    go_wp2_with fail
    refine (toItemS_any _ _ _ w.heap.size d _ hn1 ha B0.size).mono ?_
    rintro e w1 ⟨g1, rfl, o1, hb⟩
    have ha := ha.below (hb.mono B0.size)
    have B1 := below_step B0 (Nat.le_refl _) hb
    have z1 := hb.size
    clear B0 hb
    have H1 := o1.recs
    go_wp2_with fail
    refine (dictValid_spec _ _ _ _ _ _ hn1 H1 (Nat.le_refl _)).mono ?_
    rintro e w2 ⟨rfl, hb⟩
    have ha := ha.below (hb.mono B1.size)
    have o1 := o1.below hb
    have B2 := below_step B1 (Nat.le_refl _) hb
    have z2 := hb.size
    clear B1 hb
    clear H1 o1
    go_wp2_with fail
    refine (toItemS_any _ _ _ w.heap.size d _ hn1 ha B2.size).mono ?_
    rintro e w3 ⟨gx, rfl, ox, hb⟩
    have ha := ha.below (hb.mono B2.size)
    have B3 := below_step B2 (Nat.le_refl _) hb
    have z3 := hb.size
    clear B2 hb
    have hgx := ox.blockAt rfl
    have H1 := ox.recs
    go_wp2_with fail
    refine (HC.out _ _ _ _ _ _ hn1 (Nat.le_refl _) hn' H1 (Nat.le_refl _)).mono ?_
    rintro e w4 ⟨rfl, hb⟩
    have ha := ha.below (hb.mono B3.size)
    have ox := ox.below hb
    have B4 := below_step B3 (Nat.le_refl _) hb
    have z4 := hb.size
    clear B3 hb
    clear H1
    go_wp2_with fail
    refine (toItemS_any _ _ _ w.heap.size d _ hn1 ha B4.size).mono ?_
    rintro e w5 ⟨gy, rfl, oy, hb⟩
    have ha := ha.below (hb.mono B4.size)
    have ox := ox.below hb
    have B5 := below_step B4 (Nat.le_refl _) hb
    have z5 := hb.size
    clear B4 hb
    have H1 := ox.recs
    have H2 := oy.recs
    go_wp2_with fail
    refine (eqItemS_same _ _ _ _ _ w5.heap.size _ _ hn' H1 H2 (Nat.le_refl _)).mono ?_
    rintro e w6 ⟨rfl, hb⟩
    have ha := ha.below (hb.mono B5.size)
    have ox := ox.below hb
    have oy := oy.below hb
    have B6 := below_step B5 (Nat.le_refl _) hb
    have z6 := hb.size
    clear B5 hb
    clear H1 H2
    clear oy
    go_wp2_with fail
    go_ret
    exact ⟨rfl, B6⟩
theorem walkFnExactDictWords (HC : DictWordsC) (A : Option Addr) (n c : Nat) (d : List Item) (w : World) (hn : n ≤ maxLen) (h : Recs itemL w w.heap.size A n d) :
    Calls Try.prog 11 #[.slice A n c] w fun e w' => e = .returned (.bool true) ∧ Below w.heap.size w w' := by
  have HC := Lib.hid HC
  have hn' := hn
  unfold maxLen at hn
  go_enter Try.func11, Try.ntmps11
  go_wp2_with fail
  refine (szItemS_any _ _ _ w.heap.size d _ _ hn' h (Nat.le_refl _) (by omega) (by omega)).mono ?_
  rintro e w0 ⟨r, rfl, hr, hrk, B0⟩
  by_cases hneg : r < 0
  · clear hr
    go_wp2_with fail
    go_ret
    exact ⟨rfl, B0⟩
  · have hn1 : n ≤ 1048576 := by have := hr (by omega); omega
    clear hr
    have ha := h.below B0
    have z0 := B0.size
    clear h
    go_wp2_with fail
    refine (toItemS_any _ _ _ w.heap.size d _ hn1 ha B0.size).mono ?_
    rintro e w1 ⟨g1, rfl, o1, hb⟩
    have ha := ha.below (hb.mono B0.size)
    have B1 := below_step B0 (Nat.le_refl _) hb
    have z1 := hb.size
    clear B0 hb
    have H1 := o1.recs
    go_wp2_with fail
    refine (dictWords_spec _ _ _ _ _ _ hn1 H1 (Nat.le_refl _)).mono ?_
    rintro e w2 ⟨Aw, nw, cw, rfl, ow, hb⟩
    have ha := ha.below (hb.mono B1.size)
    have o1 := o1.below hb
    have B2 := below_step B1 (Nat.le_refl _) hb
    have z2 := hb.size
    clear B1 hb
    have ow := OwnTx.of ow
    have hw := ow.recs
    clear ow
    clear H1 o1
    go_wp2_with fail
    refine (toItemS_any _ _ _ w.heap.size d _ hn1 ha B2.size).mono ?_
    rintro e w3 ⟨gx, rfl, ox, hb⟩
    have ha := ha.below (hb.mono B2.size)
    have hw := hw.below (hb.mono (by omega))
    have B3 := below_step B2 (Nat.le_refl _) hb
    have z3 := hb.size
    clear B2 hb
    have hgx := ox.blockAt rfl
    have H1 := ox.recs
    go_wp2_with fail
    refine (HC.out _ _ _ _ _ _ hn1 (Nat.le_refl _) hn' H1 (Nat.le_refl _)).mono ?_
    rintro e w4 ⟨Ag, ng, cg, rfl, og, hb⟩
    have ha := ha.below (hb.mono B3.size)
    have hw := hw.below (hb.mono (by omega))
    have ox := ox.below hb
    have B4 := below_step B3 (Nat.le_refl _) hb
    have z4 := hb.size
    clear B3 hb
    have hng : ng ≤ 1048577 := by have h1 := og.len; have h2 := wordsE_le d; have h3 := ha.len; omega
    have hngm : ng ≤ maxLen := by unfold maxLen; omega
    have hnw : nw = ng := hw.1.symm.trans og.len
    subst nw
    clear H1
    have H1 := og.recs
    go_wp2_with fail
    refine (eqTexts_same _ _ _ _ _ w4.heap.size _ _ hngm H1 (hw.more (by omega)) (Nat.le_refl _)).mono ?_
    rintro e w5 ⟨rfl, hb⟩
    have ha := ha.below (hb.mono B4.size)
    have hw := hw.below (hb.mono (by omega))
    have ox := ox.below hb
    have og := og.below hb
    have B5 := below_step B4 (Nat.le_refl _) hb
    have z5 := hb.size
    clear B4 hb
    clear H1
    go_wp2_with fail
    refine (toItemS_any _ _ _ w.heap.size d _ hn1 ha B5.size).mono ?_
    rintro e w6 ⟨gy, rfl, oy, hb⟩
    have ha := ha.below (hb.mono B5.size)
    have hw := hw.below (hb.mono (by omega))
    have ox := ox.below hb
    have og := og.below hb
    have B6 := below_step B5 (Nat.le_refl _) hb
    have z6 := hb.size
    clear B5 hb
    have H1 := ox.recs
    have H2 := oy.recs
    go_wp2_with fail
    refine (eqItemS_same _ _ _ _ _ w6.heap.size _ _ hn' H1 H2 (Nat.le_refl _)).mono ?_
    rintro e w7 ⟨rfl, hb⟩
    have ha := ha.below (hb.mono B6.size)
    have hw := hw.below (hb.mono (by omega))
    have ox := ox.below hb
    have og := og.below hb
    have oy := oy.below hb
    have B7 := below_step B6 (Nat.le_refl _) hb
    have z7 := hb.size
    clear B6 hb
    clear H1 H2
    clear oy
    go_wp2_with fail
    refine (markItemS_any _ _ _ _ _ _ 1 ox (by omega) (by omega) (by omega)).mono ?_
    rintro e w8 ⟨rfl, -, hg⟩
    replace hg : w7.grownBy w8 (some gx) := hg
    have ha := ha.below (Below.grown (Below.refl w.heap.size w7) hg (by omega) (by intro k hk; injection hk with hk; omega))
    have hw := hw.below (Below.grown (Below.refl w2.heap.size w7) hg (by omega) (by intro k hk; injection hk with hk; omega))
    have og := og.grown hg (fun hk => by have := (og.blockAt hk).1; omega)
    have B8 : Below w.heap.size w w8 := B7.grown hg B7.size (by intro k hk; injection hk with hk; omega)
    have z8 := hg.size
    clear hg ox B7 hgx
    have H1 := og.recs
    go_wp2_with fail
    refine (eqTexts_same _ _ _ _ _ w8.heap.size _ _ hngm H1 (hw.more (by omega)) (Nat.le_refl _)).mono ?_
    rintro e w9 ⟨rfl, hb⟩
    have ha := ha.below (hb.mono B8.size)
    have hw := hw.below (hb.mono (by omega))
    have og := og.below hb
    have B9 := below_step B8 (Nat.le_refl _) hb
    have z9 := hb.size
    clear B8 hb
    clear H1
    go_wp2_with fail
    refine (markTexts_any w3.heap.size _ _ _ _ _ 1 og (by omega) (by omega) (by omega)).mono ?_
    rintro e w10 ⟨rfl, om, hg⟩
    have hrow : ∀ k, (Value.slice Ag ng cg).ownBlock = some k → w3.heap.size ≤ k := fun k hk => (og.blockAt hk).1
    have ha := ha.below (Below.grown (Below.refl w.heap.size w9) hg (by omega) (fun k hk => by have := hrow k hk; omega))
    have hw := hw.below (Below.grown (Below.refl w2.heap.size w9) hg (by omega) (fun k hk => by have := hrow k hk; omega))
    have B10 : Below w.heap.size w w10 := B9.grown hg B9.size (fun k hk => by have := hrow k hk; omega)
    have z10 := hg.size
    clear hg og B9 hrow
    have H1 := om.recs
    go_wp2_with fail
    refine (heldTexts_any _ _ _ _ 1 H1 (by omega) (by omega)).mono ?_
    rintro e w11 ⟨rfl, hb⟩
    have ha := ha.below (hb.mono B10.size)
    have hw := hw.below (hb.mono (by omega))
    have om := om.below hb
    have B11 := below_step B10 (Nat.le_refl _) hb
    have z11 := hb.size
    clear B10 hb
    clear H1
    go_wp2_with fail
    refine (toItemS_any _ _ _ w.heap.size d _ hn1 ha B11.size).mono ?_
    rintro e w12 ⟨g4, rfl, o4, hb⟩
    have ha := ha.below (hb.mono B11.size)
    have hw := hw.below (hb.mono (by omega))
    have om := om.below hb
    have B12 := below_step B11 (Nat.le_refl _) hb
    have z12 := hb.size
    clear B11 hb
    clear ha
    have H1 := o4.recs
    clear o4
    go_wp2_with fail
    refine (HC.out _ _ _ _ _ _ hn1 (Nat.le_refl _) hn' H1 (Nat.le_refl _)).mono ?_
    rintro e w13 ⟨Ah, nh, ch, rfl, oh, hb⟩
    have hw := hw.below (hb.mono (by omega))
    have om := om.below hb
    have B13 := below_step B12 (Nat.le_refl _) hb
    have z13 := hb.size
    clear B12 hb
    have hnh : nh = ng := oh.len.symm.trans hw.1
    subst nh
    clear H1
    have H1 := oh.recs
    clear oh
    go_wp2_with fail
    refine (eqTexts_same _ _ _ _ _ w13.heap.size _ _ hngm H1 (hw.more (by omega)) (Nat.le_refl _)).mono ?_
    rintro e w14 ⟨rfl, hb⟩
    have hw := hw.below (hb.mono (by omega))
    have om := om.below hb
    have B14 := below_step B13 (Nat.le_refl _) hb
    have z14 := hb.size
    clear B13 hb
    clear H1
    clear hw
    have H1 := om.recs
    go_wp2_with fail
    refine (heldTexts_any _ _ _ _ 1 H1 (by omega) (by omega)).mono ?_
    rintro e w15 ⟨rfl, hb⟩
    have om := om.below hb
    have B15 := below_step B14 (Nat.le_refl _) hb
    have z15 := hb.size
    clear B14 hb
    clear H1
    go_wp2_with fail
    go_ret
    exact ⟨rfl, B15⟩
theorem walkFnExactDictCount (HC : DictCountC) (A : Option Addr) (n c : Nat) (d : List Item) (s : ByteArray) (w : World) (hn : n ≤ maxLen) (h : Recs itemL w w.heap.size A n d) (hs : s.size ≤ maxLen) :
    Calls Try.prog 12 #[.slice A n c, .string s] w fun e w' => e = .returned (.bool true) ∧ Below w.heap.size w w' := by
  have HC := Lib.hid HC
  have hn' := hn
  have hs' := hs
  unfold maxLen at hn hs
  by_cases q0 : (1048576 : Int) < s.size
  · go_enter Try.func12, Try.ntmps12
    go_wp2_with fail
    go_ret
    exact ⟨rfl, Below.refl _ _⟩
  · have q0' := q0
    go_enter Try.func12, Try.ntmps12
    go_wp2_with fail
    refine (szItemS_any _ _ _ w.heap.size d _ _ hn' h (Nat.le_refl _) (by omega) (by omega)).mono ?_
    rintro e w0 ⟨r, rfl, hr, hrk, B0⟩
    by_cases hneg : r < 0
    · clear hr
      go_wp2_with fail
      go_ret
      exact ⟨rfl, B0⟩
    · have hn1 : n ≤ 1048576 := by have := hr (by omega); omega
      clear hr
      have ha := h.below B0
      have z0 := B0.size
      clear h
      have hq : (countI d s != countI d s) = false := by simp
      go_wp2_with fail
      refine (toItemS_any _ _ _ w.heap.size d _ hn1 ha B0.size).mono ?_
      rintro e w1 ⟨g1, rfl, o1, hb⟩
      have ha := ha.below (hb.mono B0.size)
      have B1 := below_step B0 (Nat.le_refl _) hb
      have z1 := hb.size
      clear B0 hb
      have H1 := o1.recs
      go_wp2_with fail
      refine (dictCount_spec _ _ _ _ _ _ _ hn1 H1 (Nat.le_refl _)).mono ?_
      rintro e w2 ⟨rfl, hb⟩
      have ha := ha.below (hb.mono B1.size)
      have o1 := o1.below hb
      have B2 := below_step B1 (Nat.le_refl _) hb
      have z2 := hb.size
      clear B1 hb
      clear H1 o1
      go_wp2_with fail
      refine (toItemS_any _ _ _ w.heap.size d _ hn1 ha B2.size).mono ?_
      rintro e w3 ⟨gx, rfl, ox, hb⟩
      have ha := ha.below (hb.mono B2.size)
      have B3 := below_step B2 (Nat.le_refl _) hb
      have z3 := hb.size
      clear B2 hb
      have hgx := ox.blockAt rfl
      have H1 := ox.recs
      go_wp2_with fail
      refine (HC.out _ _ _ _ _ _ _ hn1 (Nat.le_refl _) hn' H1 (Nat.le_refl _) hs').mono ?_
      rintro e w4 ⟨rfl, hb⟩
      have ha := ha.below (hb.mono B3.size)
      have ox := ox.below hb
      have B4 := below_step B3 (Nat.le_refl _) hb
      have z4 := hb.size
      clear B3 hb
      clear H1
      go_wp2_with fail
      refine (toItemS_any _ _ _ w.heap.size d _ hn1 ha B4.size).mono ?_
      rintro e w5 ⟨gy, rfl, oy, hb⟩
      have ha := ha.below (hb.mono B4.size)
      have ox := ox.below hb
      have B5 := below_step B4 (Nat.le_refl _) hb
      have z5 := hb.size
      clear B4 hb
      have H1 := ox.recs
      have H2 := oy.recs
      go_wp2_with fail
      refine (eqItemS_same _ _ _ _ _ w5.heap.size _ _ hn' H1 H2 (Nat.le_refl _)).mono ?_
      rintro e w6 ⟨rfl, hb⟩
      have ha := ha.below (hb.mono B5.size)
      have ox := ox.below hb
      have oy := oy.below hb
      have B6 := below_step B5 (Nat.le_refl _) hb
      have z6 := hb.size
      clear B5 hb
      clear H1 H2
      clear oy
      go_wp2_with fail
      go_ret
      exact ⟨rfl, B6⟩
theorem walkFnExactDictDrop (HC : DictDropC) (A : Option Addr) (n c : Nat) (d : List Item) (s : ByteArray) (w : World) (hn : n ≤ maxLen) (h : Recs itemL w w.heap.size A n d) (hs : s.size ≤ maxLen) :
    Calls Try.prog 14 #[.slice A n c, .string s] w fun e w' => e = .returned (.bool true) ∧ Below w.heap.size w w' := by
  have HC := Lib.hid HC
  have hn' := hn
  have hs' := hs
  unfold maxLen at hn hs
  by_cases q0 : (1048576 : Int) < s.size
  · go_enter Try.func14, Try.ntmps14
    go_wp2_with fail
    go_ret
    exact ⟨rfl, Below.refl _ _⟩
  · have q0' := q0
    go_enter Try.func14, Try.ntmps14
    go_wp2_with fail
    refine (szItemS_any _ _ _ w.heap.size d _ _ hn' h (Nat.le_refl _) (by omega) (by omega)).mono ?_
    rintro e w0 ⟨r, rfl, hr, hrk, B0⟩
    by_cases hneg : r < 0
    · clear hr
      go_wp2_with fail
      go_ret
      exact ⟨rfl, B0⟩
    · have hn1 : n ≤ 1048576 := by have := hr (by omega); omega
      clear hr
      have ha := h.below B0
      have z0 := B0.size
      clear h
      have hq : ((dropR d s).2 != (dropR d s).2) = false := by simp
      go_wp2_with fail
      refine (toItemS_any _ _ _ w.heap.size d _ hn1 ha B0.size).mono ?_
      rintro e w1 ⟨g1, rfl, o1, hb⟩
      have ha := ha.below (hb.mono B0.size)
      have B1 := below_step B0 (Nat.le_refl _) hb
      have z1 := hb.size
      clear B0 hb
      have H1 := o1.recs
      go_wp2_with fail
      refine (dictDrop_spec _ _ _ _ _ _ _ hn1 H1 (Nat.le_refl _)).mono ?_
      rintro e w2 ⟨Aw, nw, cw, rfl, ow, hb⟩
      have ha := ha.below (hb.mono B1.size)
      have o1 := o1.below hb
      have B2 := below_step B1 (Nat.le_refl _) hb
      have z2 := hb.size
      clear B1 hb
      have hw := ow.recs
      clear ow
      clear H1 o1
      go_wp2_with fail
      refine (toItemS_any _ _ _ w.heap.size d _ hn1 ha B2.size).mono ?_
      rintro e w3 ⟨gx, rfl, ox, hb⟩
      have ha := ha.below (hb.mono B2.size)
      have hw := hw.below (hb.mono (by omega))
      have B3 := below_step B2 (Nat.le_refl _) hb
      have z3 := hb.size
      clear B2 hb
      have hgx := ox.blockAt rfl
      have H1 := ox.recs
      go_wp2_with fail
      refine (HC.out _ _ _ _ _ _ _ hn1 (Nat.le_refl _) hn' H1 (Nat.le_refl _) hs').mono ?_
      rintro e w4 ⟨Ag, ng, cg, rfl, og, hb⟩
      have ha := ha.below (hb.mono B3.size)
      have hw := hw.below (hb.mono (by omega))
      have ox := ox.below hb
      have B4 := below_step B3 (Nat.le_refl _) hb
      have z4 := hb.size
      clear B3 hb
      have hng : ng ≤ 1048577 := by have h1 := og.len; have h2 := dropR_len d s; have h3 := ha.len; omega
      have hngm : ng ≤ maxLen := by unfold maxLen; omega
      have hnw : nw = ng := hw.1.symm.trans og.len
      subst nw
      clear H1
      have H1 := og.recs
      go_wp2_with fail
      refine (eqItemS_same _ _ _ _ _ w4.heap.size _ _ hngm H1 (hw.more (by omega)) (Nat.le_refl _)).mono ?_
      rintro e w5 ⟨rfl, hb⟩
      have ha := ha.below (hb.mono B4.size)
      have hw := hw.below (hb.mono (by omega))
      have ox := ox.below hb
      have og := og.below hb
      have B5 := below_step B4 (Nat.le_refl _) hb
      have z5 := hb.size
      clear B4 hb
      clear H1
      go_wp2_with fail
      refine (toItemS_any _ _ _ w.heap.size d _ hn1 ha B5.size).mono ?_
      rintro e w6 ⟨gy, rfl, oy, hb⟩
      have ha := ha.below (hb.mono B5.size)
      have hw := hw.below (hb.mono (by omega))
      have ox := ox.below hb
      have og := og.below hb
      have B6 := below_step B5 (Nat.le_refl _) hb
      have z6 := hb.size
      clear B5 hb
      have H1 := ox.recs
      have H2 := oy.recs
      go_wp2_with fail
      refine (eqItemS_same _ _ _ _ _ w6.heap.size _ _ hn' H1 H2 (Nat.le_refl _)).mono ?_
      rintro e w7 ⟨rfl, hb⟩
      have ha := ha.below (hb.mono B6.size)
      have hw := hw.below (hb.mono (by omega))
      have ox := ox.below hb
      have og := og.below hb
      have oy := oy.below hb
      have B7 := below_step B6 (Nat.le_refl _) hb
      have z7 := hb.size
      clear B6 hb
      clear H1 H2
      clear oy
      go_wp2_with fail
      refine (markItemS_any _ _ _ _ _ _ 1 ox (by omega) (by omega) (by omega)).mono ?_
      rintro e w8 ⟨rfl, -, hg⟩
      replace hg : w7.grownBy w8 (some gx) := hg
      have ha := ha.below (Below.grown (Below.refl w.heap.size w7) hg (by omega) (by intro k hk; injection hk with hk; omega))
      have hw := hw.below (Below.grown (Below.refl w2.heap.size w7) hg (by omega) (by intro k hk; injection hk with hk; omega))
      have og := og.grown hg (fun hk => by have := (og.blockAt hk).1; omega)
      have B8 : Below w.heap.size w w8 := B7.grown hg B7.size (by intro k hk; injection hk with hk; omega)
      have z8 := hg.size
      clear hg ox B7 hgx
      have H1 := og.recs
      go_wp2_with fail
      refine (eqItemS_same _ _ _ _ _ w8.heap.size _ _ hngm H1 (hw.more (by omega)) (Nat.le_refl _)).mono ?_
      rintro e w9 ⟨rfl, hb⟩
      have ha := ha.below (hb.mono B8.size)
      have hw := hw.below (hb.mono (by omega))
      have og := og.below hb
      have B9 := below_step B8 (Nat.le_refl _) hb
      have z9 := hb.size
      clear B8 hb
      clear H1
      go_wp2_with fail
      refine (markItemS_any w3.heap.size _ _ _ _ _ 1 og (by omega) (by omega) (by omega)).mono ?_
      rintro e w10 ⟨rfl, om, hg⟩
      have hrow : ∀ k, (Value.slice Ag ng cg).ownBlock = some k → w3.heap.size ≤ k := fun k hk => (og.blockAt hk).1
      have ha := ha.below (Below.grown (Below.refl w.heap.size w9) hg (by omega) (fun k hk => by have := hrow k hk; omega))
      have hw := hw.below (Below.grown (Below.refl w2.heap.size w9) hg (by omega) (fun k hk => by have := hrow k hk; omega))
      have B10 : Below w.heap.size w w10 := B9.grown hg B9.size (fun k hk => by have := hrow k hk; omega)
      have z10 := hg.size
      clear hg og B9 hrow
      have H1 := om.recs
      go_wp2_with fail
      refine (heldItemS_any _ _ _ _ 1 H1 (by omega) (by omega)).mono ?_
      rintro e w11 ⟨rfl, hb⟩
      have ha := ha.below (hb.mono B10.size)
      have hw := hw.below (hb.mono (by omega))
      have om := om.below hb
      have B11 := below_step B10 (Nat.le_refl _) hb
      have z11 := hb.size
      clear B10 hb
      clear H1
      go_wp2_with fail
      refine (toItemS_any _ _ _ w.heap.size d _ hn1 ha B11.size).mono ?_
      rintro e w12 ⟨g4, rfl, o4, hb⟩
      have ha := ha.below (hb.mono B11.size)
      have hw := hw.below (hb.mono (by omega))
      have om := om.below hb
      have B12 := below_step B11 (Nat.le_refl _) hb
      have z12 := hb.size
      clear B11 hb
      clear ha
      have H1 := o4.recs
      clear o4
      go_wp2_with fail
      refine (HC.out _ _ _ _ _ _ _ hn1 (Nat.le_refl _) hn' H1 (Nat.le_refl _) hs').mono ?_
      rintro e w13 ⟨Ah, nh, ch, rfl, oh, hb⟩
      have hw := hw.below (hb.mono (by omega))
      have om := om.below hb
      have B13 := below_step B12 (Nat.le_refl _) hb
      have z13 := hb.size
      clear B12 hb
      have hnh : nh = ng := oh.len.symm.trans hw.1
      subst nh
      clear H1
      have H1 := oh.recs
      clear oh
      go_wp2_with fail
      refine (eqItemS_same _ _ _ _ _ w13.heap.size _ _ hngm H1 (hw.more (by omega)) (Nat.le_refl _)).mono ?_
      rintro e w14 ⟨rfl, hb⟩
      have hw := hw.below (hb.mono (by omega))
      have om := om.below hb
      have B14 := below_step B13 (Nat.le_refl _) hb
      have z14 := hb.size
      clear B13 hb
      clear H1
      clear hw
      have H1 := om.recs
      go_wp2_with fail
      refine (heldItemS_any _ _ _ _ 1 H1 (by omega) (by omega)).mono ?_
      rintro e w15 ⟨rfl, hb⟩
      have om := om.below hb
      have B15 := below_step B14 (Nat.le_refl _) hb
      have z15 := hb.size
      clear B14 hb
      clear H1
      go_wp2_with fail
      go_ret
      exact ⟨rfl, B15⟩
theorem walkFnExactDictAdd (HC : DictAddC) (A : Option Addr) (n c : Nat) (d : List Item) (s : ByteArray) (m : Int) (w : World) (hn : n ≤ maxLen) (h : Recs itemL w w.heap.size A n d) (hs : s.size ≤ maxLen) (hm : I64 m) :
    Calls Try.prog 13 #[.slice A n c, .string s, .int .i64 m] w fun e w' => e = .returned (.bool true) ∧ Below w.heap.size w w' := by
  have HC := Lib.hid HC
  have hn' := hn
  have hs' := hs
  unfold maxLen at hn hs
  by_cases q0 : (1048576 : Int) < s.size
  · go_enter Try.func13, Try.ntmps13
    go_wp2_with fail
    go_ret
    exact ⟨rfl, Below.refl _ _⟩
  · have q0' := q0
    go_enter Try.func13, Try.ntmps13
    go_wp2_with fail
    refine (szItemS_any _ _ _ w.heap.size d _ _ hn' h (Nat.le_refl _) (by omega) (by omega)).mono ?_
    rintro e w0 ⟨r, rfl, hr, hrk, B0⟩
    by_cases hneg : r < 0
    · clear hr
      go_wp2_with fail
      go_ret
      exact ⟨rfl, B0⟩
    · have hn1 : n ≤ 1048576 := by have := hr (by omega); omega
      clear hr
      have ha := h.below B0
      have z0 := B0.size
      clear h
      have hq : ((addR d s m).2 != (addR d s m).2) = false := by simp
      go_wp2_with fail
      refine (toItemS_any _ _ _ w.heap.size d _ hn1 ha B0.size).mono ?_
      rintro e w1 ⟨g1, rfl, o1, hb⟩
      have ha := ha.below (hb.mono B0.size)
      have B1 := below_step B0 (Nat.le_refl _) hb
      have z1 := hb.size
      clear B0 hb
      have H1 := o1.recs
      go_wp2_with fail
      refine (dictAdd_spec _ _ _ _ _ _ _ _ _ hn1 (Nat.le_refl _) hn' H1 (Nat.le_refl _) hs' hm).mono ?_
      rintro e w2 ⟨Aw, nw, cw, rfl, ow, hb⟩
      have ha := ha.below (hb.mono B1.size)
      have o1 := o1.below hb
      have B2 := below_step B1 (Nat.le_refl _) hb
      have z2 := hb.size
      clear B1 hb
      have hw := ow.recs
      clear ow
      clear H1 o1
      go_wp2_with fail
      refine (toItemS_any _ _ _ w.heap.size d _ hn1 ha B2.size).mono ?_
      rintro e w3 ⟨gx, rfl, ox, hb⟩
      have ha := ha.below (hb.mono B2.size)
      have hw := hw.below (hb.mono (by omega))
      have B3 := below_step B2 (Nat.le_refl _) hb
      have z3 := hb.size
      clear B2 hb
      have hgx := ox.blockAt rfl
      have H1 := ox.recs
      go_wp2_with fail
      refine (HC.out _ _ _ _ _ _ _ _ hn1 (Nat.le_refl _) hn' H1 (Nat.le_refl _) hs' hm).mono ?_
      rintro e w4 ⟨Ag, ng, cg, rfl, og, hb⟩
      have ha := ha.below (hb.mono B3.size)
      have hw := hw.below (hb.mono (by omega))
      have ox := ox.below hb
      have B4 := below_step B3 (Nat.le_refl _) hb
      have z4 := hb.size
      clear B3 hb
      have hng : ng ≤ 1048577 := by have h1 := og.len; have h2 := addR_len d s m; have h3 := ha.len; omega
      have hngm : ng ≤ maxLen := by unfold maxLen; omega
      have hnw : nw = ng := hw.1.symm.trans og.len
      subst nw
      clear H1
      have H1 := og.recs
      go_wp2_with fail
      refine (eqItemS_same _ _ _ _ _ w4.heap.size _ _ hngm H1 (hw.more (by omega)) (Nat.le_refl _)).mono ?_
      rintro e w5 ⟨rfl, hb⟩
      have ha := ha.below (hb.mono B4.size)
      have hw := hw.below (hb.mono (by omega))
      have ox := ox.below hb
      have og := og.below hb
      have B5 := below_step B4 (Nat.le_refl _) hb
      have z5 := hb.size
      clear B4 hb
      clear H1
      go_wp2_with fail
      refine (toItemS_any _ _ _ w.heap.size d _ hn1 ha B5.size).mono ?_
      rintro e w6 ⟨gy, rfl, oy, hb⟩
      have ha := ha.below (hb.mono B5.size)
      have hw := hw.below (hb.mono (by omega))
      have ox := ox.below hb
      have og := og.below hb
      have B6 := below_step B5 (Nat.le_refl _) hb
      have z6 := hb.size
      clear B5 hb
      have H1 := ox.recs
      have H2 := oy.recs
      go_wp2_with fail
      refine (eqItemS_same _ _ _ _ _ w6.heap.size _ _ hn' H1 H2 (Nat.le_refl _)).mono ?_
      rintro e w7 ⟨rfl, hb⟩
      have ha := ha.below (hb.mono B6.size)
      have hw := hw.below (hb.mono (by omega))
      have ox := ox.below hb
      have og := og.below hb
      have oy := oy.below hb
      have B7 := below_step B6 (Nat.le_refl _) hb
      have z7 := hb.size
      clear B6 hb
      clear H1 H2
      clear oy
      go_wp2_with fail
      refine (markItemS_any _ _ _ _ _ _ 1 ox (by omega) (by omega) (by omega)).mono ?_
      rintro e w8 ⟨rfl, -, hg⟩
      replace hg : w7.grownBy w8 (some gx) := hg
      have ha := ha.below (Below.grown (Below.refl w.heap.size w7) hg (by omega) (by intro k hk; injection hk with hk; omega))
      have hw := hw.below (Below.grown (Below.refl w2.heap.size w7) hg (by omega) (by intro k hk; injection hk with hk; omega))
      have og := og.grown hg (fun hk => by have := (og.blockAt hk).1; omega)
      have B8 : Below w.heap.size w w8 := B7.grown hg B7.size (by intro k hk; injection hk with hk; omega)
      have z8 := hg.size
      clear hg ox B7 hgx
      have H1 := og.recs
      go_wp2_with fail
      refine (eqItemS_same _ _ _ _ _ w8.heap.size _ _ hngm H1 (hw.more (by omega)) (Nat.le_refl _)).mono ?_
      rintro e w9 ⟨rfl, hb⟩
      have ha := ha.below (hb.mono B8.size)
      have hw := hw.below (hb.mono (by omega))
      have og := og.below hb
      have B9 := below_step B8 (Nat.le_refl _) hb
      have z9 := hb.size
      clear B8 hb
      clear H1
      go_wp2_with fail
      refine (markItemS_any w3.heap.size _ _ _ _ _ 1 og (by omega) (by omega) (by omega)).mono ?_
      rintro e w10 ⟨rfl, om, hg⟩
      have hrow : ∀ k, (Value.slice Ag ng cg).ownBlock = some k → w3.heap.size ≤ k := fun k hk => (og.blockAt hk).1
      have ha := ha.below (Below.grown (Below.refl w.heap.size w9) hg (by omega) (fun k hk => by have := hrow k hk; omega))
      have hw := hw.below (Below.grown (Below.refl w2.heap.size w9) hg (by omega) (fun k hk => by have := hrow k hk; omega))
      have B10 : Below w.heap.size w w10 := B9.grown hg B9.size (fun k hk => by have := hrow k hk; omega)
      have z10 := hg.size
      clear hg og B9 hrow
      have H1 := om.recs
      go_wp2_with fail
      refine (heldItemS_any _ _ _ _ 1 H1 (by omega) (by omega)).mono ?_
      rintro e w11 ⟨rfl, hb⟩
      have ha := ha.below (hb.mono B10.size)
      have hw := hw.below (hb.mono (by omega))
      have om := om.below hb
      have B11 := below_step B10 (Nat.le_refl _) hb
      have z11 := hb.size
      clear B10 hb
      clear H1
      go_wp2_with fail
      refine (toItemS_any _ _ _ w.heap.size d _ hn1 ha B11.size).mono ?_
      rintro e w12 ⟨g4, rfl, o4, hb⟩
      have ha := ha.below (hb.mono B11.size)
      have hw := hw.below (hb.mono (by omega))
      have om := om.below hb
      have B12 := below_step B11 (Nat.le_refl _) hb
      have z12 := hb.size
      clear B11 hb
      clear ha
      have H1 := o4.recs
      clear o4
      go_wp2_with fail
      refine (HC.out _ _ _ _ _ _ _ _ hn1 (Nat.le_refl _) hn' H1 (Nat.le_refl _) hs' hm).mono ?_
      rintro e w13 ⟨Ah, nh, ch, rfl, oh, hb⟩
      have hw := hw.below (hb.mono (by omega))
      have om := om.below hb
      have B13 := below_step B12 (Nat.le_refl _) hb
      have z13 := hb.size
      clear B12 hb
      have hnh : nh = ng := oh.len.symm.trans hw.1
      subst nh
      clear H1
      have H1 := oh.recs
      clear oh
      go_wp2_with fail
      refine (eqItemS_same _ _ _ _ _ w13.heap.size _ _ hngm H1 (hw.more (by omega)) (Nat.le_refl _)).mono ?_
      rintro e w14 ⟨rfl, hb⟩
      have hw := hw.below (hb.mono (by omega))
      have om := om.below hb
      have B14 := below_step B13 (Nat.le_refl _) hb
      have z14 := hb.size
      clear B13 hb
      clear H1
      clear hw
      have H1 := om.recs
      go_wp2_with fail
      refine (heldItemS_any _ _ _ _ 1 H1 (by omega) (by omega)).mono ?_
      rintro e w15 ⟨rfl, hb⟩
      have om := om.below hb
      have B15 := below_step B14 (Nat.le_refl _) hb
      have z15 := hb.size
      clear B14 hb
      clear H1
      go_wp2_with fail
      go_ret
      exact ⟨rfl, B15⟩
theorem walkFnExactDictStarts (HC : DictStartsC) (A : Option Addr) (n c : Nat) (d : List Item) (s : ByteArray) (w : World) (hn : n ≤ maxLen) (h : Recs itemL w w.heap.size A n d) (hs : s.size ≤ maxLen) :
    Calls Try.prog 15 #[.slice A n c, .string s] w fun e w' => e = .returned (.bool true) ∧ Below w.heap.size w w' := by
  have HC := Lib.hid HC
  have hn' := hn
  have hs' := hs
  unfold maxLen at hn hs
  by_cases q0 : (1048576 : Int) < s.size
  · go_enter Try.func15, Try.ntmps15
    go_wp2_with fail
    go_ret
    exact ⟨rfl, Below.refl _ _⟩
  · have q0' := q0
    go_enter Try.func15, Try.ntmps15
    go_wp2_with fail
    refine (szItemS_any _ _ _ w.heap.size d _ _ hn' h (Nat.le_refl _) (by omega) (by omega)).mono ?_
    rintro e w0 ⟨r, rfl, hr, hrk, B0⟩
    by_cases hneg : r < 0
    · clear hr
      go_wp2_with fail
      go_ret
      exact ⟨rfl, B0⟩
    · have hn1 : n ≤ 1048576 := by have := hr (by omega); omega
      clear hr
      have ha := h.below B0
      have z0 := B0.size
      clear h
      go_wp2_with fail
      refine (toItemS_any _ _ _ w.heap.size d _ hn1 ha B0.size).mono ?_
      rintro e w1 ⟨g1, rfl, o1, hb⟩
      have ha := ha.below (hb.mono B0.size)
      have B1 := below_step B0 (Nat.le_refl _) hb
      have z1 := hb.size
      clear B0 hb
      have H1 := o1.recs
      go_wp2_with fail
      refine (dictStarts_spec _ _ _ _ _ _ _ hn1 H1 (Nat.le_refl _) hs').mono ?_
      rintro e w2 ⟨Aw, nw, cw, rfl, ow, hb⟩
      have ha := ha.below (hb.mono B1.size)
      have o1 := o1.below hb
      have B2 := below_step B1 (Nat.le_refl _) hb
      have z2 := hb.size
      clear B1 hb
      have hw := ow.recs
      clear ow
      clear H1 o1
      go_wp2_with fail
      refine (toItemS_any _ _ _ w.heap.size d _ hn1 ha B2.size).mono ?_
      rintro e w3 ⟨gx, rfl, ox, hb⟩
      have ha := ha.below (hb.mono B2.size)
      have hw := hw.below (hb.mono (by omega))
      have B3 := below_step B2 (Nat.le_refl _) hb
      have z3 := hb.size
      clear B2 hb
      have hgx := ox.blockAt rfl
      have H1 := ox.recs
      go_wp2_with fail
      refine (HC.out _ _ _ _ _ _ _ hn1 (Nat.le_refl _) hn' H1 (Nat.le_refl _) hs').mono ?_
      rintro e w4 ⟨Ag, ng, cg, rfl, og, hb⟩
      have ha := ha.below (hb.mono B3.size)
      have hw := hw.below (hb.mono (by omega))
      have ox := ox.below hb
      have B4 := below_step B3 (Nat.le_refl _) hb
      have z4 := hb.size
      clear B3 hb
      have hng : ng ≤ 1048577 := by have h1 := og.len; have h2 := startsR_len d s; have h3 := ha.len; omega
      have hngm : ng ≤ maxLen := by unfold maxLen; omega
      have hnw : nw = ng := hw.1.symm.trans og.len
      subst nw
      clear H1
      have H1 := og.recs
      go_wp2_with fail
      refine (eqItemS_same _ _ _ _ _ w4.heap.size _ _ hngm H1 (hw.more (by omega)) (Nat.le_refl _)).mono ?_
      rintro e w5 ⟨rfl, hb⟩
      have ha := ha.below (hb.mono B4.size)
      have hw := hw.below (hb.mono (by omega))
      have ox := ox.below hb
      have og := og.below hb
      have B5 := below_step B4 (Nat.le_refl _) hb
      have z5 := hb.size
      clear B4 hb
      clear H1
      go_wp2_with fail
      refine (toItemS_any _ _ _ w.heap.size d _ hn1 ha B5.size).mono ?_
      rintro e w6 ⟨gy, rfl, oy, hb⟩
      have ha := ha.below (hb.mono B5.size)
      have hw := hw.below (hb.mono (by omega))
      have ox := ox.below hb
      have og := og.below hb
      have B6 := below_step B5 (Nat.le_refl _) hb
      have z6 := hb.size
      clear B5 hb
      have H1 := ox.recs
      have H2 := oy.recs
      go_wp2_with fail
      refine (eqItemS_same _ _ _ _ _ w6.heap.size _ _ hn' H1 H2 (Nat.le_refl _)).mono ?_
      rintro e w7 ⟨rfl, hb⟩
      have ha := ha.below (hb.mono B6.size)
      have hw := hw.below (hb.mono (by omega))
      have ox := ox.below hb
      have og := og.below hb
      have oy := oy.below hb
      have B7 := below_step B6 (Nat.le_refl _) hb
      have z7 := hb.size
      clear B6 hb
      clear H1 H2
      clear oy
      go_wp2_with fail
      refine (markItemS_any _ _ _ _ _ _ 1 ox (by omega) (by omega) (by omega)).mono ?_
      rintro e w8 ⟨rfl, -, hg⟩
      replace hg : w7.grownBy w8 (some gx) := hg
      have ha := ha.below (Below.grown (Below.refl w.heap.size w7) hg (by omega) (by intro k hk; injection hk with hk; omega))
      have hw := hw.below (Below.grown (Below.refl w2.heap.size w7) hg (by omega) (by intro k hk; injection hk with hk; omega))
      have og := og.grown hg (fun hk => by have := (og.blockAt hk).1; omega)
      have B8 : Below w.heap.size w w8 := B7.grown hg B7.size (by intro k hk; injection hk with hk; omega)
      have z8 := hg.size
      clear hg ox B7 hgx
      have H1 := og.recs
      go_wp2_with fail
      refine (eqItemS_same _ _ _ _ _ w8.heap.size _ _ hngm H1 (hw.more (by omega)) (Nat.le_refl _)).mono ?_
      rintro e w9 ⟨rfl, hb⟩
      have ha := ha.below (hb.mono B8.size)
      have hw := hw.below (hb.mono (by omega))
      have og := og.below hb
      have B9 := below_step B8 (Nat.le_refl _) hb
      have z9 := hb.size
      clear B8 hb
      clear H1
      go_wp2_with fail
      refine (markItemS_any w3.heap.size _ _ _ _ _ 1 og (by omega) (by omega) (by omega)).mono ?_
      rintro e w10 ⟨rfl, om, hg⟩
      have hrow : ∀ k, (Value.slice Ag ng cg).ownBlock = some k → w3.heap.size ≤ k := fun k hk => (og.blockAt hk).1
      have ha := ha.below (Below.grown (Below.refl w.heap.size w9) hg (by omega) (fun k hk => by have := hrow k hk; omega))
      have hw := hw.below (Below.grown (Below.refl w2.heap.size w9) hg (by omega) (fun k hk => by have := hrow k hk; omega))
      have B10 : Below w.heap.size w w10 := B9.grown hg B9.size (fun k hk => by have := hrow k hk; omega)
      have z10 := hg.size
      clear hg og B9 hrow
      have H1 := om.recs
      go_wp2_with fail
      refine (heldItemS_any _ _ _ _ 1 H1 (by omega) (by omega)).mono ?_
      rintro e w11 ⟨rfl, hb⟩
      have ha := ha.below (hb.mono B10.size)
      have hw := hw.below (hb.mono (by omega))
      have om := om.below hb
      have B11 := below_step B10 (Nat.le_refl _) hb
      have z11 := hb.size
      clear B10 hb
      clear H1
      go_wp2_with fail
      refine (toItemS_any _ _ _ w.heap.size d _ hn1 ha B11.size).mono ?_
      rintro e w12 ⟨g4, rfl, o4, hb⟩
      have ha := ha.below (hb.mono B11.size)
      have hw := hw.below (hb.mono (by omega))
      have om := om.below hb
      have B12 := below_step B11 (Nat.le_refl _) hb
      have z12 := hb.size
      clear B11 hb
      clear ha
      have H1 := o4.recs
      clear o4
      go_wp2_with fail
      refine (HC.out _ _ _ _ _ _ _ hn1 (Nat.le_refl _) hn' H1 (Nat.le_refl _) hs').mono ?_
      rintro e w13 ⟨Ah, nh, ch, rfl, oh, hb⟩
      have hw := hw.below (hb.mono (by omega))
      have om := om.below hb
      have B13 := below_step B12 (Nat.le_refl _) hb
      have z13 := hb.size
      clear B12 hb
      have hnh : nh = ng := oh.len.symm.trans hw.1
      subst nh
      clear H1
      have H1 := oh.recs
      clear oh
      go_wp2_with fail
      refine (eqItemS_same _ _ _ _ _ w13.heap.size _ _ hngm H1 (hw.more (by omega)) (Nat.le_refl _)).mono ?_
      rintro e w14 ⟨rfl, hb⟩
      have hw := hw.below (hb.mono (by omega))
      have om := om.below hb
      have B14 := below_step B13 (Nat.le_refl _) hb
      have z14 := hb.size
      clear B13 hb
      clear H1
      clear hw
      have H1 := om.recs
      go_wp2_with fail
      refine (heldItemS_any _ _ _ _ 1 H1 (by omega) (by omega)).mono ?_
      rintro e w15 ⟨rfl, hb⟩
      have om := om.below hb
      have B15 := below_step B14 (Nat.le_refl _) hb
      have z15 := hb.size
      clear B14 hb
      clear H1
      go_wp2_with fail
      go_ret
      exact ⟨rfl, B15⟩
end Go.Proofs.Ytopjhdgpdcdklaa
