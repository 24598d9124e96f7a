/- The walk of the exact law of ListOf. -/
import Derived.Test.YtmlokccdgajamaaImplListOf
import Derived.Test.YtmlokccdgajamaaListDraw
import Derived.Test.YtmlokccdgajamaaMark
namespace Go.Proofs.Ytmlokccdgajamaa
open Go.RowKit
set_option maxHeartbeats 1600000
set_option linter.unusedSimpArgs false
set_option linter.unusedVariables false

theorem own_below {w w' : World} {base e size n : Nat} {v : Value} {xs : List Value} (h : w.ownsRow base e size v n xs) (hb : Below w.heap.size w w') : w'.ownsRow base e size v n xs :=
  h.kept (row := none) ⟨hb.os, hb.tape, hb.output, hb.size, fun i hi _ => hb.block i hi⟩ (by
    cases hv : v.ownBlock with
    | none => exact .inl rfl
    | some g => exact .inr (by simp))
theorem own_block_ne {w : World} {base e size n g : Nat} {v : Value} {xs : List Value} (h : w.ownsRow base e size v n xs) (hg : g < base) : v.ownBlock = none ∨ v.ownBlock ≠ some g := by
  right; intro e1; have := (h.lt g e1).1; omega
theorem eqStringS_is {A1 A2 : Option Addr} {n1 n2 B : Nat} {ss : List ByteArray} (c1 c2 : Nat) (w : World) (hn1 : n1 ≤ maxLen) (hn2 : n2 ≤ maxLen) (h1 : Strs w B A1 n1 ss) (h2 : Strs w B A2 n2 ss) :
    Calls Try.prog 32 #[.slice A1 n1 c1, .slice A2 n2 c2] w fun e w' => e = .returned (.bool true) ∧ Drawn w w' :=
  (eqStringS_any A1 A2 n1 c1 n2 c2 B ss ss w hn1 hn2 h1 h2).mono fun e w' ⟨he, hd⟩ => ⟨by rw [he, decide_eq_true rfl], hd⟩

theorem walkFnExactListOf (A : Option Addr) (n c : Nat) (ss : List ByteArray) (w : World) (h : Strs w w.heap.size A n ss) (hn : n ≤ maxLen) :
    Calls Try.prog 10 #[.slice A n c] w fun e w' => e = .returned (.bool true) ∧ Below w.heap.size w w' := by
  go_enter Try.func10, Try.ntmps10
  go_wp2_with fail
  refine (szStringS_any _ _ _ w.heap.size ss _ _ hn h (by omega) (by omega)).mono ?_
  rintro e w' ⟨r, rfl, rfl, hr⟩
  by_cases hneg : r < 0
  · clear hr
    go_wp2_with fail
    go_ret
    exact ⟨rfl, Below.refl _ _⟩
  · obtain ⟨hn1, hs1⟩ := hr (by omega)
    have HS := Lib.hid (fun (s : ByteArray) (hs : s ∈ ss) => show s.size ≤ maxLen by have := hs1 s hs; unfold maxLen; omega)
    clear hr hs1
    go_wp2_with fail
    refine (toStringS_any _ _ _ w.heap.size ss _ (by omega) h (by omega)).mono ?_
    rintro e wa ⟨g1, c1, rfl, ho1, hba⟩
    have hsa := Strs.of_own ho1 HS.out
    clear ho1
    go_wp2_with fail
    refine (listOf_spec _ _ _ wa.heap.size ss _ hn hsa (Nat.le_refl _)).mono ?_
    rintro e wb ⟨g2, n2, cap2, rfl, ow0, hbb⟩
    have B1 := below_step hba (Nat.le_refl _) hbb
    have hw0 := ow0.strs
    have hn2 : n2 ≤ maxLen := Nat.le_trans ow0.caps.1 ow0.caps.2
    have ha := h.below B1
    clear hsa hba hbb ow0 h
    go_wp2_with fail
    refine (toStringS_any _ _ _ w.heap.size ss _ (by omega) ha B1.size).mono ?_
    rintro e wc ⟨gx, cx, rfl, ox, hbc⟩
    have B2 := below_step B1 (Nat.le_refl _) hbc
    have hw0 := hw0.below hbc
    have ha := ha.below (hbc.mono B1.size)
    have hx := Strs.of_own ox HS.out
    have hgx := ox.lt gx rfl
    have z1 := hbc.size
    have z0 := B1.size
    clear B1
    go_wp2_with fail
    refine (listOf_impl _ _ _ wc.heap.size ss _ hn hx (Nat.le_refl _)).mono ?_
    rintro e wd ⟨Ag, ng, cg, rfl, og, hsg, hbd⟩
    have B3 := below_step B2 (Nat.le_refl _) hbd
    have hw0 := hw0.below (hbd.mono z1)
    have ha := ha.below (hbd.mono B2.size)
    have ox := own_below ox hbd
    have hg := Strs.of_own og hsg
    have hng : ng ≤ maxLen := by have := hg.1; have := hw0.1; omega
    have hng2 : ng ≤ 1048576 := by
      have h1 := hg.1
      have h2 := (foldIns_facts ss []).2
      have h3 := ha.1
      have h4 : (listOfB ss).length ≤ ss.length := by
        unfold listOfB
        split
        · simpa [foldIns] using h2
        · simp
      omega
    have z2 := hbd.size
    clear B2 hx hbc hbd
    go_wp2_with fail
    refine (eqStringS_is (B := wd.heap.size) _ _ _ hng hn2 hg (hw0.more (by omega))).mono ?_
    rintro e we ⟨rfl, hde⟩
    have B4 := below_step B3 (Nat.le_refl _) hde.below
    have hw0 := hw0.drawn hde
    have ha := ha.drawn hde
    have ox := own_below ox hde.below
    have og := own_below og hde.below
    have z3 := hde.size
    clear B3 hg hde
    go_wp2_with fail
    refine (toStringS_any _ _ _ w.heap.size ss _ (by omega) ha B4.size).mono ?_
    rintro e wf ⟨g3, c3, rfl, o3, hbf⟩
    have B5 := below_step B4 (Nat.le_refl _) hbf
    have hw0 := hw0.below (hbf.mono (by omega))
    have ha := ha.below (hbf.mono B4.size)
    have ox := own_below ox hbf
    have og := own_below og hbf
    have h3 := Strs.of_own o3 HS.out
    have hx := Strs.of_own ox HS.out
    have z4 := hbf.size
    clear B4 o3 hbf
    go_wp2_with fail
    refine (eqStringS_is (B := wf.heap.size) _ _ _ hn hn hx h3).mono ?_
    rintro e wg ⟨rfl, hdg⟩
    have B6 := below_step B5 (Nat.le_refl _) hdg.below
    have hw0 := hw0.drawn hdg
    have ha := ha.drawn hdg
    have ox := own_below ox hdg.below
    have og := own_below og hdg.below
    have z5 := hdg.size
    clear B5 h3 hx hdg
    go_wp2_with fail
    refine (markStringS_any wb.heap.size (some ⟨gx, 0, none⟩) n cx ss _ 1 ox (by omega) (by omega) (by omega)).mono ?_
    rintro e wh ⟨rfl, -, hgh⟩
    have hgh : wg.grownBy wh (some gx) := hgh
    have B7 : Below w.heap.size w wh := B6.grown hgh B6.size (by intro k hk; injection hk with hk; omega)
    have hw0 := hw0.below (Below.grown (Below.refl wb.heap.size wg) hgh (by omega) (by intro k hk; injection hk with hk; omega))
    have ha := ha.below (Below.grown (Below.refl w.heap.size wg) hgh B6.size (by intro k hk; injection hk with hk; omega))
    have og := og.kept hgh (own_block_ne og hgx.2)
    have hg := Strs.of_own og hsg
    have z6 := hgh.size
    clear B6 ox hgh
    go_wp2_with fail
    refine (eqStringS_is (B := wh.heap.size) _ _ _ hng hn2 hg (hw0.more (by omega))).mono ?_
    rintro e wi ⟨rfl, hdi⟩
    have B8 := below_step B7 (Nat.le_refl _) hdi.below
    have hw0 := hw0.drawn hdi
    have ha := ha.drawn hdi
    have og := own_below og hdi.below
    have z7 := hdi.size
    clear B7 hg hdi
    go_wp2_with fail
    refine (markStringS_any wc.heap.size Ag ng cg (listOfB ss) _ 1 og (by omega) (by omega) (by omega)).mono ?_
    rintro e wj ⟨rfl, om, hgj⟩
    have hrow : ∀ k, (Value.slice Ag ng cg).ownBlock = some k → wc.heap.size ≤ k := fun k hk => (og.lt k hk).1
    have B9 : Below w.heap.size w wj := B8.grown hgj B8.size (fun k hk => by have := hrow k hk; have := B8.size; omega)
    have hw0 := hw0.below (Below.grown (Below.refl wb.heap.size wi) hgj (by omega) (fun k hk => by have := hrow k hk; omega))
    have ha := ha.below (Below.grown (Below.refl w.heap.size wi) hgj B8.size (fun k hk => by have := hrow k hk; have := B8.size; omega))
    have hmk : ∀ s ∈ marks 1 ng, s.size ≤ maxLen := by
      intro s hs
      unfold marks at hs
      obtain ⟨i, _, rfl⟩ := List.mem_map.1 hs
      have := markT_size (1 + i)
      unfold maxLen; omega
    have hm := Strs.of_own om hmk
    have z8 := hgj.size
    clear B8 og hgj hrow
    go_wp2_with fail
    refine (heldStringS_any Ag ng cg _ 1 hm (by omega) (by omega)).mono ?_
    rintro e wk ⟨rfl, hbk⟩
    have B10 := below_step B9 (Nat.le_refl _) hbk
    have hw0 := hw0.below (hbk.mono (by omega))
    have ha := ha.below (hbk.mono B9.size)
    have om := own_below om hbk
    have z9 := hbk.size
    clear B9 hm hbk
    go_wp2_with fail
    refine (toStringS_any _ _ _ w.heap.size ss _ (by omega) ha B10.size).mono ?_
    rintro e wl ⟨g4, c4, rfl, o4, hbl⟩
    have B11 := below_step B10 (Nat.le_refl _) hbl
    have hw0 := hw0.below (hbl.mono (by omega))
    have om := own_below om hbl
    have h4 := Strs.of_own o4 HS.out
    have z10 := hbl.size
    clear B10 o4 hbl ha
    go_wp2_with fail
    refine (listOf_impl _ _ _ wl.heap.size ss _ hn h4 (Nat.le_refl _)).mono ?_
    rintro e wm ⟨Ah, nh, ch, rfl, oh, hsh, hbm⟩
    have B12 := below_step B11 (Nat.le_refl _) hbm
    have hw0 := hw0.below (hbm.mono (by omega))
    have om := own_below om hbm
    have hh := Strs.of_own oh hsh
    have hnh : nh ≤ maxLen := by have := hh.1; have := hw0.1; omega
    have z11 := hbm.size
    clear B11 h4 oh hbm
    go_wp2_with fail
    refine (eqStringS_is (B := wm.heap.size) _ _ _ hnh hn2 hh (hw0.more (by omega))).mono ?_
    rintro e wn ⟨rfl, hdn⟩
    have B13 := below_step B12 (Nat.le_refl _) hdn.below
    have om := own_below om hdn.below
    have hm := Strs.of_own om hmk
    clear B12 hh hdn hw0
    go_wp2_with fail
    refine (heldStringS_any Ag ng cg _ 1 hm (by omega) (by omega)).mono ?_
    rintro e wo ⟨rfl, hbo⟩
    have B14 := below_step B13 (Nat.le_refl _) hbo
    go_wp2_with fail
    go_ret
    exact ⟨rfl, B14⟩
end Go.Proofs.Ytmlokccdgajamaa
