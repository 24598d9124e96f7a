/- A slice of changes that came in ([]laws.Edit): what it is. -/
import Derived.Test.YtmdmjhnjhelccaaOpenChg
import Derived.Test.YtmdmjhnjhelccaaChgs
import Derived.Deep.Strs
namespace Go.Proofs.Ytmdmjhnjhelccaa
open Go.RowKit
set_option linter.unusedVariables false

theorem chg_of_cells {H : Type} {enc : TypeId × Value → H} {W : World} {base : Nat} {spare : Nat → Bool} {held : Bool} {fuel : Nat} {cs : List Value} {y : DataW H × List MemPlace}
    (h : DataW.trod enc Try.prog W base spare held fuel 42 cs = some y) : ∃ e : Chg, cs = chgCells e := by
  obtain ⟨y0, y1, y2, m, -, hl, t0, t1, t2⟩ := Go.Deep.trod_struct3 Try.underlying42 h
  have h3 : Try.prog.cellsOf 42 = 3 := by kernel_rfl
  have g0 : Try.prog.cellsOf 3 = 1 := by kernel_rfl
  have g2 : Try.prog.cellsOf 5 = 1 := by kernel_rfl
  rw [h3] at hl
  match cs, hl with
  | [c0, c1, c2], _ =>
    simp only [g0, g2] at t0 t1 t2
    obtain ⟨k, e0, -, -⟩ := DataW.trod_int Try.underlying3 t0
    obtain ⟨q, e1, -, -⟩ := DataW.trod_int Try.underlying3 t1
    obtain ⟨z, e2, -, hw⟩ := DataW.trod_int Try.underlying5 t2
    have hb : 0 ≤ z ∧ z ≤ 255 := by simpa [Lit.wf, IntKind.min, IntKind.max, IntKind.signed, IntKind.bits] using hw
    obtain ⟨c, rfl⟩ := u8_of hb.1 hb.2
    simp at e0 e1 e2
    subst e0 e1 e2
    exact ⟨⟨k, q, c⟩, rfl⟩
theorem add_at (b o i : Nat) : (⟨b, o, none⟩ : Addr).add i = ⟨b, o + i, none⟩ := by
  unfold Addr.add
  split
  · simp_all
  · rfl
theorem chgs_of_trod {H : Type} {enc : TypeId × Value → H} {W : World} {base : Nat} {spare : Nat → Bool} {held : Bool} {fuel : Nat} {A : Option Addr} {n c : Nat} {x : DataW H × List MemPlace}
    (h : DataW.trod enc Try.prog W base spare held fuel 45 [.slice A n c] = some x) :
    ∃ l, Chgs W W.heap.size A n l ∧ n ≤ c ∧ c ≤ maxLen := by
  rcases DataW.trod_slice Try.underlying45 h with ⟨hcs, -⟩ | ⟨a, len, cap, elems, rest, m, -, hcs, -, hba, hlc, hcm, hel, hall, -, -⟩
  · simp at hcs
    obtain ⟨rfl, rfl, rfl⟩ := hcs
    exact ⟨[], Chgs.none_, Nat.le_refl _, Nat.zero_le _⟩
  · simp at hcs
    obtain ⟨rfl, rfl, rfl⟩ := hcs
    have h3 : Try.prog.cellsOf 42 = 3 := by kernel_rfl
    rw [h3] at hall
    have each : ∀ i, i < n → ∃ e : Chg, W.cells? base (a.add (i * 3)) 3 = some (chgCells e) := by
      intro i hi
      have hh := hall i hi
      rw [List.getElem?_eq_getElem (by omega)] at hh
      cases hc : W.cells? base (a.add (i * 3)) 3 with
      | none => rw [hc] at hh; simp at hh
      | some cs =>
        rw [hc] at hh
        obtain ⟨e, rfl⟩ := chg_of_cells hh
        exact ⟨e, rfl⟩
    refine ⟨List.ofFn fun i : Fin n => (each i.1 i.2).choose, ⟨by simp, fun hn => ?_⟩, hlc, hcm⟩
    obtain ⟨b, o, spot⟩ := a
    have h0 : W.cell? ((⟨b, o, spot⟩ : Addr).add 0) = some (.int .i64 (each 0 hn).choose.k) := by
      have := (World.cells?_some (each 0 hn).choose_spec).2.2 0 (by omega)
      simpa [Addr.add, chgCells] using this
    have hsp : spot = none := by simpa [Addr.add] using World.cell?_spot h0
    subst hsp
    refine ⟨b, o, rfl, ?_, fun j e hj => ?_⟩
    · have := World.block_lt_of_cell? _ _ h0; simpa [Addr.add] using this
    · obtain ⟨hjl, hje⟩ := List.getElem?_eq_some_iff.1 hj
      have hjn : j < n := by simpa using hjl
      rw [List.getElem_ofFn] at hje
      have hc := (World.cells?_some (each j hjn).choose_spec).2.2
      rw [hje] at hc
      have c0 := hc 0 (by omega)
      have c1 := hc 1 (by omega)
      have c2 := hc 2 (by omega)
      rw [add_at, add_at] at c0 c1 c2
      exact ⟨c0, c1, c2⟩
end Go.Proofs.Ytmdmjhnjhelccaa
