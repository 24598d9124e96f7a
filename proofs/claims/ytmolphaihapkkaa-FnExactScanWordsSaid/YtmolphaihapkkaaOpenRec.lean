/- A slice of records that came in: what it is. -/
import Derived.Test.YtmolphaihapkkaaRecs
import Derived.Lib.SmallJoins
import Derived.Deep.Strs
namespace Go.Proofs.Ytmolphaihapkkaa
open Go.RowKit
set_option linter.unusedVariables false

theorem addr_add_at (b o i : Nat) : (⟨b, o, none⟩ : Addr).add i = ⟨b, o + i, none⟩ := by
  unfold Addr.add
  split
  · simp_all
  · rfl
/-- a slice of records, if each of them is one -/
theorem recs_of_trod {α : Type} (R : Rec α) (hk : Try.prog.cellsOf R.E = R.k) {H : Type} {enc : TypeId × Value → H} {W : World} {base : Nat} {spare : Nat → Bool} {held : Bool} {fuel : Nat} {A : Option Addr} {n c : Nat} {x : DataW H × List MemPlace}
    (each1 : ∀ (fuel : Nat) (cs : List Value) (y : DataW H × List MemPlace), DataW.trod enc Try.prog W base spare held fuel R.E cs = some y → ∃ e : α, cs = R.enc e ∧ R.ok e)
    (h : DataW.trod enc Try.prog W base spare held fuel R.S [.slice A n c] = some x) :
    ∃ l, Recs R W W.heap.size A n l ∧ n ≤ c ∧ c ≤ maxLen := by
  rcases DataW.trod_slice R.under h with ⟨hcs, -⟩ | ⟨a, len, cap, elems, rest, m, -, hcs, -, hba, hlc, hcm, hel, hall, -, -⟩
  · simp at hcs
    obtain ⟨rfl, rfl, rfl⟩ := hcs
    exact ⟨[], Recs.nothing none, Nat.le_refl _, Nat.zero_le _⟩
  · simp at hcs
    obtain ⟨rfl, rfl, rfl⟩ := hcs
    rw [hk] at hall
    have each : ∀ i, i < n → ∃ e : α, W.cells? base (a.add (i * R.k)) R.k = some (R.enc e) ∧ R.ok e := by
      intro i hi
      have hh := hall i hi
      rw [List.getElem?_eq_getElem (by omega)] at hh
      cases hc : W.cells? base (a.add (i * R.k)) R.k with
      | none => rw [hc] at hh; simp at hh
      | some cs =>
        rw [hc] at hh
        obtain ⟨e, rfl, ho⟩ := each1 _ _ _ hh
        exact ⟨e, rfl, ho⟩
    refine ⟨List.ofFn fun i : Fin n => (each i.1 i.2).choose, ⟨by simp, fun x hx => ?_, fun hn => ?_⟩, hlc, hcm⟩
    · obtain ⟨i, rfl⟩ := List.mem_ofFn.1 hx
      exact (each i.1 i.2).choose_spec.2
    · obtain ⟨b, o, spot⟩ := a
      have hp := R.pos
      have h0 := (World.cells?_some (each 0 hn).choose_spec.1).2.2 0 hp
      have hl0 : 0 < (R.enc (each 0 hn).choose).length := by rw [R.len]; exact hp
      rw [List.getElem?_eq_getElem hl0] at h0
      have hsp : spot = none := by have := World.cell?_spot h0; simpa [Addr.add] using this
      subst hsp
      refine ⟨b, o, rfl, ?_, fun j e hj i v hv => ?_⟩
      · have := World.block_lt_of_cell? _ _ h0; simpa [Addr.add] using this
      · obtain ⟨hjl, hje⟩ := List.getElem?_eq_some_iff.1 hj
        have hjn : j < n := by simpa using hjl
        rw [List.getElem_ofFn] at hje
        have hc := (World.cells?_some (each j hjn).choose_spec.1).2.2
        rw [hje] at hc
        have hi : i < R.k := by have := (List.getElem?_eq_some_iff.1 hv).1; rw [R.len] at this; exact this
        have c0 := hc i hi
        rw [addr_add_at, addr_add_at, hv] at c0
        exact c0
end Go.Proofs.Ytmolphaihapkkaa
