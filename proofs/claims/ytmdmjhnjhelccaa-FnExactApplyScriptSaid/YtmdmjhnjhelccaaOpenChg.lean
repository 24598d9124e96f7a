/- A change that came in by value (laws.Edit): what it is. -/
import Derived.Test.YtmdmjhnjhelccaaRevSpec
import Derived.Lib.SmallJoins
namespace Go.Proofs.Ytmdmjhnjhelccaa
open Go.RowKit
set_option linter.unusedVariables false

theorem u8_of {z : Int} (h0 : 0 ≤ z) (h1 : z ≤ 255) : ∃ c : UInt8, z = (c.toNat : Int) := ⟨UInt8.ofNat z.toNat, by rw [UInt8.toNat_ofNat']; omega⟩
theorem open_chg {H : Type} {enc : TypeId × Value → H} {W : World} {r : Reach} {base b0 : Nat} {spare : Nat → Bool} {held : Bool} {v : Value} {d : DataW H} {p : List MemPlace}
    (hv : Value.okWide Try.prog W r b0 42 v) (h : DataW.Trod enc Try.prog W base spare held 42 v d p) : ∃ (k q : Int) (c : UInt8), v = .agg #[.int .i64 k, .int .i64 q, .int .u8 (c.toNat : Int)] := by
  obtain ⟨x0, x1, x2, y0, y1, y2, m, rfl, -, -, t0, t1, t2⟩ := Go.Joins.open_agg3 Try.underlying42 (by kernel_rfl) (by kernel_rfl) hv h
  obtain ⟨k, e0, -, -⟩ := DataW.trod_int Try.underlying3 t0
  obtain ⟨q, e1, -, -⟩ := DataW.trod_int Try.underlying3 t1
  obtain ⟨z, e2, -, hw⟩ := DataW.trod_int Try.underlying5 t2
  have hb : 0 ≤ z ∧ z ≤ 255 := by simpa [Lit.wf, IntKind.min, IntKind.max, IntKind.signed, IntKind.bits] using hw
  obtain ⟨c, rfl⟩ := u8_of hb.1 hb.2
  simp only [List.cons.injEq, and_true] at e0 e1 e2
  subst e0 e1 e2
  exact ⟨k, q, c, rfl⟩
end Go.Proofs.Ytmdmjhnjhelccaa
