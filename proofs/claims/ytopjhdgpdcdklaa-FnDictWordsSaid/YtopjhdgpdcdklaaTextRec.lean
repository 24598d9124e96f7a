/- Texts as records of one cell: the laws of Recs for rows of texts. -/
import Derived.Test.YtopjhdgpdcdklaaMakeRecs
import Derived.Test.YtopjhdgpdcdklaaTx
namespace Go.Proofs.Ytopjhdgpdcdklaa
open Go.RowKit
set_option maxHeartbeats 400000
set_option linter.unusedSimpArgs false
set_option linter.unusedVariables false

def textR : Rec ByteArray where
  enc s := [.string s]
  k := 1
  ok s := s.size ≤ maxLen
  E := 9
  S := 30
  bytes := 16
  len _ := rfl
  one _ v h := by simp at h; subst h; rfl
  pos := by omega
  small := by omega
  z := .string ⟨#[]⟩
  zk := rfl
  under := Try.underlying30
  info := by kernel_rfl
theorem textR_row (ss : List ByteArray) : textR.row ss = ss.map Value.string := by
  induction ss with
  | nil => rfl
  | cons s ss ih => unfold Rec.row at ih ⊢; rw [List.flatMap_cons, ih]; rfl
theorem ownTx_iff {w : World} {base n cap : Nat} {A : Option Addr} {ss : List ByteArray} : OwnR textR w base A n cap ss ↔ OwnTx w base A n cap ss := by
  unfold OwnR OwnTx
  rw [textR_row]
  exact Iff.rfl
theorem strs_recs {w : World} {B n : Nat} {A : Option Addr} {ss : List ByteArray} (h : Strs w B A n ss) : Recs textR w B A n ss := by
  obtain ⟨h1, h2, h3⟩ := h
  refine ⟨h1, h2, fun hn => ?_⟩
  obtain ⟨b, o, hA, hb, hc⟩ := h3 hn
  refine ⟨b, o, hA, hb, fun j e he i v hv => ?_⟩
  have hi : i = 0 := by
    have := (List.getElem?_eq_some_iff.1 hv).1
    have hl : (textR.enc e).length = 1 := rfl
    omega
  subst hi
  have hv2 : v = .string e := by
    have : (textR.enc e)[0]? = some (Value.string e) := rfl
    rw [this] at hv; injection hv with h; exact h.symm
  subst hv2
  have := hc j e he
  show w.cell? ⟨b, o + j * 1 + 0, none⟩ = _
  rw [Nat.mul_one, Nat.add_zero]; exact this
theorem recs_strs {w : World} {B n : Nat} {A : Option Addr} {ss : List ByteArray} (h : Recs textR w B A n ss) : Strs w B A n ss := by
  obtain ⟨h1, h2, h3⟩ := h
  refine ⟨h1, h2, fun hn => ?_⟩
  obtain ⟨b, o, hA, hb, hc⟩ := h3 hn
  refine ⟨b, o, hA, hb, fun j s hs => ?_⟩
  have := hc j s hs 0 (.string s) rfl
  rw [show o + j * textR.k + 0 = o + j by show o + j * 1 + 0 = o + j; omega] at this
  exact this
end Go.Proofs.Ytopjhdgpdcdklaa
