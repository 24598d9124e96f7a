/- Hits in memory. -/
import Derived.Test.YtmolphaihapkkaaRecs
import Derived.Test.YtmolphaihapkkaaHits
import Derived.Test.YtmolphaihapkkaaShared
namespace Go.Proofs.Ytmolphaihapkkaa
open Go.RowKit
set_option maxHeartbeats 400000
set_option linter.unusedSimpArgs false
set_option linter.unusedVariables false

def hitEnc (x : Hit) : List Value := [.string x.1, .int .i64 x.2]
/-- the hits of the program and of the model -/
def hitR : Rec Hit where
  enc := hitEnc
  k := 2
  ok x := x.1.size ≤ maxLen ∧ I64 x.2
  E := 28
  S := 23
  bytes := 24
  len _ := rfl
  one x v hv := by
    simp only [hitEnc, List.mem_cons, List.not_mem_nil, or_false] at hv
    rcases hv with rfl | rfl <;> rfl
  pos := by omega
  small := by omega
  z := .agg #[.string ⟨#[]⟩, .int .i64 0]
  zk := rfl
  under := Try.underlying23
  info := by kernel_rfl
abbrev Hits (w : World) (B : Nat) (A : Option Addr) (n : Nat) (d : List Hit) : Prop := Recs hitR w B A n d
abbrev OwnHits (w : World) (base : Nat) (A : Option Addr) (n cap : Nat) (d : List Hit) : Prop := OwnR hitR w base A n cap d
section
variable {w : World} {B n : Nat} {A : Option Addr} {d : List Hit}
/-- the hit at a place -/
theorem hits_at {k : Nat} (h : Hits w B A n d) (hk : k < n) : ∃ b o s c, A = some ⟨b, o, none⟩ ∧ b < B ∧ d[k]? = some (s, c) ∧ s.size ≤ maxLen ∧ I64 c ∧ w.cell? ⟨b, o + k * 2, none⟩ = some (.string s) ∧ w.cell? ⟨b, o + k * 2 + 1, none⟩ = some (.int .i64 c) := by
  obtain ⟨b, o, ⟨s, c⟩, hA, hb, hd, hok, hc⟩ := h.at_ hk
  exact ⟨b, o, s, c, hA, hb, hd, hok.1, hok.2, hc 0 _ rfl, hc 1 _ rfl⟩
theorem hits_cell {b o k : Nat} {x : Hit} (h : Hits w B (some ⟨b, o, none⟩) n d) (hx : d[k]? = some x) : w.cell? ⟨b, o + k * 2, none⟩ = some (.string x.1) ∧ w.cell? ⟨b, o + k * 2 + 1, none⟩ = some (.int .i64 x.2) :=
  ⟨h.cell (i := 0) hx rfl, h.cell (i := 1) hx rfl⟩
/-- a new block of one hit reads so -/
theorem hits_one (w : World) (s : ByteArray) (c : Int) (hs : s.size ≤ maxLen) (hc : I64 c) : Hits (w.alloc (.cells #[.string s, .int .i64 c] 28)) (w.heap.size + 1) (some ⟨w.heap.size, 0, none⟩) 1 [(s, c)] := by
  have h := (OwnR.lit (R := hitR) w (s, c) ⟨hs, hc⟩).recs
  have e : (w.alloc (.cells (hitR.enc (s, c)).toArray hitR.E)).heap.size = w.heap.size + 1 := by simp
  rw [e] at h
  exact h
end

theorem hits_empty (w : World) : OwnHits (w.alloc (.cells #[] 28)) w.heap.size (some ⟨w.heap.size, 0, none⟩) 0 0 [] := OwnR.empty w
end Go.Proofs.Ytmolphaihapkkaa
