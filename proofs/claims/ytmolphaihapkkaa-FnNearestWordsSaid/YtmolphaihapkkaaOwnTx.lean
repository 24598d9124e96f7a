/- Rows of texts with the same laws as rows of records (Recs): for the exact laws whose answers are texts. -/
import Derived.Test.YtmolphaihapkkaaMark
import Derived.Test.YtmolphaihapkkaaRecs
import Derived.Test.YtmolphaihapkkaaTx
namespace Go.Proofs.Ytmolphaihapkkaa
open Go.RowKit
set_option maxHeartbeats 800000
set_option linter.unusedSimpArgs false
set_option linter.unusedVariables false

theorem eqTexts_same (A1 A2 : Option Addr) (n c1 c2 B : Nat) (ss : List ByteArray) (w : World) (hn : n ≤ maxLen) (h1 : Strs w B A1 n ss) (h2 : Strs w B A2 n ss) (hB : B ≤ w.heap.size) :
    Calls Try.prog 37 #[.slice A1 n c1, .slice A2 n c2] w fun e w' => e = .returned (.bool true) ∧ Below w.heap.size w w' :=
  (eqStringS_any A1 A2 n c1 n c2 B ss ss w hn hn h1 h2).mono fun e w' ⟨he, hd⟩ => ⟨by rw [he, decide_eq_true rfl], hd.below⟩
theorem marks_ok (k n : Nat) : ∀ s ∈ marks k n, s.size ≤ maxLen := by
  intro s hs
  unfold marks at hs
  obtain ⟨i, _, rfl⟩ := List.mem_map.1 hs
  have := markT_size (k + i)
  unfold maxLen; omega
theorem markTexts_any (base : Nat) (A : Option Addr) (n c : Nat) (l : List ByteArray) (w : World) (k : Nat) (hown : OwnTx w base A n c l) (hb : base ≤ w.heap.size) (h0 : 0 < k) (hk : k + n ≤ 3000000) :
    Calls Try.prog 38 #[.slice A n c, .int .i64 k] w fun e w' => e = .returned (.int .i64 ((k + n : Nat) : Int)) ∧ OwnTx w' base A n c (marks k n) ∧ w.grownBy w' (Value.slice A n c).ownBlock :=
  (markStringS_any base A n c l w k hown.1 hb h0 hk).mono fun e w' ⟨he, ho, hg⟩ => ⟨he, ⟨ho, marks_ok k n⟩, hg⟩
theorem heldTexts_any (A : Option Addr) (n c : Nat) (w : World) (k : Nat) (h : Strs w w.heap.size A n (marks k n)) (h0 : 0 < k) (hk : k + n ≤ 3000000) :
    Calls Try.prog 41 #[.slice A n c, .int .i64 k] w fun e w' => e = .returned (.int .i64 ((k + n : Nat) : Int)) ∧ Below w.heap.size w w' := heldStringS_any A n c w k h h0 hk
theorem OwnR.caps' {α : Type} {R : Rec α} {w : World} {base n cap : Nat} {A : Option Addr} {l : List α} (h : OwnR R w base A n cap l) : n ≤ cap ∧ cap ≤ maxLen := by
  rcases h.shape with ⟨_, rfl, rfl⟩ | ⟨_, _, _, _, h1, h2⟩
  · exact ⟨Nat.le_refl _, Nat.zero_le _⟩
  · exact ⟨h1, h2⟩
theorem OwnTx.caps' {w : World} {base n cap : Nat} {A : Option Addr} {ss : List ByteArray} (h : OwnTx w base A n cap ss) : n ≤ cap ∧ cap ≤ maxLen := h.caps
theorem toTexts_any (A : Option Addr) (n c B : Nat) (ss : List ByteArray) (w : World) (hn : n ≤ 1048576) (h : Strs w B A n ss) (hB : B ≤ w.heap.size) :
    Calls Try.prog 36 #[.slice A n c] w fun e w' => ∃ g k, e = .returned (.slice (some ⟨g, 0, none⟩) n k) ∧ OwnTx w' w.heap.size (some ⟨g, 0, none⟩) n k ss ∧ Below w.heap.size w w' :=
  (toStringS_any A n c B ss w hn h hB).mono fun e w' ⟨g, k, he, ho, hb⟩ => ⟨g, k, he, ⟨ho, h.2.1⟩, hb⟩
end Go.Proofs.Ytmolphaihapkkaa
