/- What the functions of chapter 7 leave, the model's and the program's; the program's contracts. -/
import Derived.Test.YtmolphaihapkkaaHitRec
import Derived.Test.YtmolphaihapkkaaTx
namespace Go.Proofs.Ytmolphaihapkkaa
open Go.RowKit
set_option maxHeartbeats 400000
set_option linter.unusedSimpArgs false
set_option linter.unusedVariables false

/-- what a maker of hits leaves: a slice of the call's own -/
def HitsPost (l : List Hit) (w : World) (e : Ending) (w' : World) : Prop := ∃ g cap, e = .returned (.slice (some ⟨g, 0, none⟩) l.length cap) ∧ OwnHits w' w.heap.size (some ⟨g, 0, none⟩) l.length cap l ∧ Below w.heap.size w w'
theorem OwnR.capsH {α : Type} {R : Rec α} {w : World} {base n cap : Nat} {A : Option Addr} {l : List α} (h : OwnR R w base A n cap l) : n ≤ cap ∧ cap ≤ maxLen := by
  rcases h.shape with ⟨_, rfl, rfl⟩ | ⟨_, _, _, _, h1, h2⟩
  · exact ⟨Nat.le_refl _, Nat.zero_le _⟩
  · exact ⟨h1, h2⟩
/-- hits that a call answers with: a row of its own, or none -/
def HitsOut (l : List Hit) (w : World) (e : Ending) (w' : World) : Prop := ∃ (A : Option Addr) (cap : Nat), e = .returned (.slice A l.length cap) ∧ OwnHits w' w.heap.size A l.length cap l ∧ Below w.heap.size w w'
theorem HitsPost.out {l : List Hit} {w w' : World} {e : Ending} (h : HitsPost l w e w') : HitsOut l w e w' := by
  obtain ⟨g, cap, h1, h2, h3⟩ := h; exact ⟨_, cap, h1, h2, h3⟩
/-- what impl.HitsValid does -/
def HitsValidC : Prop := ∀ (A : Option Addr) (n c B : Nat) (d : List Hit) (w : World), n ≤ 1048576 → n ≤ c → c ≤ maxLen → Hits w B A n d → B ≤ w.heap.size →
  Calls Try.prog 14 #[.slice A n c] w fun e w' => e = .returned (.bool (hitsB d)) ∧ Below w.heap.size w w'
theorem hitsValidC_is (HC : HitsValidC) {d : List Hit} {v : Bool} (hv : hitsB d = v) (A : Option Addr) (n c B : Nat) (w : World) (hn : n ≤ 1048576) (hnc : n ≤ c) (hc : c ≤ maxLen) (h : Hits w B A n d) (hB : B ≤ w.heap.size) :
    Calls Try.prog 14 #[.slice A n c] w fun e w' => e = .returned (.bool v) ∧ Below w.heap.size w w' := hv ▸ HC A n c B d w hn hnc hc h hB
/-- what impl.ScanWords does -/
def ScanC : Prop := ∀ (A : Option Addr) (n c B : Nat) (ss : List ByteArray) (s : ByteArray) (k : Int) (w : World), n ≤ 1048576 → n ≤ c → c ≤ maxLen → Strs w B A n ss → B ≤ w.heap.size → s.size ≤ maxLen → I64 k →
  Calls Try.prog 18 #[.slice A n c, .string s, .int .i64 k] w (HitsOut (scanE ss s k) w)
/-- what impl.JoinHits does -/
def JoinC : Prop := ∀ (A1 A2 : Option Addr) (n1 n2 c1 c2 B : Nat) (a b : List Hit) (w : World), n1 ≤ 1048576 → n2 ≤ 1048576 → n1 ≤ c1 → c1 ≤ maxLen → n2 ≤ c2 → c2 ≤ maxLen → Hits w B A1 n1 a → Hits w B A2 n2 b → B ≤ w.heap.size →
  Calls Try.prog 26 #[.slice A1 n1 c1, .slice A2 n2 c2] w (HitsOut (joinE a b) w)
/-- what impl.NearestWords does -/
def NearOut (l : List ByteArray) (d : Int) (w : World) (e : Ending) (w' : World) : Prop := ∃ (A : Option Addr) (cap : Nat), e = .returned (.tuple #[.slice A l.length cap, .int .i64 d]) ∧ OwnTx w' w.heap.size A l.length cap l ∧ Below w.heap.size w w'
def NearC : Prop := ∀ (A : Option Addr) (n c B : Nat) (ss : List ByteArray) (s : ByteArray) (w : World), n ≤ 1048576 → n ≤ c → c ≤ maxLen → Strs w B A n ss → B ≤ w.heap.size → s.size ≤ maxLen →
  Calls Try.prog 29 #[.slice A n c, .string s] w (NearOut (nearEL ss s) (nearEI ss s) w)
end Go.Proofs.Ytmolphaihapkkaa
