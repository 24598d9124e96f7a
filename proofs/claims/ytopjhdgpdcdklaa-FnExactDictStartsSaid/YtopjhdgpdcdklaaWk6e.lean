/- The exact walks of stage 6's laws over the landed code. -/
import Derived.Test.YtopjhdgpdcdklaaImplAdd
import Derived.Test.YtopjhdgpdcdklaaLwItems
import Derived.Test.YtopjhdgpdcdklaaOpenRecs
namespace Go.Proofs.Ytopjhdgpdcdklaa
open Go.RowKit

theorem xdictValidC : DictValidC := fun A n c B d w hn _ _ h hB => dictValid_impl A n c B d w hn h hB
theorem xdictWordsC : DictWordsC := fun A n c B d w hn _ _ h hB => dictWords_impl A n c B d w hn h hB
theorem xdictCountC : DictCountC := fun A n c B d s w hn _ _ h hB hs => dictCount_impl A n c B d s w hn h hB hs
theorem xdictAddC : DictAddC := fun A n c B d s m w hn _ _ h hB hs hm => dictAdd_impl A n c B d s m w hn h hB hs hm
theorem xdictDropC : DictDropC := fun A n c B d s w hn _ _ h hB hs => dictDrop_impl A n c B d s w hn h hB hs
theorem xdictStartsC : DictStartsC := fun A n c B d s w hn _ _ h hB hs => dictStarts_impl A n c B d s w hn h hB hs
theorem walkFnExactDictValid' (A : Option Addr) (n c : Nat) (d : List Item) (w : World) (hn : n ≤ maxLen) (h : Recs itemL w w.heap.size A n d) :
    Calls Try.prog 10 #[.slice A n c] w fun e w' => e = .returned (.bool true) ∧ Below w.heap.size w w' := walkFnExactDictValid xdictValidC A n c d w hn h
theorem walkFnExactDictWords' (A : Option Addr) (n c : Nat) (d : List Item) (w : World) (hn : n ≤ maxLen) (h : Recs itemL w w.heap.size A n d) :
    Calls Try.prog 11 #[.slice A n c] w fun e w' => e = .returned (.bool true) ∧ Below w.heap.size w w' := walkFnExactDictWords xdictWordsC A n c d w hn h
theorem walkFnExactDictCount' (A : Option Addr) (n c : Nat) (d : List Item) (s : ByteArray) (w : World) (hn : n ≤ maxLen) (h : Recs itemL w w.heap.size A n d) (hs : s.size ≤ maxLen) :
    Calls Try.prog 12 #[.slice A n c, .string s] w fun e w' => e = .returned (.bool true) ∧ Below w.heap.size w w' := walkFnExactDictCount xdictCountC A n c d s w hn h hs
theorem walkFnExactDictDrop' (A : Option Addr) (n c : Nat) (d : List Item) (s : ByteArray) (w : World) (hn : n ≤ maxLen) (h : Recs itemL w w.heap.size A n d) (hs : s.size ≤ maxLen) :
    Calls Try.prog 14 #[.slice A n c, .string s] w fun e w' => e = .returned (.bool true) ∧ Below w.heap.size w w' := walkFnExactDictDrop xdictDropC A n c d s w hn h hs
theorem walkFnExactDictStarts' (A : Option Addr) (n c : Nat) (d : List Item) (s : ByteArray) (w : World) (hn : n ≤ maxLen) (h : Recs itemL w w.heap.size A n d) (hs : s.size ≤ maxLen) :
    Calls Try.prog 15 #[.slice A n c, .string s] w fun e w' => e = .returned (.bool true) ∧ Below w.heap.size w w' := walkFnExactDictStarts xdictStartsC A n c d s w hn h hs
theorem walkFnExactDictAdd' (A : Option Addr) (n c : Nat) (d : List Item) (s : ByteArray) (m : Int) (w : World) (hn : n ≤ maxLen) (h : Recs itemL w w.heap.size A n d) (hs : s.size ≤ maxLen) (hm : (Lit.int .i64 m).wf = true) :
    Calls Try.prog 13 #[.slice A n c, .string s, .int .i64 m] w fun e w' => e = .returned (.bool true) ∧ Below w.heap.size w w' := walkFnExactDictAdd xdictAddC A n c d s m w hn h hs (by simp [Lit.wf, IntKind.min, IntKind.max, IntKind.signed, IntKind.bits] at hm; unfold I64; omega)
end Go.Proofs.Ytopjhdgpdcdklaa
