/- The walks of stage 6's laws over the landed code. -/
import Derived.Test.YtopjhdgpdcdklaaImplAdd
import Derived.Test.YtopjhdgpdcdklaaLwItems
import Derived.Test.YtopjhdgpdcdklaaLwDict4
import Derived.Test.YtopjhdgpdcdklaaLwDict5
import Derived.Test.YtopjhdgpdcdklaaLwDict6
import Derived.Test.YtopjhdgpdcdklaaDrawAdd
namespace Go.Proofs.Ytopjhdgpdcdklaa
open Go.RowKit

theorem dictValidC : DictValidC := fun A n c B d w hn _ _ h hB => dictValid_impl A n c B d w hn h hB
theorem dictWordsC : DictWordsC := fun A n c B d w hn _ _ h hB => dictWords_impl A n c B d w hn h hB
theorem dictCountC : DictCountC := fun A n c B d s w hn _ _ h hB hs => dictCount_impl A n c B d s w hn h hB hs
theorem dictAddC : DictAddC := fun A n c B d s m w hn _ _ h hB hs hm => dictAdd_impl A n c B d s m w hn h hB hs hm
theorem dictDropC : DictDropC := fun A n c B d s w hn _ _ h hB hs => dictDrop_impl A n c B d s w hn h hB hs
theorem dictStartsC : DictStartsC := fun A n c B d s w hn _ _ h hB hs => dictStarts_impl A n c B d s w hn h hB hs
theorem dictDrawC : DictDrawC := fun b p n w hr hp h0 h1 => dict_any b p n w hr hp h0 h1
theorem walkFnDictValid' (A : Option Addr) (n c : Nat) (w : World) (h : Bytes w w.heap.size A n) (hnc : n ≤ c) (hc : c ≤ maxLen) :
    Calls Try.prog 3 #[.slice A n c] w fun e w' => e = .returned (.bool true) ∧ Below w.heap.size w w' := walkFnDictValid (drawDictValid_any dictDrawC) dictValidC A n c w h hnc hc
theorem walkFnDictWords' (A : Option Addr) (n c : Nat) (w : World) (h : Bytes w w.heap.size A n) (hnc : n ≤ c) (hc : c ≤ maxLen) :
    Calls Try.prog 4 #[.slice A n c] w fun e w' => e = .returned (.bool true) ∧ Below w.heap.size w w' := walkFnDictWords (drawDictWords_any dictDrawC) dictWordsC A n c w h hnc hc
theorem walkFnDictCount' (A : Option Addr) (n c : Nat) (w : World) (h : Bytes w w.heap.size A n) (hnc : n ≤ c) (hc : c ≤ maxLen) :
    Calls Try.prog 5 #[.slice A n c] w fun e w' => e = .returned (.bool true) ∧ Below w.heap.size w w' := walkFnDictCount (drawDictCount_any dictDrawC) dictCountC dictWordsC A n c w h hnc hc
theorem walkFnDictAdd' (A : Option Addr) (n c : Nat) (w : World) (h : Bytes w w.heap.size A n) (hnc : n ≤ c) (hc : c ≤ maxLen) :
    Calls Try.prog 6 #[.slice A n c] w fun e w' => e = .returned (.bool true) ∧ Below w.heap.size w w' := walkFnDictAdd (drawDictAdd_any dictDrawC) dictValidC dictCountC dictAddC A n c w h hnc hc
theorem walkFnDictDrop' (A : Option Addr) (n c : Nat) (w : World) (h : Bytes w w.heap.size A n) (hnc : n ≤ c) (hc : c ≤ maxLen) :
    Calls Try.prog 7 #[.slice A n c] w fun e w' => e = .returned (.bool true) ∧ Below w.heap.size w w' := walkFnDictDrop (drawDictDrop_any dictDrawC) dictValidC dictCountC dictAddC dictDropC A n c w h hnc hc
theorem walkFnDictStarts' (A : Option Addr) (n c : Nat) (w : World) (h : Bytes w w.heap.size A n) (hnc : n ≤ c) (hc : c ≤ maxLen) :
    Calls Try.prog 8 #[.slice A n c] w fun e w' => e = .returned (.bool true) ∧ Below w.heap.size w w' := walkFnDictStarts (drawDictStarts_any dictDrawC) dictStartsC A n c w h hnc hc
theorem walkFnDictOrder' (A : Option Addr) (n c : Nat) (A2 : Option Addr) (n2 c2 : Nat) (w : World) (h : Bytes w w.heap.size A n) (hnc : n ≤ c) (hc : c ≤ maxLen) (h2 : Bytes w w.heap.size A2 n2) (hnc2 : n2 ≤ c2) (hc2 : c2 ≤ maxLen) :
    Calls Try.prog 9 #[.slice A n c, .slice A2 n2 c2] w fun e w' => e = .returned (.bool true) ∧ Below w.heap.size w w' := walkFnDictOrder (drawDictAdd_any dictDrawC) dictAddC A n c A2 n2 c2 w h hnc hc h2 hnc2 hc2
end Go.Proofs.Ytopjhdgpdcdklaa
