/- Items of a dictionary in memory. -/
import Derived.Test.YtopjhdgpdcdklaaRecs
import Derived.Test.YtopjhdgpdcdklaaDict
import Derived.Test.YtopjhdgpdcdklaaShared
namespace Go.Proofs.Ytopjhdgpdcdklaa
open Go.RowKit
set_option maxHeartbeats 400000
set_option linter.unusedSimpArgs false
set_option linter.unusedVariables false

def itemEnc (x : Item) : List Value := [.string x.1, .int .i64 x.2]
/-- the items of the program and of the model -/
def itemR : Rec Item where
  enc := itemEnc
  k := 2
  ok x := x.1.size ≤ maxLen ∧ I64 x.2
  E := 28
  S := 23
  bytes := 24
  len _ := rfl
  one x v hv := by
    simp only [itemEnc, List.mem_cons, List.not_mem_nil, or_false] at hv
    rcases hv with rfl | rfl <;> rfl
  pos := by omega
  small := by omega
  z := .agg #[.string ⟨#[]⟩, .int .i64 0]
  zk := rfl
  under := Try.underlying23
  info := by kernel_rfl
abbrev Items (w : World) (B : Nat) (A : Option Addr) (n : Nat) (d : List Item) : Prop := Recs itemR w B A n d
abbrev OwnItems (w : World) (base : Nat) (A : Option Addr) (n cap : Nat) (d : List Item) : Prop := OwnR itemR w base A n cap d
section
variable {w : World} {B n : Nat} {A : Option Addr} {d : List Item}
/-- the item at a place -/
theorem items_at {k : Nat} (h : Items w B A n d) (hk : k < n) : ∃ b o s c, A = some ⟨b, o, none⟩ ∧ b < B ∧ d[k]? = some (s, c) ∧ s.size ≤ maxLen ∧ I64 c ∧ w.cell? ⟨b, o + k * 2, none⟩ = some (.string s) ∧ w.cell? ⟨b, o + k * 2 + 1, none⟩ = some (.int .i64 c) := by
  obtain ⟨b, o, ⟨s, c⟩, hA, hb, hd, hok, hc⟩ := h.at_ hk
  exact ⟨b, o, s, c, hA, hb, hd, hok.1, hok.2, hc 0 _ rfl, hc 1 _ rfl⟩
theorem items_cell {b o k : Nat} {x : Item} (h : Items w B (some ⟨b, o, none⟩) n d) (hx : d[k]? = some x) : w.cell? ⟨b, o + k * 2, none⟩ = some (.string x.1) ∧ w.cell? ⟨b, o + k * 2 + 1, none⟩ = some (.int .i64 x.2) :=
  ⟨h.cell (i := 0) hx rfl, h.cell (i := 1) hx rfl⟩
/-- a new block of one item reads so -/
theorem items_one (w : World) (s : ByteArray) (c : Int) (hs : s.size ≤ maxLen) (hc : I64 c) : Items (w.alloc (.cells #[.string s, .int .i64 c] 28)) (w.heap.size + 1) (some ⟨w.heap.size, 0, none⟩) 1 [(s, c)] := by
  have h := (OwnR.lit (R := itemR) w (s, c) ⟨hs, hc⟩).recs
  have e : (w.alloc (.cells (itemR.enc (s, c)).toArray itemR.E)).heap.size = w.heap.size + 1 := by simp
  rw [e] at h
  exact h
end

theorem items_empty (w : World) : OwnItems (w.alloc (.cells #[] 28)) w.heap.size (some ⟨w.heap.size, 0, none⟩) 0 0 [] := OwnR.empty w

/-- where a word is -/
theorem find_some {d : List Item} (h : dictB d = true) {s : ByteArray} {c : Int} (hl : lookD d s = some c) : ∃ k : Nat, d[k]? = some (s, c) ∧ findI (wordsD d) s = (k : Int) := by
  obtain ⟨h1, h2, h3, h4⟩ := dict_parts h
  obtain ⟨k, hk⟩ := List.mem_iff_getElem?.1 (look_mem hl)
  have hw : (wordsD d)[k]? = some s := by unfold wordsD; rw [List.getElem?_map, hk]; rfl
  refine ⟨k, hk, findI_at (dict_list h) hw (fun j hj he => ?_)⟩
  have := asc_lt (ascD_iff.2 h4) (k - j - 1) j s s he (by rw [show j + (k - j - 1) + 1 = k by omega]; exact hw)
  rw [ltS_irrefl] at this
  cases this
theorem find_no {d : List Item} {s : ByteArray} (hl : lookD d s = none) : findI (wordsD d) s = -1 := findI_none fun j he => by
  unfold wordsD at he
  rw [List.getElem?_map] at he
  obtain ⟨x, hx, rfl⟩ := Option.map_eq_some_iff.1 he
  exact look_none_iff.1 hl x (List.mem_of_getElem? hx) rfl
theorem add_set {d : List Item} (ha : ascD d) {k : Nat} {s : ByteArray} {c m : Int} (h : d[k]? = some (s, c)) : addL d s m = d.set k (s, c + m) := by
  induction d generalizing k with
  | nil => simp at h
  | cons y d ih =>
    obtain ⟨w, x⟩ := y
    obtain ⟨h1, h2⟩ := List.pairwise_cons.1 ha
    rw [addL]
    cases k with
    | zero => simp at h; obtain ⟨rfl, rfl⟩ := h; rw [if_pos rfl]; rfl
    | succ k =>
      have hk : d[k]? = some (s, c) := by simpa using h
      have hlt := h1 _ (List.mem_of_getElem? hk)
      rw [if_neg (ltS_ne hlt), if_neg (by rw [ltS_asymm hlt]; simp), ih h2 hk]
      rfl
theorem add_ins {d : List Item} (ha : ascD d) {s : ByteArray} {m : Int} (k : Nat) (hk : k ≤ d.length) (h1 : ∀ j x, j < k → d[j]? = some x → ltS x.1 s = true) (h2 : ∀ x, d[k]? = some x → ltS x.1 s = false) (hn : lookD d s = none) : addL d s m = d.take k ++ (s, m) :: d.drop k := by
  induction d generalizing k with
  | nil => simp at hk; subst hk; rfl
  | cons y d ih =>
    obtain ⟨w, x⟩ := y
    obtain ⟨a1, a2⟩ := List.pairwise_cons.1 ha
    have hne : w ≠ s := fun e => look_none_iff.1 hn _ List.mem_cons_self e
    rw [addL, if_neg hne]
    cases k with
    | zero =>
      have := h2 (w, x) rfl
      rw [if_pos (ltS_tri this hne)]; rfl
    | succ k =>
      have := h1 0 (w, x) (by omega) rfl
      rw [if_neg (by rw [ltS_asymm this]; simp), ih a2 k (by simpa using hk) (fun j y hj hy => h1 (j + 1) y (by omega) (by simpa using hy)) (fun y hy => h2 y (by simpa using hy)) (by rw [lookD, if_neg hne] at hn; exact hn)]
      rfl
/-- what the functions of a dictionary answer -/
def wordsE (d : List Item) : List ByteArray := if dictB d = true then wordsD d else []
def countI (d : List Item) (s : ByteArray) : Int := if dictB d = true then (lookD d s).getD 0 else 0
def addOkB (d : List Item) (s : ByteArray) (m : Int) : Bool := match lookD d s with
  | some c => decide (c + m ≤ 1000000)
  | none => decide (d.length < 60)
def addR (d : List Item) (s : ByteArray) (m : Int) : List Item × Bool := if (dictB d && filledS s && countB m) = true then (if addOkB d s m = true then (addL d s m, true) else (d, false)) else ([], false)
def dropR (d : List Item) (s : ByteArray) : List Item × Bool := if dictB d = true then (dropL d s, (lookD d s).isSome) else ([], false)
def beginsB (s : ByteArray) (x : Item) : Bool := decide (shared x.1.data.toList s.data.toList = s.size)
def startsR (d : List Item) (s : ByteArray) : List Item := if (dictB d && wordB s.data.toList) = true then d.filter (beginsB s) else []
end Go.Proofs.Ytopjhdgpdcdklaa
