/- The drawing of dictionaries. -/
import Derived.Test.YtopjhdgpdcdklaaLwDict
import Derived.Test.YtopjhdgpdcdklaaLwList
import Derived.Deep.RegionHeld3
import Derived.Deep.DrawnRows
namespace Go.Proofs.Ytopjhdgpdcdklaa
open Go.RowKit
set_option maxHeartbeats 4000000
set_option linter.unusedSimpArgs false
set_option linter.unusedVariables false
attribute [local go_sem ↓] Go.wp_at_zero Go.wp_at_succ

/-- counts and words of a drawn dictionary -/
def DrawnI (d : List Item) : Prop := ∀ x ∈ d, x.1.size ≤ 13 ∧ 0 ≤ x.2 ∧ x.2 ≤ 1000001
def DictPost (b p k : Nat) (w : World) (e : Ending) (w' : World) : Prop :=
  ∃ (g m cap : Nat) (d : List Item), e = .returned (.slice (some ⟨g, 0, none⟩) m cap) ∧ OwnItems w' w.heap.size (some ⟨g, 0, none⟩) m cap d ∧ m ≤ 64 ∧ DrawnI d ∧ Drew b p k w w'
theorem Got.drew1 {w wr : World} {b p q : Nat} (h : Got w b p q wr) : Got w b p q wr.drew := h.drewN 1
/-- what stands in a round of the drawing -/
structure St (w : World) (b p q base g j cap gl n capl : Nat) (d : List Item) (l : List ByteArray) (W : World) : Prop where
  got : Got w b p q W
  own : OwnItems W base (some ⟨g, 0, none⟩) j cap d
  lst : OwnS W w.heap.size gl n capl l
section
variable {w : World} {b p q base g j cap gl n capl : Nat} {d : List Item} {l : List ByteArray} {W : World}
theorem St.alloc (h : St w b p q base g j cap gl n capl d l W) (o : Obj) : St w b p q base g j cap gl n capl d l (W.alloc o) :=
  ⟨h.got.alloc o, h.own.alloc o, h.lst.below ((Below.refl _ _).alloc (Nat.le_refl _) _)⟩
theorem St.drew1 (h : St w b p q base g j cap gl n capl d l W) : St w b p q base g j cap gl n capl d l W.drew :=
  ⟨h.got.drew1, h.own.drawn (Drawn.drew1 _), h.lst.below (Drawn.drew1 W).below⟩
theorem St.step {W' : World} {k : Nat} (h : St w b p q base g j cap gl n capl d l W) (hd : Drew b q k W W') (hb : b < w.heap.size) (hg : w.heap.size ≤ base) : ∃ q', q ≤ q' ∧ q' ≤ q + k ∧ St w b p q' base g j cap gl n capl d l W' := by
  obtain ⟨q', h1, h2, got⟩ := h.got.step hd
  refine ⟨q', h1, h2, got, h.own.grown hd.1 (fun e => ?_), h.lst.drew hd hb⟩
  have := (h.own.blockAt e).1
  omega
theorem St.le (h : St w b p q base g j cap gl n capl d l W) : base ≤ W.heap.size := by
  have h1 : base ≤ g ∧ g < W.heap.size := h.own.blockAt (g := g) rfl
  omega
theorem St.cell {i : Nat} {s : ByteArray} (h : St w b p q base g j cap gl n capl d l W) (hs : l[i]? = some s) : W.cell? ⟨gl, i, none⟩ = some (.string s) := by
  have hlt : i < n := by have := (List.getElem?_eq_some_iff.1 hs).1; have := h.lst.len; omega
  obtain ⟨bb, oo, z, he, _, hz, _, hcz⟩ := h.lst.strs.at_ (k := i) hlt
  injection he with he; injection he with e1 e2; subst e1; subst e2
  rw [Nat.zero_add] at hcz
  rw [hs] at hz; injection hz with hz; subst hz
  exact hcz
theorem St.pushed {A6 : Option Addr} {cap6 k : Nat} {d6 : List Item} {w6 : World} (h : St w b p q base g j cap gl n capl d l W) (hown : OwnItems w6 base A6 k cap6 d6) (hg : W.grownBy w6 (Value.slice (some ⟨g, 0, none⟩) j cap).ownBlock)
    (hne : A6 ≠ none) (hgl : w.heap.size ≤ gl ∧ gl < base) (hbl : b < w.heap.size) (hz : w.heap.size ≤ base) : ∃ g6, A6 = some ⟨g6, 0, none⟩ ∧ St w b p q base g6 k cap6 gl n capl d6 l w6 := by
  have hgb : base ≤ g := (h.own.blockAt (g := g) rfl).1
  have hg' : W.grownBy w6 (some g) := hg
  rcases hown.shape with ⟨e, _, _⟩ | ⟨g6, rfl, _⟩
  · exact absurd e hne
  · exact ⟨g6, rfl, h.got.own hg' (by omega) (by omega), hown, h.lst.grown hg' (by omega)⟩
end
theorem Drew.at_ {w w' : World} {b p d k : Nat} {o : Obj} (h : Drew b p d w w') (hk : w.heap[k]? = some o) (hb : k ≠ b) : w'.heap[k]? = some o :=
  (h.1.block k (Array.getElem?_eq_some_iff.1 hk).1 (fun e => hb (by injection e))).trans hk
theorem ha_old {w : World} {k : Nat} {x : Obj} (h : w.heap[k]? = some x) (o : Obj) : (w.alloc o).heap[k]? = some x :=
  (((Below.refl w.heap.size w).alloc (Nat.le_refl _) o).block k (Array.getElem?_eq_some_iff.1 h).1).trans h
theorem DrawnI.snoc {d : List Item} {s : ByteArray} {x : Int} (h : DrawnI d) (hs : s.size ≤ 13) (h0 : 0 ≤ x) (h1 : x ≤ 1000001) : DrawnI (d ++ [(s, x)]) := by
  intro z hz
  rcases List.mem_append.1 hz with hz | hz
  · exact h z hz
  · rw [List.mem_singleton.1 hz]; exact ⟨hs, h0, h1⟩
theorem tab_cell (v : Int) (h0 : 0 ≤ v) (h1 : v < 7) : ∃ x : Int, 0 ≤ x ∧ x < 3 ∧ ∀ (W : World) (k : Nat), W.heap[k]? = some (.cells #[.int .i64 0, .int .i64 0, .int .i64 0, .int .i64 0, .int .i64 1, .int .i64 1, .int .i64 2] 3) → W.cell? ⟨k, v.toNat, none⟩ = some (.int .i64 x) := by
  rcases (show v = 0 ∨ v = 1 ∨ v = 2 ∨ v = 3 ∨ v = 4 ∨ v = 5 ∨ v = 6 by omega) with rfl | rfl | rfl | rfl | rfl | rfl | rfl
  · exact ⟨0, by omega, by omega, fun W k h => (cell_of_row W k 0 _ _ _ h).trans rfl⟩
  · exact ⟨0, by omega, by omega, fun W k h => (cell_of_row W k 1 _ _ _ h).trans rfl⟩
  · exact ⟨0, by omega, by omega, fun W k h => (cell_of_row W k 2 _ _ _ h).trans rfl⟩
  · exact ⟨0, by omega, by omega, fun W k h => (cell_of_row W k 3 _ _ _ h).trans rfl⟩
  · exact ⟨1, by omega, by omega, fun W k h => (cell_of_row W k 4 _ _ _ h).trans rfl⟩
  · exact ⟨1, by omega, by omega, fun W k h => (cell_of_row W k 5 _ _ _ h).trans rfl⟩
  · exact ⟨2, by omega, by omega, fun W k h => (cell_of_row W k 6 _ _ _ h).trans rfl⟩
theorem vals_cell (x v4 v8 : Int) (h0 : 0 ≤ x) (h1 : x < 3) (a0 : 0 ≤ v4) (a1 : v4 ≤ 999999) (b0 : 0 ≤ v8) (b1 : v8 ≤ 999999) : ∃ y : Int, 0 ≤ y ∧ y ≤ 999999 ∧ ∀ (W : World) (k : Nat), W.heap[k]? = some (.cells #[.int .i64 v4, .int .i64 v8, .int .i64 999999] 3) → W.cell? ⟨k, x.toNat, none⟩ = some (.int .i64 y) := by
  rcases (show x = 0 ∨ x = 1 ∨ x = 2 by omega) with rfl | rfl | rfl
  · exact ⟨v4, a0, a1, fun W k h => (cell_of_row W k 0 _ _ _ h).trans rfl⟩
  · exact ⟨v8, b0, b1, fun W k h => (cell_of_row W k 1 _ _ _ h).trans rfl⟩
  · exact ⟨999999, by omega, by omega, fun W k h => (cell_of_row W k 2 _ _ _ h).trans rfl⟩
theorem items_one1 (w : World) (o : Obj) (s : ByteArray) (c : Int) (hs : s.size ≤ maxLen) (hc : I64 c) : Items ((w.alloc o).alloc (.cells #[.string s, .int .i64 c] 28)) (w.heap.size + 1 + 1) (some ⟨w.heap.size + 1, 0, none⟩) 1 [(s, c)] := by
  have h := items_one (w.alloc o) s c hs hc
  have e : (w.alloc o).heap.size = w.heap.size + 1 := by simp
  rw [e] at h
  exact h
theorem items_one2 (w : World) (o o' : Obj) (s : ByteArray) (c : Int) (hs : s.size ≤ maxLen) (hc : I64 c) : Items (((w.alloc o).alloc o').alloc (.cells #[.string s, .int .i64 c] 28)) (w.heap.size + 1 + 1 + 1) (some ⟨w.heap.size + 1 + 1, 0, none⟩) 1 [(s, c)] := by
  have h := items_one1 (w.alloc o) o' s c hs hc
  have e : (w.alloc o).heap.size = w.heap.size + 1 := by simp
  rw [e] at h
  exact h
theorem items_two (w : World) (s t : ByteArray) (x y : Int) (hs : s.size ≤ maxLen) (ht : t.size ≤ maxLen) (hx : I64 x) (hy : I64 y) : Items (w.alloc (.cells #[.string s, .int .i64 x, .string t, .int .i64 y] 28)) (w.heap.size + 1) (some ⟨w.heap.size, 0, none⟩) 2 [(s, x), (t, y)] := by
  have hb := heap_alloc_new w (.cells #[.string s, .int .i64 x, .string t, .int .i64 y] 28)
  refine ⟨rfl, ?_, fun _ => ⟨w.heap.size, 0, rfl, by omega, fun j e hj i v hv => ?_⟩⟩
  · intro z hz
    simp only [List.mem_cons, List.not_mem_nil, or_false] at hz
    rcases hz with rfl | rfl
    · exact ⟨hs, hx⟩
    · exact ⟨ht, hy⟩
  · rcases j with _ | _ | j
    · have he : e = (s, x) := by simpa using hj.symm
      subst he
      rcases i with _ | _ | i
      · have hv' : v = .string s := by simpa [itemR, itemEnc] using hv.symm
        subst hv'; exact (cell_of_row _ _ 0 _ _ _ hb).trans rfl
      · have hv' : v = .int .i64 x := by simpa [itemR, itemEnc] using hv.symm
        subst hv'; exact (cell_of_row _ _ 1 _ _ _ hb).trans rfl
      · simp [itemR, itemEnc] at hv
    · have he : e = (t, y) := by simpa using hj.symm
      subst he
      rcases i with _ | _ | i
      · have hv' : v = .string t := by simpa [itemR, itemEnc] using hv.symm
        subst hv'; exact (cell_of_row _ _ 2 _ _ _ hb).trans rfl
      · have hv' : v = .int .i64 y := by simpa [itemR, itemEnc] using hv.symm
        subst hv'; exact (cell_of_row _ _ 3 _ _ _ hb).trans rfl
      · simp [itemR, itemEnc] at hv
    · simp at hj
/-- the drawing of a dictionary: to be shown (DictDrawRound.txt) -/
def DictDrawC : Prop := ∀ (b p : Nat) (n : Int) (w : World), Rd w b p → p ≤ 400000 → 0 ≤ n → n ≤ 1000 →
  Calls Try.prog 48 #[.pointer (some ⟨b, 0, none⟩), .int .i64 n] w (DictPost b p 1000 w)
theorem DrawnI.small {d : List Item} {w : World} {base m cap : Nat} {A : Option Addr} (h : DrawnI d) (own : OwnItems w base A m cap d) (hm : m ≤ 64) : SmallD d := ⟨by rw [own.len]; exact hm, h⟩
theorem OwnR.drewR {α : Type} {R : Rec α} {w w' : World} {base n cap b q k : Nat} {A : Option Addr} {l : List α} (h : OwnR R w base A n cap l) (hd : Drew b q k w w') (hb : b < base) : OwnR R w' base A n cap l :=
  h.grown hd.1 (fun e => by have := (h.blockAt e).1; omega)
def AskPost (b p k : Nat) (w : World) (e : Ending) (w' : World) : Prop :=
  ∃ (g m cap : Nat) (d : List Item) (s : ByteArray), e = .returned (.tuple #[.slice (some ⟨g, 0, none⟩) m cap, .string s]) ∧ OwnItems w' w.heap.size (some ⟨g, 0, none⟩) m cap d ∧ m ≤ 64 ∧ DrawnI d ∧ s.size ≤ 13 ∧ Drew b p k w w'
theorem asked_any (HD : DictDrawC) (b p : Nat) (n : Int) (w : World) (hr : Rd w b p) (hp : p ≤ 300000) (hn0 : 0 ≤ n) (hn : n ≤ 1000) :
    Calls Try.prog 57 #[.pointer (some ⟨b, 0, none⟩), .int .i64 n] w (AskPost b p 1100 w) := by
  have HD := Lib.hid HD
  have hbl := hr.lt
  go_enter Try.func57, Try.ntmps57
  go_wp2_with fail
  refine (HD.out b p _ _ hr (by omega) (by omega) (by omega)).mono ?_
  rintro e w1 ⟨g, m, cap, d, rfl, hown, hm, hdi, hd1⟩
  obtain ⟨q1, hq1a, hq1b, got1⟩ := (Got.refl hr).step hd1
  clear hd1 hr
  go_wp2_with fail
  refine (word_any b q1 _ _ got1.rd (by omega) hn0 hn).mono ?_
  rintro e w2 ⟨s, rfl, hs, hd2⟩
  have own2 := hown.drewR hd2 hbl
  obtain ⟨q2, hq2a, hq2b, got2⟩ := got1.step hd2
  clear hd2 hown got1
  by_cases hm0 : 0 < m
  · go_wp2_with fail
    refine (pick_any b q2 _ _ got2.rd (by omega) (by omega)).mono ?_
    rintro e w3 ⟨v3, rfl, h30, h31, -, hd3⟩
    have h31 := h31 (by omega)
    have own3 := own2.drewR hd3 hbl
    obtain ⟨q3, hq3a, hq3b, got3⟩ := got2.step hd3
    clear hd3 own2 got2
    by_cases hv3 : 0 < v3
    · go_wp2_with fail
      refine (pick_any b q3 _ _ got3.rd (by omega) (by omega)).mono ?_
      rintro e w4 ⟨v4, rfl, h40, h41, -, hd4⟩
      have h41 := h41 (by omega)
      have own4 := own3.drewR hd4 hbl
      obtain ⟨q4, hq4a, hq4b, got4⟩ := got3.step hd4
      obtain ⟨v4, rfl⟩ := Int.eq_ofNat_of_zero_le h40
      clear hd4 got3 own3
      obtain ⟨bb, oo, z, zc, he, _, hz, _, _, hcz, _⟩ := items_at own4.recs (k := v4) (by omega)
      injection he with he; injection he with e1 e2; subst e1; subst e2
      rw [Nat.zero_add] at hcz
      have hz13 := (hdi _ (List.mem_of_getElem? hz)).1
      simp only at hz13
      clear hz
      go_wp2_with fail
      refine (pick_any b q4 _ _ got4.rd (by omega) (by omega)).mono ?_
      rintro e w5 ⟨v5, rfl, h50, h51, -, hd5⟩
      have h51 := h51 (by omega)
      have own5 := own4.drewR hd5 hbl
      obtain ⟨q5, hq5a, hq5b, got5⟩ := got4.step hd5
      obtain ⟨v5, rfl⟩ := Int.eq_ofNat_of_zero_le h50
      clear hd5 got4 own4 hcz
      go_wp2_with fail
      go_loopw [7, 8] (fun x y wr => ∃ (t : ByteArray) (k q : Nat), x = .string t ∧ y = .int .i64 k ∧ t.size ≤ 13 ∧ k ≤ 2 ∧ q + 5 * k ≤ p + 1090 ∧ OwnItems wr w.heap.size (some ⟨g, 0, none⟩) m cap d ∧ Got w b p q wr) (fun _ y _ => (intOf y).toNat)
      case atStart => exact ⟨_, _, _, rfl, rfl, hz13, by omega, by omega, own5, got5⟩
      case round =>
        obtain ⟨t, k, q, rfl, rfl, ht, hk, hq, hown, hgot⟩ := hrel
        have htm : t.size ≤ maxLen := by unfold maxLen; omega
        by_cases hk0 : 0 < k
        · cases hv : wordB t.data.toList
          · have C := Lib.hid (wordValid_spec_is hv)
            clear hv
            go_wp2_with fail
            refine (C.out _ htm).mono ?_
            rintro e w' ⟨rfl, rfl⟩
            go_wp2_with fail
            go_ret2
            exact ⟨g, m, cap, d, t, rfl, hown, hm, hdi, ht, hgot.done (by omega)⟩
          · have C := Lib.hid (wordValid_spec_is hv)
            clear hv
            go_wp2_with fail
            refine (C.out _ htm).mono ?_
            rintro e w' ⟨rfl, rfl⟩
            go_wp2_with fail
            refine (bend_any b q _ _ hgot.rd (by omega) (by omega)).mono ?_
            rintro e w6 ⟨t', rfl, ht', hd6⟩
            have own6 := hown.drewR hd6 hbl
            obtain ⟨q6, hq6a, hq6b, got6⟩ := hgot.step hd6
            obtain ⟨k, rfl⟩ : ∃ j, k = j + 1 := ⟨k - 1, by omega⟩
            clear hd6 hgot hown
            go_wp2_with fail
            go_roundw
            case rel => exact ⟨t', k, q6, rfl, by go_num, by omega, by omega, by omega, own6, got6⟩
            case measure => simp [intOf]
        · go_wp2_with fail
          go_ret2
          exact ⟨g, m, cap, d, t, rfl, hown, hm, hdi, ht, hgot.done (by omega)⟩
    · go_wp2_with fail
      go_ret2
      exact ⟨g, m, cap, d, s, rfl, own3, hm, hdi, hs, got3.done (by omega)⟩
  · have hm0' : (m : Int) ≤ 0 := by omega
    clear hm0
    go_wp2_with fail
    go_ret2
    exact ⟨g, m, cap, d, s, rfl, own2, hm, hdi, hs, got2.done (by omega)⟩
theorem drawDictValid_any (HD : DictDrawC) : DrawnC 16 ItemsPost := by
  intro A n c w h hnc hc
  have HD := Lib.hid HD
  go_enter Try.func16, Try.ntmps16
  go_wp2_with fail
  refine (open_any _ _ _ _ h hnc hc).mono ?_
  rintro e w1 ⟨g, rfl, hg, hr, hb⟩
  go_wp2_with fail
  refine (HD.out g 0 _ _ hr (by omega) (by omega) (by omega)).mono ?_
  rintro e w2 ⟨g2, m, cap, d, rfl, hown, hm, hdi, hd, -⟩
  go_wp2_with fail
  go_ret
  exact ⟨g2, m, cap, d, rfl, hown.mono hb.size, hdi.small hown hm, hb.trans (below_only hd hg hb.size)⟩
theorem drawDictWords_any (HD : DictDrawC) : DrawnC 20 ItemsPost := by
  intro A n c w h hnc hc
  have HD := Lib.hid HD
  go_enter Try.func20, Try.ntmps20
  go_wp2_with fail
  refine (open_any _ _ _ _ h hnc hc).mono ?_
  rintro e w1 ⟨g, rfl, hg, hr, hb⟩
  go_wp2_with fail
  refine (HD.out g 0 _ _ hr (by omega) (by omega) (by omega)).mono ?_
  rintro e w2 ⟨g2, m, cap, d, rfl, hown, hm, hdi, hd, -⟩
  go_wp2_with fail
  go_ret
  exact ⟨g2, m, cap, d, rfl, hown.mono hb.size, hdi.small hown hm, hb.trans (below_only hd hg hb.size)⟩
theorem drawDictCount_any (HD : DictDrawC) : DrawnC 25 AskedPost := by
  intro A n c w h hnc hc
  have HD := Lib.hid HD
  go_enter Try.func25, Try.ntmps25
  go_wp2_with fail
  refine (open_any _ _ _ _ h hnc hc).mono ?_
  rintro e w1 ⟨g, rfl, hg, hr, hb⟩
  go_wp2_with fail
  refine (asked_any HD.out g 0 _ _ hr (by omega) (by omega) (by omega)).mono ?_
  rintro e w2 ⟨g2, m, cap, d, s, rfl, hown, hm, hdi, hs, hd, -⟩
  go_wp2_with fail
  go_ret2
  exact ⟨g2, m, cap, d, s, rfl, hown.mono hb.size, hdi.small hown hm, hs, hb.trans (below_only hd hg hb.size)⟩
theorem drawDictDrop_any (HD : DictDrawC) : DrawnC 33 AskedPost := by
  intro A n c w h hnc hc
  have HD := Lib.hid HD
  go_enter Try.func33, Try.ntmps33
  go_wp2_with fail
  refine (open_any _ _ _ _ h hnc hc).mono ?_
  rintro e w1 ⟨g, rfl, hg, hr, hb⟩
  go_wp2_with fail
  refine (asked_any HD.out g 0 _ _ hr (by omega) (by omega) (by omega)).mono ?_
  rintro e w2 ⟨g2, m, cap, d, s, rfl, hown, hm, hdi, hs, hd, -⟩
  go_wp2_with fail
  go_ret2
  exact ⟨g2, m, cap, d, s, rfl, hown.mono hb.size, hdi.small hown hm, hs, hb.trans (below_only hd hg hb.size)⟩
theorem drawDictStarts_any (HD : DictDrawC) : DrawnC 36 AskedPost := by
  intro A n c w h hnc hc
  have HD := Lib.hid HD
  go_enter Try.func36, Try.ntmps36
  go_wp2_with fail
  refine (open_any _ _ _ _ h hnc hc).mono ?_
  rintro e w1 ⟨g, rfl, hg, hr, hb⟩
  go_wp2_with fail
  refine (asked_any HD.out g 0 _ _ hr (by omega) (by omega) (by omega)).mono ?_
  rintro e w2 ⟨g2, m, cap, d, s, rfl, hown, hm, hdi, hs, hd⟩
  obtain ⟨q2, hq2a, hq2b, g2'⟩ := (Got.refl hr).step hd
  have hb2 := hb.trans (below_only hd.1 hg hb.size)
  have hgl := hr.lt
  clear hd hr
  have hw : IntKind.i64.wrap ((s.size : Int) + 1) = (s.size : Int) + 1 := IntWalk.i64_in _ (by omega)
  go_wp2_with fail
  go_region_held3 (fun _ => True) (trivial)
    (first
      | (go_at_call 61
         (with_reducible refine (pick_any g q2 ((s.size : Int) + 1) _ ?_ (by omega) (by omega)).mono ?_)
         · exact g2'.drew1.rd
         rintro e w3 ⟨v3, rfl, h30, h31, -, hd3⟩
         have h31 := h31 (by omega)
         have own3 := (hown.drawn (Drawn.drew1 _)).drewR hd3 hgl
         have hb3 := hb2.trans (below_only (only_trans (only_drawn (Drawn.drew1 w2)) hd3.1) hg hb2.size)
         obtain ⟨v3, rfl⟩ := Int.eq_ofNat_of_zero_le h30
         have hv3 : (v3 : Int) ≤ (s.size : Int) := by omega
         clear hd3)
      | fail)
  all_goals
    go_wp2_with fail
    go_ret2
    exact ⟨g2, m, cap, d, _, rfl, own3.mono hb.size, hdi.small own3 hm, by rw [ByteArray.size_extract]; omega, hb3⟩
end Go.Proofs.Ytopjhdgpdcdklaa
