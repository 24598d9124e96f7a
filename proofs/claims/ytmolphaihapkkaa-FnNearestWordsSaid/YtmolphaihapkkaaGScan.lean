/- Buckets, BucketMath, MakeRecs, TextRec, ImplBuck, ImplScan, ImplNear, in one text. -/
import Derived.Test.YtmolphaihapkkaaRecs
import Derived.Test.YtmolphaihapkkaaHits
import Derived.Test.YtmolphaihapkkaaTx
import Derived.Test.YtmolphaihapkkaaImplEdit
import Derived.Test.YtmolphaihapkkaaHitOut
import Derived.Test.YtmolphaihapkkaaFind
import Derived.Test.YtmolphaihapkkaaHitSpec3
import Derived.Test.YtmolphaihapkkaaGJoin
/- Rows of rows: a block of the call's own whose cells hold slices of records, each a row of the call's own, or none, no two of them in one block (an array or a slice of buckets). -/
namespace Go.Proofs.Ytmolphaihapkkaa
open Go.RowKit
set_option maxHeartbeats 400000
set_option linter.unusedSimpArgs false
set_option linter.unusedVariables false

abbrev Head := Option Addr × Nat × Nat
def Head.val (h : Head) : Value := .slice h.1 h.2.1 h.2.2
section
variable {α : Type} (R : Rec α)
/-- block g holds the slices hs, and these hold the buckets bs -/
def Bks (w : World) (base g : Nat) (hs : List Head) (bs : List (List α)) : Prop :=
  bs.length = hs.length ∧ base ≤ g ∧ g < w.heap.size ∧
    (∀ (j : Nat) (h : Head) (l : List α), hs[j]? = some h → bs[j]? = some l → w.cell? ⟨g, j, none⟩ = some h.val ∧ w.frozen? ⟨g, j, none⟩ = false ∧ OwnR R w base h.1 h.2.1 h.2.2 l ∧ h.val.ownBlock ≠ some g) ∧
    (∀ (i j : Nat) (x y : Head), i ≠ j → hs[i]? = some x → hs[j]? = some y → ∀ k, x.val.ownBlock = some k → y.val.ownBlock ≠ some k)
variable {R} {w w' : World} {base g : Nat} {hs : List Head} {bs : List (List α)}
theorem Bks.lt (h : Bks R w base g hs bs) : base ≤ g ∧ g < w.heap.size := ⟨h.2.1, h.2.2.1⟩
theorem Bks.len (h : Bks R w base g hs bs) : bs.length = hs.length := h.1
theorem Bks.at_ (h : Bks R w base g hs bs) {j : Nat} (hj : j < hs.length) : ∃ x l, hs[j]? = some x ∧ bs[j]? = some l ∧ w.cell? ⟨g, j, none⟩ = some x.val ∧ w.frozen? ⟨g, j, none⟩ = false ∧ OwnR R w base x.1 x.2.1 x.2.2 l ∧ x.val.ownBlock ≠ some g := by
  have h1 : hs[j]? = some (hs[j]'hj) := List.getElem?_eq_getElem hj
  have h2 : bs[j]? = some (bs[j]'(by have := h.1; omega)) := List.getElem?_eq_getElem _
  obtain ⟨a, b, c, d⟩ := h.2.2.2.1 j _ _ h1 h2
  exact ⟨_, _, h1, h2, a, b, c, d⟩
theorem Bks.below (h : Bks R w base g hs bs) (hb : Below w.heap.size w w') : Bks R w' base g hs bs := by
  obtain ⟨h1, h2, h3, h4, h5⟩ := h
  have hz := hb.size
  refine ⟨h1, h2, by omega, fun j x l hx hl => ?_, h5⟩
  obtain ⟨a, b, c, d⟩ := h4 j x l hx hl
  have hk := hb.block g h3
  refine ⟨?_, ?_, c.below hb, d⟩
  · rw [← a]; unfold World.cell?; simp only [hk]
  · rw [← b]; unfold World.frozen?; simp only [hk]
theorem Bks.drawn (h : Bks R w base g hs bs) (hd : Drawn w w') : Bks R w' base g hs bs := h.below hd.below
theorem Bks.alloc (h : Bks R w base g hs bs) (o : Obj) : Bks R (w.alloc o) base g hs bs := h.below ((Below.refl _ _).alloc (Nat.le_refl _) _)
/-- all buckets are empty: a block of nil slices -/
theorem Bks.made (n : Nat) (w : World) (hb : base ≤ g) (hg : g < w.heap.size) (hc : ∀ j, j < n → w.cell? ⟨g, j, none⟩ = some (.slice none 0 0) ∧ w.frozen? ⟨g, j, none⟩ = false) :
    Bks R w base g (List.replicate n (none, 0, 0)) (List.replicate n []) := by
  refine ⟨by simp, hb, hg, fun j x l hx hl => ?_, fun i j x y _ hx hy k hk => ?_⟩
  · have hj : j < n := by have := (List.getElem?_eq_some_iff.1 hx).1; simpa using this
    rw [List.getElem?_replicate, if_pos hj] at hx hl
    injection hx with hx; injection hl with hl; subst hx; subst hl
    exact ⟨(hc j hj).1, (hc j hj).2, OwnR.nil _ _, by simp [Head.val, Value.ownBlock]⟩
  · have hi : i < n := by have := (List.getElem?_eq_some_iff.1 hx).1; simpa using this
    rw [List.getElem?_replicate, if_pos hi] at hx
    injection hx with hx; subst hx
    simp [Head.val, Value.ownBlock] at hk
/-- a bucket has grown: its new slice is laid into its cell -/
theorem Bks.grow (h : Bks R w base g hs bs) {j : Nat} {x : Head} (hx : hs[j]? = some x) (hg : w.grownBy w' x.val.ownBlock) (y : Head) (l' : List α) (hown : OwnR R w' base y.1 y.2.1 y.2.2 l')
    (hat : y.val.ownBlock = x.val.ownBlock ∨ y.val.ownBlock = some w.heap.size) : Bks R (w'.setCell ⟨g, j, none⟩ y.val) base g (hs.set j y) (bs.set j l') := by
  obtain ⟨h1, h2, h3, h4, h5⟩ := h
  have hj : j < hs.length := (List.getElem?_eq_some_iff.1 hx).1
  have hjb : j < bs.length := by omega
  have hxo := h4 j x _ hx (List.getElem?_eq_getElem hjb)
  have hzg := hg.size
  have hyg : y.val.ownBlock ≠ some g := by
    rcases hat with e | e
    · rw [e]; exact hxo.2.2.2
    · rw [e]; intro e2; injection e2 with e2; omega
  have hblk : w'.heap[g]? = w.heap[g]? := hg.block g h3 (fun e => hxo.2.2.2 e.symm)
  have keep : ∀ (z : Head) (l : List α), OwnR R w' base z.1 z.2.1 z.2.2 l → z.val.ownBlock ≠ some g → OwnR R (w'.setCell ⟨g, j, none⟩ y.val) base z.1 z.2.1 z.2.2 l := fun z l ho hne => by
    obtain ⟨a, n, c⟩ := z
    rcases ho.shape with ⟨rfl, rfl, rfl⟩ | ⟨k, rfl, _⟩
    · have hl := ho.len
      obtain rfl : l = [] := List.eq_nil_of_length_eq_zero hl
      exact OwnR.nil _ _
    · have hkg : k ≠ g := by rintro rfl; exact hne (by simp [Head.val, Value.ownBlock])
      exact ho.block (by simp [World.setCell, Array.getElem?_modify, Ne.symm hkg])
  refine ⟨by simp [h1], h2, by simp [World.setCell]; omega, fun i z l hz hl => ?_, fun i k p q hne hp hq b hb => ?_⟩
  · by_cases e : i = j
    · subst e
      rw [List.getElem?_set_self hj] at hz
      rw [List.getElem?_set_self hjb] at hl
      injection hz with hz; injection hl with hl; subst hz; subst hl
      have hc' : w'.cell? ⟨g, i, none⟩ = some x.val := by rw [← hxo.1]; unfold World.cell?; simp only [hblk]
      refine ⟨World.cell?_setCell_same _ _ _ hc', ?_, keep _ _ hown hyg, hyg⟩
      have hf' : w'.frozen? ⟨g, i, none⟩ = false := by rw [← hxo.2.1]; unfold World.frozen?; simp only [hblk]
      rw [← hf']
      exact World.frozen?_setCell _ _ _ _
    · rw [List.getElem?_set_ne (Ne.symm e)] at hz hl
      obtain ⟨a, b, c, d⟩ := h4 i z l hz hl
      have hc' : w'.cell? ⟨g, i, none⟩ = some z.val := by rw [← a]; unfold World.cell?; simp only [hblk]
      have hf' : w'.frozen? ⟨g, i, none⟩ = false := by rw [← b]; unfold World.frozen?; simp only [hblk]
      refine ⟨(World.cell?_setCell_other _ _ _ _ (by intro e2; injection e2 with e2 e3; exact e e3.symm)).trans hc', by rw [← hf']; exact World.frozen?_setCell _ _ _ _, keep _ _ ?_ d, d⟩
      -- the other rows are as they were
      cases hxb : x.val.ownBlock with
      | none => rw [hxb] at hg; exact c.below ⟨hg.os, hg.tape, hg.output, hg.size, fun i hi => hg.block i hi (by simp)⟩
      | some kk => rw [hxb] at hg; exact c.grown hg (fun e2 => h5 j i x z (Ne.symm e) hx hz kk hxb e2)
  · by_cases e1 : i = j
    · subst e1
      rw [List.getElem?_set_self hj] at hp
      injection hp with hp; subst hp
      rw [List.getElem?_set_ne hne] at hq
      intro hqb
      rcases hat with e | e
      · exact h5 i k x q hne hx hq b (by rw [← e]; exact hb) hqb
      · rw [e] at hb; injection hb with hb; subst hb
        obtain ⟨l, hl⟩ : ∃ l, bs[k]? = some l := ⟨_, List.getElem?_eq_getElem (by have := (List.getElem?_eq_some_iff.1 hq).1; omega)⟩
        have := ((h4 k q l hq hl).2.2.1).blockAt hqb
        omega
    · rw [List.getElem?_set_ne (Ne.symm e1)] at hp
      by_cases e2 : k = j
      · subst e2
        rw [List.getElem?_set_self hj] at hq
        injection hq with hq; subst hq
        intro hqb
        rcases hat with e | e
        · exact h5 i k p x hne hp hx b hb (by rw [← e]; exact hqb)
        · rw [e] at hqb; injection hqb with hqb; subst hqb
          obtain ⟨l, hl⟩ : ∃ l, bs[i]? = some l := ⟨_, List.getElem?_eq_getElem (by have := (List.getElem?_eq_some_iff.1 hp).1; omega)⟩
          have := ((h4 i p l hp hl).2.2.1).blockAt hb
          omega
      · rw [List.getElem?_set_ne (Ne.symm e2)] at hq
        exact h5 i k p q hne hp hq b hb
end
end Go.Proofs.Ytmolphaihapkkaa

/- Buckets by distance, one behind the other, are the scan. Plain mathematics, no program in it. -/
namespace Go.Proofs.Ytmolphaihapkkaa
open Go.RowKit
set_option linter.unusedSimpArgs false
set_option linter.unusedVariables false

/-- the words of a list at distance j, as hits, if j is at most the number of errors -/
noncomputable def bucketH (s : ByteArray) (e : Int) (ss : List ByteArray) (j : Nat) : List Hit := (ss.filter fun w => decide ((ed false s.data.toList w.data.toList : Int) = (j : Int) ∧ (j : Int) ≤ e)).map fun w => (w, (j : Int))
theorem bucketH_nil (s : ByteArray) (e : Int) (j : Nat) : bucketH s e [] j = [] := rfl
theorem bucketH_next (s : ByteArray) (e : Int) (ss : List ByteArray) {k : Nat} {w : ByteArray} (h : ss[k]? = some w) (j : Nat) :
    bucketH s e (ss.take (k + 1)) j = bucketH s e (ss.take k) j ++ (if (ed false s.data.toList w.data.toList : Int) = (j : Int) ∧ (j : Int) ≤ e then [(w, (j : Int))] else []) := by
  unfold bucketH
  rw [List.take_succ_eq_append_getElem (List.getElem?_eq_some_iff.1 h).1, (List.getElem?_eq_some_iff.1 h).2, List.filter_append, List.map_append]
  congr 1
  by_cases hc : (ed false s.data.toList w.data.toList : Int) = (j : Int) ∧ (j : Int) ≤ e
  · rw [if_pos hc, List.filter_cons, if_pos (by simpa using hc)]; rfl
  · rw [if_neg hc, List.filter_cons, if_neg (by simpa using hc)]; rfl
theorem bucketH_len (s : ByteArray) (e : Int) (ss : List ByteArray) (j : Nat) : (bucketH s e ss j).length ≤ ss.length := by
  unfold bucketH; rw [List.length_map]; exact List.length_filter_le _ _
theorem bucketH_mem {s : ByteArray} {e : Int} {ss : List ByteArray} {j : Nat} {x : Hit} : x ∈ bucketH s e ss j ↔ x.1 ∈ ss ∧ x.2 = (j : Int) ∧ (ed false s.data.toList x.1.data.toList : Int) = (j : Int) ∧ (j : Int) ≤ e := by
  unfold bucketH
  rw [List.mem_map]
  constructor
  · rintro ⟨w, hw, rfl⟩
    obtain ⟨a, b⟩ := List.mem_filter.1 hw
    have b := of_decide_eq_true b
    exact ⟨a, rfl, b.1, b.2⟩
  · rintro ⟨a, b, c, d⟩
    refine ⟨x.1, List.mem_filter.2 ⟨a, decide_eq_true ⟨c, d⟩⟩, ?_⟩
    rw [← b]
theorem bucketH_asc {ss : List ByteArray} (ha : ascB ss = true) (s : ByteArray) (e : Int) (j : Nat) : ascH (bucketH s e ss j) := by
  unfold ascH bucketH
  rw [List.pairwise_map]
  refine List.Pairwise.filter _ ?_
  rw [List.pairwise_iff_getElem]
  intro p q hp hq hpq
  have := asc_lt ha (q - p - 1) p ss[p] ss[q] (List.getElem?_eq_getElem hp) (by rw [show p + (q - p - 1) + 1 = q by omega]; exact List.getElem?_eq_getElem hq)
  unfold beforeH
  rw [this]; simp
/-- the first n buckets, one behind the other -/
noncomputable def joinB (s : ByteArray) (e : Int) (ss : List ByteArray) : Nat → List Hit
  | 0 => []
  | n + 1 => joinB s e ss n ++ bucketH s e ss n
theorem joinB_mem {s : ByteArray} {e : Int} {ss : List ByteArray} {x : Hit} : ∀ n, x ∈ joinB s e ss n ↔ x.1 ∈ ss ∧ x.2 = (ed false s.data.toList x.1.data.toList : Int) ∧ x.2 ≤ e ∧ x.2 < (n : Int)
  | 0 => by
    constructor
    · intro h; cases h
    · rintro ⟨_, b, _, d⟩; omega
  | n + 1 => by
    rw [joinB, List.mem_append, joinB_mem n, bucketH_mem]
    constructor
    · rintro (⟨a, b, c, d⟩ | ⟨a, b, c, d⟩)
      · exact ⟨a, b, c, by omega⟩
      · exact ⟨a, by omega, by omega, by omega⟩
    · rintro ⟨a, b, c, d⟩
      by_cases h : x.2 < (n : Int)
      · exact .inl ⟨a, b, c, h⟩
      · exact .inr ⟨a, by omega, by omega, by omega⟩
theorem joinB_asc {ss : List ByteArray} (ha : ascB ss = true) (s : ByteArray) (e : Int) : ∀ n, ascH (joinB s e ss n)
  | 0 => List.Pairwise.nil
  | n + 1 => by
    rw [joinB]
    unfold ascH
    rw [List.pairwise_append]
    refine ⟨joinB_asc ha s e n, bucketH_asc ha s e n, fun x hx y hy => ?_⟩
    have h1 := ((joinB_mem n).1 hx).2.2.2
    have h2 := (bucketH_mem.1 hy).2.1
    unfold beforeH
    rw [decide_eq_true (show x.2 < y.2 by omega)]; rfl
theorem joinB_scan {ss : List ByteArray} (h : listB ss = true) (s : ByteArray) {e : Int} {n : Nat} (he : e < (n : Int)) : joinB s e ss n = scanF s e ss := by
  have ha : ascB ss = true := by unfold listB at h; rw [Bool.and_eq_true] at h; exact h.2
  refine asc_ext _ _ (joinB_asc ha s e n) (scan_asc h s e) (fun x => ?_)
  rw [joinB_mem, scan_mem h]
  constructor
  · rintro ⟨a, b, c, _⟩; exact ⟨a, b, c⟩
  · rintro ⟨a, b, c⟩; exact ⟨a, b, c, by omega⟩
end Go.Proofs.Ytmolphaihapkkaa

/- make of slices of records: of n zero ones, and of none with room for n. -/
namespace Go.Proofs.Ytmolphaihapkkaa
open Go.RowKit
set_option maxHeartbeats 400000
set_option linter.unusedSimpArgs false
set_option linter.unusedVariables false

section
variable {α : Type} {ops : Array Oper} {rest : List Oper} {o : Oper} {a : Act} {w : World} {Q : Exit → Act → World → Prop}
/-- make([]T, 0, n) -/
theorem wp_make_room (R : Rec α) (hg : o.guard = none) (l c : Operand) (hop : o.op = .makeSlice R.S l c) (n : Nat) (C : Int) (hl : a.eval l = .int .i64 0) (hc : a.eval c = .int .i64 C) (hC : C = (n : Int)) (hn : n ≤ 1000000000)
    (hK : ∀ w', OwnR R w' w.heap.size (some ⟨w.heap.size, 0, none⟩) 0 n [] → w.grownBy w' none → w.heap.size < w'.heap.size → wpList Try.prog ops Q rest (a.put o.dst (.slice (some ⟨w.heap.size, 0, none⟩) 0 n)) w') : wpList Try.prog ops Q (o :: rest) a w := by
  obtain ⟨i0, hi0, hz0, hz1, hz2⟩ := info_parts R.info
  have hsm := R.small
  have hb : i0.bytes * n ≤ 281474976710656 := by
    rw [hz2]
    have := Nat.mul_le_mul hsm hn
    omega
  exact wpList_make_own w hg l c R.S hop w.heap.size R.E i0 R.z R.k R.under hi0 hz0 hz1 .i64 .i64 C n hl hc hC hb (by unfold maxLen; omega) (Nat.le_refl _) fun w' h1 h2 => hK w' ⟨by simpa [Rec.row] using h1, by simp⟩ h2 (World.ownsRow.lt h1 w.heap.size rfl).2
/-- make([]T, n) -/
theorem wp_make_recs (R : Rec α) (z0 : α) (hz : R.z.cells.toList = R.enc z0) (hok : R.ok z0) (hg : o.guard = none) (l c : Operand) (hop : o.op = .makeSlice R.S l c) (n : Nat) (L C : Int) (hl : a.eval l = .int .i64 L) (hc : a.eval c = .int .i64 C) (hL : L = (n : Int)) (hC : C = (n : Int)) (hn : n ≤ 1000000000)
    (hK : ∀ w', OwnR R w' w.heap.size (some ⟨w.heap.size, 0, none⟩) n n (List.replicate n z0) → w.grownBy w' none → w.heap.size < w'.heap.size → wpList Try.prog ops Q rest (a.put o.dst (.slice (some ⟨w.heap.size, 0, none⟩) n n)) w') : wpList Try.prog ops Q (o :: rest) a w := by
  obtain ⟨i0, hi0, hz0, hz1, hz2⟩ := info_parts R.info
  have hsm := R.small
  have hb : i0.bytes * n ≤ 281474976710656 := by
    rw [hz2]
    have := Nat.mul_le_mul hsm hn
    omega
  have hmade := R.made z0 hz n
  refine wpList_make_full w hg l c R.S hop w.heap.size R.E i0 R.z R.k R.under hi0 hz0 hz1 .i64 .i64 _ _ n hl hc hL hC hb (by unfold maxLen; omega) (Nat.le_refl _) fun w' h1 h2 => hK w' ⟨?_, fun x hx => ?_⟩ h2 (World.ownsRow.lt h1 w.heap.size rfl).2
  · rw [← hmade]; exact h1
  · obtain ⟨_, rfl⟩ := List.mem_replicate.1 hx
    exact hok
end
end Go.Proofs.Ytmolphaihapkkaa

/- Texts as records of one cell: the laws of Recs for rows of texts. -/
namespace Go.Proofs.Ytmolphaihapkkaa
open Go.RowKit
set_option maxHeartbeats 400000
set_option linter.unusedSimpArgs false
set_option linter.unusedVariables false

def textR : Rec ByteArray where
  enc s := [.string s]
  k := 1
  ok s := s.size ≤ maxLen
  E := 9
  S := 30
  bytes := 16
  len _ := rfl
  one _ v h := by simp at h; subst h; rfl
  pos := by omega
  small := by omega
  z := .string ⟨#[]⟩
  zk := rfl
  under := Try.underlying30
  info := by kernel_rfl
theorem textR_row (ss : List ByteArray) : textR.row ss = ss.map Value.string := by
  induction ss with
  | nil => rfl
  | cons s ss ih => unfold Rec.row at ih ⊢; rw [List.flatMap_cons, ih]; rfl
theorem ownTx_iff {w : World} {base n cap : Nat} {A : Option Addr} {ss : List ByteArray} : OwnR textR w base A n cap ss ↔ OwnTx w base A n cap ss := by
  unfold OwnR OwnTx
  rw [textR_row]
  exact Iff.rfl
theorem strs_recs {w : World} {B n : Nat} {A : Option Addr} {ss : List ByteArray} (h : Strs w B A n ss) : Recs textR w B A n ss := by
  obtain ⟨h1, h2, h3⟩ := h
  refine ⟨h1, h2, fun hn => ?_⟩
  obtain ⟨b, o, hA, hb, hc⟩ := h3 hn
  refine ⟨b, o, hA, hb, fun j e he i v hv => ?_⟩
  have hi : i = 0 := by
    have := (List.getElem?_eq_some_iff.1 hv).1
    have hl : (textR.enc e).length = 1 := rfl
    omega
  subst hi
  have hv2 : v = .string e := by
    have : (textR.enc e)[0]? = some (Value.string e) := rfl
    rw [this] at hv; injection hv with h; exact h.symm
  subst hv2
  have := hc j e he
  show w.cell? ⟨b, o + j * 1 + 0, none⟩ = _
  rw [Nat.mul_one, Nat.add_zero]; exact this
theorem recs_strs {w : World} {B n : Nat} {A : Option Addr} {ss : List ByteArray} (h : Recs textR w B A n ss) : Strs w B A n ss := by
  obtain ⟨h1, h2, h3⟩ := h
  refine ⟨h1, h2, fun hn => ?_⟩
  obtain ⟨b, o, hA, hb, hc⟩ := h3 hn
  refine ⟨b, o, hA, hb, fun j s hs => ?_⟩
  have := hc j s hs 0 (.string s) rfl
  rw [show o + j * textR.k + 0 = o + j by show o + j * 1 + 0 = o + j; omega] at this
  exact this
end Go.Proofs.Ytmolphaihapkkaa

/- The program's bucketsOf: the words of a list in buckets by their distances from a word, an array of thirteen slices by value. -/
namespace Go.Proofs.Ytmolphaihapkkaa
open Go.RowKit
set_option maxHeartbeats 1600000
set_option maxRecDepth 8192
set_option linter.unusedSimpArgs false
set_option linter.unusedVariables false

theorem bkt_info : (Try.prog.info? 66).map (fun i => (i.zero, i.size)) = some (some (.agg (Array.replicate 13 (.slice none 0 0))), 13) := by kernel_rfl
/-- thirteen slices, as an array -/
def headsV (hs : List Head) : Array Value := (hs.map Head.val).toArray
theorem headsV_size (hs : List Head) : (headsV hs).size = hs.length := by simp [headsV]
theorem headsV_get {hs : List Head} {j : Nat} {x : Head} (h : hs[j]? = some x) : (headsV hs)[j]? = some x.val := by simp [headsV, h]
theorem headsV_set (hs : List Head) (j : Nat) (x : Head) : (headsV hs).setIfInBounds j x.val = headsV (hs.set j x) := by simp [headsV, List.map_set]
theorem headsV_one (hs : List Head) : (headsV hs).all (·.oneCell') = true := by
  rw [Array.all_eq_true_iff_forall_mem]
  intro v hv
  simp [headsV] at hv
  obtain ⟨_, _, _, _, rfl⟩ := hv
  rfl
/-- block g holds them -/
def ArrH (w : World) (g : Nat) (hs : List Head) : Prop := w.heap[g]? = some (.cells (headsV hs) 66 (0, 0))
def noHeads : List Head := List.replicate 13 (none, 0, 0)
section
variable {w w' : World} {base g : Nat} {hs : List Head}
theorem ArrH.lt (h : ArrH w g hs) : g < w.heap.size := (Array.getElem?_eq_some_iff.1 h).1
theorem ArrH.block (h : ArrH w g hs) (hk : w'.heap[g]? = w.heap[g]?) : ArrH w' g hs := hk.trans h
theorem ArrH.below (h : ArrH w g hs) (hb : Below w.heap.size w w') : ArrH w' g hs := h.block (hb.block g h.lt)
theorem ArrH.alloc (h : ArrH w g hs) (o : Obj) : ArrH (w.alloc o) g hs := h.below ((Below.refl _ _).alloc (Nat.le_refl _) _)
theorem ArrH.setCell (h : ArrH w g hs) {p : Addr} (v : Value) (hne : g ≠ p.block) : ArrH (w.setCell p v) g hs := h.block (by simp [World.setCell, Array.getElem?_modify, Ne.symm hne])
theorem ArrH.stored (h : ArrH w g hs) (j : Nat) (x : Head) : ArrH (w.setCell ⟨g, j, none⟩ x.val) g (hs.set j x) := by
  unfold ArrH
  rw [heap_setCell_same w g j _ _ _ h, headsV_set]
theorem ArrH.at_ (h : ArrH w g hs) {j : Nat} {x : Head} (hx : hs[j]? = some x) : w.cell? ⟨g, j, none⟩ = some x.val := by rw [cell_of_row w g j _ _ _ h, headsV_get hx]
theorem ArrH.frozen (h : ArrH w g hs) (k : Nat) : w.frozen? ⟨g, k, none⟩ = false := frozen_of_row w g k _ _ h
theorem ArrH.rowed (h : ArrH w g hs) (hs' : List Head) : ArrH (w.setRow g (headsV hs')) g hs' := setRow_heap w g _ _ _ _ h
theorem ArrH.zero (w : World) : ArrH (w.alloc (.cells #[.slice none 0 0, .slice none 0 0, .slice none 0 0, .slice none 0 0, .slice none 0 0, .slice none 0 0, .slice none 0 0, .slice none 0 0, .slice none 0 0, .slice none 0 0, .slice none 0 0, .slice none 0 0, .slice none 0 0] 66)) w.heap.size noHeads := heap_alloc_new w _
theorem ArrH.zero_at (hg : g = w.heap.size) : ArrH (w.alloc (.cells #[.slice none 0 0, .slice none 0 0, .slice none 0 0, .slice none 0 0, .slice none 0 0, .slice none 0 0, .slice none 0 0, .slice none 0 0, .slice none 0 0, .slice none 0 0, .slice none 0 0, .slice none 0 0, .slice none 0 0] 66)) g noHeads := by subst hg; exact ArrH.zero w
theorem ArrH.load (h : ArrH w g hs) (hl : hs.length = 13) : (Instr.loadAt 66 (.pointer (some ⟨g, 0, none⟩))).run Try.prog w = .ok (.agg (headsV hs)) w := by
  simp only [Instr.loadAt, Instr.sureAddr, Sem.run_bind, Sem.run_pure, Result.andThen]
  exact run_loadVar_row w g _ _ _ _ _ h Try.underlying66 rfl (by rw [headsV_size, hl]; exact (zero_of_info bkt_info).2)
theorem ArrH.loadVar (h : ArrH w g hs) (hl : hs.length = 13) : (loadVar 66 ⟨g, 0, none⟩).run Try.prog w = .ok (.agg (headsV hs)) w :=
  run_loadVar_row w g _ _ _ _ _ h Try.underlying66 rfl (by rw [headsV_size, hl]; exact (zero_of_info bkt_info).2)
theorem ArrH.bks {α : Type} {R : Rec α} (h : ArrH w g noHeads) (hb : base ≤ g) : Bks R w base g noHeads (List.replicate 13 []) :=
  Bks.made 13 w hb h.lt fun j hj => ⟨h.at_ (x := (none, 0, 0)) (by unfold noHeads; rw [List.getElem?_replicate, if_pos hj]), h.frozen j⟩
end
theorem wp_load_bkt {ops : Array Oper} {rest : List Oper} {o : Oper} {a : Act} {w : World} {Q : Exit → Act → World → Prop} (hgd : o.guard = none) (x : Operand) (ho : o.op = .load 66 x)
    (g : Nat) (hs : List Head) (hl : hs.length = 13) (hx : a.eval x = .pointer (some ⟨g, 0, none⟩)) (h : ArrH w g hs) (hk : wpList Try.prog ops Q rest (a.put o.dst (.agg (headsV hs))) w) : wpList Try.prog ops Q (o :: rest) a w := by
  refine wpList_plain hgd fun K hK => ?_
  unfold Oper.wp execOp
  simp only [ho, hx, Sem.run_bind, h.load hl, Result.andThen_ok]
  exact hK _ _ hk
theorem wp_store_bkt {ops : Array Oper} {rest : List Oper} {o : Oper} {a : Act} {w : World} {Q : Exit → Act → World → Prop} (hgd : o.guard = none) (x y : Operand) (ho : o.op = .store 66 x y)
    (g : Nat) (hs hs' : List Head) (hl : hs.length = 13) (hl' : hs'.length = 13) (hx : a.eval x = .pointer (some ⟨g, 0, none⟩)) (hy : a.eval y = .agg (headsV hs')) (h : ArrH w g hs)
    (hk : wpList Try.prog ops Q rest (a.put o.dst undef) (w.setRow g (headsV hs'))) : wpList Try.prog ops Q (o :: rest) a w :=
  wpList_store_row hgd 66 x y ho g (headsV hs') hx hy _ _ h (by rw [headsV_size, hl']; exact (zero_of_info bkt_info).2) (by rw [headsV_size, headsV_size, hl, hl']) (headsV_one _) hk

/-- the words of a list at distance j -/
noncomputable def bucketW (s : ByteArray) (ss : List ByteArray) (j : Nat) : List ByteArray := ss.filter fun w => decide (ed false w.data.toList s.data.toList = j)
theorem bucketW_next (s : ByteArray) (ss : List ByteArray) {k : Nat} {w : ByteArray} (h : ss[k]? = some w) (j : Nat) :
    bucketW s (ss.take (k + 1)) j = bucketW s (ss.take k) j ++ (if ed false w.data.toList s.data.toList = j then [w] else []) := by
  unfold bucketW
  rw [List.take_succ_eq_append_getElem (List.getElem?_eq_some_iff.1 h).1, (List.getElem?_eq_some_iff.1 h).2, List.filter_append]
  congr 1
  by_cases hc : ed false w.data.toList s.data.toList = j
  · rw [if_pos hc, List.filter_cons, if_pos (by simpa using hc)]; rfl
  · rw [if_neg hc, List.filter_cons, if_neg (by simpa using hc)]; rfl
theorem bucketW_len (s : ByteArray) (ss : List ByteArray) (j : Nat) : (bucketW s ss j).length ≤ ss.length := List.length_filter_le _ _
noncomputable def bkW (s : ByteArray) (ss : List ByteArray) (k : Nat) : List (List ByteArray) := (List.range 13).map (bucketW s (ss.take k))
theorem bkW_len (s : ByteArray) (ss : List ByteArray) (k : Nat) : (bkW s ss k).length = 13 := by unfold bkW; simp
theorem bkW_get (s : ByteArray) (ss : List ByteArray) (k : Nat) {j : Nat} (hj : j < 13) : (bkW s ss k)[j]? = some (bucketW s (ss.take k) j) := by unfold bkW; simp [hj]
theorem bkW_zero (s : ByteArray) (ss : List ByteArray) : bkW s ss 0 = List.replicate 13 [] := rfl
theorem bkW_next {s : ByteArray} {ss : List ByteArray} {k d : Nat} {w : ByteArray} (h : ss[k]? = some w) (hd : ed false w.data.toList s.data.toList = d) (hd13 : d < 13) : bkW s ss (k + 1) = (bkW s ss k).set d (bucketW s (ss.take k) d ++ [w]) := by
  apply List.ext_getElem?
  intro j
  by_cases hj : j < 13
  · rw [bkW_get _ _ _ hj, bucketW_next s ss h]
    by_cases e1 : d = j
    · subst e1
      rw [List.getElem?_set_self (by rw [bkW_len]; exact hj), if_pos hd]
    · rw [List.getElem?_set_ne e1, bkW_get _ _ _ hj, if_neg (by omega), List.append_nil]
  · rw [List.getElem?_eq_none (by rw [bkW_len]; omega), List.getElem?_eq_none (by rw [List.length_set, bkW_len]; omega)]

/-- a new block of one text reads so -/
theorem texts_one1 (w : World) (s : ByteArray) (hs : s.size ≤ maxLen) : Recs textR (w.alloc (.cells #[.string s] 9)) (w.heap.size + 1) (some ⟨w.heap.size, 0, none⟩) 1 [s] := by
  have h := (OwnR.lit (R := textR) w s hs).recs
  have e : (w.alloc (.cells (textR.enc s).toArray textR.E)).heap.size = w.heap.size + 1 := by simp
  rw [e] at h
  exact h
theorem buckets_any (A : Option Addr) (n c B : Nat) (ss : List ByteArray) (s : ByteArray) (w : World) (h : Strs w B A n ss) (hB : B ≤ w.heap.size) (hs : s.size ≤ maxLen) (hl : listB ss = true) (hw : wordB s.data.toList = true) :
    Calls Try.prog 53 #[.slice A n c, .string s] w fun e w' => ∃ hs : List Head, hs.length = 13 ∧ e = .returned (.agg (headsV hs)) ∧ (∀ j x, hs[j]? = some x → OwnTx w' w.heap.size x.1 x.2.1 x.2.2 (bucketW s ss j)) ∧ Below w.heap.size w w' := by
  have hF := (list_filled hl).2
  have hn60 : n ≤ 60 := by have := (list_filled hl).1; rw [h.1] at this; exact this
  have HL := Lib.hid h.1
  have HT := Lib.hid (fun (k : Nat) (x : ByteArray) (hx : ss[k]? = some x) => (show ∃ d : Nat, d < 13 ∧ ed false x.data.toList s.data.toList = d ∧ ∀ (W : World), x.size ≤ maxLen → Calls Try.prog 24 #[.string x, .string s] W fun ee w' => ee = .returned (.int .i64 (d : Int)) ∧ Below W.heap.size W w' from by
    have hwx := filled_word (hF x (List.mem_of_getElem? hx))
    refine ⟨ed false x.data.toList s.data.toList, ?_, rfl, fun W hxs => ?_⟩
    · have h1 := ed_most false x.data.toList s.data.toList
      have h2 := word_size hwx
      have h3 := word_size hw
      have e1 : x.data.toList.length = x.size := Array.length_toList
      have e2 : s.data.toList.length = s.size := Array.length_toList
      omega
    · have q := editDistance_impl x s W hxs hs
      rw [twoI_yes (by rw [hwx, hw]; rfl)] at q
      exact q))
  have H := Lib.hid h
  clear h hF hl hw
  go_enter Try.func53, Try.ntmps53
  go_wp2_with fail
  obtain ⟨z13, hz13⟩ : ∃ z13 : Obj, z13 = .cells #[.slice none 0 0, .slice none 0 0, .slice none 0 0, .slice none 0 0, .slice none 0 0, .slice none 0 0, .slice none 0 0, .slice none 0 0, .slice none 0 0, .slice none 0 0, .slice none 0 0, .slice none 0 0, .slice none 0 0] 66 := ⟨_, rfl⟩
  have hr4 : ArrH ((w.alloc z13).alloc z13) w.heap.size noHeads := by rw [hz13]; exact (ArrH.zero w).alloc _
  have hr5 : ArrH ((w.alloc z13).alloc z13) (w.heap.size + 1) noHeads := by rw [hz13]; exact ArrH.zero_at (by simp)
  have hb2 : Below w.heap.size w ((w.alloc z13).alloc z13) := ((Below.refl _ _).alloc (Nat.le_refl _) _).alloc (by simp) _
  have hbk := hr5.bks (R := textR) (base := w.heap.size + 1) (Nat.le_refl _)
  rw [← hz13]
  clear hz13
  generalize (w.alloc z13).alloc z13 = w2 at *
  obtain ⟨g, hg⟩ : ∃ g, g = w.heap.size + 1 := ⟨_, rfl⟩
  rw [← hg] at hr5 hbk ⊢
  have hg1 : w.heap.size ≤ g := by omega
  have hg2 : w.heap.size < g := by omega
  clear hg
  go_loopw [11] (fun i wr => ∃ (k : Nat) (hs : List Head), k ≤ n ∧ i = .int .i64 (k : Int) ∧ hs.length = 13 ∧ Hid (Bks textR wr g g hs (bkW s ss k)) ∧ Hid (ArrH wr g hs) ∧ Hid (ArrH wr w.heap.size noHeads) ∧ Below w.heap.size w wr) (fun i _ => n - (intOf i).toNat)
  case atStart => exact ⟨0, noHeads, Nat.zero_le _, rfl, by simp [noHeads], Lib.hid (by rw [bkW_zero]; exact hbk), Lib.hid hr5, Lib.hid hr4, hb2⟩
  case round =>
    clear hbk hb2 hr4 hr5
    obtain ⟨k, hs5, hk, rfl, hlen, HB, HR5, HR4, hbel⟩ := hrel
    have hz := hbel.size
    by_cases hlt : k < n
    · obtain ⟨b, o, x, rfl, hbB, hx, hxs, hcx⟩ := (H.out.step hbel hB).at_ hlt
      have i0 : (0 : Int) ≤ (k : Int) := by omega
      have i1 : (k : Int) < (n : Int) := by omega
      obtain ⟨d, hd13, hdd, htx⟩ := HT.out k x hx
      have HTX := Lib.hid htx
      have HNX := Lib.hid (bkW_next hx hdd hd13)
      clear hx htx hdd
      go_wp2_with fail
      refine (HTX.out _ hxs).mono ?_
      rintro ee w4 ⟨rfl, hb4⟩
      have hb5 := below_step hbel (Nat.le_refl _) hb4
      have hbk4 := HB.out.below (hb4.mono (Nat.le_refl _))
      have HR54 := Lib.hid (HR5.out.below (hb4.mono (Nat.le_refl _)))
      have HR44 := Lib.hid (HR4.out.below (hb4.mono (Nat.le_refl _)))
      clear hbel HTX HR5 HR4 HB
      obtain ⟨⟨a, m, cp⟩, l, hhx, hl, hc, hf, ho, hne⟩ := hbk4.at_ (j := d) (by omega)
      have hl3 : l = bucketW s (ss.take k) d := by rw [bkW_get _ _ _ hd13] at hl; exact (Option.some.inj hl).symm
      subst hl3
      change w4.cell? ⟨g, d, none⟩ = some (.slice a m cp) at hc
      have hml := ho.len
      have hml2 := bucketW_len s (ss.take k) d
      rw [List.length_take] at hml2
      simp only at hml ho
      have d0 : (0 : Int) ≤ (d : Int) := by omega
      have d5 : (d : Int) < 13 := by omega
      have HO := Lib.hid ho
      have HK := Lib.hid hbk4
      have HHX := Lib.hid hhx
      have HG5 := Lib.hid hb5
      have hz4 := hb5.size
      have hgl := hbk4.lt
      have HNE := Lib.hid (show (Value.slice a m cp).ownBlock ≠ some g from hne)
      have HF := Lib.hid hf
      have HC := Lib.hid hc
      clear ho hbk4 hl hb5 hhx hne hf
      go_wp2_with
        (at_builtin
         refine wp_append_recs (R := textR) rfl (.tmp 21) (.tmp 23) rfl g (w4.heap.size + 1) m cp 1 1 a (some ⟨w4.heap.size, 0, none⟩) _ [x] rfl (HO.out.alloc _) rfl (texts_one1 w4 x hxs) (by simp; omega) (by omega) ?_
         intro A3 cap3 w5 hown5 hg5 hat5 hne5
         have hblk : w5.heap[g]? = w4.heap[g]? := (hg5.block g (by simp; omega) (fun e => HNE.out e.symm)).trans (heap_alloc_old w4 _ (by omega))
         have c5 : w5.cell? ⟨g, d, none⟩ = some (.slice a m cp) := by rw [← HC.out]; unfold World.cell?; simp only [hblk]
         have f5 : w5.frozen? ⟨g, d, none⟩ = false := by rw [← HF.out]; unfold World.frozen?; simp only [hblk])
      have hgr := (HK.out.alloc (.cells #[.string x] 9)).grow HHX.out hg5 (A3, m + 1, cap3) _ hown5 hat5
      have hb6 : Below w.heap.size w w5 := (HG5.out.alloc hz4 (.cells #[.string x] 9)).grown hg5 (by simp; omega) (fun j hj => by have := (HO.out.blockAt hj).1; omega)
      have hb7 := hb6.setCell (p := ⟨g, d, none⟩) (show w.heap.size ≤ g by omega) (.slice A3 (m + 1) cap3)
      have hblk4 : w5.heap[w.heap.size]? = w4.heap[w.heap.size]? := (hg5.block w.heap.size (by simp; omega) (fun e => by have := (HO.out.blockAt e.symm).1; omega)).trans (heap_alloc_old w4 _ (by omega))
      have hr5 : ArrH (w5.setCell ⟨g, d, none⟩ (.slice A3 (m + 1) cap3)) g (hs5.set d (A3, m + 1, cap3)) := (HR54.out.block hblk).stored d (A3, m + 1, cap3)
      have hr4 : ArrH (w5.setCell ⟨g, d, none⟩ (.slice A3 (m + 1) cap3)) w.heap.size noHeads := (HR44.out.block hblk4).setCell _ (by show w.heap.size ≠ g; omega)
      go_roundw
      case rel => exact ⟨k + 1, hs5.set d (A3, m + 1, cap3), by omega, by go_num, by rw [List.length_set]; exact hlen, Lib.hid (by rw [HNX.out]; exact hgr), Lib.hid hr5, Lib.hid hr4, hb7⟩
      case measure => simp [intOf]; omega
    · obtain rfl : n = k := by omega
      have hbk : Bks textR wr g g hs5 (bkW s ss ss.length) := by rw [HL.out]; exact HB.out
      go_wp2_with (first | (refine wp_load_bkt rfl _ rfl g hs5 hlen rfl HR5.out ?_) | (refine wp_store_bkt rfl _ _ rfl w.heap.size noHeads hs5 (by simp [noHeads]) hlen rfl rfl HR4.out ?_))
      have hr := HR4.out.rowed hs5
      have hb := below_setRow hbel (Nat.le_refl _) (headsV hs5)
      refine bodyPost_ret (v := .agg (headsV hs5)) ?_ rfl ⟨hs5, hlen, rfl, fun j x hx => ?_, hb⟩
      · rw [results_cell_row rfl _ _ w.heap.size _ _ _ _ rfl hr Try.underlying66 rfl (by rw [headsV_size, hlen]; exact (zero_of_info bkt_info).2)]
      · have hj : j < 13 := by rw [← hlen]; exact (List.getElem?_eq_some_iff.1 hx).1
        obtain ⟨x', l, hx', hl, _, _, ho, _⟩ := hbk.at_ (j := j) (by omega)
        rw [hx] at hx'
        injection hx' with hx'
        subst hx'
        rw [bkW_get _ _ _ hj, List.take_length] at hl
        injection hl with hl
        subst hl
        obtain ⟨a, m, cp⟩ := x
        simp only at ho ⊢
        rw [← ownTx_iff]
        rcases ho.shape with ⟨rfl, rfl, rfl⟩ | ⟨q, rfl, hq, _⟩
        · have := ho.len
          rw [List.eq_nil_of_length_eq_zero this]
          exact OwnR.nil _ _
        · exact (ho.mono hg1).block (setRow_other wr w.heap.size q (headsV hs5) (by omega))
end Go.Proofs.Ytmolphaihapkkaa

/- The program's ScanWords. -/
namespace Go.Proofs.Ytmolphaihapkkaa
open Go.RowKit
set_option maxHeartbeats 1600000
set_option maxRecDepth 8192
set_option linter.unusedSimpArgs false
set_option linter.unusedVariables false

theorem bucketH_words (s : ByteArray) {e : Int} (ss : List ByteArray) {j : Nat} (hj : (j : Int) ≤ e) : bucketH s e ss j = (bucketW s ss j).map fun w => (w, (j : Int)) := by
  unfold bucketH bucketW
  congr 1
  refine List.filter_congr fun w _ => ?_
  rw [ed_symm false s.data.toList]
  by_cases h : ed false w.data.toList s.data.toList = j
  · rw [decide_eq_true h, decide_eq_true ⟨by omega, hj⟩]
  · rw [decide_eq_false h, decide_eq_false (fun q => h (by omega))]
theorem joinB_few (s : ByteArray) (e : Int) (ss : List ByteArray) : ∀ n, (joinB s e ss n).length ≤ n * ss.length
  | 0 => Nat.zero_le _
  | n + 1 => by
    rw [joinB, List.length_append, Nat.add_mul, Nat.one_mul]
    have := joinB_few s e ss n
    have := bucketH_len s e ss n
    omega
theorem map_take_next {ss : List ByteArray} {k : Nat} {x : ByteArray} (h : ss[k]? = some x) (j : Int) : (ss.take (k + 1)).map (fun w => (w, j)) = (ss.take k).map (fun w => (w, j)) ++ [(x, j)] := by
  rw [List.take_succ_eq_append_getElem (List.getElem?_eq_some_iff.1 h).1, (List.getElem?_eq_some_iff.1 h).2, List.map_append]; rfl
theorem scanE_no {ss : List ByteArray} {s : ByteArray} {e : Int} (h : (listB ss && wordB s.data.toList && (decide (0 ≤ e) && decide (e ≤ 4))) = false) : scanE ss s e = [] := by unfold scanE; rw [h]; rfl
theorem scanE_yes {ss : List ByteArray} {s : ByteArray} {e : Int} (h : (listB ss && wordB s.data.toList && (decide (0 ≤ e) && decide (e ≤ 4))) = true) : scanE ss s e = scanF s e ss := by unfold scanE; rw [if_pos h]

theorem scanWords_impl : ScanC := by
  intro A n c B ss s k w hn hnc hc h hB hs hk
  have hnm : n ≤ maxLen := by unfold maxLen; omega
  cases hl : listB ss
  · have HN := Lib.hid (scanE_no (ss := ss) (s := s) (e := k) (by rw [hl]; rfl))
    have HV := Lib.hid (listValid_impl_is (A := A) (n := n) (B := B) hl c w hnm h)
    clear hl
    go_enter Try.func18, Try.ntmps18
    go_wp2_with fail
    refine HV.out.mono ?_
    rintro e w1 ⟨rfl, hd1⟩
    go_wp2_with fail
    go_ret
    rw [HN.out]
    exact ⟨none, 0, rfl, OwnR.nil _ _, hd1.below⟩
  · have HV := Lib.hid (listValid_impl_is (A := A) (n := n) (B := B) hl c w hnm h)
    cases hw : wordB s.data.toList
    · have HN := Lib.hid (scanE_no (ss := ss) (s := s) (e := k) (by rw [hl, hw]; rfl))
      have HW := Lib.hid (wordValid_impl_is hw)
      clear hl hw
      go_enter Try.func18, Try.ntmps18
      go_wp2_with fail
      refine HV.out.mono ?_
      rintro e w1 ⟨rfl, hd1⟩
      go_wp2_with fail
      refine (HW.out _ hs).mono ?_
      rintro e w' ⟨rfl, rfl⟩
      go_wp2_with fail
      go_ret
      rw [HN.out]
      exact ⟨none, 0, rfl, OwnR.nil _ _, hd1.below⟩
    · have HW := Lib.hid (wordValid_impl_is hw)
      cases hq : (decide (0 ≤ k) && decide (k ≤ 4))
      · have HN := Lib.hid (scanE_no (ss := ss) (s := s) (e := k) (by rw [hl, hw, hq]; rfl))
        have HE := Lib.hid (isErrors_is hq)
        clear hl hw hq
        go_enter Try.func18, Try.ntmps18
        go_wp2_with fail
        refine HV.out.mono ?_
        rintro e w1 ⟨rfl, hd1⟩
        go_wp2_with fail
        refine (HW.out _ hs).mono ?_
        rintro e w' ⟨rfl, rfl⟩
        go_wp2_with fail
        refine (HE.out _).mono ?_
        rintro e w' ⟨rfl, rfl⟩
        go_wp2_with fail
        go_ret
        rw [HN.out]
        exact ⟨none, 0, rfl, OwnR.nil _ _, hd1.below⟩
      · have HE := Lib.hid (isErrors_is hq)
        obtain ⟨k0, rfl⟩ : ∃ k0 : Nat, k = (k0 : Int) := ⟨k.toNat, by simp at hq; omega⟩
        have hk4 : k0 ≤ 4 := by simp at hq; omega
        have hl60 := (list_filled hl).1
        have HN := Lib.hid (show scanE ss s k0 = joinB s (k0 : Int) ss (k0 + 1) by rw [scanE_yes (by rw [hl, hw, hq]; rfl), joinB_scan hl s (by omega)])
        have HBK := Lib.hid (fun (W : World) (hW : Strs W B A n ss) (hBW : B ≤ W.heap.size) => buckets_any A n c B ss s W hW hBW hs hl hw)
        have hkx : (k0 : Int) + 1 ≤ 13 := by omega
        have hky : (0 : Int) ≤ (k0 : Int) + 1 := by omega
        have H := Lib.hid h
        clear hl hw hq hk h
        go_enter Try.func18, Try.ntmps18
        go_wp2_with fail
        refine HV.out.mono ?_
        rintro e w1 ⟨rfl, hd1⟩
        go_wp2_with fail
        refine (HW.out _ hs).mono ?_
        rintro e w' ⟨rfl, rfl⟩
        go_wp2_with fail
        refine (HE.out _).mono ?_
        rintro e w' ⟨rfl, rfl⟩
        have hb1 := hd1.below (B := w.heap.size)
        have hz1 := hb1.size
        go_wp2_with fail
        refine (HBK.out _ (H.out.step hd1.below hB) (by omega)).mono ?_
        rintro e w2 ⟨hs2, hlen, rfl, hrows, hb2⟩
        have hb2 := below_step hb1 (Nat.le_refl _) hb2
        have hz2 := hb2.size
        obtain ⟨g, hg⟩ : ∃ g, g = w2.heap.size := ⟨_, rfl⟩
        have hr7 := ArrH.zero_at (w := w2) hg
        go_wp2_with ((refine wp_store_bkt rfl _ _ rfl g noHeads hs2 (by simp [noHeads]) hlen (by rw [hg]; rfl) rfl hr7 ?_))
        have hr8 : ArrH ((w2.alloc (.cells #[.slice none 0 0, .slice none 0 0, .slice none 0 0, .slice none 0 0, .slice none 0 0, .slice none 0 0, .slice none 0 0, .slice none 0 0, .slice none 0 0, .slice none 0 0, .slice none 0 0, .slice none 0 0, .slice none 0 0] 66)).setRow w2.heap.size (headsV hs2)) w2.heap.size hs2 := by
          rw [← hg]; exact hr7.rowed hs2
        have hb3 : Below w2.heap.size w2 ((w2.alloc (.cells #[.slice none 0 0, .slice none 0 0, .slice none 0 0, .slice none 0 0, .slice none 0 0, .slice none 0 0, .slice none 0 0, .slice none 0 0, .slice none 0 0, .slice none 0 0, .slice none 0 0, .slice none 0 0, .slice none 0 0] 66)).setRow w2.heap.size (headsV hs2)) :=
          below_setRow ((Below.refl _ _).alloc (Nat.le_refl _) _) (Nat.le_refl _) _
        rw [← hg] at hr8 hb3 ⊢
        generalize (World.setRow _ g (headsV hs2)) = w3 at *
        have hg3 := hr8.lt
        have hb4 := below_step hb2 (Nat.le_refl _) (hg ▸ hb3)
        have hz4 := hb4.size
        have HROW := Lib.hid (fun (j : Nat) (x : Head) (hx : hs2[j]? = some x) => (show Strs w3 w3.heap.size x.1 x.2.1 (bucketW s ss j) from ((hrows j x hx).below (hg ▸ hb3)).recs))
        have HR8 := Lib.hid hr8
        have HB4 := Lib.hid hb4
        have hgw : w.heap.size ≤ g := by omega
        clear hr8 hb3 hb4 hr7 hrows hb2 hg hb1 hd1
        go_loopw [33, 8] (fun i v wr => ∃ (j : Nat) (A2 : Option Addr) (m cap : Nat), j ≤ k0 + 1 ∧ i = .int .i64 (j : Int) ∧ v = .slice A2 m cap ∧ Hid (OwnHits wr w3.heap.size A2 m cap (joinB s (k0 : Int) ss j)) ∧ Below w3.heap.size w3 wr) (fun i _ _ => k0 + 1 - (intOf i).toNat)
        case atStart => exact ⟨0, none, 0, 0, Nat.zero_le _, rfl, rfl, Lib.hid (OwnR.nil _ _), Below.refl _ _⟩
        case round =>
          obtain ⟨j, A2, m, cap, hj, rfl, rfl, HO, hbel⟩ := hrel
          have hz := hbel.size
          have hfew := joinB_few s (k0 : Int) ss j
          have hml := HO.out.len
          have hj60 : j * ss.length ≤ 5 * 60 := Nat.mul_le_mul (by omega) hl60
          by_cases hlt : j < k0 + 1
          · obtain ⟨x, hx⟩ : ∃ x, hs2[j]? = some x := ⟨_, List.getElem?_eq_getElem (by omega)⟩
            have cj : wr.cell? ⟨g, j, none⟩ = some x.val := (hbel.cell (p := ⟨g, j, none⟩) hg3).trans (HR8.out.at_ hx)
            have HBH := Lib.hid (bucketH_words s ss (show (j : Int) ≤ (k0 : Int) by omega))
            have HRW := Lib.hid (HROW.out j x hx)
            have hbl := bucketW_len s ss j
            obtain ⟨a, q, cq⟩ := x
            simp only at HRW
            have hql := HRW.out.1
            clear hx
            change wr.cell? ⟨g, j, none⟩ = some (.slice a q cq) at cj
            have j0 : (0 : Int) ≤ (j : Int) := by omega
            have j1 : (j : Int) < (k0 : Int) + 1 := by omega
            have HB5 := Lib.hid hbel
            go_wp2_with fail
            go_loopw [40, 8] (fun i v wr => ∃ (p : Nat) (A2 : Option Addr) (m cap : Nat), p ≤ q ∧ i = .int .i64 (p : Int) ∧ v = .slice A2 m cap ∧ Hid (OwnHits wr w3.heap.size A2 m cap (joinB s (k0 : Int) ss j ++ ((bucketW s ss j).take p).map fun w => (w, (j : Int)))) ∧ Below w3.heap.size w3 wr) (fun i _ _ => q - (intOf i).toNat)
            case atStart => exact ⟨0, A2, m, cap, Nat.zero_le _, rfl, rfl, Lib.hid (by simpa using HO.out), HB5.out⟩
            case round =>
              clear HO HB5 hbel hz hml cj
              obtain ⟨p, A3, m3, cap3, hp, rfl, rfl, HO, hbel⟩ := hrel
              have hz := hbel.size
              have hml := HO.out.len
              rw [List.length_append, List.length_map, List.length_take] at hml
              by_cases hlt2 : p < q
              · obtain ⟨b, o, t, rfl, hbB, ht, hts, hct⟩ := (HRW.out.below hbel).at_ hlt2
                have p0 : (0 : Int) ≤ (p : Int) := by omega
                have p1 : (p : Int) < (q : Int) := by omega
                have HMT := Lib.hid (map_take_next ht (j : Int))
                have HB6 := Lib.hid hbel
                clear ht hbel
                go_wp2_with
                  (at_builtin
                   refine wp_append_recs (R := hitR) rfl (.tmp 44) (.tmp 48) rfl w3.heap.size (wr.heap.size + 1) m3 cap3 1 1 A3 (some ⟨wr.heap.size, 0, none⟩) _ [(t, (j : Int))] rfl (HO.out.alloc _) rfl (hits_one wr t (j : Int) hts (by unfold I64; omega)) (by simp; omega) (by omega) ?_
                   intro A4 cap4 w5 hown5 hg5 hat5 hne5)
                have hb7 : Below w3.heap.size w3 w5 := (HB6.out.alloc hz (.cells #[.string t, .int .i64 (j : Int)] 28)).grown hg5 (by simp; omega) (fun i hi => by have := (HO.out.blockAt hi).1; omega)
                go_roundw
                case rel => exact ⟨p + 1, A4, m3 + 1, cap4, by omega, by go_num, rfl, Lib.hid (by rw [HMT.out, ← List.append_assoc]; exact hown5), hb7⟩
                case measure => simp [intOf]; omega
              · obtain rfl : q = p := by omega
                have HO2 : Hid (OwnHits wr w3.heap.size A3 m3 cap3 (joinB s (k0 : Int) ss (j + 1))) := Lib.hid (by
                  have := HO.out
                  rw [List.take_of_length_le (by omega), ← HBH.out] at this
                  exact this)
                go_wp2_with fail
                go_roundw
                case rel => exact ⟨j + 1, A3, m3, cap3, by omega, by go_num, rfl, HO2, hbel⟩
                case measure => simp [intOf]; omega
          · obtain rfl : j = k0 + 1 := by omega
            go_wp2_with fail
            go_ret
            have hb9 := HB4.out.trans (hbel.mono hz4)
            rw [HN.out]
            exact ⟨A2, cap, by rw [hml]; rfl, by rw [hml]; exact HO.out.mono hz4, hb9⟩
end Go.Proofs.Ytmolphaihapkkaa

/- The program's NearestWords. -/
namespace Go.Proofs.Ytmolphaihapkkaa
open Go.RowKit
set_option maxHeartbeats 1600000
set_option maxRecDepth 8192
set_option linter.unusedSimpArgs false
set_option linter.unusedVariables false

theorem index_bkt {hs : List Head} {p : Nat} {x : Head} (h : hs[p]? = some x) (hp : p < 13) (w : World) : (Instr.index 66 (.agg (headsV hs)) (.int .i64 (p : Int))).run Try.prog w = .ok x.val w := by
  have h2 : (0 : Int) ≤ (p : Int) ∧ (p : Int) < 13 := by omega
  have h3 := headsV_get h
  simp [Instr.index, asIntOf, go_sem, Try.underlying66, h3, h2]
  omega
theorem bucketW_mem {s : ByteArray} {ss : List ByteArray} {j : Nat} {w : ByteArray} : w ∈ bucketW s ss j ↔ w ∈ ss ∧ ed false s.data.toList w.data.toList = j := by
  unfold bucketW
  rw [List.mem_filter, decide_eq_true_iff, ed_symm false w.data.toList]
/-- the first bucket that is not empty: the nearest words -/
theorem near_bucket {s : ByteArray} {ss : List ByteArray} {j : Nat} (h0 : ∀ p, p < j → bucketW s ss p = []) (h1 : bucketW s ss j ≠ []) : nearI s ss = (j : Int) ∧ nearL s ss = bucketW s ss j := by
  obtain ⟨w, hw⟩ := List.exists_mem_of_ne_nil _ h1
  obtain ⟨hws, hwd⟩ := bucketW_mem.1 hw
  have hpos : 0 < ss.length := List.length_pos_of_mem hws
  obtain ⟨_, f2, f3⟩ := near_facts s ss ss.length (Nat.le_refl _)
  rw [List.take_length] at f2 f3
  obtain ⟨g1, v, hv, hvd⟩ := f2 hpos
  have e : nearI s ss = (j : Int) := by
    have h2 := f3 w hws
    by_cases hlt : ed false s.data.toList v.data.toList < j
    · have := bucketW_mem (s := s).2 ⟨hv, rfl⟩
      rw [h0 _ hlt] at this
      cases this
    · omega
  refine ⟨e, ?_⟩
  unfold nearL bucketW
  refine List.filter_congr fun x _ => ?_
  rw [e, ed_symm false s.data.toList]
  by_cases h : ed false x.data.toList s.data.toList = j
  · rw [decide_eq_true h, decide_eq_true (by omega)]
  · rw [decide_eq_false h, decide_eq_false (by omega)]
theorem near_nothing {s : ByteArray} {ss : List ByteArray} (hl : listB ss = true) (hw : wordB s.data.toList = true) (h0 : ∀ p, p < 13 → bucketW s ss p = []) : ss = [] := by
  rcases List.eq_nil_or_concat ss with h | ⟨l, x, h⟩
  · exact h
  · exfalso
    have hx : x ∈ ss := by rw [h]; simp
    have hwx := filled_word ((list_filled hl).2 x hx)
    have h1 := ed_most false s.data.toList x.data.toList
    have h2 := word_size hwx
    have h3 := word_size hw
    have e1 : x.data.toList.length = x.size := Array.length_toList
    have e2 : s.data.toList.length = s.size := Array.length_toList
    have := bucketW_mem (s := s).2 ⟨hx, rfl⟩
    rw [h0 (ed false s.data.toList x.data.toList) (by omega)] at this
    cases this
theorem nearE_no {ss : List ByteArray} {s : ByteArray} (h : (listB ss && wordB s.data.toList) = false) : nearEL ss s = [] ∧ nearEI ss s = -1 := by unfold nearEL nearEI; rw [h]; exact ⟨rfl, rfl⟩
theorem nearE_yes {ss : List ByteArray} {s : ByteArray} (h : (listB ss && wordB s.data.toList) = true) : nearEL ss s = nearL s ss ∧ nearEI ss s = nearI s ss := by unfold nearEL nearEI; rw [if_pos h, if_pos h]; exact ⟨rfl, rfl⟩
theorem tx_nil (w : World) (base : Nat) : OwnTx w base none 0 0 [] := ownTx_iff.1 (OwnR.nil w base)

theorem nearestWords_impl : NearC := by
  intro A n c B ss s w hn hnc hc h hB hs
  have hnm : n ≤ maxLen := by unfold maxLen; omega
  cases hl : listB ss
  · have HN := Lib.hid (nearE_no (ss := ss) (s := s) (by rw [hl]; rfl))
    have HV := Lib.hid (listValid_impl_is (A := A) (n := n) (B := B) hl c w hnm h)
    clear hl
    go_enter Try.func29, Try.ntmps29
    go_wp2_with fail
    refine HV.out.mono ?_
    rintro e w1 ⟨rfl, hd1⟩
    go_wp2_with fail
    go_ret2
    rw [HN.out.1, HN.out.2]
    exact ⟨none, 0, rfl, tx_nil _ _, hd1.below⟩
  · have HV := Lib.hid (listValid_impl_is (A := A) (n := n) (B := B) hl c w hnm h)
    cases hw : wordB s.data.toList
    · have HN := Lib.hid (nearE_no (ss := ss) (s := s) (by rw [hl, hw]; rfl))
      have HW := Lib.hid (wordValid_impl_is hw)
      clear hl hw
      go_enter Try.func29, Try.ntmps29
      go_wp2_with fail
      refine HV.out.mono ?_
      rintro e w1 ⟨rfl, hd1⟩
      go_wp2_with fail
      refine (HW.out _ hs).mono ?_
      rintro e w' ⟨rfl, rfl⟩
      go_wp2_with fail
      go_ret2
      rw [HN.out.1, HN.out.2]
      exact ⟨none, 0, rfl, tx_nil _ _, hd1.below⟩
    · have HW := Lib.hid (wordValid_impl_is hw)
      have HN := Lib.hid (nearE_yes (ss := ss) (s := s) (by rw [hl, hw]; rfl))
      have HBK := Lib.hid (fun (W : World) (hW : Strs W B A n ss) (hBW : B ≤ W.heap.size) => buckets_any A n c B ss s W hW hBW hs hl hw)
      have HNO := Lib.hid (fun h0 => near_nothing (s := s) hl hw h0)
      have HNB := Lib.hid (fun (j : Nat) h0 h1 => near_bucket (s := s) (ss := ss) (j := j) h0 h1)
      have H := Lib.hid h
      clear hl hw h
      go_enter Try.func29, Try.ntmps29
      go_wp2_with fail
      refine HV.out.mono ?_
      rintro e w1 ⟨rfl, hd1⟩
      go_wp2_with fail
      refine (HW.out _ hs).mono ?_
      rintro e w' ⟨rfl, rfl⟩
      have hb1 := hd1.below (B := w.heap.size)
      have hz1 := hb1.size
      go_wp2_with fail
      refine (HBK.out _ (H.out.step hd1.below hB) (by omega)).mono ?_
      rintro e w2 ⟨hs2, hlen, rfl, hrows, hb2⟩
      have hb2 := below_step hb1 (Nat.le_refl _) hb2
      have HROW := Lib.hid (fun (j : Nat) (x : Head) (hx : hs2[j]? = some x) => (hrows j x hx).mono hz1)
      have HB2 := Lib.hid hb2
      clear hrows hb2 hb1 hd1
      go_wp2_with fail
      go_loopw [19] (fun i wr => ∃ j : Nat, j ≤ 13 ∧ i = .int .i64 (j : Int) ∧ wr = w2 ∧ Hid (∀ p, p < j → bucketW s ss p = [])) (fun i _ => 13 - (intOf i).toNat)
      case atStart => exact ⟨0, Nat.zero_le _, rfl, rfl, Lib.hid fun p hp => absurd hp (Nat.not_lt_zero _)⟩
      case round =>
        obtain ⟨j, hj, rfl, rfl, HE⟩ := hrel
        by_cases hlt : j < 13
        · obtain ⟨x, hx⟩ : ∃ x, hs2[j]? = some x := ⟨_, List.getElem?_eq_getElem (by omega)⟩
          have hix := index_bkt hx hlt
          have HR := Lib.hid (HROW.out j x hx)
          clear hx
          obtain ⟨a, q, cq⟩ := x
          change ∀ w, (Instr.index 66 (.agg (headsV hs2)) (.int .i64 (j : Int))).run Try.prog w = .ok (.slice a q cq) w at hix
          simp only at HR
          have hql := HR.out.len
          have j1 : (j : Int) < 13 := by omega
          by_cases hq : 0 < q
          · have hq' : (0 : Int) < (q : Int) := by omega
            obtain ⟨n1, n2⟩ := HNB.out j HE.out (by intro e; rw [e] at hql; simp at hql; omega)
            have HN1 := Lib.hid (HN.out.2.trans n1)
            have HN2 := Lib.hid (HN.out.1.trans n2)
            clear n1 n2 hql
            go_wp2_with fail
            go_ret2
            have hql := HR.out.len
            rw [HN1.out, HN2.out]
            exact ⟨a, cq, by rw [hql]; rfl, by rw [hql]; exact HR.out, HB2.out⟩
          · have hq' : ¬ (0 : Int) < (q : Int) := by omega
            have HE2 : Hid (∀ p, p < j + 1 → bucketW s ss p = []) := Lib.hid fun p hp => by
              by_cases e : p = j
              · subst e; exact List.eq_nil_of_length_eq_zero (by omega)
              · exact HE.out p (by omega)
            clear hql
            go_wp2_with fail
            go_roundw
            case rel => exact ⟨j + 1, by omega, by go_num, by first | rfl | trivial, HE2⟩
            case measure => simp [intOf]; omega
        · obtain rfl : j = 13 := by omega
          have hnil := HNO.out HE.out
          have HN1 := Lib.hid (show nearEI ss s = -1 by rw [HN.out.2, hnil]; rfl)
          have HN2 := Lib.hid (show nearEL ss s = [] by rw [HN.out.1, hnil]; rfl)
          clear hnil
          go_wp2_with fail
          go_ret2
          rw [HN1.out, HN2.out]
          exact ⟨none, 0, rfl, tx_nil _ _, HB2.out⟩
end Go.Proofs.Ytmolphaihapkkaa
