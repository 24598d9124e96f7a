/- Contract of the program's ListOf: clone, sort, compact. -/
import Derived.Test.YtmlokccdgajamaaListMath
import Derived.Test.YtmlokccdgajamaaShelf
namespace Go.Proofs.Ytmlokccdgajamaa
open Go.RowKit
open Go.Sort (putRow grow putCells)
set_option maxHeartbeats 800000
set_option linter.unusedSimpArgs false
set_option linter.unusedVariables false

theorem ltS_ofBytes (a b : List UInt8) : ltS (ofBytes a) (ofBytes b) = decide (a < b) := by
  have h1 : ∀ l, (ofBytes l).data.toList = l := fun l => by simp [ofBytes]
  rw [ltS_eq, Bool.eq_iff_iff, decide_eq_true_iff, decide_eq_true_iff, h1, h1]
theorem sortCompact_eq (ss : List ByteArray) : (Lib.compact ((ss.map bytesOf).mergeSort fun x y => decide (x ≤ y))).map ofBytes = foldIns ss := by
  have hs : ((ss.map bytesOf).mergeSort fun x y => decide (x ≤ y)).Pairwise (· ≤ ·) := by
    have := List.pairwise_mergeSort (le := fun (x y : List UInt8) => decide (x ≤ y)) (fun a b c h1 h2 => by simp at *; exact List.le_trans h1 h2) (fun a b => by simp; exact List.le_total a b) (ss.map bytesOf)
    simpa using this
  obtain ⟨h1, h2⟩ := compact_facts hs
  refine asc_unique _ _ ?_ (foldIns_asc ss) fun x => ?_
  · rw [List.pairwise_map]
    exact h1.imp fun {a b} h => by rw [ltS_ofBytes]; exact decide_eq_true h
  · rw [foldIns_mem, List.mem_map]
    constructor
    · rintro ⟨a, ha, rfl⟩
      rw [h2, List.mem_mergeSort, List.mem_map] at ha
      obtain ⟨s, hs, rfl⟩ := ha
      rw [ofBytes_bytesOf]; exact hs
    · intro hx
      exact ⟨bytesOf x, by rw [h2, List.mem_mergeSort]; exact List.mem_map_of_mem hx, ofBytes_bytesOf x⟩

/-- a slice that the call made, or nil -/
def ResPost (w : World) (l : List ByteArray) (e : Ending) (w' : World) : Prop :=
  ∃ A n c, e = .returned (.slice A n c) ∧ w'.ownsRow w.heap.size 9 1 (.slice A n c) n (l.map Value.string) ∧ (∀ s ∈ l, s.size ≤ maxLen) ∧ Below w.heap.size w w'

theorem enc_bytesOf (s : ByteArray) : encStr (bytesOf s) = .string s := by cases s; simp [encStr, bytesOf]
theorem enc_list (ss : List ByteArray) : (ss.map bytesOf).map encStr = ss.map Value.string := by
  rw [List.map_map]; exact List.map_congr_left fun s _ => enc_bytesOf s
theorem enc_ofBytes (L : List (List UInt8)) : L.map encStr = (L.map ofBytes).map Value.string := by
  rw [List.map_map]; exact List.map_congr_left fun s _ => rfl

theorem wordsFilled_is {A : Option Addr} {n B : Nat} {ss : List ByteArray} {v : Bool} (hv : filledB ss = v) (c : Nat) (w : World) (hn : n ≤ maxLen) (h : Strs w B A n ss) :
    Calls Try.prog 39 #[.slice A n c] w fun e w' => e = .returned (.bool v) ∧ w = w' := hv ▸ wordsFilled_any A n c B ss w hn h

/-- sorted and compacted in place -/
theorem compacted {w w1 w2 : World} {base g n cap q q' : Nat} {ss : List ByteArray} {os : Array Obj} (hown : w.ownsRow base 9 1 (.slice (some ⟨g, 0, none⟩) n cap) n (ss.map Value.string))
    (L R : List (List UInt8)) (hL : L.length = n) (hR : R.length ≤ n) (h1 : w1 = grow (putRow encStr (Go.Sort.ahead w q) g 0 L.toArray) os)
    (h2 : w2 = putRow encStr (Go.Sort.ahead w1 q') g 0 (R ++ List.replicate (n - R.length) []).toArray) :
    w2.ownsRow base 9 1 (.slice (some ⟨g, 0, none⟩) R.length cap) R.length ((R.map ofBytes).map Value.string) ∧ w.grownBy w2 (some g) ∧ Go.Sort.Holds encStr w1 g 0 L.toArray := by
  rcases hown.2 with ⟨hv, _⟩ | ⟨g', cap', cur, hv, hb, hh, hnc, hcm, hsz, htk⟩
  · cases hv
  · cases hv
    have e1 : w1.heap[g]? = some (.cells (putCells encStr 0 L.toArray cur) 9 (0, 0)) := by rw [h1]; exact heap_sorted _ hh
    have s1 : (putCells encStr 0 L.toArray cur).size = cap * 1 := by simp [putCells, hsz]
    have e2 : w2.heap[g]? = some (.cells (putCells encStr 0 (R ++ List.replicate (n - R.length) []).toArray (putCells encStr 0 L.toArray cur)) 9 (0, 0)) := by
      rw [h2]
      have := heap_sorted (n := q') (os := #[]) (R ++ List.replicate (n - R.length) []).toArray e1
      simpa using this
    have tk := take_putCells (putCells encStr 0 L.toArray cur) (R ++ List.replicate (n - R.length) []) (by rw [s1]; simp; omega)
    refine ⟨⟨by simp, .inr ⟨g, cap, _, rfl, hb, e2, by omega, hcm, by simp [putCells] at s1 ⊢; exact s1, ?_⟩⟩, ?_, holds_of_block e1 (by have := take_putCells cur L (by omega); exact this)⟩
    · rw [Nat.mul_one, ← enc_ofBytes]
      have e3 : (R ++ List.replicate (n - R.length) ([] : List UInt8)).length = n := by simp; omega
      rw [e3] at tk
      have := congrArg (List.take R.length) tk
      rw [List.take_take, Nat.min_eq_left hR] at this
      rw [this, List.map_append, List.take_left' (by simp)]
    · have g1 : w.grownBy w1 (some g) := by rw [h1]; exact grownBy_sorted _
      have g2 : w1.grownBy w2 (some g) := by
        rw [h2]
        have := grownBy_sorted (w := w1) (g := g) (n := q') (os := #[]) (R ++ List.replicate (n - R.length) []).toArray
        simpa using this
      exact ⟨g2.os.trans g1.os, g2.tape.trans g1.tape, g2.output.trans g1.output, Nat.le_trans g1.size g2.size, fun k hk hne => (g2.block k (Nat.lt_of_lt_of_le hk g1.size) hne).trans (g1.block k hk hne)⟩

theorem compact_len {L : List (List UInt8)} : (Lib.compact L).length ≤ L.length := by
  unfold Lib.compact Lib.compactUpTo
  rw [List.length_map]
  exact Nat.le_trans (List.length_filter_le _ _) (by simp)

theorem listOf_impl (A : Option Addr) (n c B : Nat) (ss : List ByteArray) (w : World) (hn : n ≤ maxLen) (h : Strs w B A n ss) (hB : B ≤ w.heap.size) :
    Calls Try.prog 21 #[.slice A n c] w (ResPost w (listOfB ss)) := by
  have nothing : ∀ (W : World) , Below w.heap.size w W → ResPost w [] (.returned (.slice none 0 0)) W := fun W hb => ⟨none, 0, 0, rfl, World.ownsRow_nil _ _ _ _, by simp, hb⟩
  have HNOTH := Lib.hid nothing
  clear nothing
  cases hf : filledB ss
  · have C := Lib.hid (wordsFilled_is (A := A) (n := n) (B := B) hf)
    have HN := Lib.hid (show listOfB ss = [] by unfold listOfB; rw [hf]; rfl)
    clear hf
    go_enter Try.func21, Try.ntmps21
    go_wp2_with fail
    refine (C.out c _ hn h).mono ?_
    rintro e w' ⟨rfl, rfl⟩
    go_wp2_with fail
    go_ret
    rw [HN.out]
    exact HNOTH.out w (Below.refl _ _)
  · have C := Lib.hid (wordsFilled_is (A := A) (n := n) (B := B) hf)
    have HN := Lib.hid (show listOfB ss = foldIns ss by unfold listOfB; rw [hf]; rfl)
    have hl60 : ss.length ≤ 60 := by unfold filledB at hf; simp at hf; exact hf.1
    have hl := h.1
    have hn60 : n ≤ 60 := by omega
    clear hf hl60
    by_cases hn0 : n = 0
    · subst hn0
      obtain rfl : ss = [] := List.eq_nil_of_length_eq_zero hl
      have HN0 : Hid (listOfB [] = []) := HN.out
      clear HN
      cases A with
      | none =>
        go_enter Try.func21, Try.ntmps21
        go_wp2_with fail
        refine (C.out c _ hn h).mono ?_
        rintro e w' ⟨rfl, rfl⟩
        go_wp2_with fail
        refine (Try.slices_Clone_string_nil _ _ _).mono ?_
        rintro e w' ⟨rfl, rfl⟩
        go_wp2_with fail
        refine (Try.slices_Sort_string_none _ _ _).mono ?_
        rintro e w' ⟨rfl, rfl⟩
        go_wp2_with fail
        refine (Try.slices_Compact_string_empty _ _ _).mono ?_
        rintro e w' ⟨rfl, rfl⟩
        go_wp2_with fail
        go_ret
        rw [HN0.out]
        exact HNOTH.out _ (Below.refl _ _)
      | some a =>
        go_enter Try.func21, Try.ntmps21
        go_wp2_with fail
        refine (C.out c _ hn h).mono ?_
        rintro e w' ⟨rfl, rfl⟩
        go_wp2_with fail
        refine (Try.slices_Clone_string_zero a c _).mono ?_
        rintro e w1 ⟨v, rfl, hown, hne, hb1⟩
        rcases hown.2 with ⟨hv, _⟩ | ⟨g, cap, cur, rfl, hr⟩
        · exact absurd hv hne
        · clear hr hne
          go_wp2_with fail
          refine (Try.slices_Sort_string_none _ _ _).mono ?_
          rintro e w' ⟨rfl, rfl⟩
          go_wp2_with fail
          refine (Try.slices_Compact_string_empty _ _ _).mono ?_
          rintro e w' ⟨rfl, rfl⟩
          go_wp2_with fail
          go_ret
          rw [HN0.out]
          exact ⟨_, _, _, rfl, hown, by simp, hb1⟩
    · obtain ⟨b, o, rfl, hbB, hc⟩ := h.2.2 (by omega)
      have hsz := h.2.1
      have HSZ := Lib.hid hsz
      have HEQ := Lib.hid (sortCompact_eq ss)
      have HL := Lib.hid hl
      have hcc : ∀ j, j < ss.length → w.cell? ⟨b, o + j, none⟩ = some (.string (ss.getD j ByteArray.empty)) := fun j hj => by
        rw [List.getD_eq_getElem?_getD, List.getElem?_eq_getElem hj]
        exact hc j _ (List.getElem?_eq_getElem hj)
      have HC := Lib.hid hcc
      clear hc hcc hsz hl
      go_enter Try.func21, Try.ntmps21
      go_wp2_with fail
      refine (C.out c _ hn h).mono ?_
      rintro e w' ⟨rfl, rfl⟩
      go_wp2_with fail
      refine (Try.slices_Clone_string b o n c ss _ (by rw [HL.out]; exact Nat.le_refl _) (by omega) HC.out).mono ?_
      rintro e w1 ⟨v, rfl, hown, hne, hb1⟩
      rcases id hown.2 with ⟨hv, _⟩ | ⟨g, cap, cur, rfl, hbg, hh, hnc, hcm, hszc, htk⟩
      · exact absurd hv hne
      · have ht0 : ss.take n = ss := List.take_of_length_le (by rw [HL.out]; exact Nat.le_refl _)
        rw [ht0] at hown htk
        rw [Nat.mul_one] at htk
        clear ht0
        have hlen : (ss.map bytesOf).length = n := by rw [List.length_map]; exact HL.out
        have hH : Go.Sort.Holds encStr w1 g 0 (ss.map bytesOf).toArray := holds_of_block hh (by rw [hlen, enc_list]; exact htk)
        have hgl := (hown.lt g rfl).2
        have S := Lib.hid (Try.slices_Sort_string g 0 cap (ss.map bytesOf) w1 hH hgl (by omega))
        have HLEN := Lib.hid hlen
        rw [hlen] at S
        clear hlen hH hne hh hszc htk h
        go_wp2_with fail
        refine S.out.mono ?_
        rintro e w2 ⟨rfl, q, os, hw2⟩
        have hLl : ((ss.map bytesOf).mergeSort fun x y => decide (x ≤ y)).length = n := by rw [List.length_mergeSort]; exact HLEN.out
        have hRl := compact_len (L := (ss.map bytesOf).mergeSort fun x y => decide (x ≤ y))
        rw [hLl] at hRl
        have HW2 := Lib.hid hw2
        have K := Lib.hid (fun (q' : Nat) (w3 : World) => compacted (w2 := w3) (q' := q') hown _ _ hLl hRl hw2)
        have hH2 := (K.out 0 _ rfl).2.2
        have CP := Lib.hid (Try.slices_Compact_string g 0 cap _ w2 hH2 (by omega) (by omega))
        rw [hLl] at CP
        clear hw2 hH2
        go_wp2_with fail
        refine CP.out.mono ?_
        rintro e w3 ⟨rfl, q', hw3⟩
        obtain ⟨hown3, hg3, -⟩ := K.out q' w3 hw3
        rw [HEQ.out] at hown3
        clear hw3
        go_wp2_with fail
        go_ret
        refine ⟨_, _, _, rfl, by rw [HN.out]; exact hown3, fun s hs => ?_, hb1.grown hg3 hb1.size (by intro k hk; injection hk with hk; omega)⟩
        rw [HN.out, foldIns_mem] at hs
        exact HSZ.out s hs
end Go.Proofs.Ytmlokccdgajamaa
