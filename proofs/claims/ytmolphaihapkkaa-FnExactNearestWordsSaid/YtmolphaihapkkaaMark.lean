/- Contracts of the laws' marks: markText, markStringS, heldStringS. -/
import Derived.Test.YtmolphaihapkkaaOwn
import Derived.Test.YtmolphaihapkkaaBend
import Derived.Test.YtmolphaihapkkaaDraw
import Derived.Deep.RegionHeld3
import Derived.Deep.AppendLies
namespace Go.Proofs.Ytmolphaihapkkaa
open Go.RowKit
set_option maxHeartbeats 1600000
set_option linter.unusedSimpArgs false
set_option linter.unusedVariables false

/-- the digits of j ahead of out -/
def markLoop : Nat → Nat → ByteArray → ByteArray
  | 0, _, out => out
  | f + 1, j, out => if j = 0 then out else markLoop f (j / 10) (⟨#[48 + UInt8.ofNat (j % 10)]⟩ ++ out)
theorem markLoop_zero (f : Nat) (out : ByteArray) : markLoop f 0 out = out := by cases f <;> simp [markLoop]
def markT (k : Nat) : ByteArray := ⟨#[109]⟩ ++ markLoop 10 k ⟨#[]⟩
theorem markLoop_size : ∀ (f j : Nat) (out : ByteArray), (markLoop f j out).size ≤ out.size + f
  | 0, j, out => by simp [markLoop]
  | f + 1, j, out => by
    unfold markLoop
    split
    · omega
    · have := markLoop_size f (j / 10) (⟨#[48 + UInt8.ofNat (j % 10)]⟩ ++ out)
      rw [ByteArray.size_append] at this
      have e : (ByteArray.mk #[48 + UInt8.ofNat (j % 10)]).size = 1 := rfl
      omega
theorem markT_size (k : Nat) : (markT k).size ≤ 11 := by
  unfold markT
  have := markLoop_size 10 k ⟨#[]⟩
  rw [ByteArray.size_append]
  have e : (ByteArray.mk #[109]).size = 1 := rfl
  have e2 : (ByteArray.mk #[]).size = 0 := rfl
  omega

theorem ret_str {a b : ByteArray} (h : a = b) : Ending.returned (.string a) = .returned (.string b) := by rw [h]
def MarkPost (k : Nat) (w : World) (e : Ending) (w' : World) : Prop := e = .returned (.string (markT k)) ∧ Below w.heap.size w w'
theorem markText_any (k : Nat) (w : World) (h0 : 0 < k) (h1 : k ≤ 4000000) :
    Calls Try.prog 66 #[.int .i64 k] w (MarkPost k w) := by
  have hcv := text_of_byte
  have hcat1 : ∀ (W : World) (x : UInt8) (y : ByteArray), y.size ≤ 4000 → (Op.stringOp .add ⟨#[x]⟩ y).run Try.prog W = .ok (.string (⟨#[x]⟩ ++ y)) W := fun W x y hy => run_string_add_sum W _ _ (by have : (ByteArray.mk #[x]).size = 1 := rfl; omega)
  have HT := Lib.hid (show markT k = ⟨#[109]⟩ ++ markLoop 10 k ⟨#[]⟩ from rfl)
  go_enter Try.func66, Try.ntmps66
  go_wp2_with fail
  go_loopw [0, 3] (fun x y wr => ∃ (f j : Nat) (out : ByteArray), x = .int .i64 j ∧ y = .string out ∧ j < 10 ^ f ∧ j ≤ 4000000 ∧ out.size + f ≤ 10 ∧ Hid (markLoop f j out = markLoop 10 k ⟨#[]⟩) ∧ Below w.heap.size w wr) (fun x _ _ => (intOf x).toNat)
  case atStart => exact ⟨10, k, ⟨#[]⟩, rfl, rfl, by omega, h1, by decide, rfl, Below.refl _ _⟩
  case round =>
    obtain ⟨f, j, out, rfl, rfl, hjf, hj, hof, HM, hb⟩ := hrel
    have hos : out.size ≤ 4000 := by omega
    by_cases hj0 : 0 < j
    · have hf : ∃ f', f = f' + 1 := by
        cases f with
        | zero => simp at hjf; omega
        | succ f' => exact ⟨f', rfl⟩
      obtain ⟨f, rfl⟩ := hf
      have hjf' : j / 10 < 10 ^ f := by rw [Nat.pow_succ] at hjf; omega
      have HN := Lib.hid (show markLoop f (j / 10) (⟨#[48 + UInt8.ofNat (j % 10)]⟩ ++ out) = markLoop 10 k ⟨#[]⟩ by
        have := HM.out
        rw [markLoop, if_neg (by omega)] at this
        exact this)
      have hsz : ((ByteArray.mk #[48 + UInt8.ofNat (j % 10)]) ++ out).size + f ≤ 10 := by
        rw [ByteArray.size_append]
        have e : (ByteArray.mk #[48 + UInt8.ofNat (j % 10)]).size = 1 := rfl
        omega
      have HS := Lib.hid hsz
      clear hjf HM hsz
      go_wp2_with fail
      go_roundw
      case rel => exact ⟨f, j / 10, _, by go_num, rfl, hjf', by omega, HS.out, HN.out, hb.alloc hb.size _⟩
      case measure => simp [intOf]; omega
    · obtain rfl : j = 0 := by omega
      have HE := Lib.hid (show out = markLoop 10 k ⟨#[]⟩ by have := HM.out; rw [markLoop_zero] at this; exact this)
      clear HM hjf
      go_wp2_with fail
      go_ret
      exact ⟨ret_str (by rw [HT.out, ← HE.out]), hb⟩

/-- the marks k, k + 1 .. on n places -/
def marks (k n : Nat) : List ByteArray := (List.range n).map fun i => markT (k + i)
theorem marks_get {k n j : Nat} (h : j < n) : (marks k n)[j]? = some (markT (k + j)) := by simp [marks, h]
/-- n texts of which the first j are marked -/
def marked (k j : Nat) (l : List ByteArray) : List ByteArray := marks k j ++ l.drop j
theorem marked_set {k j : Nat} {l : List ByteArray} (h : j < l.length) : ((marked k j l).map Value.string).set j (.string (markT (k + j))) = (marked k (j + 1) l).map Value.string := by
  unfold marked
  have e : (marks k j).length = j := by simp [marks]
  rw [List.map_append, List.set_append_right _ _ (by simp [e]), List.length_map, e, Nat.sub_self, List.drop_eq_getElem_cons h, List.map_cons, List.set_cons_zero]
  rw [List.map_append]
  have : marks k (j + 1) = marks k j ++ [markT (k + j)] := by simp [marks, List.range_succ]
  rw [this]; simp

/-- what the marking leaves: the row holds the marks, nothing else turned -/
def MarkedPost (w : World) (base : Nat) (A : Option Addr) (n c k : Nat) (e : Ending) (w' : World) : Prop :=
  e = .returned (.int .i64 ((k + n : Nat) : Int)) ∧ w'.ownsRow base 9 1 (.slice A n c) n ((marks k n).map Value.string) ∧ w.grownBy w' (Value.slice A n c).ownBlock

theorem markStringS_any (base : Nat) (A : Option Addr) (n c : Nat) (l : List ByteArray) (w : World) (k : Nat) (hown : w.ownsRow base 9 1 (.slice A n c) n (l.map Value.string)) (hb : base ≤ w.heap.size) (h0 : 0 < k) (hk : k + n ≤ 3000000) :
    Calls Try.prog 38 #[.slice A n c, .int .i64 k] w (MarkedPost w base A n c k) := by
  have hl : l.length = n := by have := hown.1; simpa using this
  by_cases hn0 : n = 0
  · subst hn0
    have hm : (marks k 0).map Value.string = l.map Value.string := by rw [List.eq_nil_of_length_eq_zero hl]; rfl
    rw [← hm] at hown
    clear hm
    go_enter Try.func38, Try.ntmps38
    go_wp2_with fail
    refine wp_loop_rounds 1 ?_
    rw [rounds_succ]
    go_wp2_with fail
    go_ret
    exact ⟨rfl, hown, World.grownBy.refl _ _⟩
  · rcases id hown.2 with ⟨hv, h⟩ | ⟨g, cap, cur, hv, hbg, hh, hnc, hcm, _⟩
    · exact absurd h hn0
    · injection hv with e1 e2 e3
      subst e1
      subst e3
      have hown0 : w.ownsRow base 9 1 (.slice (some ⟨g, 0, none⟩) n c) n ((marked k 0 l).map Value.string) := by simpa [marked, marks] using hown
      have HL := Lib.hid hl
      have HFIN := Lib.hid (show marked k n l = marks k n by unfold marked; rw [List.drop_eq_nil_of_le (by omega), List.append_nil])
      clear hl hh hown
      go_enter Try.func38, Try.ntmps38
      go_wp2_with fail
      go_loopw [1, 5] (fun x i wr => ∃ j : Nat, j ≤ n ∧ x = .int .i64 (k + j) ∧ i = .int .i64 j ∧ wr.ownsRow base 9 1 (.slice (some ⟨g, 0, none⟩) n c) n ((marked k j l).map Value.string) ∧ w.grownBy wr (some g)) (fun _ i _ => n - (intOf i).toNat)
      case atStart => exact ⟨0, Nat.zero_le _, by simp, rfl, hown0, only_refl _ _⟩
      case round =>
        obtain ⟨j, hj, rfl, rfl, hownj, hgr⟩ := hrel
        by_cases hlt : j < n
        · have hgl := (hownj.lt g rfl).2
          go_wp2_with fail
          rw [show (k : Int) + (j : Int) = ((k + j : Nat) : Int) by omega]
          refine (markText_any (k + j) _ (by omega) (by omega)).mono ?_
          rintro e w1 ⟨rfl, hb1⟩
          have own1 : w1.ownsRow base 9 1 (.slice (some ⟨g, 0, none⟩) n c) n ((marked k j l).map Value.string) := hownj.kept (row := none) ⟨hb1.os, hb1.tape, hb1.output, hb1.size, fun i hi _ => hb1.block i hi⟩ (.inr (by simp [Value.ownBlock]))
          have gr1 := only_trans hgr (only_below hb1)
          obtain ⟨v, hcell⟩ : ∃ v, w1.cell? ⟨g, j, none⟩ = some v := by
            rw [own1.cellAt j (by omega)]
            have : j < ((marked k j l).map Value.string).length := by have := own1.1; omega
            exact ⟨_, List.getElem?_eq_getElem this⟩
          have hfr := own1.frozenAt j
          obtain ⟨hst, hg2⟩ := own1.stored j (.string (markT (k + j)))
          rw [marked_set (by rw [HL.out]; exact hlt)] at hst
          have gr2 := only_trans gr1 hg2
          generalize markT (k + j) = t at hst gr2 ⊢
          clear hownj hgr hb1 own1 gr1 hg2
          go_wp2_with fail
          go_roundw
          case rel => exact ⟨j + 1, by omega, by go_num, by go_num, hst, gr2⟩
          case measure => simp [intOf]; omega
        · obtain rfl : j = n := by omega
          rw [HFIN.out] at hownj
          go_wp2_with fail
          go_ret
          exact ⟨ret_int (by omega), hownj, hgr⟩

def HeldPost (w : World) (n k : Nat) (e : Ending) (w' : World) : Prop := e = .returned (.int .i64 ((k + n : Nat) : Int)) ∧ Below w.heap.size w w'
theorem heldStringS_any (A : Option Addr) (n c : Nat) (w : World) (k : Nat) (h : Strs w w.heap.size A n (marks k n)) (h0 : 0 < k) (hk : k + n ≤ 3000000) :
    Calls Try.prog 41 #[.slice A n c, .int .i64 k] w (HeldPost w n k) := by
  go_enter Try.func41, Try.ntmps41
  go_wp2_with fail
  go_loopw [1, 5] (fun x i wr => ∃ j : Nat, j ≤ n ∧ x = .int .i64 (k + j) ∧ i = .int .i64 j ∧ Below w.heap.size w wr) (fun _ i _ => n - (intOf i).toNat)
  case atStart => exact ⟨0, Nat.zero_le _, by simp, rfl, Below.refl _ _⟩
  case round =>
    obtain ⟨j, hj, rfl, rfl, hbj⟩ := hrel
    by_cases hlt : j < n
    · obtain ⟨b, o, s, rfl, hbw, hs, hsz, hc⟩ := (h.below hbj).at_ hlt
      rw [marks_get hlt] at hs
      injection hs with hs
      have hbe : (s.toList == s.toList) = true := by simp
      have hbe2 : (s.toList != s.toList) = false := by simp
      have hji : (0 : Int) ≤ (j : Int) := by omega
      have hjn : (j : Int) < (n : Int) := by omega
      have HS := Lib.hid hs
      have hbz := hbj.size
      have C : ∀ W : World, Calls Try.prog 66 #[.int .i64 ((k : Int) + (j : Int))] W fun e w' => e = .returned (.string s) ∧ Below W.heap.size W w' := fun W => by
        rw [show (k : Int) + (j : Int) = ((k + j : Nat) : Int) by omega, ← hs]
        exact markText_any (k + j) W (by omega) (by omega)
      have HC := Lib.hid C
      clear C hs
      go_wp2_with fail
      go_region_held3 (fun w' => w'.cell? ⟨b, o + j, none⟩ = some (.string s))
        (first | go_keep | assumption)
        (first
          | (go_at_call 66
             (with_reducible refine (HC.out _).mono ?_)
             rintro e w4 ⟨rfl, hb4⟩
             have hb4' : Below wr.heap.size wr w4 := ⟨hb4.os, hb4.tape, hb4.output, hb4.size, hb4.block⟩
             have hc4 : w4.cell? ⟨b, o + j, none⟩ = some (.string s) := (hb4'.cell (show b < wr.heap.size by omega)).trans hc
             have hb4' := below_step hbj (Nat.le_refl _) hb4')
          | fail)
      all_goals
        go_wp2_with fail
        go_roundw
        case rel => exact ⟨j + 1, by omega, by go_num, by go_num, by first | exact hb4' | exact hb4'.drew⟩
        case measure => simp [intOf]; omega
    · obtain rfl : j = n := by omega
      go_wp2_with fail
      go_ret
      exact ⟨ret_int (by omega), hbj⟩
end Go.Proofs.Ytmolphaihapkkaa
