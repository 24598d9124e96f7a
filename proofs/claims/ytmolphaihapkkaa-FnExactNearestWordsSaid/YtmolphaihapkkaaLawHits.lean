/- Contracts of the laws' helpers for hits: sameHits, eqHitS, szHitS, toHitS, markHitS, heldHitS. -/
import Derived.Test.YtmolphaihapkkaaHitRec
import Derived.Test.YtmolphaihapkkaaMark
import Derived.Deep.RegionHeld3
namespace Go.Proofs.Ytmolphaihapkkaa
open Go.RowKit
set_option maxHeartbeats 1600000
set_option linter.unusedSimpArgs false
set_option linter.unusedVariables false

theorem sameHits_same (A1 A2 : Option Addr) (n c1 c2 B : Nat) (d : List Hit) (w : World) (hn : n ≤ maxLen) (h1 : Hits w B A1 n d) (h2 : Hits w B A2 n d) :
    Calls Try.prog 19 #[.slice A1 n c1, .slice A2 n c2] w fun e w' => e = .returned (.bool true) ∧ Drawn w w' := by
  unfold maxLen at hn
  go_enter Try.func19, Try.ntmps19
  go_wp2_with fail
  go_loopw [5] (fun i wr => ∃ j : Nat, j ≤ n ∧ i = .int .i64 j ∧ Drawn w wr) (fun i _ => n - (intOf i).toNat)
  case atStart => exact ⟨0, Nat.zero_le _, rfl, Drawn.refl _⟩
  case round =>
    obtain ⟨j, hj, rfl, hdr⟩ := hrel
    by_cases hlt : j < n
    · obtain ⟨b, o, s, x, rfl, hbB, hd, hs, hx, c0, c1⟩ := hits_at (h1.drawn hdr) hlt
      obtain ⟨b2, o2, s2, x2, rfl, hbB2, hd2, hs2, hx2, e0, e1⟩ := hits_at (h2.drawn hdr) hlt
      rw [hd] at hd2
      injection hd2 with hd2
      injection hd2 with q1 q2
      subst q1 q2
      have i0 : (0 : Int) ≤ (j : Int) := by omega
      have i1 : (j : Int) < (n : Int) := by omega
      have hq : (s.toList == s.toList) = true := by simp
      clear hd
      go_wp2_with fail
      go_quiet (fail)
      go_wp2_with fail
      go_roundw
      case rel => exact ⟨j + 1, by omega, by go_num, hdr.drewN _⟩
      case measure => simp [intOf]; omega
    · obtain rfl : j = n := by omega
      go_wp2_with fail
      go_ret
      exact ⟨rfl, hdr⟩
theorem eqHit_same (s : ByteArray) (x : Int) (w : World) :
    Calls Try.prog 65 #[.agg #[.string s, .int .i64 x], .agg #[.string s, .int .i64 x]] w fun e w' => e = .returned (.bool true) ∧ Below w.heap.size w w' := by
  have hq : (s.toList == s.toList) = true := by simp
  go_enter Try.func65, Try.ntmps65
  go_wp2_with fail
  go_ret
  exact ⟨rfl, ((Below.refl _ _).alloc (Nat.le_refl _) _).alloc (by simp) _⟩
theorem eqHitS_same (A1 A2 : Option Addr) (n c1 c2 B : Nat) (d : List Hit) (w : World) (hn : n ≤ maxLen) (h1 : Hits w B A1 n d) (h2 : Hits w B A2 n d) (hB : B ≤ w.heap.size) :
    Calls Try.prog 34 #[.slice A1 n c1, .slice A2 n c2] w fun e w' => e = .returned (.bool true) ∧ Below w.heap.size w w' := by
  unfold maxLen at hn
  go_enter Try.func34, Try.ntmps34
  go_wp2_with fail
  go_loopw [5] (fun i wr => ∃ j : Nat, j ≤ n ∧ i = .int .i64 j ∧ Below w.heap.size w wr) (fun i _ => n - (intOf i).toNat)
  case atStart => exact ⟨0, Nat.zero_le _, rfl, Below.refl _ _⟩
  case round =>
    obtain ⟨j, hj, rfl, hbel⟩ := hrel
    by_cases hlt : j < n
    · obtain ⟨b, o, s, x, rfl, hbB, hd, hs, hx, c0, c1⟩ := hits_at (h1.step hbel hB) hlt
      obtain ⟨b2, o2, s2, x2, rfl, hbB2, hd2, hs2, hx2, e0, e1⟩ := hits_at (h2.step hbel hB) hlt
      rw [hd] at hd2
      injection hd2 with hd2
      injection hd2 with q1 q2
      subst q1 q2
      have i0 : (0 : Int) ≤ (j : Int) := by omega
      have i1 : (j : Int) < (n : Int) := by omega
      have HC := Lib.hid (fun W : World => eqHit_same s x W)
      have hbz := hbel.size
      clear hd
      go_wp2_with fail
      go_region_held3 (fun w' => w'.cell? ⟨b, o + j * 2, none⟩ = some (.string s) ∧ w'.cell? ⟨b, o + j * 2 + 1, none⟩ = some (.int .i64 x) ∧ w'.cell? ⟨b2, o2 + j * 2, none⟩ = some (.string s) ∧ w'.cell? ⟨b2, o2 + j * 2 + 1, none⟩ = some (.int .i64 x))
        (first | exact ⟨c0, c1, e0, e1⟩ | exact ⟨z0, z1, z2, z3⟩ | go_keep | assumption)
        (first
          | (go_at_call 65
             (with_reducible refine (HC.out _).mono ?_)
             rintro e w4 ⟨rfl, hb4⟩
             have hb4' : Below wr.heap.size wr w4 := ⟨hb4.os, hb4.tape, hb4.output, hb4.size, hb4.block⟩
             have z0 := (hb4'.cell (p := ⟨b, o + j * 2, none⟩) (show b < wr.heap.size by omega)).trans c0
             have z1 := (hb4'.cell (p := ⟨b, o + j * 2 + 1, none⟩) (show b < wr.heap.size by omega)).trans c1
             have z2 := (hb4'.cell (p := ⟨b2, o2 + j * 2, none⟩) (show b2 < wr.heap.size by omega)).trans e0
             have z3 := (hb4'.cell (p := ⟨b2, o2 + j * 2 + 1, none⟩) (show b2 < wr.heap.size by omega)).trans e1
             have hb4' := below_step hbel (Nat.le_refl _) hb4')
          | fail)
      all_goals
        go_wp2_with fail
        go_roundw
        case rel => exact ⟨j + 1, by omega, by go_num, by first | exact hb4' | exact hb4'.drew⟩
        case measure => simp [intOf]; omega
    · obtain rfl : j = n := by omega
      go_wp2_with fail
      go_ret
      exact ⟨rfl, hbel⟩
/-- the hits of the laws, which come in -/
def hitL : Rec Hit where
  enc := hitEnc
  k := 2
  ok x := x.1.size ≤ maxLen ∧ I64 x.2
  E := 79
  S := 47
  bytes := 24
  len _ := rfl
  one x v hv := by
    simp only [hitEnc, List.mem_cons, List.not_mem_nil, or_false] at hv
    rcases hv with rfl | rfl <;> rfl
  pos := by omega
  small := by omega
  z := .agg #[.string ⟨#[]⟩, .int .i64 0]
  zk := rfl
  under := Try.underlying47
  info := by kernel_rfl
theorem hitsL_at {w : World} {B n : Nat} {A : Option Addr} {d : List Hit} {k : Nat} (h : Recs hitL w B A n d) (hk : k < n) : ∃ b o s c, A = some ⟨b, o, none⟩ ∧ b < B ∧ d[k]? = some (s, c) ∧ s.size ≤ maxLen ∧ I64 c ∧ w.cell? ⟨b, o + k * 2, none⟩ = some (.string s) ∧ w.cell? ⟨b, o + k * 2 + 1, none⟩ = some (.int .i64 c) := by
  obtain ⟨b, o, ⟨s, c⟩, hA, hb, hd, hok, hc⟩ := h.at_ hk
  exact ⟨b, o, s, c, hA, hb, hd, hok.1, hok.2, hc 0 _ rfl, hc 1 _ rfl⟩
theorem toHit_any (s : ByteArray) (x : Int) (w : World) :
    Calls Try.prog 64 #[.agg #[.string s, .int .i64 x]] w fun e w' => e = .returned (.agg #[.string s, .int .i64 x]) ∧ Below w.heap.size w w' := by
  go_enter Try.func64, Try.ntmps64
  go_wp2_with fail
  refine bodyPost_ret (v := .agg #[.string s, .int .i64 x]) (by simp [results, Try.results64, go_sem]) rfl ⟨rfl, ?_⟩
  repeat first
    | exact Below.refl _ _
    | (refine Below.setCell ?_ (by first | (simp; done) | (simp; omega)) _)
    | (refine Below.alloc ?_ (by first | (simp; done) | (simp; omega)) _)
theorem toHitS_any (A : Option Addr) (n c B : Nat) (d : List Hit) (w : World) (hn : n ≤ 1048576) (h : Recs hitL w B A n d) (hB : B ≤ w.heap.size) :
    Calls Try.prog 33 #[.slice A n c] w fun e w' => ∃ g, e = .returned (.slice (some ⟨g, 0, none⟩) n n) ∧ OwnHits w' w.heap.size (some ⟨g, 0, none⟩) n n d ∧ Below w.heap.size w w' := by
  obtain ⟨i0, hi0, hz0, hz1, hz2⟩ := info_parts hitR.info
  have hz0' : i0.zero = some (.agg #[.string ⟨#[]⟩, .int .i64 0]) := hz0
  have hz1' : i0.size = 2 := hz1
  have hz2' : i0.bytes = 24 := hz2
  have hi0' : Try.prog.info? 28 = some i0 := hi0
  clear hz0 hz1 hz2 hi0
  go_enter Try.func33, Try.ntmps33
  go_wp2_with (at_make; refine wpList_make_full _ rfl (.tmp 6) (.tmp 6) _ rfl w.heap.size 28 i0 _ 2 Try.underlying23 hi0' hz0' hz1' .i64 .i64 _ _ n rfl rfl rfl rfl (by rw [hz2']; omega) (by unfold maxLen; omega) (Nat.le_refl _) ?_; intro w1 hown hg)
  have hb1 : Below w.heap.size w w1 := (Below.refl _ _).grown hg (Nat.le_refl _) (by simp)
  have hz : w.heap.size < w1.heap.size := (hown.lt w.heap.size rfl).2
  have hmade := hitR.made noHit rfl n
  have hownR : OwnHits w1 w.heap.size (some ⟨w.heap.size, 0, none⟩) n n (copiedR noHit d n 0) := by
    refine ⟨?_, fun x hx => ?_⟩
    · rw [copiedR_zero, ← hmade]; exact hown
    · rw [copiedR_zero] at hx
      obtain ⟨_, rfl⟩ := List.mem_replicate.1 hx
      exact ⟨Nat.zero_le _, by unfold I64 noHit; omega⟩
  clear hown hmade
  go_wp2_with fail
  go_loopw [4] (fun i wr => ∃ k : Nat, k ≤ n ∧ i = .int .i64 k ∧ OwnHits wr w.heap.size (some ⟨w.heap.size, 0, none⟩) n n (copiedR noHit d n k) ∧ Below w.heap.size w wr) (fun i _ => n - (intOf i).toNat)
  case atStart => exact ⟨0, Nat.zero_le _, rfl, hownR, hb1⟩
  case round =>
    clear hownR hb1 hz
    obtain ⟨k, hk, rfl, hownk, hbk⟩ := hrel
    by_cases hlt : k < n
    · obtain ⟨b, o, s, x, rfl, hbB, hd, hs, hx, c0, c1⟩ := hitsL_at (h.step hbk hB) hlt
      have HC := Lib.hid (fun W : World => toHit_any s x W)
      have i0 : (0 : Int) ≤ (k : Int) := by omega
      have i1 : (k : Int) < (n : Int) := by omega
      have hbz := hbk.size
      go_wp2_with fail
      refine (HC.out _).mono ?_
      rintro e w2 ⟨rfl, hb2⟩
      have hbel := below_step hbk (Nat.le_refl _) hb2
      have own0 := hownk.below hb2
      have hcg := copiedR_get noHit h.len hlt
      have v0 := own0.at_ (i := 0) hcg rfl
      have f0 := own0.frozen (k * 2 + 0)
      have own1 := own0.stored (i := 0) (e' := (s, (0 : Int))) (v := .string s) hcg (by show 0 < 2; omega) rfl ⟨hs, by unfold I64; omega⟩
      have hcg1 : ((copiedR noHit d n k).set k (s, (0 : Int)))[k]? = some (s, (0 : Int)) := by
        rw [List.getElem?_set_self (by have := (List.getElem?_eq_some_iff.1 hcg).1; exact this)]
      have v1 := own1.at_ (i := 1) hcg1 rfl
      have f1 := own1.frozen (k * 2 + 1)
      have own2 := own1.stored (i := 1) (e' := (s, x)) (v := .int .i64 x) hcg1 (by show 1 < 2; omega) rfl ⟨hs, hx⟩
      rw [List.set_set, copiedR_set noHit h.len hd] at own2
      change w2.cell? ⟨w.heap.size, k * 2, none⟩ = some (.string noHit.1) at v0
      change w2.frozen? ⟨w.heap.size, k * 2, none⟩ = false at f0
      change (w2.setCell ⟨w.heap.size, k * 2, none⟩ (.string s)).cell? ⟨w.heap.size, k * 2 + 1, none⟩ = some (.int .i64 0) at v1
      change (w2.setCell ⟨w.heap.size, k * 2, none⟩ (.string s)).frozen? ⟨w.heap.size, k * 2 + 1, none⟩ = false at f1
      have HO := Lib.hid (show OwnHits ((w2.setCell ⟨w.heap.size, k * 2, none⟩ (.string s)).setCell ⟨w.heap.size, k * 2 + 1, none⟩ (.int .i64 x)) w.heap.size (some ⟨w.heap.size, 0, none⟩) n n (copiedR noHit d n (k + 1)) from own2)
      have HG := Lib.hid (show Below w.heap.size w ((w2.setCell ⟨w.heap.size, k * 2, none⟩ (.string s)).setCell ⟨w.heap.size, k * 2 + 1, none⟩ (.int .i64 x)) from (hbel.setCell (Nat.le_refl _) _).setCell (Nat.le_refl _) _)
      clear own0 own1 own2 hbel hownk hcg hcg1 hd
      go_wp2_with fail
      go_roundw
      case rel => exact ⟨k + 1, by omega, by go_num, HO.out, HG.out⟩
      case measure => simp [intOf]; omega
    · obtain rfl : k = n := by omega
      rw [copiedR_all noHit h.len] at hownk
      go_wp2_with fail
      go_ret
      exact ⟨_, rfl, hownk, hbk⟩
theorem szHit_any (s : ByteArray) (x k : Int) (w : World) (hs : s.size ≤ maxLen) (h0 : 0 ≤ k) (h1 : k ≤ 1048576) :
    Calls Try.prog 63 #[.agg #[.string s, .int .i64 x], .int .i64 k] w fun e w' => ∃ r : Int, e = .returned (.int .i64 r) ∧ r ≤ k ∧ -1 ≤ r ∧ Below w.heap.size w w' := by
  unfold maxLen at hs
  have hb : Below w.heap.size w (w.alloc (.cells #[.string s, .int .i64 x] 79)) := (Below.refl _ _).alloc (Nat.le_refl _) _
  have hw := IntWalk.i64_in (k - (s.size : Int)) (by omega)
  by_cases h : k - (s.size : Int) < 0
  · go_enter Try.func63, Try.ntmps63
    go_wp2_with fail
    go_ret
    exact ⟨-1, rfl, by omega, by omega, hb⟩
  · go_enter Try.func63, Try.ntmps63
    go_wp2_with fail
    go_ret
    exact ⟨k - (s.size : Int), rfl, by omega, by omega, hb⟩
theorem szHitS_any (A : Option Addr) (n c B : Nat) (d : List Hit) (k : Int) (w : World) (hn : n ≤ maxLen) (h : Recs hitL w B A n d) (hB : B ≤ w.heap.size) (h0 : 0 ≤ k) (h1 : k ≤ 1048576) :
    Calls Try.prog 32 #[.slice A n c, .int .i64 k] w fun e w' => ∃ r : Int, e = .returned (.int .i64 r) ∧ (0 ≤ r → r + (n : Int) ≤ k) ∧ r ≤ k ∧ Below w.heap.size w w' := by
  unfold maxLen at hn
  by_cases hneg : k - (n : Int) < 0
  · go_enter Try.func32, Try.ntmps32
    go_wp2_with fail
    go_ret
    exact ⟨-1, rfl, by omega, by omega, Below.refl _ _⟩
  · go_enter Try.func32, Try.ntmps32
    go_wp2_with fail
    go_loopw [1, 5] (fun v i wr => ∃ (j : Nat) (r : Int), j ≤ n ∧ i = .int .i64 j ∧ v = .int .i64 r ∧ 0 ≤ r ∧ r + (n : Int) ≤ k ∧ Below w.heap.size w wr) (fun _ i _ => n - (intOf i).toNat)
    case atStart => exact ⟨0, k - n, Nat.zero_le _, rfl, rfl, by omega, by omega, Below.refl _ _⟩
    case round =>
      obtain ⟨j, r, hj, rfl, rfl, hr0, hr1, hbel⟩ := hrel
      by_cases hlt : j < n
      · obtain ⟨b, o, s, x, rfl, hbB, hd, hs, hx, c0, c1⟩ := hitsL_at (h.step hbel hB) hlt
        have i0 : (0 : Int) ≤ (j : Int) := by omega
        have i1 : (j : Int) < (n : Int) := by omega
        go_wp2_with fail
        refine (szHit_any s x r _ hs hr0 (by omega)).mono ?_
        rintro e w2 ⟨r2, rfl, hr2, hr3, hb2⟩
        have hbel := below_step hbel (Nat.le_refl _) hb2
        by_cases hr4 : r2 < 0
        · go_wp2_with fail
          go_ret
          exact ⟨-1, rfl, by omega, by omega, hbel⟩
        · go_wp2_with fail
          go_roundw
          case rel => exact ⟨j + 1, r2, by omega, by go_num, rfl, by omega, by omega, hbel⟩
          case measure => simp [intOf]; omega
      · obtain rfl : j = n := by omega
        go_wp2_with fail
        go_ret
        exact ⟨r, rfl, by omega, by omega, hbel⟩
/-- the marks of n hits -/
def marksH (k n : Nat) : List Hit := (List.range n).map fun i => (markT (k + 2 * i), ((k + 2 * i + 1 : Nat) : Int))
theorem marksH_len (k n : Nat) : (marksH k n).length = n := by simp [marksH]
theorem marksH_get {k n j : Nat} (h : j < n) : (marksH k n)[j]? = some (markT (k + 2 * j), ((k + 2 * j + 1 : Nat) : Int)) := by simp [marksH, h]
theorem markT_okH (k : Nat) : (markT k).size ≤ maxLen := by have := markT_size k; unfold maxLen; omega
def markedH (k j : Nat) (l : List Hit) : List Hit := marksH k j ++ l.drop j
theorem markedH_get {k j : Nat} {l : List Hit} {x : Hit} (hx : l[j]? = some x) : (markedH k j l)[j]? = some x := by
  unfold markedH
  rw [List.getElem?_append_right (by rw [marksH_len]; omega), marksH_len, Nat.sub_self, List.getElem?_drop]
  simpa using hx
theorem markedH_set {k j : Nat} {l : List Hit} (h : j < l.length) : (markedH k j l).set j (markT (k + 2 * j), ((k + 2 * j + 1 : Nat) : Int)) = markedH k (j + 1) l := by
  unfold markedH
  rw [List.set_append_right _ _ (by rw [marksH_len]; omega), marksH_len, Nat.sub_self, List.drop_eq_getElem_cons h, List.set_cons_zero]
  have : marksH k (j + 1) = marksH k j ++ [(markT (k + 2 * j), ((k + 2 * j + 1 : Nat) : Int))] := by simp [marksH, List.range_succ]
  rw [this]; simp
theorem markHitS_any (base : Nat) (A : Option Addr) (n c : Nat) (l : List Hit) (w : World) (k : Nat) (hown : OwnHits w base A n c l) (hb : base ≤ w.heap.size) (h0 : 0 < k) (hk : k + 2 * n ≤ 3000000) :
    Calls Try.prog 39 #[.slice A n c, .int .i64 k] w fun e w' => e = .returned (.int .i64 ((k + 2 * n : Nat) : Int)) ∧ OwnHits w' base A n c (marksH k n) ∧ w.grownBy w' (Value.slice A n c).ownBlock := by
  by_cases hn0 : n = 0
  · subst hn0
    have hm : marksH k 0 = l := (List.eq_nil_of_length_eq_zero hown.len).symm
    rw [← hm] at hown
    clear hm
    go_enter Try.func39, Try.ntmps39
    go_wp2_with fail
    refine wp_loop_rounds 1 ?_
    rw [rounds_succ]
    go_wp2_with fail
    go_ret
    exact ⟨rfl, hown, World.grownBy.refl _ _⟩
  · obtain ⟨g, rfl, hbg, hgl, hnc, hcm⟩ : ∃ g, A = some ⟨g, 0, none⟩ ∧ base ≤ g ∧ g < w.heap.size ∧ n ≤ c ∧ c ≤ maxLen := by
      rcases hown.shape with ⟨_, h, _⟩ | h
      · exact absurd h hn0
      · exact h
    have HL := Lib.hid hown.len
    have hown0 : OwnHits w base (some ⟨g, 0, none⟩) n c (markedH k 0 l) := by simpa [markedH, marksH] using hown
    have HFIN := Lib.hid (show markedH k n l = marksH k n by unfold markedH; rw [List.drop_eq_nil_of_le (by rw [HL.out]; omega), List.append_nil])
    clear hown
    go_enter Try.func39, Try.ntmps39
    go_wp2_with fail
    go_loopw [1, 5] (fun x i wr => ∃ j m : Nat, j ≤ n ∧ m = k + 2 * j ∧ x = .int .i64 (m : Int) ∧ i = .int .i64 j ∧ OwnHits wr base (some ⟨g, 0, none⟩) n c (markedH k j l) ∧ w.grownBy wr (some g)) (fun _ i _ => n - (intOf i).toNat)
    case atStart => exact ⟨0, k, Nat.zero_le _, rfl, rfl, rfl, hown0, only_refl _ _⟩
    case round =>
      clear hown0
      obtain ⟨j, m, hj, hm, rfl, rfl, hownj, hgr⟩ := hrel
      by_cases hlt : j < n
      · obtain ⟨x, hx⟩ : ∃ x, l[j]? = some x := ⟨_, List.getElem?_eq_getElem (by rw [HL.out]; exact hlt)⟩
        have hgs := hgr.size
        have i0 : (0 : Int) ≤ (j : Int) := by omega
        have i1 : (j : Int) < (n : Int) := by omega
        have HM := Lib.hid hm
        have m0 : 0 < m := by omega
        have m1 : m + 2 ≤ 3000000 := by omega
        have HMT := Lib.hid (fun W : World => markText_any m W m0 (by omega))
        clear hm
        go_wp2_with fail
        with_reducible refine (HMT.out _).mono ?_
        rintro e w1 ⟨rfl, hb1⟩
        have own0 := hownj.below hb1
        have gr1 := only_trans hgr (only_below hb1)
        have hmg := markedH_get (k := k) hx
        have v0 := own0.at_ (i := 0) hmg rfl
        have f0 := own0.frozen (j * 2 + 0)
        have own1 := own0.stored (i := 0) (e' := (markT m, x.2)) (v := .string (markT m)) hmg (by show 0 < 2; omega) rfl ⟨markT_okH _, (own0.2 x (List.mem_of_getElem? hmg)).2⟩
        have hmg1 : ((markedH k j l).set j (markT m, x.2))[j]? = some (markT m, x.2) := by
          rw [List.getElem?_set_self (by have := (List.getElem?_eq_some_iff.1 hmg).1; exact this)]
        have v1 := own1.at_ (i := 1) hmg1 rfl
        have f1 := own1.frozen (j * 2 + 1)
        have own2 := own1.stored (i := 1) (e' := (markT m, (m : Int) + 1)) (v := .int .i64 ((m : Int) + 1)) hmg1 (by show 1 < 2; omega) rfl ⟨markT_okH _, by unfold I64; simp only; omega⟩
        have hm := HM.out
        have hst := markedH_set (k := k) (j := j) (l := l) (by rw [HL.out]; exact hlt)
        rw [← hm, show ((m + 1 : Nat) : Int) = (m : Int) + 1 by omega] at hst
        rw [List.set_set, hst] at own2
        change w1.cell? ⟨g, j * 2, none⟩ = some (.string x.1) at v0
        change w1.frozen? ⟨g, j * 2, none⟩ = false at f0
        change (w1.setCell ⟨g, j * 2, none⟩ (.string (markT m))).cell? ⟨g, j * 2 + 1, none⟩ = some (.int .i64 x.2) at v1
        change (w1.setCell ⟨g, j * 2, none⟩ (.string (markT m))).frozen? ⟨g, j * 2 + 1, none⟩ = false at f1
        have HO := Lib.hid (show OwnHits ((w1.setCell ⟨g, j * 2, none⟩ (.string (markT m))).setCell ⟨g, j * 2 + 1, none⟩ (.int .i64 ((m : Int) + 1))) base (some ⟨g, 0, none⟩) n c (markedH k (j + 1) l) from own2)
        have HG := Lib.hid (show w.grownBy ((w1.setCell ⟨g, j * 2, none⟩ (.string (markT m))).setCell ⟨g, j * 2 + 1, none⟩ (.int .i64 ((m : Int) + 1))) (some g) from
          only_trans (only_trans gr1 (World.ownsRow.stored own0.1 (j * 2 + 0) _).2) (World.ownsRow.stored own1.1 (j * 2 + 1) _).2)
        have hkw : IntKind.i64.wrap ((m : Int) + 1) = (m : Int) + 1 := IntWalk.i64_in _ (by omega)
        have hkw2 : IntKind.i64.wrap ((m : Int) + 1 + 1) = (m : Int) + 1 + 1 := IntWalk.i64_in _ (by omega)
        generalize markT m = t at *
        clear own0 own1 own2 gr1 hownj hmg hmg1 hx hgr hb1 hst hm
        go_wp2_with fail
        go_roundw
        case rel => exact ⟨j + 1, m + 2, by omega, by have := HM.out; omega, by go_num, by go_num, HO.out, HG.out⟩
        case measure => simp [intOf]; omega
      · obtain rfl : j = n := by omega
        rw [HFIN.out] at hownj
        go_wp2_with fail
        go_ret
        exact ⟨by subst hm; first | rfl | (simp; done) | (push_cast; rfl), hownj, hgr⟩
theorem heldHitS_any (A : Option Addr) (n c : Nat) (w : World) (k : Nat) (h : Hits w w.heap.size A n (marksH k n)) (h0 : 0 < k) (hk : k + 2 * n ≤ 3000000) :
    Calls Try.prog 40 #[.slice A n c, .int .i64 k] w fun e w' => e = .returned (.int .i64 ((k + 2 * n : Nat) : Int)) ∧ Below w.heap.size w w' := by
  go_enter Try.func40, Try.ntmps40
  go_wp2_with fail
  go_loopw [1, 5] (fun x i wr => ∃ j m : Nat, j ≤ n ∧ m = k + 2 * j ∧ x = .int .i64 (m : Int) ∧ i = .int .i64 j ∧ Below w.heap.size w wr) (fun _ i _ => n - (intOf i).toNat)
  case atStart => exact ⟨0, k, Nat.zero_le _, rfl, rfl, rfl, Below.refl _ _⟩
  case round =>
    obtain ⟨j, m, hj, hm, rfl, rfl, hbj⟩ := hrel
    by_cases hlt : j < n
    · obtain ⟨b, o, s, x, rfl, hbw, hs, hsz, hx, c0, c1⟩ := hits_at (h.below hbj) hlt
      rw [marksH_get hlt, ← hm] at hs
      injection hs with hs
      injection hs with q1 q2
      have hbe : (s.toList == s.toList) = true := by simp
      have hbe2 : (s.toList != s.toList) = false := by simp
      have hji : (0 : Int) ≤ (j : Int) := by omega
      have hjn : (j : Int) < (n : Int) := by omega
      have hbz := hbj.size
      have HM := Lib.hid hm
      have m0 : 0 < m := by omega
      have m1 : m + 2 ≤ 3000000 := by omega
      have C : ∀ W : World, Calls Try.prog 66 #[.int .i64 (m : Int)] W fun e w' => e = .returned (.string s) ∧ Below W.heap.size W w' := fun W => by
        rw [← q1]
        exact markText_any m W m0 (by omega)
      have HC := Lib.hid C
      rw [← q2, show ((m + 1 : Nat) : Int) = (m : Int) + 1 by omega] at c1
      have hkw : IntKind.i64.wrap ((m : Int) + 1) = (m : Int) + 1 := IntWalk.i64_in _ (by omega)
      have hkw2 : IntKind.i64.wrap ((m : Int) + 1 + 1) = (m : Int) + 1 + 1 := IntWalk.i64_in _ (by omega)
      clear C q1 q2 hm
      go_wp2_with fail
      go_region_held3 (fun w' => w'.cell? ⟨b, o + j * 2, none⟩ = some (.string s) ∧ w'.cell? ⟨b, o + j * 2 + 1, none⟩ = some (.int .i64 ((m : Int) + 1)))
        (first | exact ⟨c0, c1⟩ | exact ⟨z0, z1⟩ | go_keep | assumption)
        (first
          | (go_at_call 66
             (with_reducible refine (HC.out _).mono ?_)
             rintro e w4 ⟨rfl, hb4⟩
             have hb4' : Below wr.heap.size wr w4 := ⟨hb4.os, hb4.tape, hb4.output, hb4.size, hb4.block⟩
             have z0 := (hb4'.cell (p := ⟨b, o + j * 2, none⟩) (show b < wr.heap.size by omega)).trans c0
             have z1 := (hb4'.cell (p := ⟨b, o + j * 2 + 1, none⟩) (show b < wr.heap.size by omega)).trans c1
             have hb4' := below_step hbj (Nat.le_refl _) hb4')
          | fail)
      all_goals
        go_wp2_with fail
        go_roundw
        case rel => exact ⟨j + 1, m + 2, by omega, by have := HM.out; omega, by go_num, by go_num, by first | exact hb4' | exact hb4'.drew⟩
        case measure => simp [intOf]; omega
    · obtain rfl : j = n := by omega
      go_wp2_with fail
      go_ret
      exact ⟨by subst hm; first | rfl | (simp; done) | (push_cast; rfl), hbj⟩
end Go.Proofs.Ytmolphaihapkkaa
