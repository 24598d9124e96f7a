/- The drawing of hits, lists, words and numbers of errors for chapter 7's laws. -/
import Derived.Test.YtmolphaihapkkaaHitSpec3
import Derived.Test.YtmolphaihapkkaaPickDraw
import Derived.Test.YtmolphaihapkkaaDrawBand
namespace Go.Proofs.Ytmolphaihapkkaa
open Go.RowKit
set_option maxHeartbeats 1600000
set_option maxRecDepth 8192
set_option linter.unusedSimpArgs false
set_option linter.unusedVariables false

/-- hits as they are drawn -/
def DrawnH (l : List Hit) : Prop := ∀ x ∈ l, x.1.size ≤ 13 ∧ 0 ≤ x.2 ∧ x.2 ≤ 5
theorem OwnR.drewH {α : Type} {R : Rec α} {w w' : World} {base n cap b q k : Nat} {A : Option Addr} {l : List α} (h : OwnR R w base A n cap l) (hd : Drew b q k w w') (hb : b < base) : OwnR R w' base A n cap l :=
  h.grown hd.1 (fun e => by have := (h.blockAt e).1; omega)
theorem drawnH_scan {ss : List ByteArray} {s : ByteArray} {e : Int} (h : Short 13 ss) : DrawnH (scanE ss s e) := by
  intro x hx
  unfold scanE at hx
  split at hx
  · rename_i hv
    simp only [Bool.and_eq_true, decide_eq_true_eq] at hv
    obtain ⟨h1, h2, h3⟩ := (scan_mem hv.1.1 s e x).1 hx
    exact ⟨h _ h1, by omega, by omega⟩
  · cases hx
theorem DrawnH.snoc {l m : List Hit} (h : DrawnH l) (k : DrawnH m) : DrawnH (l ++ m) := fun x hx => by
  rcases List.mem_append.1 hx with q | q
  · exact h x q
  · exact k x q
def HitsDrawPost (b p d : Nat) (w : World) (e : Ending) (w' : World) : Prop :=
  ∃ (g m cap : Nat) (l : List Hit), e = .returned (.slice (some ⟨g, 0, none⟩) m cap) ∧ OwnHits w' w.heap.size (some ⟨g, 0, none⟩) m cap l ∧ m ≤ 64 ∧ DrawnH l ∧ Drew b p d w w'
theorem hit_lit1 (W : World) (s : ByteArray) (x : Int) (hs : s.size ≤ maxLen) (hx : I64 x) : Hits (W.alloc (.cells #[.string s, .int .i64 x] 28)) (W.heap.size + 1) (some ⟨W.heap.size, 0, none⟩) 1 [(s, x)] := hits_one W s x hs hx
theorem hit_lit2 (W : World) (s t : ByteArray) (x y : Int) (hs : s.size ≤ maxLen) (hx : I64 x) (ht : t.size ≤ maxLen) (hy : I64 y) : Hits (W.alloc (.cells #[.string s, .int .i64 x, .string t, .int .i64 y] 28)) (W.heap.size + 1) (some ⟨W.heap.size, 0, none⟩) 2 [(s, x), (t, y)] := by
  refine ⟨rfl, fun z hz => ?_, fun _ => ⟨W.heap.size, 0, rfl, by omega, fun j z hz i v hv => ?_⟩⟩
  · rcases List.mem_cons.1 hz with rfl | hz
    · exact ⟨hs, hx⟩
    · rw [List.mem_singleton.1 hz]; exact ⟨ht, hy⟩
  · rw [cell_of_row _ _ _ _ _ _ (heap_alloc_new W _)]
    match j, hz with
    | 0, hz => simp at hz; subst hz; match i, hv with
      | 0, hv => simpa [hitR, hitEnc] using hv
      | 1, hv => simpa [hitR, hitEnc] using hv
      | i + 2, hv => simp [hitR, hitEnc] at hv
    | 1, hz => simp at hz; subst hz; match i, hv with
      | 0, hv => simpa [hitR, hitEnc] using hv
      | 1, hv => simpa [hitR, hitEnc] using hv
      | i + 2, hv => simp [hitR, hitEnc] at hv
    | j + 2, hz => simp at hz

theorem hits20_any (b p : Nat) (n : Int) (w : World) (hr : Rd w b p) (hp : p ≤ 300000) (hn0 : 0 ≤ n) (hn : n ≤ 1000) :
    Calls Try.prog 42 #[.pointer (some ⟨b, 0, none⟩), .int .i64 n] w (HitsDrawPost b p 830 w) := by
  have hbl := hr.lt
  go_enter Try.func42, Try.ntmps42
  go_wp2_with fail
  refine (pickList_any b p _ _ hr (by omega) (by omega) (by omega)).mono ?_
  rintro e w1 ⟨g0, m0, cap0, ss, s, rfl, own1, hm0, hsh, hs, hd1⟩
  obtain ⟨q1, hq1a, hq1b, got1⟩ := (Got.refl hr).step hd1
  have hlen := own1.len
  clear hd1 hr
  go_wp2_with fail
  refine (pick_any b q1 _ _ got1.rd (by omega) (by omega)).mono ?_
  rintro e w2 ⟨v2, rfl, h20, h21, -, hd2⟩
  have h21 := h21 (by omega)
  have own2 := own1.drew hd2 hbl
  obtain ⟨q2, hq2a, hq2b, got2⟩ := got1.step hd2
  clear hd2 got1 own1
  have hsm : s.size ≤ maxLen := by unfold maxLen; omega
  go_wp2_with fail
  refine (scanWords_spec _ _ _ _ ss s v2 w2 (by omega) own2.strs (Nat.le_refl _) hsm).mono ?_
  rintro e w3 ⟨g, cap, rfl, own3, hb3⟩
  have got3 := got2.below hb3
  have hl3 := scanE_len ss s v2
  have hdr : DrawnH (scanE ss s v2) := drawnH_scan hsh
  have own3 := own3.mono got2.size
  generalize scanE ss s v2 = l at own3 hl3 hdr ⊢
  obtain ⟨m, hm⟩ : ∃ m, m = l.length := ⟨_, rfl⟩
  rw [← hm] at own3 hl3 ⊢
  have hm62 : m ≤ 62 := by omega
  clear hb3 got2 own2 hl3 hm hlen
  go_wp2_with fail
  refine (odd_any b q2 _ _ got3.rd (by omega) (by omega) (by omega)).mono ?_
  rintro e w4 ⟨v4, rfl, -, hd4⟩
  have own4 := own3.drewH hd4 hbl
  obtain ⟨q4, hq4a, hq4b, got4⟩ := got3.step hd4
  clear hd4 got3 own3
  cases v4
  · go_wp2_with fail
    go_ret
    exact ⟨g, m, cap, l, rfl, own4, by omega, hdr, got4.done (by omega)⟩
  · go_wp2_with fail
    refine (pick_any b q4 _ _ got4.rd (by omega) (by omega)).mono ?_
    rintro e w5 ⟨v5, rfl, h50, h51, -, hd5⟩
    have h51 := h51 (by omega)
    have own5 := own4.drewH hd5 hbl
    obtain ⟨q5, hq5a, hq5b, got5⟩ := got4.step hd5
    clear hd5 got4 own4
    have ha : (ByteArray.mk #[97]).size ≤ maxLen := by decide
    have he : (ByteArray.mk #[]).size ≤ maxLen := by decide
    have hb : (ByteArray.mk #[98]).size ≤ maxLen := by decide
    have hz5 := got5.size
    have hgb : w.heap.size ≤ g := by
      rcases own5.shape with ⟨q, _⟩ | ⟨g', q, q2, _⟩
      · cases q
      · cases q; exact q2
    by_cases hv0 : v5 = 0
    · subst hv0
      go_wp2_with
        (at_builtin
         refine wp_append_recs (R := hitR) rfl (.tmp 30) (.tmp 32) rfl w.heap.size (w5.heap.size + 1) m cap 1 1 (some ⟨g, 0, none⟩) (some ⟨w5.heap.size, 0, none⟩) l [(ByteArray.mk #[97], 5)] rfl (own5.alloc _) rfl (hit_lit1 w5 _ _ ha (by unfold I64; omega)) (by simp; omega) (by omega) ?_
         intro A7 cap7 w7 hown7 hg7 hr7 hne7)
      obtain ⟨g7, rfl, -⟩ : ∃ g7, A7 = some ⟨g7, 0, none⟩ ∧ True := by
        rcases hown7.shape with ⟨_, q, _⟩ | ⟨g7, q, _⟩
        · exact absurd q (by omega)
        · exact ⟨g7, q, trivial⟩
      have got7 := (got5.alloc (.cells #[.string (ByteArray.mk #[97]), .int .i64 5] 28)).own (g := g) hg7 (by omega) hgb
      go_wp2_with fail
      go_ret
      exact ⟨g7, m + 1, cap7, l ++ [(ByteArray.mk #[97], 5)], rfl, hown7, by omega, hdr.snoc (fun x hx => by rw [List.mem_singleton.1 hx]; exact ⟨by decide, by omega, by omega⟩), got7.done (by omega)⟩
    · by_cases hv1 : v5 = 1
      · subst hv1
        go_wp2_with
          (at_builtin
           refine wp_append_recs (R := hitR) rfl (.tmp 36) (.tmp 38) rfl w.heap.size (w5.heap.size + 1) m cap 1 1 (some ⟨g, 0, none⟩) (some ⟨w5.heap.size, 0, none⟩) l [(ByteArray.mk #[], 4)] rfl (own5.alloc _) rfl (hit_lit1 w5 _ _ he (by unfold I64; omega)) (by simp; omega) (by omega) ?_
           intro A7 cap7 w7 hown7 hg7 hr7 hne7)
        obtain ⟨g7, rfl, -⟩ : ∃ g7, A7 = some ⟨g7, 0, none⟩ ∧ True := by
          rcases hown7.shape with ⟨_, q, _⟩ | ⟨g7, q, _⟩
          · exact absurd q (by omega)
          · exact ⟨g7, q, trivial⟩
        have got7 := (got5.alloc (.cells #[.string (ByteArray.mk #[]), .int .i64 4] 28)).own (g := g) hg7 (by omega) hgb
        go_wp2_with fail
        go_ret
        exact ⟨g7, m + 1, cap7, l ++ [(ByteArray.mk #[], 4)], rfl, hown7, by omega, hdr.snoc (fun x hx => by rw [List.mem_singleton.1 hx]; exact ⟨by decide, by omega, by omega⟩), got7.done (by omega)⟩
      · obtain rfl : v5 = 2 := by omega
        go_wp2_with
          (at_builtin
           refine wp_append_recs (R := hitR) rfl (.tmp 23) (.tmp 26) rfl w.heap.size (w5.heap.size + 1) m cap 2 2 (some ⟨g, 0, none⟩) (some ⟨w5.heap.size, 0, none⟩) l [(ByteArray.mk #[98], 0), (ByteArray.mk #[98], 0)] rfl (own5.alloc _) rfl (hit_lit2 w5 _ _ _ _ hb (by unfold I64; omega) hb (by unfold I64; omega)) (by simp; omega) (by omega) ?_
           intro A7 cap7 w7 hown7 hg7 hr7 hne7)
        obtain ⟨g7, rfl, -⟩ : ∃ g7, A7 = some ⟨g7, 0, none⟩ ∧ True := by
          rcases hown7.shape with ⟨_, q, _⟩ | ⟨g7, q, _⟩
          · exact absurd q (by omega)
          · exact ⟨g7, q, trivial⟩
        have got7 := (got5.alloc (.cells #[.string (ByteArray.mk #[98]), .int .i64 0, .string (ByteArray.mk #[98]), .int .i64 0] 28)).own (g := g) hg7 (by omega) hgb
        go_wp2_with fail
        go_ret
        exact ⟨g7, m + 2, cap7, l ++ [(ByteArray.mk #[98], 0), (ByteArray.mk #[98], 0)], rfl, hown7, by omega, hdr.snoc (fun x hx => by
          rcases List.mem_cons.1 hx with rfl | hx
          · exact ⟨by decide, by omega, by omega⟩
          · rw [List.mem_singleton.1 hx]; exact ⟨by decide, by omega, by omega⟩), got7.done (by omega)⟩
/-- hits that are given to a law -/
def HitsGiven (w : World) (e : Ending) (w' : World) : Prop :=
  ∃ (g m cap : Nat) (l : List Hit), e = .returned (.slice (some ⟨g, 0, none⟩) m cap) ∧ OwnHits w' w.heap.size (some ⟨g, 0, none⟩) m cap l ∧ m ≤ 64 ∧ DrawnH l ∧ Below w.heap.size w w'
theorem drawHitsValid_any (A : Option Addr) (n c : Nat) (w : World) (h : Bytes w w.heap.size A n) (hnc : n ≤ c) (hc : c ≤ maxLen) :
    Calls Try.prog 13 #[.slice A n c] w (HitsGiven w) := by
  go_enter Try.func13, Try.ntmps13
  go_wp2_with fail
  refine (open_any _ _ _ _ h hnc hc).mono ?_
  rintro e w1 ⟨g, rfl, hg, hr, hb⟩
  go_wp2_with fail
  refine (hits20_any g 0 _ _ hr (by omega) (by omega) (by omega)).mono ?_
  rintro e w2 ⟨g2, m, cap, l, rfl, hown, hm, hdr, hd⟩
  go_wp2_with fail
  go_ret
  exact ⟨g2, m, cap, l, rfl, hown.mono hb.size, hm, hdr, hb.trans (below_only hd.1 hg hb.size)⟩
/-- a list, a word and a number of errors that are given to a law -/
def AskPost (w : World) (e : Ending) (w' : World) : Prop :=
  ∃ (g m cap : Nat) (ss : List ByteArray) (s : ByteArray) (k : Int), e = .returned (.tuple #[.slice (some ⟨g, 0, none⟩) m cap, .string s, .int .i64 k]) ∧ OwnS w' w.heap.size g m cap ss ∧ m ≤ 62 ∧ Short 13 ss ∧ s.size ≤ 13 ∧ -1 ≤ k ∧ k ≤ 5 ∧ Below w.heap.size w w'
theorem drawScanWords_any (A : Option Addr) (n c : Nat) (w : World) (h : Bytes w w.heap.size A n) (hnc : n ≤ c) (hc : c ≤ maxLen) :
    Calls Try.prog 17 #[.slice A n c] w (AskPost w) := by
  go_enter Try.func17, Try.ntmps17
  go_wp2_with fail
  refine (open_any _ _ _ _ h hnc hc).mono ?_
  rintro e w1 ⟨g, rfl, hg, hr, hb⟩
  go_wp2_with fail
  refine (pickList_any g 0 _ _ hr (by omega) (by omega) (by omega)).mono ?_
  rintro e w2 ⟨g2, m, cap, l, s, rfl, hown, hm, hsh, hs, hd⟩
  obtain ⟨q2, hq2a, hq2b, got2⟩ := (Got.refl hr).step hd
  have hb2 := hb.trans (below_only hd.1 hg hb.size)
  have hgz := hr.lt
  clear hd hr
  go_wp2_with fail
  refine (errors_any g q2 _ _ got2.rd (by omega) (by omega) (by omega)).mono ?_
  rintro e w3 ⟨k, rfl, hk0, hk1, hd3⟩
  have hown := (hown.drew hd3 hgz).mono hb.size
  go_wp2_with fail
  refine bodyPost_ret (v := .tuple #[.slice (some ⟨g2, 0, none⟩) m cap, .string s, .int .i64 k]) (by simp [results, Try.results17, go_sem]) rfl ?_
  exact ⟨g2, m, cap, l, s, k, rfl, hown, hm, hsh, hs, hk0, hk1, hb2.trans (below_only hd3.1 hg hb2.size)⟩
theorem drawNearestWords_any (A : Option Addr) (n c : Nat) (w : World) (h : Bytes w w.heap.size A n) (hnc : n ≤ c) (hc : c ≤ maxLen) :
    Calls Try.prog 28 #[.slice A n c] w (ListWordPost 62 w) := by
  go_enter Try.func28, Try.ntmps28
  go_wp2_with fail
  refine (open_any _ _ _ _ h hnc hc).mono ?_
  rintro e w1 ⟨g, rfl, hg, hr, hb⟩
  go_wp2_with fail
  refine (pickList_any g 0 _ _ hr (by omega) (by omega) (by omega)).mono ?_
  rintro e w2 ⟨g2, m, cap, l, s, rfl, hown, hm, hsh, hs, hd, -⟩
  go_wp2_with fail
  go_ret2
  exact ⟨g2, m, cap, l, s, rfl, hown.mono hb.size, hm, hsh, hs, hb.trans (below_only hd hg hb.size)⟩
/-- two rows of hits that are given to a law; the second may lie in the first -/
def HitsTwo (w : World) (e : Ending) (w' : World) : Prop :=
  ∃ (A1 A2 : Option Addr) (n1 c1 n2 c2 : Nat) (a b : List Hit), e = .returned (.tuple #[.slice A1 n1 c1, .slice A2 n2 c2]) ∧ Hits w' w'.heap.size A1 n1 a ∧ Hits w' w'.heap.size A2 n2 b ∧ n1 ≤ c1 ∧ c1 ≤ maxLen ∧ n2 ≤ c2 ∧ c2 ≤ maxLen ∧ n1 ≤ 64 ∧ n2 ≤ 64 ∧ DrawnH a ∧ DrawnH b ∧ Below w.heap.size w w'
theorem drawJoinHits_any (A : Option Addr) (n c : Nat) (w : World) (h : Bytes w w.heap.size A n) (hnc : n ≤ c) (hc : c ≤ maxLen) :
    Calls Try.prog 25 #[.slice A n c] w (HitsTwo w) := by
  go_enter Try.func25, Try.ntmps25
  go_wp2_with fail
  refine (open_any _ _ _ _ h hnc hc).mono ?_
  rintro e w1 ⟨g, rfl, hg, hr, hb⟩
  have hgz := hr.lt
  go_wp2_with fail
  refine (hits20_any g 0 _ _ hr (by omega) (by omega) (by omega)).mono ?_
  rintro e w2 ⟨g2, m, cap, l, rfl, own2, hm, hdr, hd⟩
  obtain ⟨q2, hq2a, hq2b, got2⟩ := (Got.refl hr).step hd
  have hb2 := hb.trans (below_only hd.1 hg hb.size)
  clear hd hr
  go_wp2_with fail
  refine (hits20_any g q2 _ _ got2.rd (by omega) (by omega) (by omega)).mono ?_
  rintro e w3 ⟨g3, m3, cap3, l3, rfl, own3, hm3, hdr3, hd3⟩
  have own2 := own2.drewH hd3 hgz
  obtain ⟨q3, hq3a, hq3b, got3⟩ := got2.step hd3
  have hb3 := hb2.trans (below_only hd3.1 hg hb2.size)
  have own3 := own3.mono got2.size
  clear hd3 got2
  go_wp2_with fail
  refine (pick_any g q3 _ _ got3.rd (by omega) (by omega)).mono ?_
  rintro e w4 ⟨v4, rfl, h40, h41, -, hd4⟩
  have own2 := own2.drewH hd4 hgz
  have own3 := own3.drewH hd4 hgz
  have hb4 := hb3.trans (below_only hd4.1 hg hb3.size)
  clear hd4 got3
  have cap2 : m ≤ cap ∧ cap ≤ maxLen := by
    rcases own2.shape with ⟨q, _⟩ | ⟨_, _, _, _, q1, q2⟩
    · cases q
    · exact ⟨q1, q2⟩
  have cap3' : m3 ≤ cap3 ∧ cap3 ≤ maxLen := by
    rcases own3.shape with ⟨q, _⟩ | ⟨_, _, _, _, q1, q2⟩
    · cases q
    · exact ⟨q1, q2⟩
  by_cases hv : v4 = 0
  · subst hv
    by_cases hce : cap = m / 2
    · obtain rfl : m = 0 := by omega
      obtain rfl : cap = 0 := by omega
      clear hce
      go_wp2_with fail
      go_ret2
      exact ⟨_, _, 0, 0, 0, 0, l, l, rfl, own2.recs, own2.recs, Nat.le_refl _, Nat.zero_le _, Nat.le_refl _, Nat.zero_le _, by omega, by omega, hdr, hdr, hb4⟩
    · have hrec := own2.recs
      have hcut := hits_cut hrec cap (m / 2) (by omega) cap2.1
      rw [if_neg hce] at hcut
      have HC := Lib.hid hcut
      have hcc := cap2.1
      have i0 : (0 : Int) ≤ ((m / 2 : Nat) : Int) := by omega
      have i1 : ((m / 2 : Nat) : Int) ≤ (m : Int) := by omega
      have hq : (m : Int).tdiv 2 = ((m / 2 : Nat) : Int) := rfl
      have HDD := Lib.hid (show DrawnH (l.drop (m / 2)) from fun x hx => hdr x (List.mem_of_mem_drop hx))
      have HCC := Lib.hid cap2
      have hhm : m / 2 ≤ m := by omega
      clear hcut cap2
      generalize m / 2 = hf at *
      go_wp2_with fail
      go_ret2
      exact ⟨_, _, m, cap, m - hf, cap - hf, l, l.drop hf, rfl, own2.recs, (by have q := HC.out; rwa [Nat.zero_add] at q), HCC.out.1, HCC.out.2, by omega, by have := HCC.out.2; omega, hm, by omega, hdr, HDD.out, hb4⟩
  · have hv2 : ((v4 : Int) == 0) = false := by simp [hv]
    go_wp2_with fail
    go_ret2
    exact ⟨_, _, m, cap, m3, cap3, l, l3, rfl, own2.recs, own3.recs, cap2.1, cap2.2, cap3'.1, cap3'.2, hm, hm3, hdr, hdr3, hb4⟩
end Go.Proofs.Ytmolphaihapkkaa
