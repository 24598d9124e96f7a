/- The walk of the law FnListFind; the drawing of a list and a word (l20Pick). -/
import Derived.Test.YtmlokccdgajamaaLwList
namespace Go.Proofs.Ytmlokccdgajamaa
open Go.RowKit
set_option maxHeartbeats 1600000
set_option linter.unusedSimpArgs false
set_option linter.unusedVariables false

def PickListPost (b p d k : Nat) (w : World) (e : Ending) (w' : World) : Prop :=
  ∃ g m cap l s, e = .returned (.tuple #[.slice (some ⟨g, 0, none⟩) m cap, .string s]) ∧ OwnS w' w.heap.size g m cap l ∧ m ≤ k ∧ Short 13 l ∧ s.size ≤ 13 ∧ Drew b p d w w'

theorem pickList_any (b p : Nat) (n : Int) (w : World) (hr : Rd w b p) (hp : p ≤ 400000) (hn0 : 0 ≤ n) (hn : n ≤ 1000) :
    Calls Try.prog 46 #[.pointer (some ⟨b, 0, none⟩), .int .i64 n] w (PickListPost b p 800 62 w) := by
  have hbl := hr.lt
  go_enter Try.func46, Try.ntmps46
  go_wp2_with fail
  refine (list_any b p _ _ hr (by omega) (by omega) (by omega)).mono ?_
  rintro e w1 ⟨g, m, cap, l, rfl, hown, hm, hsh, hd1⟩
  obtain ⟨q1, hq1a, hq1b, got1⟩ := (Got.refl hr).step hd1
  clear hd1 hr
  go_wp2_with fail
  refine (word_any b q1 _ _ got1.rd (by omega) hn0 hn).mono ?_
  rintro e w2 ⟨s, rfl, hs, hd2⟩
  have own2 := hown.drew hd2 hbl
  obtain ⟨q2, hq2a, hq2b, got2⟩ := got1.step hd2
  clear hd2 hown got1
  by_cases hm0 : 0 < m
  · go_wp2_with fail
    refine (pick_any b q2 _ _ got2.rd (by omega) (by omega)).mono ?_
    rintro e w3 ⟨v3, rfl, h30, h31, -, hd3⟩
    have h31 := h31 (by omega)
    have own3 := own2.drew hd3 hbl
    obtain ⟨q3, hq3a, hq3b, got3⟩ := got2.step hd3
    clear hd3 own2 got2
    by_cases hv3 : 0 < v3
    · go_wp2_with fail
      refine (pick_any b q3 _ _ got3.rd (by omega) (by omega)).mono ?_
      rintro e w4 ⟨v4, rfl, h40, h41, -, hd4⟩
      have h41 := h41 (by omega)
      have own4 := own3.drew hd4 hbl
      obtain ⟨q4, hq4a, hq4b, got4⟩ := got3.step hd4
      obtain ⟨v4, rfl⟩ := Int.eq_ofNat_of_zero_le h40
      clear hd4 got3 own3
      obtain ⟨bb, oo, z, he, _, hz, _, hcz⟩ := own4.strs.at_ (k := v4) (by omega)
      injection he with he; injection he with e1 e2; subst e1; subst e2
      rw [Nat.zero_add] at hcz
      have hz13 := hsh z (List.mem_of_getElem? hz)
      clear hz
      go_wp2_with fail
      refine (pick_any b q4 _ _ got4.rd (by omega) (by omega)).mono ?_
      rintro e w5 ⟨v5, rfl, h50, h51, -, hd5⟩
      have h51 := h51 (by omega)
      have own5 := own4.drew hd5 hbl
      obtain ⟨q5, hq5a, hq5b, got5⟩ := got4.step hd5
      obtain ⟨v5, rfl⟩ := Int.eq_ofNat_of_zero_le h50
      clear hd5 got4 own4 hcz
      go_wp2_with fail
      go_loopw [7, 8] (fun x y wr => ∃ (t : ByteArray) (k q : Nat), x = .string t ∧ y = .int .i64 k ∧ t.size ≤ 13 ∧ k ≤ 2 ∧ q + 5 * k ≤ p + 790 ∧ OwnS wr w.heap.size g m cap l ∧ Got w b p q wr) (fun _ y _ => (intOf y).toNat)
      case atStart => exact ⟨_, _, _, rfl, rfl, hz13, by omega, by omega, own5, got5⟩
      case round =>
        obtain ⟨t, k, q, rfl, rfl, ht, hk, hq, hown, hgot⟩ := hrel
        have htm : t.size ≤ maxLen := by unfold maxLen; omega
        by_cases hk0 : 0 < k
        · cases hv : wordB t.data.toList
          · have C := Lib.hid (wordValid_spec_is hv)
            clear hv
            go_wp2_with fail
            refine (C.out _ htm).mono ?_
            rintro e w' ⟨rfl, rfl⟩
            go_wp2_with fail
            go_ret2
            exact ⟨g, m, cap, l, t, rfl, hown, hm, hsh, ht, hgot.done (by omega)⟩
          · have C := Lib.hid (wordValid_spec_is hv)
            clear hv
            go_wp2_with fail
            refine (C.out _ htm).mono ?_
            rintro e w' ⟨rfl, rfl⟩
            go_wp2_with fail
            refine (bend_any b q _ _ hgot.rd (by omega) (by omega)).mono ?_
            rintro e w6 ⟨t', rfl, ht', hd6⟩
            have own6 := hown.drew hd6 hbl
            obtain ⟨q6, hq6a, hq6b, got6⟩ := hgot.step hd6
            obtain ⟨k, rfl⟩ : ∃ j, k = j + 1 := ⟨k - 1, by omega⟩
            clear hd6 hgot hown
            go_wp2_with fail
            go_roundw
            case rel => exact ⟨t', k, q6, rfl, by go_num, by omega, by omega, by omega, own6, got6⟩
            case measure => simp [intOf]
        · go_wp2_with fail
          go_ret2
          exact ⟨g, m, cap, l, t, rfl, hown, hm, hsh, ht, hgot.done (by omega)⟩
    · go_wp2_with fail
      go_ret2
      exact ⟨g, m, cap, l, s, rfl, own3, hm, hsh, hs, got3.done (by omega)⟩
  · have hm0' : (m : Int) ≤ 0 := by omega
    clear hm0
    go_wp2_with fail
    go_ret2
    exact ⟨g, m, cap, l, s, rfl, own2, hm, hsh, hs, got2.done (by omega)⟩

def ListWordPost (k : Nat) (w : World) (e : Ending) (w' : World) : Prop :=
  ∃ g m cap l s, e = .returned (.tuple #[.slice (some ⟨g, 0, none⟩) m cap, .string s]) ∧ OwnS w' w.heap.size g m cap l ∧ m ≤ k ∧ Short 13 l ∧ s.size ≤ 13 ∧ Below w.heap.size w w'
theorem drawListFind_any (A : Option Addr) (n c : Nat) (w : World) (h : Bytes w w.heap.size A n) (hnc : n ≤ c) (hc : c ≤ maxLen) :
    Calls Try.prog 25 #[.slice A n c] w (ListWordPost 62 w) := by
  go_enter Try.func25, Try.ntmps25
  go_wp2_with fail
  refine (open_any _ _ _ _ h hnc hc).mono ?_
  rintro e w1 ⟨g, rfl, hg, hr, hb⟩
  go_wp2_with fail
  refine (pickList_any g 0 _ _ hr (by omega) (by omega) (by omega)).mono ?_
  rintro e w2 ⟨g2, m, cap, l, s, rfl, hown, hm, hsh, hs, hd, -⟩
  go_wp2_with fail
  go_ret2
  exact ⟨g2, m, cap, l, s, rfl, hown.mono hb.size, hm, hsh, hs, hb.trans (below_only hd hg hb.size)⟩
theorem findI_cases (l : List ByteArray) (x : ByteArray) : findI l x = -1 ∨ ∃ k : Nat, findI l x = k ∧ listB l = true ∧ l[k]? = some x := by
  unfold findI
  cases hb : listB l
  · exact .inl rfl
  · by_cases hp : posOf x l < l.length
    · right
      refine ⟨posOf x l, by rw [decide_eq_true hp]; rfl, rfl, ?_⟩
      apply Classical.byContradiction
      intro hne
      have : ∀ (l : List ByteArray), posOf x l < l.length → l[posOf x l]? = some x := by
        intro l
        induction l with
        | nil => intro h; simp at h
        | cons a l ih =>
          intro h
          by_cases ha : a = x
          · simp [posOf, ha]
          · simp only [posOf, if_neg ha, List.length_cons] at h ⊢
            simpa using ih (by omega)
      exact hne (this l hp)
    · left; rw [decide_eq_false hp]; rfl
theorem find_without {l : List ByteArray} {x : ByteArray} {k : Nat} (hb : listB l = true) (hk : l[k]? = some x) : findI (l.take k ++ l.drop (k + 1)) x = -1 := by
  have ha : ascB l = true := by unfold listB at hb; simp at hb; exact hb.2
  have hkl := (List.getElem?_eq_some_iff.1 hk).1
  refine findI_none fun j hj => ?_
  have ne : ∀ i, l[i]? = some x → i = k := by
    intro i hi
    rcases Nat.lt_trichotomy i k with h | h | h
    · have := asc_lt ha (k - i - 1) i x x hi (by rw [← hk]; congr 1; omega)
      rw [ltS_irrefl] at this; cases this
    · exact h
    · have := asc_lt ha (i - k - 1) k x x hk (by rw [← hi]; congr 1; omega)
      rw [ltS_irrefl] at this; cases this
  by_cases hlt : j < k
  · rw [List.getElem?_append_left (by simp; omega), List.getElem?_take_of_lt hlt] at hj
    have := ne j hj; omega
  · rw [List.getElem?_append_right (by simp; omega), List.getElem?_drop] at hj
    have := ne _ hj
    simp at this; omega

theorem walkFnListFind (A : Option Addr) (n c : Nat) (w : World) (h : Bytes w w.heap.size A n) (hnc : n ≤ c) (hc : c ≤ maxLen) :
    Calls Try.prog 6 #[.slice A n c] w fun e w' => e = .returned (.bool true) ∧ Below w.heap.size w w' := by
  have hn : n ≤ maxLen := Nat.le_trans hnc hc
  unfold maxLen at hn
  by_cases hn2 : (1048576 : Int) < n
  · go_enter Try.func6, Try.ntmps6
    go_wp2_with fail
    go_ret
    exact ⟨rfl, Below.refl _ _⟩
  · go_enter Try.func6, Try.ntmps6
    go_wp2_with fail
    refine (drawListFind_any _ _ _ _ h hnc hc).mono ?_
    rintro e w1 ⟨g, m, cap, l, s, rfl, hown, hm, hsh, hs13, hb1⟩
    have hs1 := hown.strs
    have hmm : m ≤ maxLen := by unfold maxLen; omega
    clear h
    go_wp2_with fail
    refine (listFind_impl _ _ _ w1.heap.size l s _ hmm hs1).mono ?_
    rintro e w2 ⟨rfl, hd2⟩
    have hs2 := hs1.drawn hd2
    go_wp2_with fail
    refine (listFind_spec _ _ _ w1.heap.size l s _ hmm hs2).mono ?_
    rintro e w3 ⟨rfl, hd3⟩
    have hd := hd2.trans hd3
    have hb3 := below_step hb1 (Nat.le_refl _) hd.below
    have hown3 := hown.drawn hd
    clear hs1 hs2 hd2 hd3 hb1 hown hd
    rcases findI_cases l s with hf | ⟨k, hf, hv, hk⟩
    · rw [hf]
      clear hf
      go_wp2_with fail
      refine (alive_any _).mono ?_
      rintro e w4 ⟨rfl, hd4⟩
      go_wp2_with fail
      go_ret
      exact ⟨rfl, below_step hb3 (Nat.le_refl _) hd4.below⟩
    · rw [hf]
      have hs3 := hown3.strs
      have hcs := hs3.cell hk
      rw [Nat.zero_add] at hcs
      have hkm : k < m := by have := hown3.len; have := (List.getElem?_eq_some_iff.1 hk).1; omega
      have hno := find_without hv hk
      have C2 := Lib.hid (fun (A : Option Addr) (n c B : Nat) (W : World) (hn : n ≤ maxLen) (hS : Strs W B A n (l.take k ++ l.drop (k + 1))) => show Calls Try.prog 24 #[.slice A n c, .string s] W fun e w' => e = .returned (.int .i64 (-1)) ∧ Drawn W w' from hno ▸ listFind_impl A n c B _ s W hn hS)
      obtain ⟨hmc, hcm⟩ := hown3.caps
      have hgl := hown3.lt
      have hlt3 : g < w3.heap.size := hgl.2
      have hwk := IntWalk.i64_in ((k : Int) + 1) (by omega)
      have hk0 : (0 : Int) ≤ (k : Int) := by omega
      have hk1 : (0 : Int) ≤ (k : Int) + 1 := by omega
      have hkn : ((k : Int) + 1).toNat = k + 1 := by omega
      have hkm' : (k : Int) < (m : Int) := by omega
      have hkm1 : (k : Int) + 1 ≤ (m : Int) := by omega
      have hmc' : (m : Int) ≤ (cap : Int) := by omega
      have hse : (s.toList == s.toList) = true := by simp
      have OE : OwnS (w3.alloc (.cells #[] 9)).drew w3.heap.size w3.heap.size 0 0 [] := OwnS.empty w3
      have HH : Strs (w3.alloc (.cells #[] 9)).drew w3.heap.size (some ⟨g, 0, none⟩) k (l.take k) := (hs3.head (by omega)).alloc (Nat.le_refl _) _
      have ht3 := hs3.tail (k := k + 1) (by omega)
      rw [Nat.zero_add] at ht3
      clear hno hf hv hk
      have hkc : (k : Int) ≤ (cap : Int) := by omega
      have hkc1 : (k : Int) + 1 ≤ (cap : Int) := by omega
      by_cases hcap : cap = k + 1
      · have hd0 : l.drop (k + 1) = [] := List.drop_eq_nil_of_le (by have := hown3.len; omega)
        rw [hd0] at C2
        have ht3 : Strs w3 w3.heap.size (some ⟨g, 0, none⟩) 0 [] := Strs.nothing _
        clear hd0
        have hkc2 : (k : Int) ≤ (k : Int) + 1 := by omega
        subst hcap
        go_wp2_with fail
        go_region_held3 (fun w' => w'.cell? ⟨g, k, none⟩ = some (.string s))
          (first | go_keep | assumption)
          (first
            | ((with_reducible refine step_append_texts ?_ (.tmp 42) (.tmp 45) ?_ w3.heap.size w3.heap.size w3.heap.size 0 0 k (k + 1) [] (l.take k) (some ⟨g, 0, none⟩) ?_ OE ?_ HH ?_ ?_ ?_)
               · rfl
               · rfl
               · rfl
               · rfl
               · first | (simp; done) | (simp; omega)
               · omega
               intro g5 cap5 w5 hown5 hg5 hat5
               simp only [Nat.zero_add, List.nil_append] at hown5 ⊢
               have hb5 : Below w3.heap.size w3 w5 := ((Below.refl _ _).alloc (Nat.le_refl _) _).drew.grown hg5 (by first | (simp; done) | (simp; omega)) (by intro k hk; injection hk with hk; omega)
               have hc5 : w5.cell? ⟨g, k, none⟩ = some (.string s) := (hb5.cell hlt3).trans hcs
               have ht5 := (ht3.below hb5)
               have hgl5 := hown5.lt
               have hz5 := hb5.size
               clear hat5)
            | ((with_reducible refine step_append_texts ?_ (.tmp 46) (.tmp 50) ?_ w3.heap.size w3.heap.size g5 k cap5 0 0 (l.take k) [] (some ⟨g, 0, none⟩) ?_ hown5 ?_ ht5 ?_ ?_ ?_)
               · rfl
               · rfl
               · rfl
               · rfl
               · omega
               · omega
               intro g6 cap6 w6 hown6 hg6 hat6
               have hb6 : Below w3.heap.size w3 w6 := hb5.grown hg6 hz5 (by intro k hk; injection hk with hk; omega)
               have hc6 : w6.cell? ⟨g, k, none⟩ = some (.string s) := (hb6.cell hlt3).trans hcs
               have hs6 := hown6.strs)
            | (go_at_call 24
               (with_reducible refine (C2.out _ _ _ w6.heap.size _ ?_ ?_).mono ?_)
               · unfold maxLen; omega
               · exact hs6
               rintro e w7 ⟨rfl, hd7⟩
               have hc7 : w7.cell? ⟨g, k, none⟩ = some (.string s) := (hd7.cell _).trans hc6)
            | (trace_state; fail)
            | fail)
        all_goals
          go_wp2_with fail
          go_ret
          exact ⟨rfl, (hb3.trans (hb6.mono hb3.size)).trans ((hd7.below (B := w6.heap.size)).mono (Nat.le_trans hb3.size hb6.size))⟩
      · go_wp2_with fail
        go_region_held3 (fun w' => w'.cell? ⟨g, k, none⟩ = some (.string s))
          (first | go_keep | assumption)
          (first
            | ((with_reducible refine step_append_texts ?_ (.tmp 42) (.tmp 45) ?_ w3.heap.size w3.heap.size w3.heap.size 0 0 k cap [] (l.take k) (some ⟨g, 0, none⟩) ?_ OE ?_ HH ?_ ?_ ?_)
               · rfl
               · rfl
               · rfl
               · rfl
               · first | (simp; done) | (simp; omega)
               · omega
               intro g5 cap5 w5 hown5 hg5 hat5
               simp only [Nat.zero_add, List.nil_append] at hown5 ⊢
               have hb5 : Below w3.heap.size w3 w5 := ((Below.refl _ _).alloc (Nat.le_refl _) _).drew.grown hg5 (by first | (simp; done) | (simp; omega)) (by intro k hk; injection hk with hk; omega)
               have hc5 : w5.cell? ⟨g, k, none⟩ = some (.string s) := (hb5.cell hlt3).trans hcs
               have ht5 := (ht3.below hb5)
               have hgl5 := hown5.lt
               have hz5 := hb5.size
               clear hat5)
            | ((with_reducible refine step_append_texts ?_ (.tmp 46) (.tmp 50) ?_ w3.heap.size w3.heap.size g5 k cap5 (m - (k + 1)) (cap - (k + 1)) (l.take k) (l.drop (k + 1)) (some ⟨g, k + 1, none⟩) ?_ hown5 ?_ ht5 ?_ ?_ ?_)
               · rfl
               · rfl
               · rfl
               · rfl
               · omega
               · omega
               intro g6 cap6 w6 hown6 hg6 hat6
               have hb6 : Below w3.heap.size w3 w6 := hb5.grown hg6 hz5 (by intro k hk; injection hk with hk; omega)
               have hc6 : w6.cell? ⟨g, k, none⟩ = some (.string s) := (hb6.cell hlt3).trans hcs
               have hs6 := hown6.strs)
            | (go_at_call 24
               (with_reducible refine (C2.out _ _ _ w6.heap.size _ ?_ ?_).mono ?_)
               · unfold maxLen; omega
               · exact hs6
               rintro e w7 ⟨rfl, hd7⟩
               have hc7 : w7.cell? ⟨g, k, none⟩ = some (.string s) := (hd7.cell _).trans hc6)
            | (trace_state; fail)
            | fail)
        all_goals
          go_wp2_with fail
          go_ret
          exact ⟨rfl, (hb3.trans (hb6.mono hb3.size)).trans ((hd7.below (B := w6.heap.size)).mono (Nat.le_trans hb3.size hb6.size))⟩
end Go.Proofs.Ytmlokccdgajamaa
