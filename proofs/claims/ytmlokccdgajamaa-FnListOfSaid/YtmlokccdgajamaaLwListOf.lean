/- The walk of the law FnListOf. -/
import Derived.Test.YtmlokccdgajamaaImplListOf
import Derived.Test.YtmlokccdgajamaaSame
import Derived.Test.YtmlokccdgajamaaListDraw
import Derived.Test.YtmlokccdgajamaaLwFind
namespace Go.Proofs.Ytmlokccdgajamaa
open Go.RowKit
set_option maxHeartbeats 1600000
set_option linter.unusedSimpArgs false
set_option linter.unusedVariables false

theorem filled_of_mem {l m : List ByteArray} (h : filledB l = true) (hl : m.length ≤ l.length) (hm : ∀ x ∈ m, x ∈ l) : filledB m = true := by
  unfold filledB at *
  rw [Bool.and_eq_true, decide_eq_true_iff, List.all_eq_true] at *
  exact ⟨by omega, fun x hx => h.2 x (hm x hx)⟩
theorem foldIns_len (l : List ByteArray) : (foldIns l).length ≤ l.length := by have := (foldIns_facts l []).2; simpa [foldIns] using this
theorem foldIns_valid {l : List ByteArray} (h : filledB l = true) : listB (foldIns l) = true := by
  unfold listB
  rw [filled_of_mem h (foldIns_len l) (fun x hx => (foldIns_mem l x).1 hx), asc_pair.2 (foldIns_asc l)]
  rfl
theorem listOf_valid (l : List ByteArray) : listB (listOfB l) = true := by
  unfold listOfB
  split
  · exact foldIns_valid (by assumption)
  · rfl
theorem listOf_again {l : List ByteArray} (h : filledB l = true) : listOfB (foldIns l) = foldIns l := by
  unfold listOfB
  rw [if_pos (filled_of_mem h (foldIns_len l) (fun x hx => (foldIns_mem l x).1 hx))]
  exact asc_unique _ _ (foldIns_asc _) (foldIns_asc _) fun x => foldIns_mem _ x
theorem listOf_reverse {l : List ByteArray} (h : filledB l = true) : listOfB l.reverse = foldIns l := by
  unfold listOfB
  rw [if_pos (filled_of_mem h (by simp) (fun x hx => List.mem_reverse.1 hx))]
  exact asc_unique _ _ (foldIns_asc _) (foldIns_asc _) fun x => by rw [foldIns_mem, foldIns_mem, List.mem_reverse]
theorem find_member {l : List ByteArray} {x : ByteArray} (hv : listB l = true) (hx : x ∈ l) : 0 ≤ findI l x := by
  rcases findI_cases l x with h | ⟨k, h, _⟩
  · exfalso
    have : ∀ (l : List ByteArray), x ∈ l → posOf x l < l.length := by
      intro l
      induction l with
      | nil => intro h; cases h
      | cons a l ih =>
        intro h
        by_cases ha : a = x
        · simp [posOf, ha]
        · simp only [posOf, if_neg ha, List.length_cons]
          rcases List.mem_cons.1 h with e | e
          · exact absurd e.symm ha
          · have := ih e; omega
    unfold findI at h
    rw [hv, decide_eq_true (this l hx)] at h
    simp only [Bool.and_true, if_true] at h
    omega
  · omega

theorem drawListOf_any (A : Option Addr) (n c : Nat) (w : World) (h : Bytes w w.heap.size A n) (hnc : n ≤ c) (hc : c ≤ maxLen) :
    Calls Try.prog 20 #[.slice A n c] w (ListPost 61 w) := by
  go_enter Try.func20, Try.ntmps20
  go_wp2_with fail
  refine (open_any _ _ _ _ h hnc hc).mono ?_
  rintro e w1 ⟨g, rfl, hg, hr, hb⟩
  go_wp2_with fail
  refine (raw_any g 0 _ _ hr (by omega) (by omega) (by omega)).mono ?_
  rintro e w2 ⟨g2, m, cap, l, rfl, hown, hm, hsh, hd, -⟩
  go_wp2_with fail
  go_ret
  exact ⟨g2, m, cap, l, rfl, hown.mono hb.size, hm, hsh, hb.trans (below_only hd hg hb.size)⟩

theorem sameTexts_is {A1 A2 : Option Addr} {n1 n2 B : Nat} {ss : List ByteArray} (c1 c2 : Nat) (w : World) (hn1 : n1 ≤ maxLen) (hn2 : n2 ≤ maxLen) (h1 : Strs w B A1 n1 ss) (h2 : Strs w B A2 n2 ss) :
    Calls Try.prog 22 #[.slice A1 n1 c1, .slice A2 n2 c2] w fun e w' => e = .returned (.bool true) ∧ Drawn w w' :=
  (sameTexts_any A1 A2 n1 c1 n2 c2 B ss ss w hn1 hn2 h1 h2).mono fun e w' ⟨he, hd⟩ => ⟨by rw [he, decide_eq_true rfl], hd⟩

theorem walkFnListOf (A : Option Addr) (n c : Nat) (w : World) (h : Bytes w w.heap.size A n) (hnc : n ≤ c) (hc : c ≤ maxLen) :
    Calls Try.prog 5 #[.slice A n c] w fun e w' => e = .returned (.bool true) ∧ Below w.heap.size w w' := by
  have hn : n ≤ maxLen := Nat.le_trans hnc hc
  unfold maxLen at hn
  by_cases hn2 : (1048576 : Int) < n
  · go_enter Try.func5, Try.ntmps5
    go_wp2_with fail
    go_ret
    exact ⟨rfl, Below.refl _ _⟩
  · go_enter Try.func5, Try.ntmps5
    go_wp2_with fail
    refine (drawListOf_any _ _ _ _ h hnc hc).mono ?_
    rintro e w1 ⟨g, m, cap, l, rfl, hown, hm, hsh, hb1⟩
    have hs1 := hown.strs
    have hmm : m ≤ maxLen := by unfold maxLen; omega
    have HL := Lib.hid hown.len
    clear h hown
    go_wp2_with fail
    refine (listOf_impl _ _ _ w1.heap.size l _ hmm hs1 (Nat.le_refl _)).mono ?_
    rintro e w2 ⟨X, nx, cx, rfl, hox, hsx, hb2⟩
    have hX2 := Strs.of_own hox hsx
    have hs2 := hs1.below hb2
    have hnx : nx ≤ m := by have := hX2.1; have := listOf_len l; have := HL.out; omega
    have hnxm : nx ≤ maxLen := Nat.le_trans hnx hmm
    have hbw2 := below_step hb1 (Nat.le_refl _) hb2
    have hz2 := hb2.size
    clear hs1 hox hb2 hb1
    go_wp2_with fail
    refine (listOf_spec _ _ _ w1.heap.size l _ hmm hs2 hz2).mono ?_
    rintro e w3 ⟨g3, m3, cap3, rfl, hown3, hb3⟩
    have hX3 := (hX2.below hb3).more (B' := w3.heap.size) hb3.size
    have hs3 := (hs2.below (hb3.mono hz2)).more (B' := w3.heap.size) (Nat.le_trans hz2 hb3.size)
    have hy3 := hown3.strs
    have hm3 : m3 ≤ maxLen := Nat.le_trans hown3.caps.1 hown3.caps.2
    have hbw3 := below_step hbw2 (Nat.le_refl _) hb3
    clear hX2 hs2 hown3 hb3 hbw2 hz2
    go_wp2_with fail
    refine (sameTexts_is (B := w3.heap.size) _ _ _ hnxm hm3 hX3 hy3).mono ?_
    rintro e w4 ⟨rfl, hd4⟩
    have hX4 := hX3.drawn hd4
    have hs4 := hs3.drawn hd4
    have hz4 := hd4.size
    have hbw4 := below_step hbw3 (Nat.le_refl _) hd4.below
    rw [← hz4] at hX4 hs4
    clear hX3 hs3 hy3 hd4 hbw3 hz4
    by_cases hnx0 : nx = 0
    · have hb0 : ((nx : Int) == 0) = true := by simp; omega
      clear hnx0
      go_wp2_with fail
      refine (alive_any _).mono ?_
      rintro e w5 ⟨rfl, hd5⟩
      go_wp2_with fail
      go_ret
      exact ⟨rfl, below_step hbw4 (Nat.le_refl _) hd5.below⟩
    · have hb0 : ((nx : Int) == 0) = false := by simp; omega
      have hf : filledB l = true := by
        cases hf : filledB l with
        | true => rfl
        | false =>
          have h1 := hX4.1
          unfold listOfB at h1
          rw [hf] at h1
          simp at h1
          omega
      have hLX : listOfB l = foldIns l := by unfold listOfB; rw [hf]; rfl
      have HX := Lib.hid hLX
      rw [hLX] at hX4
      have hrev := listOf_reverse hf
      have hag := listOf_again hf
      have HREV := Lib.hid hrev
      have HAG := Lib.hid hag
      have HF := Lib.hid hf
      have CV := Lib.hid (fun W hS => listValid_impl_is (A := X) (n := nx) (B := w4.heap.size) (foldIns_valid hf) cx W hnxm hS)
      have hsx' : ∀ s ∈ foldIns l, s.size ≤ maxLen := fun s hs => hsx s (by rw [hLX]; exact hs)
      clear hLX hrev hag hf hnx0 hsx
      go_wp2_with fail
      have own0 : OwnS (w4.alloc (.cells #[] 9)) w4.heap.size w4.heap.size 0 0 (l.drop m).reverse := by
        rw [List.drop_eq_nil_of_le (by rw [HL.out]; exact Nat.le_refl _)]; exact OwnS.empty w4
      have HOWN0 := Lib.hid own0
      clear own0
      go_loopw [5, 6] (fun v i wr => ∃ (k g cap : Nat), k ≤ m ∧ v = .slice (some ⟨g, 0, none⟩) (m - k) cap ∧ i = .int .i64 ((k : Int) - 1) ∧ OwnS wr w4.heap.size g (m - k) cap (l.drop k).reverse ∧ Below w4.heap.size w4 wr) (fun _ i _ => (intOf i + 1).toNat)
      case atStart => exact ⟨m, w4.heap.size, 0, Nat.le_refl _, by rw [Nat.sub_self], rfl, by rw [Nat.sub_self]; exact HOWN0.out, (Below.refl _ _).alloc (Nat.le_refl _) _⟩
      case round =>
        obtain ⟨k, g5, cap5, hk, rfl, rfl, hown5, hb5⟩ := hrel
        by_cases hk0 : 0 < k
        · obtain ⟨j, rfl⟩ : ∃ j, k = j + 1 := ⟨k - 1, by omega⟩
          obtain ⟨bb, oo, s, he, hgw, hs, hsz, hcs⟩ := (hs4.below hb5).at_ (k := j) (by omega)
          injection he with he; injection he with e1 e2; subst e1; subst e2
          have hcs' : wr.cell? ⟨g, j, none⟩ = some (.string s) := by rw [Nat.zero_add] at hcs; exact hcs
          have hmem : 0 ≤ findI (foldIns l) s := find_member (foldIns_valid HF.out) ((foldIns_mem l s).2 (List.mem_of_getElem? hs))
          have hdrop : (l.drop (j + 1)).reverse ++ [s] = (l.drop j).reverse := by
            obtain ⟨hjl, e⟩ := List.getElem?_eq_some_iff.1 hs
            rw [List.drop_eq_getElem_cons hjl, e, List.reverse_cons]
          have HD := Lib.hid hdrop
          have hX5 := hX4.below hb5
          have hgl5 := hown5.lt
          have hz5 := hb5.size
          clear hs hdrop hcs
          have hjm : ((j : Nat) : Int) < m := by omega
          go_wp2_with (first
            | (at_builtin
               (refine wp_append_texts rfl (.tmp 31) (.tmp 36) rfl w4.heap.size (_ + 1) g5 (m - (j + 1)) cap5 1 1 (l.drop (j + 1)).reverse [s] _ rfl (hown5.below ((Below.refl _ _).alloc (Nat.le_refl _) _)) rfl (Strs.one _ _ hsz) (by first | (simp; done) | (simp; omega)) (by omega) ?_)
               intro yg ycap yw yown ygr yat
               have yb : Below w4.heap.size w4 yw := (hb5.alloc hz5 _).grown ygr (by first | (simp; done) | (simp; omega)) (by intro k hk; injection hk with hk; omega)
               have ycs : yw.cell? ⟨g, j, none⟩ = some (.string s) := by
                 exact ((yb.cell hgw).trans ((hb5.cell hgw).symm)).trans hcs'
               have yX := hX4.below yb
               have yz := yb.size
               clear yat ygr)
            | fail)
          refine (listFind_impl _ _ _ w4.heap.size _ s _ hnxm yX).mono ?_
          rintro e w6 ⟨rfl, hd6⟩
          have own6 := yown.drawn hd6
          have hb6 := below_step yb (Nat.le_refl _) hd6.below
          rw [HD.out] at own6
          have hmj : m - (j + 1) + 1 = m - j := by omega
          rw [hmj] at own6
          have HMJ := Lib.hid hmj
          generalize findI (foldIns l) s = r at hmem ⊢
          clear yown yb hd6 hmj hb5 hown5 yX hX5 ycs hcs'
          go_wp2_with fail
          go_roundw
          case rel => exact ⟨j, yg, ycap, by omega, by rw [HMJ.out], by go_num, own6, hb6⟩
          case measure => simp [intOf]
        · obtain rfl : k = 0 := by omega
          have hX5 := hX4.below hb5
          have hz5 := hb5.size
          have ho5 := hown5.strs
          rw [Nat.sub_zero, List.drop_zero] at ho5
          clear hown5 hk0
          go_wp2_with fail
          refine (CV.out _ hX5).mono ?_
          rintro e w6 ⟨rfl, hd6⟩
          have ho6 := ho5.drawn hd6
          have hb6 := below_step hb5 (Nat.le_refl _) hd6.below
          have hz6 := hd6.size
          rw [← hz6] at ho6
          clear ho5 hb5 hd6 hX5 hz6 hz5
          go_wp2_with fail
          refine (listOf_impl _ _ _ w6.heap.size l.reverse _ hmm ho6 (Nat.le_refl _)).mono ?_
          rintro e w7 ⟨Y, ny, cy, rfl, hoy, hsy, hb7⟩
          rw [HREV.out] at hoy hsy
          have hY7 := Strs.of_own hoy hsy
          have hbw7 := below_step hb6 (Nat.le_refl _) hb7
          have hX7 := (hX4.below hbw7).more (B' := w7.heap.size) hbw7.size
          have hny : ny ≤ maxLen := by have := hY7.1; have := hX7.1; omega
          clear ho6 hoy hb7 hb6 hsy
          go_wp2_with fail
          refine (sameTexts_is (B := w7.heap.size) _ _ _ hny hnxm hY7 hX7).mono ?_
          rintro e w8 ⟨rfl, hd8⟩
          have hX8 := hX7.drawn hd8
          have hbw8 := below_step hbw7 (Nat.le_refl _) hd8.below
          have hz8 := hd8.size
          rw [← hz8] at hX8
          clear hY7 hX7 hbw7 hd8 hz8
          go_wp2_with fail
          refine (listOf_impl _ _ _ w8.heap.size (foldIns l) _ hnxm hX8 (Nat.le_refl _)).mono ?_
          rintro e w9 ⟨Z, nz, cz, rfl, hoz, hsz9, hb9⟩
          rw [HAG.out] at hoz hsz9
          have hZ9 := Strs.of_own hoz hsz9
          have hbw9 := below_step hbw8 (Nat.le_refl _) hb9
          have hX9 := (hX8.below hb9).more (B' := w9.heap.size) hb9.size
          have hnz : nz ≤ maxLen := by have := hZ9.1; have := hX9.1; omega
          clear hoz hb9 hbw8 hX8 hsz9
          go_wp2_with fail
          refine (sameTexts_is (B := w9.heap.size) _ _ _ hnz hnxm hZ9 hX9).mono ?_
          rintro e w10 ⟨rfl, hd10⟩
          have hbw10 := below_step hbw9 (Nat.le_refl _) hd10.below
          go_wp2_with fail
          go_ret
          exact ⟨rfl, hbw4.trans (hbw10.mono hbw4.size)⟩
end Go.Proofs.Ytmlokccdgajamaa
