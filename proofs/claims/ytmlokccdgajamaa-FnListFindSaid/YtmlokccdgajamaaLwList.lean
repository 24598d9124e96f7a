/- The walk of the law FnListValid. -/
import Derived.Test.YtmlokccdgajamaaListDraw
import Derived.Test.YtmlokccdgajamaaFind
import Derived.Deep.RegionHeld3
import Derived.Deep.RegionLaw
import Derived.Deep.RegionWith
import Derived.Deep.AppendLies
namespace Go.Proofs.Ytmlokccdgajamaa
open Go.RowKit
set_option maxHeartbeats 1600000
set_option linter.unusedSimpArgs false
set_option linter.unusedVariables false

/-- the append's law at a step of a region that draws its order -/
theorem step_append_texts {ops : Array Oper} {o : Oper} {a : Act} {w : World} {K : Act → World → Prop} {Q : Exit → Act → World → Prop} {E : Prop} (hw : Region.wanted o (yielded ops a.tmps) = true) (s x : Operand)
    (ho : o.op = .call { callee := .builtin .append, args := #[s, x], argTypes := #[27, 27] })
    (base B g n cap m c : Nat) (l ss : List ByteArray) (A : Option Addr) (hs : a.eval s = .slice (some ⟨g, 0, none⟩) n cap) (hown : OwnS w base g n cap l) (hx : a.eval x = .slice A m c) (hr : Strs w B A m ss)
    (hb : base ≤ w.heap.size) (hsm : n + m ≤ 8000000000)
    (h : ∀ g' cap' w', OwnS w' base g' (n + m) cap' (l ++ ss) → w.grownBy w' (some g) → (g' = g ∨ g' = w.heap.size) → K (a.put o.dst (.slice (some ⟨g', 0, none⟩) (n + m) cap')) w') :
    if Region.wanted o (yielded ops a.tmps) = true then Oper.wp Try.prog o a w K Q else E := by
  rw [if_pos hw]
  obtain ⟨v', w', hrun, h2, h3, h4, h5⟩ := run_append_strs w o.type base B n m c _ _ hown.1 A ss hr hb hsm
  have hv := h4 (by simp)
  unfold Oper.wp execOp
  simp only [ho, resolve, invoke, builtin, Sem.run_bind, Sem.run_pure, Result.andThen_ok, List.map_toArray, List.map_cons, List.map_nil, hs, hx, hrun]
  have hall : ∀ t ∈ l ++ ss, t.size ≤ maxLen := by
    intro t ht
    rcases List.mem_append.1 ht with h | h
    · exact hown.2 t h
    · exact hr.2.1 t h
  rcases h2.2 with ⟨e, _⟩ | ⟨g', cap', cur, e, hbg, hh, r⟩
  · exact absurd e hv
  · subst e
    exact h g' cap' w' ⟨by rw [List.map_append]; exact h2, hall⟩ h3 (by simpa [Value.ownBlock] using h5)

theorem Drawn.of_drew {w w' : World} (h : Drawn w.drew w') : Drawn w w' := ((Drawn.refl w).drewN 1).trans h
theorem OwnS.empty2 (w : World) (o : Obj) : OwnS ((w.alloc o).alloc (.cells #[] 9)) w.heap.size (w.heap.size + 1) 0 0 [] := by
  have := OwnS.empty (w.alloc o)
  simp at this
  exact this.mono (by omega)
/-- the first of two new blocks, of one text, stands behind an append onto the second -/
theorem strs_first_grown {w w' : World} {o : Obj} {s : ByteArray} (hs : s.size ≤ maxLen) (hg : ((w.alloc (.cells #[.string s] 9)).alloc o).grownBy w' (some (w.heap.size + 1))) :
    Strs w' (w.heap.size + 1) (some ⟨w.heap.size, 0, none⟩) 1 [s] :=
  ((Strs.one w s hs).alloc (by simp) o).keep fun p hp => hg.cell_far p (by simp; omega) (by simp; omega)
/-- the second of two new blocks, of one text -/
theorem strs_second (w : World) (o : Obj) (s : ByteArray) (hs : s.size ≤ maxLen) : Strs ((w.alloc o).alloc (.cells #[.string s] 9)) (w.heap.size + 2) (some ⟨w.heap.size + 1, 0, none⟩) 1 [s] := by
  simpa using Strs.one (w.alloc o) s hs
/-- it stands behind an append onto the first -/
theorem strs_second_grown {w w' : World} {o : Obj} {s : ByteArray} (hs : s.size ≤ maxLen) (hg : ((w.alloc o).alloc (.cells #[.string s] 9)).grownBy w' (some w.heap.size)) :
    Strs w' (w.heap.size + 2) (some ⟨w.heap.size + 1, 0, none⟩) 1 [s] := by
  obtain ⟨h1, h2, h3⟩ := strs_second w o s hs
  refine ⟨h1, h2, fun _ => ⟨w.heap.size + 1, 0, rfl, by omega, fun j t hj => ?_⟩⟩
  obtain ⟨b, o', e, _, hc⟩ := h3 (by omega)
  injection e with e; injection e with e1 e2; subst e1; subst e2
  exact (hg.cell_far ⟨w.heap.size + 1, 0 + j, none⟩ (by simp) (by simp)).trans (hc j t hj)
theorem filled_drop {l : List ByteArray} (h : filledB l = true) (k : Nat) : filledB (l.drop k) = true := by
  unfold filledB at *
  rw [Bool.and_eq_true, decide_eq_true_iff, List.all_eq_true] at *
  exact ⟨by rw [List.length_drop]; omega, fun x hx => h.2 x (List.mem_of_mem_drop hx)⟩
theorem asc_drop {l : List ByteArray} (h : ascB l = true) (k : Nat) : ascB (l.drop k) = true := by
  rw [asc_iff] at *
  intro j s t hs ht
  rw [List.getElem?_drop] at hs ht
  exact h (k + j) s t hs (by rw [← ht]; congr 1)
theorem list_drop {l : List ByteArray} (h : listB l = true) (k : Nat) : listB (l.drop k) = true := by
  unfold listB at *
  rw [Bool.and_eq_true] at *
  exact ⟨filled_drop h.1 k, asc_drop h.2 k⟩
theorem list_again {l : List ByteArray} {s : ByteArray} (h : listB l = true) (hs : l[0]? = some s) : listB (l ++ [s]) = false := by
  rw [Bool.eq_false_iff]
  intro h2
  have ha : ascB (l ++ [s]) = true := by unfold listB at h2; simp at h2; exact h2.2
  have hl := (List.getElem?_eq_some_iff.1 hs).1
  have h0 : (l ++ [s])[0]? = some s := by rw [List.getElem?_append_left hl]; exact hs
  have hn : (l ++ [s])[l.length]? = some s := by simp
  have := asc_lt ha (l.length - 1) 0 s s h0 (by rw [← hn]; congr 1; omega)
  rw [ltS_irrefl] at this
  cases this

theorem walkFnListValid (A : Option Addr) (n c : Nat) (w : World) (h : Bytes w w.heap.size A n) (hnc : n ≤ c) (hc : c ≤ maxLen) :
    Calls Try.prog 4 #[.slice A n c] w fun e w' => e = .returned (.bool true) ∧ Below w.heap.size w w' := by
  have hn : n ≤ maxLen := Nat.le_trans hnc hc
  unfold maxLen at hn
  by_cases hn2 : (1048576 : Int) < n
  · go_enter Try.func4, Try.ntmps4
    go_wp2_with fail
    go_ret
    exact ⟨rfl, Below.refl _ _⟩
  · go_enter Try.func4, Try.ntmps4
    go_wp2_with fail
    refine (drawListValid_any _ _ _ _ h hnc hc).mono ?_
    rintro e w1 ⟨g, m, cap, l, rfl, hown, hm, hsh, hb1⟩
    have hs1 := hown.strs
    have hmm : m ≤ maxLen := by unfold maxLen; omega
    clear h
    cases hv : listB l
    · have C := Lib.hid (listValid_impl_is (A := some ⟨g, 0, none⟩) (n := m) (B := w1.heap.size) hv)
      have CS := Lib.hid (listValid_spec_is (A := some ⟨g, 0, none⟩) (n := m) (B := w1.heap.size) hv)
      clear hv
      go_wp2_with fail
      refine (C.out cap _ hmm hs1).mono ?_
      rintro e w2 ⟨rfl, hd2⟩
      have hs2 := hs1.drawn hd2
      go_wp2_with fail
      refine (CS.out cap _ hmm hs2).mono ?_
      rintro e w3 ⟨rfl, hd3⟩
      go_wp2_with fail
      refine (alive_any _).mono ?_
      rintro e w4 ⟨rfl, hd4⟩
      go_wp2_with fail
      go_ret
      exact ⟨rfl, below_step hb1 (Nat.le_refl _) ((hd2.trans hd3).trans hd4).below⟩
    · have C := Lib.hid (listValid_impl_is (A := some ⟨g, 0, none⟩) (n := m) (B := w1.heap.size) hv)
      have CS := Lib.hid (listValid_spec_is (A := some ⟨g, 0, none⟩) (n := m) (B := w1.heap.size) hv)
      have HV := Lib.hid hv
      clear hv
      go_wp2_with fail
      refine (C.out cap _ hmm hs1).mono ?_
      rintro e w2 ⟨rfl, hd2⟩
      have hs2 := hs1.drawn hd2
      go_wp2_with fail
      refine (CS.out cap _ hmm hs2).mono ?_
      rintro e w3 ⟨rfl, hd3⟩
      have hd := hd2.trans hd3
      have hs3 := (hs2.drawn hd3).more (B' := w3.heap.size) (by have := hd.size; omega)
      have hb3 := below_step hb1 (Nat.le_refl _) hd.below
      have hown3 := hown.drawn hd
      clear hs1 hs2 hd2 hd3 C CS hb1 hown
      by_cases hm0 : m = 0
      · subst hm0
        go_wp2_with fail
        refine (alive_any _).mono ?_
        rintro e w4 ⟨rfl, hd4⟩
        go_wp2_with fail
        go_ret
        exact ⟨rfl, below_step hb3 (Nat.le_refl _) hd4.below⟩
      · have hmb : ((m : Int) == 0) = false := by simp; omega
        obtain ⟨bb, oo, s, he, _, hs, hsz, hcs⟩ := hs3.at_ (k := 0) (by omega)
        injection he with he; injection he with e1 e2; subst e1; subst e2
        rw [Nat.add_zero] at hcs
        have hdrop := list_drop HV.out (m / 2)
        have hagain := list_again HV.out hs
        have ht3 := hs3.tail (k := m / 2) (by omega)
        rw [Nat.zero_add] at ht3
        have C1 := Lib.hid (fun W => listValid_impl_is (A := some ⟨g, m / 2, none⟩) (n := m - m / 2) (B := w3.heap.size) hdrop (cap - m / 2) W (by unfold maxLen; omega))
        have C2 := Lib.hid (fun A n B c W => listValid_impl_is (A := A) (n := n) (B := B) hagain c W)
        obtain ⟨hmc, hcm⟩ := hown3.caps
        have hgl := hown3.lt
        have hmne : ¬ cap = m / 2 := by omega
        have hle : m / 2 ≤ m := by omega
        have htd : (m : Int).tdiv 2 = ((m / 2 : Nat) : Int) := rfl
        generalize m / 2 = k at C1 ht3 hmne htd hle
        have hwk := IntWalk.i64_in (k : Int) (by omega)
        have hk0 : (0 : Int) ≤ (k : Int) := by omega
        have hkm : (k : Int) ≤ (m : Int) := by omega
        have hmc' : (m : Int) ≤ (cap : Int) := by omega
        have hmpos : (0 : Int) < (m : Int) := by omega
        have hmN : 0 < m := by omega
        clear hagain hdrop hs hm0
        go_wp2_with fail
        have hx0 := Strs.one
        go_region_held3 (fun w' => w'.cell? ⟨g, 0, none⟩ = some (.string s))
          (first | go_keep | assumption)
          (first
            | (go_at_call 18
               (with_reducible refine (C1.out _ ?_).mono ?_)
               · exact ht3
               rintro e w4 ⟨rfl, hd4⟩
               have hd4 : Drawn w3 w4 := by first | exact hd4 | exact Drawn.of_drew hd4
               have hs4 := hs3.drawn hd4
               have hz4 := hd4.size
               have hza4 : w3.heap.size ≤ w4.heap.size := by omega
               have hc4 : w4.cell? ⟨g, 0, none⟩ = some (.string s) := (hd4.cell _).trans hcs
               have hb4 := below_step hb3 (Nat.le_refl _) hd4.below
               clear hz4)
            | ((with_reducible refine step_append_texts ?_ (.tmp 31) (.tmp 32) ?_ w4.heap.size w3.heap.size w4.heap.size 0 0 m cap [] l (some ⟨g, 0, none⟩) ?_ (OwnS.empty w4) ?_ (hs4.alloc hza4 _) ?_ ?_ ?_)
               · rfl
               · rfl
               · rfl
               · rfl
               · first | (simp; done) | (simp; omega)
               · omega
               intro g5 cap5 w5 hown5 hg5 hat5
               (simp only [Nat.zero_add, List.nil_append] at hown5 ⊢)
               (have hlt5 : g < w4.heap.size := by omega)
               (have hc5 : w5.cell? ⟨g, 0, none⟩ = some (.string s) := (hg5.cell_far ⟨g, 0, none⟩ (by simp; omega) (by simp; omega)).trans ((World.cell?_alloc_lt w4 _ _ hlt5).trans hc4))
               (have hb5 : Below w4.heap.size w4 w5 := ((Below.refl _ _).alloc (Nat.le_refl _) _).grown hg5 (by simp) (by intro k hk; injection hk with hk; omega))
               (have hgl5 := hown5.lt)
               have hz5 := hb5.size
               clear hat5)
            | ((with_reducible refine step_append_texts ?_ (.tmp 31) (.tmp 32) ?_ w4.heap.size w3.heap.size w4.heap.size 0 0 m cap [] l (some ⟨g, 0, none⟩) ?_ ((OwnS.empty w4).below ((Below.refl _ _).alloc (Nat.le_refl _) _)) ?_ ((hs4.alloc hza4 _).alloc (Nat.le_trans hza4 (by simp)) _) ?_ ?_ ?_)
               · rfl
               · rfl
               · rfl
               · rfl
               · first | (simp; done) | (simp; omega)
               · omega
               intro g5 cap5 w5 hown5 hg5 hat5
               simp only [Nat.zero_add, List.nil_append] at hown5 ⊢
               have hlt5 : g < w4.heap.size := by omega
               have hb5 : Below w4.heap.size w4 w5 := (((Below.refl _ _).alloc (Nat.le_refl _) _).alloc (by simp) _).grown hg5 (by first | (simp; done) | (simp; omega)) (by intro k hk; injection hk with hk; omega)
               have hc5 : w5.cell? ⟨g, 0, none⟩ = some (.string s) := (hb5.cell hlt5).trans hc4
               have hgl5 := hown5.lt
               have hz5 := hb5.size
               have hone5 := strs_second_grown hsz hg5
               clear hat5)
            | ((with_reducible refine step_append_texts ?_ (.tmp 33) (.tmp 37) ?_ w4.heap.size (w5.heap.size + 1) g5 m cap5 1 1 l [s] (some ⟨w5.heap.size, 0, none⟩) ?_ (hown5.below ((Below.refl _ _).alloc (Nat.le_refl _) _)) ?_ (Strs.one w5 s hsz) ?_ ?_ ?_)
               · rfl
               · rfl
               · rfl
               · rfl
               · first | (simp; done) | (simp; omega)
               · omega
               intro g6 cap6 w6 hown6 hg6 hat6
               have hb6 : Below w4.heap.size w4 w6 := (hb5.alloc hz5 _).grown hg6 (by first | (simp; done) | (simp; omega)) (by intro k hk; injection hk with hk; omega)
               have hc6 : w6.cell? ⟨g, 0, none⟩ = some (.string s) := (hb6.cell hlt5).trans hc4
               have hs6 := hown6.strs)
            | ((with_reducible refine step_append_texts ?_ (.tmp 33) (.tmp 37) ?_ w4.heap.size (w4.heap.size + 2) g5 m cap5 1 1 l [s] (some ⟨w4.heap.size + 1, 0, none⟩) ?_ hown5 ?_ hone5 ?_ ?_ ?_)
               · rfl
               · rfl
               · rfl
               · rfl
               · omega
               · omega
               intro g6 cap6 w6 hown6 hg6 hat6
               have hb6 : Below w4.heap.size w4 w6 := hb5.grown hg6 hz5 (by intro k hk; injection hk with hk; omega)
               have hc6 : w6.cell? ⟨g, 0, none⟩ = some (.string s) := (hb6.cell hlt5).trans hc4
               have hs6 := hown6.strs)
            | (go_at_call 18
               (with_reducible refine (C2.out _ _ w6.heap.size _ _ ?_ ?_).mono ?_)
               · unfold maxLen; omega
               · exact hs6
               rintro e w7 ⟨rfl, hd7⟩
               have hc7 : w7.cell? ⟨g, 0, none⟩ = some (.string s) := (hd7.cell _).trans hc6)
            | ((with_reducible refine step_append_texts ?_ (.tmp 31) (.tmp 32) ?_ w4.heap.size w3.heap.size (w4.heap.size + 1) 0 0 m cap [] l (some ⟨g, 0, none⟩) ?_ (OwnS.empty2 w4 _) ?_ ((hs4.alloc hza4 _).alloc (Nat.le_trans hza4 (by simp)) _) ?_ ?_ ?_)
               · rfl
               · rfl
               · rfl
               · rfl
               · first | (simp; done) | (simp; omega)
               · omega
               intro g5 cap5 w5 hown5 hg5 hat5
               simp only [Nat.zero_add, List.nil_append] at hown5 ⊢
               have hlt5 : g < w4.heap.size := by omega
               have hb5 : Below w4.heap.size w4 w5 := (((Below.refl _ _).alloc (Nat.le_refl _) _).alloc (by simp) _).grown hg5 (by first | (simp; done) | (simp; omega)) (by intro k hk; injection hk with hk; omega)
               have hc5 : w5.cell? ⟨g, 0, none⟩ = some (.string s) := (hb5.cell hlt5).trans hc4
               have hgl5 := hown5.lt
               have hz5 := hb5.size
               have hone5' := strs_first_grown hsz hg5
               clear hat5)
            | ((with_reducible refine step_append_texts ?_ (.tmp 33) (.tmp 37) ?_ w4.heap.size (w4.heap.size + 1) g5 m cap5 1 1 l [s] (some ⟨w4.heap.size, 0, none⟩) ?_ hown5 ?_ hone5' ?_ ?_ ?_)
               · rfl
               · rfl
               · rfl
               · rfl
               · omega
               · omega
               intro g6 cap6 w6 hown6 hg6 hat6
               have hb6 : Below w4.heap.size w4 w6 := hb5.grown hg6 hz5 (by intro k hk; injection hk with hk; omega)
               have hc6 : w6.cell? ⟨g, 0, none⟩ = some (.string s) := (hb6.cell hlt5).trans hc4
               have hs6 := hown6.strs)
            | fail)
        all_goals
          go_wp2_with fail
          go_ret
          exact ⟨rfl, (hb4.trans (hb6.mono hb4.size)).trans ((hd7.below (B := w6.heap.size)).mono (Nat.le_trans hb4.size hb6.size))⟩
end Go.Proofs.Ytmlokccdgajamaa
