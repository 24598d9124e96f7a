/- Contract of the program's EditScript. -/
import Derived.Test.YtmdmjhnjhelccaaImplTable
import Derived.Test.YtmdmjhnjhelccaaEsSpec
import Derived.Test.YtmdmjhnjhelccaaLwScript
import Derived.Test.YtmdmjhnjhelccaaMarkEd
namespace Go.Proofs.Ytmdmjhnjhelccaa
open Go.RowKit
set_option maxHeartbeats 3200000
set_option linter.unusedSimpArgs false
set_option linter.unusedVariables false

/-- append of one change onto a row of the call's own, or onto none -/
theorem wp_append_chg3 {ops : Array Oper} {rest : List Oper} {o : Oper} {a : Act} {w : World} {Q : Exit → Act → World → Prop} (hgd : o.guard = none) (s x : Operand)
    (ho : o.op = .call { callee := .builtin .append, args := #[s, x], argTypes := #[35, 35] })
    (base : Nat) (A : Option Addr) (n cap c h : Nat) (l : List Chg) (e : Chg) (hs : a.eval s = .slice A n cap) (hown : OwnS3 w base A n cap l) (hx : a.eval x = .slice (some ⟨h, 0, none⟩) 1 c)
    (hv : w.cell? ⟨h, 0, none⟩ = some (.int .i64 e.k)) (hv1 : w.cell? ⟨h, 1, none⟩ = some (.int .i64 e.p)) (hv2 : w.cell? ⟨h, 2, none⟩ = some (.int .u8 (e.c.toNat : Int))) (hb : base ≤ w.heap.size) (hsm : n + 1 ≤ 1000000000)
    (hk : ∀ g' cap' w', OwnS3 w' base (some ⟨g', 0, none⟩) (n + 1) cap' (l ++ [e]) → w.grownBy w' (Value.slice A n cap).ownBlock → ((Value.slice A n cap).ownBlock = some g' ∨ g' = w.heap.size) →
      wpList Try.prog ops Q rest (a.put o.dst (.slice (some ⟨g', 0, none⟩) (n + 1) cap')) w') : wpList Try.prog ops Q (o :: rest) a w := by
  obtain ⟨i0, hi0, hz0, hz1, hz2⟩ := info_parts chg_info
  have hnews : ∀ j u, (chgCells e)[j]? = some u → w.cell? ((⟨h, 0, none⟩ : Addr).add j) = some u := by
    intro j u hu
    match j, hu with
    | 0, hu => simp [chgCells] at hu; subst hu; simpa [Addr.add] using hv
    | 1, hu => simp [chgCells] at hu; subst hu; simpa [Addr.add] using hv1
    | 2, hu => simp [chgCells] at hu; subst hu; simpa [Addr.add] using hv2
    | j + 3, hu => simp [chgCells] at hu
  obtain ⟨v', w', hr, h2, h3, h4, h5⟩ := run_append_own_at (P := Try.prog) w base 35 o.type 24 i0 _ 3 24 Try.underlying35 hi0 hz0 hz1 hz2 rfl (by omega) _ n _ hown ⟨h, 0, none⟩ 1 c (chgCells e) rfl hnews (by simp [chgCells, Value.oneCell']) (by unfold maxLen; omega) (by omega) hb
  have h2' : w'.ownsRow base 24 3 v' (n + 1) (rowCells (l ++ [e])) := by rw [rowCells_append]; simpa [rowCells] using h2
  rcases h2'.2 with ⟨hx0, h0⟩ | ⟨g', cap', cur, hx0, r⟩
  · omega
  · subst hx0
    have hk2 := hk g' cap' w' h2' h3 (by
      rcases h5 with h5 | h5
      · exact .inl h5.symm
      · right; simpa [Value.ownBlock] using h5)
    refine wpList_plain hgd fun K hK => ?_
    unfold Oper.wp execOp
    simp only [ho, resolve, invoke, builtin, Sem.run_bind, Sem.run_pure, Result.andThen_ok, List.map_toArray, List.map_cons, List.map_nil, hs, hx, hr]
    exact hK _ _ hk2
theorem OwnS3.alloc {w : World} {base n cap : Nat} {A : Option Addr} {l : List Chg} (h : OwnS3 w base A n cap l) (o : Obj) : OwnS3 (w.alloc o) base A n cap l := h.below ((Below.refl _ _).alloc (Nat.le_refl _) _)
theorem OwnS3.drawn {w w' : World} {base n cap : Nat} {A : Option Addr} {l : List Chg} (h : OwnS3 w base A n cap l) (hd : Drawn w w') : OwnS3 w' base A n cap l := h.below hd.below
theorem OwnS3.nil (w : World) (base : Nat) : OwnS3 w base none 0 0 [] := ⟨rfl, .inl ⟨rfl, rfl⟩⟩

/-- behind an append: the row, the table, what lay below -/
theorem appended {w W w6 : World} {B g g6 n cap cap6 : Nat} {A : Option Addr} {f : Nat → Int} {o : Obj} (hbel : Below B w W) (hB : B ≤ w.heap.size) (hown : ∀ k, (Value.slice A n cap).ownBlock = some k → B ≤ k ∧ k ≠ g)
    (ht : OwnT W B g f) (hg6 : (W.alloc o).grownBy w6 (Value.slice A n cap).ownBlock) (hr : (Value.slice A n cap).ownBlock = some g6 ∨ g6 = (W.alloc o).heap.size) :
    OwnT w6 B g f ∧ Below B w w6 ∧ (∀ k, (Value.slice (some ⟨g6, 0, none⟩) (n + 1) cap6).ownBlock = some k → B ≤ k ∧ k ≠ g) := by
  have hs := hbel.size
  have hlt := ht.lt
  refine ⟨?_, (hbel.alloc (by omega) _).grown hg6 (by simp; omega) (fun j hj => (hown j hj).1), ?_⟩
  · exact (ht.alloc o).block (hg6.block g (by simp; omega) (fun e => (hown g e.symm).2 rfl))
  · intro k hk
    have hk' : g6 = k := by simpa [Value.ownBlock] using hk
    subst hk'
    rcases hr with hr | hr
    · exact hown _ hr
    · subst hr; simp; omega

theorem scr_done (a b : List UInt8) : scr a b 0 0 = [] := by rw [scr, dif_pos ⟨rfl, rfl⟩]
theorem tab_cell {a b : ByteArray} {f : Nat → Int} {w : World} {B g : Nat} (h : OwnT w B g f) (hT : TabOf a b f) (ha : a.size ≤ 12) (hb : b.size ≤ 12) (n m : Nat) (hn : n ≤ a.size) (hm : m ≤ b.size) : w.cell? ⟨g, n * 13 + m, none⟩ = some (.int .i64 (dist a b n m : Int)) := by
  rw [h.at_ (by omega), hT n m hn hm]
theorem getD_at (b : ByteArray) (m : Nat) (hm : m < b.size) : b.data.toList.getD m 0 = b[m] := by rw [List.getD_eq_getElem?_getD, get_eq b m hm]; rfl

set_option maxRecDepth 100000 in
theorem editScript_impl : ScriptOwnC := by
  intro a b w ha hb
  have ha' := ha
  have hb' := hb
  unfold maxLen at ha hb
  cases hva : wordB a.data.toList
  · have HE := Lib.hid (show scriptE a.data.toList b.data.toList = [] by unfold scriptE; rw [hva]; rfl)
    have HA := Lib.hid hva
    clear hva
    go_enter Try.func23, Try.ntmps23
    go_wp2_with fail
    refine (wordValid_impl_is HA.out _ ha').mono ?_
    rintro e w' ⟨rfl, rfl⟩
    go_wp2_with fail
    go_ret
    exact ⟨none, 0, 0, rfl, by rw [HE.out]; exact OwnS3.nil _ _, Below.refl _ _⟩
  · cases hvb : wordB b.data.toList
    · have HE := Lib.hid (show scriptE a.data.toList b.data.toList = [] by unfold scriptE; rw [hvb]; simp)
      have HA := Lib.hid hva
      have HB := Lib.hid hvb
      clear hva hvb
      go_enter Try.func23, Try.ntmps23
      go_wp2_with fail
      refine (wordValid_impl_is HA.out _ ha').mono ?_
      rintro e w' ⟨rfl, rfl⟩
      go_wp2_with fail
      refine (wordValid_impl_is HB.out _ hb').mono ?_
      rintro e w' ⟨rfl, rfl⟩
      go_wp2_with fail
      go_ret
      exact ⟨none, 0, 0, rfl, by rw [HE.out]; exact OwnS3.nil _ _, Below.refl _ _⟩
    · have HE := Lib.hid (show scriptE a.data.toList b.data.toList = script a.data.toList b.data.toList by unfold scriptE; rw [hva, hvb]; rfl)
      have ha2 := word_size hva
      have hb2 := word_size hvb
      have HA := Lib.hid hva
      have HB := Lib.hid hvb
      have hz := (zero_of_info tab_info).1
      rw [tab_zero] at hz
      clear hva hvb
      go_enter Try.func23, Try.ntmps23
      go_wp2_with fail
      refine (wordValid_impl_is HA.out _ ha').mono ?_
      rintro e w' ⟨rfl, rfl⟩
      go_wp2_with fail
      refine (wordValid_impl_is HB.out _ hb').mono ?_
      rintro e w' ⟨rfl, rfl⟩
      go_wp2_with fail
      refine (tableOf_any a b _ ha2 hb2).mono ?_
      rintro e w1 ⟨f, rfl, hT, hb1⟩
      have hz1 := hb1.size
      go_wp2_with (with_reducible refine wp_store_tab rfl (.tmp 5) (.tmp 20) rfl w.heap.size w1.heap.size (fun _ => 0) f rfl rfl (OwnT.zero_at rfl hz1) ?_)
      have HT := Lib.hid hT
      have hown0 : OwnT ((w1.alloc (.cells (tab fun x => 0) 69)).setRow w1.heap.size (tab f)) w.heap.size w1.heap.size f := (OwnT.zero_at rfl hz1).rowed
      have hbel0 : Below w.heap.size w ((w1.alloc (.cells (tab fun x => 0) 69)).setRow w1.heap.size (tab f)) := below_setRow (hb1.alloc hz1 _) hz1 _
      have HI := Lib.hid (show [] ++ scr a.data.toList b.data.toList a.size b.size = script a.data.toList b.data.toList by simp [script])
      clear hT hz hb1
      generalize (w1.alloc (.cells (tab fun x => 0) 69)).setRow w1.heap.size (tab f) = w2 at *
      generalize w1.heap.size = g at *
      go_loopw [6, 7, 8] (fun s i j wr => ∃ (n m q cap : Nat) (A : Option Addr) (out : List Chg), n ≤ a.size ∧ m ≤ b.size ∧ q + n + m ≤ 24 ∧ i = .int .i64 n ∧ j = .int .i64 m ∧ s = .slice A q cap ∧
        Hid (out ++ scr a.data.toList b.data.toList n m = script a.data.toList b.data.toList) ∧ OwnS3 wr w.heap.size A q cap out ∧ Hid (∀ k, (Value.slice A q cap).ownBlock = some k → w.heap.size ≤ k ∧ k ≠ g) ∧ OwnT wr w.heap.size g f ∧ Below w.heap.size w wr) (fun _ i j _ => (intOf i).toNat + (intOf j).toNat)
      case atStart => exact ⟨a.size, b.size, 0, 0, none, [], Nat.le_refl _, Nat.le_refl _, by omega, rfl, rfl, rfl, HI, OwnS3.nil _ _, Lib.hid (fun k hk => by simp [Value.ownBlock] at hk), hown0, hbel0⟩
      case round =>
        clear hown0 hbel0 HI
        obtain ⟨n, m, q, cap, A, out, hn, hm, hq, rfl, rfl, rfl, HS, hown, HR, ht, hbel⟩ := hrel
        by_cases hn0 : n = 0
        · subst hn0
          by_cases hm0 : m = 0
          · subst hm0
            have HO := Lib.hid (show out = script a.data.toList b.data.toList by rw [← HS.out, scr_done, List.append_nil])
            go_wp2_with fail
            go_ret
            exact ⟨A, q, cap, rfl, by rw [HE.out, ← HO.out]; exact hown, hbel⟩
          · obtain ⟨m', hm'⟩ : ∃ m', m = m' + 1 := ⟨m - 1, by omega⟩
            have r0 : (0 : Int) < (m : Int) := by omega
            have r5 : 0 < m := by omega
            have r1 : (0 : Int) ≤ (m' : Int) := by omega
            have r2 : (m' : Int) < (b.size : Int) := by omega
            have r3 : (m' : Int) < 13 := by omega
            have r4 : (m : Int) - 1 = (m' : Int) := by omega
            have rw' : IntKind.i64.wrap ((m : Int) - 1) = (m' : Int) := by rw [IntWalk.i64_in _ (by omega)]; omega
            have mb : m' < b.size := by omega
            have d0 : dist a b 0 m = m := dist_top a b hm
            have d1 : dist a b 0 m' = m' := dist_top a b (by omega)
            have hc0 := tab_cell ht HT.out ha2 hb2 0 m (by omega) hm
            have hc1 := tab_cell ht HT.out ha2 hb2 0 m' (by omega) (by omega)
            rw [d0] at hc0
            rw [d1] at hc1
            simp only [Nat.zero_mul, Nat.zero_add] at hc0 hc1
            have HN := Lib.hid (show (out ++ [⟨1, (0 : Int), b[m']⟩]) ++ scr a.data.toList b.data.toList 0 m' = script a.data.toList b.data.toList by
              rw [← HS.out, hm', scr_ins (fun h => absurd h (by omega)) (fun h => absurd h (by omega)) (by
                have e1 : cell false a.data.toList b.data.toList 0 m' = m' := d1
                have e2 : cell false a.data.toList b.data.toList 0 (m' + 1) = m' + 1 := hm' ▸ d0
                rw [e1, e2]), getD_at b m' mb, List.append_assoc]
              rfl)
            have hdd : ((m' : Int) == (m : Int) - 1) = true := by simp; omega
            have m13 : (m : Int) < 13 := by omega
            have m00 : (0 : Int) ≤ (m : Int) := by omega
            have HM := Lib.hid hm'
            clear hm0 hm' d0 d1 HS
            go_wp2_with fail
            go_quiet (fail)
            generalize hW : wr.drewN nq = W
            have hdW : Drawn wr W := ⟨nq, hW.symm⟩
            have hown := hown.drawn hdW
            have ht := ht.drawn hdW
            have hbel := below_step hbel (Nat.le_refl _) hdW.below
            have hc1 := (hdW.cell _).trans hc1
            clear hW hdW hc0
            go_wp2_with
              (at_builtin
               refine wp_append_chg3 rfl (.tmp 107) (.tmp 114) rfl w.heap.size A q cap 1 W.heap.size out ⟨1, 0, b[m']⟩ rfl (hown.alloc _) rfl (World.cell?_alloc_at _ _ _ _ rfl) (World.cell?_alloc_at _ _ _ _ rfl) (World.cell?_alloc_at _ _ _ _ rfl) (by have := hbel.size; simp; omega) (by omega) ?_
               intro g6 cap6 w6 hown6 hg6 hr6)
            obtain ⟨ht6, hb6, HR6⟩ := appended hbel (Nat.le_refl _) HR.out ht hg6 hr6
            go_wp2_with fail
            go_roundw
            case rel => exact ⟨0, m', q + 1, cap6, _, _, Nat.zero_le _, by omega, by have := HM.out; omega, rfl, rfl, rfl, HN, hown6, Lib.hid HR6, ht6, hb6⟩
            case measure => simp [intOf]; have := HM.out; omega
        · obtain ⟨n', hn'⟩ : ∃ n', n = n' + 1 := ⟨n - 1, by omega⟩
          have p0 : (0 : Int) < (n : Int) := by omega
          have p5 : 0 < n := by omega
          have p1 : (0 : Int) ≤ (n' : Int) := by omega
          have p2 : (n' : Int) < (a.size : Int) := by omega
          have p3 : (n' : Int) < 13 := by omega
          have p4 : (n : Int) - 1 = (n' : Int) := by omega
          have pw : IntKind.i64.wrap ((n : Int) - 1) = (n' : Int) := by rw [IntWalk.i64_in _ (by omega)]; omega
          have na : n' < a.size := by omega
          have n13 : (n : Int) < 13 := by omega
          have m13 : (m : Int) < 13 := by omega
          have n00 : (0 : Int) ≤ (n : Int) := by omega
          have m00 : (0 : Int) ≤ (m : Int) := by omega
          by_cases hm0 : m = 0
          · subst hm0
            have d0 : dist a b n 0 = n := dist_left a b hn
            have d1 : dist a b n' 0 = n' := dist_left a b (by omega)
            have hc0 := tab_cell ht HT.out ha2 hb2 n 0 hn (by omega)
            have hc1 := tab_cell ht HT.out ha2 hb2 n' 0 (by omega) (by omega)
            rw [d0] at hc0
            rw [d1] at hc1
            simp only [Nat.add_zero] at hc0 hc1
            have HN := Lib.hid (show (out ++ [⟨2, (n' : Int), 0⟩]) ++ scr a.data.toList b.data.toList n' 0 = script a.data.toList b.data.toList by
              rw [← HS.out, hn', scr_del (fun h => absurd h (by omega)) (by
                have e1 : cell false a.data.toList b.data.toList n' 0 = n' := d1
                have e2 : cell false a.data.toList b.data.toList (n' + 1) 0 = n' + 1 := hn' ▸ d0
                rw [e1, e2]), List.append_assoc]
              rfl)
            have hdd : ((n' : Int) == (n : Int) - 1) = true := by simp; omega
            have HM := Lib.hid hn'
            clear hn0 hn' d0 d1 HS
            go_wp2_with fail
            go_quiet (fail)
            generalize hW : wr.drewN nq = W
            have hdW : Drawn wr W := ⟨nq, hW.symm⟩
            have hown := hown.drawn hdW
            have ht := ht.drawn hdW
            have hbel := below_step hbel (Nat.le_refl _) hdW.below
            have hc1 := (hdW.cell _).trans hc1
            clear hW hdW hc0
            go_wp2_with
              (at_builtin
               refine wp_append_chg3 rfl (.tmp 86) (.tmp 90) rfl w.heap.size A q cap 1 W.heap.size out ⟨2, (n' : Int), 0⟩ rfl (hown.alloc _) rfl (World.cell?_alloc_at _ _ _ _ rfl) (World.cell?_alloc_at _ _ _ _ rfl) (World.cell?_alloc_at _ _ _ _ rfl) (by have := hbel.size; simp; omega) (by omega) ?_
               intro g6 cap6 w6 hown6 hg6 hr6)
            obtain ⟨ht6, hb6, HR6⟩ := appended hbel (Nat.le_refl _) HR.out ht hg6 hr6
            go_wp2_with fail
            go_roundw
            case rel => exact ⟨n', 0, q + 1, cap6, _, _, by omega, Nat.zero_le _, by have := HM.out; omega, rfl, rfl, rfl, HN, hown6, Lib.hid HR6, ht6, hb6⟩
            case measure => simp [intOf]; have := HM.out; omega
          · obtain ⟨m', hm'⟩ : ∃ m', m = m' + 1 := ⟨m - 1, by omega⟩
            have r0 : (0 : Int) < (m : Int) := by omega
            have r5 : 0 < m := by omega
            have r1 : (0 : Int) ≤ (m' : Int) := by omega
            have r2 : (m' : Int) < (b.size : Int) := by omega
            have r3 : (m' : Int) < 13 := by omega
            have r4 : (m : Int) - 1 = (m' : Int) := by omega
            have rw' : IntKind.i64.wrap ((m : Int) - 1) = (m' : Int) := by rw [IntWalk.i64_in _ (by omega)]; omega
            have mb : m' < b.size := by omega
            have hc0 := tab_cell ht HT.out ha2 hb2 n m hn hm
            have hc1 := tab_cell ht HT.out ha2 hb2 n' m (by omega) hm
            have hc2 := tab_cell ht HT.out ha2 hb2 n m' hn (by omega)
            have l0 := dist_le a b n m
            obtain ⟨d, hd⟩ : ∃ d, dist a b n m = d := ⟨_, rfl⟩
            obtain ⟨d1, hd1⟩ : ∃ d, dist a b n' m = d := ⟨_, rfl⟩
            obtain ⟨d2, hd2⟩ : ∃ d, dist a b n m' = d := ⟨_, rfl⟩
            have hwd : IntKind.i64.wrap ((d : Int) - 1) = (d : Int) - 1 := IntWalk.i64_in _ (by omega)
            rw [hd] at hc0
            rw [hd1] at hc1
            rw [hd2] at hc2
            have e0 : cell false a.data.toList b.data.toList (n' + 1) (m' + 1) = d := by rw [← hn', ← hm']; exact hd
            have e1 : cell false a.data.toList b.data.toList n' (m' + 1) = d1 := by rw [← hm']; exact hd1
            have e2 : cell false a.data.toList b.data.toList (n' + 1) m' = d2 := by rw [← hn']; exact hd2
            clear hd hd1 hd2
            cases h3 : ((a[n'].toNat : Int) == b[m'].toNat)
            · have hne : a.data.toList[n']? ≠ b.data.toList[m']? := by rw [get_eq a n' na, get_eq b m' mb]; intro e; injection e with e; rw [e] at h3; simp at h3
              by_cases q1 : d1 + 1 = d
              · have HN := Lib.hid (show (out ++ [⟨2, (n' : Int), 0⟩]) ++ scr a.data.toList b.data.toList n' m = script a.data.toList b.data.toList by
                  rw [← HS.out, hn', hm', scr_del (fun _ => by simpa using hne) (by rw [e1, e0, q1]), List.append_assoc]
                  rfl)
                have hdd : ((d1 : Int) == (d : Int) - 1) = true := by simp; omega
                have HM := Lib.hid hn'
                clear hn0 hm0 hn' hm' HS hne e0 e1 e2 q1
                go_wp2_with fail
                go_quiet (fail)
                generalize hW : wr.drewN nq = W
                have hdW : Drawn wr W := ⟨nq, hW.symm⟩
                have hown := hown.drawn hdW
                have ht := ht.drawn hdW
                have hbel := below_step hbel (Nat.le_refl _) hdW.below

                have hc1 := (hdW.cell _).trans hc1
                clear hW hdW hc0 hc2
                go_wp2_with
                  (at_builtin
                   refine wp_append_chg3 rfl (.tmp 86) (.tmp 90) rfl w.heap.size A q cap 1 W.heap.size out ⟨2, (n' : Int), 0⟩ rfl (hown.alloc _) rfl (World.cell?_alloc_at _ _ _ _ rfl) (World.cell?_alloc_at _ _ _ _ rfl) (World.cell?_alloc_at _ _ _ _ rfl) (by have := hbel.size; simp; omega) (by omega) ?_
                   intro g6 cap6 w6 hown6 hg6 hr6)
                obtain ⟨ht6, hb6, HR6⟩ := appended hbel (Nat.le_refl _) HR.out ht hg6 hr6
                go_wp2_with fail
                go_roundw
                case rel => exact ⟨n', m, q + 1, cap6, _, _, by omega, hm, by have := HM.out; omega, rfl, rfl, rfl, HN, hown6, Lib.hid HR6, ht6, hb6⟩
                case measure => simp [intOf]; have := HM.out; omega
              · have hdd : ((d1 : Int) == (d : Int) - 1) = false := by simp; omega
                by_cases q2 : d2 + 1 = d
                · have HN := Lib.hid (show (out ++ [⟨1, (n : Int), b[m']⟩]) ++ scr a.data.toList b.data.toList n m' = script a.data.toList b.data.toList by
                    rw [← HS.out, hn', hm', scr_ins (fun _ => by simpa using hne) (fun _ => by simpa [e1, e0] using q1) (by rw [e2, e0, q2]), getD_at b m' mb, List.append_assoc]
                    rfl)
                  have hdd2 : ((d2 : Int) == (d : Int) - 1) = true := by simp; omega
                  have HM := Lib.hid hm'
                  clear hn0 hm0 hn' hm' HS hne e0 e1 e2 q1 q2
                  go_wp2_with fail
                  go_quiet (fail)
                  generalize hW : wr.drewN nq = W
                  have hdW : Drawn wr W := ⟨nq, hW.symm⟩
                  have hown := hown.drawn hdW
                  have ht := ht.drawn hdW
                  have hbel := below_step hbel (Nat.le_refl _) hdW.below

                  have hc1 := (hdW.cell _).trans hc1
                  have hc2 := (hdW.cell _).trans hc2
                  clear hW hdW hc0
                  go_wp2_with
                    (at_builtin
                     refine wp_append_chg3 rfl (.tmp 107) (.tmp 114) rfl w.heap.size A q cap 1 W.heap.size out ⟨1, (n : Int), b[m']⟩ rfl (hown.alloc _) rfl (World.cell?_alloc_at _ _ _ _ rfl) (World.cell?_alloc_at _ _ _ _ rfl) (World.cell?_alloc_at _ _ _ _ rfl) (by have := hbel.size; simp; omega) (by omega) ?_
                     intro g6 cap6 w6 hown6 hg6 hr6)
                  obtain ⟨ht6, hb6, HR6⟩ := appended hbel (Nat.le_refl _) HR.out ht hg6 hr6
                  go_wp2_with fail
                  go_roundw
                  case rel => exact ⟨n, m', q + 1, cap6, _, _, hn, by omega, by have := HM.out; omega, rfl, rfl, rfl, HN, hown6, Lib.hid HR6, ht6, hb6⟩
                  case measure => simp [intOf]; have := HM.out; omega
                · have HN := Lib.hid (show (out ++ [⟨3, (n' : Int), b[m']⟩]) ++ scr a.data.toList b.data.toList n' m' = script a.data.toList b.data.toList by
                    rw [← HS.out, hn', hm', scr_rep hne (by rw [e1, e0]; exact q1) (by rw [e2, e0]; exact q2), getD_at b m' mb, List.append_assoc]
                    rfl)
                  have hdd2 : ((d2 : Int) == (d : Int) - 1) = false := by simp; omega
                  have HM := Lib.hid hm'
                  have HM2 := Lib.hid hn'
                  clear hn0 hm0 hn' hm' HS hne e0 e1 e2 q1 q2
                  go_wp2_with fail
                  go_quiet (fail)
                  generalize hW : wr.drewN nq = W
                  have hdW : Drawn wr W := ⟨nq, hW.symm⟩
                  have hown := hown.drawn hdW
                  have ht := ht.drawn hdW
                  have hbel := below_step hbel (Nat.le_refl _) hdW.below

                  have hc1 := (hdW.cell _).trans hc1
                  have hc2 := (hdW.cell _).trans hc2
                  clear hW hdW hc0
                  go_wp2_with
                    (at_builtin
                     refine wp_append_chg3 rfl (.tmp 37) (.tmp 45) rfl w.heap.size A q cap 1 W.heap.size out ⟨3, (n' : Int), b[m']⟩ rfl (hown.alloc _) rfl (World.cell?_alloc_at _ _ _ _ rfl) (World.cell?_alloc_at _ _ _ _ rfl) (World.cell?_alloc_at _ _ _ _ rfl) (by have := hbel.size; simp; omega) (by omega) ?_
                     intro g6 cap6 w6 hown6 hg6 hr6)
                  obtain ⟨ht6, hb6, HR6⟩ := appended hbel (Nat.le_refl _) HR.out ht hg6 hr6
                  go_wp2_with fail
                  go_roundw
                  case rel => exact ⟨n', m', q + 1, cap6, _, _, by omega, by omega, by have := HM.out; have := HM2.out; omega, rfl, rfl, rfl, HN, hown6, Lib.hid HR6, ht6, hb6⟩
                  case measure => simp [intOf]; have := HM.out; have := HM2.out; omega
            · have HN := Lib.hid (show out ++ scr a.data.toList b.data.toList n' m' = script a.data.toList b.data.toList by
                rw [← HS.out, hn', hm', scr_both (by rw [get_eq a n' na, get_eq b m' mb, u8_eq h3])])
              have HM := Lib.hid hm'
              have HM2 := Lib.hid hn'
              clear hn0 hm0 hn' hm' HS e0 e1 e2
              go_wp2_with fail
              go_quiet (fail)
              generalize hW : wr.drewN nq = W
              have hdW : Drawn wr W := ⟨nq, hW.symm⟩
              have hown := hown.drawn hdW
              have ht := ht.drawn hdW
              have hbel := below_step hbel (Nat.le_refl _) hdW.below

              clear hW hdW hc0 hc1 hc2
              go_wp2_with fail
              go_roundw
              case rel => exact ⟨n', m', q, cap, A, out, by omega, by omega, by have := HM.out; have := HM2.out; omega, rfl, rfl, rfl, HN, hown, HR, ht, hbel⟩
              case measure => simp [intOf]; have := HM.out; have := HM2.out; omega
end Go.Proofs.Ytmdmjhnjhelccaa
