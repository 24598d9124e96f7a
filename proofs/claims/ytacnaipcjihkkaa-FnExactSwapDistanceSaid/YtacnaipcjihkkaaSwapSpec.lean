/- Contract of the model's SwapDistance. -/
import Derived.Test.YtacnaipcjihkkaaDistFns
import Derived.Test.YtacnaipcjihkkaaEnds
import Derived.Deep.CutRange
import Derived.Deep.DeepCutAuto
namespace Go.Proofs.Ytacnaipcjihkkaa
open Go.RowKit
set_option maxHeartbeats 1600000
set_option linter.unusedSimpArgs false
set_option linter.unusedVariables false

theorem sdist_edge (a b : ByteArray) (k m : Nat) (hk : k ≤ a.size) (hm : m ≤ b.size) (h : k = 0 ∨ m = 0) : (if k < m then (m : Int) else (k : Int)) = (sdist a b k m : Int) := by
  rcases h with rfl | rfl
  · rw [sdist_top a b hm]; split <;> omega
  · rw [sdist_left a b hk]; split <;> omega
/-- the row outside the table grows by a number, in its place or elsewhere -/
theorem Table.appended {W W' : World} {base gd cap n k g g' : Nat} {f : Nat → Nat → Nat} (h : Table W base gd cap n k g f) (hg : W.grownBy W' (some g)) (hat : g' = g ∨ (g' = W.heap.size ∧ W.grownBy W' none)) : Table W' base gd cap n k g' f := by
  rcases hat with rfl | ⟨rfl, hn⟩
  · exact h.grown hg
  · exact (h.new (Nat.le_refl _)).below ((Below.refl _ _).grown hn (Nat.le_refl _) (by simp))

theorem cell_new (w : World) (v : Value) (t : TypeId) : (w.alloc (.cells #[v] t)).cell? ⟨w.heap.size, 0, none⟩ = some v := by rw [cell_of_row _ _ 0 _ _ _ (heap_alloc_new w _)]; rfl
theorem wp_max_int {ops : Array Oper} {rest : List Oper} {o : Oper} {a : Act} {w : World} {Q : Exit → Act → World → Prop} (hgd : o.guard = none) (x y : Operand)
    (ho : o.op = .call { callee := .builtin .max, args := #[x, y], argTypes := #[3, 3] }) (m n : Int) (hx : a.eval x = .int .i64 m) (hy : a.eval y = .int .i64 n)
    (hk : ∀ v : Int, Hid (v = if m < n then n else m) → wpList Try.prog ops Q rest (a.put o.dst (.int .i64 v)) w) : wpList Try.prog ops Q (o :: rest) a w := by
  refine wpList_plain hgd fun K hK => ?_
  have h2 := hK _ _ (hk _ (Lib.hid rfl))
  clear hK hk
  unfold Oper.wp execOp
  simp only [ho, resolve, invoke, builtin, Sem.run_bind, Sem.run_pure, Result.andThen_ok, List.map_toArray, List.map_cons, List.map_nil, hx, hy]
  by_cases hmn : m < n
  · simp only [if_pos hmn] at h2
    go_simp
    exact h2
  · simp only [if_neg hmn] at h2
    go_simp
    exact h2

set_option maxRecDepth 100000 in
theorem swapDistance_spec (a b : ByteArray) (w : World) (ha : a.size ≤ maxLen) (hb : b.size ≤ maxLen) :
    Calls Try.prog 19 #[.string a, .string b] w fun e w' => e = .returned (.int .i64 (twoI (fun x y => (ed true x y : Int)) a.data.toList b.data.toList)) ∧ Below w.heap.size w w' := by
  have ha' := ha
  have hb' := hb
  unfold maxLen at ha hb
  cases hva : wordB a.data.toList
  · have HN := Lib.hid (twoI_no (f := fun x y => (ed true x y : Int)) (a := a.data.toList) (b := b.data.toList) (by rw [hva]; rfl))
    have HA := Lib.hid hva
    clear hva
    go_enter Try.func19, Try.ntmps19
    go_wp2_with fail
    refine (wordValid_spec _ _ ha').mono ?_
    rintro e w' ⟨rfl, rfl⟩
    rw [HA.out]
    go_wp2_with fail
    go_ret
    exact ⟨ret_int HN.out.symm, Below.refl _ _⟩
  · cases hvb : wordB b.data.toList
    · have HN := Lib.hid (twoI_no (f := fun x y => (ed true x y : Int)) (a := a.data.toList) (b := b.data.toList) (by rw [hva, hvb]; rfl))
      have HA := Lib.hid hva
      have HB := Lib.hid hvb
      clear hva hvb
      go_enter Try.func19, Try.ntmps19
      go_wp2_with fail
      refine (wordValid_spec _ _ ha').mono ?_
      rintro e w' ⟨rfl, rfl⟩
      rw [HA.out]
      go_wp2_with fail
      refine (wordValid_spec _ _ hb').mono ?_
      rintro e w' ⟨rfl, rfl⟩
      rw [HB.out]
      go_wp2_with fail
      go_ret
      exact ⟨ret_int HN.out.symm, Below.refl _ _⟩
    · have HN := Lib.hid (twoI_yes (f := fun x y => (ed true x y : Int)) (a := a.data.toList) (b := b.data.toList) (by rw [hva, hvb]; rfl))
      have ha2 := word_size hva
      have hb2 := word_size hvb
      have HA := Lib.hid hva
      have HB := Lib.hid hvb
      clear hva hvb
      go_enter Try.func19, Try.ntmps19
      go_wp2_with fail
      refine (wordValid_spec _ _ ha').mono ?_
      rintro e w' ⟨rfl, rfl⟩
      rw [HA.out]
      go_wp2_with fail
      refine (wordValid_spec _ _ hb').mono ?_
      rintro e w' ⟨rfl, rfl⟩
      rw [HB.out]
      have hb0 : Below w.heap.size w (w.alloc (.cells #[] 40)) := (Below.refl _ _).alloc (Nat.le_refl _) _
      have HT0 := Lib.hid (show Table (w.alloc (.cells #[] 40)) w.heap.size w.heap.size 0 (b.size + 1) 0 (w.alloc (.cells #[] 40)).heap.size (sdist a b) from by have := Table.empty w (b.size + 1) (sdist a b); simpa using this)
      go_wp2_with fail
      go_loopw [5, 6] (fun v i wr => ∃ k gd cap : Nat, k ≤ a.size + 1 ∧ i = .int .i64 (k : Int) ∧ v = .slice (some ⟨gd, 0, none⟩) k cap ∧ Table wr w.heap.size gd cap (b.size + 1) k wr.heap.size (sdist a b) ∧ Below w.heap.size w wr) (fun _ i _ => a.size + 1 - (intOf i).toNat)
      case atStart => exact ⟨0, _, _, Nat.zero_le _, rfl, rfl, HT0.out, hb0⟩
      case round =>
        clear HT0 hb0
        obtain ⟨k, gd, cap, hk, rfl, rfl, htab, hbel⟩ := hrel
        by_cases hlt : k ≤ a.size
        · have hsz := hbel.size
          have ht0 : Table (wr.alloc (.cells #[] 3)) w.heap.size gd cap (b.size + 1) k wr.heap.size (sdist a b) := htab.below ((Below.refl _ _).alloc (Nat.le_refl _) _)
          have hr0 : OwnI (wr.alloc (.cells #[] 3)) w.heap.size wr.heap.size 0 0 (upto (sdist a b k) 0) := (OwnI.empty wr).mono hsz
          have HT := Lib.hid ht0
          have HR := Lib.hid hr0
          have hb1 := hbel.alloc hsz (.cells #[] 3)
          clear ht0 hr0 htab hbel
          go_wp2_with fail
          go_loopw [7, 8] (fun v i wr => ∃ m g c : Nat, m ≤ b.size + 1 ∧ i = .int .i64 (m : Int) ∧ v = .slice (some ⟨g, 0, none⟩) m c ∧ OwnI wr w.heap.size g m c (upto (sdist a b k) m) ∧ Table wr w.heap.size gd cap (b.size + 1) k g (sdist a b) ∧ Below w.heap.size w wr) (fun _ i _ => b.size + 1 - (intOf i).toNat)
          case atStart => exact ⟨0, _, _, Nat.zero_le _, rfl, rfl, HR.out, HT.out, hb1⟩
          case round =>
            clear HT HR hb1
            obtain ⟨m, g, c, hm, rfl, rfl, hown, htab, hbel⟩ := hrel
            by_cases hlm : m ≤ b.size
            · have hgl := hown.lt
              have hsz := hbel.size
              have hsucc := upto_succ (sdist a b k) m
              by_cases hedge : k = 0 ∨ m = 0
              · rw [← sdist_edge a b k m hlt hlm hedge] at hsucc
                have HU := Lib.hid hsucc
                clear hsucc
                by_cases hk0 : k = 0
                · have d1 : (k : Int) ≤ 0 := by omega
                  clear hk0 hedge
                  go_wp2_with
                    (at_builtin
                     refine wp_append_int rfl (.tmp 118) (.tmp 120) rfl w.heap.size g m c 1 wr.heap.size (upto (sdist a b k) m) (if k < m then (m : Int) else (k : Int)) rfl (hown.alloc _) rfl ((OwnI.lit wr (if k < m then (m : Int) else (k : Int))).at_ (k := 0) rfl) (by simp; omega) (by omega) ?_
                     intro g6 cap6 w6 hown6 hg6 hat6 hst6)
                  have hb6 : Below w.heap.size w w6 := (hbel.alloc hsz _).grown hg6 (by simp; omega) (by intro j hj; injection hj with hj; omega)
                  have ht6 := (htab.below ((Below.refl _ _).alloc (Nat.le_refl _) (.cells #[.int .i64 (if k < m then (m : Int) else (k : Int))] 3))).appended hg6 hat6
                  rw [← HU.out] at hown6
                  go_roundw
                  case rel => exact ⟨m + 1, g6, cap6, by omega, by go_num, rfl, hown6, ht6, hb6⟩
                  case measure => simp [intOf]; omega
                · have hm0 : m = 0 := by omega
                  have d1 : (0 : Int) < (k : Int) := by omega
                  have d2 : (m : Int) ≤ 0 := by omega
                  have HU2 := HU.out
                  rw [if_neg (show ¬ k < m by omega)] at HU2
                  have HU := Lib.hid HU2
                  clear hk0 hedge hm0 HU2
                  go_wp2_with
                    (at_builtin
                     refine wp_append_int rfl (.tmp 118) (.tmp 120) rfl w.heap.size g m c 1 wr.heap.size (upto (sdist a b k) m) (k : Int) rfl (hown.alloc _) rfl ((OwnI.lit wr (k : Int)).at_ (k := 0) rfl) (by simp; omega) (by omega) ?_
                     intro g6 cap6 w6 hown6 hg6 hat6 hst6)
                  have hb6 : Below w.heap.size w w6 := (hbel.alloc hsz _).grown hg6 (by simp; omega) (by intro j hj; injection hj with hj; omega)
                  have ht6 := (htab.below ((Below.refl _ _).alloc (Nat.le_refl _) (.cells #[.int .i64 (k : Int)] 3))).appended hg6 hat6
                  rw [← HU.out] at hown6
                  go_roundw
                  case rel => exact ⟨m + 1, g6, cap6, by omega, by go_num, rfl, hown6, ht6, hb6⟩
                  case measure => simp [intOf]; omega
              · obtain ⟨k, rfl⟩ : ∃ k', k = k' + 1 := ⟨k - 1, by omega⟩
                obtain ⟨m, rfl⟩ : ∃ m', m = m' + 1 := ⟨m - 1, by omega⟩
                clear hedge
                obtain ⟨g1, c1, hr1, hg1, hg1', hown1⟩ := htab.row (k := k) (by omega)
                have HX := Lib.hid (upto_get (sdist a b k) (show m < b.size + 1 by omega))
                have HY := Lib.hid (upto_get (sdist a b k) (show m + 1 < b.size + 1 by omega))
                have HZ := Lib.hid (upto_get (sdist a b (k + 1)) (show m < m + 1 by omega))
                have l1 := sdist_le a b k m
                have l2 := sdist_le a b k (m + 1)
                have l3 := sdist_le a b (k + 1) m
                have hyes := sdist_yes a b k m (by omega) (by omega)
                have hno := sdist_no a b k m (by omega) (by omega)
                have ka : k < a.size := by omega
                have mb : m < b.size := by omega
                obtain ⟨c0, hc0, hc1, hce⟩ : ∃ c : Nat, ((((a[k].toNat : Int) == b[m].toNat) = true ∧ c = 0) ∨ (((a[k].toNat : Int) == b[m].toNat) = false ∧ c = 1)) ∧ c ≤ 1 ∧ (if a[k] = b[m] then 0 else 1) = c := by
                  by_cases h : a[k] = b[m]
                  · exact ⟨0, .inl ⟨by rw [h]; simp, rfl⟩, by omega, if_pos h⟩
                  · exact ⟨1, .inr ⟨by simp; exact fun e => h (UInt8.toNat_inj.1 (by omega)), rfl⟩, by omega, if_neg h⟩
                rw [hce] at hyes hno
                have HYES := Lib.hid hyes
                have HNO := Lib.hid hno
                have HU := Lib.hid hsucc
                clear hyes hno hce hsucc
                generalize sdist a b k m = x at *
                generalize sdist a b k (m + 1) = y at *
                generalize sdist a b (k + 1) m = z at *
                have hm0 : (0 : Int) ≤ (m : Int) := by omega
                have hm1 : (m : Int) < (b.size : Int) := by omega
                have hk0 : (0 : Int) ≤ (k : Int) := by omega
                have hk1 : (k : Int) < (a.size : Int) := by omega
                have e1 : (0 : Int) < (k : Int) + 1 := by omega
                have e2 : (0 : Int) < (m : Int) + 1 := by omega
                have w1 : IntKind.i64.wrap ((k : Int) + 1 - 1) = (k : Int) := by rw [IntWalk.i64_in _ (by omega)]; omega
                have w2 : IntKind.i64.wrap ((m : Int) + 1 - 1) = (m : Int) := by rw [IntWalk.i64_in _ (by omega)]; omega
                have w3 := IntWalk.i64_in (k : Int) (by omega)
                have w4 := IntWalk.i64_in (m : Int) (by omega)
                have v1 : (k : Int) < (k : Int) + 1 := by omega
                have v2 : (m : Int) < (b.size : Int) + 1 := by omega
                have v3 : (m : Int) + 1 < (b.size : Int) + 1 := by omega
                have v4 : (m : Int) < (m : Int) + 1 := by omega
                have v5 : (0 : Int) ≤ (m : Int) + 1 := by omega
                have v6 : (m : Int) < ((b.size + 1 : Nat) : Int) := by omega
                have v7 : (m : Int) + 1 < ((b.size + 1 : Nat) : Int) := by omega
                have v8 : (k : Int) < ((k + 1 : Nat) : Int) := by omega
                have v9 : (m : Int) < ((m + 1 : Nat) : Int) := by omega
                go_upto_if 41 with (with_reducible refine wp_max_int rfl (.tmp 33) (.tmp 34) rfl _ _ rfl rfl ?_; intro vv hvv; clear hvv)
                go_cut [9] from 27 to 121 (fun s9 wc => s9 = .int .i64 (sdist a b (k + 1) (m + 1) : Int) ∧ OwnI wc w.heap.size g (m + 1) c (upto (sdist a b (k + 1)) (m + 1)) ∧ Table wc w.heap.size gd cap (b.size + 1) (k + 1) g (sdist a b) ∧ Below w.heap.size w wc)
                case first =>
                  go_wp2_with fail
                  go_quiet (fail)
                  generalize hW : wr.drewN nq = W
                  have hdW : Drawn wr W := ⟨nq, hW.symm⟩
                  have hown := hown.drawn hdW
                  have hown1 := hown1.drawn hdW
                  have htab := htab.drawn hdW
                  have hbel := below_step hbel (Nat.le_refl _) hdW.below
                  have hr1 : W.cell? ⟨gd, k, none⟩ = some (.slice (some ⟨g1, 0, none⟩) (b.size + 1) c1) := (hdW.cell _).trans hr1
                  have hc1 : W.cell? ⟨g1, m, none⟩ = some (.int .i64 x) := hown1.at_ HX.out
                  have hc2 : W.cell? ⟨g1, m + 1, none⟩ = some (.int .i64 y) := hown1.at_ HY.out
                  have hc3 : W.cell? ⟨g, m, none⟩ = some (.int .i64 z) := hown.at_ HZ.out
                  clear hW hdW
                  go_upto_if 50 with (fail)
                  go_cut [10] from 27 to 121 (fun s10 wc => s10 = .int .i64 (c0 : Int) ∧ wc = W)
                  case first =>
                    rcases hc0 with ⟨h3, rfl⟩ | ⟨h3, rfl⟩
                    all_goals
                      go_wp2_with fail
                      go_meet
                      case rel => exact ⟨rfl, rfl⟩
                  case rest =>
                    obtain ⟨rfl, rfl⟩ := hcut
                    have x1 := IntWalk.i64_in ((x : Int) + c0) (by omega)
                    go_wp2_with fail
                    go_quiet (fail)
                    rw [show (if z < y then (z : Int) else (y : Int)) = ((min y z : Nat) : Int) by split <;> omega]
                    rw [show (if ((min y z : Nat) : Int) + 1 < (x : Int) + (c0 : Int) then ((min y z : Nat) : Int) + 1 else (x : Int) + (c0 : Int)) = ((min (x + c0) (min y z + 1) : Nat) : Int) by split <;> omega]
                    have hn1 : min (x + c0) (min y z + 1) ≤ 13 := by omega
                    generalize min (x + c0) (min y z + 1) = n1 at *
                    generalize min y z = yz at *
                    generalize hW3 : wc.drewN _ = W3
                    have hdW : Drawn wc W3 := ⟨_, hW3.symm⟩
                    have hown := hown.drawn hdW
                    have htab := htab.drawn hdW
                    have hbel := below_step hbel (Nat.le_refl _) hdW.below
                    clear hW3 hdW hr1 hc1 hc2 hc3 hown1 hgl hsz x1 l1 l2 l3 HX HY HZ w1 w2 w3 w4 v1 v2 v3 v4 v5 v6 v7 v8 v9 hc0 hg1 hg1'
                    cases hx : exchB a b k m
                    · have HV := Lib.hid (HNO.out hx)
                      clear HNO HYES e1 e2 HU
                      by_cases hk0 : k = 0
                      · have hg1 : decide ((1 : Int) < (k : Int) + 1) = false := by simp; omega
                        have hg3 : ¬ (1 : Int) < (k : Int) + 1 := by omega
                        clear hx hk0
                        go_wp2_with fail
                        go_quiet (fail)
                        generalize hW4 : W3.drewN _ = W4
                        have hdW : Drawn W3 W4 := ⟨_, hW4.symm⟩
                        have hown := hown.drawn hdW
                        have htab := htab.drawn hdW
                        have hbel := below_step hbel (Nat.le_refl _) hdW.below
                        clear hW4 hdW
                        go_wp2_with fail
                        all_goals
                          go_meet
                          case rel => exact ⟨by first | (rw [HV.out]; done) | (rw [HV.out]; congr 1; omega), hown, htab, hbel⟩
                      · by_cases hm0 : m = 0
                        · have hg1 : decide ((1 : Int) < (k : Int) + 1) = true := by simp; omega
                          have hg2 : (1 : Int) < (k : Int) + 1 := by omega
                          have hg3 : decide ((1 : Int) < (m : Int) + 1) = false := by simp; omega
                          have hg4 : ¬ (1 : Int) < (m : Int) + 1 := by omega
                          clear hx hk0 hm0
                          go_wp2_with fail
                          go_quiet (fail)
                          generalize hW4 : W3.drewN _ = W4
                          have hdW : Drawn W3 W4 := ⟨_, hW4.symm⟩
                          have hown := hown.drawn hdW
                          have htab := htab.drawn hdW
                          have hbel := below_step hbel (Nat.le_refl _) hdW.below
                          clear hW4 hdW
                          go_wp2_with fail
                          all_goals
                            go_meet
                            case rel => exact ⟨by first | (rw [HV.out]; done) | (rw [HV.out]; congr 1; omega), hown, htab, hbel⟩
                        · obtain ⟨k, rfl⟩ : ∃ k', k = k' + 1 := ⟨k - 1, by omega⟩
                          obtain ⟨m, rfl⟩ : ∃ m', m = m' + 1 := ⟨m - 1, by omega⟩
                          rw [exch_at a b k m (by omega) (by omega)] at hx
                          clear hk0 hm0
                          have hj1 : (0 : Int) ≤ (k : Int) := by omega
                          have hj2 : (k : Int) < (a.size : Int) := by omega
                          have hj3 : (0 : Int) ≤ (m : Int) := by omega
                          have hj4 : (m : Int) < (b.size : Int) := by omega
                          have hj5 : (0 : Int) ≤ (k : Int) + 1 := by omega
                          have hj6 : (k : Int) + 1 < (a.size : Int) := by omega
                          have hj7 : (0 : Int) ≤ (m : Int) + 1 := by omega
                          have hj8 : (m : Int) + 1 < (b.size : Int) := by omega
                          have hg1 : decide ((1 : Int) < (k : Int) + 1 + 1) = true := by simp; omega
                          have hg2 : decide ((1 : Int) < (m : Int) + 1 + 1) = true := by simp; omega
                          have hg3 : (1 : Int) < (k : Int) + 1 + 1 := by omega
                          have hg4 : (1 : Int) < (m : Int) + 1 + 1 := by omega
                          have hz1 : IntKind.i64.wrap ((k : Int) + 1 + 1 - 1) = (k : Int) + 1 := by rw [IntWalk.i64_in _ (by omega)]; omega
                          have hz2 : IntKind.i64.wrap ((k : Int) + 1 + 1 - 2) = (k : Int) := by rw [IntWalk.i64_in _ (by omega)]; omega
                          have hz3 : IntKind.i64.wrap ((m : Int) + 1 + 1 - 1) = (m : Int) + 1 := by rw [IntWalk.i64_in _ (by omega)]; omega
                          have hz4 : IntKind.i64.wrap ((m : Int) + 1 + 1 - 2) = (m : Int) := by rw [IntWalk.i64_in _ (by omega)]; omega
                          have hz5 := IntWalk.i64_in (k : Int) (by omega)
                          have hz6 := IntWalk.i64_in (m : Int) (by omega)
                          have hz7 := IntWalk.i64_in ((k : Int) + 1) (by omega)
                          have hz8 := IntWalk.i64_in ((m : Int) + 1) (by omega)
                          have hy1 : ((k : Int) + 1).toNat = k + 1 := by omega
                          have hy2 : ((m : Int) + 1).toNat = m + 1 := by omega
                          have bb1 : k + 1 < a.size := by omega
                          have bb2 : k < a.size := by omega
                          have bb3 : m + 1 < b.size := by omega
                          have bb4 : m < b.size := by omega
                          cases h1 : ((a[k + 1].toNat : Int) == b[m].toNat)
                          · clear hx
                            go_wp2_with fail
                            go_quiet (fail)
                            generalize hW4 : W3.drewN _ = W4
                            have hdW : Drawn W3 W4 := ⟨_, hW4.symm⟩
                            have hown := hown.drawn hdW
                            have htab := htab.drawn hdW
                            have hbel := below_step hbel (Nat.le_refl _) hdW.below
                            clear hW4 hdW
                            go_wp2_with fail
                            all_goals
                              go_meet
                              case rel => exact ⟨by first | (rw [HV.out]; done) | (rw [HV.out]; congr 1; omega), hown, htab, hbel⟩
                          · have h2 : ((a[k].toNat : Int) == b[m + 1].toNat) = false := by rw [h1] at hx; exact hx
                            clear hx
                            go_wp2_with fail
                            go_quiet (fail)
                            generalize hW4 : W3.drewN _ = W4
                            have hdW : Drawn W3 W4 := ⟨_, hW4.symm⟩
                            have hown := hown.drawn hdW
                            have htab := htab.drawn hdW
                            have hbel := below_step hbel (Nat.le_refl _) hdW.below
                            clear hW4 hdW
                            go_wp2_with fail
                            all_goals
                              go_meet
                              case rel => exact ⟨by first | (rw [HV.out]; done) | (rw [HV.out]; congr 1; omega), hown, htab, hbel⟩
                    · obtain ⟨hkp, hmp, hv⟩ := HYES.out hx
                      obtain ⟨k, rfl⟩ : ∃ k', k = k' + 1 := ⟨k - 1, by omega⟩
                      obtain ⟨m, rfl⟩ : ∃ m', m = m' + 1 := ⟨m - 1, by omega⟩
                      rw [exch_at a b k m (by omega) (by omega)] at hx
                      rw [Nat.add_sub_cancel, Nat.add_sub_cancel] at hv
                      have lq := sdist_le a b k m
                      obtain ⟨g0, c0', hr0, hg0, hg0', hown0⟩ := htab.row (k := k) (by omega)
                      have HQ := Lib.hid (upto_get (sdist a b k) (show m < b.size + 1 by omega))
                      generalize sdist a b k m = q at *
                      have HV := Lib.hid hv
                      clear hkp hmp hv HNO HYES e1 e2 HU
                      have hj1 : (0 : Int) ≤ (k : Int) := by omega
                      have hj2 : (k : Int) < (a.size : Int) := by omega
                      have hj3 : (0 : Int) ≤ (m : Int) := by omega
                      have hj4 : (m : Int) < (b.size : Int) := by omega
                      have hj5 : (0 : Int) ≤ (k : Int) + 1 := by omega
                      have hj6 : (k : Int) + 1 < (a.size : Int) := by omega
                      have hj7 : (0 : Int) ≤ (m : Int) + 1 := by omega
                      have hj8 : (m : Int) + 1 < (b.size : Int) := by omega
                      have hg1 : decide ((1 : Int) < (k : Int) + 1 + 1) = true := by simp; omega
                      have hg2 : decide ((1 : Int) < (m : Int) + 1 + 1) = true := by simp; omega
                      have hg3 : (1 : Int) < (k : Int) + 1 + 1 := by omega
                      have hg4 : (1 : Int) < (m : Int) + 1 + 1 := by omega
                      have hz1 : IntKind.i64.wrap ((k : Int) + 1 + 1 - 1) = (k : Int) + 1 := by rw [IntWalk.i64_in _ (by omega)]; omega
                      have hz2 : IntKind.i64.wrap ((k : Int) + 1 + 1 - 2) = (k : Int) := by rw [IntWalk.i64_in _ (by omega)]; omega
                      have hz3 : IntKind.i64.wrap ((m : Int) + 1 + 1 - 1) = (m : Int) + 1 := by rw [IntWalk.i64_in _ (by omega)]; omega
                      have hz4 : IntKind.i64.wrap ((m : Int) + 1 + 1 - 2) = (m : Int) := by rw [IntWalk.i64_in _ (by omega)]; omega
                      have hz5 := IntWalk.i64_in (k : Int) (by omega)
                      have hz6 := IntWalk.i64_in (m : Int) (by omega)
                      have hz7 := IntWalk.i64_in ((k : Int) + 1) (by omega)
                      have hz8 := IntWalk.i64_in ((m : Int) + 1) (by omega)
                      have hy1 : ((k : Int) + 1).toNat = k + 1 := by omega
                      have hy2 : ((m : Int) + 1).toNat = m + 1 := by omega
                      have bb1 : k + 1 < a.size := by omega
                      have bb2 : k < a.size := by omega
                      have bb3 : m + 1 < b.size := by omega
                      have bb4 : m < b.size := by omega
                      have h1 : ((a[k + 1].toNat : Int) == b[m].toNat) = true := by simp only [Bool.and_eq_true] at hx; exact hx.1
                      have h2 : ((a[k].toNat : Int) == b[m + 1].toNat) = true := by simp only [Bool.and_eq_true] at hx; exact hx.2
                      clear hx
                      go_wp2_with fail
                      go_quiet (fail)
                      generalize hW4 : W3.drewN _ = W4
                      have hdW : Drawn W3 W4 := ⟨_, hW4.symm⟩
                      have hown := hown.drawn hdW
                      have hown0 := hown0.drawn hdW
                      have htab := htab.drawn hdW
                      have hbel := below_step hbel (Nat.le_refl _) hdW.below
                      have hr0 : W4.cell? ⟨gd, k, none⟩ = some (.slice (some ⟨g0, 0, none⟩) (b.size + 1) c0') := (hdW.cell _).trans hr0
                      have hq : W4.cell? ⟨g0, m, none⟩ = some (.int .i64 q) := hown0.at_ HQ.out
                      clear hW4 hdW hown0
                      have u1 : (k : Int) < (k : Int) + 1 + 1 := by omega
                      have u2 : (m : Int) < (b.size : Int) + 1 := by omega
                      have u3 : (m : Int) < ((b.size + 1 : Nat) : Int) := by omega
                      have u4 : (k : Int) < ((k + 1 + 1 : Nat) : Int) := by omega
                      have u5 := IntWalk.i64_in ((q : Int) + 1) (by omega)
                      go_wp2_with fail
                      all_goals
                        go_meet
                        case rel => exact ⟨by first | (rw [HV.out]; done) | (rw [HV.out]; congr 1; omega), hown, htab, hbel⟩
                case rest =>
                  obtain ⟨rfl, hown, htab, hbel⟩ := hcut
                  have hsz := hbel.size
                  have hgl := hown.lt
                  go_wp2_with
                    (at_builtin
                     refine wp_append_int rfl (.tmp 118) (.tmp 120) rfl w.heap.size g (m + 1) c 1 wc.heap.size (upto (sdist a b (k + 1)) (m + 1)) (sdist a b (k + 1) (m + 1) : Int) rfl (hown.alloc _) rfl ((OwnI.lit wc (sdist a b (k + 1) (m + 1) : Int)).at_ (k := 0) rfl) (by simp; omega) (by omega) ?_
                     intro g6 cap6 w6 hown6 hg6 hat6 hst6)
                  have hb6 : Below w.heap.size w w6 := (hbel.alloc hsz _).grown hg6 (by simp; omega) (by intro j hj; injection hj with hj; omega)
                  have ht6 := (htab.below ((Below.refl _ _).alloc (Nat.le_refl _) (.cells #[.int .i64 (sdist a b (k + 1) (m + 1) : Int)] 3))).appended hg6 hat6
                  rw [← HU.out] at hown6
                  go_roundw
                  case rel => (repeat apply Exists.intro); exact ⟨⟨m + 1 + 1, g6, cap6, by omega, by go_num, rfl, hown6, ht6, hb6⟩, rfl⟩
                  case measure => simp [intOf]; omega
            · obtain rfl : m = b.size + 1 := by omega
              obtain ⟨hex, vs, hov, hrs⟩ := htab
              have hsz := hbel.size
              have hgl := hown.lt
              have hgv := hov.lt
              go_wp2_with
                (at_builtin
                 refine wp_append_row rfl (.tmp 122) (.tmp 124) rfl w.heap.size gd k cap 1 wr.heap.size vs (.slice (some ⟨g, 0, none⟩) (b.size + 1) c) rfl (hov.alloc _) rfl (cell_new wr _ _) (by simp; omega) (by omega) rfl ?_
                 intro g6 cap6 w6 hov6 hg6 hat6 hst6)
              have hb6 : Below w.heap.size w w6 := (hbel.alloc hsz _).grown hg6 (by simp; omega) (by intro j hj; injection hj with hj; omega)
              have ht6 := table_push (fun k hk => (by obtain ⟨g', c', h1, h2, h3, h4⟩ := hrs k hk; exact ⟨g', c', h1, h2, h3, h4.alloc _⟩)) hex hov.len (hown.alloc _) hov6 hg6 (by rcases hat6 with h | ⟨h, _⟩; exact .inl h; exact .inr h)
              go_roundw
              case rel => exact ⟨k + 1, g6, cap6, by omega, by go_num, rfl, ht6, hb6⟩
              case measure => simp [intOf]; omega
        · obtain rfl : k = a.size + 1 := by omega
          obtain ⟨g1, c1, hr1, hg1, hg1', hown1⟩ := htab.row (k := a.size) (by omega)
          have hlast := hown1.at_ (upto_get (sdist a b a.size) (show b.size < b.size + 1 by omega))
          rw [sdist_last] at hlast
          have hi0 : (0 : Int) ≤ (b.size : Int) := by omega
          have hi1 : (b.size : Int) < (b.size : Int) + 1 := by omega
          have hi2 : (b.size : Int) < ((b.size + 1 : Nat) : Int) := by omega
          have hi3 : (a.size : Int) < (a.size : Int) + 1 := by omega
          have hi4 : (a.size : Int) < ((a.size + 1 : Nat) : Int) := by omega
          go_wp2_with fail
          go_ret
          exact ⟨ret_int HN.out.symm, hbel⟩
end Go.Proofs.Ytacnaipcjihkkaa
