/- Contract of the model's l1Insert. -/
import Derived.Test.YtmolphaihapkkaaOwn
import Derived.Test.YtmolphaihapkkaaOrd
namespace Go.Proofs.Ytmolphaihapkkaa
open Go.RowKit
set_option maxHeartbeats 800000
set_option linter.unusedSimpArgs false
set_option linter.unusedVariables false

/-- where x is put: behind the last text that is less, seen from the end -/
def atFrom (x : ByteArray) (l : List ByteArray) : Nat → Nat
  | 0 => 0
  | k + 1 => match l[k]? with
    | some y => if ltS y x then k + 1 else atFrom x l k
    | none => 0
def insOf (x : ByteArray) (l : List ByteArray) : List ByteArray :=
  if l[atFrom x l l.length]? = some x then l else (l.take (atFrom x l l.length) ++ [x]) ++ l.drop (atFrom x l l.length)
theorem atFrom_le (x : ByteArray) (l : List ByteArray) : ∀ k, atFrom x l k ≤ k
  | 0 => Nat.le_refl _
  | k + 1 => by
    unfold atFrom
    cases l[k]? with
    | none => simp
    | some y =>
      simp only
      split
      · exact Nat.le_refl _
      · exact Nat.le_succ_of_le (atFrom_le x l k)
theorem atFrom_stop {x y : ByteArray} {l : List ByteArray} {k : Nat} (hy : l[k]? = some y) (h : ltS y x = true) : atFrom x l (k + 1) = k + 1 := by simp [atFrom, hy, h]
theorem atFrom_on {x y : ByteArray} {l : List ByteArray} {k : Nat} (hy : l[k]? = some y) (h : ltS y x = false) : atFrom x l (k + 1) = atFrom x l k := by simp [atFrom, hy, h]

def InsPost (w : World) (base : Nat) (l : List ByteArray) (e : Ending) (w' : World) : Prop :=
  ∃ g n cap, e = .returned (.slice (some ⟨g, 0, none⟩) n cap) ∧ OwnS w' base g n cap l ∧ Below w.heap.size w w'

theorem insert_any (base g n cap : Nat) (l : List ByteArray) (x : ByteArray) (w : World) (hown : OwnS w base g n cap l) (hn : n ≤ 1000000) (hb : base ≤ w.heap.size) (hx : x.size ≤ maxLen) :
    Calls Try.prog 94 #[.slice (some ⟨g, 0, none⟩) n cap, .string x] w (InsPost w base (insOf x l)) := by
  have hs := hown.strs
  have hlen := hown.len
  obtain ⟨hnc, hcm⟩ := hown.caps
  have hgl := hown.lt.2
  unfold maxLen at hcm
  have HL := Lib.hid hlen
  have HO := Lib.hid hown
  clear hlen hown
  -- what is left behind the loop, at the place k
  go_enter Try.func94, Try.ntmps94
  go_wp2_with fail
  go_loop [5] (fun i => ∃ k : Nat, k ≤ n ∧ i = .int .i64 k ∧ Hid (atFrom x l n = atFrom x l k)) (fun i => (intOf i).toNat)
  case atStart => exact ⟨n, Nat.le_refl _, rfl, rfl⟩
  case round =>
    obtain ⟨k, hk, rfl, HK⟩ := hrel
    by_cases hgo : ∃ m y, k = m + 1 ∧ l[m]? = some y ∧ ltS y x = false
    · obtain ⟨m, y, rfl, hy, hlt⟩ := hgo
      have hc := hs.cell hy
      rw [Nat.zero_add] at hc
      have hlt' : Op.bytesLess y.toList x.toList = false := hlt
      have HN := Lib.hid (show atFrom x l n = atFrom x l m by rw [HK.out, atFrom_on hy hlt])
      clear hlt hy HK
      go_wp2_with fail
      go_round
      case rel => exact ⟨m, by omega, by go_num, HN.out⟩
      case measure => simp [intOf]
    · have hat : atFrom x l n = k := by
        rw [HK.out]
        cases k with
        | zero => rfl
        | succ m =>
          have hm : l[m]? = some (l[m]'(by rw [HL.out]; omega)) := List.getElem?_eq_getElem _
          cases hlt : ltS (l[m]'(by rw [HL.out]; omega)) x with
          | false => exact absurd ⟨m, _, rfl, hm, hlt⟩ hgo
          | true => exact atFrom_stop hm hlt
      -- the loop's test says no
      have htest : k = 0 ∨ ∃ m y, k = m + 1 ∧ l[m]? = some y ∧ ltS y x = true := by
        cases k with
        | zero => exact .inl rfl
        | succ m =>
          have hm : l[m]? = some (l[m]'(by rw [HL.out]; omega)) := List.getElem?_eq_getElem _
          cases hlt : ltS (l[m]'(by rw [HL.out]; omega)) x with
          | false => exact absurd ⟨m, _, rfl, hm, hlt⟩ hgo
          | true => exact .inr ⟨m, _, rfl, hm, hlt⟩
      have HAT := Lib.hid hat
      clear hat HK hgo
      rcases htest with rfl | ⟨m, y, rfl, hy, hlt⟩
      · skip
        by_cases hkn : 0 < n
        · obtain ⟨z, hz⟩ : ∃ z, l[0]? = some z := ⟨_, List.getElem?_eq_getElem (by rw [HL.out]; exact hkn)⟩
          have hcz := hs.cell hz
          rw [Nat.zero_add] at hcz
          have hbq := str_beq z x
          by_cases hzx : z = x
          · have hbe : (z.toList == x.toList) = true := by rw [hbq, decide_eq_true hzx]
            have hfin : insOf x l = l := by unfold insOf; rw [HL.out, HAT.out, if_pos (by rw [hz, hzx])]
            have HF := Lib.hid hfin
            clear hfin hbq hzx hz
            go_wp2_with fail
            go_ret
            exact ⟨g, n, cap, rfl, by rw [HF.out]; exact HO.out, Below.refl _ _⟩
          · have hbe : (z.toList == x.toList) = false := by rw [hbq, decide_eq_false hzx]
            have HNE := Lib.hid (show ¬ l[0]? = some x by rw [hz]; intro e; injection e with e; exact hzx e)
            clear hbq hzx hz
            have hlt0 : l.length = n := HL.out
            have hins : insOf x l = ((List.take 0 l) ++ [x]) ++ (List.drop 0 l) := by
              unfold insOf
              rw [hlt0, HAT.out, if_neg HNE.out]
            have HI := Lib.hid hins
            have hba : Below w.heap.size w (w.alloc (.cells #[] 9)) := (Below.refl _ _).alloc (Nat.le_refl _) _
            clear hins hlt0
            have ht := (hs.below hba).tail (k := 0) (by omega)
            rw [Nat.zero_add] at ht
            have hcap' : 0 < cap := by omega
            go_wp2_with (first
              | (at_builtin
                 refine wp_append_texts rfl (.tmp 35) (.tmp 38) rfl w.heap.size w.heap.size w.heap.size 0 0 n cap [] (List.drop 0 l) _ rfl (OwnS.empty w) rfl ht (by simp) (by omega) ?_
                 intro g1 cap1 w1 hown1 hg1 hat1
                 simp only [Nat.zero_add, List.nil_append] at hown1 ⊢
                 have hb1 : Below w.heap.size w w1 := hba.grown hg1 (by simp) (by intro k hk; injection hk with hk; omega)
                 have hgl1 := hown1.lt
                 have hba1 : Below w1.heap.size w1 (w1.alloc (.cells #[] 9)) := (Below.refl _ _).alloc (Nat.le_refl _) _
                 have hh1 := ((hs.below hb1).head (k := 0) (by omega)).below (hba1.mono hb1.size)
                 clear hg1 hat1)
              | (at_builtin
                 refine wp_append_texts rfl (.tmp 40) (.tmp 43) rfl w1.heap.size w.heap.size w1.heap.size 0 0 0 _ [] (List.take 0 l) _ rfl (OwnS.empty w1) rfl hh1 (by simp) (by omega) ?_
                 intro g2 cap2 w2 hown2 hg2 hat2
                 simp only [Nat.zero_add, List.nil_append] at hown2 ⊢
                 have hb2 : Below w1.heap.size w1 w2 := hba1.grown hg2 (by simp) (by intro k hk; injection hk with hk; omega)
                 have hgl2 := hown2.lt
                 have hba2 : Below w2.heap.size w2 (w2.alloc (.cells #[.string x] 9)) := (Below.refl _ _).alloc (Nat.le_refl _) _
                 have hz2 := hb2.size
                 clear hg2 hat2)
              | (at_builtin
                 refine wp_append_texts rfl (.tmp 44) (.tmp 46) rfl w1.heap.size (w2.heap.size + 1) g2 0 cap2 1 1 (List.take 0 l) [x] (some ⟨w2.heap.size, 0, none⟩) rfl (hown2.below hba2) rfl (Strs.one w2 x hx) (by simp; omega) (by omega) ?_
                 intro g3 cap3 w3 hown3 hg3 hat3
                 have hb3 : Below w1.heap.size w1 w3 := (below_step hb2 (Nat.le_refl _) hba2).grown hg3 (by simp; omega) (by intro k hk; injection hk with hk; omega)
                 have hgl3 := hown3.lt
                 have hz3 := hb3.size
                 have hs3 := (hown1.strs.below hb3)
                 clear hg3 hat3)
              | (at_builtin
                 refine wp_append_texts rfl (.tmp 47) (.tmp 48) rfl w1.heap.size w1.heap.size g3 (0 + 1) cap3 n cap1 ((List.take 0 l) ++ [x]) (List.drop 0 l) _ rfl hown3 rfl hs3 hz3 (by omega) ?_
                 intro g4 cap4 w4 hown4 hg4 hat4
                 have hb4 : Below w1.heap.size w1 w4 := hb3.grown hg4 hz3 (by intro k hk; injection hk with hk; omega)))
            go_ret
            exact ⟨g4, _, cap4, rfl, by rw [HI.out]; exact hown4.mono (Nat.le_trans hb hb1.size), hb1.trans (hb4.mono hb1.size)⟩
        · have HNE := Lib.hid (show ¬ l[0]? = some x by rw [List.getElem?_eq_none (by rw [HL.out]; omega)]; intro e; cases e)
          have hnk : n = 0 := by omega
          have hlt0 : l.length = n := HL.out
          have hins : insOf x l = ((List.take 0 l) ++ [x]) ++ (List.drop 0 l) := by
            unfold insOf
            rw [hlt0, HAT.out, if_neg HNE.out]
          have HI := Lib.hid hins
          have hba : Below w.heap.size w (w.alloc (.cells #[] 9)) := (Below.refl _ _).alloc (Nat.le_refl _) _
          clear hins hlt0
          have hd0 : l.drop 0 = [] := List.drop_eq_nil_of_le (by rw [HL.out]; omega)
          rw [hd0] at HI
          have ht0 : Strs (w.alloc (.cells #[] 9)) w.heap.size (some ⟨g, 0, none⟩) 0 [] := Strs.nothing _
          have ht1 : Strs (w.alloc (.cells #[] 9)) w.heap.size (some ⟨g, 0, none⟩) 0 [] := Strs.nothing _
          clear hd0 hkn
          subst hnk
          by_cases hcap : cap = 0
          · subst hcap
            go_wp2_with (first
              | (at_builtin
                 refine wp_append_texts rfl (.tmp 35) (.tmp 38) rfl w.heap.size w.heap.size w.heap.size 0 0 0 _ [] [] _ rfl (OwnS.empty w) rfl ht0 (by simp) (by omega) ?_
                 intro g1 cap1 w1 hown1 hg1 hat1
                 simp only [Nat.zero_add, List.nil_append] at hown1 ⊢
                 have hb1 : Below w.heap.size w w1 := hba.grown hg1 (by simp) (by intro k hk; injection hk with hk; omega)
                 have hgl1 := hown1.lt
                 have hba1 : Below w1.heap.size w1 (w1.alloc (.cells #[] 9)) := (Below.refl _ _).alloc (Nat.le_refl _) _
                 have hh1 := ((hs.below hb1).head (k := 0) (by omega)).below (hba1.mono hb1.size)
                 clear hg1 hat1)
              | (at_builtin
                 refine wp_append_texts rfl (.tmp 40) (.tmp 43) rfl w1.heap.size w.heap.size w1.heap.size 0 0 0 _ [] (List.take 0 l) _ rfl (OwnS.empty w1) rfl hh1 (by simp) (by omega) ?_
                 intro g2 cap2 w2 hown2 hg2 hat2
                 simp only [Nat.zero_add, List.nil_append] at hown2 ⊢
                 have hb2 : Below w1.heap.size w1 w2 := hba1.grown hg2 (by simp) (by intro k hk; injection hk with hk; omega)
                 have hgl2 := hown2.lt
                 have hba2 : Below w2.heap.size w2 (w2.alloc (.cells #[.string x] 9)) := (Below.refl _ _).alloc (Nat.le_refl _) _
                 have hz2 := hb2.size
                 clear hg2 hat2)
              | (at_builtin
                 refine wp_append_texts rfl (.tmp 44) (.tmp 46) rfl w1.heap.size (w2.heap.size + 1) g2 0 cap2 1 1 (List.take 0 l) [x] (some ⟨w2.heap.size, 0, none⟩) rfl (hown2.below hba2) rfl (Strs.one w2 x hx) (by simp; omega) (by omega) ?_
                 intro g3 cap3 w3 hown3 hg3 hat3
                 have hb3 : Below w1.heap.size w1 w3 := (below_step hb2 (Nat.le_refl _) hba2).grown hg3 (by simp; omega) (by intro k hk; injection hk with hk; omega)
                 have hgl3 := hown3.lt
                 have hz3 := hb3.size
                 have hs3 := (hown1.strs.below hb3)
                 clear hg3 hat3)
              | (at_builtin
                 refine wp_append_texts rfl (.tmp 47) (.tmp 48) rfl w1.heap.size w1.heap.size g3 (0 + 1) cap3 0 cap1 ((List.take 0 l) ++ [x]) [] _ rfl hown3 rfl hs3 hz3 (by omega) ?_
                 intro g4 cap4 w4 hown4 hg4 hat4
                 have hb4 : Below w1.heap.size w1 w4 := hb3.grown hg4 hz3 (by intro k hk; injection hk with hk; omega)))
            go_ret
            exact ⟨g4, _, cap4, rfl, by rw [HI.out]; exact hown4.mono (Nat.le_trans hb hb1.size), hb1.trans (hb4.mono hb1.size)⟩
          · have hcap' : 0 < cap := by omega
            go_wp2_with (first
              | (at_builtin
                 refine wp_append_texts rfl (.tmp 35) (.tmp 38) rfl w.heap.size w.heap.size w.heap.size 0 0 0 _ [] [] _ rfl (OwnS.empty w) rfl ht1 (by simp) (by omega) ?_
                 intro g1 cap1 w1 hown1 hg1 hat1
                 simp only [Nat.zero_add, List.nil_append] at hown1 ⊢
                 have hb1 : Below w.heap.size w w1 := hba.grown hg1 (by simp) (by intro k hk; injection hk with hk; omega)
                 have hgl1 := hown1.lt
                 have hba1 : Below w1.heap.size w1 (w1.alloc (.cells #[] 9)) := (Below.refl _ _).alloc (Nat.le_refl _) _
                 have hh1 := ((hs.below hb1).head (k := 0) (by omega)).below (hba1.mono hb1.size)
                 clear hg1 hat1)
              | (at_builtin
                 refine wp_append_texts rfl (.tmp 40) (.tmp 43) rfl w1.heap.size w.heap.size w1.heap.size 0 0 0 _ [] (List.take 0 l) _ rfl (OwnS.empty w1) rfl hh1 (by simp) (by omega) ?_
                 intro g2 cap2 w2 hown2 hg2 hat2
                 simp only [Nat.zero_add, List.nil_append] at hown2 ⊢
                 have hb2 : Below w1.heap.size w1 w2 := hba1.grown hg2 (by simp) (by intro k hk; injection hk with hk; omega)
                 have hgl2 := hown2.lt
                 have hba2 : Below w2.heap.size w2 (w2.alloc (.cells #[.string x] 9)) := (Below.refl _ _).alloc (Nat.le_refl _) _
                 have hz2 := hb2.size
                 clear hg2 hat2)
              | (at_builtin
                 refine wp_append_texts rfl (.tmp 44) (.tmp 46) rfl w1.heap.size (w2.heap.size + 1) g2 0 cap2 1 1 (List.take 0 l) [x] (some ⟨w2.heap.size, 0, none⟩) rfl (hown2.below hba2) rfl (Strs.one w2 x hx) (by simp; omega) (by omega) ?_
                 intro g3 cap3 w3 hown3 hg3 hat3
                 have hb3 : Below w1.heap.size w1 w3 := (below_step hb2 (Nat.le_refl _) hba2).grown hg3 (by simp; omega) (by intro k hk; injection hk with hk; omega)
                 have hgl3 := hown3.lt
                 have hz3 := hb3.size
                 have hs3 := (hown1.strs.below hb3)
                 clear hg3 hat3)
              | (at_builtin
                 refine wp_append_texts rfl (.tmp 47) (.tmp 48) rfl w1.heap.size w1.heap.size g3 (0 + 1) cap3 0 cap1 ((List.take 0 l) ++ [x]) [] _ rfl hown3 rfl hs3 hz3 (by omega) ?_
                 intro g4 cap4 w4 hown4 hg4 hat4
                 have hb4 : Below w1.heap.size w1 w4 := hb3.grown hg4 hz3 (by intro k hk; injection hk with hk; omega)))
            go_ret
            exact ⟨g4, _, cap4, rfl, by rw [HI.out]; exact hown4.mono (Nat.le_trans hb hb1.size), hb1.trans (hb4.mono hb1.size)⟩
      · have hc := hs.cell hy
        rw [Nat.zero_add] at hc
        have hlt' : Op.bytesLess y.toList x.toList = true := hlt
        clear hlt hy
        by_cases hkn : (m + 1) < n
        · obtain ⟨z, hz⟩ : ∃ z, l[(m + 1)]? = some z := ⟨_, List.getElem?_eq_getElem (by rw [HL.out]; exact hkn)⟩
          have hcz := hs.cell hz
          rw [Nat.zero_add] at hcz
          have hbq := str_beq z x
          by_cases hzx : z = x
          · have hbe : (z.toList == x.toList) = true := by rw [hbq, decide_eq_true hzx]
            have hfin : insOf x l = l := by unfold insOf; rw [HL.out, HAT.out, if_pos (by rw [hz, hzx])]
            have HF := Lib.hid hfin
            clear hfin hbq hzx hz
            go_wp2_with fail
            go_ret
            exact ⟨g, n, cap, rfl, by rw [HF.out]; exact HO.out, Below.refl _ _⟩
          · have hbe : (z.toList == x.toList) = false := by rw [hbq, decide_eq_false hzx]
            have HNE := Lib.hid (show ¬ l[(m + 1)]? = some x by rw [hz]; intro e; injection e with e; exact hzx e)
            clear hbq hzx hz
            have hlt0 : l.length = n := HL.out
            have hins : insOf x l = ((List.take (m + 1) l) ++ [x]) ++ (List.drop (m + 1) l) := by
              unfold insOf
              rw [hlt0, HAT.out, if_neg HNE.out]
            have HI := Lib.hid hins
            have hba : Below w.heap.size w (w.alloc (.cells #[] 9)) := (Below.refl _ _).alloc (Nat.le_refl _) _
            clear hins hlt0
            have ht := (hs.below hba).tail (k := (m + 1)) (by omega)
            rw [Nat.zero_add] at ht
            have hcap' : (m + 1) < cap := by omega
            go_wp2_with (first
              | (at_builtin
                 refine wp_append_texts rfl (.tmp 35) (.tmp 38) rfl w.heap.size w.heap.size w.heap.size 0 0 (n - (m + 1)) (cap - (m + 1)) [] (List.drop (m + 1) l) _ rfl (OwnS.empty w) rfl ht (by simp) (by omega) ?_
                 intro g1 cap1 w1 hown1 hg1 hat1
                 simp only [Nat.zero_add, List.nil_append] at hown1 ⊢
                 have hb1 : Below w.heap.size w w1 := hba.grown hg1 (by simp) (by intro k hk; injection hk with hk; omega)
                 have hgl1 := hown1.lt
                 have hba1 : Below w1.heap.size w1 (w1.alloc (.cells #[] 9)) := (Below.refl _ _).alloc (Nat.le_refl _) _
                 have hh1 := ((hs.below hb1).head (k := (m + 1)) (by omega)).below (hba1.mono hb1.size)
                 clear hg1 hat1)
              | (at_builtin
                 refine wp_append_texts rfl (.tmp 40) (.tmp 43) rfl w1.heap.size w.heap.size w1.heap.size 0 0 (m + 1) _ [] (List.take (m + 1) l) _ rfl (OwnS.empty w1) rfl hh1 (by simp) (by omega) ?_
                 intro g2 cap2 w2 hown2 hg2 hat2
                 simp only [Nat.zero_add, List.nil_append] at hown2 ⊢
                 have hb2 : Below w1.heap.size w1 w2 := hba1.grown hg2 (by simp) (by intro k hk; injection hk with hk; omega)
                 have hgl2 := hown2.lt
                 have hba2 : Below w2.heap.size w2 (w2.alloc (.cells #[.string x] 9)) := (Below.refl _ _).alloc (Nat.le_refl _) _
                 have hz2 := hb2.size
                 clear hg2 hat2)
              | (at_builtin
                 refine wp_append_texts rfl (.tmp 44) (.tmp 46) rfl w1.heap.size (w2.heap.size + 1) g2 (m + 1) cap2 1 1 (List.take (m + 1) l) [x] (some ⟨w2.heap.size, 0, none⟩) rfl (hown2.below hba2) rfl (Strs.one w2 x hx) (by simp; omega) (by omega) ?_
                 intro g3 cap3 w3 hown3 hg3 hat3
                 have hb3 : Below w1.heap.size w1 w3 := (below_step hb2 (Nat.le_refl _) hba2).grown hg3 (by simp; omega) (by intro k hk; injection hk with hk; omega)
                 have hgl3 := hown3.lt
                 have hz3 := hb3.size
                 have hs3 := (hown1.strs.below hb3)
                 clear hg3 hat3)
              | (at_builtin
                 refine wp_append_texts rfl (.tmp 47) (.tmp 48) rfl w1.heap.size w1.heap.size g3 ((m + 1) + 1) cap3 (n - (m + 1)) cap1 ((List.take (m + 1) l) ++ [x]) (List.drop (m + 1) l) _ rfl hown3 rfl hs3 hz3 (by omega) ?_
                 intro g4 cap4 w4 hown4 hg4 hat4
                 have hb4 : Below w1.heap.size w1 w4 := hb3.grown hg4 hz3 (by intro k hk; injection hk with hk; omega)))
            go_ret
            exact ⟨g4, _, cap4, rfl, by rw [HI.out]; exact hown4.mono (Nat.le_trans hb hb1.size), hb1.trans (hb4.mono hb1.size)⟩
        · have HNE := Lib.hid (show ¬ l[(m + 1)]? = some x by rw [List.getElem?_eq_none (by rw [HL.out]; omega)]; intro e; cases e)
          have hnk : n = (m + 1) := by omega
          have hlt0 : l.length = n := HL.out
          have hins : insOf x l = ((List.take (m + 1) l) ++ [x]) ++ (List.drop (m + 1) l) := by
            unfold insOf
            rw [hlt0, HAT.out, if_neg HNE.out]
          have HI := Lib.hid hins
          have hba : Below w.heap.size w (w.alloc (.cells #[] 9)) := (Below.refl _ _).alloc (Nat.le_refl _) _
          clear hins hlt0
          have hd0 : l.drop (m + 1) = [] := List.drop_eq_nil_of_le (by rw [HL.out]; omega)
          rw [hd0] at HI
          have ht0 : Strs (w.alloc (.cells #[] 9)) w.heap.size (some ⟨g, 0, none⟩) 0 [] := Strs.nothing _
          have ht1 : Strs (w.alloc (.cells #[] 9)) w.heap.size (some ⟨g, (m + 1), none⟩) 0 [] := Strs.nothing _
          clear hd0 hkn
          subst hnk
          by_cases hcap : cap = (m + 1)
          · subst hcap
            go_wp2_with (first
              | (at_builtin
                 refine wp_append_texts rfl (.tmp 35) (.tmp 38) rfl w.heap.size w.heap.size w.heap.size 0 0 0 _ [] [] _ rfl (OwnS.empty w) rfl ht0 (by simp) (by omega) ?_
                 intro g1 cap1 w1 hown1 hg1 hat1
                 simp only [Nat.zero_add, List.nil_append] at hown1 ⊢
                 have hb1 : Below w.heap.size w w1 := hba.grown hg1 (by simp) (by intro k hk; injection hk with hk; omega)
                 have hgl1 := hown1.lt
                 have hba1 : Below w1.heap.size w1 (w1.alloc (.cells #[] 9)) := (Below.refl _ _).alloc (Nat.le_refl _) _
                 have hh1 := ((hs.below hb1).head (k := (m + 1)) (by omega)).below (hba1.mono hb1.size)
                 clear hg1 hat1)
              | (at_builtin
                 refine wp_append_texts rfl (.tmp 40) (.tmp 43) rfl w1.heap.size w.heap.size w1.heap.size 0 0 (m + 1) _ [] (List.take (m + 1) l) _ rfl (OwnS.empty w1) rfl hh1 (by simp) (by omega) ?_
                 intro g2 cap2 w2 hown2 hg2 hat2
                 simp only [Nat.zero_add, List.nil_append] at hown2 ⊢
                 have hb2 : Below w1.heap.size w1 w2 := hba1.grown hg2 (by simp) (by intro k hk; injection hk with hk; omega)
                 have hgl2 := hown2.lt
                 have hba2 : Below w2.heap.size w2 (w2.alloc (.cells #[.string x] 9)) := (Below.refl _ _).alloc (Nat.le_refl _) _
                 have hz2 := hb2.size
                 clear hg2 hat2)
              | (at_builtin
                 refine wp_append_texts rfl (.tmp 44) (.tmp 46) rfl w1.heap.size (w2.heap.size + 1) g2 (m + 1) cap2 1 1 (List.take (m + 1) l) [x] (some ⟨w2.heap.size, 0, none⟩) rfl (hown2.below hba2) rfl (Strs.one w2 x hx) (by simp; omega) (by omega) ?_
                 intro g3 cap3 w3 hown3 hg3 hat3
                 have hb3 : Below w1.heap.size w1 w3 := (below_step hb2 (Nat.le_refl _) hba2).grown hg3 (by simp; omega) (by intro k hk; injection hk with hk; omega)
                 have hgl3 := hown3.lt
                 have hz3 := hb3.size
                 have hs3 := (hown1.strs.below hb3)
                 clear hg3 hat3)
              | (at_builtin
                 refine wp_append_texts rfl (.tmp 47) (.tmp 48) rfl w1.heap.size w1.heap.size g3 ((m + 1) + 1) cap3 0 cap1 ((List.take (m + 1) l) ++ [x]) [] _ rfl hown3 rfl hs3 hz3 (by omega) ?_
                 intro g4 cap4 w4 hown4 hg4 hat4
                 have hb4 : Below w1.heap.size w1 w4 := hb3.grown hg4 hz3 (by intro k hk; injection hk with hk; omega)))
            go_ret
            exact ⟨g4, _, cap4, rfl, by rw [HI.out]; exact hown4.mono (Nat.le_trans hb hb1.size), hb1.trans (hb4.mono hb1.size)⟩
          · have hcap' : (m + 1) < cap := by omega
            go_wp2_with (first
              | (at_builtin
                 refine wp_append_texts rfl (.tmp 35) (.tmp 38) rfl w.heap.size w.heap.size w.heap.size 0 0 0 _ [] [] _ rfl (OwnS.empty w) rfl ht1 (by simp) (by omega) ?_
                 intro g1 cap1 w1 hown1 hg1 hat1
                 simp only [Nat.zero_add, List.nil_append] at hown1 ⊢
                 have hb1 : Below w.heap.size w w1 := hba.grown hg1 (by simp) (by intro k hk; injection hk with hk; omega)
                 have hgl1 := hown1.lt
                 have hba1 : Below w1.heap.size w1 (w1.alloc (.cells #[] 9)) := (Below.refl _ _).alloc (Nat.le_refl _) _
                 have hh1 := ((hs.below hb1).head (k := (m + 1)) (by omega)).below (hba1.mono hb1.size)
                 clear hg1 hat1)
              | (at_builtin
                 refine wp_append_texts rfl (.tmp 40) (.tmp 43) rfl w1.heap.size w.heap.size w1.heap.size 0 0 (m + 1) _ [] (List.take (m + 1) l) _ rfl (OwnS.empty w1) rfl hh1 (by simp) (by omega) ?_
                 intro g2 cap2 w2 hown2 hg2 hat2
                 simp only [Nat.zero_add, List.nil_append] at hown2 ⊢
                 have hb2 : Below w1.heap.size w1 w2 := hba1.grown hg2 (by simp) (by intro k hk; injection hk with hk; omega)
                 have hgl2 := hown2.lt
                 have hba2 : Below w2.heap.size w2 (w2.alloc (.cells #[.string x] 9)) := (Below.refl _ _).alloc (Nat.le_refl _) _
                 have hz2 := hb2.size
                 clear hg2 hat2)
              | (at_builtin
                 refine wp_append_texts rfl (.tmp 44) (.tmp 46) rfl w1.heap.size (w2.heap.size + 1) g2 (m + 1) cap2 1 1 (List.take (m + 1) l) [x] (some ⟨w2.heap.size, 0, none⟩) rfl (hown2.below hba2) rfl (Strs.one w2 x hx) (by simp; omega) (by omega) ?_
                 intro g3 cap3 w3 hown3 hg3 hat3
                 have hb3 : Below w1.heap.size w1 w3 := (below_step hb2 (Nat.le_refl _) hba2).grown hg3 (by simp; omega) (by intro k hk; injection hk with hk; omega)
                 have hgl3 := hown3.lt
                 have hz3 := hb3.size
                 have hs3 := (hown1.strs.below hb3)
                 clear hg3 hat3)
              | (at_builtin
                 refine wp_append_texts rfl (.tmp 47) (.tmp 48) rfl w1.heap.size w1.heap.size g3 ((m + 1) + 1) cap3 0 cap1 ((List.take (m + 1) l) ++ [x]) [] _ rfl hown3 rfl hs3 hz3 (by omega) ?_
                 intro g4 cap4 w4 hown4 hg4 hat4
                 have hb4 : Below w1.heap.size w1 w4 := hb3.grown hg4 hz3 (by intro k hk; injection hk with hk; omega)))
            go_ret
            exact ⟨g4, _, cap4, rfl, by rw [HI.out]; exact hown4.mono (Nat.le_trans hb hb1.size), hb1.trans (hb4.mono hb1.size)⟩
end Go.Proofs.Ytmolphaihapkkaa
