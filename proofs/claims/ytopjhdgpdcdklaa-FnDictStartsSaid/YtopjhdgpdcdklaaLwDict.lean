/- The walks of the laws of chapter 6, over contracts of the program and of the drawings. -/
import Derived.Test.YtopjhdgpdcdklaaLwItems
import Derived.Test.YtopjhdgpdcdklaaShared
namespace Go.Proofs.Ytopjhdgpdcdklaa
open Go.RowKit
set_option maxHeartbeats 1600000
set_option linter.unusedSimpArgs false
set_option linter.unusedVariables false

/-- a drawn dictionary, or what stands for one -/
def SmallD (d : List Item) : Prop := d.length ≤ 64 ∧ ∀ x ∈ d, x.1.size ≤ 13 ∧ 0 ≤ x.2 ∧ x.2 ≤ 1000001
def ItemsPost (w : World) (e : Ending) (w' : World) : Prop :=
  ∃ (g m cap : Nat) (d : List Item), e = .returned (.slice (some ⟨g, 0, none⟩) m cap) ∧ OwnItems w' w.heap.size (some ⟨g, 0, none⟩) m cap d ∧ SmallD d ∧ Below w.heap.size w w'
def AskedPost (w : World) (e : Ending) (w' : World) : Prop :=
  ∃ (g m cap : Nat) (d : List Item) (s : ByteArray), e = .returned (.tuple #[.slice (some ⟨g, 0, none⟩) m cap, .string s]) ∧ OwnItems w' w.heap.size (some ⟨g, 0, none⟩) m cap d ∧ SmallD d ∧ s.size ≤ 13 ∧ Below w.heap.size w w'
def MorePost (w : World) (e : Ending) (w' : World) : Prop :=
  ∃ (g m cap : Nat) (d : List Item) (s : ByteArray) (x : Int), e = .returned (.tuple #[.slice (some ⟨g, 0, none⟩) m cap, .string s, .int .i64 x]) ∧ OwnItems w' w.heap.size (some ⟨g, 0, none⟩) m cap d ∧ SmallD d ∧ s.size ≤ 13 ∧ 0 ≤ x ∧ x ≤ 1000001 ∧ Below w.heap.size w w'
def DrawnC (f : Nat) (post : World → Ending → World → Prop) : Prop := ∀ (A : Option Addr) (n c : Nat) (w : World), Bytes w w.heap.size A n → n ≤ c → c ≤ maxLen → Calls Try.prog f #[.slice A n c] w (post w)
theorem dictValidC_is (HC : DictValidC) {d : List Item} {v : Bool} (hv : dictB d = v) (A : Option Addr) (n c B : Nat) (w : World) (hn : n ≤ 1048576) (hnc : n ≤ c) (hc : c ≤ maxLen) (h : Items w B A n d) (hB : B ≤ w.heap.size) :
    Calls Try.prog 17 #[.slice A n c] w fun e w' => e = .returned (.bool v) ∧ Below w.heap.size w w' := hv ▸ HC A n c B d w hn hnc hc h hB

theorem walkFnDictValid (HD : DrawnC 16 ItemsPost) (HC : DictValidC) (A : Option Addr) (n c : Nat) (w : World) (h : Bytes w w.heap.size A n) (hnc : n ≤ c) (hc : c ≤ maxLen) :
    Calls Try.prog 3 #[.slice A n c] w fun e w' => e = .returned (.bool true) ∧ Below w.heap.size w w' := by
  have HD := Lib.hid HD
  have HC := Lib.hid HC
  have hn : n ≤ maxLen := Nat.le_trans hnc hc
  unfold maxLen at hn
  by_cases hn2 : (1048576 : Int) < n
  · go_enter Try.func3, Try.ntmps3
    go_wp2_with fail
    go_ret
    exact ⟨rfl, Below.refl _ _⟩
  · go_enter Try.func3, Try.ntmps3
    go_wp2_with fail
    refine (HD.out _ _ _ _ h hnc hc).mono ?_
    clear h
    rintro e w1 ⟨g, m, cap, d, rfl, own, hsm, B1⟩
    obtain ⟨hmc, hcm⟩ := own.caps
    have hl := own.len
    have hm : m ≤ 1048576 := by have := hsm.1; omega
    have H := own.recs
    have z1 := B1.size
    clear own
    cases hv : dictB d
    · have CI := Lib.hid (dictValidC_is HC.out hv)
      have CS := Lib.hid (dictValid_spec_is hv)
      clear hv hl hsm
      go_wp2_with fail
      refine (CI.out _ _ _ _ _ hm hmc hcm H (Nat.le_refl _)).mono ?_
      rintro e w2 ⟨rfl, hb⟩
      have H := H.step hb (Nat.le_refl _)
      have B2 := below_step B1 (Nat.le_refl _) hb
      have z2 := hb.size
      clear hb B1
      go_wp2_with fail
      refine (CS.out _ _ _ _ _ hm H z2).mono ?_
      rintro e w3 ⟨rfl, hb⟩
      have B3 := below_step B2 (Nat.le_refl _) hb
      clear hb B2 H
      go_wp2_with fail
      refine (alive_any _).mono ?_
      rintro e w4 ⟨rfl, hd⟩
      go_wp2_with fail
      go_ret
      exact ⟨rfl, below_step B3 (Nat.le_refl _) hd.below⟩
    · have CI := Lib.hid (dictValidC_is HC.out hv)
      have CS := Lib.hid (dictValid_spec_is hv)
      by_cases hm0 : m = 0
      · subst hm0
        clear hv hl hsm
        go_wp2_with fail
        refine (CI.out _ _ _ _ _ hm hmc hcm H (Nat.le_refl _)).mono ?_
        rintro e w2 ⟨rfl, hb⟩
        have H := H.step hb (Nat.le_refl _)
        have B2 := below_step B1 (Nat.le_refl _) hb
        have z2 := hb.size
        clear hb B1
        go_wp2_with fail
        refine (CS.out _ _ _ _ _ hm H z2).mono ?_
        rintro e w3 ⟨rfl, hb⟩
        have B3 := below_step B2 (Nat.le_refl _) hb
        clear hb B2 H
        go_wp2_with fail
        refine (alive_any _).mono ?_
        rintro e w4 ⟨rfl, hd⟩
        go_wp2_with fail
        go_ret
        exact ⟨rfl, below_step B3 (Nat.le_refl _) hd.below⟩
      · have hmp : 0 < m := by omega
        obtain ⟨⟨s, x⟩, hx⟩ : ∃ x, d[0]? = some x := ⟨_, List.getElem?_eq_getElem (by omega)⟩
        have hss : s.size ≤ maxLen := by have := (hsm.2 _ (List.mem_of_getElem? hx)).1; unfold maxLen; simp only at this; omega
        have hbad : dictB (d.set 0 (s, (0 : Int))) = false := dict_bad (x := (s, (0 : Int))) (List.mem_iff_getElem?.2 ⟨0, by rw [List.getElem?_set_self (by omega)]⟩) (show countB 0 = false by decide)
        have hmid : m / 2 < m := by omega
        have htd : (m : Int).tdiv 2 = ((m / 2 : Nat) : Int) := rfl
        generalize m / 2 = mid at hmid htd
        have hpart := dict_part hv mid
        have hwk := IntWalk.i64_in (mid : Int) (by omega)
        have CB := Lib.hid (dictValidC_is HC.out hbad)
        have CP := Lib.hid (dictValidC_is HC.out hpart)
        have HO := Lib.hid (fun W : World => items_empty W)
        have HX := Lib.hid hx
        have hmi : (0 : Int) < (m : Int) := by omega
        have hm64 : m ≤ 64 := by have := hsm.1; omega
        clear hv hbad hpart hx hsm hl hm0
        go_wp2_with fail
        refine (CI.out _ _ _ _ _ hm hmc hcm H (Nat.le_refl _)).mono ?_
        rintro e w2 ⟨rfl, hb⟩
        have H := H.step hb (Nat.le_refl _)
        have B2 := below_step B1 (Nat.le_refl _) hb
        have z2 := hb.size
        clear hb B1
        go_wp2_with fail
        refine (CS.out _ _ _ _ _ hm H z2).mono ?_
        rintro e w3 ⟨rfl, hb⟩
        have H := H.step hb z2
        have B3 := below_step B2 (Nat.le_refl _) hb
        have z3 := hb.size
        clear hb B2
        go_wp2_with
          (at_builtin
           refine wp_append_recs (R := itemR) rfl (.tmp 25) (.tmp 26) rfl w3.heap.size w1.heap.size 0 0 m cap (some ⟨w3.heap.size, 0, none⟩) (some ⟨g, 0, none⟩) [] d rfl (HO.out w3) rfl (H.step ((Below.refl _ _).alloc (Nat.le_refl _) _) (by omega)) (by simp) (by omega) ?_
           intro A6 cap6 w6 hown6 hg6 hr6 hne6
           have hb6 : Below w3.heap.size w3 w6 := below_append ((Below.refl _ _).alloc (Nat.le_refl _) _) (by simp) (HO.out w3) (Nat.le_refl _) hg6
           simp only [Nat.zero_add, List.nil_append] at hown6 ⊢
           obtain ⟨g6, rfl, hgl6⟩ : ∃ g6, A6 = some ⟨g6, 0, none⟩ ∧ w3.heap.size ≤ g6 := by
             rcases hown6.shape with ⟨e, _, _⟩ | ⟨g6, e, hg, _⟩
             · exact absurd e (hne6 (by simp))
             · exact ⟨g6, e, hg⟩
           clear hg6 hr6 hne6
           have z6 := hb6.size
           have c1 := hown6.at_ (i := 1) HX.out rfl
           have f1 := hown6.frozen (0 * 2 + 1)
           have own7 := hown6.stored (i := 1) (e' := (s, (0 : Int))) (v := .int .i64 0) HX.out (by show 1 < 2; omega) rfl ⟨hss, by unfold I64; simp only; omega⟩
           change w6.cell? ⟨g6, 0 * 2 + 1, none⟩ = some (.int .i64 x) at c1
           change OwnItems (w6.setCell ⟨g6, 0 * 2 + 1, none⟩ (.int .i64 0)) w3.heap.size (some ⟨g6, 0, none⟩) m cap6 (d.set 0 (s, (0 : Int))) at own7
           simp only [Nat.zero_mul, Nat.zero_add] at c1 f1 own7
           have hb7 : Below w3.heap.size w3 (w6.setCell ⟨g6, 1, none⟩ (.int .i64 0)) := hb6.setCell hgl6 _
           have H := H.step hb7 (by omega)
           have B7 := below_step B3 (Nat.le_refl _) hb7
           have HN := own7.recs
           have hcut : Items (w6.setCell ⟨g6, 1, none⟩ (.int .i64 0)) w1.heap.size (some ⟨g, mid * 2, none⟩) (m - mid) (d.drop mid) := by have := H.tail (k := mid) (by omega); rwa [Nat.zero_add] at this
           have z7 : w6.heap.size ≤ (w6.setCell ⟨g6, 1, none⟩ (.int .i64 0)).heap.size := by simp [World.setCell]
           obtain ⟨hmc6, hcm6⟩ := own7.caps
           clear hown6 hb6 hb7 B3 own7
           have hmne : ¬ cap = mid := by omega
           have hk0 : (0 : Int) ≤ ((mid : Nat) : Int) := by omega
           have hk1 : ((mid : Nat) : Int) ≤ (m : Int) := by omega
           have hk2 : ((mid : Nat) : Int) ≤ (cap : Int) := by omega)
        with_reducible refine (CP.out _ (m - mid) (cap - mid) w1.heap.size _ (by omega) (by omega) (by omega) hcut (by omega)).mono ?_
        rintro e w8 ⟨rfl, hb⟩
        have HN := HN.step hb (Nat.le_refl _)
        have B8 := below_step B7 (Nat.le_refl _) hb
        have z8 := hb.size
        clear hb B7 H hcut
        go_wp2_with fail
        refine (CB.out _ _ _ _ _ hm hmc6 hcm6 HN z8).mono ?_
        rintro e w9 ⟨rfl, hb⟩
        have B9 := below_step B8 (Nat.le_refl _) hb
        go_wp2_with fail
        go_ret
        exact ⟨rfl, B9⟩
end Go.Proofs.Ytopjhdgpdcdklaa
