/- Hits: words with distances, in their order. Plain mathematics, no program in it. -/
import Derived.Test.YtmolphaihapkkaaOrd
import Derived.Test.YtmolphaihapkkaaDist
namespace Go.Proofs.Ytmolphaihapkkaa
open Go.RowKit
set_option linter.unusedSimpArgs false
set_option linter.unusedVariables false

abbrev Hit := ByteArray × Int
def noHit : Hit := (⟨#[]⟩, 0)
/-- a hit comes before another one -/
def beforeH (a b : Hit) : Bool := decide (a.2 < b.2) || (decide (a.2 = b.2) && ltS a.1 b.1)
def hitB (h : Hit) : Bool := filledS h.1 && (decide (0 ≤ h.2) && decide (h.2 ≤ 4))
def ascHB : List Hit → Bool
  | s :: t :: r => beforeH s t && ascHB (t :: r)
  | _ => true
def hitsB (l : List Hit) : Bool := l.all hitB && ascHB l
def ascH (l : List Hit) : Prop := l.Pairwise fun a b => beforeH a b = true

theorem beforeH_irrefl (a : Hit) : beforeH a a = false := by unfold beforeH; rw [ltS_irrefl]; simp
theorem beforeH_trans {a b c : Hit} (h : beforeH a b = true) (k : beforeH b c = true) : beforeH a c = true := by
  unfold beforeH at *
  simp only [Bool.or_eq_true, Bool.and_eq_true, decide_eq_true_eq] at *
  rcases h with h | ⟨h1, h2⟩ <;> rcases k with k | ⟨k1, k2⟩
  · left; omega
  · left; omega
  · left; omega
  · right; exact ⟨by omega, ltS_trans h2 k2⟩
theorem beforeH_tri {a b : Hit} (h : beforeH a b = false) (hne : a ≠ b) : beforeH b a = true := by
  unfold beforeH at *
  simp only [Bool.or_eq_false_iff, Bool.and_eq_false_iff, decide_eq_false_iff_not] at h
  simp only [Bool.or_eq_true, Bool.and_eq_true, decide_eq_true_eq]
  obtain ⟨h1, h2⟩ := h
  by_cases e : a.2 = b.2
  · right
    refine ⟨e.symm, ?_⟩
    rcases h2 with h2 | h2
    · exact absurd e h2
    · exact ltS_tri h2 fun q => hne (Prod.ext q e)
  · left; omega
theorem beforeH_ne {a b : Hit} (h : beforeH a b = true) : a ≠ b := by rintro rfl; rw [beforeH_irrefl] at h; cases h
theorem beforeH_asymm {a b : Hit} (h : beforeH a b = true) : beforeH b a = false := by
  cases h2 : beforeH b a
  · rfl
  · have := beforeH_trans h h2; rw [beforeH_irrefl] at this; cases this
theorem ascHB_iff : ∀ {l : List Hit}, ascHB l = true ↔ ascH l
  | [] => by simp [ascHB, ascH]
  | [s] => by simp [ascHB, ascH]
  | s :: t :: r => by
    unfold ascHB ascH
    rw [Bool.and_eq_true, ascHB_iff, List.pairwise_cons]
    constructor
    · rintro ⟨h1, h2⟩
      refine ⟨fun x hx => ?_, h2⟩
      rcases List.mem_cons.1 hx with rfl | hx
      · exact h1
      · exact beforeH_trans h1 ((List.pairwise_cons.1 h2).1 x hx)
    · rintro ⟨h1, h2⟩
      exact ⟨h1 t List.mem_cons_self, h2⟩
theorem hits_parts {l : List Hit} (h : hitsB l = true) : (∀ x ∈ l, hitB x = true) ∧ ascH l := by
  unfold hitsB at h
  rw [Bool.and_eq_true, List.all_eq_true, ascHB_iff] at h
  exact h
theorem hits_of {l : List Hit} (h1 : ∀ x ∈ l, hitB x = true) (h2 : ascH l) : hitsB l = true := by
  unfold hitsB
  rw [Bool.and_eq_true, List.all_eq_true, ascHB_iff]
  exact ⟨h1, h2⟩
theorem hits_bad {l : List Hit} {x : Hit} (hx : x ∈ l) (h : hitB x = false) : hitsB l = false := by
  rw [Bool.eq_false_iff]; intro e
  rw [(hits_parts e).1 x hx] at h; cases h
theorem hits_asc_bad {l : List Hit} {j : Nat} {x y : Hit} (hx : l[j]? = some x) (hy : l[j + 1]? = some y) (h : beforeH x y = false) : hitsB l = false := by
  rw [Bool.eq_false_iff]; intro e
  have h2 := (hits_parts e).2
  unfold ascH at h2
  rw [List.pairwise_iff_getElem] at h2
  obtain ⟨a1, rfl⟩ := List.getElem?_eq_some_iff.1 hx
  obtain ⟨a2, rfl⟩ := List.getElem?_eq_some_iff.1 hy
  rw [h2 j (j + 1) a1 a2 (by omega)] at h; cases h
theorem asc_adj {l : List Hit} (h : ∀ j x y, l[j]? = some x → l[j + 1]? = some y → beforeH x y = true) : ascH l := by
  rw [← ascHB_iff]
  induction l with
  | nil => rfl
  | cons a l ih =>
    cases l with
    | nil => rfl
    | cons b l =>
      unfold ascHB
      rw [Bool.and_eq_true]
      exact ⟨h 0 a b rfl rfl, ih fun j x y hx hy => h (j + 1) x y (by simpa using hx) (by simpa using hy)⟩
theorem hits_take {l : List Hit} (h : hitsB l = true) (k : Nat) : hitsB (l.take k) = true :=
  hits_of (fun x hx => (hits_parts h).1 x (List.mem_of_mem_take hx)) ((hits_parts h).2.sublist (List.take_sublist _ _))
theorem hits_drop {l : List Hit} (h : hitsB l = true) (k : Nat) : hitsB (l.drop k) = true :=
  hits_of (fun x hx => (hits_parts h).1 x (List.mem_of_mem_drop hx)) ((hits_parts h).2.sublist (List.drop_sublist _ _))
theorem hits_twice {l : List Hit} {x : Hit} (hx : x ∈ l) : hitsB (l ++ [x]) = false := by
  rw [Bool.eq_false_iff]; intro e
  have h2 := (hits_parts e).2
  unfold ascH at h2
  rw [List.pairwise_append] at h2
  have := h2.2.2 x hx x (List.mem_singleton.2 rfl)
  rw [beforeH_irrefl] at this; cases this
theorem asc_ext : ∀ l1 l2 : List Hit, ascH l1 → ascH l2 → (∀ x, x ∈ l1 ↔ x ∈ l2) → l1 = l2
  | [], [], _, _, _ => rfl
  | [], b :: m, _, _, h => absurd ((h b).2 List.mem_cons_self) (by simp)
  | a :: l, [], _, _, h => absurd ((h a).1 List.mem_cons_self) (by simp)
  | a :: l, b :: m, h1, h2, h => by
    have h1' := List.pairwise_cons.1 h1
    have h2' := List.pairwise_cons.1 h2
    have hab : a = b := by
      rcases List.mem_cons.1 ((h a).1 List.mem_cons_self) with e | ha
      · exact e
      · rcases List.mem_cons.1 ((h b).2 List.mem_cons_self) with e | hb
        · exact e.symm
        · have := beforeH_trans (h1'.1 b hb) (h2'.1 a ha)
          rw [beforeH_irrefl] at this; cases this
    subst hab
    rw [asc_ext l m h1'.2 h2'.2 fun x => ?_]
    constructor
    · intro hx
      rcases List.mem_cons.1 ((h x).1 (List.mem_cons_of_mem _ hx)) with e | hm
      · subst e; have := h1'.1 x hx; rw [beforeH_irrefl] at this; cases this
      · exact hm
    · intro hx
      rcases List.mem_cons.1 ((h x).2 (List.mem_cons_of_mem _ hx)) with e | hm
      · subst e; have := h2'.1 x hx; rw [beforeH_irrefl] at this; cases this
      · exact hm
theorem asc_nodup {l : List Hit} (h : ascH l) : l.Nodup := by
  unfold ascH at h
  exact h.imp fun {a b} hab => beforeH_ne hab

/-- the place of a hit among the first n of l, from their end -/
def atH (x : Hit) (l : List Hit) : Nat → Nat
  | 0 => 0
  | n + 1 => match l[n]? with
    | some y => if beforeH x y = true then atH x l n else n + 1
    | none => n + 1
theorem atH_on {x y : Hit} {l : List Hit} {n : Nat} (h : l[n]? = some y) (hb : beforeH x y = true) : atH x l (n + 1) = atH x l n := by
  rw [atH, h]; simp [hb]
theorem atH_stop {x y : Hit} {l : List Hit} {n : Nat} (h : l[n]? = some y) (hb : beforeH x y = false) : atH x l (n + 1) = n + 1 := by
  rw [atH, h]; simp [hb]
theorem atH_le (x : Hit) (l : List Hit) : ∀ n, atH x l n ≤ n
  | 0 => Nat.le_refl _
  | n + 1 => by
    have := atH_le x l n
    unfold atH
    split
    · split <;> omega
    · exact Nat.le_refl _
/-- the list with a hit at its place -/
def insH (x : Hit) (l : List Hit) : List Hit := l.take (atH x l l.length) ++ [x] ++ l.drop (atH x l l.length)
theorem insH_mem (x y : Hit) (l : List Hit) : y ∈ insH x l ↔ y = x ∨ y ∈ l := by
  unfold insH
  have e : y ∈ l ↔ y ∈ l.take (atH x l l.length) ∨ y ∈ l.drop (atH x l l.length) := by
    rw [← List.mem_append, List.take_append_drop]
  rw [List.mem_append, List.mem_append, List.mem_singleton, e]
  constructor
  · rintro ((h | h) | h)
    · exact .inr (.inl h)
    · exact .inl h
    · exact .inr (.inr h)
  · rintro (h | h | h)
    · exact .inl (.inr h)
    · exact .inl (.inl h)
    · exact .inr h
theorem insH_len (x : Hit) (l : List Hit) : (insH x l).length = l.length + 1 := by
  have := atH_le x l l.length
  unfold insH
  simp
  omega
theorem atH_above (x : Hit) (l : List Hit) : ∀ n, n ≤ l.length → ∀ j y, atH x l n ≤ j → j < n → l[j]? = some y → beforeH x y = true
  | 0, _, j, y, _, h, _ => absurd h (by omega)
  | n + 1, hn, j, y, h1, h2, hy => by
    have hz : l[n]? = some (l[n]'(by omega)) := List.getElem?_eq_getElem (by omega)
    cases hlt : beforeH x (l[n]'(by omega)) with
    | false => rw [atH_stop hz hlt] at h1; omega
    | true =>
      rw [atH_on hz hlt] at h1
      by_cases hj : j = n
      · subst hj; rw [hz] at hy; injection hy with hy; rw [← hy]; exact hlt
      · exact atH_above x l n (by omega) j y h1 (by omega) hy
theorem atH_below (x : Hit) (l : List Hit) : ∀ n, n ≤ l.length → 0 < atH x l n → ∃ y, l[atH x l n - 1]? = some y ∧ beforeH x y = false
  | 0, _, h => absurd h (by simp [atH])
  | n + 1, hn, h => by
    have hz : l[n]? = some (l[n]'(by omega)) := List.getElem?_eq_getElem (by omega)
    cases hlt : beforeH x (l[n]'(by omega)) with
    | false => rw [atH_stop hz hlt]; exact ⟨_, hz, hlt⟩
    | true =>
      rw [atH_on hz hlt] at h ⊢
      exact atH_below x l n (by omega) h
theorem insH_asc {x : Hit} {l : List Hit} (h : ascH l) (hn : x ∉ l) : ascH (insH x l) := by
  have h' := h
  unfold ascH at h'
  rw [List.pairwise_iff_getElem] at h'
  have hle := atH_le x l l.length
  unfold insH
  generalize hk : atH x l l.length = k at hle ⊢
  have lo : ∀ s ∈ l.take k, beforeH s x = true := by
    intro s hs
    obtain ⟨j, hj, e⟩ := List.getElem_of_mem hs
    have hjk : j < k ∧ j < l.length := by simp at hj; omega
    obtain ⟨y, hy, hlt⟩ := atH_below x l l.length (Nat.le_refl _) (by omega)
    rw [hk] at hy
    obtain ⟨hb, hy2⟩ := List.getElem?_eq_some_iff.1 hy
    have hym : y ∈ l := List.mem_of_getElem? hy
    have hyx : beforeH y x = true := beforeH_tri hlt fun e => hn (e ▸ hym)
    rw [List.getElem_take] at e
    by_cases hjl : j = k - 1
    · subst hjl; rw [← e, hy2]; exact hyx
    · rw [← e]
      have := h' j (k - 1) hjk.2 hb (by omega)
      rw [hy2] at this
      exact beforeH_trans this hyx
  have hi : ∀ s ∈ l.drop k, beforeH x s = true := by
    intro s hs
    obtain ⟨j, hj, e⟩ := List.getElem_of_mem hs
    have hjl : k + j < l.length := by simp at hj; omega
    have hs' : l[k + j]? = some s := by
      rw [List.getElem_drop] at e
      rw [← e]; exact List.getElem?_eq_getElem _
    exact atH_above x l l.length (Nat.le_refl _) (k + j) s (by omega) hjl hs'
  unfold ascH
  rw [List.pairwise_append, List.pairwise_append]
  refine ⟨⟨h.sublist (List.take_sublist _ _), List.pairwise_singleton _ _, fun s hs t ht => ?_⟩, h.sublist (List.drop_sublist _ _), fun s hs t ht => ?_⟩
  · rw [List.mem_singleton.1 ht]; exact lo s hs
  · rcases List.mem_append.1 hs with hs | hs
    · exact beforeH_trans (lo s hs) (hi t ht)
    · rw [List.mem_singleton.1 hs]; exact hi t ht

/-- words of a list as hits -/
noncomputable def scanF (s : ByteArray) (e : Int) (ss : List ByteArray) : List Hit := ss.foldl (fun out w => if (ed false s.data.toList w.data.toList : Int) ≤ e then insH (w, (ed false s.data.toList w.data.toList : Int)) out else out) []
theorem scanF_next (s : ByteArray) (e : Int) (ss : List ByteArray) {k : Nat} {w : ByteArray} (h : ss[k]? = some w) : scanF s e (ss.take (k + 1)) = if (ed false s.data.toList w.data.toList : Int) ≤ e then insH (w, (ed false s.data.toList w.data.toList : Int)) (scanF s e (ss.take k)) else scanF s e (ss.take k) := by
  unfold scanF
  rw [List.take_add_one, h, List.foldl_append]
  rfl
theorem scan_facts (s : ByteArray) (e : Int) (ss : List ByteArray) (hn : ss.Nodup) : ∀ k, k ≤ ss.length → ascH (scanF s e (ss.take k)) ∧ (∀ x : Hit, x ∈ scanF s e (ss.take k) ↔ x.1 ∈ ss.take k ∧ x.2 = (ed false s.data.toList x.1.data.toList : Int) ∧ x.2 ≤ e)
  | 0, _ => ⟨by simp [scanF, ascH], by simp [scanF]⟩
  | k + 1, hk => by
    obtain ⟨h1, h2⟩ := scan_facts s e ss hn k (by omega)
    have hw : ss[k]? = some (ss[k]'(by omega)) := List.getElem?_eq_getElem (by omega)
    generalize ss[k]'(by omega) = w at hw
    have hnew : w ∉ ss.take k := by
      intro hm
      obtain ⟨j, hj⟩ := List.mem_iff_getElem?.1 hm
      rw [List.getElem?_take] at hj
      split at hj
      · rename_i hjk
        obtain ⟨a1, a2⟩ := List.getElem?_eq_some_iff.1 hw
        obtain ⟨b1, b2⟩ := List.getElem?_eq_some_iff.1 hj
        rw [List.nodup_iff_pairwise_ne, List.pairwise_iff_getElem] at hn
        exact hn j k b1 a1 hjk (b2.trans a2.symm)
      · cases hj
    have ht : ∀ x, x ∈ ss.take (k + 1) ↔ x ∈ ss.take k ∨ x = w := by
      intro x; rw [List.take_add_one, hw]; simp
    rw [scanF_next s e ss hw]
    by_cases hle : (ed false s.data.toList w.data.toList : Int) ≤ e
    · rw [if_pos hle]
      refine ⟨insH_asc h1 fun hm => hnew ((h2 _).1 hm).1, fun x => ?_⟩
      rw [insH_mem, h2, ht]
      constructor
      · rintro (rfl | ⟨a, b, c⟩)
        · exact ⟨.inr rfl, rfl, hle⟩
        · exact ⟨.inl a, b, c⟩
      · rintro ⟨a | a, b, c⟩
        · exact .inr ⟨a, b, c⟩
        · exact .inl (Prod.ext a (by rw [b, a]))
    · rw [if_neg hle]
      refine ⟨h1, fun x => ?_⟩
      rw [h2, ht]
      constructor
      · rintro ⟨a, b, c⟩; exact ⟨.inl a, b, c⟩
      · rintro ⟨a | a, b, c⟩
        · exact ⟨a, b, c⟩
        · rw [a] at b; omega
theorem list_nodup {ss : List ByteArray} (h : listB ss = true) : ss.Nodup := by
  unfold listB at h
  rw [Bool.and_eq_true] at h
  rw [List.nodup_iff_pairwise_ne, List.pairwise_iff_getElem]
  intro i j hi hj hij e
  have := asc_lt h.2 (j - i - 1) i ss[i] ss[j] (List.getElem?_eq_getElem hi) (by rw [show i + (j - i - 1) + 1 = j by omega]; exact List.getElem?_eq_getElem hj)
  rw [e, ltS_irrefl] at this; cases this
theorem list_filled {ss : List ByteArray} (h : listB ss = true) : ss.length ≤ 60 ∧ ∀ x ∈ ss, filledS x = true := by
  unfold listB filledB at h
  simp only [Bool.and_eq_true, List.all_eq_true, decide_eq_true_eq] at h
  exact h.1
theorem scan_asc {ss : List ByteArray} (h : listB ss = true) (s : ByteArray) (e : Int) : ascH (scanF s e ss) := by
  have := (scan_facts s e ss (list_nodup h) ss.length (Nat.le_refl _)).1
  rwa [List.take_length] at this
theorem scan_mem {ss : List ByteArray} (h : listB ss = true) (s : ByteArray) (e : Int) (x : Hit) : x ∈ scanF s e ss ↔ x.1 ∈ ss ∧ x.2 = (ed false s.data.toList x.1.data.toList : Int) ∧ x.2 ≤ e := by
  have := (scan_facts s e ss (list_nodup h) ss.length (Nat.le_refl _)).2 x
  rwa [List.take_length] at this
theorem scan_hits {ss : List ByteArray} (h : listB ss = true) (s : ByteArray) {e : Int} (he : e ≤ 4) : hitsB (scanF s e ss) = true := by
  refine hits_of (fun x hx => ?_) (scan_asc h s e)
  obtain ⟨h1, h2, h3⟩ := (scan_mem h s e x).1 hx
  unfold hitB
  rw [(list_filled h).2 _ h1, decide_eq_true (by omega), decide_eq_true (by omega)]
  rfl
theorem scanF_len (s : ByteArray) (e : Int) (ss : List ByteArray) : ∀ k, (scanF s e (ss.take k)).length ≤ k
  | 0 => by simp [scanF]
  | k + 1 => by
    have := scanF_len s e ss k
    cases hw : ss[k]? with
    | none =>
      have : ss.take (k + 1) = ss.take k := by rw [List.take_add_one, hw]; simp
      rw [this]; omega
    | some w =>
      rw [scanF_next s e ss hw]
      split
      · rw [insH_len]; omega
      · omega
theorem scan_len (s : ByteArray) (e : Int) (ss : List ByteArray) : (scanF s e ss).length ≤ ss.length := by
  have := scanF_len s e ss ss.length
  rwa [List.take_length] at this

/-- the hits of two lists -/
def hasH (a : List Hit) (x : Hit) : Bool := a.any fun y => decide (y = x)
theorem hasH_iff {a : List Hit} {x : Hit} : hasH a x = true ↔ x ∈ a := by
  unfold hasH
  rw [List.any_eq_true]
  constructor
  · rintro ⟨y, hy, e⟩; rw [decide_eq_true_eq] at e; exact e ▸ hy
  · intro h; exact ⟨x, h, decide_eq_true rfl⟩
def joinF (a b : List Hit) : List Hit := b.foldl (fun out x => if hasH a x = true then out else insH x out) a
theorem joinF_next (a b : List Hit) {k : Nat} {x : Hit} (h : b[k]? = some x) : joinF a (b.take (k + 1)) = if hasH a x = true then joinF a (b.take k) else insH x (joinF a (b.take k)) := by
  unfold joinF
  rw [List.take_add_one, h, List.foldl_append]
  rfl
theorem join_facts (a b : List Hit) (ha : ascH a) (hb : b.Nodup) : ∀ k, k ≤ b.length → ascH (joinF a (b.take k)) ∧ (∀ x : Hit, x ∈ joinF a (b.take k) ↔ x ∈ a ∨ x ∈ b.take k) ∧ a.length ≤ (joinF a (b.take k)).length ∧ (joinF a (b.take k)).length ≤ a.length + k
  | 0, _ => ⟨by simpa [joinF] using ha, by simp [joinF], by simp [joinF], by simp [joinF]⟩
  | k + 1, hk => by
    obtain ⟨h1, h2, h3, h4⟩ := join_facts a b ha hb k (by omega)
    have hw : b[k]? = some (b[k]'(by omega)) := List.getElem?_eq_getElem (by omega)
    generalize b[k]'(by omega) = w at hw
    have hnew : w ∉ b.take k := by
      intro hm
      obtain ⟨j, hj⟩ := List.mem_iff_getElem?.1 hm
      rw [List.getElem?_take] at hj
      split at hj
      · rename_i hjk
        obtain ⟨a1, a2⟩ := List.getElem?_eq_some_iff.1 hw
        obtain ⟨b1, b2⟩ := List.getElem?_eq_some_iff.1 hj
        rw [List.nodup_iff_pairwise_ne, List.pairwise_iff_getElem] at hb
        exact hb j k b1 a1 hjk (b2.trans a2.symm)
      · cases hj
    have ht : ∀ x, x ∈ b.take (k + 1) ↔ x ∈ b.take k ∨ x = w := by
      intro x; rw [List.take_add_one, hw]; simp
    rw [joinF_next a b hw]
    by_cases hin : w ∈ a
    · rw [if_pos (hasH_iff.2 hin)]
      refine ⟨h1, fun x => ?_, h3, by omega⟩
      rw [h2, ht]
      constructor
      · rintro (h | h)
        · exact .inl h
        · exact .inr (.inl h)
      · rintro (h | h | rfl)
        · exact .inl h
        · exact .inr h
        · exact .inl hin
    · rw [if_neg (fun q => hin (hasH_iff.1 q))]
      refine ⟨insH_asc h1 fun hm => ?_, fun x => ?_, by rw [insH_len]; omega, by rw [insH_len]; omega⟩
      · rcases (h2 w).1 hm with h | h
        · exact hin h
        · exact hnew h
      · rw [insH_mem, h2, ht]
        constructor
        · rintro (h | h | h)
          · exact .inr (.inr h)
          · exact .inl h
          · exact .inr (.inl h)
        · rintro (h | h | h)
          · exact .inr (.inl h)
          · exact .inr (.inr h)
          · exact .inl h
theorem join_asc {a b : List Hit} (ha : ascH a) (hb : ascH b) : ascH (joinF a b) := by
  have := (join_facts a b ha (asc_nodup hb) b.length (Nat.le_refl _)).1
  rwa [List.take_length] at this
theorem join_mem {a b : List Hit} (ha : ascH a) (hb : ascH b) (x : Hit) : x ∈ joinF a b ↔ x ∈ a ∨ x ∈ b := by
  have := (join_facts a b ha (asc_nodup hb) b.length (Nat.le_refl _)).2.1 x
  rwa [List.take_length] at this
theorem join_len {a b : List Hit} (ha : ascH a) (hb : ascH b) : a.length ≤ (joinF a b).length ∧ (joinF a b).length ≤ a.length + b.length := by
  have := (join_facts a b ha (asc_nodup hb) b.length (Nat.le_refl _)).2.2
  rwa [List.take_length] at this
/-- hits one by one, in their order, make the list -/
theorem insH_last {x : Hit} {l : List Hit} (h : ∀ y ∈ l, beforeH y x = true) : insH x l = l ++ [x] := by
  have hk : atH x l l.length = l.length := by
    cases hl : l.length with
    | zero => rfl
    | succ n =>
      have hz : l[n]? = some (l[n]'(by omega)) := List.getElem?_eq_getElem (by omega)
      exact atH_stop hz (beforeH_asymm (h _ (List.getElem_mem _)))
  unfold insH
  rw [hk, List.take_length, List.drop_length, List.append_nil]
theorem insH_grow {l : List Hit} (h : ascH l) {k : Nat} {x : Hit} (hx : l[k]? = some x) : insH x (l.take k) = l.take (k + 1) := by
  rw [insH_last fun y hy => ?_, List.take_add_one, hx]; rfl
  obtain ⟨j, hj⟩ := List.mem_iff_getElem?.1 hy
  rw [List.getElem?_take] at hj
  split at hj
  · rename_i hjk
    unfold ascH at h
    rw [List.pairwise_iff_getElem] at h
    obtain ⟨a1, rfl⟩ := List.getElem?_eq_some_iff.1 hx
    obtain ⟨b1, rfl⟩ := List.getElem?_eq_some_iff.1 hj
    exact h j k b1 a1 hjk
  · cases hj
/-- the hits of two valid lists -/
def joinE (a b : List Hit) : List Hit := if (hitsB a && hitsB b) = true then joinF a b else []
theorem join_hits {a b : List Hit} (ha : hitsB a = true) (hb : hitsB b = true) : hitsB (joinF a b) = true :=
  hits_of (fun x hx => by
    rcases (join_mem (hits_parts ha).2 (hits_parts hb).2 x).1 hx with h | h
    · exact (hits_parts ha).1 x h
    · exact (hits_parts hb).1 x h) (join_asc (hits_parts ha).2 (hits_parts hb).2)
theorem joinE_symm (a b : List Hit) : joinE a b = joinE b a := by
  unfold joinE
  cases ha : hitsB a <;> cases hb : hitsB b <;> simp
  exact asc_ext _ _ (join_asc (hits_parts ha).2 (hits_parts hb).2) (join_asc (hits_parts hb).2 (hits_parts ha).2) fun x => by
    rw [join_mem (hits_parts ha).2 (hits_parts hb).2, join_mem (hits_parts hb).2 (hits_parts ha).2]; exact Or.comm
theorem joinE_again {a b : List Hit} (ha : hitsB a = true) (hb : hitsB b = true) : joinE (joinE a b) a = joinE a b := by
  have e : joinE a b = joinF a b := by unfold joinE; rw [ha, hb]; rfl
  have hj := join_hits ha hb
  rw [e]
  unfold joinE
  rw [hj, ha]
  simp only [Bool.and_self, if_true]
  exact asc_ext _ _ (join_asc (hits_parts hj).2 (hits_parts ha).2) (hits_parts hj).2 fun x => by
    rw [join_mem (hits_parts hj).2 (hits_parts ha).2, join_mem (hits_parts ha).2 (hits_parts hb).2]
    constructor
    · rintro (h | h)
      · exact h
      · exact .inl h
    · exact .inl
theorem scan_parts {ss : List ByteArray} (h : listB ss = true) {s : ByteArray} {e : Int} (he : e ≤ 4) {k : Nat} (h1 : listB (ss.take k) = true) (h2 : listB (ss.drop k) = true) : joinE (scanF s e (ss.take k)) (scanF s e (ss.drop k)) = scanF s e ss := by
  have a1 := scan_hits h1 s he
  have a2 := scan_hits h2 s he
  unfold joinE
  rw [a1, a2]
  simp only [Bool.and_self, if_true]
  refine asc_ext _ _ (join_asc (hits_parts a1).2 (hits_parts a2).2) (scan_asc h s e) fun x => ?_
  rw [join_mem (hits_parts a1).2 (hits_parts a2).2, scan_mem h1, scan_mem h2, scan_mem h, ← List.take_append_drop k ss, List.mem_append]
  simp only [List.take_append_drop]
  constructor
  · rintro (⟨a, b⟩ | ⟨a, b⟩)
    · exact ⟨.inl a, b⟩
    · exact ⟨.inr a, b⟩
  · rintro ⟨a | a, b⟩
    · exact .inl ⟨a, b⟩
    · exact .inr ⟨a, b⟩
theorem list_part {ss : List ByteArray} (h : listB ss = true) (k : Nat) : listB (ss.take k) = true ∧ listB (ss.drop k) = true := by
  obtain ⟨h1, h2⟩ := list_filled h
  have h3 : ascB ss = true := by unfold listB at h; rw [Bool.and_eq_true] at h; exact h.2
  rw [asc_iff] at h3
  constructor
  · unfold listB filledB
    simp only [Bool.and_eq_true, List.all_eq_true, decide_eq_true_eq]
    refine ⟨⟨by simp; omega, fun x hx => h2 x (List.mem_of_mem_take hx)⟩, ?_⟩
    rw [asc_iff]
    intro j s t hs ht
    rw [List.getElem?_take] at hs ht
    split at hs
    · split at ht
      · exact h3 j s t hs ht
      · cases ht
    · cases hs
  · unfold listB filledB
    simp only [Bool.and_eq_true, List.all_eq_true, decide_eq_true_eq]
    refine ⟨⟨by simp; omega, fun x hx => h2 x (List.mem_of_mem_drop hx)⟩, ?_⟩
    rw [asc_iff]
    intro j s t hs ht
    rw [List.getElem?_drop] at hs ht
    exact h3 (k + j) s t hs (by rw [show k + j + 1 = k + (j + 1) by omega]; exact ht)
/-- with more errors the hits are the first ones -/
theorem take_asc {p q : Hit → Prop} : ∀ (l m : List Hit), ascH l → ascH m → (∀ x ∈ m, x ∈ l) → (∀ x ∈ l, ∀ y ∈ m, beforeH x y = true → x ∈ m) → l.take m.length = m
  | l, [], _, _, _, _ => by simp
  | [], b :: m, _, _, h, _ => absurd (h b List.mem_cons_self) (by simp)
  | a :: l, b :: m, h1, h2, h, h4 => by
    have h1' := List.pairwise_cons.1 h1
    have h2' := List.pairwise_cons.1 h2
    have hab : a = b := by
      rcases List.mem_cons.1 (h b List.mem_cons_self) with e | hb
      · exact e.symm
      · have hlt := h1'.1 b hb
        rcases List.mem_cons.1 (h4 a List.mem_cons_self b List.mem_cons_self hlt) with e | ha
        · exact e
        · have := beforeH_trans (h2'.1 a ha) hlt
          rw [beforeH_irrefl] at this; cases this
    subst hab
    rw [List.length_cons, List.take_succ_cons, take_asc (p := p) (q := q) l m h1'.2 h2'.2 (fun x hx => ?_) (fun x hx y hy hlt => ?_)]
    · rcases List.mem_cons.1 (h x (List.mem_cons_of_mem _ hx)) with e | hm
      · subst e; have := h2'.1 x hx; rw [beforeH_irrefl] at this; cases this
      · exact hm
    · rcases List.mem_cons.1 (h4 x (List.mem_cons_of_mem _ hx) y (List.mem_cons_of_mem _ hy) hlt) with e | hm
      · subst e; have := h1'.1 x hx; rw [beforeH_irrefl] at this; cases this
      · exact hm
theorem scan_more {ss : List ByteArray} (h : listB ss = true) (s : ByteArray) (e : Int) : (scanF s (e + 1) ss).take (scanF s e ss).length = scanF s e ss := by
  refine take_asc (p := fun _ => True) (q := fun _ => True) _ _ (scan_asc h s _) (scan_asc h s _) (fun x hx => ?_) (fun x hx y hy hlt => ?_)
  · rw [scan_mem h] at hx ⊢
    exact ⟨hx.1, hx.2.1, by omega⟩
  · rw [scan_mem h] at hx hy ⊢
    refine ⟨hx.1, hx.2.1, ?_⟩
    unfold beforeH at hlt
    simp only [Bool.or_eq_true, Bool.and_eq_true, decide_eq_true_eq] at hlt
    omega
theorem scan_more_len {ss : List ByteArray} (h : listB ss = true) (s : ByteArray) (e : Int) : (scanF s e ss).length ≤ (scanF s (e + 1) ss).length := by
  have := congrArg List.length (scan_more h s e)
  rw [List.length_take] at this
  omega
/-- the words of the hits are as many as the words within the distance -/
theorem scan_count {ss : List ByteArray} (h : listB ss = true) (s : ByteArray) (e : Int) : ∀ k, (scanF s e (ss.take k)).length = (ss.take k).countP (fun w => decide ((ed false s.data.toList w.data.toList : Int) ≤ e))
  | 0 => by simp [scanF]
  | k + 1 => by
    have ih := scan_count h s e k
    cases hw : ss[k]? with
    | none =>
      have : ss.take (k + 1) = ss.take k := by rw [List.take_add_one, hw]; simp
      rw [this]; exact ih
    | some w =>
      rw [scanF_next s e ss hw, List.take_add_one, hw, List.countP_append]
      simp only [Option.toList_some, List.countP_cons, List.countP_nil, decide_eq_true_eq]
      split
      · rw [insH_len]; omega
      · omega

/-- the least distance, and the words with it -/
noncomputable def nearI (s : ByteArray) (ss : List ByteArray) : Int := ss.foldl (fun b w => if b < 0 ∨ (ed false s.data.toList w.data.toList : Int) < b then (ed false s.data.toList w.data.toList : Int) else b) (-1)
noncomputable def nearL (s : ByteArray) (ss : List ByteArray) : List ByteArray := ss.filter fun w => decide ((ed false s.data.toList w.data.toList : Int) = nearI s ss)
theorem nearI_next (s : ByteArray) (ss : List ByteArray) {k : Nat} {w : ByteArray} (h : ss[k]? = some w) : nearI s (ss.take (k + 1)) = if nearI s (ss.take k) < 0 ∨ (ed false s.data.toList w.data.toList : Int) < nearI s (ss.take k) then (ed false s.data.toList w.data.toList : Int) else nearI s (ss.take k) := by
  unfold nearI
  rw [List.take_add_one, h, List.foldl_append]
  rfl
theorem near_facts (s : ByteArray) (ss : List ByteArray) : ∀ k, k ≤ ss.length → (k = 0 → nearI s (ss.take k) = -1) ∧ (0 < k → 0 ≤ nearI s (ss.take k) ∧ ∃ w ∈ ss.take k, (ed false s.data.toList w.data.toList : Int) = nearI s (ss.take k)) ∧ ∀ w ∈ ss.take k, nearI s (ss.take k) ≤ (ed false s.data.toList w.data.toList : Int)
  | 0, _ => ⟨fun _ => by simp [nearI], fun h => absurd h (by omega), by simp⟩
  | k + 1, hk => by
    obtain ⟨h1, h2, h3⟩ := near_facts s ss k (by omega)
    have hw : ss[k]? = some (ss[k]'(by omega)) := List.getElem?_eq_getElem (by omega)
    generalize ss[k]'(by omega) = w at hw
    have ht : ∀ x, x ∈ ss.take (k + 1) ↔ x ∈ ss.take k ∨ x = w := by
      intro x; rw [List.take_add_one, hw]; simp
    rw [nearI_next s ss hw]
    by_cases hc : nearI s (ss.take k) < 0 ∨ (ed false s.data.toList w.data.toList : Int) < nearI s (ss.take k)
    · rw [if_pos hc]
      refine ⟨fun h => absurd h (by omega), fun _ => ⟨by omega, w, (ht w).2 (.inr rfl), rfl⟩, fun x hx => ?_⟩
      rcases (ht x).1 hx with hx | rfl
      · have := h3 x hx
        rcases hc with hc | hc
        · by_cases h0 : k = 0
          · subst h0; simp at hx
          · have := (h2 (by omega)).1; omega
        · omega
      · exact Int.le_refl _
    · rw [if_neg hc]
      have hk0 : 0 < k := by
        rcases Nat.eq_zero_or_pos k with h0 | h0
        · exact absurd (.inl (by rw [h1 h0]; omega)) hc
        · exact h0
      obtain ⟨a, x, hx, hxe⟩ := h2 hk0
      refine ⟨fun h => absurd h (by omega), fun _ => ⟨a, x, (ht x).2 (.inl hx), hxe⟩, fun y hy => ?_⟩
      rcases (ht y).1 hy with hy | rfl
      · exact h3 y hy
      · omega
/-- a word more: its distance is less, the same, or greater -/
theorem nearL_next (s : ByteArray) (ss : List ByteArray) {k : Nat} {w : ByteArray} (hk : k < ss.length) (h : ss[k]? = some w) :
    (nearI s (ss.take k) < 0 ∨ (ed false s.data.toList w.data.toList : Int) < nearI s (ss.take k) → nearL s (ss.take (k + 1)) = [w]) ∧
    (¬ (nearI s (ss.take k) < 0 ∨ (ed false s.data.toList w.data.toList : Int) < nearI s (ss.take k)) → nearL s (ss.take (k + 1)) = if (ed false s.data.toList w.data.toList : Int) = nearI s (ss.take k) then nearL s (ss.take k) ++ [w] else nearL s (ss.take k)) := by
  obtain ⟨h1, h2, h3⟩ := near_facts s ss k (by omega)
  have ht : ss.take (k + 1) = ss.take k ++ [w] := by rw [List.take_add_one, h]; rfl
  constructor
  · intro hc
    have hi : nearI s (ss.take (k + 1)) = (ed false s.data.toList w.data.toList : Int) := by rw [nearI_next s ss h, if_pos hc]
    unfold nearL
    rw [hi, ht, List.filter_append, List.filter_eq_nil_iff.2 (fun x hx => ?_)]
    · simp
    · simp only [decide_eq_true_eq]
      have := h3 x hx
      rcases hc with hc | hc
      · by_cases h0 : k = 0
        · subst h0; simp at hx
        · have := (h2 (by omega)).1; omega
      · omega
  · intro hc
    have hi : nearI s (ss.take (k + 1)) = nearI s (ss.take k) := by rw [nearI_next s ss h, if_neg hc]
    unfold nearL
    rw [hi, ht, List.filter_append]
    split
    · rename_i he; simp [he]
    · rename_i he; simp [he]
noncomputable def scanE (ss : List ByteArray) (s : ByteArray) (e : Int) : List Hit := if (listB ss && wordB s.data.toList && (decide (0 ≤ e) && decide (e ≤ 4))) = true then scanF s e ss else []
noncomputable def nearEL (ss : List ByteArray) (s : ByteArray) : List ByteArray := if (listB ss && wordB s.data.toList) = true then nearL s ss else []
noncomputable def nearEI (ss : List ByteArray) (s : ByteArray) : Int := if (listB ss && wordB s.data.toList) = true then nearI s ss else -1
theorem scanE_len (ss : List ByteArray) (s : ByteArray) (e : Int) : (scanE ss s e).length ≤ ss.length := by
  unfold scanE; split
  · exact scan_len _ _ _
  · simp
theorem scanE_hits (ss : List ByteArray) (s : ByteArray) (e : Int) : hitsB (scanE ss s e) = true := by
  unfold scanE; split
  · rename_i h
    simp only [Bool.and_eq_true, decide_eq_true_eq] at h
    exact scan_hits h.1.1 s h.2.2
  · rfl
end Go.Proofs.Ytmolphaihapkkaa
