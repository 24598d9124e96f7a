/- A column of the table as two numbers, and the next column told by words of 64 binary digits: where a place is kept, the carry of the sum runs. -/
import Derived.Test.YtfcolmjjfoaeeaaBits5Spec
namespace Go.Proofs.Ytfcolmjjfoaeeaa
set_option linter.unusedSimpArgs false
set_option linter.unusedVariables false

/-- a number of places as a word -/
def wd (p : Nat → Bool) (n : Nat) : BitVec 64 := BitVec.ofNat 64 (maskN p n)
theorem wd_bit (p : Nat → Bool) (n i : Nat) (hi : i < 64) : (wd p n).getLsbD i = (decide (i < n) && p i) := by
  unfold wd
  rw [BitVec.getLsbD_ofNat, maskN_bit]
  simp [hi]

def keptW (same up down : BitVec 64) : BitVec 64 := (((same &&& up) + up) ^^^ up) ||| same ||| down
def growW (same up down : BitVec 64) : BitVec 64 := down ||| ~~~(keptW same up down ||| up)
def sinkW (same up down : BitVec 64) : BitVec 64 := keptW same up down &&& up
def grow1 (same up down : BitVec 64) : BitVec 64 := (growW same up down) <<< 1 ||| 1#64
def sink1 (same up down : BitVec 64) : BitVec 64 := (sinkW same up down) <<< 1
def upW (all same up down : BitVec 64) : BitVec 64 := (sink1 same up down ||| ~~~(keptW same up down ||| grow1 same up down)) &&& all
def downW (same up down : BitVec 64) : BitVec 64 := grow1 same up down &&& keptW same up down

/-- the place i is kept: one letter less of both words changes nothing -/
noncomputable def keptP (a b : List UInt8) (c : UInt8) (i : Nat) : Bool := decide (colN a (b ++ [c]) (i + 1) = colN a b i)
/-- the distance sinks with the further letter of the second word, or grows -/
noncomputable def sinkP (a b : List UInt8) (c : UInt8) (i : Nat) : Bool := decide (colN a (b ++ [c]) i + 1 = colN a b i)
noncomputable def growP (a b : List UInt8) (c : UInt8) (i : Nat) : Bool := decide (colN a (b ++ [c]) i = colN a b i + 1)

theorem colN_snoc (a b : List UInt8) (c : UInt8) (i : Nat) (hi : i < a.length) :
    colN a (b ++ [c]) (i + 1) = if a[i] = c then colN a b i else min (colN a b i) (min (colN a b (i + 1)) (colN a (b ++ [c]) i)) + 1 := by
  have ht : ∀ k, colN a b k = cell false a (b ++ [c]) k b.length := fun k => by
    unfold colN cell
    rw [List.take_length, List.take_left]
  have hg : (b ++ [c])[b.length]'(by simp) = c := by simp
  have hl : (b ++ [c]).length = b.length + 1 := by simp
  by_cases he : a[i] = c
  · rw [if_pos he, ht i]
    unfold colN
    rw [hl]
    exact cell_same a (b ++ [c]) i b.length hi (by simp) (by rw [hg, he])
  · rw [if_neg he, ht i, ht (i + 1)]
    unfold colN
    rw [hl, cell_step a (b ++ [c]) i b.length hi (by simp), hg, if_neg he]
    omega
theorem colN_more (a b : List UInt8) (c : UInt8) (i : Nat) : colN a (b ++ [c]) i ≤ colN a b i + 1 ∧ colN a b i ≤ colN a (b ++ [c]) i + 1 := by
  unfold colN cell
  rw [List.take_length, List.take_length]
  exact ed_longer _ _ _
theorem hasAt_is (a : List UInt8) (c : UInt8) (i : Nat) (hi : i < a.length) : hasAt a (c.toNat : Int) i = decide (a[i] = c) := by
  unfold hasAt
  rw [List.getElem?_eq_getElem hi]
  by_cases h : a[i] = c
  · simp [h]
  · have h2 : ¬ ((a[i].toNat : Int) = (c.toNat : Int)) := fun e => h (UInt8.toNat_inj.1 (by omega))
    simp [h]
    exact fun e => h (UInt8.toNat_inj.1 (by omega))
theorem kept_is (a b : List UInt8) (c : UInt8) (i : Nat) (hi : i < a.length) : keptP a b c i = (hasAt a (c.toNat : Int) i || downP a b i || sinkP a b c i) := by
  have h := colN_snoc a b c i hi
  have h1 := colN_step a b i hi
  have h2 := colN_more a b c i
  rw [hasAt_is a c i hi]
  unfold keptP downP sinkP
  by_cases he : a[i] = c
  · rw [if_pos he] at h; simp [he, h]
  · rw [if_neg he] at h
    simp only [he, decide_false, Bool.false_or]
    rw [← Bool.decide_or, decide_eq_decide]
    omega
theorem sink_next (a b : List UInt8) (c : UInt8) (i : Nat) (hi : i < a.length) : sinkP a b c (i + 1) = (keptP a b c i && upP a b i) := by
  have h1 := colN_step a b i hi
  have h2 := colN_more a b c (i + 1)
  have h3 := colN_step a (b ++ [c]) i hi
  have h4 := colN_more a b c i
  have h := colN_snoc a b c i hi
  unfold sinkP keptP upP
  rw [← Bool.decide_and, decide_eq_decide]
  split at h <;> omega
theorem grow_next (a b : List UInt8) (c : UInt8) (i : Nat) (hi : i < a.length) : growP a b c (i + 1) = (downP a b i || !(keptP a b c i || upP a b i)) := by
  have h1 := colN_step a b i hi
  have h2 := colN_more a b c (i + 1)
  have h3 := colN_step a (b ++ [c]) i hi
  have h4 := colN_more a b c i
  have h := colN_snoc a b c i hi
  unfold growP keptP upP downP
  rw [← Bool.decide_or, ← decide_not, ← Bool.decide_or, decide_eq_decide]
  split at h <;> omega
theorem up_next (a b : List UInt8) (c : UInt8) (i : Nat) (hi : i < a.length) : upP a (b ++ [c]) i = (sinkP a b c i || !(keptP a b c i || growP a b c i)) := by
  have h1 := colN_step a b i hi
  have h2 := colN_more a b c (i + 1)
  have h3 := colN_step a (b ++ [c]) i hi
  have h4 := colN_more a b c i
  have h := colN_snoc a b c i hi
  unfold sinkP growP keptP upP
  rw [← Bool.decide_or, ← decide_not, ← Bool.decide_or, decide_eq_decide]
  split at h <;> omega
theorem down_next (a b : List UInt8) (c : UInt8) (i : Nat) (hi : i < a.length) : downP a (b ++ [c]) i = (growP a b c i && keptP a b c i) := by
  have h1 := colN_step a b i hi
  have h2 := colN_more a b c (i + 1)
  have h3 := colN_step a (b ++ [c]) i hi
  have h4 := colN_more a b c i
  have h := colN_snoc a b c i hi
  unfold growP keptP downP
  rw [← Bool.decide_and, decide_eq_decide]
  split at h <;> omega
theorem colN_first (a b : List UInt8) (c : UInt8) : sinkP a b c 0 = false ∧ growP a b c 0 = true := by
  unfold sinkP growP
  rw [colN_zero, colN_zero]
  refine ⟨?_, by simp⟩
  simp only [decide_eq_false_iff_not, List.length_append, List.length_singleton]
  omega
theorem up_not_down (a b : List UInt8) (i : Nat) : (upP a b i && downP a b i) = false := by
  unfold upP downP
  rw [← Bool.decide_and]
  simp only [decide_eq_false_iff_not]
  omega

section
variable (a b : List UInt8) (c : UInt8) (ha : a.length ≤ 12)
include ha
theorem carry_is (i : Nat) (hi : i ≤ a.length) : BitVec.carry i (wd (hasAt a (c.toNat : Int)) a.length &&& wd (upP a b) a.length) (wd (upP a b) a.length) false = sinkP a b c i := by
  induction i with
  | zero => rw [BitVec.carry_zero]; exact (colN_first a b c).1.symm
  | succ i ih =>
    rw [BitVec.carry_succ, ih (by omega), BitVec.getLsbD_and, wd_bit _ _ _ (by omega), wd_bit _ _ _ (by omega), sink_next a b c i (by omega), kept_is a b c i (by omega)]
    have hl : decide (i < a.length) = true := by simp; omega
    have hx := up_not_down a b i
    rw [hl]
    simp only [Bool.true_and, Bool.atLeastTwo]
    revert hx
    cases hasAt a (c.toNat : Int) i <;> cases upP a b i <;> cases downP a b i <;> cases sinkP a b c i <;> simp
theorem carry_past (i : Nat) (hi : a.length < i) (h64 : i ≤ 64) : BitVec.carry i (wd (hasAt a (c.toNat : Int)) a.length &&& wd (upP a b) a.length) (wd (upP a b) a.length) false = false := by
  obtain ⟨j, rfl⟩ : ∃ j, i = j + 1 := ⟨i - 1, by omega⟩
  rw [BitVec.carry_succ, BitVec.getLsbD_and, wd_bit _ _ _ (by omega), wd_bit _ _ _ (by omega)]
  have hl : decide (j < a.length) = false := by simp; omega
  rw [hl]
  simp [Bool.atLeastTwo]
theorem keptW_bit (i : Nat) (hi : i < a.length) : (keptW (wd (hasAt a (c.toNat : Int)) a.length) (wd (upP a b) a.length) (wd (downP a b) a.length)).getLsbD i = keptP a b c i := by
  unfold keptW
  rw [BitVec.getLsbD_or, BitVec.getLsbD_or, BitVec.getLsbD_xor, BitVec.getLsbD_add (by omega), BitVec.getLsbD_and, carry_is a b c ha i (by omega), wd_bit _ _ _ (by omega), wd_bit _ _ _ (by omega), wd_bit _ _ _ (by omega), kept_is a b c i hi]
  have hl : decide (i < a.length) = true := by simp; omega
  rw [hl]
  cases hasAt a (c.toNat : Int) i <;> cases upP a b i <;> cases downP a b i <;> cases sinkP a b c i <;> rfl
theorem keptW_past (i : Nat) (hi : a.length ≤ i) (h64 : i < 64) : (keptW (wd (hasAt a (c.toNat : Int)) a.length) (wd (upP a b) a.length) (wd (downP a b) a.length)).getLsbD i = if i = a.length then sinkP a b c i else false := by
  unfold keptW
  have hl : decide (i < a.length) = false := by simp; omega
  rw [BitVec.getLsbD_or, BitVec.getLsbD_or, BitVec.getLsbD_xor, BitVec.getLsbD_add (by omega), BitVec.getLsbD_and, wd_bit _ _ _ (by omega), wd_bit _ _ _ (by omega), wd_bit _ _ _ (by omega), hl]
  split
  · next he => subst he; rw [carry_is a b c ha _ (Nat.le_refl _)]; simp
  · rw [carry_past a b c ha i (by omega) (by omega)]; simp
theorem growW_bit (i : Nat) (hi : i < a.length) : (growW (wd (hasAt a (c.toNat : Int)) a.length) (wd (upP a b) a.length) (wd (downP a b) a.length)).getLsbD i = growP a b c (i + 1) := by
  unfold growW
  rw [BitVec.getLsbD_or, BitVec.getLsbD_not, BitVec.getLsbD_or, keptW_bit a b c ha i hi, wd_bit _ _ _ (by omega), wd_bit _ _ _ (by omega), grow_next a b c i hi]
  have hl : decide (i < a.length) = true := by simp; omega
  have h6 : decide (i < 64) = true := by simp; omega
  rw [hl, h6]
  simp
theorem sinkW_bit (i : Nat) (hi : i < a.length) : (sinkW (wd (hasAt a (c.toNat : Int)) a.length) (wd (upP a b) a.length) (wd (downP a b) a.length)).getLsbD i = sinkP a b c (i + 1) := by
  unfold sinkW
  rw [BitVec.getLsbD_and, keptW_bit a b c ha i hi, wd_bit _ _ _ (by omega), sink_next a b c i hi]
  have hl : decide (i < a.length) = true := by simp; omega
  rw [hl]
  simp
theorem grow1_bit (i : Nat) (hi : i ≤ a.length) : (grow1 (wd (hasAt a (c.toNat : Int)) a.length) (wd (upP a b) a.length) (wd (downP a b) a.length)).getLsbD i = growP a b c i := by
  unfold grow1
  rw [BitVec.getLsbD_or, BitVec.getLsbD_shiftLeft, BitVec.getLsbD_one]
  have h6 : decide (i < 64) = true := by simp; omega
  cases i with
  | zero => rw [(colN_first a b c).2]; simp
  | succ i =>
    rw [Nat.add_sub_cancel, growW_bit a b c ha i (by omega), h6]
    simp
theorem sink1_bit (i : Nat) (hi : i ≤ a.length) : (sink1 (wd (hasAt a (c.toNat : Int)) a.length) (wd (upP a b) a.length) (wd (downP a b) a.length)).getLsbD i = sinkP a b c i := by
  unfold sink1
  rw [BitVec.getLsbD_shiftLeft]
  have h6 : decide (i < 64) = true := by simp; omega
  cases i with
  | zero => rw [(colN_first a b c).1]; simp
  | succ i =>
    rw [Nat.add_sub_cancel, sinkW_bit a b c ha i (by omega), h6]
    simp
omit ha in
theorem sink_not_grow (i : Nat) : (growP a b c i && sinkP a b c i) = false := by
  unfold growP sinkP
  rw [← Bool.decide_and]
  simp only [decide_eq_false_iff_not]
  omega
/-- the next column -/
theorem upW_is : upW (wd (fun _ => true) a.length) (wd (hasAt a (c.toNat : Int)) a.length) (wd (upP a b) a.length) (wd (downP a b) a.length) = wd (upP a (b ++ [c])) a.length := by
  apply BitVec.eq_of_getLsbD_eq
  intro i hi
  unfold upW
  rw [BitVec.getLsbD_and, wd_bit _ _ _ hi, wd_bit _ _ _ hi]
  by_cases h : i < a.length
  · have hl : decide (i < a.length) = true := by simp; omega
    have h6 : decide (i < 64) = true := by simp; omega
    rw [BitVec.getLsbD_or, BitVec.getLsbD_not, BitVec.getLsbD_or, sink1_bit a b c ha i (by omega), keptW_bit a b c ha i h, grow1_bit a b c ha i (by omega), up_next a b c i h, hl, h6]
    simp
  · have hl : decide (i < a.length) = false := by simp; omega
    rw [hl]
    simp
theorem downW_is : downW (wd (hasAt a (c.toNat : Int)) a.length) (wd (upP a b) a.length) (wd (downP a b) a.length) = wd (downP a (b ++ [c])) a.length := by
  apply BitVec.eq_of_getLsbD_eq
  intro i hi
  unfold downW
  rw [BitVec.getLsbD_and, wd_bit _ _ _ hi]
  by_cases h : i < a.length
  · have hl : decide (i < a.length) = true := by simp; omega
    rw [keptW_bit a b c ha i h, grow1_bit a b c ha i (by omega), down_next a b c i h, hl]
    simp
  · have hl : decide (i < a.length) = false := by simp; omega
    rw [hl, keptW_past a b c ha i (by omega) hi, Bool.false_and]
    split
    · next he => rw [grow1_bit a b c ha i (by omega)]; exact sink_not_grow a b c i
    · simp
end
end Go.Proofs.Ytfcolmjjfoaeeaa
