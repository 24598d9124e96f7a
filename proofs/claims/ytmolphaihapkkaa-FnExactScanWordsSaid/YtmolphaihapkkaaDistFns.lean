/- Contracts: the model's EditDistance and DifferentPlaces; the law's turned. -/
import Derived.Test.YtmolphaihapkkaaDistSpec
import Derived.Test.YtmolphaihapkkaaCommon
namespace Go.Proofs.Ytmolphaihapkkaa
open Go.RowKit
set_option maxHeartbeats 800000
set_option linter.unusedSimpArgs false
set_option linter.unusedVariables false

/-- the answer of a function of two words: -1 for other words -/
def twoI (f : List UInt8 → List UInt8 → Int) (a b : List UInt8) : Int := if wordB a && wordB b then f a b else -1
theorem twoI_no {f : List UInt8 → List UInt8 → Int} {a b : List UInt8} (h : (wordB a && wordB b) = false) : twoI f a b = -1 := by unfold twoI; rw [h]; rfl
theorem twoI_yes {f : List UInt8 → List UInt8 → Int} {a b : List UInt8} (h : (wordB a && wordB b) = true) : twoI f a b = f a b := by unfold twoI; rw [if_pos h]
theorem word_size {s : ByteArray} (h : wordB s.data.toList = true) : s.size ≤ 12 := by
  unfold wordB at h
  rw [Bool.and_eq_true, decide_eq_true_iff, len_eq] at h
  exact h.1

/-- what impl.EditDistance does -/
def EditC : Prop := ∀ (a b : ByteArray) (w : World), a.size ≤ maxLen → b.size ≤ maxLen →
  Calls Try.prog 24 #[.string a, .string b] w fun e w' => e = .returned (.int .i64 (twoI (fun x y => (ed false x y : Int)) a.data.toList b.data.toList)) ∧ Below w.heap.size w w'
theorem wp_max_int {ops : Array Oper} {rest : List Oper} {o : Oper} {a : Act} {w : World} {Q : Exit → Act → World → Prop} (hgd : o.guard = none) (x y : Operand)
    (ho : o.op = .call { callee := .builtin .max, args := #[x, y], argTypes := #[3, 3] }) (m n : Int) (hx : a.eval x = .int .i64 m) (hy : a.eval y = .int .i64 n)
    (hk : ∀ v : Int, Hid (v = if m < n then n else m) → wpList Try.prog ops Q rest (a.put o.dst (.int .i64 v)) w) : wpList Try.prog ops Q (o :: rest) a w := by
  refine wpList_plain hgd fun K hK => ?_
  have h2 := hK _ _ (hk _ (Lib.hid rfl))
  clear hK hk
  unfold Oper.wp execOp
  simp only [ho, resolve, invoke, builtin, Sem.run_bind, Sem.run_pure, Result.andThen_ok, List.map_toArray, List.map_cons, List.map_nil, hx, hy]
  by_cases hmn : m < n
  · simp only [if_pos hmn] at h2
    go_simp
    exact h2
  · simp only [if_neg hmn] at h2
    go_simp
    exact h2
theorem twoI_symm {f : List UInt8 → List UInt8 → Int} (h : ∀ a b, f a b = f b a) (a b : List UInt8) : twoI f a b = twoI f b a := by unfold twoI; rw [h a b, Bool.and_comm]
theorem wordB_rev (l : List UInt8) : wordB l.reverse = wordB l := by unfold wordB lettersB; rw [List.length_reverse, List.all_reverse]
theorem text_beq (s t : ByteArray) : (s.toList == t.toList) = decide (s.data.toList = t.data.toList) := by
  rw [ByteArray.toList_eq, ByteArray.toList_eq]
  exact (Bool.eq_iff_iff.2 (by simp))

/-- the answer of DifferentPlaces -/
def dpI (a b : List UInt8) : Int := if wordB a && wordB b && decide (a.length = b.length) then (dp a b : Int) else -1
theorem dpI_no {a b : List UInt8} (h : (wordB a && wordB b && decide (a.length = b.length)) = false) : dpI a b = -1 := by unfold dpI; rw [h]; rfl
theorem dpI_yes {a b : List UInt8} (h : (wordB a && wordB b && decide (a.length = b.length)) = true) : dpI a b = dp a b := by unfold dpI; rw [if_pos h]
theorem dp_at (a b : ByteArray) (k : Nat) (h1 : k < a.size) (h2 : k < b.size) : dp (a.data.toList.take (k + 1)) (b.data.toList.take (k + 1)) = dp (a.data.toList.take k) (b.data.toList.take k) + if a[k] = b[k] then 0 else 1 :=
  dp_step _ _ k (by simpa using h1) (by simpa using h2)
theorem dp_at_eq (a b : ByteArray) (k : Nat) (h1 : k < a.size) (h2 : k < b.size) (h : ((a[k].toNat : Int) == b[k].toNat) = true) : dp (a.data.toList.take (k + 1)) (b.data.toList.take (k + 1)) = dp (a.data.toList.take k) (b.data.toList.take k) := by
  have he : a[k] = b[k] := by simp only [beq_iff_eq] at h; exact UInt8.toNat_inj.1 (by omega)
  rw [dp_at a b k h1 h2, if_pos he]; rfl
theorem dp_at_ne (a b : ByteArray) (k : Nat) (h1 : k < a.size) (h2 : k < b.size) (h : ((a[k].toNat : Int) == b[k].toNat) = false) : dp (a.data.toList.take (k + 1)) (b.data.toList.take (k + 1)) = dp (a.data.toList.take k) (b.data.toList.take k) + 1 := by
  have he : a[k] ≠ b[k] := by intro he; rw [he] at h; simp at h
  rw [dp_at a b k h1 h2, if_neg he]
theorem take_all (s : ByteArray) : s.data.toList.take s.size = s.data.toList := by rw [← len_eq, List.take_length]

end Go.Proofs.Ytmolphaihapkkaa
