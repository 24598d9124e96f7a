/- The drawing of two words (l20Two); shared letters at the beginning. -/
import Derived.Test.YtmolphaihapkkaaWordDraw
import Derived.Test.YtmolphaihapkkaaShared
namespace Go.Proofs.Ytmolphaihapkkaa
open Go.RowKit
set_option maxHeartbeats 800000
set_option linter.unusedSimpArgs false
set_option linter.unusedVariables false

def TwoPost (b p : Nat) (w : World) (e : Ending) (w' : World) : Prop :=
  ∃ s t : ByteArray, e = .returned (.tuple #[.string s, .string t]) ∧ s.size ≤ 13 ∧ t.size ≤ 13 ∧ Drew b p 120 w w'

def TextsPost (w : World) (e : Ending) (w' : World) : Prop :=
  ∃ s t : ByteArray, e = .returned (.tuple #[.string s, .string t]) ∧ s.size ≤ 13 ∧ t.size ≤ 13 ∧ Below w.heap.size w w'
theorem shared_comm : ∀ l m, shared l m = shared m l
  | [], [] => rfl
  | [], _ :: _ => rfl
  | _ :: _, [] => rfl
  | a :: l, b :: m => by
    simp only [shared]
    rw [shared_comm l m]
    by_cases h : a = b
    · rw [if_pos h, if_pos h.symm]
    · rw [if_neg h, if_neg (fun e => h e.symm)]
theorem shared_self : ∀ l, shared l l = l.length
  | [] => rfl
  | a :: l => by simp [shared, shared_self l]
theorem sharedI_comm (l m : List UInt8) : sharedI l m = sharedI m l := by unfold sharedI; rw [shared_comm, Bool.and_comm]
theorem shared_facts : ∀ l m : List UInt8, shared l m ≤ l.length ∧ shared l m ≤ m.length ∧ l.take (shared l m) = m.take (shared l m) ∧ (shared l m = l.length ∨ shared l m = m.length ∨ l[shared l m]? ≠ m[shared l m]?)
  | [], m => by simp [shared]
  | a :: l, [] => by simp [shared]
  | a :: l, b :: m => by
    by_cases h : a = b
    · subst h
      obtain ⟨h1, h2, h3, h4⟩ := shared_facts l m
      simp only [shared, if_pos]
      simp [h1, h2, h3]
      simpa using h4
    · simp [shared, h]
theorem extract_take (s : ByteArray) (k : Nat) : (s.extract 0 k).data.toList = s.data.toList.take k := by simp

end Go.Proofs.Ytmolphaihapkkaa
