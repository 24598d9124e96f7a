/- Contracts of the laws' drawing of inputs: the reader (l20Open, pick, odd). -/
import Derived.Test.YtmolphaihapkkaaSlc
import Derived.Laws.BitsAllLaws
import Derived.Laws.BitsLemmas
import Derived.IntWalk
namespace Go.Proofs.Ytmolphaihapkkaa
open Go.RowKit
set_option maxHeartbeats 400000
set_option linter.unusedSimpArgs false
set_option linter.unusedVariables false

/-- the slice A, n of at most 2000 bytes lies in a block below B -/
def Code (w : World) (B : Nat) (A : Option Addr) (n : Nat) : Prop :=
  n ≤ 2000 ∧ (0 < n → ∃ b o, A = some ⟨b, o, none⟩ ∧ b < B ∧ ∀ j, j < n → ∃ z : Int, 0 ≤ z ∧ z ≤ 255 ∧ w.cell? ⟨b, o + j, none⟩ = some (.int .u8 z))
/-- the reader: block b holds the code and how far it has been read -/
def Rd (w : World) (b : Nat) (p : Nat) : Prop :=
  ∃ A n c, w.heap[b]? = some (.cells #[.slice A n c, .int .i64 p] 83 (0, 0)) ∧ Code w b A n
/-- a draw: the reader goes on by at most d, all else that was there stands -/
def Drew (b p d : Nat) (w w' : World) : Prop := w.grownBy w' (some b) ∧ ∃ q, p ≤ q ∧ q ≤ p + d ∧ Rd w' b q

theorem only_refl (w : World) (b : Nat) : w.grownBy w (some b) := ⟨rfl, rfl, rfl, Nat.le_refl _, fun _ _ _ => rfl⟩
theorem only_trans {a w w' : World} {b : Nat} (h : a.grownBy w (some b)) (k : w.grownBy w' (some b)) : a.grownBy w' (some b) :=
  ⟨k.os.trans h.os, k.tape.trans h.tape, k.output.trans h.output, Nat.le_trans h.size k.size, fun i hi hne => (k.block i (Nat.lt_of_lt_of_le hi h.size) hne).trans (h.block i hi hne)⟩
theorem only_below {a w : World} {b : Nat} (h : Below a.heap.size a w) : a.grownBy w (some b) := ⟨h.os, h.tape, h.output, h.size, fun i hi _ => h.block i hi⟩
theorem only_drawn {a w : World} {b : Nat} (h : Drawn a w) : a.grownBy w (some b) := only_below h.below
theorem below_only {B b : Nat} {a w : World} (h : a.grownBy w (some b)) (hb : B ≤ b) (hB : B ≤ a.heap.size) : Below B a w :=
  ⟨h.os, h.tape, h.output, h.size, fun i hi => h.block i (by omega) (fun e => by injection e; omega)⟩
theorem Code.keep {w w' : World} {B n : Nat} {A : Option Addr} (h : Code w B A n) (hk : ∀ p : Addr, p.block < B → w'.cell? p = w.cell? p) : Code w' B A n :=
  ⟨h.1, fun hn => by
    obtain ⟨b, o, e, hb, hc⟩ := h.2 hn
    refine ⟨b, o, e, hb, fun j hj => ?_⟩
    obtain ⟨z, h1, h2, h3⟩ := hc j hj
    exact ⟨z, h1, h2, (hk _ hb).trans h3⟩⟩
theorem Rd.lt {w : World} {b p : Nat} (h : Rd w b p) : b < w.heap.size := by
  obtain ⟨A, n, c, hh, _⟩ := h
  rcases Nat.lt_or_ge b w.heap.size with h1 | h1
  · exact h1
  · rw [Array.getElem?_eq_none h1] at hh; cases hh
/-- the reader stands behind whatever turns no block up to it -/
theorem Rd.below {w w' : World} {b p : Nat} (h : Rd w b p) (hb : Below w.heap.size w w') : Rd w' b p := by
  have hl := h.lt
  obtain ⟨A, n, c, hh, hc⟩ := h
  exact ⟨A, n, c, (hb.block b hl).trans hh, hc.keep fun p hp => hb.cell (by omega)⟩
theorem Rd.drawn {w w' : World} {b p : Nat} (h : Rd w b p) (hd : Drawn w w') : Rd w' b p := h.below hd.below
theorem Rd.grown {w w' : World} {b p : Nat} {row : Option Nat} (h : Rd w b p) (hg : w.grownBy w' row) (hr : ∀ k, row = some k → b < k) : Rd w' b p := by
  have hl := h.lt
  obtain ⟨A, n, c, hh, hc⟩ := h
  have hk : ∀ k, k ≤ b → w'.heap[k]? = w.heap[k]? := fun k hk => hg.block k (by omega) (fun e => by have := hr k e.symm; omega)
  exact ⟨A, n, c, (hk b (Nat.le_refl _)).trans hh, hc.keep fun p hp => World.cell?_of_block (hk _ (by omega))⟩
theorem Drew.refl {w : World} {b p : Nat} (h : Rd w b p) (d : Nat) : Drew b p d w w := ⟨only_refl w b, p, Nat.le_refl _, by omega, h⟩
theorem Drew.drewN {w w' : World} {b p d : Nat} (h : Drew b p d w w') (n : Nat) : Drew b p d w (w'.drewN n) :=
  ⟨⟨h.1.os, h.1.tape, h.1.output, h.1.size, h.1.block⟩, h.2⟩
theorem Drew.trans {w w1 w2 : World} {b p d d' : Nat} (h : Drew b p d w w1) (k : ∀ q, p ≤ q → q ≤ p + d → Rd w1 b q → Drew b q d' w1 w2) : Drew b p (d + d') w w2 := by
  obtain ⟨h1, q, a, b, hr⟩ := h
  obtain ⟨k1, q', a', b', hr'⟩ := k q a b hr
  exact ⟨only_trans h1 k1, q', by omega, by omega, hr'⟩
theorem Drew.mono {w w' : World} {b p d d' : Nat} (h : Drew b p d w w') (hd : d ≤ d') : Drew b p d' w w' := by
  obtain ⟨h1, q, a, b, hr⟩ := h
  exact ⟨h1, q, a, by omega, hr⟩
theorem Drew.size {w w' : World} {b p d : Nat} (h : Drew b p d w w') : w.heap.size ≤ w'.heap.size := h.1.size

theorem xor_i64 (a b : Nat) (ha : a < 9223372036854775808) (hb : b < 9223372036854775808) : bits .xor .i64 (a : Int) (b : Int) = ((a ^^^ b : Nat) : Int) := by
  have hx : a ^^^ b < 2 ^ 63 := Nat.xor_lt_two_pow (by omega) (by omega)
  have e1 : (BitVec.ofInt 64 (a : Int)).toNat = a := by rw [BitVec.ofInt_natCast, BitVec.toNat_ofNat]; exact Nat.mod_eq_of_lt (by omega)
  have e2 : (BitVec.ofInt 64 (b : Int)).toNat = b := by rw [BitVec.ofInt_natCast, BitVec.toNat_ofNat]; exact Nat.mod_eq_of_lt (by omega)
  show IntKind.i64.wrap ((BitVec.ofInt 64 (a : Int) ^^^ BitVec.ofInt 64 (b : Int)).toNat : Int) = _
  rw [BitVec.toNat_xor, e1, e2, IntKind.wrap_i64]
  omega
theorem xor_nonneg {a b : Int} (ha : 0 ≤ a) (ha2 : a ≤ 4611686018427387904) (hb : 0 ≤ b) (hb2 : b ≤ 4611686018427387904) : 0 ≤ bits .xor .i64 a b ∧ bits .xor .i64 a b ≤ 9223372036854775807 := by
  obtain ⟨x, rfl⟩ := Int.eq_ofNat_of_zero_le ha
  obtain ⟨y, rfl⟩ := Int.eq_ofNat_of_zero_le hb
  have hx : x ^^^ y < 2 ^ 63 := Nat.xor_lt_two_pow (by omega) (by omega)
  rw [xor_i64 x y (by omega) (by omega)]
  omega

def PickPost (b p : Nat) (n : Int) (w : World) (e : Ending) (w' : World) : Prop :=
  ∃ v : Int, e = .returned (.int .i64 v) ∧ 0 ≤ v ∧ (1 ≤ n → v < n) ∧ (n < 1 → v = 0) ∧ Drew b p 1 w w'

/-- what the store of the new place leaves -/
theorem pick_store {w : World} {b p : Nat} {A : Option Addr} {m c : Nat} (hh : w.heap[b]? = some (.cells #[.slice A m c, .int .i64 p] 83 (0, 0))) (hc : Code w b A m) :
    Drew b p 1 w (w.setCell ⟨b, 1, none⟩ (.int .i64 (p + 1))) := by
  have hne : ∀ k, k ≠ b → (w.setCell ⟨b, 1, none⟩ (.int .i64 (p + 1))).heap[k]? = w.heap[k]? := fun k hk => Below.heap_setCell _ _ _ _ hk
  refine ⟨⟨rfl, rfl, rfl, by simp [World.setCell], fun k _ hk => hne k (fun e => hk (by rw [e]))⟩, p + 1, by omega, Nat.le_refl _, A, m, c, ?_, hc.keep fun q hq => World.cell?_of_block (hne _ (by omega))⟩
  simp [World.setCell, Array.getElem?_modify, hh]

theorem pick_any (b p : Nat) (n : Int) (w : World) (hr : Rd w b p) (hp : p ≤ 1000000) (hn : n ≤ 1000000) :
    Calls Try.prog 57 #[.pointer (some ⟨b, 0, none⟩), .int .i64 n] w (PickPost b p n w) := by
  obtain ⟨A, m, c, hh, hcode⟩ := hr
  have hst := pick_store hh hcode
  have hm := hcode.1
  have h0 : w.cell? ⟨b, 0, none⟩ = some (.slice A m c) := cell_of_row w b 0 _ _ (0, 0) hh
  have h1 : w.cell? ⟨b, 1, none⟩ = some (.int .i64 p) := cell_of_row w b 1 _ _ (0, 0) hh
  have hf : w.frozen? ⟨b, 1, none⟩ = false := frozen_of_row w b 1 _ _ hh
  by_cases hn1 : n < 1
  · clear hcode hh
    go_enter Try.func57, Try.ntmps57
    go_wp2
    go_ret
    exact ⟨0, rfl, Int.le_refl _, fun h => absurd h (by omega), fun _ => rfl, hst⟩
  · by_cases hm0 : m = 0
    · subst hm0
      clear hcode hh
      go_enter Try.func57, Try.ntmps57
      go_wp2
      go_ret
      exact ⟨0, rfl, Int.le_refl _, fun h => by omega, fun _ => rfl, hst⟩
    · obtain ⟨b', o, rfl, hb', hcell⟩ := hcode.2 (by omega)
      have hkeep : ∀ q : Nat, (w.setCell ⟨b, 1, none⟩ (.int .i64 (p + 1))).cell? ⟨b', q, none⟩ = w.cell? ⟨b', q, none⟩ := fun q => World.cell?_of_block (Below.heap_setCell _ _ _ _ (by show b' ≠ b; omega))
      have hmz : ((m : Int) == 0) = false := by simp; omega
      by_cases hpm : p < m
      · obtain ⟨z, hz0, hz1, hz⟩ := hcell p hpm
        have hcz : (w.setCell ⟨b, 1, none⟩ (.int .i64 (p + 1))).cell? ⟨b', o + p, none⟩ = some (.int .u8 z) := (hkeep _).trans hz
        clear hcode hh hcell hz hkeep
        go_enter Try.func57, Try.ntmps57
        go_wp2
        go_ret
        exact ⟨z % n, rfl, Int.emod_nonneg _ (by omega), fun h => Int.emod_lt_of_pos _ (by omega), fun h => absurd h (by omega), hst⟩
      · have hi1 : p % m < m := Nat.mod_lt _ (by omega)
        have hi2 : (p * 7 + 3) % m < m := Nat.mod_lt _ (by omega)
        obtain ⟨z, hz0, hz1, hz⟩ := hcell (p % m) hi1
        obtain ⟨y, hy0, hy1, hy⟩ := hcell ((p * 7 + 3) % m) hi2
        have hcz : (w.setCell ⟨b, 1, none⟩ (.int .i64 (p + 1))).cell? ⟨b', o + p % m, none⟩ = some (.int .u8 z) := (hkeep _).trans hz
        have hcy : (w.setCell ⟨b, 1, none⟩ (.int .i64 (p + 1))).cell? ⟨b', o + (p * 7 + 3) % m, none⟩ = some (.int .u8 y) := (hkeep _).trans hy
        obtain ⟨i1, e1⟩ : ∃ i, p % m = i := ⟨_, rfl⟩
        obtain ⟨i2, e2⟩ : ∃ i, (p * 7 + 3) % m = i := ⟨_, rfl⟩
        obtain ⟨q, e3⟩ : ∃ i, p / m = i := ⟨_, rfl⟩
        have hq : q ≤ p := by rw [← e3]; exact Nat.div_le_self _ _
        rw [e1] at hi1 hcz
        rw [e2] at hi2 hcy
        have ht1 : (p : Int).tmod m = (i1 : Int) := by rw [← e1]; rfl
        have ht2 : ((p : Int) * 7 + 3).tmod m = (i2 : Int) := by rw [← e2, show (p : Int) * 7 + 3 = ((p * 7 + 3 : Nat) : Int) by omega]; rfl
        have ht3 : (p : Int).tdiv m = (q : Int) := by rw [← e3]; rfl
        have k1 := IntWalk.i64_in ((p : Int) * 7) (by omega)
        have k2 := IntWalk.i64_in ((p : Int) * 7 + 3) (by omega)
        have k3 := IntWalk.i64_in (z * 131) (by omega)
        have k4 := IntWalk.i64_in (y * 1117) (by omega)
        have k5 := IntWalk.i64_in (z * 131 + y * 1117) (by omega)
        have k6 := IntWalk.i64_in ((p : Int) * 29) (by omega)
        have k7 := IntWalk.i64_in (z * 131 + y * 1117 + (p : Int) * 29) (by omega)
        have k8 := IntWalk.i64_in ((q : Int) * 53) (by omega)
        have k9 := IntWalk.i64_in (z * 131 + y * 1117 + (p : Int) * 29 + (q : Int) * 53) (by omega)
        have k10 := IntWalk.i64_in z (by omega)
        have k11 := IntWalk.i64_in y (by omega)
        have k12 := IntWalk.i64_in (i1 : Int) (by omega)
        have k13 := IntWalk.i64_in (i2 : Int) (by omega)
        have k14 := IntWalk.i64_in (q : Int) (by omega)
        have hb1 : (i1 : Int) < m := by omega
        have hb2 : (i2 : Int) < m := by omega
        have hx0 : 0 ≤ z * 131 + y * 1117 + (p : Int) * 29 + (q : Int) * 53 ∧ z * 131 + y * 1117 + (p : Int) * 29 + (q : Int) * 53 ≤ 4611686018427387904 := by omega
        have HX := Lib.hid hx0
        clear hcode hh hcell hz hkeep hy e1 e2 e3 hx0
        go_enter Try.func57, Try.ntmps57
        go_wp2
        go_quiet (fail)
        generalize hX : z * 131 + y * 1117 + (p : Int) * 29 + (q : Int) * 53 = X at HX ⊢
        obtain ⟨hX0, hX1⟩ := HX.out
        have hxor := xor_nonneg (a := X) (b := X / 64) hX0 hX1 (by omega) (by omega)
        clear hX k1 k2 k3 k4 k5 k6 k7 k8 k9 k10 k11 k12 k13 k14 ht1 ht2 ht3 hcz hcy hb1 hb2
        go_wp2
        go_ret
        exact ⟨_, rfl, Int.emod_nonneg _ (by omega), fun h => Int.emod_lt_of_pos _ (by omega), fun h => absurd h (by omega), hst.drewN _⟩

def OddPost (b p : Nat) (n : Int) (w : World) (e : Ending) (w' : World) : Prop :=
  ∃ v : Bool, e = .returned (.bool v) ∧ (n < 1 → v = false) ∧ Drew b p 1 w w'
theorem odd_any (b p : Nat) (n : Int) (w : World) (hr : Rd w b p) (hp : p ≤ 1000000) (hn : n ≤ 1000000) (hn0 : 0 ≤ n) :
    Calls Try.prog 67 #[.pointer (some ⟨b, 0, none⟩), .int .i64 n] w (OddPost b p n w) := by
  by_cases h : 0 < n
  · go_enter Try.func67, Try.ntmps67
    go_wp2_with fail
    refine (pick_any b p _ _ hr hp hn).mono ?_
    rintro e w' ⟨v, rfl, h0, h1, h2, hd⟩
    go_wp2_with fail
    go_ret
    exact ⟨_, rfl, fun h => absurd h (by omega), hd⟩
  · obtain rfl : n = 0 := by omega
    go_enter Try.func67, Try.ntmps67
    go_wp2_with fail
    go_ret
    exact ⟨_, rfl, fun _ => rfl, Drew.refl hr 1⟩

/-- l20Open: a reader in a new block -/
def OpenPost (w : World) (e : Ending) (w' : World) : Prop :=
  ∃ g, e = .returned (.pointer (some ⟨g, 0, none⟩)) ∧ w.heap.size ≤ g ∧ Rd w' g 0 ∧ Below w.heap.size w w'
theorem open_any (A : Option Addr) (n c : Nat) (w : World) (h : Bytes w w.heap.size A n) (hnc : n ≤ c) (hc : c ≤ maxLen) :
    Calls Try.prog 43 #[.slice A n c] w (OpenPost w) := by
  unfold maxLen at hc
  have mk : ∀ m, m ≤ n → m ≤ 2000 → Rd (w.alloc (.cells #[.slice A m c, .int .i64 0] 83)) w.heap.size 0 := fun m hm h2 => by
    refine ⟨A, m, c, heap_alloc_new w _, h2, fun hm0 => ?_⟩
    obtain ⟨b, o, e, hb, hcell⟩ := h (by omega)
    refine ⟨b, o, e, hb, fun j hj => ?_⟩
    obtain ⟨z, h1, h2, h3⟩ := hcell j (by omega)
    exact ⟨z, h1, h2, (World.cell?_alloc_lt w _ _ hb).trans h3⟩
  by_cases h2 : (2000 : Int) < n
  · have MK := Lib.hid (mk 2000 (by omega) (by omega))
    clear mk
    obtain ⟨b, o, rfl, hb, _⟩ := h (by omega)
    go_enter Try.func43, Try.ntmps43
    go_wp2
    go_ret
    exact ⟨_, rfl, Nat.le_refl _, MK.out, (Below.refl _ _).alloc (Nat.le_refl _) _⟩
  · have MK := Lib.hid (mk n (by omega) (by omega))
    clear mk
    go_enter Try.func43, Try.ntmps43
    go_wp2
    go_ret
    exact ⟨_, rfl, Nat.le_refl _, MK.out, (Below.refl _ _).alloc (Nat.le_refl _) _⟩
end Go.Proofs.Ytmolphaihapkkaa
