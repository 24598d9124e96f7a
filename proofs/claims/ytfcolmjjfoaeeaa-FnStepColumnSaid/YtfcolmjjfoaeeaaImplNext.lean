/- Contracts of the program's nextColumn, allPlaces, BitColumn and StepColumn. -/
import Derived.Test.YtfcolmjjfoaeeaaNextCol
import Derived.Test.YtfcolmjjfoaeeaaImplMask
import Derived.Test.YtfcolmjjfoaeeaaLwCols
namespace Go.Proofs.Ytfcolmjjfoaeeaa
open Go.RowKit
set_option maxHeartbeats 1600000
set_option linter.unusedSimpArgs false
set_option linter.unusedVariables false

theorem wrap_word (x : Int) : wrap64 x = (BitVec.ofInt 64 x).toInt := by
  rw [BitVec.toInt_ofInt]
  unfold wrap64 Int.bmod
  simp only []
  split <;> omega
theorem wrap_nat (z : BitVec 64) : IntKind.i64.wrap (z.toNat : Int) = z.toInt := by
  rw [IntKind.wrap_i64, BitVec.toInt_eq_toNat_cond]
  have := z.isLt
  split <;> omega
theorem and_word (x y : BitVec 64) : bits .and .i64 x.toInt y.toInt = (x &&& y).toInt := by
  show IntKind.i64.wrap ((BitVec.ofInt 64 x.toInt &&& BitVec.ofInt 64 y.toInt).toNat : Int) = _
  rw [BitVec.ofInt_toInt, BitVec.ofInt_toInt, wrap_nat]
theorem or_word (x y : BitVec 64) : bits .or .i64 x.toInt y.toInt = (x ||| y).toInt := by
  show IntKind.i64.wrap ((BitVec.ofInt 64 x.toInt ||| BitVec.ofInt 64 y.toInt).toNat : Int) = _
  rw [BitVec.ofInt_toInt, BitVec.ofInt_toInt, wrap_nat]
theorem xor_word (x y : BitVec 64) : bits .xor .i64 x.toInt y.toInt = (x ^^^ y).toInt := by
  show IntKind.i64.wrap ((BitVec.ofInt 64 x.toInt ^^^ BitVec.ofInt 64 y.toInt).toNat : Int) = _
  rw [BitVec.ofInt_toInt, BitVec.ofInt_toInt, wrap_nat]
theorem not_word (x : BitVec 64) : bits .xor .i64 (-1) x.toInt = (~~~x).toInt := by
  show IntKind.i64.wrap ((BitVec.ofInt 64 (-1) ^^^ BitVec.ofInt 64 x.toInt).toNat : Int) = _
  rw [BitVec.ofInt_toInt, show BitVec.ofInt 64 (-1) = BitVec.allOnes 64 from rfl, BitVec.allOnes_xor, wrap_nat]
theorem add_word (x y : BitVec 64) : wrap64 (x.toInt + y.toInt) = (x + y).toInt := by
  rw [wrap_word, BitVec.ofInt_add, BitVec.ofInt_toInt, BitVec.ofInt_toInt]
theorem twice_word (x : BitVec 64) : wrap64 (x.toInt * 2) = (x <<< 1).toInt := by
  rw [wrap_word, BitVec.ofInt_mul, BitVec.ofInt_toInt, BitVec.shiftLeft_eq_mul_twoPow]
  rfl

def keptI (s u d : Int) : Int := bits .or .i64 (bits .or .i64 (bits .xor .i64 (wrap64 (bits .and .i64 s u + u)) u) s) d
def growI (s u d : Int) : Int := bits .or .i64 (wrap64 (bits .or .i64 d (bits .xor .i64 (-1) (bits .or .i64 (keptI s u d) u)) * 2)) 1
def sinkI (s u d : Int) : Int := wrap64 (bits .and .i64 (keptI s u d) u * 2)
def nextUp (all s u d : Int) : Int := bits .and .i64 (bits .or .i64 (sinkI s u d) (bits .xor .i64 (-1) (bits .or .i64 (keptI s u d) (growI s u d)))) all
def nextDown (s u d : Int) : Int := bits .and .i64 (growI s u d) (keptI s u d)
theorem keptI_word (s u d : BitVec 64) : keptI s.toInt u.toInt d.toInt = (keptW s u d).toInt := by
  unfold keptI keptW
  rw [and_word, add_word, xor_word, or_word, or_word]
theorem growI_word (s u d : BitVec 64) : growI s.toInt u.toInt d.toInt = (grow1 s u d).toInt := by
  unfold growI grow1 growW
  rw [keptI_word, or_word, not_word, or_word, twice_word, show (1 : Int) = (1#64).toInt from rfl, or_word]
theorem sinkI_word (s u d : BitVec 64) : sinkI s.toInt u.toInt d.toInt = (sink1 s u d).toInt := by
  unfold sinkI sink1 sinkW
  rw [keptI_word, and_word, twice_word]
theorem nextUp_word (all s u d : BitVec 64) : nextUp all.toInt s.toInt u.toInt d.toInt = (upW all s u d).toInt := by
  unfold nextUp upW
  rw [keptI_word, growI_word, sinkI_word, or_word, not_word, or_word, and_word]
theorem nextDown_word (s u d : BitVec 64) : nextDown s.toInt u.toInt d.toInt = (downW s u d).toInt := by
  unfold nextDown downW
  rw [keptI_word, growI_word, and_word]
theorem mask_word (p : Nat → Bool) (n : Nat) (hn : n ≤ 12) : (maskN p n : Int) = (wd p n).toInt := by
  have h := mask_small p (k := n) (by omega)
  unfold wd
  rw [BitVec.toInt_eq_toNat_cond, BitVec.toNat_ofNat]
  generalize maskN p n = x at *
  split <;> omega
theorem all_mask (n : Nat) : ((2 ^ n - 1 : Nat) : Int) = (maskN (fun _ => true) n : Int) := by rw [maskN_all]
theorem nextUp_is (a b : List UInt8) (c : UInt8) (ha : a.length ≤ 12) : nextUp ((2 ^ a.length - 1 : Nat) : Int) (maskN (hasAt a (c.toNat : Int)) a.length : Int) (upN a b : Int) (downN a b : Int) = (upN a (b ++ [c]) : Int) := by
  unfold upN downN
  rw [all_mask, mask_word _ _ ha, mask_word _ _ ha, mask_word _ _ ha, mask_word _ _ ha, mask_word _ _ ha, nextUp_word, upW_is a b c ha]
theorem nextDown_is (a b : List UInt8) (c : UInt8) (ha : a.length ≤ 12) : nextDown (maskN (hasAt a (c.toNat : Int)) a.length : Int) (upN a b : Int) (downN a b : Int) = (downN a (b ++ [c]) : Int) := by
  unfold upN downN
  rw [mask_word _ _ ha, mask_word _ _ ha, mask_word _ _ ha, mask_word _ _ ha, nextDown_word, downW_is a b c ha]

theorem nextColumn_any (all same up down : Int) (w : World) :
    Calls Try.prog 36 #[.int .i64 all, .int .i64 same, .int .i64 up, .int .i64 down] w fun e w' => e = .returned (.tuple #[.int .i64 (nextUp all same up down), .int .i64 (nextDown same up down)]) ∧ w' = w := by
  go_enter Try.func36, Try.ntmps36
  go_wp2_with fail
  go_ret2
  exact ⟨rfl, rfl⟩
theorem nextColumn_impl {a b : List UInt8} {c : UInt8} (ha : a.length ≤ 12) {n : Nat} (hn : a.length = n) (w : World) :
    Calls Try.prog 36 #[.int .i64 ((2 ^ n - 1 : Nat) : Int), .int .i64 (maskN (hasAt a (c.toNat : Int)) n : Int), .int .i64 (upN a b : Int), .int .i64 (downN a b : Int)] w fun e w' =>
      e = .returned (.tuple #[.int .i64 (upN a (b ++ [c]) : Int), .int .i64 (downN a (b ++ [c]) : Int)]) ∧ w' = w := by
  subst hn
  have h := nextColumn_any ((2 ^ a.length - 1 : Nat) : Int) (maskN (hasAt a (c.toNat : Int)) a.length : Int) (upN a b : Int) (downN a b : Int) w
  rw [nextUp_is a b c ha, nextDown_is a b c ha] at h
  exact h
theorem nextColumn_is {a b : List UInt8} {c : UInt8} (ha : a.length ≤ 12) {n : Nat} (hn : a.length = n) {al y u d : Int} (h1 : al = ((2 ^ n - 1 : Nat) : Int)) (h2 : y = (maskN (hasAt a (c.toNat : Int)) n : Int)) (h3 : u = (upN a b : Int)) (h4 : d = (downN a b : Int)) (w : World) :
    Calls Try.prog 36 #[.int .i64 al, .int .i64 y, .int .i64 u, .int .i64 d] w fun e w' =>
      e = .returned (.tuple #[.int .i64 (upN a (b ++ [c]) : Int), .int .i64 (downN a (b ++ [c]) : Int)]) ∧ w' = w := by
  subst h1 h2 h3 h4; exact nextColumn_impl ha hn w
theorem allPlaces_impl (n : Nat) (w : World) (h2 : n ≤ 12) :
    Calls Try.prog 35 #[.int .i64 (n : Int)] w fun e w' => e = .returned (.int .i64 ((2 ^ n - 1 : Nat) : Int)) ∧ w' = w := by
  have hp := pow_i64 (k := n) (by omega)
  have h1 : wrap64 (((2 ^ n : Nat) : Int) - 1) = ((2 ^ n - 1 : Nat) : Int) := by
    have := pow_small (k := n) (by omega)
    have := Nat.two_pow_pos n
    generalize 2 ^ n = x at *
    unfold wrap64
    omega
  go_enter Try.func35, Try.ntmps35
  go_wp2_with fail
  go_ret
  refine ⟨ret_int ?_, rfl⟩
  rw [two_pow_cast, h1]
theorem bitColumn_impl : ColumnC := by
  intro a b w ha hb
  have ha' := ha
  have hb' := hb
  unfold maxLen at ha hb
  cases hva : wordB a.data.toList
  · have HN := Lib.hid (colV_no (a := a.data.toList) (b := b.data.toList) (by rw [hva]; rfl))
    have HA := Lib.hid hva
    clear hva
    go_enter Try.func17, Try.ntmps17
    go_wp2_with fail
    refine (wordValid_impl _ _ ha').mono ?_
    rintro e w' ⟨rfl, rfl⟩
    rw [HA.out]
    go_wp2_with fail
    go_ret2
    exact ⟨by rw [HN.out]; rfl, Below.refl _ _⟩
  · cases hvb : wordB b.data.toList
    · have HN := Lib.hid (colV_no (a := a.data.toList) (b := b.data.toList) (by rw [hva, hvb]; rfl))
      have HA := Lib.hid hva
      have HB := Lib.hid hvb
      clear hva hvb
      go_enter Try.func17, Try.ntmps17
      go_wp2_with fail
      refine (wordValid_impl _ _ ha').mono ?_
      rintro e w' ⟨rfl, rfl⟩
      rw [HA.out]
      go_wp2_with fail
      refine (wordValid_impl _ _ hb').mono ?_
      rintro e w' ⟨rfl, rfl⟩
      rw [HB.out]
      go_wp2_with fail
      go_ret2
      exact ⟨by rw [HN.out]; rfl, Below.refl _ _⟩
    · have HN := Lib.hid (colV_yes (a := a.data.toList) (b := b.data.toList) (by rw [hva, hvb]; rfl))
      have ha2 := word_size hva
      have hb2 := word_size hvb
      have HA := Lib.hid hva
      have HB := Lib.hid hvb
      clear hva hvb
      go_enter Try.func17, Try.ntmps17
      go_wp2_with fail
      refine (wordValid_impl _ _ ha').mono ?_
      rintro e w' ⟨rfl, rfl⟩
      rw [HA.out]
      go_wp2_with fail
      refine (wordValid_impl _ _ hb').mono ?_
      rintro e w' ⟨rfl, rfl⟩
      rw [HB.out]
      go_wp2_with fail
      refine (masksOf_impl HA.out _).mono ?_
      rintro e w1 ⟨rfl, hb1⟩
      have hz : OwnL (w1.alloc (.cells #[.int .i64 0, .int .i64 0, .int .i64 0, .int .i64 0, .int .i64 0, .int .i64 0, .int .i64 0, .int .i64 0, .int .i64 0, .int .i64 0, .int .i64 0, .int .i64 0, .int .i64 0, .int .i64 0, .int .i64 0, .int .i64 0, .int .i64 0, .int .i64 0, .int .i64 0, .int .i64 0, .int .i64 0, .int .i64 0, .int .i64 0, .int .i64 0, .int .i64 0, .int .i64 0] 49)) w.heap.size w1.heap.size (fun _ => 0) := ⟨hb1.size, heap_alloc_new w1 _⟩
      go_wp2_with (with_reducible refine wp_store_abc rfl (.tmp 6) (.tmp 20) rfl w.heap.size w1.heap.size (fun _ => 0) _ rfl rfl hz ?_)
      have hown := hz.rowed (f' := fun i => (placeN a a.size i : Int))
      have hbel := below_setRow (hb1.alloc hb1.size (.cells #[.int .i64 0, .int .i64 0, .int .i64 0, .int .i64 0, .int .i64 0, .int .i64 0, .int .i64 0, .int .i64 0, .int .i64 0, .int .i64 0, .int .i64 0, .int .i64 0, .int .i64 0, .int .i64 0, .int .i64 0, .int .i64 0, .int .i64 0, .int .i64 0, .int .i64 0, .int .i64 0, .int .i64 0, .int .i64 0, .int .i64 0, .int .i64 0, .int .i64 0, .int .i64 0] 49)) hb1.size (abc fun i => (placeN a a.size i : Int))
      clear hb1 hz
      generalize ((w1.alloc (.cells #[.int .i64 0, .int .i64 0, .int .i64 0, .int .i64 0, .int .i64 0, .int .i64 0, .int .i64 0, .int .i64 0, .int .i64 0, .int .i64 0, .int .i64 0, .int .i64 0, .int .i64 0, .int .i64 0, .int .i64 0, .int .i64 0, .int .i64 0, .int .i64 0, .int .i64 0, .int .i64 0, .int .i64 0, .int .i64 0, .int .i64 0, .int .i64 0, .int .i64 0, .int .i64 0] 49)).setRow w1.heap.size (abc fun i => (placeN a a.size i : Int))) = W at *
      go_wp2_with fail
      refine (allPlaces_impl a.size _ ha2).mono ?_
      rintro e w2 ⟨rfl, rfl⟩
      have HU := Lib.hid (show ((2 ^ a.size - 1 : Nat) : Int) = (upN a.data.toList [] : Int) by rw [up_empty, len_eq])
      have HD := Lib.hid (show (0 : Int) = (downN a.data.toList [] : Int) by rw [down_empty]; rfl)
      obtain ⟨al, hal⟩ : ∃ al : Int, al = ((2 ^ a.size - 1 : Nat) : Int) := ⟨_, rfl⟩
      rw [← hal] at HU ⊢
      have HAL := Lib.hid hal
      clear hal
      go_wp2_with fail
      go_loopw [8, 9, 27] (fun u d i wr => ∃ k : Nat, k ≤ b.size ∧ i = .int .i64 k ∧ u = .int .i64 (upN a.data.toList (b.data.toList.take k) : Int) ∧ d = .int .i64 (downN a.data.toList (b.data.toList.take k) : Int) ∧ OwnL wr w.heap.size w1.heap.size (fun i => (placeN a a.size i : Int)) ∧ Below w.heap.size w wr) (fun _ _ i _ => b.size - (intOf i).toNat)
      case atStart => exact ⟨0, Nat.zero_le _, rfl, by rw [HU.out]; rfl, by rw [HD.out]; rfl, hown, hbel⟩
      case round =>
        clear hown hbel HU HD
        obtain ⟨k, hk, rfl, rfl, rfl, hown, hbel⟩ := hrel
        by_cases hlt : k < b.size
        · obtain ⟨p, hp, hap⟩ := letter_at HB.out hlt
          have hc := hown.at_ hp
          have HT := Lib.hid (show b.data.toList.take (k + 1) = b.data.toList.take k ++ [b[k]] by rw [← List.take_append_getElem (show k < b.data.toList.length by rw [len_eq]; exact hlt)]; rfl)
          have HP := Lib.hid (show (placeN a a.size p : Int) = (maskN (hasAt a.data.toList (b[k].toNat : Int)) a.size : Int) by unfold placeN; rw [hap]; rfl)
          obtain ⟨y, hy⟩ : ∃ y : Int, y = (placeN a a.size p : Int) := ⟨_, rfl⟩
          rw [← hy] at hc HP
          have HY := Lib.hid HP.out
          clear HP hy
          obtain ⟨u, hu⟩ : ∃ u : Int, u = (upN a.data.toList (b.data.toList.take k) : Int) := ⟨_, rfl⟩
          obtain ⟨d, hd⟩ : ∃ d : Int, d = (downN a.data.toList (b.data.toList.take k) : Int) := ⟨_, rfl⟩
          rw [← hu, ← hd]
          have HU := Lib.hid hu
          have HD := Lib.hid hd
          have hx : (b[k].toNat : Int) = 97 + (p : Int) := by omega
          have hk0 : (0 : Int) ≤ (k : Int) := by omega
          have hk1 : (k : Int) < (b.size : Int) := by omega
          have hp0 : (0 : Int) ≤ (p : Int) := by omega
          have hp1 : (p : Int) < 26 := by omega
          have hw0 : IntKind.u8.wrap (97 + (p : Int) - 97) = (p : Int) := by rw [IntWalk.u8_in _ (by omega)]; omega
          have HO := Lib.hid hown
          have HBL := Lib.hid hbel
          clear hu hd hown hbel
          go_wp2_with fail
          refine (nextColumn_is (a := a.data.toList) (b := b.data.toList.take k) (c := b[k]) (by rw [len_eq]; exact ha2) (len_eq a) HAL.out HY.out HU.out HD.out _).mono ?_
          rintro e w2 ⟨rfl, rfl⟩
          rw [← HT.out]
          go_wp2_with fail
          go_roundw
          case rel => exact ⟨k + 1, by omega, by go_num, rfl, rfl, HO.out, HBL.out⟩
          case measure => simp [intOf]; omega
        · obtain rfl : k = b.size := by omega
          have HT := Lib.hid (show b.data.toList.take b.size = b.data.toList from List.take_of_length_le (by rw [len_eq]; exact Nat.le_refl _))
          rw [HT.out]
          go_wp2_with fail
          go_ret2
          exact ⟨by rw [HN.out]; rfl, hbel⟩
end Go.Proofs.Ytfcolmjjfoaeeaa
