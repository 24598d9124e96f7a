/- Contract of the model's distance over beginnings. -/
import Derived.Test.YtmolphaihapkkaaDist
import Derived.Test.YtmolphaihapkkaaInts
import Derived.Deep.RegionHeld3
import Derived.Deep.RegionLaw
import Derived.Deep.RegionWith
namespace Go.Proofs.Ytmolphaihapkkaa
open Go.RowKit
set_option maxHeartbeats 1600000
set_option linter.unusedSimpArgs false
set_option linter.unusedVariables false

/-- the first m numbers of a row -/
def upto (f : Nat → Nat) (m : Nat) : List Int := (List.range m).map fun j => (f j : Int)
theorem upto_zero (f : Nat → Nat) : upto f 0 = [] := rfl
theorem upto_succ (f : Nat → Nat) (m : Nat) : upto f (m + 1) = upto f m ++ [(f m : Int)] := by unfold upto; rw [List.range_succ, List.map_append]; rfl
theorem upto_len (f : Nat → Nat) (m : Nat) : (upto f m).length = m := by unfold upto; simp
theorem upto_get (f : Nat → Nat) {m j : Nat} (h : j < m) : (upto f m)[j]? = some (f j : Int) := by unfold upto; simp [h]
theorem upto_eq {f g : Nat → Nat} {m : Nat} (h : ∀ j, j < m → f j = g j) : upto f m = upto g m := by
  unfold upto
  apply List.map_congr_left
  intro j hj
  rw [h j (List.mem_range.1 hj)]
theorem upto_one (f : Nat → Nat) : upto f 1 = [(f 0 : Int)] := rfl

/-- the number at a place of the table of two texts -/
noncomputable def dist (a b : ByteArray) (i j : Nat) : Nat := cell false a.data.toList b.data.toList i j
theorem dist_top (a b : ByteArray) {j : Nat} (hj : j ≤ b.size) : dist a b 0 j = j := cell_top _ _ _ _ (by simpa using hj)
theorem dist_left (a b : ByteArray) {i : Nat} (hi : i ≤ a.size) : dist a b i 0 = i := cell_left _ _ _ _ (by simpa using hi)
theorem dist_le (a b : ByteArray) (i j : Nat) : dist a b i j ≤ max i j := cell_le _ _ _ _ _
theorem dist_last (a b : ByteArray) : dist a b a.size b.size = ed false a.data.toList b.data.toList := by
  have h := cell_last false a.data.toList b.data.toList
  simpa [dist] using h
theorem dist_same (a b : ByteArray) (i j : Nat) (hi : i < a.size) (hj : j < b.size) (h : a[i] = b[j]) : dist a b (i + 1) (j + 1) = dist a b i j :=
  cell_same _ _ i j (by simpa using hi) (by simpa using hj) h
theorem dist_step (a b : ByteArray) (i j : Nat) (hi : i < a.size) (hj : j < b.size) : dist a b (i + 1) (j + 1) = min (dist a b i j + if a[i] = b[j] then 0 else 1) (min (dist a b i (j + 1)) (dist a b (i + 1) j) + 1) :=
  cell_step _ _ i j (by simpa using hi) (by simpa using hj)
theorem dist_eq (a b : ByteArray) (i j : Nat) (hi : i < a.size) (hj : j < b.size) (h : ((a[i].toNat : Int) == b[j].toNat) = true) : dist a b (i + 1) (j + 1) = min (dist a b i j) (min (dist a b i (j + 1)) (dist a b (i + 1) j) + 1) := by
  have he : a[i] = b[j] := by simp only [beq_iff_eq] at h; exact UInt8.toNat_inj.1 (by omega)
  rw [dist_step a b i j hi hj, if_pos he]; rfl
theorem dist_ne (a b : ByteArray) (i j : Nat) (hi : i < a.size) (hj : j < b.size) (h : ((a[i].toNat : Int) == b[j].toNat) = false) : dist a b (i + 1) (j + 1) = min (dist a b i j + 1) (min (dist a b i (j + 1)) (dist a b (i + 1) j) + 1) := by
  have he : a[i] ≠ b[j] := by intro he; rw [he] at h; simp at h
  rw [dist_step a b i j hi hj, if_neg he]

theorem l2Distance_any (a b : ByteArray) (w : World) (ha : a.size ≤ 12) (hb : b.size ≤ 12) :
    Calls Try.prog 62 #[.string a, .string b] w fun e w' => e = .returned (.int .i64 (ed false a.data.toList b.data.toList)) ∧ Below w.heap.size w w' := by
  have hs0 : OwnI (w.alloc (.cells #[] 3)) w.heap.size w.heap.size 0 0 (upto (dist a b 0) 0) ∧ Below w.heap.size w (w.alloc (.cells #[] 3)) := ⟨OwnI.empty w, (Below.refl _ _).alloc (Nat.le_refl _) _⟩
  have HS0 := Lib.hid hs0
  clear hs0
  go_enter Try.func62, Try.ntmps62
  go_wp2_with fail
  go_loopw [5, 6] (fun v i wr => ∃ k g cap : Nat, k ≤ b.size + 1 ∧ i = .int .i64 k ∧ v = .slice (some ⟨g, 0, none⟩) k cap ∧ OwnI wr w.heap.size g k cap (upto (dist a b 0) k) ∧ Below w.heap.size w wr) (fun _ i _ => b.size + 1 - (intOf i).toNat)
  case atStart => exact ⟨0, _, _, Nat.zero_le _, rfl, rfl, HS0.out.1, HS0.out.2⟩
  case round =>
    obtain ⟨k, g, cap, hk, rfl, rfl, hown, hbel⟩ := hrel
    by_cases hlt : k ≤ b.size
    · have htop := dist_top a b hlt
      have hsucc := upto_succ (dist a b 0) k
      rw [htop] at hsucc
      have HU := Lib.hid hsucc
      clear htop hsucc
      go_wp2_with
        (at_builtin
         refine wp_append_int rfl (.tmp 18) (.tmp 20) rfl w.heap.size g k cap 1 wr.heap.size _ (k : Int) rfl (hown.alloc _) rfl ((OwnI.lit wr (k : Int)).at_ (k := 0) rfl) (by have := hbel.size; simp; omega) (by omega) ?_
         intro g2 cap2 w2 hown2 hg2 hat2 hst2)
      go_wp2_with fail
      go_roundw
      case rel =>
        rw [← HU.out] at hown2
        exact ⟨k + 1, g2, cap2, by omega, by go_num, rfl, hown2, (hbel.alloc hbel.size _).grown hg2 (by have := hbel.size; simp; omega) (fun j hj => by injection hj with hj; have := hown.lt.1; omega)⟩
      case measure => simp [intOf]; omega
    · obtain rfl : k = b.size + 1 := by omega
      have hb2 := hbel.size
      go_wp2_with fail
      go_loopw [5, 7] (fun v i wr => ∃ k g cap : Nat, k ≤ a.size ∧ i = .int .i64 ((k : Int) + 1) ∧ v = .slice (some ⟨g, 0, none⟩) (b.size + 1) cap ∧ OwnI wr w.heap.size g (b.size + 1) cap (upto (dist a b k) (b.size + 1)) ∧ Below w.heap.size w wr) (fun _ i _ => a.size + 1 - (intOf i).toNat)
      case atStart => exact ⟨0, g, cap, Nat.zero_le _, rfl, rfl, hown, hbel⟩
      case round =>
        clear hown hbel hb2
        obtain ⟨k, g, cap, hk, rfl, rfl, hown, hbel⟩ := hrel
        by_cases hlt : k < a.size
        · have hnew : OwnI (wr.alloc (.cells #[.int .i64 ((k : Int) + 1)] 3)) w.heap.size wr.heap.size 1 1 (upto (dist a b (k + 1)) 1) := by
            rw [upto_one, dist_left a b (show k + 1 ≤ a.size by omega)]
            exact (OwnI.lit wr _).mono hbel.size
          have HN := Lib.hid hnew
          clear hnew
          have hgl := hown.lt
          go_wp2_with fail
          go_loopw [8, 9] (fun v i wr => ∃ m g2 cap2 : Nat, m ≤ b.size ∧ i = .int .i64 ((m : Int) + 1) ∧ v = .slice (some ⟨g2, 0, none⟩) (m + 1) cap2 ∧ g ≠ g2 ∧ OwnI wr w.heap.size g2 (m + 1) cap2 (upto (dist a b (k + 1)) (m + 1)) ∧ OwnI wr w.heap.size g (b.size + 1) cap (upto (dist a b k) (b.size + 1)) ∧ Below w.heap.size w wr) (fun _ i _ => b.size + 1 - (intOf i).toNat)
          case atStart => exact ⟨0, _, _, Nat.zero_le _, rfl, rfl, by omega, HN.out, hown.alloc _, hbel.alloc hbel.size _⟩
          case round =>
            clear HN hown hbel hgl
            obtain ⟨m, g2, cap2, hm, rfl, rfl, hne, hown2, hown, hbel⟩ := hrel
            by_cases hlm : m < b.size
            · have hc1 := hown.at_ (upto_get (dist a b k) (show m < b.size + 1 by omega))
              have hc2 := hown.at_ (upto_get (dist a b k) (show m + 1 < b.size + 1 by omega))
              have hc3 := hown2.at_ (upto_get (dist a b (k + 1)) (show m < m + 1 by omega))
              have l1 := dist_le a b k m
              have l2 := dist_le a b k (m + 1)
              have l3 := dist_le a b (k + 1) m
              have hgl := hown.lt
              have hgl2 := hown2.lt
              have hsz := hbel.size
              by_cases h3 : ((a[k].toNat : Int) == b[m].toNat) = true
              · have hd := dist_eq a b k m hlt hlm h3
                have hsucc := upto_succ (dist a b (k + 1)) (m + 1)
                rw [hd] at hsucc
                have HU := Lib.hid hsucc
                clear hd hsucc
                have HX := Lib.hid (upto_get (dist a b k) (show m < b.size + 1 by omega))
                have HY := Lib.hid (upto_get (dist a b k) (show m + 1 < b.size + 1 by omega))
                have HZ := Lib.hid (upto_get (dist a b (k + 1)) (show m < m + 1 by omega))
                generalize dist a b k m = x at *
                generalize dist a b k (m + 1) = y at *
                generalize dist a b (k + 1) m = z at *
                have hm0 : (0 : Int) ≤ (m : Int) := by omega
                have hm1 : (m : Int) < (b.size : Int) := by omega
                have hk0 : (0 : Int) ≤ (k : Int) := by omega
                have hk1 : (k : Int) < (a.size : Int) := by omega
                go_wp2_with fail
                go_quiet (fail)
                go_wp2_with fail
                generalize hW : wr.drewN nq = W
                have hdW : Drawn wr W := ⟨nq, hW.symm⟩
                have hc1 : W.cell? ⟨g, m, none⟩ = some (.int .i64 x) := (hdW.cell _).trans hc1
                have hc2 : W.cell? ⟨g, m + 1, none⟩ = some (.int .i64 y) := (hdW.cell _).trans hc2
                have hc3 : W.cell? ⟨g2, m, none⟩ = some (.int .i64 z) := (hdW.cell _).trans hc3
                have hown := hown.drawn hdW
                have hown2 := hown2.drawn hdW
                have hbel := below_step hbel (Nat.le_refl _) hdW.below
                have hgl := hown.lt
                have hgl2 := hown2.lt
                have hsz := hbel.size
                clear hW hdW
                have hw1 := IntWalk.i64_in (m : Int) (by omega)
                have hw2 : IntKind.i64.wrap ((m : Int) + 1 - 1) = (m : Int) := by rw [Int.add_sub_cancel]; exact hw1
                have hx1 : (m : Int) < (b.size : Int) + 1 := by omega
                have hx2 : (m : Int) + 1 < (b.size : Int) + 1 := by omega
                have hx3 : (0 : Int) ≤ (m : Int) + 1 := by omega
                have hx4 : (m : Int) < (m : Int) + 1 := by omega
                have hy1 : (m : Int) < ((b.size + 1 : Nat) : Int) := by omega
                have hy2 : (m : Int) + 1 < ((b.size + 1 : Nat) : Int) := by omega
                have hy4 : (m : Int) < ((m + 1 : Nat) : Int) := by omega
                have HV : ∃ v : Int, (if IntKind.i64.wrap ((if z < y then (z : Int) else (y : Int)) + 1) < IntKind.i64.wrap (x : Int) then IntKind.i64.wrap ((if z < y then (z : Int) else (y : Int)) + 1) else IntKind.i64.wrap (x : Int)) = v ∧ v = ((min x (min y z + 1) : Nat) : Int) := by
                  refine ⟨_, rfl, ?_⟩
                  rw [IntWalk.i64_in (x : Int) (by omega), IntWalk.i64_in ((if z < y then (z : Int) else (y : Int)) + 1) (by split <;> omega)]
                  split <;> split <;> omega
                go_region_held3 (fun w' => w'.cell? ⟨g, m, none⟩ = some (.int .i64 x) ∧ w'.cell? ⟨g, m + 1, none⟩ = some (.int .i64 y) ∧ w'.cell? ⟨g2, m, none⟩ = some (.int .i64 z))
                  (first | go_keep | assumption)
                  (((with_reducible refine step_append_int ?_ (.tmp 45) (.tmp 65) ?_ w.heap.size g2 (m + 1) cap2 1 W.heap.size (upto (dist a b (k + 1)) (m + 1)) _ ?_ ((hown2.alloc _).drawn (Drawn.drew1 _)) ?_ (((OwnI.lit W (if IntKind.i64.wrap ((if z < y then (z : Int) else (y : Int)) + 1) < IntKind.i64.wrap (x : Int) then IntKind.i64.wrap ((if z < y then (z : Int) else (y : Int)) + 1) else IntKind.i64.wrap (x : Int))).drawn (Drawn.drew1 _)).at_ (k := 0) rfl) ?_ ?_ ?_)
                    · rfl
                    · rfl
                    · rfl
                    · rfl
                    · first | (simp; done) | (simp; omega)
                    · omega
                    intro g6 cap6 w6 hown6 hg6 hat6 hst6
                    have hb6 : Below w.heap.size w w6 := (hbel.alloc hsz _).drew.grown hg6 (by first | (simp; done) | (simp; omega)) (by intro j hj; injection hj with hj; omega)
                    have hown6' := ((hown.alloc _).drawn (Drawn.drew1 _)).grown hg6 hne
                    have hc1' : w6.cell? ⟨g, m, none⟩ = some (.int .i64 x) := hown6'.at_ HX.out
                    have hc2' : w6.cell? ⟨g, m + 1, none⟩ = some (.int .i64 y) := hown6'.at_ HY.out
                    have hc3' : w6.cell? ⟨g2, m, none⟩ = some (.int .i64 z) := (hst6 m (by omega)).trans (((hown2.alloc _).drawn (Drawn.drew1 _)).at_ HZ.out)
                    have hlt6 := hown6.lt
                    have hne6 : g ≠ g6 := by
                      rcases hat6 with h | ⟨h, _⟩
                      · omega
                      · intro he; rw [← he] at h; simp at h; omega
                    clear hat6 hst6))
                obtain ⟨vv, hvv, hv2⟩ := HV
                rw [hvv, hv2, ← HU.out] at hown6
                go_wp2_with fail
                all_goals
                  go_roundw
                  case rel => exact ⟨m + 1, by omega, by go_num, g6, cap6, ⟨rfl, rfl, rfl⟩, by first | exact ⟨hne6, hown6, hown6', hb6⟩ | exact ⟨hne6, hown6⟩⟩
                  case measure => simp [intOf]; omega
              · have h3 : ((a[k].toNat : Int) == b[m].toNat) = false := by simpa using h3
                have hd := dist_ne a b k m hlt hlm h3
                have hsucc := upto_succ (dist a b (k + 1)) (m + 1)
                rw [hd] at hsucc
                have HU := Lib.hid hsucc
                clear hd hsucc
                have HX := Lib.hid (upto_get (dist a b k) (show m < b.size + 1 by omega))
                have HY := Lib.hid (upto_get (dist a b k) (show m + 1 < b.size + 1 by omega))
                have HZ := Lib.hid (upto_get (dist a b (k + 1)) (show m < m + 1 by omega))
                generalize dist a b k m = x at *
                generalize dist a b k (m + 1) = y at *
                generalize dist a b (k + 1) m = z at *
                have hm0 : (0 : Int) ≤ (m : Int) := by omega
                have hm1 : (m : Int) < (b.size : Int) := by omega
                have hk0 : (0 : Int) ≤ (k : Int) := by omega
                have hk1 : (k : Int) < (a.size : Int) := by omega
                go_wp2_with fail
                go_quiet (fail)
                go_wp2_with fail
                generalize hW : wr.drewN nq = W
                have hdW : Drawn wr W := ⟨nq, hW.symm⟩
                have hc1 : W.cell? ⟨g, m, none⟩ = some (.int .i64 x) := (hdW.cell _).trans hc1
                have hc2 : W.cell? ⟨g, m + 1, none⟩ = some (.int .i64 y) := (hdW.cell _).trans hc2
                have hc3 : W.cell? ⟨g2, m, none⟩ = some (.int .i64 z) := (hdW.cell _).trans hc3
                have hown := hown.drawn hdW
                have hown2 := hown2.drawn hdW
                have hbel := below_step hbel (Nat.le_refl _) hdW.below
                have hgl := hown.lt
                have hgl2 := hown2.lt
                have hsz := hbel.size
                clear hW hdW
                have hw1 := IntWalk.i64_in (m : Int) (by omega)
                have hw2 : IntKind.i64.wrap ((m : Int) + 1 - 1) = (m : Int) := by rw [Int.add_sub_cancel]; exact hw1
                have hx1 : (m : Int) < (b.size : Int) + 1 := by omega
                have hx2 : (m : Int) + 1 < (b.size : Int) + 1 := by omega
                have hx3 : (0 : Int) ≤ (m : Int) + 1 := by omega
                have hx4 : (m : Int) < (m : Int) + 1 := by omega
                have hy1 : (m : Int) < ((b.size + 1 : Nat) : Int) := by omega
                have hy2 : (m : Int) + 1 < ((b.size + 1 : Nat) : Int) := by omega
                have hy4 : (m : Int) < ((m + 1 : Nat) : Int) := by omega
                have HV : ∃ v : Int, (if IntKind.i64.wrap ((if z < y then (z : Int) else (y : Int)) + 1) < IntKind.i64.wrap ((x : Int) + 1) then IntKind.i64.wrap ((if z < y then (z : Int) else (y : Int)) + 1) else IntKind.i64.wrap ((x : Int) + 1)) = v ∧ v = ((min (x + 1) (min y z + 1) : Nat) : Int) := by
                  refine ⟨_, rfl, ?_⟩
                  rw [IntWalk.i64_in ((x : Int) + 1) (by omega), IntWalk.i64_in ((if z < y then (z : Int) else (y : Int)) + 1) (by split <;> omega)]
                  split <;> split <;> omega
                go_region_held3 (fun w' => w'.cell? ⟨g, m, none⟩ = some (.int .i64 x) ∧ w'.cell? ⟨g, m + 1, none⟩ = some (.int .i64 y) ∧ w'.cell? ⟨g2, m, none⟩ = some (.int .i64 z))
                  (first | go_keep | assumption)
                  (((with_reducible refine step_append_int ?_ (.tmp 45) (.tmp 65) ?_ w.heap.size g2 (m + 1) cap2 1 W.heap.size (upto (dist a b (k + 1)) (m + 1)) _ ?_ ((hown2.alloc _).drawn (Drawn.drew1 _)) ?_ (((OwnI.lit W (if IntKind.i64.wrap ((if z < y then (z : Int) else (y : Int)) + 1) < IntKind.i64.wrap ((x : Int) + 1) then IntKind.i64.wrap ((if z < y then (z : Int) else (y : Int)) + 1) else IntKind.i64.wrap ((x : Int) + 1))).drawn (Drawn.drew1 _)).at_ (k := 0) rfl) ?_ ?_ ?_)
                    · rfl
                    · rfl
                    · rfl
                    · rfl
                    · first | (simp; done) | (simp; omega)
                    · omega
                    intro g6 cap6 w6 hown6 hg6 hat6 hst6
                    have hb6 : Below w.heap.size w w6 := (hbel.alloc hsz _).drew.grown hg6 (by first | (simp; done) | (simp; omega)) (by intro j hj; injection hj with hj; omega)
                    have hown6' := ((hown.alloc _).drawn (Drawn.drew1 _)).grown hg6 hne
                    have hc1' : w6.cell? ⟨g, m, none⟩ = some (.int .i64 x) := hown6'.at_ HX.out
                    have hc2' : w6.cell? ⟨g, m + 1, none⟩ = some (.int .i64 y) := hown6'.at_ HY.out
                    have hc3' : w6.cell? ⟨g2, m, none⟩ = some (.int .i64 z) := (hst6 m (by omega)).trans (((hown2.alloc _).drawn (Drawn.drew1 _)).at_ HZ.out)
                    have hlt6 := hown6.lt
                    have hne6 : g ≠ g6 := by
                      rcases hat6 with h | ⟨h, _⟩
                      · omega
                      · intro he; rw [← he] at h; simp at h; omega
                    clear hat6 hst6))
                obtain ⟨vv, hvv, hv2⟩ := HV
                rw [hvv, hv2, ← HU.out] at hown6
                go_wp2_with fail
                all_goals
                  go_roundw
                  case rel => exact ⟨m + 1, by omega, by go_num, g6, cap6, ⟨rfl, rfl, rfl⟩, by first | exact ⟨hne6, hown6, hown6', hb6⟩ | exact ⟨hne6, hown6⟩⟩
                  case measure => simp [intOf]; omega
            · obtain rfl : m = b.size := by omega
              go_wp2_with fail
              go_roundw
              case rel => exact ⟨k + 1, g2, cap2, by omega, by go_num, rfl, hown2, hbel⟩
              case measure => simp [intOf]; omega
        · obtain rfl : k = a.size := by omega
          have hlast := hown.at_ (upto_get _ (show b.size < b.size + 1 by omega))
          rw [dist_last] at hlast
          have hi0 : (0 : Int) ≤ (b.size : Int) := by omega
          have hi1 : (b.size : Int) < ((b.size + 1 : Nat) : Int) := by omega
          go_wp2_with fail
          go_ret
          exact ⟨rfl, hbel⟩
end Go.Proofs.Ytmolphaihapkkaa
