/- The drawing of a change, and of a text and a change. -/
import Derived.Test.YtmdmjhnjhelccaaChgs
import Derived.Deep.DeepCutAuto
namespace Go.Proofs.Ytmdmjhnjhelccaa
open Go.RowKit
set_option maxHeartbeats 1600000
set_option linter.unusedSimpArgs false
set_option linter.unusedVariables false

def EditPost (b pos : Nat) (w : World) (e : Ending) (w' : World) : Prop := ∃ d : Chg, e = .returned (chgV d) ∧ Drew b pos 12 w w'
/-- the change that is being drawn, in its block; the block for the result; the reader -/
def InHand (w : World) (b pos : Nat) (most : Nat) (gE : Nat) (wc : World) : Prop :=
  ∃ (k p z : Int) (q : Nat), 0 ≤ z ∧ z ≤ 255 ∧ q ≤ pos + most ∧ wc.heap[gE]? = some (.cells #[.int .i64 k, .int .i64 p, .int .u8 z] 24 (0, 0)) ∧
    wc.heap[w.heap.size]? = some (.cells #[.int .i64 0, .int .i64 0, .int .u8 0] 24 (0, 0)) ∧ w.heap.size < gE ∧ gE < wc.heap.size ∧ Got w b pos q wc
theorem chg_of (k p z : Int) (h0 : 0 ≤ z) (h1 : z ≤ 255) : Value.agg #[.int .i64 k, .int .i64 p, .int .u8 z] = chgV ⟨k, p, UInt8.ofNat z.toNat⟩ := by
  unfold chgV
  simp only
  rw [UInt8.toNat_ofNat', show ((z.toNat % 2 ^ 8 : Nat) : Int) = z by omega]
theorem Drew.blockAt {w w' : World} {b p d k : Nat} (h : Drew b p d w w') (hk : k < w.heap.size) (hne : k ≠ b) : w'.heap[k]? = w.heap[k]? := h.1.block k hk (fun e => hne (by injection e))

section
variable {w wc w' : World} {b pos most gE : Nat}
theorem inhand_draw {kk p z : Int} {q d : Nat} (h0 : 0 ≤ z) (h1 : z ≤ 255) (hq : q ≤ pos + most) (he : wc.heap[gE]? = some (.cells #[.int .i64 kk, .int .i64 p, .int .u8 z] 24 (0, 0)))
    (hr : wc.heap[w.heap.size]? = some (.cells #[.int .i64 0, .int .i64 0, .int .u8 0] 24 (0, 0))) (g1 : w.heap.size < gE) (g2 : gE < wc.heap.size) (hg : Got w b pos q wc) (hb : b < w.heap.size) (hd : Drew b q d wc w') : InHand w b pos (most + d) gE w' := by
  obtain ⟨q', a1, a2, hg'⟩ := hg.step hd
  exact ⟨kk, p, z, q', h0, h1, by omega, (hd.blockAt g2 (by omega)).trans he, (hd.blockAt (by omega) (by omega)).trans hr, g1, Nat.lt_of_lt_of_le g2 hd.size, hg'⟩
theorem InHand.below (h : InHand w b pos most gE wc) (k : Below wc.heap.size wc w') : InHand w b pos most gE w' := by
  obtain ⟨kk, p, z, q, h0, h1, hq, he, hr, g1, g2, hg⟩ := h
  exact ⟨kk, p, z, q, h0, h1, hq, (k.block _ g2).trans he, (k.block _ (by omega)).trans hr, g1, Nat.lt_of_lt_of_le g2 k.size, hg.below k⟩
theorem InHand.mono {most' : Nat} (h : InHand w b pos most gE wc) (hm : most ≤ most') : InHand w b pos most' gE wc := by
  obtain ⟨kk, p, z, q, h0, h1, hq, r⟩ := h
  exact ⟨kk, p, z, q, h0, h1, by omega, r⟩
theorem got_set {q k : Nat} {v : Value} (h : Got w b pos q wc) (hk : w.heap.size ≤ k) (hb : b < w.heap.size) {i : Nat} : Got w b pos q (wc.setCell ⟨k, i, none⟩ v) := by
  have hne : ∀ j, j ≠ k → (wc.setCell ⟨k, i, none⟩ v).heap[j]? = wc.heap[j]? := fun j hj => Below.heap_setCell _ _ _ _ hj
  obtain ⟨⟨a1, a2, a3, a4, a5⟩, hq, A, n, c, hh, hc⟩ := h
  refine ⟨⟨a1, a2, a3, by simpa [World.setCell] using a4, fun j hj hne2 => (hne j (by omega)).trans (a5 j hj hne2)⟩, hq, A, n, c, (hne b (by omega)).trans hh, hc.keep fun p hp => World.cell?_of_block (hne _ (by omega))⟩
theorem InHand.kind (h : InHand w b pos most gE wc) (hb : b < w.heap.size) (k' : Int) : InHand w b pos most gE (wc.setCell ⟨gE, 0, none⟩ (.int .i64 k')) := by
  obtain ⟨kk, p, z, q, h0, h1, hq, he, hr, g1, g2, hg⟩ := h
  exact ⟨k', p, z, q, h0, h1, hq, by rw [heap_setCell_same wc gE 0 _ _ _ he]; rfl, by rw [Below.heap_setCell _ _ _ _ (show w.heap.size ≠ gE by omega)]; exact hr, g1, by simpa [World.setCell] using g2, got_set hg (Nat.le_of_lt g1) hb⟩
theorem InHand.letter (h : InHand w b pos most gE wc) (hb : b < w.heap.size) (z' : Int) (y0 : 0 ≤ z') (y1 : z' ≤ 255) : InHand w b pos most gE (wc.setCell ⟨gE, 2, none⟩ (.int .u8 z')) := by
  obtain ⟨kk, p, z, q, h0, h1, hq, he, hr, g1, g2, hg⟩ := h
  exact ⟨kk, p, z', q, y0, y1, hq, by rw [heap_setCell_same wc gE 2 _ _ _ he]; rfl, by rw [Below.heap_setCell _ _ _ _ (show w.heap.size ≠ gE by omega)]; exact hr, g1, by simpa [World.setCell] using g2, got_set hg (Nat.le_of_lt g1) hb⟩
end
theorem row3 {w : World} {g : Nat} {a b c : Value} {T : TypeId} (h : w.heap[g]? = some (.cells #[a, b, c] T (0, 0))) :
    (w.cell? ⟨g, 0, none⟩ = some a ∧ w.cell? ⟨g, 1, none⟩ = some b ∧ w.cell? ⟨g, 2, none⟩ = some c) ∧ w.frozen? ⟨g, 0, none⟩ = false ∧ w.frozen? ⟨g, 1, none⟩ = false ∧ w.frozen? ⟨g, 2, none⟩ = false :=
  ⟨⟨by rw [cell_of_row w g 0 _ _ _ h]; rfl, by rw [cell_of_row w g 1 _ _ _ h]; rfl, by rw [cell_of_row w g 2 _ _ _ h]; rfl⟩, frozen_of_row w g 0 _ _ h, frozen_of_row w g 1 _ _ h, frozen_of_row w g 2 _ _ h⟩

set_option maxRecDepth 100000 in
theorem edit_any (b pos : Nat) (s : ByteArray) (w : World) (hr : Rd w b pos) (hp : pos ≤ 600000) (hs : s.size ≤ 1000) :
    Calls Try.prog 38 #[.pointer (some ⟨b, 0, none⟩), .string s] w (EditPost b pos w) := by
  have hbw := hr.lt
  have hr1 : Rd (w.alloc (.cells #[.int .i64 0, .int .i64 0, .int .u8 0] 24)) b pos := hr.below ((Below.refl _ _).alloc (Nat.le_refl _) _)
  have hh0 : (w.alloc (.cells #[.int .i64 0, .int .i64 0, .int .u8 0] 24)).heap[w.heap.size]? = some (.cells #[.int .i64 0, .int .i64 0, .int .u8 0] 24 (0, 0)) := heap_alloc_new w _
  have g0 := (Got.refl hr).alloc (.cells #[.int .i64 0, .int .i64 0, .int .u8 0] 24)
  have hz0 : w.heap.size < (w.alloc (.cells #[.int .i64 0, .int .i64 0, .int .u8 0] 24)).heap.size := by simp
  go_enter Try.func38, Try.ntmps38
  go_wp2_with fail
  generalize w.alloc (.cells #[.int .i64 0, .int .i64 0, .int .u8 0] 24) = w0 at *
  refine (pick_any b pos _ _ g0.rd (by omega) (by omega)).mono ?_
  rintro e w1 ⟨v1, rfl, h10, h11, -, hd1⟩
  have h11 := h11 (by omega)
  have hh1 := (hd1.blockAt hz0 (by omega)).trans hh0
  have hz1 : w.heap.size < w1.heap.size := Nat.lt_of_lt_of_le hz0 hd1.size
  obtain ⟨q1, hq1a, hq1b, g1⟩ := g0.step hd1
  clear hd1 g0 hh0 hz0 hr1
  go_wp2_with fail
  refine (pick_any b q1 _ _ g1.rd (by omega) (by omega)).mono ?_
  rintro e w2 ⟨v2, rfl, h20, h21, -, hd2⟩
  have h21 := h21 (by omega)
  have hh2 := (hd2.blockAt hz1 (by omega)).trans hh1
  have hz2 : w.heap.size < w2.heap.size := Nat.lt_of_lt_of_le hz1 hd2.size
  obtain ⟨q2, hq2a, hq2b, g2⟩ := g1.step hd2
  clear hd2 g1 hh1 hz1
  go_wp2_with fail
  refine (pick_any b q2 _ _ g2.rd (by omega) (by omega)).mono ?_
  rintro e w3 ⟨v3, rfl, h30, h31, -, hd3⟩
  have h31 := h31 (by omega)
  have hh3 := (hd3.blockAt hz2 (by omega)).trans hh2
  have hz3 : w.heap.size < w3.heap.size := Nat.lt_of_lt_of_le hz2 hd3.size
  obtain ⟨q3, hq3a, hq3b, g3⟩ := g2.step hd3
  clear hd3 g2 hh2 hz2
  go_wp2_with fail
  refine (pick_any b q3 _ _ g3.rd (by omega) (by omega)).mono ?_
  rintro e w4 ⟨v4, rfl, h40, h41, -, hd4⟩
  have h41 := h41 (by omega)
  have hh4 := (hd4.blockAt hz3 (by omega)).trans hh3
  have hz4 : w.heap.size < w4.heap.size := Nat.lt_of_lt_of_le hz3 hd4.size
  obtain ⟨q4, hq4a, hq4b, g4⟩ := g3.step hd4
  clear hd4 g3 hh3 hz3
  go_upto_region 2 with (fail)
  have hI : InHand w b pos 4 w4.heap.size (w4.alloc (.cells #[.int .i64 (1 + v1), .int .i64 (v2 - v3 / 13), .int .u8 (97 + v4)] 24)) :=
    ⟨_, _, _, q4, by omega, by omega, by omega, heap_alloc_new _ _, (heap_alloc_old _ _ hz4).trans hh4, hz4, by simp, g4.alloc _⟩
  have HI := Lib.hid hI
  clear hI g4 hh4 hz4 h10 h11 h20 h21 h30 h31 h40 h41 hq1a hq1b hq2a hq2b hq3a hq3b hq4a hq4b hr
  generalize w4.alloc (.cells #[.int .i64 (1 + v1), .int .i64 (v2 - v3 / 13), .int .u8 (97 + v4)] 24) = W at *
  generalize w4.heap.size = gE at *
  go_cut [30] from 23 (fun s30 wc => ∃ v : Bool, s30 = .bool v ∧ Hid (InHand w b pos 5 gE wc))
  case first =>
    obtain ⟨k, p, z, q, z0, z1, hq, he, hg, gg1, gg2, hgot⟩ := HI.out
    obtain ⟨⟨c0, c1, c2⟩, f0, f1, f2⟩ := row3 he
    obtain ⟨⟨r0, r1, r2⟩, s0, s1, s2⟩ := row3 hg
    have hrd := hgot.rd
    have HE := Lib.hid he
    have HG := Lib.hid hg
    have HGOT := Lib.hid hgot
    clear he hg hgot
    cases hk2 : ((k : Int) == 2)
    · go_wp2_with fail
      go_meet
      case rel => exact ⟨_, rfl, Lib.hid (HI.out.mono (by omega))⟩
    · go_wp2_with fail
      refine (pick_any b q _ _ hrd (by omega) (by omega)).mono ?_
      rintro e w5 ⟨v5, rfl, h50, h51, -, hd5⟩
      have HI5 := Lib.hid (inhand_draw z0 z1 hq HE.out HG.out gg1 gg2 HGOT.out hbw hd5)
      clear hd5 c0 c1 c2 f0 f1 f2 r0 r1 r2 s0 s1 s2
      go_wp2_with fail
      go_meet
      case rel => exact ⟨_, rfl, HI5⟩
  case rest =>
    clear HI
    obtain ⟨v, rfl, HI⟩ := hcut
    go_upto_if 30 with (fail)
    go_cut [31] from 31 (fun s31 wc => Hid (InHand w b pos 5 gE wc))
    case first =>
      cases v
      · go_wp2_with fail
        go_meet
        case rel => exact HI
      · obtain ⟨k, p, z, q, z0, z1, hq, he, hg, gg1, gg2, hgot⟩ := HI.out
        obtain ⟨⟨c0, c1, c2⟩, f0, f1, f2⟩ := row3 he
        go_wp2_with fail
        go_meet
        case rel => exact Lib.hid (HI.out.letter hbw 0 (by omega) (by omega))
    case rest =>
      have HI := hcut
      clear hcut
      go_upto_region 4 with (fail)
      obtain ⟨k, p, z, q, z0, z1, hq, he, hg, gg1, gg2, hgot⟩ := HI.out
      obtain ⟨⟨c0, c1, c2⟩, f0, f1, f2⟩ := row3 he
      obtain ⟨⟨r0, r1, r2⟩, s0, s1, s2⟩ := row3 hg
      have hrd := hgot.rd
      have HE := Lib.hid he
      have HG := Lib.hid hg
      have HGOT := Lib.hid hgot
      clear he hg hgot
      go_wp2_with fail
      refine (odd_any b q _ _ hrd (by omega) (by omega) (by omega)).mono ?_
      rintro e w5 ⟨v, rfl, -, hd5⟩
      have HI5 := Lib.hid (inhand_draw z0 z1 hq HE.out HG.out gg1 gg2 HGOT.out hbw hd5)
      clear hd5 c0 c1 c2 f0 f1 f2 r0 r1 r2 s0 s1 s2 hrd HE HG HGOT HI
      have HI := HI5
      clear HI5
      go_upto_if 33 with (fail)
      go_cut [34] from 34 (fun s34 wc => Hid (InHand w b pos 8 gE wc))
      case first =>
        cases v
        · go_wp2_with fail
          go_meet
          case rel => exact Lib.hid (HI.out.mono (by omega))
        · obtain ⟨k, p, z, q, z0, z1, hq, he, hg, gg1, gg2, hgot⟩ := HI.out
          have hg1 := hgot.alloc (.cells #[.int .i64 0, .int .i64 4] 3)
          have he1 := (heap_alloc_old w5 (.cells #[.int .i64 0, .int .i64 4] 3) gg2).trans he
          have hr1 := (heap_alloc_old w5 (.cells #[.int .i64 0, .int .i64 4] 3) (show w.heap.size < w5.heap.size by omega)).trans hg
          have hbb : b < w5.heap.size := hgot.rd.lt
          have HE := Lib.hid he1
          have HG := Lib.hid hr1
          have HGOT := Lib.hid hg1
          clear he hg hgot hg1 he1 hr1
          go_wp2_with fail
          refine (pick_any b q _ _ HGOT.out.rd (by omega) (by omega)).mono ?_
          rintro e w6 ⟨v6, rfl, h60, h61, -, hd6⟩
          have h61 := h61 (by omega)
          have hblk := hd6.block hbb
          have HI6 := Lib.hid (inhand_draw z0 z1 hq HE.out HG.out gg1 (Nat.lt_of_lt_of_le gg2 (by simp)) HGOT.out hbw hd6)
          obtain ⟨k', p', z', q', z0', z1', hq', he', hg', gg1', gg2', hgot'⟩ := HI6.out
          obtain ⟨⟨c0, c1, c2⟩, f0, f1, f2⟩ := row3 he'
          have hne : w5.heap.size ≠ gE := by omega
          have a0 : w6.cell? ⟨w5.heap.size, 0, none⟩ = some (.int .i64 0) := by rw [cell_of_row w6 _ 0 _ _ _ hblk]; rfl
          have a1 : w6.cell? ⟨w5.heap.size, 1, none⟩ = some (.int .i64 4) := by rw [cell_of_row w6 _ 1 _ _ _ hblk]; rfl
          clear hd6 hblk he' hg' hgot' HE HG HGOT HI
          obtain rfl | rfl : v6 = 0 ∨ v6 = 1 := by omega
          · go_wp2_with fail
            go_meet
            case rel => exact Lib.hid ((HI6.out.kind hbw 0).mono (by omega))
          · go_wp2_with fail
            go_meet
            case rel => exact Lib.hid ((HI6.out.kind hbw 4).mono (by omega))
      case rest =>
        have HI := hcut
        clear hcut
        go_upto_region 6 with (fail)
        obtain ⟨k, p, z, q, z0, z1, hq, he, hg, gg1, gg2, hgot⟩ := HI.out
        obtain ⟨⟨c0, c1, c2⟩, f0, f1, f2⟩ := row3 he
        obtain ⟨⟨r0, r1, r2⟩, s0, s1, s2⟩ := row3 hg
        have hrd := hgot.rd
        have HE := Lib.hid he
        have HG := Lib.hid hg
        have HGOT := Lib.hid hgot
        clear he hg hgot
        go_wp2_with fail
        refine (odd_any b q _ _ hrd (by omega) (by omega) (by omega)).mono ?_
        rintro e w7 ⟨v, rfl, -, hd7⟩
        have HI7 := Lib.hid (inhand_draw z0 z1 hq HE.out HG.out gg1 gg2 HGOT.out hbw hd7)
        clear hd7 c0 c1 c2 f0 f1 f2 r0 r1 r2 s0 s1 s2 hrd HE HG HGOT HI
        have HI := HI7
        clear HI7
        go_upto_if 41 with (fail)
        go_cut [42] from 42 (fun s42 wc => Hid (InHand w b pos 12 gE wc))
        case first =>
          cases v
          · go_wp2_with fail
            go_meet
            case rel => exact Lib.hid (HI.out.mono (by omega))
          · obtain ⟨k, p, z, q, z0, z1, hq, he, hg, gg1, gg2, hgot⟩ := HI.out
            have hg1 := hgot.alloc (.cells #[.int .u8 65, .int .u8 32, .int .u8 0] 5)
            have he1 := (heap_alloc_old w7 (.cells #[.int .u8 65, .int .u8 32, .int .u8 0] 5) gg2).trans he
            have hr1 := (heap_alloc_old w7 (.cells #[.int .u8 65, .int .u8 32, .int .u8 0] 5) (show w.heap.size < w7.heap.size by omega)).trans hg
            have hbb : b < w7.heap.size := hgot.rd.lt
            have HE := Lib.hid he1
            have HG := Lib.hid hr1
            have HGOT := Lib.hid hg1
            clear he hg hgot hg1 he1 hr1
            go_wp2_with fail
            refine (pick_any b q _ _ HGOT.out.rd (by omega) (by omega)).mono ?_
            rintro e w6 ⟨v6, rfl, h60, h61, -, hd6⟩
            have h61 := h61 (by omega)
            have hblk := hd6.block hbb
            have HI6 := Lib.hid (inhand_draw z0 z1 hq HE.out HG.out gg1 (Nat.lt_of_lt_of_le gg2 (by simp)) HGOT.out hbw hd6)
            obtain ⟨k', p', z', q', z0', z1', hq', he', hg', gg1', gg2', hgot'⟩ := HI6.out
            obtain ⟨⟨c0, c1, c2⟩, f0, f1, f2⟩ := row3 he'
            have hne : w7.heap.size ≠ gE := by omega
            have a0 : w6.cell? ⟨w7.heap.size, 0, none⟩ = some (.int .u8 65) := by rw [cell_of_row w6 _ 0 _ _ _ hblk]; rfl
            have a1 : w6.cell? ⟨w7.heap.size, 1, none⟩ = some (.int .u8 32) := by rw [cell_of_row w6 _ 1 _ _ _ hblk]; rfl
            have a2 : w6.cell? ⟨w7.heap.size, 2, none⟩ = some (.int .u8 0) := by rw [cell_of_row w6 _ 2 _ _ _ hblk]; rfl
            clear hd6 hblk he' hg' hgot' HE HG HGOT HI
            obtain rfl | rfl | rfl : v6 = 0 ∨ v6 = 1 ∨ v6 = 2 := by omega
            · go_wp2_with fail
              go_meet
              case rel => exact Lib.hid ((HI6.out.letter hbw 65 (by omega) (by omega)).mono (by omega))
            · go_wp2_with fail
              go_meet
              case rel => exact Lib.hid ((HI6.out.letter hbw 32 (by omega) (by omega)).mono (by omega))
            · go_wp2_with fail
              go_meet
              case rel => exact Lib.hid ((HI6.out.letter hbw 0 (by omega) (by omega)).mono (by omega))
        case rest =>
          obtain ⟨k, p, z, q, z0, z1, hq, he, hg, gg1, gg2, hgot⟩ := hcut.out
          obtain ⟨⟨c0, c1, c2⟩, f0, f1, f2⟩ := row3 he
          obtain ⟨⟨r0, r1, r2⟩, s0, s1, s2⟩ := row3 hg
          have HE := Lib.hid he
          have HG := Lib.hid hg
          have HGOT := Lib.hid hgot
          clear he hg hgot
          go_wp2_with fail
          refine bodyPost_ret (v := .agg #[.int .i64 k, .int .i64 p, .int .u8 z]) (by simp [results, Try.results38, go_sem, c0, c1, c2, r0, r1, r2]) rfl ?_
          exact ⟨_, by rw [chg_of k p z z0 z1], (got_set (got_set (got_set HGOT.out (Nat.le_refl _) hbw) (Nat.le_refl _) hbw) (Nat.le_refl _) hbw).done (by omega)⟩

/-- what the drawing of a text and a change leaves -/
def TextEditPost (w : World) (e : Ending) (w' : World) : Prop :=
  ∃ (s : ByteArray) (d : Chg), e = .returned (.tuple #[.string s, chgV d]) ∧ s.size ≤ 24 ∧ Below w.heap.size w w'
theorem drawApplyEdit_any (A : Option Addr) (n c : Nat) (w : World) (h : Bytes w w.heap.size A n) (hnc : n ≤ c) (hc : c ≤ maxLen) :
    Calls Try.prog 12 #[.slice A n c] w (TextEditPost w) := by
  have h1 : Bytes (w.alloc (.cells #[.int .i64 0, .int .i64 0, .int .u8 0] 24)) (w.alloc (.cells #[.int .i64 0, .int .i64 0, .int .u8 0] 24)).heap.size A n := by
    intro hn
    obtain ⟨b, o, e, hb, hc⟩ := h hn
    exact ⟨b, o, e, by simp; omega, fun j hj => by obtain ⟨z, a1, a2, a3⟩ := hc j hj; exact ⟨z, a1, a2, (World.cell?_alloc_lt w _ _ hb).trans a3⟩⟩
  have hb0 : Below w.heap.size w (w.alloc (.cells #[.int .i64 0, .int .i64 0, .int .u8 0] 24)) := (Below.refl _ _).alloc (Nat.le_refl _) _
  have hh0 : (w.alloc (.cells #[.int .i64 0, .int .i64 0, .int .u8 0] 24)).heap[w.heap.size]? = some (.cells #[.int .i64 0, .int .i64 0, .int .u8 0] 24 (0, 0)) := heap_alloc_new w _
  have hz0 : w.heap.size < (w.alloc (.cells #[.int .i64 0, .int .i64 0, .int .u8 0] 24)).heap.size := by simp
  go_enter Try.func12, Try.ntmps12
  go_wp2_with fail
  generalize w.alloc (.cells #[.int .i64 0, .int .i64 0, .int .u8 0] 24) = w0 at *
  refine (open_any _ _ _ _ h1 hnc hc).mono ?_
  rintro e w1 ⟨g, rfl, hg, hr, hb⟩
  have hh1 := (hb.block _ hz0).trans hh0
  have hz1 := hb.size
  have hbel := below_step hb0 (by omega) hb
  clear h h1 hb hb0 hh0
  go_wp2_with fail
  refine (word_any g 0 _ _ hr (by omega) (by omega) (by omega)).mono ?_
  rintro e w2 ⟨s, rfl, hs, hd2⟩
  obtain ⟨q2, a2, b2, g2⟩ := (Got.refl hr).step hd2
  have hh2 := (hd2.blockAt (by omega) (by omega)).trans hh1
  have hz2 := hd2.size
  have hbel := hbel.trans (below_only hd2.1 (show w.heap.size ≤ g by omega) (by omega))
  clear hd2 hh1 hr
  go_wp2_with fail
  refine (odd_any g q2 _ _ g2.rd (by omega) (by omega) (by omega)).mono ?_
  rintro e w3 ⟨v3, rfl, -, hd3⟩
  obtain ⟨q3, a3, b3, g3⟩ := g2.step hd3
  have hh3 := (hd3.blockAt (by omega) (by omega)).trans hh2
  have hz3 := hd3.size
  have hbel := hbel.trans (below_only hd3.1 (show w.heap.size ≤ g by omega) (by omega))
  clear hd3 hh2 g2
  have fin : ∀ (t : ByteArray), t.size ≤ 24 → ∀ w4, Drew g q3 12 w3 w4 → w4.heap[w.heap.size]? = some (.cells #[.int .i64 0, .int .i64 0, .int .u8 0] 24 (0, 0)) ∧ Below w.heap.size w w4 := fun t ht w4 hd4 =>
    ⟨(hd4.blockAt (by omega) (by omega)).trans hh3, hbel.trans (below_only hd4.1 (show w.heap.size ≤ g by omega) (by omega))⟩
  have FIN := Lib.hid fin
  clear fin hh3
  cases v3
  · go_wp2_with fail
    refine (edit_any g q3 _ _ g3.rd (by omega) (by omega)).mono ?_
    rintro e w4 ⟨d, rfl, hd4⟩
    obtain ⟨hh4, hb4⟩ := FIN.out s (by omega) w4 hd4
    obtain ⟨⟨r0, r1, r2⟩, s0, s1, s2⟩ := row3 hh4
    clear hd4 FIN
    unfold chgV
    go_wp2_with fail
    refine bodyPost_ret (v := .tuple #[.string s, chgV d]) (by simp [results, Try.results12, go_sem, r0, r1, r2, chgV]) rfl ?_
    exact ⟨_, d, rfl, by omega, ((hb4.setCell (Nat.le_refl _) _).setCell (Nat.le_refl _) _).setCell (Nat.le_refl _) _⟩
  · go_wp2_with fail
    refine (edit_any g q3 _ _ g3.rd (by omega) (by decide)).mono ?_
    rintro e w4 ⟨d, rfl, hd4⟩
    obtain ⟨hh4, hb4⟩ := FIN.out (ByteArray.mk #[97, 98, 99, 100, 101, 102, 103, 104, 105, 106, 107, 108, 109, 110, 111, 112, 113, 114, 115, 116, 117, 118, 119, 120]) (by decide) w4 hd4
    obtain ⟨⟨r0, r1, r2⟩, s0, s1, s2⟩ := row3 hh4
    clear hd4 FIN
    unfold chgV
    go_wp2_with fail
    refine bodyPost_ret (v := .tuple #[.string (ByteArray.mk #[97, 98, 99, 100, 101, 102, 103, 104, 105, 106, 107, 108, 109, 110, 111, 112, 113, 114, 115, 116, 117, 118, 119, 120]), chgV d]) (by simp [results, Try.results12, go_sem, r0, r1, r2, chgV]) rfl ?_
    exact ⟨_, d, rfl, by decide, ((hb4.setCell (Nat.le_refl _) _).setCell (Nat.le_refl _) _).setCell (Nat.le_refl _) _⟩
theorem drawReverseEdit_any (A : Option Addr) (n c : Nat) (w : World) (h : Bytes w w.heap.size A n) (hnc : n ≤ c) (hc : c ≤ maxLen) :
    Calls Try.prog 26 #[.slice A n c] w (TextEditPost w) := by
  have h1 : Bytes (w.alloc (.cells #[.int .i64 0, .int .i64 0, .int .u8 0] 24)) (w.alloc (.cells #[.int .i64 0, .int .i64 0, .int .u8 0] 24)).heap.size A n := by
    intro hn
    obtain ⟨b, o, e, hb, hc⟩ := h hn
    exact ⟨b, o, e, by simp; omega, fun j hj => by obtain ⟨z, a1, a2, a3⟩ := hc j hj; exact ⟨z, a1, a2, (World.cell?_alloc_lt w _ _ hb).trans a3⟩⟩
  have hb0 : Below w.heap.size w (w.alloc (.cells #[.int .i64 0, .int .i64 0, .int .u8 0] 24)) := (Below.refl _ _).alloc (Nat.le_refl _) _
  have hh0 : (w.alloc (.cells #[.int .i64 0, .int .i64 0, .int .u8 0] 24)).heap[w.heap.size]? = some (.cells #[.int .i64 0, .int .i64 0, .int .u8 0] 24 (0, 0)) := heap_alloc_new w _
  have hz0 : w.heap.size < (w.alloc (.cells #[.int .i64 0, .int .i64 0, .int .u8 0] 24)).heap.size := by simp
  go_enter Try.func26, Try.ntmps26
  go_wp2_with fail
  generalize w.alloc (.cells #[.int .i64 0, .int .i64 0, .int .u8 0] 24) = w0 at *
  refine (drawApplyEdit_any _ _ _ _ h1 hnc hc).mono ?_
  rintro e w1 ⟨s, d, rfl, hs, hb⟩
  have hh1 := (hb.block _ hz0).trans hh0
  have hbel := below_step hb0 (by omega) hb
  obtain ⟨⟨r0, r1, r2⟩, s0, s1, s2⟩ := row3 hh1
  clear h h1 hb hb0 hh0 hh1
  unfold chgV
  go_wp2_with fail
  refine bodyPost_ret (v := .tuple #[.string s, chgV d]) (by simp [results, Try.results26, go_sem, r0, r1, r2, chgV]) rfl ?_
  exact ⟨s, d, rfl, hs, ((hbel.setCell (Nat.le_refl _) _).setCell (Nat.le_refl _) _).setCell (Nat.le_refl _) _⟩
end Go.Proofs.Ytmdmjhnjhelccaa
