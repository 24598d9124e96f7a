/- Contracts of the program's bookOf and items: a dictionary's words with a map of its counts. -/
import Derived.Test.YtopjhdgpdcdklaaMapDict
import Derived.Test.YtopjhdgpdcdklaaImplDictV
namespace Go.Proofs.Ytopjhdgpdcdklaa
open Go.RowKit
set_option maxHeartbeats 1600000
set_option linter.unusedSimpArgs false
set_option linter.unusedVariables false

theorem OwnTx.setCell {w : World} {base g n cap : Nat} {ss : List ByteArray} (h : OwnTx w base (some ⟨g, 0, none⟩) n cap ss) {p : Addr} (v : Value) (hne : g ≠ p.block) : OwnTx (w.setCell p v) base (some ⟨g, 0, none⟩) n cap ss :=
  ownTx_iff.1 ((ownTx_iff.2 h).block (by simp [World.setCell, Array.getElem?_modify, Ne.symm hne]))
/-- the two cells of a book's block that is not yet written -/
def BookCell (w : World) (b : Nat) : Prop := b < w.heap.size ∧ w.cell? ⟨b, 0, none⟩ = some (.map none) ∧ w.cell? ⟨b, 1, none⟩ = some (.slice none 0 0) ∧ w.frozen? ⟨b, 0, none⟩ = false ∧ w.frozen? ⟨b, 1, none⟩ = false
theorem BookCell.parts {w : World} {b : Nat} (h : BookCell w b) : w.cell? ⟨b, 0, none⟩ = some (.map none) ∧ w.cell? ⟨b, 1, none⟩ = some (.slice none 0 0) ∧ w.frozen? ⟨b, 0, none⟩ = false ∧ w.frozen? ⟨b, 1, none⟩ = false := h.2
theorem BookCell.block {w w' : World} {b : Nat} (h : BookCell w b) (hk : w'.heap[b]? = w.heap[b]?) (hs : w.heap.size ≤ w'.heap.size) : BookCell w' b := by
  obtain ⟨h0, h1, h2, h3, h4⟩ := h
  refine ⟨by omega, ?_, ?_, ?_, ?_⟩
  · rw [← h1]; unfold World.cell?; simp only [hk]
  · rw [← h2]; unfold World.cell?; simp only [hk]
  · rw [← h3]; unfold World.frozen?; simp only [hk]
  · rw [← h4]; unfold World.frozen?; simp only [hk]
theorem BookCell.below {w w' : World} {b : Nat} (h : BookCell w b) (hb : Below w.heap.size w w') : BookCell w' b := h.block (hb.block b h.1) hb.size
theorem BookCell.alloc {w : World} {b : Nat} (h : BookCell w b) (o : Obj) : BookCell (w.alloc o) b := h.below ((Below.refl _ _).alloc (Nat.le_refl _) _)
theorem BookCell.grown {w w' : World} {b : Nat} {row : Option Nat} (h : BookCell w b) (hg : w.grownBy w' row) (hne : some b ≠ row) : BookCell w' b := h.block (hg.block b h.1 hne) hg.size
theorem BookCell.made (w : World) : BookCell (w.alloc (.cells #[.map none, .slice none 0 0] 64)) w.heap.size :=
  ⟨by simp, World.cell?_alloc_new _ _ _ _, World.cell?_alloc_new _ _ _ _, by simp, by simp⟩

theorem bookOf_any (A : Option Addr) (n c B : Nat) (d : List Item) (w : World) (hn : n ≤ 60) (h : Items w B A n d) (hB : B ≤ w.heap.size) :
    Calls Try.prog 58 #[.slice A n c] w fun e w' => ∃ m g, e = .returned (.agg #[.map (some m), .slice (some ⟨g, 0, none⟩) n n]) ∧ OwnM w' w.heap.size m n (mapD d) ∧ OwnTx w' w.heap.size (some ⟨g, 0, none⟩) n n (wordsD d) ∧ Below w.heap.size w w' := by
  have hmm := run_makeMap_hint
  have H := Lib.hid h
  clear h
  go_enter Try.func58, Try.ntmps58
  go_wp2_with fail
  go_loopw [11] (fun i wr => ∃ k : Nat, k ≤ n ∧ i = .int .i64 k ∧ OwnM wr w.heap.size (w.heap.size + 1) k (mapD (d.take k)) ∧ BookCell wr w.heap.size ∧ Below w.heap.size w wr) (fun i _ => n - (intOf i).toNat)
  case atStart =>
    refine ⟨0, Nat.zero_le _, rfl, OwnM.made_at (by simp) (by omega), (BookCell.made w).alloc _, ((Below.refl _ _).alloc (Nat.le_refl _) _).alloc (by simp) _⟩
  case round =>
    obtain ⟨k, hk, rfl, hown, hbk, hbel⟩ := hrel
    by_cases hlt : k < n
    · obtain ⟨b, o, s, v, rfl, hb, hd, hs, hv, c0, c1⟩ := items_at (H.out.step hbel hB) hlt
      have HS := Lib.hid (show mapD (d.take (k + 1)) = fun t => if t = s.data.toList then some v else mapD (d.take k) t by rw [List.take_succ_eq_append_getElem (List.getElem?_eq_some_iff.1 hd).1, (List.getElem?_eq_some_iff.1 hd).2, mapD_snoc])
      have hk0 : (0 : Int) ≤ (k : Int) := by omega
      have hk1 : (k : Int) < (n : Int) := by omega
      have HO := Lib.hid hown
      have HB := Lib.hid hbel
      have HK := Lib.hid hbk
      clear hd hown hbel hbk
      go_wp2_with (at_mapUpdate; refine wp_put_m rfl _ _ _ rfl w.heap.size (w.heap.size + 1) k _ rfl (HO.out.alloc _) (by unfold maxLen; omega) s v rfl hs rfl hv.wf ?_; intro w1 hown1 hg1)
      have hsz := HB.out.size
      refine ⟨⟨k + 1, by omega, by go_num, by rw [HS.out]; exact hown1, (HK.out.alloc _).grown hg1 (by simp), (HB.out.alloc hsz _).grown hg1 (by simp; omega) (fun j hj => by injection hj with hj; omega)⟩, ?_⟩
      simp [intOf]; omega
    · obtain rfl : k = n := by omega
      have HT := Lib.hid (show d.take k = d from List.take_of_length_le (by rw [H.out.len]; exact Nat.le_refl _))
      rw [HT.out] at hown
      have h2 := H.out.step hbel hB
      have hbz := hbel.size
      have hml := hown.lt.2
      go_wp2_with fail
      refine (wordsOf_any A k c B d wr (by omega) h2 (by omega)).mono ?_
      rintro e w1 ⟨g, rfl, htx, hb1⟩
      have hm1 := hown.below hb1
      have hk1 := hbk.below hb1
      have hb2 := below_step hbel (Nat.le_refl _) hb1
      have hgb := (htx.blockAt rfl).1
      obtain ⟨c0, c1, f0, f1⟩ := hk1.parts
      clear hown hbk hbel
      go_wp2_with fail
      refine bodyPost_ret (v := .agg #[.map (some (w.heap.size + 1)), .slice (some ⟨g, 0, none⟩) k k]) (by simp [results, Try.results58, go_sem, c0, c1]) rfl ⟨_, g, rfl, ?_, ?_, ?_⟩
      · exact (hm1.setCell _ (by simp)).setCell _ (by simp)
      · exact ((htx.mono hbz).setCell _ (by simp; omega)).setCell _ (by simp; omega)
      · exact (hb2.setCell (by simp) _).setCell (by simp) _

theorem items_any (A A0 : Option Addr) (n c n0 c0 B base m q : Nat) (ss : List ByteArray) (f : List UInt8 → Option Int) (w : World) (hn : n ≤ 1000000) (h : Strs w B A n ss) (hB : B ≤ w.heap.size) (hm : OwnM w base m q f) (hf : ∀ s, I64 ((f s).getD 0)) :
    Calls Try.prog 65 #[.agg #[.map (some m), .slice A0 n0 c0], .slice A n c] w fun e w' => ∃ g, e = .returned (.slice (some ⟨g, 0, none⟩) n n) ∧ OwnItems w' w.heap.size (some ⟨g, 0, none⟩) n n (itemsW ss f) ∧ Below w.heap.size w w' := by
  have HL := Lib.hid (show (itemsW ss f).length = n by unfold itemsW; rw [List.length_map]; exact h.1)
  have H := Lib.hid h
  have HM := Lib.hid hm
  have HF := Lib.hid hf
  have hmlt := hm.lt.2
  clear h hm hf
  go_enter Try.func65, Try.ntmps65
  go_wp2_with (at_make; go_loud (refine wp_make_recs itemR ((⟨#[]⟩, 0) : Item) rfl ⟨Nat.zero_le _, by unfold I64; omega⟩ rfl _ _ rfl n _ _ rfl rfl rfl rfl (by omega) ?_); intro w1 hown hg hz)
  have hb1 : Below w.heap.size w w1 := ((Below.refl _ _).alloc (Nat.le_refl _) _).grown hg (by simp) (by simp)
  have hbx : w1.cell? ⟨w.heap.size, 0, none⟩ = some (.map (some m)) := by
    have e := hg.block w.heap.size (by simp) (by simp)
    have c : (w.alloc (.cells #[.map (some m), .slice A0 n0 c0] 64)).cell? ⟨w.heap.size, 0, none⟩ = some (.map (some m)) := World.cell?_alloc_new _ _ _ _
    rw [← c]; unfold World.cell?; simp only [e]
  rw [show (w.alloc (.cells #[.map (some m), .slice A0 n0 c0] 64)).heap.size = w.heap.size + 1 by simp, ← copiedR_zero _ (itemsW ss f)] at hown
  clear hg hz
  go_loopw [13] (fun i wr => ∃ k : Nat, k ≤ n ∧ i = .int .i64 k ∧ OwnItems wr (w.heap.size + 1) (some ⟨w.heap.size + 1, 0, none⟩) n n (copiedR ((⟨#[]⟩, 0) : Item) (itemsW ss f) n k) ∧ wr.cell? ⟨w.heap.size, 0, none⟩ = some (.map (some m)) ∧ Below w.heap.size w wr) (fun i _ => n - (intOf i).toNat)
  case atStart => exact ⟨0, Nat.zero_le _, rfl, hown, hbx, hb1⟩
  case round =>
    clear hown hb1 hbx
    obtain ⟨k, hk, rfl, hown, hbx, hbel⟩ := hrel
    have hbz := hbel.size
    by_cases hlt : k < n
    · obtain ⟨b, o, s, rfl, hb, hss, hs, hc⟩ := (H.out.step hbel hB).at_ hlt
      have hk0 : (0 : Int) ≤ (k : Int) := by omega
      have hk1 : (k : Int) < (n : Int) := by omega
      have HMr := Lib.hid (HM.out.below hbel)
      have hv := HF.out s.data.toList
      have hw : (itemsW ss f)[k]? = some (s, (f s.data.toList).getD 0) := by unfold itemsW; rw [List.getElem?_map, hss]; rfl
      obtain ⟨x, hx⟩ : ∃ x, x = (f s.data.toList).getD 0 := ⟨_, rfl⟩
      rw [← hx] at hv hw
      have HX := Lib.hid hx
      have hcg := copiedR_get ((⟨#[]⟩, 0) : Item) HL.out hlt
      have v0 := hown.at_ (i := 0) hcg rfl
      have f0 := hown.frozen (k * 2 + 0)
      have own1 := hown.stored (i := 0) (e' := (s, (0 : Int))) (v := .string s) hcg (by show 0 < 2; omega) rfl ⟨hs, by unfold I64; omega⟩
      have hcg1 : ((copiedR ((⟨#[]⟩, 0) : Item) (itemsW ss f) n k).set k (s, (0 : Int)))[k]? = some (s, (0 : Int)) := by
        rw [List.getElem?_set_self (by have := (List.getElem?_eq_some_iff.1 hcg).1; exact this)]
      have v1 := hown.at_ (i := 1) hcg rfl
      have f1 := hown.frozen (k * 2 + 1)
      have own2 := own1.stored (i := 1) (e' := (s, x)) (v := .int .i64 x) hcg1 (by show 1 < 2; omega) rfl ⟨hs, hv⟩
      rw [List.set_set, copiedR_set _ HL.out hw] at own2
      change wr.cell? ⟨w.heap.size + 1, k * 2, none⟩ = some (.string ⟨#[]⟩) at v0
      change wr.frozen? ⟨w.heap.size + 1, k * 2, none⟩ = false at f0
      change wr.cell? ⟨w.heap.size + 1, k * 2 + 1, none⟩ = some (.int .i64 0) at v1
      change wr.frozen? ⟨w.heap.size + 1, k * 2 + 1, none⟩ = false at f1
      have HO := Lib.hid (show OwnItems ((wr.setCell ⟨w.heap.size + 1, k * 2, none⟩ (.string s)).setCell ⟨w.heap.size + 1, k * 2 + 1, none⟩ (.int .i64 x)) (w.heap.size + 1) (some ⟨w.heap.size + 1, 0, none⟩) n n (copiedR ((⟨#[]⟩, 0) : Item) (itemsW ss f) n (k + 1)) from own2)
      have HG := Lib.hid (show Below w.heap.size w ((wr.setCell ⟨w.heap.size + 1, k * 2, none⟩ (.string s)).setCell ⟨w.heap.size + 1, k * 2 + 1, none⟩ (.int .i64 x)) from (hbel.setCell (by simp) _).setCell (by simp) _)
      clear own1 own2 hbel hown hcg hcg1 hss hw hx
      go_wp2_with (at_lookup; refine wp_look_m rfl _ _ rfl base m q f rfl HMr.out s rfl hs ?_; rw [← HX.out])
      go_roundw
      case rel => exact ⟨k + 1, by omega, by go_num, HO.out, ((World.cell?_setCell_other _ _ _ _ (by intro e; injection e with e1 e2; omega)).trans (World.cell?_setCell_other _ _ _ _ (by intro e; injection e with e1 e2; omega))).trans hbx, HG.out⟩
      case measure => simp [intOf]; omega
    · obtain rfl : k = n := by omega
      rw [copiedR_all _ HL.out] at hown
      go_wp2_with fail
      go_ret
      exact ⟨_, rfl, hown.mono (by omega), hbel⟩
end Go.Proofs.Ytopjhdgpdcdklaa
