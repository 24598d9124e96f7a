/- Contract of the program's ApplyEdit. -/
import Derived.Test.YtmdmjhnjhelccaaImplIns2
import Derived.Test.YtmdmjhnjhelccaaLwApply
namespace Go.Proofs.Ytmdmjhnjhelccaa
open Go.RowKit Go.Lib
set_option maxHeartbeats 1600000
set_option linter.unusedSimpArgs false
set_option linter.unusedVariables false

/-- a row of bytes that a call handed back, n long -/
def InsOut (B n : Nat) (l : List UInt8) (w : World) (e : Ending) (w' : World) : Prop :=
  ∃ g cap : Nat, e = .returned (.slice (some ⟨g, 0, none⟩) n cap) ∧ (∀ a b, (convert 22 9 (.slice (some ⟨g, 0, none⟩) n cap)).run Try.prog (w'.drewN a |>.drewN b) = .ok (.string ⟨l.toArray⟩) (w'.drewN a |>.drewN b)) ∧ Below B w w'
theorem back_text {w : World} {g cap n : Nat} {l : List UInt8} (hn : l.length = n) (h : ∀ j c, l[j]? = some c → w.cell? ⟨g, j, none⟩ = some (.int .u8 (c.toNat : Int))) :
    (convert 22 9 (.slice (some ⟨g, 0, none⟩) n cap)).run Try.prog w = .ok (.string ⟨l.toArray⟩) w := by
  subst hn
  exact run_convert_bytes_back w 22 9 5 ⟨g, 0, none⟩ cap l Try.underlying22 Try.underlying5 Try.underlying9 (fun j hj => by
    rw [Addr.add_lit, Nat.zero_add]
    exact h j _ (List.getElem?_eq_getElem hj))
theorem InsPost.outs {B n : Nat} {l : List UInt8} {w w' : World} {e : Ending} (h : InsPost B l w e w') (hn : l.length = n) : InsOut B n l w e w' := by
  obtain ⟨g, cap, he, hc, hb⟩ := h
  rw [hn] at he
  exact ⟨g, cap, he, fun a b => back_text hn hc, hb⟩

theorem insert_one (g cap i vb vc B n : Nat) (l : List UInt8) (c : UInt8) (w : World) (hn : l.length = n) (h : OwnB w g cap l) (hB : B ≤ g) (hg : g < w.heap.size) (hi : i ≤ n) (hl : n ≤ 1000) (hvb : vb ≠ g)
    (hv : w.cell? ⟨vb, 0, none⟩ = some (.int .u8 (c.toNat : Int))) (tA tB : TypeId) (kA kB : Nat) (hsa : w.shape? vb = some (tA, kA)) (hsb : w.shape? g = some (tB, kB)) (hkB : n ≤ kB) (hfa : w.frozen? ⟨vb, 0, none⟩ = false) (hfe : w.frozen? ⟨vb, kA, none⟩ = false) :
    Calls Try.prog 40 #[.slice (some ⟨g, 0, none⟩) n cap, .int .i64 i, .slice (some ⟨vb, 0, none⟩) 1 vc] w (InsOut B (n + 1) (insL l i c) w) := by
  subst hn
  have hlen := insL_len l i c hi
  by_cases he : i = l.length
  · subst he
    have hx : insL l l.length c = l ++ [c] := by unfold insL; simp
    by_cases hr : l.length + 1 ≤ cap
    · exact (insert_end_room g cap vb vc B l c w h hB hr hv).mono fun e w' hp => InsPost.outs (hx ▸ hp) hlen
    · exact (insert_end_grow g cap vb vc B l c w h (by omega) (by omega) hl hv).mono fun e w' hp => InsPost.outs (hx ▸ hp) hlen
  · by_cases hr : l.length + 1 ≤ cap
    · exact (insert_shift g cap i vb vc B l c w h hB hr (by omega) hvb hv tA tB kA kB hsa hsb (by omega) hfa hfe).mono fun e w' hp => hp.outs hlen
    · exact (insert_grow g cap i vb vc B l c w h (by omega) (by omega) hl (by omega) hv).mono fun e w' hp => hp.outs hlen
theorem delete_is (g cap i B n : Nat) (l : List UInt8) (w : World) (hn : l.length = n) (h : OwnB w g cap l) (hB : B ≤ g) (hi : i < n) (hl : n ≤ 1000) :
    Calls Try.prog 41 #[.slice (some ⟨g, 0, none⟩) n cap, .int .i64 i, .int .i64 ((i : Int) + 1)] w (InsOut B (n - 1) (l.take i ++ l.drop (i + 1)) w) := by
  subst hn
  exact (delete_one g cap i B l w h hB hi hl).mono fun e w' hp => hp.outs (by rw [List.length_append, List.length_take, List.length_drop]; omega)

/-- what '[]byte(s)' lays -/
theorem bytes_row (w : World) (s : ByteArray) (hs : s.size ≤ 1000) :
    ∃ (cap : Nat) (W : World), (convert 9 22 (.string s)).run Try.prog w = .ok (.slice (some ⟨w.heap.size, 0, none⟩) s.size cap) W ∧
      OwnB W w.heap.size cap s.data.toList ∧ W.shape? w.heap.size = some (5, cap) ∧ W.heap.size = w.heap.size + 1 ∧ Below w.heap.size w W := by
  have hge : s.size ≤ grownCap w s.size 0 5 := grownCap_ge w _ _ _
  have hle := grownCap_le_maxLen w s.size 0 5 (by unfold maxLen; omega)
  have hsz : (bytesRow s (grownCap w s.size 0 5)).size = grownCap w s.size 0 5 := by
    unfold bytesRow
    simp
    have : s.data.size = s.size := rfl
    omega
  have hr := run_bytes_of_string (P := Try.prog) w 9 22 5 s Try.underlying9 Try.underlying22 Try.underlying5
  rw [hsz] at hr
  generalize grownCap w s.size 0 5 = cap at *
  have hw : w.drew.heap.size = w.heap.size := rfl
  have hc : ∀ j, (w.drew.alloc (.cells (bytesRow s cap) 5 (cap, cap + 1))).cell? ⟨w.heap.size, j, none⟩ = (bytesRow s cap)[j]? := fun j => by
    rw [← hw]; exact World.cell?_alloc_mark _ _ _ _ _
  have hf : ∀ j, (w.drew.alloc (.cells (bytesRow s cap) 5 (cap, cap + 1))).frozen? ⟨w.heap.size, j, none⟩ = (decide (cap ≤ j) && decide (j < cap + 1)) := fun j => by
    rw [← hw]; exact World.frozen?_alloc_mark _ _ _ _ _ _
  refine ⟨cap, _, hr, ⟨by rw [len_eq]; exact hge, hle, fun j c hj => ?_, fun j hj => ⟨?_, ?_⟩⟩, ?_, ?_, (Below.refl _ _).drew.alloc (Nat.le_refl _) _⟩
  · obtain ⟨hl, he⟩ := List.getElem?_eq_some_iff.1 hj
    rw [hc, bytesRow_at s cap j (by simpa using hl)]
    rw [← he]; simp
  · rw [hc, Array.getElem?_eq_getElem (by omega)]; rfl
  · rw [hf]; simp; omega
  · unfold World.shape?
    have : (w.drew.alloc (.cells (bytesRow s cap) 5 (cap, cap + 1))).heap[w.heap.size]? = some (.cells (bytesRow s cap) 5 (cap, cap + 1)) := by
      show (w.heap.push _)[w.heap.size]? = _
      simp
    rw [this]
    simp [hsz]
  · show (w.heap.push _).size = _
    simp

theorem OwnB.below {w w' : World} {g cap B : Nat} {l : List UInt8} (h : OwnB w g cap l) (hb : Below B w w') (hg : g < B) : OwnB w' g cap l :=
  ⟨h.1, h.2.1, fun j d hj => (hb.cell (p := ⟨g, j, none⟩) hg).trans (h.2.2.1 j d hj), fun j hj => ⟨by rw [hb.cell (p := ⟨g, j, none⟩) hg]; exact (h.2.2.2 j hj).1, (hb.frozen (p := ⟨g, j, none⟩) hg).trans (h.2.2.2 j hj).2⟩⟩
theorem shape_below {w w' : World} {g B : Nat} {x : TypeId × Nat} (h : w.shape? g = some x) (hb : Below B w w') (hg : g < B) : w'.shape? g = some x := by
  unfold World.shape? at h ⊢
  rw [hb.block g hg]
  exact h
/-- the call with its variadic argument in a block of its own -/
theorem insert_lit (g cap i B n : Nat) (l : List UInt8) (c : UInt8) (W : World) (hn : l.length = n) (h : OwnB W g cap l) (hsh : W.shape? g = some (5, cap)) (hB : B ≤ g) (hg : g < W.heap.size) (hi : i ≤ n) (hl : n ≤ 1000) :
    Calls Try.prog 40 #[.slice (some ⟨g, 0, none⟩) n cap, .int .i64 i, .slice (some ⟨W.heap.size, 0, none⟩) 1 1] (W.alloc (.cells #[.int .u8 (c.toNat : Int)] 5)) (InsOut B (n + 1) (insL l i c) (W.alloc (.cells #[.int .u8 (c.toNat : Int)] 5))) := by
  have hb : Below W.heap.size W (W.alloc (.cells #[.int .u8 (c.toNat : Int)] 5)) := (Below.refl _ _).alloc (Nat.le_refl _) _
  have hs2 : (W.alloc (.cells #[.int .u8 (c.toNat : Int)] 5)).shape? W.heap.size = some (5, 1) := by
    unfold World.shape?
    rw [heap_alloc_new]
    rfl
  refine insert_one g cap i W.heap.size 1 B n l c _ hn (h.below hb hg) hB ?_ hi hl (by omega) (World.cell?_alloc_at _ _ _ _ rfl) _ _ _ _ hs2 (shape_below hsh hb hg) ?_ (World.frozen?_alloc_at _ _ _ _ rfl) (World.frozen?_alloc_at _ _ _ _ rfl)
  · have := hb.size; omega
  · rw [← hn]; exact h.1
/-- what lies in the change's block still lies there -/
theorem kept_two {w w1 W : World} {a b d : Value} {T : TypeId} (hb : Below (w.alloc (.cells #[a, b, d] T)).heap.size (w.alloc (.cells #[a, b, d] T)) w1) (hW : Below w1.heap.size w1 W) :
    w.heap.size < w1.heap.size ∧ W.cell? ⟨w.heap.size, 0, none⟩ = some a ∧ W.cell? ⟨w.heap.size, 1, none⟩ = some b ∧ W.cell? ⟨w.heap.size, 2, none⟩ = some d ∧ Below w.heap.size w W := by
  have hz : w.heap.size < w1.heap.size := by have := hb.size; simp at this; omega
  exact ⟨hz, (hW.cell hz).trans ((hb.cell (by simp)).trans (World.cell?_alloc_at _ _ _ _ rfl)), (hW.cell hz).trans ((hb.cell (by simp)).trans (World.cell?_alloc_at _ _ _ _ rfl)), (hW.cell hz).trans ((hb.cell (by simp)).trans (World.cell?_alloc_at _ _ _ _ rfl)),
    (((Below.refl _ _).alloc (Nat.le_refl _) _).trans (hb.mono (by simp))).trans (hW.mono (by omega))⟩
/-- a byte stored -/
theorem text_stored {W : World} {g cap n : Nat} {s : ByteArray} {c : UInt8} (hown : OwnB W g cap s.data.toList) (hn : n < s.size) :
    (convert 22 9 (.slice (some ⟨g, 0, none⟩) s.size cap)).run Try.prog (W.setCell ⟨g, n, none⟩ (.int .u8 (c.toNat : Int))) = .ok (.string ⟨(s.data.toList.take n ++ c :: s.data.toList.drop (n + 1)).toArray⟩) (W.setCell ⟨g, n, none⟩ (.int .u8 (c.toNat : Int))) := by
  refine back_text (by simp only [List.length_append, List.length_take, List.length_cons, List.length_drop, len_eq]; omega) (fun j d hj => ?_)
  by_cases hjn : j = n
  · subst hjn
    rw [List.getElem?_append_right (by rw [List.length_take]; omega), List.length_take, len_eq, show j - min j s.size = 0 by omega] at hj
    simp at hj
    subst hj
    obtain ⟨u, hu⟩ := Option.isSome_iff_exists.1 (hown.2.2.2 j (by have := hown.1; rw [len_eq] at this; omega)).1
    exact World.cell?_setCell_same _ _ _ hu
  · rw [World.cell?_setCell_other _ _ _ _ (by intro e; injection e with e1 e2; omega)]
    refine hown.2.2.1 j d ?_
    by_cases hlt : j < n
    · rwa [List.getElem?_append_left (by rw [List.length_take, len_eq]; omega), List.getElem?_take_of_lt hlt] at hj
    · rw [List.getElem?_append_right (by rw [List.length_take]; omega), List.length_take, len_eq, show j - min n s.size = (j - n - 1) + 1 by omega, List.getElem?_cons_succ, List.getElem?_drop] at hj
      rwa [show n + 1 + (j - n - 1) = j by omega] at hj

set_option maxRecDepth 100000 in
theorem applyEdit_impl : ApplyC := by
  intro s k p c w hs
  have hs' := hs
  unfold maxLen at hs
  cases ha : applyL s.data.toList ⟨k, p, c⟩
  · have HV := Lib.hid (show (applyL s.data.toList ⟨k, p, c⟩).isSome = false by rw [ha]; rfl)
    have HN := Lib.hid (applyV_none ha)
    clear ha
    go_enter Try.func13, Try.ntmps13
    go_wp2_with fail
    refine (editPossible_any s k p c _ HV.out _ hs').mono ?_
    rintro e w1 ⟨rfl, hb⟩
    go_wp2_with fail
    go_ret2
    exact ⟨by rw [HN.out]; rfl, ((Below.refl _ _).alloc (Nat.le_refl _) _).trans (hb.mono (by simp))⟩
  · rename_i x
    have HV := Lib.hid (show (applyL s.data.toList ⟨k, p, c⟩).isSome = true by rw [ha]; rfl)
    have HN := Lib.hid (applyV_some ha)
    obtain ⟨n, hp, hall, hl24, hcs⟩ := applyL_cases ha
    simp only at hp hcs
    subst hp
    rw [len_eq] at hl24
    clear ha hall
    have i0 : (0 : Int) ≤ (n : Int) := by omega
    rcases hcs with ⟨rfl, -, hn, -, hx⟩ | ⟨rfl, -, hn, hx⟩ | ⟨rfl, -, hn, -, hx⟩
    · rw [len_eq] at hn
      have HX := Lib.hid (show x = insL s.data.toList n c from hx)
      clear hx
      go_enter Try.func13, Try.ntmps13
      go_wp2_with fail
      refine (editPossible_any s 1 n c _ HV.out _ hs').mono ?_
      rintro e w1 ⟨rfl, hb⟩
      obtain ⟨cap, W, hr, hown, hsh, hsz, hbW⟩ := bytes_row w1 s (by omega)
      obtain ⟨hz, h0, h1, h2, hbb⟩ := kept_two hb hbW
      have HO := Lib.hid hown
      have HS := Lib.hid hsh
      have hz2 : w1.heap.size < W.heap.size := by omega
      clear hown hsh hb hbW hsz
      go_wp2_with fail
      refine (insert_lit w1.heap.size cap n w.heap.size s.size s.data.toList c W (len_eq s) HO.out HS.out (by omega) (by omega) hn (by omega)).mono ?_
      rintro e w2 ⟨g2, cap2, rfl, hback, hb2⟩
      have hb3 := (hbb.alloc (by omega) (.cells #[.int .u8 (c.toNat : Int)] 5)).trans hb2
      have hbk := hback 0 0
      rw [← HX.out, World.drewN_zero, World.drewN_zero] at hbk
      clear hback
      go_wp2_with fail
      go_ret2
      exact ⟨by rw [HN.out]; rfl, hb3⟩
    · rw [len_eq] at hn
      have HX := Lib.hid hx
      clear hx
      have i1 : (n : Int) + 1 ≤ (s.size : Int) := by omega
      have hw := IntWalk.i64_in ((n : Int) + 1) (by omega)
      go_enter Try.func13, Try.ntmps13
      go_wp2_with fail
      refine (editPossible_any s 2 n c _ HV.out _ hs').mono ?_
      rintro e w1 ⟨rfl, hb⟩
      obtain ⟨cap, W, hr, hown, hsh, hsz, hbW⟩ := bytes_row w1 s (by omega)
      obtain ⟨hz, h0, h1, h2, hbb⟩ := kept_two hb hbW
      have HO := Lib.hid hown
      clear hown hsh hb hbW
      go_wp2_with fail
      refine (delete_is w1.heap.size cap n w.heap.size s.size s.data.toList _ (len_eq s) HO.out (by omega) hn (by omega)).mono ?_
      rintro e w2 ⟨g2, cap2, rfl, hback, hb2⟩
      have hb3 := hbb.trans hb2
      have hbk := hback 0 0
      rw [← HX.out, World.drewN_zero, World.drewN_zero] at hbk
      clear hback
      go_wp2_with fail
      go_ret2
      exact ⟨by rw [HN.out]; rfl, hb3⟩
    · rw [len_eq] at hn
      have HX := Lib.hid hx
      clear hx
      have i1 : (n : Int) < (s.size : Int) := by omega
      go_enter Try.func13, Try.ntmps13
      go_wp2_with fail
      refine (editPossible_any s 3 n c _ HV.out _ hs').mono ?_
      rintro e w1 ⟨rfl, hb⟩
      obtain ⟨cap, W, hr, hown, hsh, hsz, hbW⟩ := bytes_row w1 s (by omega)
      obtain ⟨hz, h0, h1, h2, hbb⟩ := kept_two hb hbW
      have hfz : W.frozen? ⟨w1.heap.size, n, none⟩ = false := (hown.2.2.2 n (by have := hown.1; rw [len_eq] at this; omega)).2
      have hce : ∃ u, W.cell? ⟨w1.heap.size, n, none⟩ = some u := Option.isSome_iff_exists.1 (hown.2.2.2 n (by have := hown.1; rw [len_eq] at this; omega)).1
      obtain ⟨u, hu⟩ := hce
      have hbk := text_stored (c := c) hown hn
      rw [← HX.out] at hbk
      clear hown hsh hb hbW HX
      go_wp2_with fail
      go_ret2
      exact ⟨by rw [HN.out]; rfl, hbb.setCell (show w.heap.size ≤ w1.heap.size by omega) _⟩
end Go.Proofs.Ytmdmjhnjhelccaa
