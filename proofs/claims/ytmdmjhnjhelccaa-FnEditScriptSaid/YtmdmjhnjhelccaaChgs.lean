/- Slices of changes: read (Chgs), and rows of them that a call owns (OwnE): an empty one, append of one change. -/
import Derived.Test.YtmdmjhnjhelccaaRevSpec
import Derived.Maps.AppendAt
import Derived.Deep.AppendLies
namespace Go.Proofs.Ytmdmjhnjhelccaa
open Go.RowKit
set_option maxHeartbeats 400000
set_option linter.unusedSimpArgs false
set_option linter.unusedVariables false

theorem chg_info : (Try.prog.info? 24).map (fun i => (i.zero, i.size, i.bytes)) = some (some (.agg #[.int .i64 0, .int .i64 0, .int .u8 0]), 3, 24) := by kernel_rfl
def chgCells (e : Chg) : List Value := [.int .i64 e.k, .int .i64 e.p, .int .u8 (e.c.toNat : Int)]
def rowCells (l : List Chg) : List Value := l.flatMap chgCells
theorem rowCells_len (l : List Chg) : (rowCells l).length = l.length * 3 := by
  induction l with
  | nil => rfl
  | cons e l ih => unfold rowCells at ih ⊢; rw [List.flatMap_cons, List.length_append, ih, List.length_cons]; simp [chgCells]; omega
theorem rowCells_append (l m : List Chg) : rowCells (l ++ m) = rowCells l ++ rowCells m := by unfold rowCells; rw [List.flatMap_append]
theorem rowCells_get (l : List Chg) (j : Nat) (e : Chg) (h : l[j]? = some e) :
    (rowCells l)[j * 3]? = some (.int .i64 e.k) ∧ (rowCells l)[j * 3 + 1]? = some (.int .i64 e.p) ∧ (rowCells l)[j * 3 + 2]? = some (.int .u8 (e.c.toNat : Int)) := by
  induction l generalizing j with
  | nil => simp at h
  | cons d l ih =>
    unfold rowCells at ih ⊢
    rw [List.flatMap_cons]
    cases j with
    | zero => simp at h; subst h; exact ⟨rfl, rfl, rfl⟩
    | succ j =>
      have hj : l[j]? = some e := by simpa using h
      have := ih j hj
      have hl : (chgCells d).length = 3 := rfl
      refine ⟨?_, ?_, ?_⟩
      · rw [List.getElem?_append_right (by omega), show (j + 1) * 3 - (chgCells d).length = j * 3 by omega]; exact this.1
      · rw [List.getElem?_append_right (by omega), show (j + 1) * 3 + 1 - (chgCells d).length = j * 3 + 1 by omega]; exact this.2.1
      · rw [List.getElem?_append_right (by omega), show (j + 1) * 3 + 2 - (chgCells d).length = j * 3 + 2 by omega]; exact this.2.2

/-- the slice A, n holds the changes l, in a block below B -/
def Chgs (w : World) (B : Nat) (A : Option Addr) (n : Nat) (l : List Chg) : Prop :=
  l.length = n ∧ (0 < n → ∃ b o, A = some ⟨b, o, none⟩ ∧ b < B ∧ ∀ j e, l[j]? = some e →
    w.cell? ⟨b, o + j * 3, none⟩ = some (.int .i64 e.k) ∧ w.cell? ⟨b, o + j * 3 + 1, none⟩ = some (.int .i64 e.p) ∧ w.cell? ⟨b, o + j * 3 + 2, none⟩ = some (.int .u8 (e.c.toNat : Int)))
section
variable {w w' : World} {B B' n : Nat} {A : Option Addr} {l : List Chg}
theorem Chgs.none_ : Chgs w B none 0 [] := ⟨rfl, fun h => absurd h (by omega)⟩
theorem Chgs.keep (h : Chgs w B A n l) (hk : ∀ p : Addr, p.block < B → w'.cell? p = w.cell? p) : Chgs w' B A n l :=
  ⟨h.1, fun hn => by
    obtain ⟨b, o, e, hb, hc⟩ := h.2 hn
    exact ⟨b, o, e, hb, fun j x hx => ⟨(hk _ hb).trans (hc j x hx).1, (hk _ hb).trans (hc j x hx).2.1, (hk _ hb).trans (hc j x hx).2.2⟩⟩⟩
theorem Chgs.more (h : Chgs w B A n l) (hB : B ≤ B') : Chgs w B' A n l :=
  ⟨h.1, fun hn => by
    obtain ⟨b, o, e, hb, hc⟩ := h.2 hn
    exact ⟨b, o, e, by omega, hc⟩⟩
theorem Chgs.below (h : Chgs w B A n l) (hb : Below B w w') : Chgs w' B A n l := h.keep fun _ hp => hb.cell hp
theorem Chgs.step (h : Chgs w B A n l) (hb : Below w.heap.size w w') (hB : B ≤ w.heap.size) : Chgs w' B A n l := h.below (hb.mono hB)
theorem Chgs.drawn (h : Chgs w B A n l) (hd : Drawn w w') : Chgs w' B A n l := h.below hd.below
theorem Chgs.len (h : Chgs w B A n l) : l.length = n := h.1
theorem Chgs.at_ {k : Nat} (h : Chgs w B A n l) (hk : k < n) : ∃ b o e, A = some ⟨b, o, none⟩ ∧ b < B ∧ l[k]? = some e ∧
    w.cell? ⟨b, o + k * 3, none⟩ = some (.int .i64 e.k) ∧ w.cell? ⟨b, o + k * 3 + 1, none⟩ = some (.int .i64 e.p) ∧ w.cell? ⟨b, o + k * 3 + 2, none⟩ = some (.int .u8 (e.c.toNat : Int)) := by
  obtain ⟨b, o, e, hb, hc⟩ := h.2 (by omega)
  have hl : k < l.length := by have := h.1; omega
  exact ⟨b, o, l[k], e, hb, List.getElem?_eq_getElem hl, hc k _ (List.getElem?_eq_getElem hl)⟩
end

/-- the slice at the head of block g holds the changes l; the call owns it from base on -/
def OwnE (w : World) (base g n cap : Nat) (l : List Chg) : Prop :=
  w.ownsRow base 24 3 (.slice (some ⟨g, 0, none⟩) n cap) n (rowCells l)
theorem OwnE.len {w : World} {base g n cap : Nat} {l : List Chg} (h : OwnE w base g n cap l) : l.length = n := by have := h.1; rw [rowCells_len] at this; omega
theorem OwnE.lt {w : World} {base g n cap : Nat} {l : List Chg} (h : OwnE w base g n cap l) : base ≤ g ∧ g < w.heap.size := World.ownsRow.lt h g rfl
theorem OwnE.caps {w : World} {base g n cap : Nat} {l : List Chg} (h : OwnE w base g n cap l) : n ≤ cap ∧ cap ≤ maxLen := by
  rcases h.2 with ⟨hv, _⟩ | ⟨g', cap', cur, hv, _, _, hn, hc, _⟩
  · cases hv
  · cases hv; exact ⟨hn, hc⟩
theorem OwnE.mono {w : World} {base base' g n cap : Nat} {l : List Chg} (h : OwnE w base' g n cap l) (hb : base ≤ base') : OwnE w base g n cap l := by
  refine ⟨h.1, ?_⟩
  rcases h.2 with h1 | ⟨g', cap', cur, a, b, c⟩
  · exact .inl h1
  · exact .inr ⟨g', cap', cur, a, Nat.le_trans hb b, c⟩
theorem OwnE.block {w w' : World} {base g n cap : Nat} {l : List Chg} (h : OwnE w base g n cap l) (hk : w'.heap[g]? = w.heap[g]?) : OwnE w' base g n cap l := by
  refine ⟨h.1, ?_⟩
  rcases h.2 with ⟨hv, _⟩ | ⟨g', cap', cur, hv, hb, hh, r⟩
  · cases hv
  · cases hv; exact .inr ⟨g, cap, cur, rfl, hb, hk.trans hh, r⟩
theorem OwnE.below {w w' : World} {base g n cap : Nat} {l : List Chg} (h : OwnE w base g n cap l) (hb : Below w.heap.size w w') : OwnE w' base g n cap l := h.block (hb.block g h.lt.2)
theorem OwnE.drawn {w w' : World} {base g n cap : Nat} {l : List Chg} (h : OwnE w base g n cap l) (hd : Drawn w w') : OwnE w' base g n cap l := h.below hd.below
theorem OwnE.alloc {w : World} {base g n cap : Nat} {l : List Chg} (h : OwnE w base g n cap l) (o : Obj) : OwnE (w.alloc o) base g n cap l := h.below ((Below.refl _ _).alloc (Nat.le_refl _) _)
theorem OwnE.empty (w : World) : OwnE (w.alloc (.cells #[] 24)) w.heap.size w.heap.size 0 0 [] :=
  ⟨rfl, .inr ⟨w.heap.size, 0, #[], rfl, Nat.le_refl _, heap_alloc_new w _, Nat.le_refl _, Nat.zero_le _, rfl, rfl⟩⟩
theorem OwnE.at_ {w : World} {base g n cap j : Nat} {l : List Chg} {e : Chg} (h : OwnE w base g n cap l) (he : l[j]? = some e) :
    w.cell? ⟨g, j * 3, none⟩ = some (.int .i64 e.k) ∧ w.cell? ⟨g, j * 3 + 1, none⟩ = some (.int .i64 e.p) ∧ w.cell? ⟨g, j * 3 + 2, none⟩ = some (.int .u8 (e.c.toNat : Int)) := by
  have hj : j < n := by have := (List.getElem?_eq_some_iff.1 he).1; have := h.len; omega
  obtain ⟨a, b, c⟩ := rowCells_get l j e he
  exact ⟨(World.ownsRow.cellAt h _ (by omega)).trans a, (World.ownsRow.cellAt h _ (by omega)).trans b, (World.ownsRow.cellAt h _ (by omega)).trans c⟩
/-- such a row reads as its changes -/
theorem OwnE.chgs {w : World} {base g n cap : Nat} {l : List Chg} (h : OwnE w base g n cap l) : Chgs w w.heap.size (some ⟨g, 0, none⟩) n l :=
  ⟨h.len, fun hn => ⟨g, 0, rfl, h.lt.2, fun j e he => by have := h.at_ he; simpa using this⟩⟩

/-- append of one change onto a row of the call's own -/
theorem run_append_chg (w : World) (ty base g n cap c h : Nat) (l : List Chg) (e : Chg) (hown : OwnE w base g n cap l) (hv : w.cell? ⟨h, 0, none⟩ = some (.int .i64 e.k)) (hv1 : w.cell? ⟨h, 1, none⟩ = some (.int .i64 e.p)) (hv2 : w.cell? ⟨h, 2, none⟩ = some (.int .u8 (e.c.toNat : Int)))
    (hb : base ≤ w.heap.size) (hsm : n + 1 ≤ 1000000000) :
    ∃ g' cap' w', (Builtin.append_ #[35, 35] ty #[.slice (some ⟨g, 0, none⟩) n cap, .slice (some ⟨h, 0, none⟩) 1 c]).run Try.prog w = .ok (.slice (some ⟨g', 0, none⟩) (n + 1) cap') w' ∧
      OwnE w' base g' (n + 1) cap' (l ++ [e]) ∧ w.grownBy w' (some g) := by
  obtain ⟨i0, hi0, hz0, hz1, hz2⟩ := info_parts chg_info
  have hnews : ∀ j u, (chgCells e)[j]? = some u → w.cell? ((⟨h, 0, none⟩ : Addr).add j) = some u := by
    intro j u hu
    match j, hu with
    | 0, hu => simp [chgCells] at hu; subst hu; simpa [Addr.add] using hv
    | 1, hu => simp [chgCells] at hu; subst hu; simpa [Addr.add] using hv1
    | 2, hu => simp [chgCells] at hu; subst hu; simpa [Addr.add] using hv2
    | j + 3, hu => simp [chgCells] at hu
  obtain ⟨v', w', hr, h2, h3, h4, h5⟩ := run_append_own_at (P := Try.prog) w base 35 ty 24 i0 _ 3 24 Try.underlying35 hi0 hz0 hz1 hz2 rfl (by omega) _ n _ hown ⟨h, 0, none⟩ 1 c (chgCells e) rfl hnews (by simp [chgCells, Value.oneCell']) (by unfold maxLen; omega) (by omega) hb
  have h2' : w'.ownsRow base 24 3 v' (n + 1) (rowCells (l ++ [e])) := by rw [rowCells_append]; simpa [rowCells] using h2
  rcases h2'.2 with ⟨hx, h0⟩ | ⟨g', cap', cur, hx, r⟩
  · omega
  · subst hx
    exact ⟨g', cap', w', hr, h2', h3⟩
theorem wp_append_chg {ops : Array Oper} {rest : List Oper} {o : Oper} {a : Act} {w : World} {Q : Exit → Act → World → Prop} (hgd : o.guard = none) (s x : Operand)
    (ho : o.op = .call { callee := .builtin .append, args := #[s, x], argTypes := #[35, 35] })
    (base g n cap c h : Nat) (l : List Chg) (e : Chg) (hs : a.eval s = .slice (some ⟨g, 0, none⟩) n cap) (hown : OwnE w base g n cap l) (hx : a.eval x = .slice (some ⟨h, 0, none⟩) 1 c)
    (hv : w.cell? ⟨h, 0, none⟩ = some (.int .i64 e.k)) (hv1 : w.cell? ⟨h, 1, none⟩ = some (.int .i64 e.p)) (hv2 : w.cell? ⟨h, 2, none⟩ = some (.int .u8 (e.c.toNat : Int))) (hb : base ≤ w.heap.size) (hsm : n + 1 ≤ 1000000000)
    (hk : ∀ g' cap' w', OwnE w' base g' (n + 1) cap' (l ++ [e]) → w.grownBy w' (some g) → wpList Try.prog ops Q rest (a.put o.dst (.slice (some ⟨g', 0, none⟩) (n + 1) cap')) w') : wpList Try.prog ops Q (o :: rest) a w := by
  obtain ⟨g', cap', w', hr, h2, h3⟩ := run_append_chg w o.type base g n cap c h l e hown hv hv1 hv2 hb hsm
  refine wpList_plain hgd fun K hK => ?_
  unfold Oper.wp execOp
  simp only [ho, resolve, invoke, builtin, Sem.run_bind, Sem.run_pure, Result.andThen_ok, List.map_toArray, List.map_cons, List.map_nil, hs, hx, hr]
  exact hK _ _ (hk _ _ _ h2 h3)
end Go.Proofs.Ytmdmjhnjhelccaa
