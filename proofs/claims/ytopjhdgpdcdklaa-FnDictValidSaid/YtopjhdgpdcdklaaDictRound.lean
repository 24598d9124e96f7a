/- The drawing of a dictionary: its round, a region of three draws, two tables and an append, in every order (written by wip/tools/gendraw6b.py). -/
import Derived.Test.YtopjhdgpdcdklaaDictDraw
namespace Go.Proofs.Ytopjhdgpdcdklaa
open Go.RowKit
set_option maxHeartbeats 16000000
set_option linter.unusedSimpArgs false
set_option linter.unusedVariables false
attribute [local go_sem ↓] Go.wp_at_zero Go.wp_at_succ
theorem dict_any (b p : Nat) (n : Int) (w : World) (hr : Rd w b p) (hp : p ≤ 400000) (hn0 : 0 ≤ n) (hn : n ≤ 1000) :
    Calls Try.prog 48 #[.pointer (some ⟨b, 0, none⟩), .int .i64 n] w (DictPost b p 1000 w) := by
  have hbl := hr.lt
  go_enter Try.func48, Try.ntmps48
  go_wp2_with fail
  refine (list_any b p _ _ hr (by omega) (by omega) (by omega)).mono ?_
  rintro e w1 ⟨gl, nl, capl, l, rfl, hown, hm, hsh, hd1⟩
  obtain ⟨q1, hq1a, hq1b, got1⟩ := (Got.refl hr).step hd1
  have z1 := got1.size
  have s0 : St w b p q1 w1.heap.size w1.heap.size 0 0 gl nl capl [] l (w1.alloc (.cells #[] 28)) :=
    ⟨got1.alloc _, items_empty w1, hown.below ((Below.refl _ _).alloc (Nat.le_refl _) _)⟩
  have hgl := hown.lt
  clear hd1 hr got1 hown
  go_wp2_with fail
  go_loopw [6, 7] (fun v i wr => ∃ (j q g cap : Nat) (d : List Item), j ≤ nl ∧ v = .slice (some ⟨g, 0, none⟩) j cap ∧ i = .int .i64 j ∧ q ≤ p + 710 + 3 * j ∧ DrawnI d ∧ St w b p q w1.heap.size g j cap gl nl capl d l wr) (fun _ i _ => nl - (intOf i).toNat)
  case atStart => exact ⟨0, q1, _, _, [], Nat.zero_le _, rfl, rfl, by omega, (by intro x hx; cases hx), s0⟩
  case round =>
    clear s0
    obtain ⟨j, q, g, cap, d, hj, rfl, rfl, hq, hdi, st⟩ := hrel
    by_cases hlt : j < nl
    · obtain ⟨bb, oo, s, he, _, hs, hss, c0⟩ := st.lst.strs.at_ (k := j) hlt
      injection he with he; injection he with e1 e2; subst e1; subst e2
      rw [Nat.zero_add] at c0
      have hs13 := hsh s (List.mem_of_getElem? hs)
      have i0 : (0 : Int) ≤ (j : Int) := by omega
      have i1 : (j : Int) < (nl : Int) := by omega
      go_wp2_with fail
      refine wp_region_noPanic ?_
      refine wp_region_held_drew (S := fun w' => w'.cell? ⟨gl, j, none⟩ = some (.string s)) (by kernel_rfl) ?_ (fun hHeld => ?_)
      · (try dsimp only)
        (first | exact c0 | go_keep)
      refine wpAnyH_take (i := 0) (oi := _) (v := ?v101) rfl (by kernel_rfl) (by kernel_rfl) (by kernel_rfl) (fun _ _ _ h => h) (Or.inl ⟨by rfl, ?hy101⟩) (by assumption) ?_
      case hy101 => (intro w hSw; (try dsimp only at hSw); go_simp <;> with_reducible rfl)
      try simp only [Act.put, List.setIfInBounds_toArray, List.set_cons_zero, List.set_cons_succ]
      refine wpAnyH_take (i := 1) (oi := _) (v := ?v102) rfl (by kernel_rfl) (by kernel_rfl) (by kernel_rfl) (fun _ _ _ h => h) (Or.inl ⟨by rfl, ?hy102⟩) (by assumption) ?_
      case hy102 => (intro w hSw; (try dsimp only at hSw); go_simp <;> with_reducible rfl)
      try simp only [Act.put, List.setIfInBounds_toArray, List.set_cons_zero, List.set_cons_succ]
      refine wpAnyH_take (i := 2) (oi := _) (v := ?v103) rfl (by kernel_rfl) (by kernel_rfl) (by kernel_rfl) (fun _ _ _ h => h) (Or.inl ⟨by rfl, ?hy103⟩) (by assumption) ?_
      case hy103 => (intro w hSw; (try dsimp only at hSw); go_simp <;> with_reducible rfl)
      try simp only [Act.put, List.setIfInBounds_toArray, List.set_cons_zero, List.set_cons_succ]
      refine wpAnyH_take (i := 3) (oi := _) (v := ?v104) rfl (by kernel_rfl) (by kernel_rfl) (by kernel_rfl) (fun _ _ _ h => h) (Or.inl ⟨by rfl, ?hy104⟩) (by assumption) ?_
      case hy104 => (intro w hSw; (try dsimp only at hSw); go_simp <;> with_reducible rfl)
      try simp only [Act.put, List.setIfInBounds_toArray, List.set_cons_zero, List.set_cons_succ]
      refine wpAnyH_take (i := 4) (oi := _) (v := ?v105) rfl (by kernel_rfl) (by kernel_rfl) (by kernel_rfl) (fun _ _ _ h => h) (Or.inl ⟨by rfl, ?hy105⟩) (by assumption) ?_
      case hy105 => (intro w hSw; (try dsimp only at hSw); go_simp <;> with_reducible rfl)
      try simp only [Act.put, List.setIfInBounds_toArray, List.set_cons_zero, List.set_cons_succ]
      refine wpAnyH_take (i := 5) (oi := _) (v := ?v106) rfl (by kernel_rfl) (by kernel_rfl) (by kernel_rfl) (fun _ _ _ h => h) (Or.inl ⟨by rfl, ?hy106⟩) (by assumption) ?_
      case hy106 => (intro w hSw; (try dsimp only at hSw); go_simp <;> with_reducible rfl)
      try simp only [Act.put, List.setIfInBounds_toArray, List.set_cons_zero, List.set_cons_succ]
      refine wpAnyH_take (i := 7) (oi := _) (v := ?v107) rfl (by kernel_rfl) (by kernel_rfl) (by kernel_rfl) (fun _ _ _ h => h) (Or.inl ⟨by rfl, ?hy107⟩) (by assumption) ?_
      case hy107 => (intro w hSw; (try dsimp only at hSw); go_simp <;> with_reducible rfl)
      try simp only [Act.put, List.setIfInBounds_toArray, List.set_cons_zero, List.set_cons_succ]
      refine wpAnyH_take (i := 11) (oi := _) (v := ?v108) rfl (by kernel_rfl) (by kernel_rfl) (by kernel_rfl) (fun _ _ _ h => h) (Or.inl ⟨by rfl, ?hy108⟩) (by assumption) ?_
      case hy108 => (intro w hSw; (try dsimp only at hSw); go_simp <;> with_reducible rfl)
      try simp only [Act.put, List.setIfInBounds_toArray, List.set_cons_zero, List.set_cons_succ]
      refine wpAnyH_ready (rs := [6, 10]) (by kernel_rfl) (by simp) ?_
      refine AllReadyH.cons (o := _) rfl (fun K hK => ?_) ?_
      · go_simp
        (with_reducible refine (pick_any b q 4 (wr.drew) ?_ (by omega) (by decide)).mono ?_)
        · exact (st.drew1).got.rd
        rintro e w4 ⟨v4, rfl, hl4, hu4, -, hd4⟩
        have hu4 := hu4 (by decide)
        obtain ⟨q4, qa4, qb4, st4⟩ := St.step (st.drew1) hd4 hbl z1
        have ck4 := st4.cell hs
        clear hd4
        go_wp2_with fail
        refine hK.out _ _ ?_ (fun hH109 => ?_)
        · (try dsimp only)
          (first | exact ck6 | exact ck12 | exact ck8 | exact ck4 | exact c0 | go_keep)
        clear hK K hHeld
        try simp only [Act.put, List.setIfInBounds_toArray, List.set_cons_zero, List.set_cons_succ]
        refine wpAnyH_ready (rs := [8, 10]) (by kernel_rfl) (by simp) ?_
        refine AllReadyH.cons (o := _) rfl (fun K hK => ?_) ?_
        · go_simp
          (with_reducible refine (pick_any b q4 256 (w4) ?_ (by omega) (by decide)).mono ?_)
          · exact (st4).got.rd
          rintro e w8 ⟨v8, rfl, hl8, hu8, -, hd8⟩
          have hu8 := hu8 (by decide)
          obtain ⟨q8, qa8, qb8, st8⟩ := St.step (st4) hd8 hbl z1
          have ck8 := st8.cell hs
          clear hd8
          go_wp2_with fail
          refine hK.out _ _ ?_ (fun hH110 => ?_)
          · (try dsimp only)
            (first | exact ck6 | exact ck12 | exact ck8 | exact ck4 | exact c0 | go_keep)
          clear hK K hH109
          try simp only [Act.put, List.setIfInBounds_toArray, List.set_cons_zero, List.set_cons_succ]
          refine wpAnyH_ready (rs := [9, 10, 12]) (by kernel_rfl) (by simp) ?_
          refine AllReadyH.cons (o := _) rfl (fun K hK => ?_) ?_
          · go_simp
            refine hK.out _ _ ?_ (fun hH111 => ?_)
            · (try dsimp only)
              (first | exact ck6 | exact ck12 | exact ck8 | exact ck4 | exact c0 | go_keep)
            clear hK K hH110
            try simp only [Act.put, List.setIfInBounds_toArray, List.set_cons_zero, List.set_cons_succ]
            refine wpAnyH_ready (rs := [10, 12]) (by kernel_rfl) (by simp) ?_
            refine AllReadyH.cons (o := _) rfl (fun K hK => ?_) ?_
            · go_simp
              refine hK.out _ _ ?_ (fun hH112 => ?_)
              · (try dsimp only)
                (first | exact ck6 | exact ck12 | exact ck8 | exact ck4 | exact c0 | go_keep)
              clear hK K hH111
              try simp only [Act.put, List.setIfInBounds_toArray, List.set_cons_zero, List.set_cons_succ]
              refine wpAnyH_ready (rs := [12]) (by kernel_rfl) (by simp) ?_
              refine AllReadyH.cons (o := _) rfl (fun K hK => ?_) ?_
              · go_simp
                (with_reducible refine (pick_any b q8 7 ((w8.alloc (.cells #[.int .i64 v4, .int .i64 v8, .int .i64 999999] 3)).alloc (.cells #[.int .i64 0, .int .i64 0, .int .i64 0, .int .i64 0, .int .i64 1, .int .i64 1, .int .i64 2] 3)) ?_ (by omega) (by decide)).mono ?_)
                · exact ((st8.alloc _).alloc _).got.rd
                rintro e w12 ⟨v12, rfl, hl12, hu12, -, hd12⟩
                have hu12 := hu12 (by decide)
                obtain ⟨q12, qa12, qb12, st12⟩ := St.step ((st8.alloc _).alloc _) hd12 hbl z1
                have ck12 := st12.cell hs
                obtain ⟨x, hx0, hx1, hT⟩ := tab_cell v12 hl12 hu12
                obtain ⟨y, hy0, hy1, hV⟩ := vals_cell x v4 v8 hx0 hx1 hl4 (by omega) hl8 (by omega)
                have hyw : IntKind.i64.wrap (1 + y) = 1 + y := IntWalk.i64_in _ (by omega)
                have hyI : I64 (1 + y) := by unfold I64; omega
                have cV := hV _ _ (hd12.at_ (heap_alloc2_old w8 _ _) (by have := st8.got.rd.lt; have := st4.got.rd.lt; have := st.got.rd.lt; omega))
                have cT := hT _ _ (hd12.at_ (heap_alloc2_new w8 _ _) (by have := st8.got.rd.lt; have := st4.got.rd.lt; have := st.got.rd.lt; omega))
                clear hT hV
                clear hd12
                go_wp2_with fail
                refine hK.out _ _ ?_ (fun hH113 => ?_)
                · (try dsimp only)
                  (first | exact ck6 | exact ck12 | exact ck8 | exact ck4 | exact c0 | go_keep)
                clear hK K hH112
                try simp only [Act.put, List.setIfInBounds_toArray, List.set_cons_zero, List.set_cons_succ]
                refine wpAnyH_take (i := 13) (oi := _) (v := ?v114) rfl (by kernel_rfl) (by kernel_rfl) (by kernel_rfl) (fun _ _ _ h => h) (Or.inl ⟨by rfl, ?hy114⟩) (by assumption) ?_
                case hy114 => (intro w hSw; (try dsimp only at hSw); go_simp <;> with_reducible rfl)
                try simp only [Act.put, List.setIfInBounds_toArray, List.set_cons_zero, List.set_cons_succ]
                refine wpAnyH_ready (rs := [14]) (by kernel_rfl) (by simp) ?_
                refine AllReadyH.cons (o := _) rfl (fun K hK => ?_) ?_
                · go_simp
                  refine hK.out _ _ ?_ (fun hH115 => ?_)
                  · (try dsimp only)
                    (first | exact ck6 | exact ck12 | exact ck8 | exact ck4 | exact c0 | go_keep)
                  clear hK K hH113
                  try simp only [Act.put, List.setIfInBounds_toArray, List.set_cons_zero, List.set_cons_succ]
                  refine wpAnyH_take (i := 15) (oi := _) (v := ?v116) rfl (by kernel_rfl) (by kernel_rfl) (by kernel_rfl) (fun _ _ _ h => h) (Or.inl ⟨by rfl, ?hy116⟩) (by assumption) ?_
                  case hy116 => (intro w hSw; (try dsimp only at hSw); go_simp <;> with_reducible rfl)
                  try simp only [Act.put, List.setIfInBounds_toArray, List.set_cons_zero, List.set_cons_succ]
                  refine wpAnyH_ready (rs := [16]) (by kernel_rfl) (by simp) ?_
                  refine AllReadyH.cons (o := _) rfl (fun K hK => ?_) ?_
                  · go_simp
                    refine hK.out _ _ ?_ (fun hH117 => ?_)
                    · (try dsimp only)
                      (first | exact ck6 | exact ck12 | exact ck8 | exact ck4 | exact c0 | go_keep)
                    clear hK K hH115
                    try simp only [Act.put, List.setIfInBounds_toArray, List.set_cons_zero, List.set_cons_succ]
                    refine wpAnyH_take (i := 17) (oi := _) (v := ?v118) rfl (by kernel_rfl) (by kernel_rfl) (by kernel_rfl) (fun _ _ _ h => h) (Or.inl ⟨by rfl, ?hy118⟩) (by assumption) ?_
                    case hy118 => (intro w hSw; (try dsimp only at hSw); go_simp <;> with_reducible rfl)
                    try simp only [Act.put, List.setIfInBounds_toArray, List.set_cons_zero, List.set_cons_succ]
                    refine wpAnyH_take (i := 18) (oi := _) (v := ?v119) rfl (by kernel_rfl) (by kernel_rfl) (by kernel_rfl) (fun _ _ _ h => h) (Or.inl ⟨by rfl, ?hy119⟩) (by assumption) ?_
                    case hy119 => (intro w hSw; (try dsimp only at hSw); go_simp <;> with_reducible rfl)
                    try simp only [Act.put, List.setIfInBounds_toArray, List.set_cons_zero, List.set_cons_succ]
                    refine wpAnyH_ready (rs := [19]) (by kernel_rfl) (by simp) ?_
                    refine AllReadyH.cons (o := _) rfl (fun K hK => ?_) ?_
                    · go_simp
                      refine hK.out _ _ ?_ (fun hH120 => ?_)
                      · (try dsimp only)
                        (first | exact ck6 | exact ck12 | exact ck8 | exact ck4 | exact c0 | go_keep)
                      clear hK K hH117
                      try simp only [Act.put, List.setIfInBounds_toArray, List.set_cons_zero, List.set_cons_succ]
                      refine wpAnyH_ready (rs := [20]) (by kernel_rfl) (by simp) ?_
                      refine AllReadyH.cons (o := _) rfl (fun K hK => ?_) ?_
                      · skip
                        (with_reducible refine step_append_recs (R := itemR) ?_ (.tmp 17) (.tmp 36) ?_ w1.heap.size (w12.heap.size + 1) j cap 1 1 (some ⟨g, 0, none⟩) (some ⟨w12.heap.size, 0, none⟩) d [(s, 1 + y)] ?_ (st12.alloc _).own ?_ (items_one w12 s (1 + y) hss hyI) ?_ ?_ ?_)
                        · rfl
                        · rfl
                        · rfl
                        · rfl
                        · have := st12.le; first | (simp; done) | (simp; omega) | omega
                        · omega
                        intro A6 cap6 w6 hown6 hg6 hr6 hne6
                        obtain ⟨g6, hA6, st6⟩ := (st12.alloc _).pushed hown6 hg6 (hne6 (by simp)) hgl hbl z1
                        have ck6 := st6.cell hs
                        clear hown6 hg6 hr6 hne6
                        refine hK.out _ _ ?_ (fun hH121 => ?_)
                        · (try dsimp only)
                          (first | exact ck6 | exact ck12 | exact ck8 | exact ck4 | exact c0 | go_keep)
                        clear hK K hH120
                        try simp only [Act.put, List.setIfInBounds_toArray, List.set_cons_zero, List.set_cons_succ]
                        refine wpAnyH_take (i := 21) (oi := _) (v := ?v122) rfl (by kernel_rfl) (by kernel_rfl) (by kernel_rfl) (fun _ _ _ h => h) (Or.inl ⟨by rfl, ?hy122⟩) (by assumption) ?_
                        case hy122 => (intro w hSw; (try dsimp only at hSw); go_simp <;> with_reducible rfl)
                        try simp only [Act.put, List.setIfInBounds_toArray, List.set_cons_zero, List.set_cons_succ]
                        refine wpAnyH_done (by kernel_rfl) ?_ _
                        refine NoPanic.normal ?_
                        go_wp2_with fail
                        go_roundw
                        case rel => exact ⟨j + 1, q12, g6, cap6, d ++ [(s, 1 + y)], by omega, by first | rfl | rw [hA6], by go_num, by omega, hdi.snoc hs13 (by omega) (by omega), st6⟩
                        case measure => simp [intOf]; omega
                      exact AllReadyH.nil
                    exact AllReadyH.nil
                  exact AllReadyH.nil
                exact AllReadyH.nil
              exact AllReadyH.nil
            refine AllReadyH.cons (o := _) rfl (fun K hK => ?_) ?_
            · go_simp
              (with_reducible refine (pick_any b q8 7 (w8.alloc (.cells #[.int .i64 v4, .int .i64 v8, .int .i64 999999] 3)) ?_ (by omega) (by decide)).mono ?_)
              · exact (st8.alloc _).got.rd
              rintro e w12 ⟨v12, rfl, hl12, hu12, -, hd12⟩
              have hu12 := hu12 (by decide)
              obtain ⟨q12, qa12, qb12, st12⟩ := St.step (st8.alloc _) hd12 hbl z1
              have ck12 := st12.cell hs
              obtain ⟨x, hx0, hx1, hT⟩ := tab_cell v12 hl12 hu12
              obtain ⟨y, hy0, hy1, hV⟩ := vals_cell x v4 v8 hx0 hx1 hl4 (by omega) hl8 (by omega)
              have hyw : IntKind.i64.wrap (1 + y) = 1 + y := IntWalk.i64_in _ (by omega)
              have hyI : I64 (1 + y) := by unfold I64; omega
              have t12 := hd12.block st8.got.rd.lt
              have cV := hV (w12.alloc (.cells #[.int .i64 0, .int .i64 0, .int .i64 0, .int .i64 0, .int .i64 1, .int .i64 1, .int .i64 2] 3)) _ (ha_old t12 _)
              have cT := hT (w12.alloc (.cells #[.int .i64 0, .int .i64 0, .int .i64 0, .int .i64 0, .int .i64 1, .int .i64 1, .int .i64 2] 3)) w12.heap.size (heap_alloc_new w12 _)
              clear t12
              clear hT hV
              clear hd12
              go_wp2_with fail
              refine hK.out _ _ ?_ (fun hH123 => ?_)
              · (try dsimp only)
                (first | exact ck6 | exact ck12 | exact ck8 | exact ck4 | exact c0 | go_keep)
              clear hK K hH111
              try simp only [Act.put, List.setIfInBounds_toArray, List.set_cons_zero, List.set_cons_succ]
              refine wpAnyH_ready (rs := [10]) (by kernel_rfl) (by simp) ?_
              refine AllReadyH.cons (o := _) rfl (fun K hK => ?_) ?_
              · go_simp
                refine hK.out _ _ ?_ (fun hH124 => ?_)
                · (try dsimp only)
                  (first | exact ck6 | exact ck12 | exact ck8 | exact ck4 | exact c0 | go_keep)
                clear hK K hH123
                try simp only [Act.put, List.setIfInBounds_toArray, List.set_cons_zero, List.set_cons_succ]
                refine wpAnyH_take (i := 13) (oi := _) (v := ?v125) rfl (by kernel_rfl) (by kernel_rfl) (by kernel_rfl) (fun _ _ _ h => h) (Or.inl ⟨by rfl, ?hy125⟩) (by assumption) ?_
                case hy125 => (intro w hSw; (try dsimp only at hSw); go_simp <;> with_reducible rfl)
                try simp only [Act.put, List.setIfInBounds_toArray, List.set_cons_zero, List.set_cons_succ]
                refine wpAnyH_ready (rs := [14]) (by kernel_rfl) (by simp) ?_
                refine AllReadyH.cons (o := _) rfl (fun K hK => ?_) ?_
                · go_simp
                  refine hK.out _ _ ?_ (fun hH126 => ?_)
                  · (try dsimp only)
                    (first | exact ck6 | exact ck12 | exact ck8 | exact ck4 | exact c0 | go_keep)
                  clear hK K hH124
                  try simp only [Act.put, List.setIfInBounds_toArray, List.set_cons_zero, List.set_cons_succ]
                  refine wpAnyH_take (i := 15) (oi := _) (v := ?v127) rfl (by kernel_rfl) (by kernel_rfl) (by kernel_rfl) (fun _ _ _ h => h) (Or.inl ⟨by rfl, ?hy127⟩) (by assumption) ?_
                  case hy127 => (intro w hSw; (try dsimp only at hSw); go_simp <;> with_reducible rfl)
                  try simp only [Act.put, List.setIfInBounds_toArray, List.set_cons_zero, List.set_cons_succ]
                  refine wpAnyH_ready (rs := [16]) (by kernel_rfl) (by simp) ?_
                  refine AllReadyH.cons (o := _) rfl (fun K hK => ?_) ?_
                  · go_simp
                    refine hK.out _ _ ?_ (fun hH128 => ?_)
                    · (try dsimp only)
                      (first | exact ck6 | exact ck12 | exact ck8 | exact ck4 | exact c0 | go_keep)
                    clear hK K hH126
                    try simp only [Act.put, List.setIfInBounds_toArray, List.set_cons_zero, List.set_cons_succ]
                    refine wpAnyH_take (i := 17) (oi := _) (v := ?v129) rfl (by kernel_rfl) (by kernel_rfl) (by kernel_rfl) (fun _ _ _ h => h) (Or.inl ⟨by rfl, ?hy129⟩) (by assumption) ?_
                    case hy129 => (intro w hSw; (try dsimp only at hSw); go_simp <;> with_reducible rfl)
                    try simp only [Act.put, List.setIfInBounds_toArray, List.set_cons_zero, List.set_cons_succ]
                    refine wpAnyH_take (i := 18) (oi := _) (v := ?v130) rfl (by kernel_rfl) (by kernel_rfl) (by kernel_rfl) (fun _ _ _ h => h) (Or.inl ⟨by rfl, ?hy130⟩) (by assumption) ?_
                    case hy130 => (intro w hSw; (try dsimp only at hSw); go_simp <;> with_reducible rfl)
                    try simp only [Act.put, List.setIfInBounds_toArray, List.set_cons_zero, List.set_cons_succ]
                    refine wpAnyH_ready (rs := [19]) (by kernel_rfl) (by simp) ?_
                    refine AllReadyH.cons (o := _) rfl (fun K hK => ?_) ?_
                    · go_simp
                      refine hK.out _ _ ?_ (fun hH131 => ?_)
                      · (try dsimp only)
                        (first | exact ck6 | exact ck12 | exact ck8 | exact ck4 | exact c0 | go_keep)
                      clear hK K hH128
                      try simp only [Act.put, List.setIfInBounds_toArray, List.set_cons_zero, List.set_cons_succ]
                      refine wpAnyH_ready (rs := [20]) (by kernel_rfl) (by simp) ?_
                      refine AllReadyH.cons (o := _) rfl (fun K hK => ?_) ?_
                      · skip
                        (with_reducible refine step_append_recs (R := itemR) ?_ (.tmp 17) (.tmp 36) ?_ w1.heap.size (w12.heap.size + 1 + 1) j cap 1 1 (some ⟨g, 0, none⟩) (some ⟨w12.heap.size + 1, 0, none⟩) d [(s, 1 + y)] ?_ ((st12.alloc _).alloc _).own ?_ (items_one1 w12 (.cells #[.int .i64 0, .int .i64 0, .int .i64 0, .int .i64 0, .int .i64 1, .int .i64 1, .int .i64 2] 3) s (1 + y) hss hyI) ?_ ?_ ?_)
                        · rfl
                        · rfl
                        · rfl
                        · rfl
                        · have := st12.le; first | (simp; done) | (simp; omega) | omega
                        · omega
                        intro A6 cap6 w6 hown6 hg6 hr6 hne6
                        obtain ⟨g6, hA6, st6⟩ := ((st12.alloc _).alloc _).pushed hown6 hg6 (hne6 (by simp)) hgl hbl z1
                        have ck6 := st6.cell hs
                        clear hown6 hg6 hr6 hne6
                        refine hK.out _ _ ?_ (fun hH132 => ?_)
                        · (try dsimp only)
                          (first | exact ck6 | exact ck12 | exact ck8 | exact ck4 | exact c0 | go_keep)
                        clear hK K hH131
                        try simp only [Act.put, List.setIfInBounds_toArray, List.set_cons_zero, List.set_cons_succ]
                        refine wpAnyH_take (i := 21) (oi := _) (v := ?v133) rfl (by kernel_rfl) (by kernel_rfl) (by kernel_rfl) (fun _ _ _ h => h) (Or.inl ⟨by rfl, ?hy133⟩) (by assumption) ?_
                        case hy133 => (intro w hSw; (try dsimp only at hSw); go_simp <;> with_reducible rfl)
                        try simp only [Act.put, List.setIfInBounds_toArray, List.set_cons_zero, List.set_cons_succ]
                        refine wpAnyH_done (by kernel_rfl) ?_ _
                        refine NoPanic.normal ?_
                        go_wp2_with fail
                        go_roundw
                        case rel => exact ⟨j + 1, q12, g6, cap6, d ++ [(s, 1 + y)], by omega, by first | rfl | rw [hA6], by go_num, by omega, hdi.snoc hs13 (by omega) (by omega), st6⟩
                        case measure => simp [intOf]; omega
                      exact AllReadyH.nil
                    exact AllReadyH.nil
                  exact AllReadyH.nil
                exact AllReadyH.nil
              exact AllReadyH.nil
            exact AllReadyH.nil
          refine AllReadyH.cons (o := _) rfl (fun K hK => ?_) ?_
          · go_simp
            refine hK.out _ _ ?_ (fun hH134 => ?_)
            · (try dsimp only)
              (first | exact ck6 | exact ck12 | exact ck8 | exact ck4 | exact c0 | go_keep)
            clear hK K hH110
            try simp only [Act.put, List.setIfInBounds_toArray, List.set_cons_zero, List.set_cons_succ]
            refine wpAnyH_ready (rs := [9, 12]) (by kernel_rfl) (by simp) ?_
            refine AllReadyH.cons (o := _) rfl (fun K hK => ?_) ?_
            · go_simp
              refine hK.out _ _ ?_ (fun hH135 => ?_)
              · (try dsimp only)
                (first | exact ck6 | exact ck12 | exact ck8 | exact ck4 | exact c0 | go_keep)
              clear hK K hH134
              try simp only [Act.put, List.setIfInBounds_toArray, List.set_cons_zero, List.set_cons_succ]
              refine wpAnyH_ready (rs := [12]) (by kernel_rfl) (by simp) ?_
              refine AllReadyH.cons (o := _) rfl (fun K hK => ?_) ?_
              · go_simp
                (with_reducible refine (pick_any b q8 7 ((w8.alloc (.cells #[.int .i64 0, .int .i64 0, .int .i64 0, .int .i64 0, .int .i64 1, .int .i64 1, .int .i64 2] 3)).alloc (.cells #[.int .i64 v4, .int .i64 v8, .int .i64 999999] 3)) ?_ (by omega) (by decide)).mono ?_)
                · exact ((st8.alloc _).alloc _).got.rd
                rintro e w12 ⟨v12, rfl, hl12, hu12, -, hd12⟩
                have hu12 := hu12 (by decide)
                obtain ⟨q12, qa12, qb12, st12⟩ := St.step ((st8.alloc _).alloc _) hd12 hbl z1
                have ck12 := st12.cell hs
                obtain ⟨x, hx0, hx1, hT⟩ := tab_cell v12 hl12 hu12
                obtain ⟨y, hy0, hy1, hV⟩ := vals_cell x v4 v8 hx0 hx1 hl4 (by omega) hl8 (by omega)
                have hyw : IntKind.i64.wrap (1 + y) = 1 + y := IntWalk.i64_in _ (by omega)
                have hyI : I64 (1 + y) := by unfold I64; omega
                have cT := hT _ _ (hd12.at_ (heap_alloc2_old w8 _ _) (by have := st8.got.rd.lt; have := st4.got.rd.lt; have := st.got.rd.lt; omega))
                have cV := hV _ _ (hd12.at_ (heap_alloc2_new w8 _ _) (by have := st8.got.rd.lt; have := st4.got.rd.lt; have := st.got.rd.lt; omega))
                clear hT hV
                clear hd12
                go_wp2_with fail
                refine hK.out _ _ ?_ (fun hH136 => ?_)
                · (try dsimp only)
                  (first | exact ck6 | exact ck12 | exact ck8 | exact ck4 | exact c0 | go_keep)
                clear hK K hH135
                try simp only [Act.put, List.setIfInBounds_toArray, List.set_cons_zero, List.set_cons_succ]
                refine wpAnyH_take (i := 13) (oi := _) (v := ?v137) rfl (by kernel_rfl) (by kernel_rfl) (by kernel_rfl) (fun _ _ _ h => h) (Or.inl ⟨by rfl, ?hy137⟩) (by assumption) ?_
                case hy137 => (intro w hSw; (try dsimp only at hSw); go_simp <;> with_reducible rfl)
                try simp only [Act.put, List.setIfInBounds_toArray, List.set_cons_zero, List.set_cons_succ]
                refine wpAnyH_ready (rs := [14]) (by kernel_rfl) (by simp) ?_
                refine AllReadyH.cons (o := _) rfl (fun K hK => ?_) ?_
                · go_simp
                  refine hK.out _ _ ?_ (fun hH138 => ?_)
                  · (try dsimp only)
                    (first | exact ck6 | exact ck12 | exact ck8 | exact ck4 | exact c0 | go_keep)
                  clear hK K hH136
                  try simp only [Act.put, List.setIfInBounds_toArray, List.set_cons_zero, List.set_cons_succ]
                  refine wpAnyH_take (i := 15) (oi := _) (v := ?v139) rfl (by kernel_rfl) (by kernel_rfl) (by kernel_rfl) (fun _ _ _ h => h) (Or.inl ⟨by rfl, ?hy139⟩) (by assumption) ?_
                  case hy139 => (intro w hSw; (try dsimp only at hSw); go_simp <;> with_reducible rfl)
                  try simp only [Act.put, List.setIfInBounds_toArray, List.set_cons_zero, List.set_cons_succ]
                  refine wpAnyH_ready (rs := [16]) (by kernel_rfl) (by simp) ?_
                  refine AllReadyH.cons (o := _) rfl (fun K hK => ?_) ?_
                  · go_simp
                    refine hK.out _ _ ?_ (fun hH140 => ?_)
                    · (try dsimp only)
                      (first | exact ck6 | exact ck12 | exact ck8 | exact ck4 | exact c0 | go_keep)
                    clear hK K hH138
                    try simp only [Act.put, List.setIfInBounds_toArray, List.set_cons_zero, List.set_cons_succ]
                    refine wpAnyH_take (i := 17) (oi := _) (v := ?v141) rfl (by kernel_rfl) (by kernel_rfl) (by kernel_rfl) (fun _ _ _ h => h) (Or.inl ⟨by rfl, ?hy141⟩) (by assumption) ?_
                    case hy141 => (intro w hSw; (try dsimp only at hSw); go_simp <;> with_reducible rfl)
                    try simp only [Act.put, List.setIfInBounds_toArray, List.set_cons_zero, List.set_cons_succ]
                    refine wpAnyH_take (i := 18) (oi := _) (v := ?v142) rfl (by kernel_rfl) (by kernel_rfl) (by kernel_rfl) (fun _ _ _ h => h) (Or.inl ⟨by rfl, ?hy142⟩) (by assumption) ?_
                    case hy142 => (intro w hSw; (try dsimp only at hSw); go_simp <;> with_reducible rfl)
                    try simp only [Act.put, List.setIfInBounds_toArray, List.set_cons_zero, List.set_cons_succ]
                    refine wpAnyH_ready (rs := [19]) (by kernel_rfl) (by simp) ?_
                    refine AllReadyH.cons (o := _) rfl (fun K hK => ?_) ?_
                    · go_simp
                      refine hK.out _ _ ?_ (fun hH143 => ?_)
                      · (try dsimp only)
                        (first | exact ck6 | exact ck12 | exact ck8 | exact ck4 | exact c0 | go_keep)
                      clear hK K hH140
                      try simp only [Act.put, List.setIfInBounds_toArray, List.set_cons_zero, List.set_cons_succ]
                      refine wpAnyH_ready (rs := [20]) (by kernel_rfl) (by simp) ?_
                      refine AllReadyH.cons (o := _) rfl (fun K hK => ?_) ?_
                      · skip
                        (with_reducible refine step_append_recs (R := itemR) ?_ (.tmp 17) (.tmp 36) ?_ w1.heap.size (w12.heap.size + 1) j cap 1 1 (some ⟨g, 0, none⟩) (some ⟨w12.heap.size, 0, none⟩) d [(s, 1 + y)] ?_ (st12.alloc _).own ?_ (items_one w12 s (1 + y) hss hyI) ?_ ?_ ?_)
                        · rfl
                        · rfl
                        · rfl
                        · rfl
                        · have := st12.le; first | (simp; done) | (simp; omega) | omega
                        · omega
                        intro A6 cap6 w6 hown6 hg6 hr6 hne6
                        obtain ⟨g6, hA6, st6⟩ := (st12.alloc _).pushed hown6 hg6 (hne6 (by simp)) hgl hbl z1
                        have ck6 := st6.cell hs
                        clear hown6 hg6 hr6 hne6
                        refine hK.out _ _ ?_ (fun hH144 => ?_)
                        · (try dsimp only)
                          (first | exact ck6 | exact ck12 | exact ck8 | exact ck4 | exact c0 | go_keep)
                        clear hK K hH143
                        try simp only [Act.put, List.setIfInBounds_toArray, List.set_cons_zero, List.set_cons_succ]
                        refine wpAnyH_take (i := 21) (oi := _) (v := ?v145) rfl (by kernel_rfl) (by kernel_rfl) (by kernel_rfl) (fun _ _ _ h => h) (Or.inl ⟨by rfl, ?hy145⟩) (by assumption) ?_
                        case hy145 => (intro w hSw; (try dsimp only at hSw); go_simp <;> with_reducible rfl)
                        try simp only [Act.put, List.setIfInBounds_toArray, List.set_cons_zero, List.set_cons_succ]
                        refine wpAnyH_done (by kernel_rfl) ?_ _
                        refine NoPanic.normal ?_
                        go_wp2_with fail
                        go_roundw
                        case rel => exact ⟨j + 1, q12, g6, cap6, d ++ [(s, 1 + y)], by omega, by first | rfl | rw [hA6], by go_num, by omega, hdi.snoc hs13 (by omega) (by omega), st6⟩
                        case measure => simp [intOf]; omega
                      exact AllReadyH.nil
                    exact AllReadyH.nil
                  exact AllReadyH.nil
                exact AllReadyH.nil
              exact AllReadyH.nil
            refine AllReadyH.cons (o := _) rfl (fun K hK => ?_) ?_
            · go_simp
              (with_reducible refine (pick_any b q8 7 (w8.alloc (.cells #[.int .i64 0, .int .i64 0, .int .i64 0, .int .i64 0, .int .i64 1, .int .i64 1, .int .i64 2] 3)) ?_ (by omega) (by decide)).mono ?_)
              · exact (st8.alloc _).got.rd
              rintro e w12 ⟨v12, rfl, hl12, hu12, -, hd12⟩
              have hu12 := hu12 (by decide)
              obtain ⟨q12, qa12, qb12, st12⟩ := St.step (st8.alloc _) hd12 hbl z1
              have ck12 := st12.cell hs
              obtain ⟨x, hx0, hx1, hT⟩ := tab_cell v12 hl12 hu12
              obtain ⟨y, hy0, hy1, hV⟩ := vals_cell x v4 v8 hx0 hx1 hl4 (by omega) hl8 (by omega)
              have hyw : IntKind.i64.wrap (1 + y) = 1 + y := IntWalk.i64_in _ (by omega)
              have hyI : I64 (1 + y) := by unfold I64; omega
              have t12 := hd12.block st8.got.rd.lt
              have cT := hT _ _ t12
              have cT2 := hT (w12.alloc (.cells #[.int .i64 v4, .int .i64 v8, .int .i64 999999] 3)) _ (ha_old t12 _)
              have cV := hV (w12.alloc (.cells #[.int .i64 v4, .int .i64 v8, .int .i64 999999] 3)) w12.heap.size (heap_alloc_new w12 _)
              clear t12
              clear hT hV
              clear hd12
              go_wp2_with fail
              refine hK.out _ _ ?_ (fun hH146 => ?_)
              · (try dsimp only)
                (first | exact ck6 | exact ck12 | exact ck8 | exact ck4 | exact c0 | go_keep)
              clear hK K hH134
              try simp only [Act.put, List.setIfInBounds_toArray, List.set_cons_zero, List.set_cons_succ]
              refine wpAnyH_take (i := 13) (oi := _) (v := ?v147) rfl (by kernel_rfl) (by kernel_rfl) (by kernel_rfl) (fun _ _ _ h => h) (Or.inl ⟨by rfl, ?hy147⟩) (by assumption) ?_
              case hy147 => (intro w hSw; (try dsimp only at hSw); go_simp <;> with_reducible rfl)
              try simp only [Act.put, List.setIfInBounds_toArray, List.set_cons_zero, List.set_cons_succ]
              refine wpAnyH_ready (rs := [9, 14]) (by kernel_rfl) (by simp) ?_
              refine AllReadyH.cons (o := _) rfl (fun K hK => ?_) ?_
              · go_simp
                refine hK.out _ _ ?_ (fun hH148 => ?_)
                · (try dsimp only)
                  (first | exact ck6 | exact ck12 | exact ck8 | exact ck4 | exact c0 | go_keep)
                clear hK K hH146
                try simp only [Act.put, List.setIfInBounds_toArray, List.set_cons_zero, List.set_cons_succ]
                refine wpAnyH_ready (rs := [14]) (by kernel_rfl) (by simp) ?_
                refine AllReadyH.cons (o := _) rfl (fun K hK => ?_) ?_
                · go_simp
                  refine hK.out _ _ ?_ (fun hH149 => ?_)
                  · (try dsimp only)
                    (first | exact ck6 | exact ck12 | exact ck8 | exact ck4 | exact c0 | go_keep)
                  clear hK K hH148
                  try simp only [Act.put, List.setIfInBounds_toArray, List.set_cons_zero, List.set_cons_succ]
                  refine wpAnyH_take (i := 15) (oi := _) (v := ?v150) rfl (by kernel_rfl) (by kernel_rfl) (by kernel_rfl) (fun _ _ _ h => h) (Or.inl ⟨by rfl, ?hy150⟩) (by assumption) ?_
                  case hy150 => (intro w hSw; (try dsimp only at hSw); go_simp <;> with_reducible rfl)
                  try simp only [Act.put, List.setIfInBounds_toArray, List.set_cons_zero, List.set_cons_succ]
                  refine wpAnyH_ready (rs := [16]) (by kernel_rfl) (by simp) ?_
                  refine AllReadyH.cons (o := _) rfl (fun K hK => ?_) ?_
                  · go_simp
                    refine hK.out _ _ ?_ (fun hH151 => ?_)
                    · (try dsimp only)
                      (first | exact ck6 | exact ck12 | exact ck8 | exact ck4 | exact c0 | go_keep)
                    clear hK K hH149
                    try simp only [Act.put, List.setIfInBounds_toArray, List.set_cons_zero, List.set_cons_succ]
                    refine wpAnyH_take (i := 17) (oi := _) (v := ?v152) rfl (by kernel_rfl) (by kernel_rfl) (by kernel_rfl) (fun _ _ _ h => h) (Or.inl ⟨by rfl, ?hy152⟩) (by assumption) ?_
                    case hy152 => (intro w hSw; (try dsimp only at hSw); go_simp <;> with_reducible rfl)
                    try simp only [Act.put, List.setIfInBounds_toArray, List.set_cons_zero, List.set_cons_succ]
                    refine wpAnyH_take (i := 18) (oi := _) (v := ?v153) rfl (by kernel_rfl) (by kernel_rfl) (by kernel_rfl) (fun _ _ _ h => h) (Or.inl ⟨by rfl, ?hy153⟩) (by assumption) ?_
                    case hy153 => (intro w hSw; (try dsimp only at hSw); go_simp <;> with_reducible rfl)
                    try simp only [Act.put, List.setIfInBounds_toArray, List.set_cons_zero, List.set_cons_succ]
                    refine wpAnyH_ready (rs := [19]) (by kernel_rfl) (by simp) ?_
                    refine AllReadyH.cons (o := _) rfl (fun K hK => ?_) ?_
                    · go_simp
                      refine hK.out _ _ ?_ (fun hH154 => ?_)
                      · (try dsimp only)
                        (first | exact ck6 | exact ck12 | exact ck8 | exact ck4 | exact c0 | go_keep)
                      clear hK K hH151
                      try simp only [Act.put, List.setIfInBounds_toArray, List.set_cons_zero, List.set_cons_succ]
                      refine wpAnyH_ready (rs := [20]) (by kernel_rfl) (by simp) ?_
                      refine AllReadyH.cons (o := _) rfl (fun K hK => ?_) ?_
                      · skip
                        (with_reducible refine step_append_recs (R := itemR) ?_ (.tmp 17) (.tmp 36) ?_ w1.heap.size (w12.heap.size + 1 + 1) j cap 1 1 (some ⟨g, 0, none⟩) (some ⟨w12.heap.size + 1, 0, none⟩) d [(s, 1 + y)] ?_ ((st12.alloc _).alloc _).own ?_ (items_one1 w12 (.cells #[.int .i64 v4, .int .i64 v8, .int .i64 999999] 3) s (1 + y) hss hyI) ?_ ?_ ?_)
                        · rfl
                        · rfl
                        · rfl
                        · rfl
                        · have := st12.le; first | (simp; done) | (simp; omega) | omega
                        · omega
                        intro A6 cap6 w6 hown6 hg6 hr6 hne6
                        obtain ⟨g6, hA6, st6⟩ := ((st12.alloc _).alloc _).pushed hown6 hg6 (hne6 (by simp)) hgl hbl z1
                        have ck6 := st6.cell hs
                        clear hown6 hg6 hr6 hne6
                        refine hK.out _ _ ?_ (fun hH155 => ?_)
                        · (try dsimp only)
                          (first | exact ck6 | exact ck12 | exact ck8 | exact ck4 | exact c0 | go_keep)
                        clear hK K hH154
                        try simp only [Act.put, List.setIfInBounds_toArray, List.set_cons_zero, List.set_cons_succ]
                        refine wpAnyH_take (i := 21) (oi := _) (v := ?v156) rfl (by kernel_rfl) (by kernel_rfl) (by kernel_rfl) (fun _ _ _ h => h) (Or.inl ⟨by rfl, ?hy156⟩) (by assumption) ?_
                        case hy156 => (intro w hSw; (try dsimp only at hSw); go_simp <;> with_reducible rfl)
                        try simp only [Act.put, List.setIfInBounds_toArray, List.set_cons_zero, List.set_cons_succ]
                        refine wpAnyH_done (by kernel_rfl) ?_ _
                        refine NoPanic.normal ?_
                        go_wp2_with fail
                        go_roundw
                        case rel => exact ⟨j + 1, q12, g6, cap6, d ++ [(s, 1 + y)], by omega, by first | rfl | rw [hA6], by go_num, by omega, hdi.snoc hs13 (by omega) (by omega), st6⟩
                        case measure => simp [intOf]; omega
                      exact AllReadyH.nil
                    exact AllReadyH.nil
                  exact AllReadyH.nil
                exact AllReadyH.nil
              refine AllReadyH.cons (o := _) rfl (fun K hK => ?_) ?_
              · go_simp
                refine hK.out _ _ ?_ (fun hH157 => ?_)
                · (try dsimp only)
                  (first | exact ck6 | exact ck12 | exact ck8 | exact ck4 | exact c0 | go_keep)
                clear hK K hH146
                try simp only [Act.put, List.setIfInBounds_toArray, List.set_cons_zero, List.set_cons_succ]
                refine wpAnyH_ready (rs := [9]) (by kernel_rfl) (by simp) ?_
                refine AllReadyH.cons (o := _) rfl (fun K hK => ?_) ?_
                · go_simp
                  refine hK.out _ _ ?_ (fun hH158 => ?_)
                  · (try dsimp only)
                    (first | exact ck6 | exact ck12 | exact ck8 | exact ck4 | exact c0 | go_keep)
                  clear hK K hH157
                  try simp only [Act.put, List.setIfInBounds_toArray, List.set_cons_zero, List.set_cons_succ]
                  refine wpAnyH_take (i := 15) (oi := _) (v := ?v159) rfl (by kernel_rfl) (by kernel_rfl) (by kernel_rfl) (fun _ _ _ h => h) (Or.inl ⟨by rfl, ?hy159⟩) (by assumption) ?_
                  case hy159 => (intro w hSw; (try dsimp only at hSw); go_simp <;> with_reducible rfl)
                  try simp only [Act.put, List.setIfInBounds_toArray, List.set_cons_zero, List.set_cons_succ]
                  refine wpAnyH_ready (rs := [16]) (by kernel_rfl) (by simp) ?_
                  refine AllReadyH.cons (o := _) rfl (fun K hK => ?_) ?_
                  · go_simp
                    refine hK.out _ _ ?_ (fun hH160 => ?_)
                    · (try dsimp only)
                      (first | exact ck6 | exact ck12 | exact ck8 | exact ck4 | exact c0 | go_keep)
                    clear hK K hH158
                    try simp only [Act.put, List.setIfInBounds_toArray, List.set_cons_zero, List.set_cons_succ]
                    refine wpAnyH_take (i := 17) (oi := _) (v := ?v161) rfl (by kernel_rfl) (by kernel_rfl) (by kernel_rfl) (fun _ _ _ h => h) (Or.inl ⟨by rfl, ?hy161⟩) (by assumption) ?_
                    case hy161 => (intro w hSw; (try dsimp only at hSw); go_simp <;> with_reducible rfl)
                    try simp only [Act.put, List.setIfInBounds_toArray, List.set_cons_zero, List.set_cons_succ]
                    refine wpAnyH_take (i := 18) (oi := _) (v := ?v162) rfl (by kernel_rfl) (by kernel_rfl) (by kernel_rfl) (fun _ _ _ h => h) (Or.inl ⟨by rfl, ?hy162⟩) (by assumption) ?_
                    case hy162 => (intro w hSw; (try dsimp only at hSw); go_simp <;> with_reducible rfl)
                    try simp only [Act.put, List.setIfInBounds_toArray, List.set_cons_zero, List.set_cons_succ]
                    refine wpAnyH_ready (rs := [19]) (by kernel_rfl) (by simp) ?_
                    refine AllReadyH.cons (o := _) rfl (fun K hK => ?_) ?_
                    · go_simp
                      refine hK.out _ _ ?_ (fun hH163 => ?_)
                      · (try dsimp only)
                        (first | exact ck6 | exact ck12 | exact ck8 | exact ck4 | exact c0 | go_keep)
                      clear hK K hH160
                      try simp only [Act.put, List.setIfInBounds_toArray, List.set_cons_zero, List.set_cons_succ]
                      refine wpAnyH_ready (rs := [20]) (by kernel_rfl) (by simp) ?_
                      refine AllReadyH.cons (o := _) rfl (fun K hK => ?_) ?_
                      · skip
                        (with_reducible refine step_append_recs (R := itemR) ?_ (.tmp 17) (.tmp 36) ?_ w1.heap.size (w12.heap.size + 1 + 1) j cap 1 1 (some ⟨g, 0, none⟩) (some ⟨w12.heap.size + 1, 0, none⟩) d [(s, 1 + y)] ?_ ((st12.alloc _).alloc _).own ?_ (items_one1 w12 (.cells #[.int .i64 v4, .int .i64 v8, .int .i64 999999] 3) s (1 + y) hss hyI) ?_ ?_ ?_)
                        · rfl
                        · rfl
                        · rfl
                        · rfl
                        · have := st12.le; first | (simp; done) | (simp; omega) | omega
                        · omega
                        intro A6 cap6 w6 hown6 hg6 hr6 hne6
                        obtain ⟨g6, hA6, st6⟩ := ((st12.alloc _).alloc _).pushed hown6 hg6 (hne6 (by simp)) hgl hbl z1
                        have ck6 := st6.cell hs
                        clear hown6 hg6 hr6 hne6
                        refine hK.out _ _ ?_ (fun hH164 => ?_)
                        · (try dsimp only)
                          (first | exact ck6 | exact ck12 | exact ck8 | exact ck4 | exact c0 | go_keep)
                        clear hK K hH163
                        try simp only [Act.put, List.setIfInBounds_toArray, List.set_cons_zero, List.set_cons_succ]
                        refine wpAnyH_take (i := 21) (oi := _) (v := ?v165) rfl (by kernel_rfl) (by kernel_rfl) (by kernel_rfl) (fun _ _ _ h => h) (Or.inl ⟨by rfl, ?hy165⟩) (by assumption) ?_
                        case hy165 => (intro w hSw; (try dsimp only at hSw); go_simp <;> with_reducible rfl)
                        try simp only [Act.put, List.setIfInBounds_toArray, List.set_cons_zero, List.set_cons_succ]
                        refine wpAnyH_done (by kernel_rfl) ?_ _
                        refine NoPanic.normal ?_
                        go_wp2_with fail
                        go_roundw
                        case rel => exact ⟨j + 1, q12, g6, cap6, d ++ [(s, 1 + y)], by omega, by first | rfl | rw [hA6], by go_num, by omega, hdi.snoc hs13 (by omega) (by omega), st6⟩
                        case measure => simp [intOf]; omega
                      exact AllReadyH.nil
                    exact AllReadyH.nil
                  exact AllReadyH.nil
                exact AllReadyH.nil
              exact AllReadyH.nil
            exact AllReadyH.nil
          refine AllReadyH.cons (o := _) rfl (fun K hK => ?_) ?_
          · go_simp
            (with_reducible refine (pick_any b q8 7 (w8) ?_ (by omega) (by decide)).mono ?_)
            · exact (st8).got.rd
            rintro e w12 ⟨v12, rfl, hl12, hu12, -, hd12⟩
            have hu12 := hu12 (by decide)
            obtain ⟨q12, qa12, qb12, st12⟩ := St.step (st8) hd12 hbl z1
            have ck12 := st12.cell hs
            obtain ⟨x, hx0, hx1, hT⟩ := tab_cell v12 hl12 hu12
            obtain ⟨y, hy0, hy1, hV⟩ := vals_cell x v4 v8 hx0 hx1 hl4 (by omega) hl8 (by omega)
            have hyw : IntKind.i64.wrap (1 + y) = 1 + y := IntWalk.i64_in _ (by omega)
            have hyI : I64 (1 + y) := by unfold I64; omega
            have cT := hT (w12.alloc (.cells #[.int .i64 0, .int .i64 0, .int .i64 0, .int .i64 0, .int .i64 1, .int .i64 1, .int .i64 2] 3)) w12.heap.size (heap_alloc_new w12 _)
            have cT2 := hT ((w12.alloc (.cells #[.int .i64 0, .int .i64 0, .int .i64 0, .int .i64 0, .int .i64 1, .int .i64 1, .int .i64 2] 3)).alloc (.cells #[.int .i64 v4, .int .i64 v8, .int .i64 999999] 3)) w12.heap.size (heap_alloc2_old w12 _ _)
            have cV1 := hV ((w12.alloc (.cells #[.int .i64 0, .int .i64 0, .int .i64 0, .int .i64 0, .int .i64 1, .int .i64 1, .int .i64 2] 3)).alloc (.cells #[.int .i64 v4, .int .i64 v8, .int .i64 999999] 3)) (w12.heap.size + 1) (heap_alloc2_new w12 _ _)
            have cT3 := hT ((w12.alloc (.cells #[.int .i64 v4, .int .i64 v8, .int .i64 999999] 3)).alloc (.cells #[.int .i64 0, .int .i64 0, .int .i64 0, .int .i64 0, .int .i64 1, .int .i64 1, .int .i64 2] 3)) (w12.heap.size + 1) (heap_alloc2_new w12 _ _)
            have cV2 := hV ((w12.alloc (.cells #[.int .i64 v4, .int .i64 v8, .int .i64 999999] 3)).alloc (.cells #[.int .i64 0, .int .i64 0, .int .i64 0, .int .i64 0, .int .i64 1, .int .i64 1, .int .i64 2] 3)) w12.heap.size (heap_alloc2_old w12 _ _)
            clear hT hV
            clear hd12
            go_wp2_with fail
            refine hK.out _ _ ?_ (fun hH166 => ?_)
            · (try dsimp only)
              (first | exact ck6 | exact ck12 | exact ck8 | exact ck4 | exact c0 | go_keep)
            clear hK K hH110
            try simp only [Act.put, List.setIfInBounds_toArray, List.set_cons_zero, List.set_cons_succ]
            refine wpAnyH_ready (rs := [9, 10]) (by kernel_rfl) (by simp) ?_
            refine AllReadyH.cons (o := _) rfl (fun K hK => ?_) ?_
            · go_simp
              refine hK.out _ _ ?_ (fun hH167 => ?_)
              · (try dsimp only)
                (first | exact ck6 | exact ck12 | exact ck8 | exact ck4 | exact c0 | go_keep)
              clear hK K hH166
              try simp only [Act.put, List.setIfInBounds_toArray, List.set_cons_zero, List.set_cons_succ]
              refine wpAnyH_ready (rs := [10]) (by kernel_rfl) (by simp) ?_
              refine AllReadyH.cons (o := _) rfl (fun K hK => ?_) ?_
              · go_simp
                refine hK.out _ _ ?_ (fun hH168 => ?_)
                · (try dsimp only)
                  (first | exact ck6 | exact ck12 | exact ck8 | exact ck4 | exact c0 | go_keep)
                clear hK K hH167
                try simp only [Act.put, List.setIfInBounds_toArray, List.set_cons_zero, List.set_cons_succ]
                refine wpAnyH_take (i := 13) (oi := _) (v := ?v169) rfl (by kernel_rfl) (by kernel_rfl) (by kernel_rfl) (fun _ _ _ h => h) (Or.inl ⟨by rfl, ?hy169⟩) (by assumption) ?_
                case hy169 => (intro w hSw; (try dsimp only at hSw); go_simp <;> with_reducible rfl)
                try simp only [Act.put, List.setIfInBounds_toArray, List.set_cons_zero, List.set_cons_succ]
                refine wpAnyH_ready (rs := [14]) (by kernel_rfl) (by simp) ?_
                refine AllReadyH.cons (o := _) rfl (fun K hK => ?_) ?_
                · go_simp
                  refine hK.out _ _ ?_ (fun hH170 => ?_)
                  · (try dsimp only)
                    (first | exact ck6 | exact ck12 | exact ck8 | exact ck4 | exact c0 | go_keep)
                  clear hK K hH168
                  try simp only [Act.put, List.setIfInBounds_toArray, List.set_cons_zero, List.set_cons_succ]
                  refine wpAnyH_take (i := 15) (oi := _) (v := ?v171) rfl (by kernel_rfl) (by kernel_rfl) (by kernel_rfl) (fun _ _ _ h => h) (Or.inl ⟨by rfl, ?hy171⟩) (by assumption) ?_
                  case hy171 => (intro w hSw; (try dsimp only at hSw); go_simp <;> with_reducible rfl)
                  try simp only [Act.put, List.setIfInBounds_toArray, List.set_cons_zero, List.set_cons_succ]
                  refine wpAnyH_ready (rs := [16]) (by kernel_rfl) (by simp) ?_
                  refine AllReadyH.cons (o := _) rfl (fun K hK => ?_) ?_
                  · go_simp
                    refine hK.out _ _ ?_ (fun hH172 => ?_)
                    · (try dsimp only)
                      (first | exact ck6 | exact ck12 | exact ck8 | exact ck4 | exact c0 | go_keep)
                    clear hK K hH170
                    try simp only [Act.put, List.setIfInBounds_toArray, List.set_cons_zero, List.set_cons_succ]
                    refine wpAnyH_take (i := 17) (oi := _) (v := ?v173) rfl (by kernel_rfl) (by kernel_rfl) (by kernel_rfl) (fun _ _ _ h => h) (Or.inl ⟨by rfl, ?hy173⟩) (by assumption) ?_
                    case hy173 => (intro w hSw; (try dsimp only at hSw); go_simp <;> with_reducible rfl)
                    try simp only [Act.put, List.setIfInBounds_toArray, List.set_cons_zero, List.set_cons_succ]
                    refine wpAnyH_take (i := 18) (oi := _) (v := ?v174) rfl (by kernel_rfl) (by kernel_rfl) (by kernel_rfl) (fun _ _ _ h => h) (Or.inl ⟨by rfl, ?hy174⟩) (by assumption) ?_
                    case hy174 => (intro w hSw; (try dsimp only at hSw); go_simp <;> with_reducible rfl)
                    try simp only [Act.put, List.setIfInBounds_toArray, List.set_cons_zero, List.set_cons_succ]
                    refine wpAnyH_ready (rs := [19]) (by kernel_rfl) (by simp) ?_
                    refine AllReadyH.cons (o := _) rfl (fun K hK => ?_) ?_
                    · go_simp
                      refine hK.out _ _ ?_ (fun hH175 => ?_)
                      · (try dsimp only)
                        (first | exact ck6 | exact ck12 | exact ck8 | exact ck4 | exact c0 | go_keep)
                      clear hK K hH172
                      try simp only [Act.put, List.setIfInBounds_toArray, List.set_cons_zero, List.set_cons_succ]
                      refine wpAnyH_ready (rs := [20]) (by kernel_rfl) (by simp) ?_
                      refine AllReadyH.cons (o := _) rfl (fun K hK => ?_) ?_
                      · skip
                        (with_reducible refine step_append_recs (R := itemR) ?_ (.tmp 17) (.tmp 36) ?_ w1.heap.size (w12.heap.size + 1 + 1 + 1) j cap 1 1 (some ⟨g, 0, none⟩) (some ⟨w12.heap.size + 1 + 1, 0, none⟩) d [(s, 1 + y)] ?_ (((st12.alloc _).alloc _).alloc _).own ?_ (items_one2 w12 (.cells #[.int .i64 v4, .int .i64 v8, .int .i64 999999] 3) (.cells #[.int .i64 0, .int .i64 0, .int .i64 0, .int .i64 0, .int .i64 1, .int .i64 1, .int .i64 2] 3) s (1 + y) hss hyI) ?_ ?_ ?_)
                        · rfl
                        · rfl
                        · rfl
                        · rfl
                        · have := st12.le; first | (simp; done) | (simp; omega) | omega
                        · omega
                        intro A6 cap6 w6 hown6 hg6 hr6 hne6
                        obtain ⟨g6, hA6, st6⟩ := (((st12.alloc _).alloc _).alloc _).pushed hown6 hg6 (hne6 (by simp)) hgl hbl z1
                        have ck6 := st6.cell hs
                        clear hown6 hg6 hr6 hne6
                        refine hK.out _ _ ?_ (fun hH176 => ?_)
                        · (try dsimp only)
                          (first | exact ck6 | exact ck12 | exact ck8 | exact ck4 | exact c0 | go_keep)
                        clear hK K hH175
                        try simp only [Act.put, List.setIfInBounds_toArray, List.set_cons_zero, List.set_cons_succ]
                        refine wpAnyH_take (i := 21) (oi := _) (v := ?v177) rfl (by kernel_rfl) (by kernel_rfl) (by kernel_rfl) (fun _ _ _ h => h) (Or.inl ⟨by rfl, ?hy177⟩) (by assumption) ?_
                        case hy177 => (intro w hSw; (try dsimp only at hSw); go_simp <;> with_reducible rfl)
                        try simp only [Act.put, List.setIfInBounds_toArray, List.set_cons_zero, List.set_cons_succ]
                        refine wpAnyH_done (by kernel_rfl) ?_ _
                        refine NoPanic.normal ?_
                        go_wp2_with fail
                        go_roundw
                        case rel => exact ⟨j + 1, q12, g6, cap6, d ++ [(s, 1 + y)], by omega, by first | rfl | rw [hA6], by go_num, by omega, hdi.snoc hs13 (by omega) (by omega), st6⟩
                        case measure => simp [intOf]; omega
                      exact AllReadyH.nil
                    exact AllReadyH.nil
                  exact AllReadyH.nil
                exact AllReadyH.nil
              exact AllReadyH.nil
            refine AllReadyH.cons (o := _) rfl (fun K hK => ?_) ?_
            · go_simp
              refine hK.out _ _ ?_ (fun hH178 => ?_)
              · (try dsimp only)
                (first | exact ck6 | exact ck12 | exact ck8 | exact ck4 | exact c0 | go_keep)
              clear hK K hH166
              try simp only [Act.put, List.setIfInBounds_toArray, List.set_cons_zero, List.set_cons_succ]
              refine wpAnyH_take (i := 13) (oi := _) (v := ?v179) rfl (by kernel_rfl) (by kernel_rfl) (by kernel_rfl) (fun _ _ _ h => h) (Or.inl ⟨by rfl, ?hy179⟩) (by assumption) ?_
              case hy179 => (intro w hSw; (try dsimp only at hSw); go_simp <;> with_reducible rfl)
              try simp only [Act.put, List.setIfInBounds_toArray, List.set_cons_zero, List.set_cons_succ]
              refine wpAnyH_ready (rs := [9, 14]) (by kernel_rfl) (by simp) ?_
              refine AllReadyH.cons (o := _) rfl (fun K hK => ?_) ?_
              · go_simp
                refine hK.out _ _ ?_ (fun hH180 => ?_)
                · (try dsimp only)
                  (first | exact ck6 | exact ck12 | exact ck8 | exact ck4 | exact c0 | go_keep)
                clear hK K hH178
                try simp only [Act.put, List.setIfInBounds_toArray, List.set_cons_zero, List.set_cons_succ]
                refine wpAnyH_ready (rs := [14]) (by kernel_rfl) (by simp) ?_
                refine AllReadyH.cons (o := _) rfl (fun K hK => ?_) ?_
                · go_simp
                  refine hK.out _ _ ?_ (fun hH181 => ?_)
                  · (try dsimp only)
                    (first | exact ck6 | exact ck12 | exact ck8 | exact ck4 | exact c0 | go_keep)
                  clear hK K hH180
                  try simp only [Act.put, List.setIfInBounds_toArray, List.set_cons_zero, List.set_cons_succ]
                  refine wpAnyH_take (i := 15) (oi := _) (v := ?v182) rfl (by kernel_rfl) (by kernel_rfl) (by kernel_rfl) (fun _ _ _ h => h) (Or.inl ⟨by rfl, ?hy182⟩) (by assumption) ?_
                  case hy182 => (intro w hSw; (try dsimp only at hSw); go_simp <;> with_reducible rfl)
                  try simp only [Act.put, List.setIfInBounds_toArray, List.set_cons_zero, List.set_cons_succ]
                  refine wpAnyH_ready (rs := [16]) (by kernel_rfl) (by simp) ?_
                  refine AllReadyH.cons (o := _) rfl (fun K hK => ?_) ?_
                  · go_simp
                    refine hK.out _ _ ?_ (fun hH183 => ?_)
                    · (try dsimp only)
                      (first | exact ck6 | exact ck12 | exact ck8 | exact ck4 | exact c0 | go_keep)
                    clear hK K hH181
                    try simp only [Act.put, List.setIfInBounds_toArray, List.set_cons_zero, List.set_cons_succ]
                    refine wpAnyH_take (i := 17) (oi := _) (v := ?v184) rfl (by kernel_rfl) (by kernel_rfl) (by kernel_rfl) (fun _ _ _ h => h) (Or.inl ⟨by rfl, ?hy184⟩) (by assumption) ?_
                    case hy184 => (intro w hSw; (try dsimp only at hSw); go_simp <;> with_reducible rfl)
                    try simp only [Act.put, List.setIfInBounds_toArray, List.set_cons_zero, List.set_cons_succ]
                    refine wpAnyH_take (i := 18) (oi := _) (v := ?v185) rfl (by kernel_rfl) (by kernel_rfl) (by kernel_rfl) (fun _ _ _ h => h) (Or.inl ⟨by rfl, ?hy185⟩) (by assumption) ?_
                    case hy185 => (intro w hSw; (try dsimp only at hSw); go_simp <;> with_reducible rfl)
                    try simp only [Act.put, List.setIfInBounds_toArray, List.set_cons_zero, List.set_cons_succ]
                    refine wpAnyH_ready (rs := [19]) (by kernel_rfl) (by simp) ?_
                    refine AllReadyH.cons (o := _) rfl (fun K hK => ?_) ?_
                    · go_simp
                      refine hK.out _ _ ?_ (fun hH186 => ?_)
                      · (try dsimp only)
                        (first | exact ck6 | exact ck12 | exact ck8 | exact ck4 | exact c0 | go_keep)
                      clear hK K hH183
                      try simp only [Act.put, List.setIfInBounds_toArray, List.set_cons_zero, List.set_cons_succ]
                      refine wpAnyH_ready (rs := [20]) (by kernel_rfl) (by simp) ?_
                      refine AllReadyH.cons (o := _) rfl (fun K hK => ?_) ?_
                      · skip
                        (with_reducible refine step_append_recs (R := itemR) ?_ (.tmp 17) (.tmp 36) ?_ w1.heap.size (w12.heap.size + 1 + 1 + 1) j cap 1 1 (some ⟨g, 0, none⟩) (some ⟨w12.heap.size + 1 + 1, 0, none⟩) d [(s, 1 + y)] ?_ (((st12.alloc _).alloc _).alloc _).own ?_ (items_one2 w12 (.cells #[.int .i64 0, .int .i64 0, .int .i64 0, .int .i64 0, .int .i64 1, .int .i64 1, .int .i64 2] 3) (.cells #[.int .i64 v4, .int .i64 v8, .int .i64 999999] 3) s (1 + y) hss hyI) ?_ ?_ ?_)
                        · rfl
                        · rfl
                        · rfl
                        · rfl
                        · have := st12.le; first | (simp; done) | (simp; omega) | omega
                        · omega
                        intro A6 cap6 w6 hown6 hg6 hr6 hne6
                        obtain ⟨g6, hA6, st6⟩ := (((st12.alloc _).alloc _).alloc _).pushed hown6 hg6 (hne6 (by simp)) hgl hbl z1
                        have ck6 := st6.cell hs
                        clear hown6 hg6 hr6 hne6
                        refine hK.out _ _ ?_ (fun hH187 => ?_)
                        · (try dsimp only)
                          (first | exact ck6 | exact ck12 | exact ck8 | exact ck4 | exact c0 | go_keep)
                        clear hK K hH186
                        try simp only [Act.put, List.setIfInBounds_toArray, List.set_cons_zero, List.set_cons_succ]
                        refine wpAnyH_take (i := 21) (oi := _) (v := ?v188) rfl (by kernel_rfl) (by kernel_rfl) (by kernel_rfl) (fun _ _ _ h => h) (Or.inl ⟨by rfl, ?hy188⟩) (by assumption) ?_
                        case hy188 => (intro w hSw; (try dsimp only at hSw); go_simp <;> with_reducible rfl)
                        try simp only [Act.put, List.setIfInBounds_toArray, List.set_cons_zero, List.set_cons_succ]
                        refine wpAnyH_done (by kernel_rfl) ?_ _
                        refine NoPanic.normal ?_
                        go_wp2_with fail
                        go_roundw
                        case rel => exact ⟨j + 1, q12, g6, cap6, d ++ [(s, 1 + y)], by omega, by first | rfl | rw [hA6], by go_num, by omega, hdi.snoc hs13 (by omega) (by omega), st6⟩
                        case measure => simp [intOf]; omega
                      exact AllReadyH.nil
                    exact AllReadyH.nil
                  exact AllReadyH.nil
                exact AllReadyH.nil
              refine AllReadyH.cons (o := _) rfl (fun K hK => ?_) ?_
              · go_simp
                refine hK.out _ _ ?_ (fun hH189 => ?_)
                · (try dsimp only)
                  (first | exact ck6 | exact ck12 | exact ck8 | exact ck4 | exact c0 | go_keep)
                clear hK K hH178
                try simp only [Act.put, List.setIfInBounds_toArray, List.set_cons_zero, List.set_cons_succ]
                refine wpAnyH_ready (rs := [9]) (by kernel_rfl) (by simp) ?_
                refine AllReadyH.cons (o := _) rfl (fun K hK => ?_) ?_
                · go_simp
                  refine hK.out _ _ ?_ (fun hH190 => ?_)
                  · (try dsimp only)
                    (first | exact ck6 | exact ck12 | exact ck8 | exact ck4 | exact c0 | go_keep)
                  clear hK K hH189
                  try simp only [Act.put, List.setIfInBounds_toArray, List.set_cons_zero, List.set_cons_succ]
                  refine wpAnyH_take (i := 15) (oi := _) (v := ?v191) rfl (by kernel_rfl) (by kernel_rfl) (by kernel_rfl) (fun _ _ _ h => h) (Or.inl ⟨by rfl, ?hy191⟩) (by assumption) ?_
                  case hy191 => (intro w hSw; (try dsimp only at hSw); go_simp <;> with_reducible rfl)
                  try simp only [Act.put, List.setIfInBounds_toArray, List.set_cons_zero, List.set_cons_succ]
                  refine wpAnyH_ready (rs := [16]) (by kernel_rfl) (by simp) ?_
                  refine AllReadyH.cons (o := _) rfl (fun K hK => ?_) ?_
                  · go_simp
                    refine hK.out _ _ ?_ (fun hH192 => ?_)
                    · (try dsimp only)
                      (first | exact ck6 | exact ck12 | exact ck8 | exact ck4 | exact c0 | go_keep)
                    clear hK K hH190
                    try simp only [Act.put, List.setIfInBounds_toArray, List.set_cons_zero, List.set_cons_succ]
                    refine wpAnyH_take (i := 17) (oi := _) (v := ?v193) rfl (by kernel_rfl) (by kernel_rfl) (by kernel_rfl) (fun _ _ _ h => h) (Or.inl ⟨by rfl, ?hy193⟩) (by assumption) ?_
                    case hy193 => (intro w hSw; (try dsimp only at hSw); go_simp <;> with_reducible rfl)
                    try simp only [Act.put, List.setIfInBounds_toArray, List.set_cons_zero, List.set_cons_succ]
                    refine wpAnyH_take (i := 18) (oi := _) (v := ?v194) rfl (by kernel_rfl) (by kernel_rfl) (by kernel_rfl) (fun _ _ _ h => h) (Or.inl ⟨by rfl, ?hy194⟩) (by assumption) ?_
                    case hy194 => (intro w hSw; (try dsimp only at hSw); go_simp <;> with_reducible rfl)
                    try simp only [Act.put, List.setIfInBounds_toArray, List.set_cons_zero, List.set_cons_succ]
                    refine wpAnyH_ready (rs := [19]) (by kernel_rfl) (by simp) ?_
                    refine AllReadyH.cons (o := _) rfl (fun K hK => ?_) ?_
                    · go_simp
                      refine hK.out _ _ ?_ (fun hH195 => ?_)
                      · (try dsimp only)
                        (first | exact ck6 | exact ck12 | exact ck8 | exact ck4 | exact c0 | go_keep)
                      clear hK K hH192
                      try simp only [Act.put, List.setIfInBounds_toArray, List.set_cons_zero, List.set_cons_succ]
                      refine wpAnyH_ready (rs := [20]) (by kernel_rfl) (by simp) ?_
                      refine AllReadyH.cons (o := _) rfl (fun K hK => ?_) ?_
                      · skip
                        (with_reducible refine step_append_recs (R := itemR) ?_ (.tmp 17) (.tmp 36) ?_ w1.heap.size (w12.heap.size + 1 + 1 + 1) j cap 1 1 (some ⟨g, 0, none⟩) (some ⟨w12.heap.size + 1 + 1, 0, none⟩) d [(s, 1 + y)] ?_ (((st12.alloc _).alloc _).alloc _).own ?_ (items_one2 w12 (.cells #[.int .i64 0, .int .i64 0, .int .i64 0, .int .i64 0, .int .i64 1, .int .i64 1, .int .i64 2] 3) (.cells #[.int .i64 v4, .int .i64 v8, .int .i64 999999] 3) s (1 + y) hss hyI) ?_ ?_ ?_)
                        · rfl
                        · rfl
                        · rfl
                        · rfl
                        · have := st12.le; first | (simp; done) | (simp; omega) | omega
                        · omega
                        intro A6 cap6 w6 hown6 hg6 hr6 hne6
                        obtain ⟨g6, hA6, st6⟩ := (((st12.alloc _).alloc _).alloc _).pushed hown6 hg6 (hne6 (by simp)) hgl hbl z1
                        have ck6 := st6.cell hs
                        clear hown6 hg6 hr6 hne6
                        refine hK.out _ _ ?_ (fun hH196 => ?_)
                        · (try dsimp only)
                          (first | exact ck6 | exact ck12 | exact ck8 | exact ck4 | exact c0 | go_keep)
                        clear hK K hH195
                        try simp only [Act.put, List.setIfInBounds_toArray, List.set_cons_zero, List.set_cons_succ]
                        refine wpAnyH_take (i := 21) (oi := _) (v := ?v197) rfl (by kernel_rfl) (by kernel_rfl) (by kernel_rfl) (fun _ _ _ h => h) (Or.inl ⟨by rfl, ?hy197⟩) (by assumption) ?_
                        case hy197 => (intro w hSw; (try dsimp only at hSw); go_simp <;> with_reducible rfl)
                        try simp only [Act.put, List.setIfInBounds_toArray, List.set_cons_zero, List.set_cons_succ]
                        refine wpAnyH_done (by kernel_rfl) ?_ _
                        refine NoPanic.normal ?_
                        go_wp2_with fail
                        go_roundw
                        case rel => exact ⟨j + 1, q12, g6, cap6, d ++ [(s, 1 + y)], by omega, by first | rfl | rw [hA6], by go_num, by omega, hdi.snoc hs13 (by omega) (by omega), st6⟩
                        case measure => simp [intOf]; omega
                      exact AllReadyH.nil
                    exact AllReadyH.nil
                  exact AllReadyH.nil
                exact AllReadyH.nil
              exact AllReadyH.nil
            exact AllReadyH.nil
          exact AllReadyH.nil
        refine AllReadyH.cons (o := _) rfl (fun K hK => ?_) ?_
        · go_simp
          refine hK.out _ _ ?_ (fun hH198 => ?_)
          · (try dsimp only)
            (first | exact ck6 | exact ck12 | exact ck8 | exact ck4 | exact c0 | go_keep)
          clear hK K hH109
          try simp only [Act.put, List.setIfInBounds_toArray, List.set_cons_zero, List.set_cons_succ]
          refine wpAnyH_ready (rs := [8]) (by kernel_rfl) (by simp) ?_
          refine AllReadyH.cons (o := _) rfl (fun K hK => ?_) ?_
          · go_simp
            (with_reducible refine (pick_any b q4 256 (w4.alloc (.cells #[.int .i64 0, .int .i64 0, .int .i64 0, .int .i64 0, .int .i64 1, .int .i64 1, .int .i64 2] 3)) ?_ (by omega) (by decide)).mono ?_)
            · exact (st4.alloc _).got.rd
            rintro e w8 ⟨v8, rfl, hl8, hu8, -, hd8⟩
            have hu8 := hu8 (by decide)
            obtain ⟨q8, qa8, qb8, st8⟩ := St.step (st4.alloc _) hd8 hbl z1
            have ck8 := st8.cell hs
            have tb := hd8.block st4.got.rd.lt
            clear hd8
            go_wp2_with fail
            refine hK.out _ _ ?_ (fun hH199 => ?_)
            · (try dsimp only)
              (first | exact ck6 | exact ck12 | exact ck8 | exact ck4 | exact c0 | go_keep)
            clear hK K hH198
            try simp only [Act.put, List.setIfInBounds_toArray, List.set_cons_zero, List.set_cons_succ]
            refine wpAnyH_ready (rs := [9, 12]) (by kernel_rfl) (by simp) ?_
            refine AllReadyH.cons (o := _) rfl (fun K hK => ?_) ?_
            · go_simp
              refine hK.out _ _ ?_ (fun hH200 => ?_)
              · (try dsimp only)
                (first | exact ck6 | exact ck12 | exact ck8 | exact ck4 | exact c0 | go_keep)
              clear hK K hH199
              try simp only [Act.put, List.setIfInBounds_toArray, List.set_cons_zero, List.set_cons_succ]
              refine wpAnyH_ready (rs := [12]) (by kernel_rfl) (by simp) ?_
              refine AllReadyH.cons (o := _) rfl (fun K hK => ?_) ?_
              · go_simp
                (with_reducible refine (pick_any b q8 7 (w8.alloc (.cells #[.int .i64 v4, .int .i64 v8, .int .i64 999999] 3)) ?_ (by omega) (by decide)).mono ?_)
                · exact (st8.alloc _).got.rd
                rintro e w12 ⟨v12, rfl, hl12, hu12, -, hd12⟩
                have hu12 := hu12 (by decide)
                obtain ⟨q12, qa12, qb12, st12⟩ := St.step (st8.alloc _) hd12 hbl z1
                have ck12 := st12.cell hs
                obtain ⟨x, hx0, hx1, hT⟩ := tab_cell v12 hl12 hu12
                obtain ⟨y, hy0, hy1, hV⟩ := vals_cell x v4 v8 hx0 hx1 hl4 (by omega) hl8 (by omega)
                have hyw : IntKind.i64.wrap (1 + y) = 1 + y := IntWalk.i64_in _ (by omega)
                have hyI : I64 (1 + y) := by unfold I64; omega
                have t12 := hd12.at_ (ha_old tb _) (by have := st8.got.rd.lt; have := st4.got.rd.lt; have := st.got.rd.lt; omega)
                have cT := hT _ _ t12
                have cV := hV _ _ (hd12.block st8.got.rd.lt)
                clear t12 tb
                clear hT hV
                clear hd12
                go_wp2_with fail
                refine hK.out _ _ ?_ (fun hH201 => ?_)
                · (try dsimp only)
                  (first | exact ck6 | exact ck12 | exact ck8 | exact ck4 | exact c0 | go_keep)
                clear hK K hH200
                try simp only [Act.put, List.setIfInBounds_toArray, List.set_cons_zero, List.set_cons_succ]
                refine wpAnyH_take (i := 13) (oi := _) (v := ?v202) rfl (by kernel_rfl) (by kernel_rfl) (by kernel_rfl) (fun _ _ _ h => h) (Or.inl ⟨by rfl, ?hy202⟩) (by assumption) ?_
                case hy202 => (intro w hSw; (try dsimp only at hSw); go_simp <;> with_reducible rfl)
                try simp only [Act.put, List.setIfInBounds_toArray, List.set_cons_zero, List.set_cons_succ]
                refine wpAnyH_ready (rs := [14]) (by kernel_rfl) (by simp) ?_
                refine AllReadyH.cons (o := _) rfl (fun K hK => ?_) ?_
                · go_simp
                  refine hK.out _ _ ?_ (fun hH203 => ?_)
                  · (try dsimp only)
                    (first | exact ck6 | exact ck12 | exact ck8 | exact ck4 | exact c0 | go_keep)
                  clear hK K hH201
                  try simp only [Act.put, List.setIfInBounds_toArray, List.set_cons_zero, List.set_cons_succ]
                  refine wpAnyH_take (i := 15) (oi := _) (v := ?v204) rfl (by kernel_rfl) (by kernel_rfl) (by kernel_rfl) (fun _ _ _ h => h) (Or.inl ⟨by rfl, ?hy204⟩) (by assumption) ?_
                  case hy204 => (intro w hSw; (try dsimp only at hSw); go_simp <;> with_reducible rfl)
                  try simp only [Act.put, List.setIfInBounds_toArray, List.set_cons_zero, List.set_cons_succ]
                  refine wpAnyH_ready (rs := [16]) (by kernel_rfl) (by simp) ?_
                  refine AllReadyH.cons (o := _) rfl (fun K hK => ?_) ?_
                  · go_simp
                    refine hK.out _ _ ?_ (fun hH205 => ?_)
                    · (try dsimp only)
                      (first | exact ck6 | exact ck12 | exact ck8 | exact ck4 | exact c0 | go_keep)
                    clear hK K hH203
                    try simp only [Act.put, List.setIfInBounds_toArray, List.set_cons_zero, List.set_cons_succ]
                    refine wpAnyH_take (i := 17) (oi := _) (v := ?v206) rfl (by kernel_rfl) (by kernel_rfl) (by kernel_rfl) (fun _ _ _ h => h) (Or.inl ⟨by rfl, ?hy206⟩) (by assumption) ?_
                    case hy206 => (intro w hSw; (try dsimp only at hSw); go_simp <;> with_reducible rfl)
                    try simp only [Act.put, List.setIfInBounds_toArray, List.set_cons_zero, List.set_cons_succ]
                    refine wpAnyH_take (i := 18) (oi := _) (v := ?v207) rfl (by kernel_rfl) (by kernel_rfl) (by kernel_rfl) (fun _ _ _ h => h) (Or.inl ⟨by rfl, ?hy207⟩) (by assumption) ?_
                    case hy207 => (intro w hSw; (try dsimp only at hSw); go_simp <;> with_reducible rfl)
                    try simp only [Act.put, List.setIfInBounds_toArray, List.set_cons_zero, List.set_cons_succ]
                    refine wpAnyH_ready (rs := [19]) (by kernel_rfl) (by simp) ?_
                    refine AllReadyH.cons (o := _) rfl (fun K hK => ?_) ?_
                    · go_simp
                      refine hK.out _ _ ?_ (fun hH208 => ?_)
                      · (try dsimp only)
                        (first | exact ck6 | exact ck12 | exact ck8 | exact ck4 | exact c0 | go_keep)
                      clear hK K hH205
                      try simp only [Act.put, List.setIfInBounds_toArray, List.set_cons_zero, List.set_cons_succ]
                      refine wpAnyH_ready (rs := [20]) (by kernel_rfl) (by simp) ?_
                      refine AllReadyH.cons (o := _) rfl (fun K hK => ?_) ?_
                      · skip
                        (with_reducible refine step_append_recs (R := itemR) ?_ (.tmp 17) (.tmp 36) ?_ w1.heap.size (w12.heap.size + 1) j cap 1 1 (some ⟨g, 0, none⟩) (some ⟨w12.heap.size, 0, none⟩) d [(s, 1 + y)] ?_ (st12.alloc _).own ?_ (items_one w12 s (1 + y) hss hyI) ?_ ?_ ?_)
                        · rfl
                        · rfl
                        · rfl
                        · rfl
                        · have := st12.le; first | (simp; done) | (simp; omega) | omega
                        · omega
                        intro A6 cap6 w6 hown6 hg6 hr6 hne6
                        obtain ⟨g6, hA6, st6⟩ := (st12.alloc _).pushed hown6 hg6 (hne6 (by simp)) hgl hbl z1
                        have ck6 := st6.cell hs
                        clear hown6 hg6 hr6 hne6
                        refine hK.out _ _ ?_ (fun hH209 => ?_)
                        · (try dsimp only)
                          (first | exact ck6 | exact ck12 | exact ck8 | exact ck4 | exact c0 | go_keep)
                        clear hK K hH208
                        try simp only [Act.put, List.setIfInBounds_toArray, List.set_cons_zero, List.set_cons_succ]
                        refine wpAnyH_take (i := 21) (oi := _) (v := ?v210) rfl (by kernel_rfl) (by kernel_rfl) (by kernel_rfl) (fun _ _ _ h => h) (Or.inl ⟨by rfl, ?hy210⟩) (by assumption) ?_
                        case hy210 => (intro w hSw; (try dsimp only at hSw); go_simp <;> with_reducible rfl)
                        try simp only [Act.put, List.setIfInBounds_toArray, List.set_cons_zero, List.set_cons_succ]
                        refine wpAnyH_done (by kernel_rfl) ?_ _
                        refine NoPanic.normal ?_
                        go_wp2_with fail
                        go_roundw
                        case rel => exact ⟨j + 1, q12, g6, cap6, d ++ [(s, 1 + y)], by omega, by first | rfl | rw [hA6], by go_num, by omega, hdi.snoc hs13 (by omega) (by omega), st6⟩
                        case measure => simp [intOf]; omega
                      exact AllReadyH.nil
                    exact AllReadyH.nil
                  exact AllReadyH.nil
                exact AllReadyH.nil
              exact AllReadyH.nil
            refine AllReadyH.cons (o := _) rfl (fun K hK => ?_) ?_
            · go_simp
              (with_reducible refine (pick_any b q8 7 (w8) ?_ (by omega) (by decide)).mono ?_)
              · exact (st8).got.rd
              rintro e w12 ⟨v12, rfl, hl12, hu12, -, hd12⟩
              have hu12 := hu12 (by decide)
              obtain ⟨q12, qa12, qb12, st12⟩ := St.step (st8) hd12 hbl z1
              have ck12 := st12.cell hs
              obtain ⟨x, hx0, hx1, hT⟩ := tab_cell v12 hl12 hu12
              obtain ⟨y, hy0, hy1, hV⟩ := vals_cell x v4 v8 hx0 hx1 hl4 (by omega) hl8 (by omega)
              have hyw : IntKind.i64.wrap (1 + y) = 1 + y := IntWalk.i64_in _ (by omega)
              have hyI : I64 (1 + y) := by unfold I64; omega
              have t12 := hd12.at_ tb (by have := st8.got.rd.lt; have := st4.got.rd.lt; have := st.got.rd.lt; omega)
              have cT := hT _ _ t12
              have cT2 := hT (w12.alloc (.cells #[.int .i64 v4, .int .i64 v8, .int .i64 999999] 3)) _ (ha_old t12 _)
              have cV := hV (w12.alloc (.cells #[.int .i64 v4, .int .i64 v8, .int .i64 999999] 3)) w12.heap.size (heap_alloc_new w12 _)
              clear t12 tb
              clear hT hV
              clear hd12
              go_wp2_with fail
              refine hK.out _ _ ?_ (fun hH211 => ?_)
              · (try dsimp only)
                (first | exact ck6 | exact ck12 | exact ck8 | exact ck4 | exact c0 | go_keep)
              clear hK K hH199
              try simp only [Act.put, List.setIfInBounds_toArray, List.set_cons_zero, List.set_cons_succ]
              refine wpAnyH_take (i := 13) (oi := _) (v := ?v212) rfl (by kernel_rfl) (by kernel_rfl) (by kernel_rfl) (fun _ _ _ h => h) (Or.inl ⟨by rfl, ?hy212⟩) (by assumption) ?_
              case hy212 => (intro w hSw; (try dsimp only at hSw); go_simp <;> with_reducible rfl)
              try simp only [Act.put, List.setIfInBounds_toArray, List.set_cons_zero, List.set_cons_succ]
              refine wpAnyH_ready (rs := [9, 14]) (by kernel_rfl) (by simp) ?_
              refine AllReadyH.cons (o := _) rfl (fun K hK => ?_) ?_
              · go_simp
                refine hK.out _ _ ?_ (fun hH213 => ?_)
                · (try dsimp only)
                  (first | exact ck6 | exact ck12 | exact ck8 | exact ck4 | exact c0 | go_keep)
                clear hK K hH211
                try simp only [Act.put, List.setIfInBounds_toArray, List.set_cons_zero, List.set_cons_succ]
                refine wpAnyH_ready (rs := [14]) (by kernel_rfl) (by simp) ?_
                refine AllReadyH.cons (o := _) rfl (fun K hK => ?_) ?_
                · go_simp
                  refine hK.out _ _ ?_ (fun hH214 => ?_)
                  · (try dsimp only)
                    (first | exact ck6 | exact ck12 | exact ck8 | exact ck4 | exact c0 | go_keep)
                  clear hK K hH213
                  try simp only [Act.put, List.setIfInBounds_toArray, List.set_cons_zero, List.set_cons_succ]
                  refine wpAnyH_take (i := 15) (oi := _) (v := ?v215) rfl (by kernel_rfl) (by kernel_rfl) (by kernel_rfl) (fun _ _ _ h => h) (Or.inl ⟨by rfl, ?hy215⟩) (by assumption) ?_
                  case hy215 => (intro w hSw; (try dsimp only at hSw); go_simp <;> with_reducible rfl)
                  try simp only [Act.put, List.setIfInBounds_toArray, List.set_cons_zero, List.set_cons_succ]
                  refine wpAnyH_ready (rs := [16]) (by kernel_rfl) (by simp) ?_
                  refine AllReadyH.cons (o := _) rfl (fun K hK => ?_) ?_
                  · go_simp
                    refine hK.out _ _ ?_ (fun hH216 => ?_)
                    · (try dsimp only)
                      (first | exact ck6 | exact ck12 | exact ck8 | exact ck4 | exact c0 | go_keep)
                    clear hK K hH214
                    try simp only [Act.put, List.setIfInBounds_toArray, List.set_cons_zero, List.set_cons_succ]
                    refine wpAnyH_take (i := 17) (oi := _) (v := ?v217) rfl (by kernel_rfl) (by kernel_rfl) (by kernel_rfl) (fun _ _ _ h => h) (Or.inl ⟨by rfl, ?hy217⟩) (by assumption) ?_
                    case hy217 => (intro w hSw; (try dsimp only at hSw); go_simp <;> with_reducible rfl)
                    try simp only [Act.put, List.setIfInBounds_toArray, List.set_cons_zero, List.set_cons_succ]
                    refine wpAnyH_take (i := 18) (oi := _) (v := ?v218) rfl (by kernel_rfl) (by kernel_rfl) (by kernel_rfl) (fun _ _ _ h => h) (Or.inl ⟨by rfl, ?hy218⟩) (by assumption) ?_
                    case hy218 => (intro w hSw; (try dsimp only at hSw); go_simp <;> with_reducible rfl)
                    try simp only [Act.put, List.setIfInBounds_toArray, List.set_cons_zero, List.set_cons_succ]
                    refine wpAnyH_ready (rs := [19]) (by kernel_rfl) (by simp) ?_
                    refine AllReadyH.cons (o := _) rfl (fun K hK => ?_) ?_
                    · go_simp
                      refine hK.out _ _ ?_ (fun hH219 => ?_)
                      · (try dsimp only)
                        (first | exact ck6 | exact ck12 | exact ck8 | exact ck4 | exact c0 | go_keep)
                      clear hK K hH216
                      try simp only [Act.put, List.setIfInBounds_toArray, List.set_cons_zero, List.set_cons_succ]
                      refine wpAnyH_ready (rs := [20]) (by kernel_rfl) (by simp) ?_
                      refine AllReadyH.cons (o := _) rfl (fun K hK => ?_) ?_
                      · skip
                        (with_reducible refine step_append_recs (R := itemR) ?_ (.tmp 17) (.tmp 36) ?_ w1.heap.size (w12.heap.size + 1 + 1) j cap 1 1 (some ⟨g, 0, none⟩) (some ⟨w12.heap.size + 1, 0, none⟩) d [(s, 1 + y)] ?_ ((st12.alloc _).alloc _).own ?_ (items_one1 w12 (.cells #[.int .i64 v4, .int .i64 v8, .int .i64 999999] 3) s (1 + y) hss hyI) ?_ ?_ ?_)
                        · rfl
                        · rfl
                        · rfl
                        · rfl
                        · have := st12.le; first | (simp; done) | (simp; omega) | omega
                        · omega
                        intro A6 cap6 w6 hown6 hg6 hr6 hne6
                        obtain ⟨g6, hA6, st6⟩ := ((st12.alloc _).alloc _).pushed hown6 hg6 (hne6 (by simp)) hgl hbl z1
                        have ck6 := st6.cell hs
                        clear hown6 hg6 hr6 hne6
                        refine hK.out _ _ ?_ (fun hH220 => ?_)
                        · (try dsimp only)
                          (first | exact ck6 | exact ck12 | exact ck8 | exact ck4 | exact c0 | go_keep)
                        clear hK K hH219
                        try simp only [Act.put, List.setIfInBounds_toArray, List.set_cons_zero, List.set_cons_succ]
                        refine wpAnyH_take (i := 21) (oi := _) (v := ?v221) rfl (by kernel_rfl) (by kernel_rfl) (by kernel_rfl) (fun _ _ _ h => h) (Or.inl ⟨by rfl, ?hy221⟩) (by assumption) ?_
                        case hy221 => (intro w hSw; (try dsimp only at hSw); go_simp <;> with_reducible rfl)
                        try simp only [Act.put, List.setIfInBounds_toArray, List.set_cons_zero, List.set_cons_succ]
                        refine wpAnyH_done (by kernel_rfl) ?_ _
                        refine NoPanic.normal ?_
                        go_wp2_with fail
                        go_roundw
                        case rel => exact ⟨j + 1, q12, g6, cap6, d ++ [(s, 1 + y)], by omega, by first | rfl | rw [hA6], by go_num, by omega, hdi.snoc hs13 (by omega) (by omega), st6⟩
                        case measure => simp [intOf]; omega
                      exact AllReadyH.nil
                    exact AllReadyH.nil
                  exact AllReadyH.nil
                exact AllReadyH.nil
              refine AllReadyH.cons (o := _) rfl (fun K hK => ?_) ?_
              · go_simp
                refine hK.out _ _ ?_ (fun hH222 => ?_)
                · (try dsimp only)
                  (first | exact ck6 | exact ck12 | exact ck8 | exact ck4 | exact c0 | go_keep)
                clear hK K hH211
                try simp only [Act.put, List.setIfInBounds_toArray, List.set_cons_zero, List.set_cons_succ]
                refine wpAnyH_ready (rs := [9]) (by kernel_rfl) (by simp) ?_
                refine AllReadyH.cons (o := _) rfl (fun K hK => ?_) ?_
                · go_simp
                  refine hK.out _ _ ?_ (fun hH223 => ?_)
                  · (try dsimp only)
                    (first | exact ck6 | exact ck12 | exact ck8 | exact ck4 | exact c0 | go_keep)
                  clear hK K hH222
                  try simp only [Act.put, List.setIfInBounds_toArray, List.set_cons_zero, List.set_cons_succ]
                  refine wpAnyH_take (i := 15) (oi := _) (v := ?v224) rfl (by kernel_rfl) (by kernel_rfl) (by kernel_rfl) (fun _ _ _ h => h) (Or.inl ⟨by rfl, ?hy224⟩) (by assumption) ?_
                  case hy224 => (intro w hSw; (try dsimp only at hSw); go_simp <;> with_reducible rfl)
                  try simp only [Act.put, List.setIfInBounds_toArray, List.set_cons_zero, List.set_cons_succ]
                  refine wpAnyH_ready (rs := [16]) (by kernel_rfl) (by simp) ?_
                  refine AllReadyH.cons (o := _) rfl (fun K hK => ?_) ?_
                  · go_simp
                    refine hK.out _ _ ?_ (fun hH225 => ?_)
                    · (try dsimp only)
                      (first | exact ck6 | exact ck12 | exact ck8 | exact ck4 | exact c0 | go_keep)
                    clear hK K hH223
                    try simp only [Act.put, List.setIfInBounds_toArray, List.set_cons_zero, List.set_cons_succ]
                    refine wpAnyH_take (i := 17) (oi := _) (v := ?v226) rfl (by kernel_rfl) (by kernel_rfl) (by kernel_rfl) (fun _ _ _ h => h) (Or.inl ⟨by rfl, ?hy226⟩) (by assumption) ?_
                    case hy226 => (intro w hSw; (try dsimp only at hSw); go_simp <;> with_reducible rfl)
                    try simp only [Act.put, List.setIfInBounds_toArray, List.set_cons_zero, List.set_cons_succ]
                    refine wpAnyH_take (i := 18) (oi := _) (v := ?v227) rfl (by kernel_rfl) (by kernel_rfl) (by kernel_rfl) (fun _ _ _ h => h) (Or.inl ⟨by rfl, ?hy227⟩) (by assumption) ?_
                    case hy227 => (intro w hSw; (try dsimp only at hSw); go_simp <;> with_reducible rfl)
                    try simp only [Act.put, List.setIfInBounds_toArray, List.set_cons_zero, List.set_cons_succ]
                    refine wpAnyH_ready (rs := [19]) (by kernel_rfl) (by simp) ?_
                    refine AllReadyH.cons (o := _) rfl (fun K hK => ?_) ?_
                    · go_simp
                      refine hK.out _ _ ?_ (fun hH228 => ?_)
                      · (try dsimp only)
                        (first | exact ck6 | exact ck12 | exact ck8 | exact ck4 | exact c0 | go_keep)
                      clear hK K hH225
                      try simp only [Act.put, List.setIfInBounds_toArray, List.set_cons_zero, List.set_cons_succ]
                      refine wpAnyH_ready (rs := [20]) (by kernel_rfl) (by simp) ?_
                      refine AllReadyH.cons (o := _) rfl (fun K hK => ?_) ?_
                      · skip
                        (with_reducible refine step_append_recs (R := itemR) ?_ (.tmp 17) (.tmp 36) ?_ w1.heap.size (w12.heap.size + 1 + 1) j cap 1 1 (some ⟨g, 0, none⟩) (some ⟨w12.heap.size + 1, 0, none⟩) d [(s, 1 + y)] ?_ ((st12.alloc _).alloc _).own ?_ (items_one1 w12 (.cells #[.int .i64 v4, .int .i64 v8, .int .i64 999999] 3) s (1 + y) hss hyI) ?_ ?_ ?_)
                        · rfl
                        · rfl
                        · rfl
                        · rfl
                        · have := st12.le; first | (simp; done) | (simp; omega) | omega
                        · omega
                        intro A6 cap6 w6 hown6 hg6 hr6 hne6
                        obtain ⟨g6, hA6, st6⟩ := ((st12.alloc _).alloc _).pushed hown6 hg6 (hne6 (by simp)) hgl hbl z1
                        have ck6 := st6.cell hs
                        clear hown6 hg6 hr6 hne6
                        refine hK.out _ _ ?_ (fun hH229 => ?_)
                        · (try dsimp only)
                          (first | exact ck6 | exact ck12 | exact ck8 | exact ck4 | exact c0 | go_keep)
                        clear hK K hH228
                        try simp only [Act.put, List.setIfInBounds_toArray, List.set_cons_zero, List.set_cons_succ]
                        refine wpAnyH_take (i := 21) (oi := _) (v := ?v230) rfl (by kernel_rfl) (by kernel_rfl) (by kernel_rfl) (fun _ _ _ h => h) (Or.inl ⟨by rfl, ?hy230⟩) (by assumption) ?_
                        case hy230 => (intro w hSw; (try dsimp only at hSw); go_simp <;> with_reducible rfl)
                        try simp only [Act.put, List.setIfInBounds_toArray, List.set_cons_zero, List.set_cons_succ]
                        refine wpAnyH_done (by kernel_rfl) ?_ _
                        refine NoPanic.normal ?_
                        go_wp2_with fail
                        go_roundw
                        case rel => exact ⟨j + 1, q12, g6, cap6, d ++ [(s, 1 + y)], by omega, by first | rfl | rw [hA6], by go_num, by omega, hdi.snoc hs13 (by omega) (by omega), st6⟩
                        case measure => simp [intOf]; omega
                      exact AllReadyH.nil
                    exact AllReadyH.nil
                  exact AllReadyH.nil
                exact AllReadyH.nil
              exact AllReadyH.nil
            exact AllReadyH.nil
          exact AllReadyH.nil
        exact AllReadyH.nil
      refine AllReadyH.cons (o := _) rfl (fun K hK => ?_) ?_
      · go_simp
        refine hK.out _ _ ?_ (fun hH231 => ?_)
        · (try dsimp only)
          (first | exact ck6 | exact ck12 | exact ck8 | exact ck4 | exact c0 | go_keep)
        clear hK K hHeld
        try simp only [Act.put, List.setIfInBounds_toArray, List.set_cons_zero, List.set_cons_succ]
        refine wpAnyH_ready (rs := [6]) (by kernel_rfl) (by simp) ?_
        refine AllReadyH.cons (o := _) rfl (fun K hK => ?_) ?_
        · go_simp
          (with_reducible refine (pick_any b q 4 ((wr.alloc (.cells #[.int .i64 0, .int .i64 0, .int .i64 0, .int .i64 0, .int .i64 1, .int .i64 1, .int .i64 2] 3)).drew) ?_ (by omega) (by decide)).mono ?_)
          · exact ((st.alloc _).drew1).got.rd
          rintro e w4 ⟨v4, rfl, hl4, hu4, -, hd4⟩
          have hu4 := hu4 (by decide)
          obtain ⟨q4, qa4, qb4, st4⟩ := St.step ((st.alloc _).drew1) hd4 hbl z1
          have ck4 := st4.cell hs
          have tb := hd4.at_ (show ((wr.alloc (.cells #[.int .i64 0, .int .i64 0, .int .i64 0, .int .i64 0, .int .i64 1, .int .i64 1, .int .i64 2] 3)).drew).heap[wr.heap.size]? = some (.cells #[.int .i64 0, .int .i64 0, .int .i64 0, .int .i64 0, .int .i64 1, .int .i64 1, .int .i64 2] 3) from heap_alloc_new wr _) (by have := st.got.rd.lt; omega)
          clear hd4
          go_wp2_with fail
          refine hK.out _ _ ?_ (fun hH232 => ?_)
          · (try dsimp only)
            (first | exact ck6 | exact ck12 | exact ck8 | exact ck4 | exact c0 | go_keep)
          clear hK K hH231
          try simp only [Act.put, List.setIfInBounds_toArray, List.set_cons_zero, List.set_cons_succ]
          refine wpAnyH_ready (rs := [8]) (by kernel_rfl) (by simp) ?_
          refine AllReadyH.cons (o := _) rfl (fun K hK => ?_) ?_
          · go_simp
            (with_reducible refine (pick_any b q4 256 (w4) ?_ (by omega) (by decide)).mono ?_)
            · exact (st4).got.rd
            rintro e w8 ⟨v8, rfl, hl8, hu8, -, hd8⟩
            have hu8 := hu8 (by decide)
            obtain ⟨q8, qa8, qb8, st8⟩ := St.step (st4) hd8 hbl z1
            have ck8 := st8.cell hs
            replace tb := hd8.at_ tb (by have := st.got.rd.lt; have := st4.got.rd.lt; omega)
            clear hd8
            go_wp2_with fail
            refine hK.out _ _ ?_ (fun hH233 => ?_)
            · (try dsimp only)
              (first | exact ck6 | exact ck12 | exact ck8 | exact ck4 | exact c0 | go_keep)
            clear hK K hH232
            try simp only [Act.put, List.setIfInBounds_toArray, List.set_cons_zero, List.set_cons_succ]
            refine wpAnyH_ready (rs := [9, 12]) (by kernel_rfl) (by simp) ?_
            refine AllReadyH.cons (o := _) rfl (fun K hK => ?_) ?_
            · go_simp
              refine hK.out _ _ ?_ (fun hH234 => ?_)
              · (try dsimp only)
                (first | exact ck6 | exact ck12 | exact ck8 | exact ck4 | exact c0 | go_keep)
              clear hK K hH233
              try simp only [Act.put, List.setIfInBounds_toArray, List.set_cons_zero, List.set_cons_succ]
              refine wpAnyH_ready (rs := [12]) (by kernel_rfl) (by simp) ?_
              refine AllReadyH.cons (o := _) rfl (fun K hK => ?_) ?_
              · go_simp
                (with_reducible refine (pick_any b q8 7 (w8.alloc (.cells #[.int .i64 v4, .int .i64 v8, .int .i64 999999] 3)) ?_ (by omega) (by decide)).mono ?_)
                · exact (st8.alloc _).got.rd
                rintro e w12 ⟨v12, rfl, hl12, hu12, -, hd12⟩
                have hu12 := hu12 (by decide)
                obtain ⟨q12, qa12, qb12, st12⟩ := St.step (st8.alloc _) hd12 hbl z1
                have ck12 := st12.cell hs
                obtain ⟨x, hx0, hx1, hT⟩ := tab_cell v12 hl12 hu12
                obtain ⟨y, hy0, hy1, hV⟩ := vals_cell x v4 v8 hx0 hx1 hl4 (by omega) hl8 (by omega)
                have hyw : IntKind.i64.wrap (1 + y) = 1 + y := IntWalk.i64_in _ (by omega)
                have hyI : I64 (1 + y) := by unfold I64; omega
                have t12 := hd12.at_ (ha_old tb _) (by have := st8.got.rd.lt; have := st4.got.rd.lt; have := st.got.rd.lt; omega)
                have cT := hT _ _ t12
                have cV := hV _ _ (hd12.block st8.got.rd.lt)
                clear t12 tb
                clear hT hV
                clear hd12
                go_wp2_with fail
                refine hK.out _ _ ?_ (fun hH235 => ?_)
                · (try dsimp only)
                  (first | exact ck6 | exact ck12 | exact ck8 | exact ck4 | exact c0 | go_keep)
                clear hK K hH234
                try simp only [Act.put, List.setIfInBounds_toArray, List.set_cons_zero, List.set_cons_succ]
                refine wpAnyH_take (i := 13) (oi := _) (v := ?v236) rfl (by kernel_rfl) (by kernel_rfl) (by kernel_rfl) (fun _ _ _ h => h) (Or.inl ⟨by rfl, ?hy236⟩) (by assumption) ?_
                case hy236 => (intro w hSw; (try dsimp only at hSw); go_simp <;> with_reducible rfl)
                try simp only [Act.put, List.setIfInBounds_toArray, List.set_cons_zero, List.set_cons_succ]
                refine wpAnyH_ready (rs := [14]) (by kernel_rfl) (by simp) ?_
                refine AllReadyH.cons (o := _) rfl (fun K hK => ?_) ?_
                · go_simp
                  refine hK.out _ _ ?_ (fun hH237 => ?_)
                  · (try dsimp only)
                    (first | exact ck6 | exact ck12 | exact ck8 | exact ck4 | exact c0 | go_keep)
                  clear hK K hH235
                  try simp only [Act.put, List.setIfInBounds_toArray, List.set_cons_zero, List.set_cons_succ]
                  refine wpAnyH_take (i := 15) (oi := _) (v := ?v238) rfl (by kernel_rfl) (by kernel_rfl) (by kernel_rfl) (fun _ _ _ h => h) (Or.inl ⟨by rfl, ?hy238⟩) (by assumption) ?_
                  case hy238 => (intro w hSw; (try dsimp only at hSw); go_simp <;> with_reducible rfl)
                  try simp only [Act.put, List.setIfInBounds_toArray, List.set_cons_zero, List.set_cons_succ]
                  refine wpAnyH_ready (rs := [16]) (by kernel_rfl) (by simp) ?_
                  refine AllReadyH.cons (o := _) rfl (fun K hK => ?_) ?_
                  · go_simp
                    refine hK.out _ _ ?_ (fun hH239 => ?_)
                    · (try dsimp only)
                      (first | exact ck6 | exact ck12 | exact ck8 | exact ck4 | exact c0 | go_keep)
                    clear hK K hH237
                    try simp only [Act.put, List.setIfInBounds_toArray, List.set_cons_zero, List.set_cons_succ]
                    refine wpAnyH_take (i := 17) (oi := _) (v := ?v240) rfl (by kernel_rfl) (by kernel_rfl) (by kernel_rfl) (fun _ _ _ h => h) (Or.inl ⟨by rfl, ?hy240⟩) (by assumption) ?_
                    case hy240 => (intro w hSw; (try dsimp only at hSw); go_simp <;> with_reducible rfl)
                    try simp only [Act.put, List.setIfInBounds_toArray, List.set_cons_zero, List.set_cons_succ]
                    refine wpAnyH_take (i := 18) (oi := _) (v := ?v241) rfl (by kernel_rfl) (by kernel_rfl) (by kernel_rfl) (fun _ _ _ h => h) (Or.inl ⟨by rfl, ?hy241⟩) (by assumption) ?_
                    case hy241 => (intro w hSw; (try dsimp only at hSw); go_simp <;> with_reducible rfl)
                    try simp only [Act.put, List.setIfInBounds_toArray, List.set_cons_zero, List.set_cons_succ]
                    refine wpAnyH_ready (rs := [19]) (by kernel_rfl) (by simp) ?_
                    refine AllReadyH.cons (o := _) rfl (fun K hK => ?_) ?_
                    · go_simp
                      refine hK.out _ _ ?_ (fun hH242 => ?_)
                      · (try dsimp only)
                        (first | exact ck6 | exact ck12 | exact ck8 | exact ck4 | exact c0 | go_keep)
                      clear hK K hH239
                      try simp only [Act.put, List.setIfInBounds_toArray, List.set_cons_zero, List.set_cons_succ]
                      refine wpAnyH_ready (rs := [20]) (by kernel_rfl) (by simp) ?_
                      refine AllReadyH.cons (o := _) rfl (fun K hK => ?_) ?_
                      · skip
                        (with_reducible refine step_append_recs (R := itemR) ?_ (.tmp 17) (.tmp 36) ?_ w1.heap.size (w12.heap.size + 1) j cap 1 1 (some ⟨g, 0, none⟩) (some ⟨w12.heap.size, 0, none⟩) d [(s, 1 + y)] ?_ (st12.alloc _).own ?_ (items_one w12 s (1 + y) hss hyI) ?_ ?_ ?_)
                        · rfl
                        · rfl
                        · rfl
                        · rfl
                        · have := st12.le; first | (simp; done) | (simp; omega) | omega
                        · omega
                        intro A6 cap6 w6 hown6 hg6 hr6 hne6
                        obtain ⟨g6, hA6, st6⟩ := (st12.alloc _).pushed hown6 hg6 (hne6 (by simp)) hgl hbl z1
                        have ck6 := st6.cell hs
                        clear hown6 hg6 hr6 hne6
                        refine hK.out _ _ ?_ (fun hH243 => ?_)
                        · (try dsimp only)
                          (first | exact ck6 | exact ck12 | exact ck8 | exact ck4 | exact c0 | go_keep)
                        clear hK K hH242
                        try simp only [Act.put, List.setIfInBounds_toArray, List.set_cons_zero, List.set_cons_succ]
                        refine wpAnyH_take (i := 21) (oi := _) (v := ?v244) rfl (by kernel_rfl) (by kernel_rfl) (by kernel_rfl) (fun _ _ _ h => h) (Or.inl ⟨by rfl, ?hy244⟩) (by assumption) ?_
                        case hy244 => (intro w hSw; (try dsimp only at hSw); go_simp <;> with_reducible rfl)
                        try simp only [Act.put, List.setIfInBounds_toArray, List.set_cons_zero, List.set_cons_succ]
                        refine wpAnyH_done (by kernel_rfl) ?_ _
                        refine NoPanic.normal ?_
                        go_wp2_with fail
                        go_roundw
                        case rel => exact ⟨j + 1, q12, g6, cap6, d ++ [(s, 1 + y)], by omega, by first | rfl | rw [hA6], by go_num, by omega, hdi.snoc hs13 (by omega) (by omega), st6⟩
                        case measure => simp [intOf]; omega
                      exact AllReadyH.nil
                    exact AllReadyH.nil
                  exact AllReadyH.nil
                exact AllReadyH.nil
              exact AllReadyH.nil
            refine AllReadyH.cons (o := _) rfl (fun K hK => ?_) ?_
            · go_simp
              (with_reducible refine (pick_any b q8 7 (w8) ?_ (by omega) (by decide)).mono ?_)
              · exact (st8).got.rd
              rintro e w12 ⟨v12, rfl, hl12, hu12, -, hd12⟩
              have hu12 := hu12 (by decide)
              obtain ⟨q12, qa12, qb12, st12⟩ := St.step (st8) hd12 hbl z1
              have ck12 := st12.cell hs
              obtain ⟨x, hx0, hx1, hT⟩ := tab_cell v12 hl12 hu12
              obtain ⟨y, hy0, hy1, hV⟩ := vals_cell x v4 v8 hx0 hx1 hl4 (by omega) hl8 (by omega)
              have hyw : IntKind.i64.wrap (1 + y) = 1 + y := IntWalk.i64_in _ (by omega)
              have hyI : I64 (1 + y) := by unfold I64; omega
              have t12 := hd12.at_ tb (by have := st8.got.rd.lt; have := st4.got.rd.lt; have := st.got.rd.lt; omega)
              have cT := hT _ _ t12
              have cT2 := hT (w12.alloc (.cells #[.int .i64 v4, .int .i64 v8, .int .i64 999999] 3)) _ (ha_old t12 _)
              have cV := hV (w12.alloc (.cells #[.int .i64 v4, .int .i64 v8, .int .i64 999999] 3)) w12.heap.size (heap_alloc_new w12 _)
              clear t12 tb
              clear hT hV
              clear hd12
              go_wp2_with fail
              refine hK.out _ _ ?_ (fun hH245 => ?_)
              · (try dsimp only)
                (first | exact ck6 | exact ck12 | exact ck8 | exact ck4 | exact c0 | go_keep)
              clear hK K hH233
              try simp only [Act.put, List.setIfInBounds_toArray, List.set_cons_zero, List.set_cons_succ]
              refine wpAnyH_take (i := 13) (oi := _) (v := ?v246) rfl (by kernel_rfl) (by kernel_rfl) (by kernel_rfl) (fun _ _ _ h => h) (Or.inl ⟨by rfl, ?hy246⟩) (by assumption) ?_
              case hy246 => (intro w hSw; (try dsimp only at hSw); go_simp <;> with_reducible rfl)
              try simp only [Act.put, List.setIfInBounds_toArray, List.set_cons_zero, List.set_cons_succ]
              refine wpAnyH_ready (rs := [9, 14]) (by kernel_rfl) (by simp) ?_
              refine AllReadyH.cons (o := _) rfl (fun K hK => ?_) ?_
              · go_simp
                refine hK.out _ _ ?_ (fun hH247 => ?_)
                · (try dsimp only)
                  (first | exact ck6 | exact ck12 | exact ck8 | exact ck4 | exact c0 | go_keep)
                clear hK K hH245
                try simp only [Act.put, List.setIfInBounds_toArray, List.set_cons_zero, List.set_cons_succ]
                refine wpAnyH_ready (rs := [14]) (by kernel_rfl) (by simp) ?_
                refine AllReadyH.cons (o := _) rfl (fun K hK => ?_) ?_
                · go_simp
                  refine hK.out _ _ ?_ (fun hH248 => ?_)
                  · (try dsimp only)
                    (first | exact ck6 | exact ck12 | exact ck8 | exact ck4 | exact c0 | go_keep)
                  clear hK K hH247
                  try simp only [Act.put, List.setIfInBounds_toArray, List.set_cons_zero, List.set_cons_succ]
                  refine wpAnyH_take (i := 15) (oi := _) (v := ?v249) rfl (by kernel_rfl) (by kernel_rfl) (by kernel_rfl) (fun _ _ _ h => h) (Or.inl ⟨by rfl, ?hy249⟩) (by assumption) ?_
                  case hy249 => (intro w hSw; (try dsimp only at hSw); go_simp <;> with_reducible rfl)
                  try simp only [Act.put, List.setIfInBounds_toArray, List.set_cons_zero, List.set_cons_succ]
                  refine wpAnyH_ready (rs := [16]) (by kernel_rfl) (by simp) ?_
                  refine AllReadyH.cons (o := _) rfl (fun K hK => ?_) ?_
                  · go_simp
                    refine hK.out _ _ ?_ (fun hH250 => ?_)
                    · (try dsimp only)
                      (first | exact ck6 | exact ck12 | exact ck8 | exact ck4 | exact c0 | go_keep)
                    clear hK K hH248
                    try simp only [Act.put, List.setIfInBounds_toArray, List.set_cons_zero, List.set_cons_succ]
                    refine wpAnyH_take (i := 17) (oi := _) (v := ?v251) rfl (by kernel_rfl) (by kernel_rfl) (by kernel_rfl) (fun _ _ _ h => h) (Or.inl ⟨by rfl, ?hy251⟩) (by assumption) ?_
                    case hy251 => (intro w hSw; (try dsimp only at hSw); go_simp <;> with_reducible rfl)
                    try simp only [Act.put, List.setIfInBounds_toArray, List.set_cons_zero, List.set_cons_succ]
                    refine wpAnyH_take (i := 18) (oi := _) (v := ?v252) rfl (by kernel_rfl) (by kernel_rfl) (by kernel_rfl) (fun _ _ _ h => h) (Or.inl ⟨by rfl, ?hy252⟩) (by assumption) ?_
                    case hy252 => (intro w hSw; (try dsimp only at hSw); go_simp <;> with_reducible rfl)
                    try simp only [Act.put, List.setIfInBounds_toArray, List.set_cons_zero, List.set_cons_succ]
                    refine wpAnyH_ready (rs := [19]) (by kernel_rfl) (by simp) ?_
                    refine AllReadyH.cons (o := _) rfl (fun K hK => ?_) ?_
                    · go_simp
                      refine hK.out _ _ ?_ (fun hH253 => ?_)
                      · (try dsimp only)
                        (first | exact ck6 | exact ck12 | exact ck8 | exact ck4 | exact c0 | go_keep)
                      clear hK K hH250
                      try simp only [Act.put, List.setIfInBounds_toArray, List.set_cons_zero, List.set_cons_succ]
                      refine wpAnyH_ready (rs := [20]) (by kernel_rfl) (by simp) ?_
                      refine AllReadyH.cons (o := _) rfl (fun K hK => ?_) ?_
                      · skip
                        (with_reducible refine step_append_recs (R := itemR) ?_ (.tmp 17) (.tmp 36) ?_ w1.heap.size (w12.heap.size + 1 + 1) j cap 1 1 (some ⟨g, 0, none⟩) (some ⟨w12.heap.size + 1, 0, none⟩) d [(s, 1 + y)] ?_ ((st12.alloc _).alloc _).own ?_ (items_one1 w12 (.cells #[.int .i64 v4, .int .i64 v8, .int .i64 999999] 3) s (1 + y) hss hyI) ?_ ?_ ?_)
                        · rfl
                        · rfl
                        · rfl
                        · rfl
                        · have := st12.le; first | (simp; done) | (simp; omega) | omega
                        · omega
                        intro A6 cap6 w6 hown6 hg6 hr6 hne6
                        obtain ⟨g6, hA6, st6⟩ := ((st12.alloc _).alloc _).pushed hown6 hg6 (hne6 (by simp)) hgl hbl z1
                        have ck6 := st6.cell hs
                        clear hown6 hg6 hr6 hne6
                        refine hK.out _ _ ?_ (fun hH254 => ?_)
                        · (try dsimp only)
                          (first | exact ck6 | exact ck12 | exact ck8 | exact ck4 | exact c0 | go_keep)
                        clear hK K hH253
                        try simp only [Act.put, List.setIfInBounds_toArray, List.set_cons_zero, List.set_cons_succ]
                        refine wpAnyH_take (i := 21) (oi := _) (v := ?v255) rfl (by kernel_rfl) (by kernel_rfl) (by kernel_rfl) (fun _ _ _ h => h) (Or.inl ⟨by rfl, ?hy255⟩) (by assumption) ?_
                        case hy255 => (intro w hSw; (try dsimp only at hSw); go_simp <;> with_reducible rfl)
                        try simp only [Act.put, List.setIfInBounds_toArray, List.set_cons_zero, List.set_cons_succ]
                        refine wpAnyH_done (by kernel_rfl) ?_ _
                        refine NoPanic.normal ?_
                        go_wp2_with fail
                        go_roundw
                        case rel => exact ⟨j + 1, q12, g6, cap6, d ++ [(s, 1 + y)], by omega, by first | rfl | rw [hA6], by go_num, by omega, hdi.snoc hs13 (by omega) (by omega), st6⟩
                        case measure => simp [intOf]; omega
                      exact AllReadyH.nil
                    exact AllReadyH.nil
                  exact AllReadyH.nil
                exact AllReadyH.nil
              refine AllReadyH.cons (o := _) rfl (fun K hK => ?_) ?_
              · go_simp
                refine hK.out _ _ ?_ (fun hH256 => ?_)
                · (try dsimp only)
                  (first | exact ck6 | exact ck12 | exact ck8 | exact ck4 | exact c0 | go_keep)
                clear hK K hH245
                try simp only [Act.put, List.setIfInBounds_toArray, List.set_cons_zero, List.set_cons_succ]
                refine wpAnyH_ready (rs := [9]) (by kernel_rfl) (by simp) ?_
                refine AllReadyH.cons (o := _) rfl (fun K hK => ?_) ?_
                · go_simp
                  refine hK.out _ _ ?_ (fun hH257 => ?_)
                  · (try dsimp only)
                    (first | exact ck6 | exact ck12 | exact ck8 | exact ck4 | exact c0 | go_keep)
                  clear hK K hH256
                  try simp only [Act.put, List.setIfInBounds_toArray, List.set_cons_zero, List.set_cons_succ]
                  refine wpAnyH_take (i := 15) (oi := _) (v := ?v258) rfl (by kernel_rfl) (by kernel_rfl) (by kernel_rfl) (fun _ _ _ h => h) (Or.inl ⟨by rfl, ?hy258⟩) (by assumption) ?_
                  case hy258 => (intro w hSw; (try dsimp only at hSw); go_simp <;> with_reducible rfl)
                  try simp only [Act.put, List.setIfInBounds_toArray, List.set_cons_zero, List.set_cons_succ]
                  refine wpAnyH_ready (rs := [16]) (by kernel_rfl) (by simp) ?_
                  refine AllReadyH.cons (o := _) rfl (fun K hK => ?_) ?_
                  · go_simp
                    refine hK.out _ _ ?_ (fun hH259 => ?_)
                    · (try dsimp only)
                      (first | exact ck6 | exact ck12 | exact ck8 | exact ck4 | exact c0 | go_keep)
                    clear hK K hH257
                    try simp only [Act.put, List.setIfInBounds_toArray, List.set_cons_zero, List.set_cons_succ]
                    refine wpAnyH_take (i := 17) (oi := _) (v := ?v260) rfl (by kernel_rfl) (by kernel_rfl) (by kernel_rfl) (fun _ _ _ h => h) (Or.inl ⟨by rfl, ?hy260⟩) (by assumption) ?_
                    case hy260 => (intro w hSw; (try dsimp only at hSw); go_simp <;> with_reducible rfl)
                    try simp only [Act.put, List.setIfInBounds_toArray, List.set_cons_zero, List.set_cons_succ]
                    refine wpAnyH_take (i := 18) (oi := _) (v := ?v261) rfl (by kernel_rfl) (by kernel_rfl) (by kernel_rfl) (fun _ _ _ h => h) (Or.inl ⟨by rfl, ?hy261⟩) (by assumption) ?_
                    case hy261 => (intro w hSw; (try dsimp only at hSw); go_simp <;> with_reducible rfl)
                    try simp only [Act.put, List.setIfInBounds_toArray, List.set_cons_zero, List.set_cons_succ]
                    refine wpAnyH_ready (rs := [19]) (by kernel_rfl) (by simp) ?_
                    refine AllReadyH.cons (o := _) rfl (fun K hK => ?_) ?_
                    · go_simp
                      refine hK.out _ _ ?_ (fun hH262 => ?_)
                      · (try dsimp only)
                        (first | exact ck6 | exact ck12 | exact ck8 | exact ck4 | exact c0 | go_keep)
                      clear hK K hH259
                      try simp only [Act.put, List.setIfInBounds_toArray, List.set_cons_zero, List.set_cons_succ]
                      refine wpAnyH_ready (rs := [20]) (by kernel_rfl) (by simp) ?_
                      refine AllReadyH.cons (o := _) rfl (fun K hK => ?_) ?_
                      · skip
                        (with_reducible refine step_append_recs (R := itemR) ?_ (.tmp 17) (.tmp 36) ?_ w1.heap.size (w12.heap.size + 1 + 1) j cap 1 1 (some ⟨g, 0, none⟩) (some ⟨w12.heap.size + 1, 0, none⟩) d [(s, 1 + y)] ?_ ((st12.alloc _).alloc _).own ?_ (items_one1 w12 (.cells #[.int .i64 v4, .int .i64 v8, .int .i64 999999] 3) s (1 + y) hss hyI) ?_ ?_ ?_)
                        · rfl
                        · rfl
                        · rfl
                        · rfl
                        · have := st12.le; first | (simp; done) | (simp; omega) | omega
                        · omega
                        intro A6 cap6 w6 hown6 hg6 hr6 hne6
                        obtain ⟨g6, hA6, st6⟩ := ((st12.alloc _).alloc _).pushed hown6 hg6 (hne6 (by simp)) hgl hbl z1
                        have ck6 := st6.cell hs
                        clear hown6 hg6 hr6 hne6
                        refine hK.out _ _ ?_ (fun hH263 => ?_)
                        · (try dsimp only)
                          (first | exact ck6 | exact ck12 | exact ck8 | exact ck4 | exact c0 | go_keep)
                        clear hK K hH262
                        try simp only [Act.put, List.setIfInBounds_toArray, List.set_cons_zero, List.set_cons_succ]
                        refine wpAnyH_take (i := 21) (oi := _) (v := ?v264) rfl (by kernel_rfl) (by kernel_rfl) (by kernel_rfl) (fun _ _ _ h => h) (Or.inl ⟨by rfl, ?hy264⟩) (by assumption) ?_
                        case hy264 => (intro w hSw; (try dsimp only at hSw); go_simp <;> with_reducible rfl)
                        try simp only [Act.put, List.setIfInBounds_toArray, List.set_cons_zero, List.set_cons_succ]
                        refine wpAnyH_done (by kernel_rfl) ?_ _
                        refine NoPanic.normal ?_
                        go_wp2_with fail
                        go_roundw
                        case rel => exact ⟨j + 1, q12, g6, cap6, d ++ [(s, 1 + y)], by omega, by first | rfl | rw [hA6], by go_num, by omega, hdi.snoc hs13 (by omega) (by omega), st6⟩
                        case measure => simp [intOf]; omega
                      exact AllReadyH.nil
                    exact AllReadyH.nil
                  exact AllReadyH.nil
                exact AllReadyH.nil
              exact AllReadyH.nil
            exact AllReadyH.nil
          exact AllReadyH.nil
        exact AllReadyH.nil
      exact AllReadyH.nil
    · obtain rfl : j = nl := by omega
      go_wp2_with fail
      refine (odd_any b q _ _ st.got.rd (by omega) (by omega) (by omega)).mono ?_
      rintro e w6 ⟨v6, rfl, -, hd6⟩
      obtain ⟨q6, hq6a, hq6b, st6⟩ := st.step hd6 hbl z1
      clear hd6 st
      cases v6
      · go_wp2_with fail
        go_ret
        exact ⟨g, j, cap, d, rfl, st6.own.mono z1, by omega, hdi, st6.got.done (by omega)⟩
      · go_wp2_with fail
        refine (pick_any b q6 _ _ st6.got.rd (by omega) (by omega)).mono ?_
        rintro e w7 ⟨v7, rfl, h70, h71, -, hd7⟩
        have h71 := h71 (by omega)
        obtain ⟨q7, hq7a, hq7b, st7⟩ := st6.step hd7 hbl z1
        clear hd7 st6
        rcases (show v7 = 0 ∨ v7 = 1 ∨ v7 = 2 by omega) with rfl | rfl | rfl
        · go_wp2_with (first
            | (at_builtin
               refine wp_append_recs (R := itemR) rfl (.tmp 49) (.tmp 51) rfl w1.heap.size (w7.heap.size + 1) j cap 1 1 (some ⟨g, 0, none⟩) (some ⟨w7.heap.size, 0, none⟩) d [((ByteArray.mk #[122, 122, 122, 122]), 0)] rfl (st7.alloc _).own rfl (items_one w7 (ByteArray.mk #[122, 122, 122, 122]) 0 (by decide) (by unfold I64; omega)) (by have := st7.le; simp; omega) (by omega) ?_
               intro A6 cap6 w8 hown6 hg6 hr6 hne6
               obtain ⟨g6, rfl, st8⟩ := (st7.alloc _).pushed hown6 hg6 (hne6 (by simp)) hgl hbl z1))
          go_ret
          exact ⟨g6, j + 1, cap6, _, rfl, st8.own.mono z1, by omega, hdi.snoc (by decide) (by omega) (by omega), st8.got.done (by omega)⟩
        · go_wp2_with (first
            | (at_builtin
               refine wp_append_recs (R := itemR) rfl (.tmp 55) (.tmp 58) rfl w1.heap.size (w7.heap.size + 1) j cap 2 2 (some ⟨g, 0, none⟩) (some ⟨w7.heap.size, 0, none⟩) d [((ByteArray.mk #[97]), 1), ((ByteArray.mk #[97]), 1)] rfl (st7.alloc _).own rfl (items_two w7 (ByteArray.mk #[97]) (ByteArray.mk #[97]) 1 1 (by decide) (by decide) (by unfold I64; omega) (by unfold I64; omega)) (by have := st7.le; simp; omega) (by omega) ?_
               intro A6 cap6 w8 hown6 hg6 hr6 hne6
               obtain ⟨g6, rfl, st8⟩ := (st7.alloc _).pushed hown6 hg6 (hne6 (by simp)) hgl hbl z1))
          go_ret
          exact ⟨g6, j + 2, cap6, _, rfl, st8.own.mono z1, by omega, (by have h1 := (hdi.snoc (s := (ByteArray.mk #[97])) (x := 1) (by decide) (by omega) (by omega)).snoc (s := (ByteArray.mk #[97])) (x := 1) (by decide) (by omega) (by omega); rw [List.append_assoc] at h1; exact h1), st8.got.done (by omega)⟩
        · go_wp2_with (first
            | (at_builtin
               refine wp_append_recs (R := itemR) rfl (.tmp 43) (.tmp 45) rfl w1.heap.size (w7.heap.size + 1) j cap 1 1 (some ⟨g, 0, none⟩) (some ⟨w7.heap.size, 0, none⟩) d [((ByteArray.mk #[122, 122, 122, 122]), 1000001)] rfl (st7.alloc _).own rfl (items_one w7 (ByteArray.mk #[122, 122, 122, 122]) 1000001 (by decide) (by unfold I64; omega)) (by have := st7.le; simp; omega) (by omega) ?_
               intro A6 cap6 w8 hown6 hg6 hr6 hne6
               obtain ⟨g6, rfl, st8⟩ := (st7.alloc _).pushed hown6 hg6 (hne6 (by simp)) hgl hbl z1))
          go_ret
          exact ⟨g6, j + 1, cap6, _, rfl, st8.own.mono z1, by omega, hdi.snoc (by decide) (by omega) (by omega), st8.got.done (by omega)⟩
end Go.Proofs.Ytopjhdgpdcdklaa
