/- All empty steps followed from a set of states: what the call returns; nothing that was there turns. Conditions: the machine lies in memory. -/
import Derived.Test.YtdmajbdgjjmlkaaLon
import Derived.Deep.RegionHeld3
namespace Go.Proofs.Ytdmajbdgjjmlkaa
open Go.RowKit
set_option linter.unusedVariables false
set_option linter.unusedSimpArgs false

theorem plc_inj {P Q : Nat} (hP : P < topN) (hQ : Q < topN) (h : plc P = plc Q) : P = Q := by
  unfold plc at h
  simp at h
  obtain ⟨h0, h1, h2, h3, h4⟩ := h
  exact plc_ext hP hQ (by omega) (by omega) (by omega) (by omega) (by omega)
open Classical in
noncomputable def curOf (X : Nat) (w : World) : Nat := if h : ∃ P, P < topN ∧ w.heap[X]? = some (.cells (plc P) 57 (0, 0)) then h.choose else 0
theorem curOf_eq {X : Nat} {w : World} {P : Nat} (hP : P < topN) (h : w.heap[X]? = some (.cells (plc P) 57 (0, 0))) : curOf X w = P := by
  have hex : ∃ P, P < topN ∧ w.heap[X]? = some (.cells (plc P) 57 (0, 0)) := ⟨P, hP, h⟩
  unfold curOf
  rw [dif_pos hex]
  obtain ⟨h1, h2⟩ := hex.choose_spec
  have h3 := h2.symm.trans h
  generalize hex.choose = Q at *
  exact plc_inj h1 hP (congrArg (fun o => match o with | some (Obj.cells c _ _) => c | _ => #[]) h3)
attribute [local go_sem ↓] neq57_pre
attribute [local go_sem] neq57_run
set_option maxRecDepth 100000 in
set_option maxHeartbeats 4000000 in
theorem followed_any (n0 p : Nat) (M : Mac) (w : World) (h : IsM n0 p M w) (hok : OkS M.sts) (hlo : Lo M.sts) (hlen : M.sts.length ≤ 257) (h0 : 0 < M.sts.length) (P0 : Nat) (hP0 : P0 < topN) :
    Calls Try.prog 47 #[.pointer (some ⟨p, 0, none⟩), .agg (plc P0)] w fun e w' => e = .returned (.agg (plc (fol M.sts P0))) ∧ Below w.heap.size w w' := by
  obtain ⟨X, hX⟩ : ∃ X, X = w.heap.size := ⟨_, rfl⟩
  have hzz : w.heap.size = X := hX.symm
  obtain ⟨g, cap, hc, hg, hst⟩ := h.open_ h0
  have hpX : p < X := by rw [hX]; exact block_lt' hc
  have hgX : g < X := by rw [hX]; exact hg
  have st0 : ∀ o2, ((w.alloc (.cells (plc P0) 57)).alloc o2).heap[X]? = some (.cells (plc P0) 57 (0, 0)) ∧ ((w.alloc (.cells (plc P0) 57)).alloc o2).heap[X + 1]? = some o2 ∧ Below X w ((w.alloc (.cells (plc P0) 57)).alloc o2) := fun o2 => by
    have e1 := heap_alloc_new w (.cells (plc P0) 57)
    have e2 := heap_alloc_new (w.alloc (.cells (plc P0) 57)) o2
    have s2 : (w.alloc (.cells (plc P0) 57)).heap.size = X + 1 := by rw [hX]; simp
    rw [s2] at e2
    refine ⟨?_, e2, ?_⟩
    · rw [Below.heap_alloc _ o2 X (by rw [s2]; omega), hX]; exact e1
    · rw [hX]; exact below_trans (below_new w _) (below_new _ _)
  have HAS := Lib.hid (fun P i (hi : i < 320) w => phas_any P i hi w)
  have OR := Lib.hid por_any
  have EM := Lib.hid (fun w o x hs => isEmpty_any w g o x hs)
  unfold plc at HAS OR
  obtain ⟨L, beg⟩ := M
  dsimp only at *
  obtain ⟨T, hT⟩ : ∃ T, T = fol L P0 := ⟨_, rfl⟩
  rw [← hT]
  have c0 : Hid (∀ wr, Below X w wr → wr.cell? ⟨p, 0, none⟩ = some (.slice (some ⟨g, 0, none⟩) L.length cap)) := Lib.hid fun wr hb => by
    rw [hb.cell (p := ⟨p, 0, none⟩) hpX]; exact cell_at hc rfl
  have HST : Hid (∀ wr j x, Below X w wr → L[j]? = some x → StaAt wr g (j * 9) x) := Lib.hid fun wr j x hb hx k u hu => by
    rw [hb.cell (p := ⟨g, j * 9 + k, none⟩) hgX]; exact hst j x hx k u hu
  have HP := Lib.hid (And.intro hlo (And.intro hlen (And.intro hpX hgX)))
  have ST0 := Lib.hid st0
  have hLi : (L.length : Int) ≤ 257 := by omega
  have HT : Hid (fol L P0 = T) := Lib.hid hT.symm
  have HP0 := Lib.hid hP0
  have HZZ : Hid (w.heap.size = X) := Lib.hid hzz
  rw [hzz]
  clear h hok hlo hlen h0 hX hc hg hst hgX st0 hT hP0
  go_enter Try.func47, Try.ntmps47
  go_wp2
  refine wp_scope_straight ?_
  go_wp2
  refine wp_label ?_
  go_wp2
  go_loopw [12] (fun i wr => ∃ cur : Nat, cur < topN ∧ wr.heap[X]? = some (.cells (plc cur) 57 (0, 0)) ∧ wr.heap[X + 1]? = some (.cells #[.int .u64 0, .int .u64 0, .int .u64 0, .int .u64 0, .int .u64 0] 57 (0, 0)) ∧ Below X w wr ∧ Hid (fol L cur = T)) (fun _ wr => topN - curOf X wr)
  case atStart =>
    obtain ⟨a1, a2, a3⟩ := ST0.out (.cells #[.int .u64 0, .int .u64 0, .int .u64 0, .int .u64 0, .int .u64 0] 57)
    exact ⟨P0, HP0.out, a1, a2, a3, HT⟩
  case round =>
    obtain ⟨cur, hcur, hx, hy, hbl, hT⟩ := hrel
    have c0r := c0.out _ hbl
    have HX := Lib.hid hx
    have HY := Lib.hid hy
    have HB := Lib.hid hbl
    have HM : Hid (curOf X wr = cur) := Lib.hid (curOf_eq hcur hx)
    have HCUR := Lib.hid hcur
    clear hx hy hbl
    rw [HM.out]
    generalize wr = wo at *
    go_wp2
    have HT := hT
    clear hT
    go_loopw [12] (fun i wr => ∃ j : Nat, j ≤ L.length ∧ i = .int .i64 (j : Nat) ∧ wr.heap[X]? = some (.cells (plc cur) 57 (0, 0)) ∧ wr.heap[X + 1]? = some (.cells #[.int .u64 0, .int .u64 0, .int .u64 0, .int .u64 0, .int .u64 0] 57 (0, 0)) ∧ Below X w wr ∧ Hid (folStep cur (L.drop j) j = folStep cur L 0)) (fun i _ => L.length - (intOf i).toNat)
    case atStart => exact ⟨0, Nat.zero_le _, rfl, HX.out, HY.out, HB.out, Lib.hid rfl⟩
    case round =>
      obtain ⟨j, hj, rfl, hx, hy, hbl, hS⟩ := hrel
      have c0w := c0.out _ hbl
      have NX : Hid (∀ w1, Below wr.heap.size wr w1 → w1.heap[X]? = some (.cells (plc cur) 57 (0, 0)) ∧ w1.heap[X + 1]? = some (.cells #[.int .u64 0, .int .u64 0, .int .u64 0, .int .u64 0, .int .u64 0] 57 (0, 0)) ∧ Below X w w1) := Lib.hid fun w1 hb =>
        ⟨(hb.block _ (block_lt' hx)).trans hx, (hb.block _ (block_lt' hy)).trans hy, hbl.trans (hb.mono (by have := hbl.size; have := HZZ.out; omega))⟩
      by_cases hlt : j < L.length
      · have hji : (j : Int) < (L.length : Int) := by omega
        have hxj : L[j]? = some L[j] := List.getElem?_eq_getElem hlt
        have hd := List.drop_eq_getElem_cons hlt
        have hnx : Hid (L[j].nx < topN) := Lib.hid (HP.out.1 _ (List.getElem_mem hlt))
        generalize L[j] = x at *
        have hs2 : (if cur.testBit j = true ∧ x.empty = true ∧ cur ||| x.nx ≠ cur then some (cur ||| x.nx) else folStep cur (L.drop (j + 1)) (j + 1)) = folStep cur L 0 := by
          rw [← hS.out, hd, folStep]
        have hj320 : j < 320 := by have := HP.out.2.1; omega
        obtain ⟨a0, a1, a2, a3, a4, af⟩ := plc_at hx
        have HA := Lib.hid (HAS.out cur j hj320)
        have HXJ := Lib.hid hxj
        have HLT := Lib.hid hlt
        have HBL := Lib.hid hbl
        clear hxj hd hS hj hlt hx hy hbl hj320 af
        cases hb1 : cur.testBit j with
        | false =>
          rw [hb1] at HA
          rw [if_neg (by rw [hb1]; simp)] at hs2
          have HS2 := Lib.hid hs2
          clear hs2 hb1
          go_wp2_with (go_at_call 35; (with_reducible refine (HA.out _).mono ?_); rintro e w1 ⟨rfl, hb1⟩; obtain ⟨x1, y1, bl1⟩ := NX.out _ hb1)
          exact ⟨⟨j + 1, HLT.out, by go_num, x1, y1, bl1, HS2⟩, by simp [intOf]; omega⟩
        | true =>
          rw [hb1] at HA
          have EJ : Hid (∀ w1, Below X w w1 → Calls Try.prog 60 #[.pointer (some ⟨g, j * 9, none⟩)] w1 fun e w' => e = .returned (.bool x.empty) ∧ w' = w1) := Lib.hid fun w1 hb => EM.out w1 (j * 9) x (HST.out w1 j x hb HXJ.out)
          cases he : x.empty with
          | false =>
            rw [he] at EJ
            rw [if_neg (by rw [he]; simp)] at hs2
            have HS2 := Lib.hid hs2
            clear hs2 hb1 he
            go_wp2_with (first
              | (go_at_call 35; (with_reducible refine (HA.out _).mono ?_); rintro e w1 ⟨rfl, hb1⟩; obtain ⟨x1, y1, bl1⟩ := NX.out _ hb1; have c1 := c0.out _ bl1)
              | (go_at_call 60; (with_reducible refine (EJ.out _ bl1).mono ?_); rintro e w2 ⟨rfl, rfl⟩))
            exact ⟨⟨j + 1, HLT.out, by go_num, x1, y1, bl1, HS2⟩, by simp [intOf]; omega⟩
          | true =>
            rw [he] at EJ
            have hs3 : (if cur ||| x.nx ≠ cur then some (cur ||| x.nx) else folStep cur (L.drop (j + 1)) (j + 1)) = folStep cur L 0 := by
              rw [← hs2]
              by_cases q : cur ||| x.nx ≠ cur
              · rw [if_pos q, if_pos ⟨hb1, he, q⟩]
              · rw [if_neg q, if_neg (by rintro ⟨_, _, q'⟩; exact q q')]
            have HS3 := Lib.hid hs3
            clear hs2 hs3 hb1 he
            go_wp2_with (first
              | (go_at_call 35; (with_reducible refine (HA.out _).mono ?_); rintro e w1 ⟨rfl, hb1⟩; obtain ⟨x1, y1, bl1⟩ := NX.out _ hb1; have c1 := c0.out _ bl1)
              | (go_at_call 60; (with_reducible refine (EJ.out _ bl1).mono ?_); rintro e w2 ⟨rfl, rfl⟩))
            obtain ⟨I, hI⟩ : ∃ I : World → Prop, I = fun wa => Below wr.heap.size wr wa := ⟨_, rfl⟩
            have I0 : I w2 := by rw [hI]; exact hb1
            have ID1 : Hid (∀ wa, I wa → I wa.drew) := Lib.hid (by rw [hI]; exact fun wa h => h.drew)
            have IS : Hid (∀ wa wb, I wa → Below wa.heap.size wa wb → I wb) := Lib.hid (by rw [hI]; exact fun wa wb h g => h.trans (g.mono h.size))
            have IC : Hid (∀ wa, I wa → ((wa.cell? ⟨X, 0, none⟩ = some (.int .u64 (pw cur 0 : Nat)) ∧ wa.cell? ⟨X, 1, none⟩ = some (.int .u64 (pw cur 1 : Nat)) ∧ wa.cell? ⟨X, 2, none⟩ = some (.int .u64 (pw cur 2 : Nat)) ∧ wa.cell? ⟨X, 3, none⟩ = some (.int .u64 (pw cur 3 : Nat)) ∧ wa.cell? ⟨X, 4, none⟩ = some (.int .u64 (pw cur 4 : Nat))) ∧ wa.cell? ⟨p, 0, none⟩ = some (.slice (some ⟨g, 0, none⟩) L.length cap) ∧
                wa.cell? ⟨g, j * 9 + 4, none⟩ = some (.int .u64 (pw x.nx 0 : Nat)) ∧ wa.cell? ⟨g, j * 9 + 4 + 1, none⟩ = some (.int .u64 (pw x.nx 1 : Nat)) ∧ wa.cell? ⟨g, j * 9 + 4 + 2, none⟩ = some (.int .u64 (pw x.nx 2 : Nat)) ∧ wa.cell? ⟨g, j * 9 + 4 + 3, none⟩ = some (.int .u64 (pw x.nx 3 : Nat)) ∧ wa.cell? ⟨g, j * 9 + 4 + 4, none⟩ = some (.int .u64 (pw x.nx 4 : Nat)))) := Lib.hid (by
              rw [hI]
              intro wa hb
              obtain ⟨x1, y1, bl1⟩ := NX.out _ hb
              obtain ⟨b0, b1, b2, b3, b4, -⟩ := plc_at x1
              have S2 := HST.out wa j x bl1 HXJ.out
              exact ⟨⟨b0, b1, b2, b3, b4⟩, c0.out _ bl1, S2 4 _ rfl, S2 5 _ rfl, S2 6 _ rfl, S2 7 _ rfl, S2 8 _ rfl⟩)
            have IA : Hid (∀ wa o, I wa → I (wa.alloc o)) := Lib.hid (by rw [hI]; exact fun wa o h => h.trans ((below_new wa o).mono h.size))
            have NC : Hid (∀ wa wb, Below (World.alloc wa (.cells #[.int .u64 0, .int .u64 0, .int .u64 0, .int .u64 0, .int .u64 0] 57)).drew.heap.size (World.alloc wa (.cells #[.int .u64 0, .int .u64 0, .int .u64 0, .int .u64 0, .int .u64 0] 57)).drew wb → wb.heap[wa.heap.size]? = some (.cells (plc 0) 57 (0, 0))) := Lib.hid fun wa wb hb => by
              rw [hb.block _ (by simp), plc_zero]; exact heap_alloc_new wa _
            have IP : Hid (∀ wa a b c d e, I wa → I (((((wa.setCell ⟨w2.heap.size, 0, none⟩ a).setCell ⟨w2.heap.size, 1, none⟩ b).setCell ⟨w2.heap.size, 2, none⟩ c).setCell ⟨w2.heap.size, 3, none⟩ d).setCell ⟨w2.heap.size, 4, none⟩ e)) := Lib.hid (by
              have hs := hb1.size
              rw [hI]; exact fun wa a b c d e h => below5 h hs _ _ _ _ _)
            have HII : Hid (∀ wa, I wa → Below wr.heap.size wr wa) := Lib.hid (by rw [hI]; exact fun _ h => h)
            obtain ⟨⟨b0, b1, b2, b3, b4⟩, c2, g4, g5, g6, g7, g8⟩ := IC.out _ I0
            have OX := Lib.hid (OR.out cur x.nx)
            clear x1 y1 bl1 c1 hb1 a0 a1 a2 a3 a4 c0r c0w hI
            go_region_held3 (fun wa => ((wa.cell? ⟨X, 0, none⟩ = some (.int .u64 (pw cur 0 : Nat)) ∧ wa.cell? ⟨X, 1, none⟩ = some (.int .u64 (pw cur 1 : Nat)) ∧ wa.cell? ⟨X, 2, none⟩ = some (.int .u64 (pw cur 2 : Nat)) ∧ wa.cell? ⟨X, 3, none⟩ = some (.int .u64 (pw cur 3 : Nat)) ∧ wa.cell? ⟨X, 4, none⟩ = some (.int .u64 (pw cur 4 : Nat))) ∧ wa.cell? ⟨p, 0, none⟩ = some (.slice (some ⟨g, 0, none⟩) L.length cap) ∧
                wa.cell? ⟨g, j * 9 + 4, none⟩ = some (.int .u64 (pw x.nx 0 : Nat)) ∧ wa.cell? ⟨g, j * 9 + 4 + 1, none⟩ = some (.int .u64 (pw x.nx 1 : Nat)) ∧ wa.cell? ⟨g, j * 9 + 4 + 2, none⟩ = some (.int .u64 (pw x.nx 2 : Nat)) ∧ wa.cell? ⟨g, j * 9 + 4 + 3, none⟩ = some (.int .u64 (pw x.nx 3 : Nat)) ∧ wa.cell? ⟨g, j * 9 + 4 + 4, none⟩ = some (.int .u64 (pw x.nx 4 : Nat))) ∧ I wa)
              (first | (with_reducible exact ⟨IC.out _ (ID1.out _ I0), ID1.out _ I0⟩) | (with_reducible exact ⟨IC.out _ i3, i3⟩) | (with_reducible exact ⟨IC.out _ (IA.out _ _ i3), IA.out _ _ i3⟩) | (with_reducible exact ⟨IC.out _ (ID1.out _ (IA.out _ _ I0)), ID1.out _ (IA.out _ _ I0)⟩) | (with_reducible exact ⟨IC.out _ (IP.out _ _ _ _ _ _ i3), IP.out _ _ _ _ _ _ i3⟩))
              (first | (go_at_call 49; (with_reducible refine (OX.out _).mono ?_); rintro e w3 ⟨rfl, hb3⟩; first | (have i3 := (by with_reducible exact IS.out _ _ (ID1.out _ I0) hb3 : I w3); clear hb3) | (have i3 := IS.out _ _ (ID1.out _ (IA.out _ _ I0)) hb3; have y3 := NC.out _ _ hb3; clear hb3; obtain ⟨y0, y1, y2, y3', y4, yf⟩ := plc_at (P := 0) y3)))
            · obtain ⟨W6, hW6⟩ : ∃ W6, W6 = w3.alloc (.cells (plc (cur ||| x.nx)) 57) := ⟨_, rfl⟩
              have hW6' := hW6
              unfold plc at hW6'
              rw [← hW6']
              have iW : I W6 := by rw [hW6]; exact IA.out _ _ i3
              have yW : W6.heap[w3.heap.size]? = some (.cells (plc (cur ||| x.nx)) 57 (0, 0)) := by rw [hW6]; exact heap_alloc_new w3 _
              have iW' := iW
              have bW := HII.out _ iW
              obtain ⟨x6, y6, bl6⟩ := NX.out _ bW
              obtain ⟨z0, z1, z2, z3, z4, z5⟩ := IC.out _ iW
              obtain ⟨q0, q1, q2, q3, q4, -⟩ := plc_at yW
              obtain ⟨-, -, -, -, -, xf⟩ := plc_at x6
              have hm : cur ||| x.nx < topN := topN_or hcur hnx.out
              have h3 := HS3.out
              generalize cur ||| x.nx = m at *
              have X6 := Lib.hid x6
              have Y6 := Lib.hid y6
              have B6 := Lib.hid bl6
              have I6 := Lib.hid iW
              clear iW iW' bW x6 y6 bl6 yW hW6 hW6' i3 b0 b1 b2 b3 b4 c2 g4 g5 g6 g7 g8
              by_cases hme : m = cur
              · subst hme
                rw [if_neg (by simp)] at h3
                have HS4 := Lib.hid h3
                clear h3
                go_wp2
                exact ⟨⟨j + 1, HLT.out, by go_num, X6.out, Y6.out, B6.out, HS4⟩, by simp [intOf]; omega⟩
              · rw [if_pos hme] at h3
                obtain ⟨f1, f2, f3⟩ := fol_some HP.out.1 HCUR.out h3.symm
                have HF := Lib.hid (And.intro f1 (And.intro f2 f3))
                clear h3 f1 f2 f3
                go_wp2
                refine ⟨⟨m, hm, put5_row X6.out, (put5_other (by omega)).trans Y6.out, put5_below B6.out (Nat.le_refl _), Lib.hid (by rw [← HF.out.1]; exact HT.out)⟩, ?_⟩
                have e9 : curOf X (put5 W6 X m) = m := curOf_eq hm (put5_row X6.out)
                show topN - curOf X (put5 W6 X m) < topN - cur
                rw [e9]
                have := HF.out
                omega
            · obtain ⟨W6, hW6⟩ : ∃ W6, W6 = put5 w3 w2.heap.size (cur ||| x.nx) := ⟨_, rfl⟩
              have hW6' := hW6
              unfold put5 at hW6'
              rw [← hW6']
              have iW : I W6 := by rw [hW6]; exact IP.out _ _ _ _ _ _ i3
              have yW : W6.heap[w2.heap.size]? = some (.cells (plc (cur ||| x.nx)) 57 (0, 0)) := by rw [hW6]; exact put5_row y3
              clear y3 y0 y1 y2 y3' y4 yf
              have iW' := iW
              have bW := HII.out _ iW
              obtain ⟨x6, y6, bl6⟩ := NX.out _ bW
              obtain ⟨z0, z1, z2, z3, z4, z5⟩ := IC.out _ iW
              obtain ⟨q0, q1, q2, q3, q4, -⟩ := plc_at yW
              obtain ⟨-, -, -, -, -, xf⟩ := plc_at x6
              have hm : cur ||| x.nx < topN := topN_or hcur hnx.out
              have h3 := HS3.out
              generalize cur ||| x.nx = m at *
              have X6 := Lib.hid x6
              have Y6 := Lib.hid y6
              have B6 := Lib.hid bl6
              have I6 := Lib.hid iW
              clear iW iW' bW x6 y6 bl6 yW hW6 hW6' i3 b0 b1 b2 b3 b4 c2 g4 g5 g6 g7 g8
              by_cases hme : m = cur
              · subst hme
                rw [if_neg (by simp)] at h3
                have HS4 := Lib.hid h3
                clear h3
                go_wp2
                exact ⟨⟨j + 1, HLT.out, by go_num, X6.out, Y6.out, B6.out, HS4⟩, by simp [intOf]; omega⟩
              · rw [if_pos hme] at h3
                obtain ⟨f1, f2, f3⟩ := fol_some HP.out.1 HCUR.out h3.symm
                have HF := Lib.hid (And.intro f1 (And.intro f2 f3))
                clear h3 f1 f2 f3
                go_wp2
                refine ⟨⟨m, hm, put5_row X6.out, (put5_other (by omega)).trans Y6.out, put5_below B6.out (Nat.le_refl _), Lib.hid (by rw [← HF.out.1]; exact HT.out)⟩, ?_⟩
                have e9 : curOf X (put5 W6 X m) = m := curOf_eq hm (put5_row X6.out)
                show topN - curOf X (put5 W6 X m) < topN - cur
                rw [e9]
                have := HF.out
                omega
      · have hjl : j = L.length := by omega
        subst hjl
        have hfin : Hid (cur = T) := Lib.hid (by
          have h9 : folStep cur L 0 = none := by rw [← hS.out, List.drop_length, folStep]
          rw [← HT.out, fol_none HP.out.1 HCUR.out h9])
        obtain ⟨a0, a1, a2, a3, a4, -⟩ := plc_at hx
        obtain ⟨r0, r1, r2, r3, r4, rf⟩ := plc_at (P := 0) (by rw [plc_zero]; exact hy)
        have HB9 := Lib.hid hbl
        clear hx hy hbl hS hj hlt
        go_wp2
        rw [Exit.noGoto_ret]
        refine bodyPost_ret (v := .agg (plc T)) (by simp [results, Try.results47, go_sem, r0, r1, r2, r3, r4, plc, hfin.out]) rfl ⟨rfl, ?_⟩
        exact put5_below (P := cur) HB9.out (by omega)
end Go.Proofs.Ytdmajbdgjjmlkaa
