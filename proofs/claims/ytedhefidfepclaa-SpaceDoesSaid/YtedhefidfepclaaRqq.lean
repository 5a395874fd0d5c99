/- Every call on a space and on its clones against the document's. Conditions: no list is longer than a machine holds. -/
import Derived.Test.YtedhefidfepclaaRqp
import Derived.Test.YtedhefidfepclaaArh
namespace Go.Proofs.Ytedhefidfepclaa
open Go.RowKit Go.Maps
set_option linter.unusedVariables false
set_option linter.unusedSimpArgs false

set_option maxRecDepth 100000 in
set_option maxHeartbeats 8000000 in
theorem sdoes_yes (w : World) (G : Nat → Prop) (v v1 : Value) (ps : List Pg) (ht : TabV G w v ps) (hok : okL ps) (G1 : Nat → Prop) (os : List Opn) (h1 : OpsV G1 w v1 os) (hos : ∀ x ∈ os, In64 x.on ∧ In64 x.a ∧ x.s.size ≤ 140737488351232) (l1 : os.length ≤ 4398046511103) :
    Calls Try.prog 3 #[v, v1] w fun e w' => e = .returned (.bool true) ∧ Below w.heap.size w w' := by
  obtain ⟨q1, cap1, rfl⟩ := h1.len
  obtain ⟨ns, hns⟩ : ∃ ns, ns = nsP ps := ⟨_, rfl⟩
  have K7 : Hid (Calls Try.prog 7 #[v] w fun e w2 => ∃ p, e = .returned (.tuple #[.pointer (some ⟨p, 0, none⟩), .int .i64 0]) ∧ Hid (Calls Try.prog 8 #[v] w2 fun e w3 => ∃ y, e = .returned (.tuple #[.pointer (some ⟨y, 0, none⟩), .int .i64 0]) ∧
      Hid (∃ own R, Stt w.heap.size 0 ns w ((w3.alloc (.cells #[.pointer (some ⟨p, 0, none⟩)] 24)).alloc (.cells #[.pointer (some ⟨y, 0, none⟩)] 28)) (.slice (some ⟨w3.heap.size, 0, none⟩) 1 1) (.slice (some ⟨w3.heap.size + 1, 0, none⟩) 1 1) own R))) := Lib.hid (by
    refine (snew_any w G v ps ht hok).mono fun e w2 ⟨s, x1, x2, x3, x4, x5⟩ => ⟨s.p, x1, Lib.hid ?_⟩
    refine (qnew_any w2 G v ps (ht.below x3) hok).mono fun e w3 ⟨q, y1, y2, y3, y4, y5, y6, y7⟩ => ⟨q.y, y1, Lib.hid ?_⟩
    rw [hns]
    obtain ⟨own, hS⟩ := Stt.init x2 x3 x4 x5 y2 y3 y4 y5 y6 y7
    exact ⟨own, _, hS⟩)
  have hns1 : 1 ≤ ns.length := by rw [hns, nsP_len]; exact hok.1
  have KF : Hid (∀ W, Below w.heap.size w W → Calls Try.prog 9 #[] W fun e w' => e = .returned (.bool true) ∧ Below w.heap.size w w') := Lib.hid fun W hW =>
    (fixed_any W).mono fun e w' ⟨h1, h2⟩ => ⟨h1, hW.trans (h2.mono hW.size)⟩
  obtain ⟨N, hN⟩ : ∃ N, N = os.length := ⟨_, rfl⟩
  have HI : Hid (∀ k, k < N → In64 (os.getD k o00).on ∧ In64 (os.getD k o00).a ∧ (os.getD k o00).s.size ≤ 140737488351232) := Lib.hid fun k hk => hos _ (by
    rw [hN] at hk
    rw [List.getD_eq_getElem?_getD, List.getElem?_eq_getElem hk]; exact List.getElem_mem _)
  rw [← hN] at h1 l1 ⊢
  have HO := Lib.hid h1
  clear h1 hN hos ht hok hns
  go_enter Try.func3, Try.ntmps3
  go_wp2_with (first
    | (go_at_call 7; refine K7.out.mono ?_; rintro e w2 ⟨p, rfl, H2⟩)
    | (go_at_call 8; refine H2.out.mono ?_; rintro e w3 ⟨y, rfl, H3⟩))
  clear K7 H2
  go_loopw [9, 10, 11] (fun a b i wr => ∃ (k : Nat) (R : List Rec) (own : Nat → Nat), k ≤ N ∧ i = .int .i64 (k : Int) ∧ Stt w.heap.size k ns w wr a b own R) (fun _ _ i _ => N - (RowKit.intOf i).toNat)
  case atStart =>
    obtain ⟨own, R, hS⟩ := H3.out
    exact ⟨0, R, own, Nat.zero_le _, rfl, hS⟩
  case round =>
    obtain ⟨k, R, own, hk, rfl, hT⟩ := hrel
    by_cases a : k < N
    · have aI : (k : Int) < (N : Int) := by omega
      have aI0 : (0 : Int) ≤ (k : Int) := by omega
      obtain ⟨g, oo, rfl, glt, c0, c1, c2, c3, c4, c5⟩ := HO.out.at hT.bel a
      obtain ⟨i64, a64, hsz⟩ := HI.out k a
      generalize (os.getD k o00).on = on at *
      generalize (os.getD k o00).kd = kd at *
      generalize (os.getD k o00).pt = pt at *
      generalize (os.getD k o00).a = oa at *
      generalize (os.getD k o00).b = ob at *
      generalize (os.getD k o00).s = m at *
      obtain ⟨wo, hwo⟩ : ∃ wo, wo = wr.alloc (.cells #[.int .i64 on, .int .i64 kd, .int .i64 pt, .int .i64 oa, .int .i64 ob, .string m] 35) := ⟨_, rfl⟩
      have hbo : Below wr.heap.size wr wo := by rw [hwo]; exact (Below.refl _ wr).alloc (Nat.le_refl _) _
      have hrow : wo.heap[wr.heap.size]? = some (.cells #[.int .i64 on, .int .i64 kd, .int .i64 pt, .int .i64 oa, .int .i64 ob, .string m] 35 (0, 0)) := by rw [hwo]; exact block_new _ _
      have hwsz : wo.heap.size = wr.heap.size + 1 := by rw [hwo, World.size_alloc]
      obtain ⟨j, hjd⟩ : ∃ j, j = plc on R.length := ⟨_, rfl⟩
      have hj : j < R.length := by rw [hjd]; exact plc_lt _ _ hT.pos
      have kP : ∀ W, Calls Try.prog 10 #[.int .i64 on, .int .i64 (R.length : Int)] W fun e w' => e = .returned (.int .i64 (j : Nat)) ∧ W = w' := fun W => by
        rw [hjd]; exact place_any on R.length i64 hT.pos (by have := hT.le; omega) W
      clear hjd
      obtain ⟨gx, cx, gy, cy, rfl, rfl, cX, cY⟩ := hT.at hj
      obtain ⟨_, _, cXo, cYo⟩ := (hT.below hbo).at2 hj
      have jI : (j : Int) < (R.length : Int) := by omega
      have j0 : (0 : Int) ≤ (j : Int) := by omega
      have gxo : own gx = 3 := hT.xo gx rfl
      have gyo : own gy = 3 := hT.yo gy rfl
      have obo : own wr.heap.size = 0 := Decidable.byContradiction fun e => by have := (hT.dom wr.heap.size e).2; omega
      have gxl : gx < wo.heap.size := by have := (rown_ty hT.x gx rfl).1.lt; omega
      have gyl : gy < wo.heap.size := by have := (rown_ty hT.y gy rfl).1.lt; omega
      have keeps : ∀ W' : World, W'.heap = wo.heap → ∀ W2 : World, (∀ b, b < W'.heap.size → own b ≠ 2 * j + 4 → own b ≠ 2 * j + 5 → W2.heap[b]? = W'.heap[b]?) → W2.cell? ⟨gx, j, none⟩ = some (.pointer (some ⟨(R.getD j r00).s.p, 0, none⟩)) ∧ W2.cell? ⟨gy, j, none⟩ = some (.pointer (some ⟨(R.getD j r00).q.y, 0, none⟩)) ∧ W2.cell? ⟨wr.heap.size, 2, none⟩ = some (.int .i64 pt) ∧ W2.cell? ⟨wr.heap.size, 3, none⟩ = some (.int .i64 oa) ∧ W2.cell? ⟨wr.heap.size, 4, none⟩ = some (.int .i64 ob) ∧ W2.cell? ⟨wr.heap.size, 5, none⟩ = some (.string m) := fun W' hW' W2 hk2 => by
        rw [hW'] at hk2
        have e1 := hk2 gx gxl (by omega) (by omega)
        have e2 := hk2 gy gyl (by omega) (by omega)
        have e3 := (hk2 wr.heap.size (by omega) (by omega) (by omega)).trans hrow
        exact ⟨(World.cell?_of_block (a := ⟨gx, j, none⟩) e1).trans cXo, (World.cell?_of_block (a := ⟨gy, j, none⟩) e2).trans cYo, by rw [cell_of_row _ _ _ _ _ _ e3]; rfl, by rw [cell_of_row _ _ _ _ _ _ e3]; rfl, by rw [cell_of_row _ _ _ _ _ _ e3]; rfl, by rw [cell_of_row _ _ _ _ _ _ e3]; rfl⟩
      have hS0 := keeps wo.drew rfl wo.drew fun _ _ _ _ => rfl
      have KP := Lib.hid kP
      have hbd : Below wr.heap.size wr wo.drew := hbo.trans ((below_draw2 wo).mono hbo.size)
      by_cases k0 : kd = 0
      · subst k0
        have kA := hT.two hj hbd (sldB ns (R.getD j r00).ps (R.getD j r00).B pt m.data.toList) (sldP ns (R.getD j r00).ps pt m.data.toList) 11 12 #[.pointer (some ⟨(R.getD j r00).s.p, 0, none⟩), .int .i64 pt, .string m] #[.pointer (some ⟨(R.getD j r00).q.y, 0, none⟩), .int .i64 pt, .string m] (.int .i64 (sldE ns pt m.size)) (fun W => W.cell? ⟨gx, j, none⟩ = some (.pointer (some ⟨(R.getD j r00).s.p, 0, none⟩)) ∧ W.cell? ⟨gy, j, none⟩ = some (.pointer (some ⟨(R.getD j r00).q.y, 0, none⟩)) ∧ W.cell? ⟨wr.heap.size, 2, none⟩ = some (.int .i64 pt) ∧ W.cell? ⟨wr.heap.size, 3, none⟩ = some (.int .i64 oa) ∧ W.cell? ⟨wr.heap.size, 4, none⟩ = some (.int .i64 ob) ∧ W.cell? ⟨wr.heap.size, 5, none⟩ = some (.string m)) (keeps wo.drew rfl)
          (fun hF => sload_any _ _ _ _ _ hF pt m (by omega)) (fun W2 G2 hG0 hG1 hG2 => qload_any W2 G2 _ _ _ _ hG0 hG1 hG2 pt m (by omega))
        have KA := Lib.hid kA
        clear kA
        generalize sldE ns pt m.size = EE at *
        rw [hwo] at KA hS0
        clear hbo hrow hwsz hT keeps kP obo gxl gyl gxo gyo i64 a64 hsz hbd cXo cYo hwo
        generalize hRP : (R.getD j r00).s.p = RP at *
        generalize hRR : (R.getD j r00).q.y = RR at *
        generalize hLL : R.length = LL at *
        clear hRP hRR
        go_wp2_with (go_at_call 10; (with_reducible refine (KP.out _).mono ?_); rintro e1 _ ⟨rfl, rfl⟩)
        go_region_held3 (fun W => W.cell? ⟨gx, j, none⟩ = some (.pointer (some ⟨RP, 0, none⟩)) ∧ W.cell? ⟨gy, j, none⟩ = some (.pointer (some ⟨RR, 0, none⟩)) ∧ W.cell? ⟨wr.heap.size, 2, none⟩ = some (.int .i64 pt) ∧ W.cell? ⟨wr.heap.size, 3, none⟩ = some (.int .i64 oa) ∧ W.cell? ⟨wr.heap.size, 4, none⟩ = some (.int .i64 ob) ∧ W.cell? ⟨wr.heap.size, 5, none⟩ = some (.string m)) (with_reducible first | exact hS0 | exact hS1 | exact hS2) (first | (go_at_call 11; (with_reducible refine KA.out.mono ?_); rintro e1 w5 ⟨rfl, hS1, HF⟩) | (go_at_call 12; (with_reducible refine (HF.out w5 (.inl rfl)).2.mono ?_); rintro e2 w6 ⟨rfl, hS2, HG⟩))
        clear hS0 hS1 hS2 KA HF
        obtain ⟨own', R', hst, hlen⟩ := HG.out
        have HN := Lib.hid hst
        clear hst
        go_wp2
        exact ⟨⟨k + 1, R', own', a, by simp, HN.out⟩, by simp [RowKit.intOf]; omega⟩
      · have k0b : (kd == 0) = false := by simpa using k0
        by_cases k1 : kd = 1
        · subst k1
          clear k0
          have kA := hT.two hj hbd (R.getD j r00).B (R.getD j r00).ps 13 14 #[.pointer (some ⟨(R.getD j r00).s.p, 0, none⟩), .int .i64 pt, .int .i64 oa, .int .i64 ob] #[.pointer (some ⟨(R.getD j r00).q.y, 0, none⟩), .int .i64 pt, .int .i64 oa, .int .i64 ob] (.tuple #[.string (ofL (sinS ns (R.getD j r00).ps (R.getD j r00).B pt oa ob)), .int .i64 (sinE ns (R.getD j r00).ps pt oa ob)]) (fun W => W.cell? ⟨gx, j, none⟩ = some (.pointer (some ⟨(R.getD j r00).s.p, 0, none⟩)) ∧ W.cell? ⟨gy, j, none⟩ = some (.pointer (some ⟨(R.getD j r00).q.y, 0, none⟩)) ∧ W.cell? ⟨wr.heap.size, 2, none⟩ = some (.int .i64 pt) ∧ W.cell? ⟨wr.heap.size, 3, none⟩ = some (.int .i64 oa) ∧ W.cell? ⟨wr.heap.size, 4, none⟩ = some (.int .i64 ob) ∧ W.cell? ⟨wr.heap.size, 5, none⟩ = some (.string m)) (keeps wo.drew rfl)
            (fun hF => (sin_any _ _ _ _ _ hF pt oa ob a64).mono fun e w2 ⟨x1, x2⟩ => ⟨x1, hF.below x2, Ch.of_below x2⟩) (fun W2 G2 hG0 hG1 hG2 => (qin_any W2 G2 _ _ _ _ hG0 pt oa ob a64).mono fun e w2 ⟨x1, x2⟩ => ⟨x1, (hG0.below x2).mono fun _ _ => .inl, Ch.of_below x2⟩)
          have KA := Lib.hid kA
          clear kA
          generalize sinE ns (R.getD j r00).ps pt oa ob = EE at *
          generalize ofL (sinS ns (R.getD j r00).ps (R.getD j r00).B pt oa ob) = MM at *
          rw [hwo] at KA hS0
          clear hbo hrow hwsz hT keeps kP obo gxl gyl gxo gyo i64 a64 hsz hbd cXo cYo hwo
          generalize hRP : (R.getD j r00).s.p = RP at *
          generalize hRR : (R.getD j r00).q.y = RR at *
          generalize hLL : R.length = LL at *
          clear hRP hRR
          go_wp2_with (go_at_call 10; (with_reducible refine (KP.out _).mono ?_); rintro e1 _ ⟨rfl, rfl⟩)
          go_region_held3 (fun W => W.cell? ⟨gx, j, none⟩ = some (.pointer (some ⟨RP, 0, none⟩)) ∧ W.cell? ⟨gy, j, none⟩ = some (.pointer (some ⟨RR, 0, none⟩)) ∧ W.cell? ⟨wr.heap.size, 2, none⟩ = some (.int .i64 pt) ∧ W.cell? ⟨wr.heap.size, 3, none⟩ = some (.int .i64 oa) ∧ W.cell? ⟨wr.heap.size, 4, none⟩ = some (.int .i64 ob) ∧ W.cell? ⟨wr.heap.size, 5, none⟩ = some (.string m)) (with_reducible first | exact hS0 | exact hS1) (first | (go_at_call 13; (with_reducible refine KA.out.mono ?_); rintro e1 w5 ⟨rfl, hS1, HF⟩))
          obtain ⟨hS2, kB⟩ := HF.out _ (.inr rfl)
          have KB := Lib.hid kB
          clear kB
          go_wp2
          go_region_held3 (fun W => W.cell? ⟨gx, j, none⟩ = some (.pointer (some ⟨RP, 0, none⟩)) ∧ W.cell? ⟨gy, j, none⟩ = some (.pointer (some ⟨RR, 0, none⟩)) ∧ W.cell? ⟨wr.heap.size, 2, none⟩ = some (.int .i64 pt) ∧ W.cell? ⟨wr.heap.size, 3, none⟩ = some (.int .i64 oa) ∧ W.cell? ⟨wr.heap.size, 4, none⟩ = some (.int .i64 ob) ∧ W.cell? ⟨wr.heap.size, 5, none⟩ = some (.string m)) (with_reducible first | exact hS2 | exact hS3) (first | (go_at_call 14; (with_reducible refine KB.out.mono ?_); rintro e2 w6 ⟨rfl, hS3, HG⟩))
          clear hS0 hS1 hS2 hS3 KA KB HF
          obtain ⟨own', R', hst, hlen⟩ := HG.out
          have HN := Lib.hid hst
          clear hst
          go_wp2
          exact ⟨⟨k + 1, R', own', a, by simp, HN.out⟩, by simp [RowKit.intOf]; omega⟩
        · have k1b : (kd == 1) = false := by simpa using k1
          by_cases k2 : kd = 2
          · subst k2
            clear k0 k1
            have kA := hT.two hj hbd (soutB ns (R.getD j r00).ps (R.getD j r00).B pt oa m.data.toList) (R.getD j r00).ps 15 16 #[.pointer (some ⟨(R.getD j r00).s.p, 0, none⟩), .int .i64 pt, .int .i64 oa, .string m] #[.pointer (some ⟨(R.getD j r00).q.y, 0, none⟩), .int .i64 pt, .int .i64 oa, .string m] (.int .i64 (soutE ns (R.getD j r00).ps pt oa m.size)) (fun W => W.cell? ⟨gx, j, none⟩ = some (.pointer (some ⟨(R.getD j r00).s.p, 0, none⟩)) ∧ W.cell? ⟨gy, j, none⟩ = some (.pointer (some ⟨(R.getD j r00).q.y, 0, none⟩)) ∧ W.cell? ⟨wr.heap.size, 2, none⟩ = some (.int .i64 pt) ∧ W.cell? ⟨wr.heap.size, 3, none⟩ = some (.int .i64 oa) ∧ W.cell? ⟨wr.heap.size, 4, none⟩ = some (.int .i64 ob) ∧ W.cell? ⟨wr.heap.size, 5, none⟩ = some (.string m)) (keeps wo.drew rfl)
              (fun hF => (sout_any _ _ _ _ _ hF pt oa m a64 (by omega)).mono fun e w2 ⟨x1, x2, x3⟩ => ⟨x1, x2, x3.mono2 fun _ => .inl⟩) (fun W2 G2 hG0 hG1 hG2 => (qout_any W2 G2 _ _ _ _ hG0 hG1 pt oa m a64 (by omega)).mono fun e w2 ⟨x1, x2, x3⟩ => ⟨x1, x2.mono fun _ _ => .inl, x3.mono2 fun _ => .inl⟩)
            have KA := Lib.hid kA
            clear kA
            generalize soutE ns (R.getD j r00).ps pt oa m.size = EE at *
            rw [hwo] at KA hS0
            clear hbo hrow hwsz hT keeps kP obo gxl gyl gxo gyo i64 a64 hsz hbd cXo cYo hwo
            generalize hRP : (R.getD j r00).s.p = RP at *
            generalize hRR : (R.getD j r00).q.y = RR at *
            generalize hLL : R.length = LL at *
            clear hRP hRR
            go_wp2_with (go_at_call 10; (with_reducible refine (KP.out _).mono ?_); rintro e1 _ ⟨rfl, rfl⟩)
            go_region_held3 (fun W => W.cell? ⟨gx, j, none⟩ = some (.pointer (some ⟨RP, 0, none⟩)) ∧ W.cell? ⟨gy, j, none⟩ = some (.pointer (some ⟨RR, 0, none⟩)) ∧ W.cell? ⟨wr.heap.size, 2, none⟩ = some (.int .i64 pt) ∧ W.cell? ⟨wr.heap.size, 3, none⟩ = some (.int .i64 oa) ∧ W.cell? ⟨wr.heap.size, 4, none⟩ = some (.int .i64 ob) ∧ W.cell? ⟨wr.heap.size, 5, none⟩ = some (.string m)) (with_reducible first | exact hS0 | exact hS1 | exact hS2) (first | (go_at_call 15; (with_reducible refine KA.out.mono ?_); rintro e1 w5 ⟨rfl, hS1, HF⟩) | (go_at_call 16; (with_reducible refine (HF.out w5 (.inl rfl)).2.mono ?_); rintro e2 w6 ⟨rfl, hS2, HG⟩))
            clear hS0 hS1 hS2 KA HF
            obtain ⟨own', R', hst, hlen⟩ := HG.out
            have HN := Lib.hid hst
            clear hst
            go_wp2
            exact ⟨⟨k + 1, R', own', a, by simp, HN.out⟩, by simp [RowKit.intOf]; omega⟩
          · have k2b : (kd == 2) = false := by simpa using k2
            by_cases k3 : kd = 3
            · subst k3
              clear k0 k1 k2
              have KA := Lib.hid (hT.clone hj hbo (by omega) hns1 rfl)
              rw [hwo] at KA cXo cYo
              clear hS0
              clear hbo hrow hwsz hT keeps kP obo gxl gyl gxo gyo i64 a64 hsz hbd hwo
              generalize hRP : (R.getD j r00).s.p = RP at *
              generalize hRR : (R.getD j r00).q.y = RR at *
              generalize hLL : R.length = LL at *
              clear hRP hRR
              go_wp2_with (first
                | (go_at_call 10; (with_reducible refine (KP.out _).mono ?_); rintro e1 _ ⟨rfl, rfl⟩)
                | (go_at_call 17; (with_reducible refine KA.out.mono ?_); rintro e1 w5 ⟨p', rfl, q1, n1, c1', w6, hapX, cY5, HF⟩)
                | (at_builtin; refine wpList_append_run rfl (.tmp 158) (.tmp 160) 32 rfl _ _ _ _ rfl rfl hapX ?_)
                | (go_at_call 18; (with_reducible refine HF.out.mono ?_); rintro e2 w7 ⟨r', rfl, q2, n2, c2', w8, hapY, HG⟩)
                | (at_builtin; refine wpList_append_run rfl (.tmp 162) (.tmp 168) 33 rfl _ _ _ _ rfl rfl hapY ?_))
              obtain ⟨own', R', hst, hlen⟩ := HG.out
              exact ⟨⟨k + 1, R', own', a, by simp, hst⟩, by simp [RowKit.intOf]; omega⟩
            · have k3b : (kd == 3) = false := by simpa using k3
              clear k0 k1 k2 k3
              have HG : Hid (Stt w.heap.size (k + 1) ns w wo (.slice (some ⟨gx, 0, none⟩) R.length cx) (.slice (some ⟨gy, 0, none⟩) R.length cy) own R) := Lib.hid (hT.below hbo).next
              rw [hwo] at HG
              clear hS0
              clear hbo hrow hwsz hT keeps kP obo gxl gyl gxo gyo i64 a64 hsz hbd hwo cXo cYo
              generalize hLL : R.length = LL at *
              clear hLL
              go_wp2_with (go_at_call 10; (with_reducible refine (KP.out _).mono ?_); rintro e1 _ ⟨rfl, rfl⟩)
              exact ⟨⟨k + 1, R, own, a, by simp, HG.out⟩, by simp [RowKit.intOf]; omega⟩
    · obtain rfl : k = N := by omega
      obtain ⟨gx, cx, gy, cy, rfl, rfl, -, -⟩ := hT.at hT.pos
      have hlen := hT.le
      have HT := Lib.hid hT
      obtain ⟨L, hL⟩ : ∃ L, L = R.length := ⟨_, rfl⟩
      rw [← hL] at hlen ⊢
      have HL := Lib.hid hL
      clear hT hL H3
      go_wp2
      go_loopw [19] (fun i wr' => ∃ j : Nat, j ≤ L ∧ i = .int .i64 (j : Int) ∧ Hid (Below wr.heap.size wr wr')) (fun i _ => L - (RowKit.intOf i).toNat)
      case atStart => exact ⟨0, Nat.zero_le _, rfl, Lib.hid (Below.refl _ _)⟩
      case round =>
        obtain ⟨j, hj, rfl, hB⟩ := hrel
        by_cases b : j < L
        · have bI : (j : Int) < (L : Int) := by omega
          have bI0 : (0 : Int) ≤ (j : Int) := by omega
          have hT2 := HT.out.below hB.out
          have hjR : j < R.length := by have := HL.out; omega
          obtain ⟨-, -, cX, cY⟩ := hT2.at2 hjR
          have hdr := hT2.below (below_draw2 wr)
          have k19 := same_any wr.drew _ _ _ _ _ _ (hdr.u j hjR) (hdr.d j hjR)
          have hS0 : wr.drew.cell? ⟨gx, j, none⟩ = some (.pointer (some ⟨(R.getD j r00).s.p, 0, none⟩)) ∧ wr.drew.cell? ⟨gy, j, none⟩ = some (.pointer (some ⟨(R.getD j r00).q.y, 0, none⟩)) := ⟨cX, cY⟩
          have K19 : Hid (Calls Try.prog 19 #[.pointer (some ⟨(R.getD j r00).s.p, 0, none⟩), .pointer (some ⟨(R.getD j r00).q.y, 0, none⟩)] wr.drew fun e w' => e = .returned (.bool true) ∧ (w'.cell? ⟨gx, j, none⟩ = some (.pointer (some ⟨(R.getD j r00).s.p, 0, none⟩)) ∧ w'.cell? ⟨gy, j, none⟩ = some (.pointer (some ⟨(R.getD j r00).q.y, 0, none⟩))) ∧ Hid (Below wr.heap.size wr w')) := Lib.hid (k19.mono fun e w' ⟨x1, x2⟩ => by
            have hb : Below wr.heap.size wr w' := (below_draw2 wr).trans x2
            exact ⟨x1, ⟨cell_below cX hb, cell_below cY hb⟩, Lib.hid hb⟩)
          clear k19 hT2 hdr
          generalize (R.getD j r00).s.p = PP at *
          generalize (R.getD j r00).q.y = QQ at *
          have HB0 := Lib.hid hB.out
          clear hB
          go_wp2
          go_region_held3 (fun W => W.cell? ⟨gx, j, none⟩ = some (.pointer (some ⟨PP, 0, none⟩)) ∧ W.cell? ⟨gy, j, none⟩ = some (.pointer (some ⟨QQ, 0, none⟩))) (with_reducible first | exact hS0 | exact hS1) (first | (go_at_call 19; (with_reducible refine K19.out.mono ?_); rintro e1 w4 ⟨rfl, hS1, H5⟩))
          all_goals go_wp2
          all_goals exact ⟨⟨j + 1, b, by simp, Lib.hid (HB0.out.trans (H5.out.mono HB0.out.size))⟩, by simp [RowKit.intOf]; omega⟩
        · obtain rfl : j = L := by omega
          have HX := Lib.hid (HT.out.bel.trans (hB.out.mono HT.out.bel.size))
          go_wp2_with (go_at_call 9; refine (KF.out _ HX.out).mono ?_; rintro e1 w4 ⟨rfl, hb⟩; have H5 := Lib.hid hb; clear hb)
          go_ret
          exact ⟨rfl, H5.out⟩
theorem sdoes_any (w : World) (G : Nat → Prop) (v v1 : Value) (ps : List Pg) (ht : TabV G w v ps) (hl : ps.length ≤ 140737488355328) (G1 : Nat → Prop) (os : List Opn) (h1 : OpsV G1 w v1 os) (hos : ∀ x ∈ os, In64 x.on ∧ In64 x.a ∧ x.s.size ≤ 140737488351232) (l1 : os.length ≤ 4398046511103) :
    Calls Try.prog 3 #[v, v1] w fun e w' => e = .returned (.bool true) ∧ Below w.heap.size w w' := by
  by_cases hok : okL ps
  · exact sdoes_yes w G v v1 ps ht hok G1 os h1 hos l1
  · exact sdoes_no w G v v1 ps ht hl hok
end Go.Proofs.Ytedhefidfepclaa
