/- A transaction. Conditions: ints are within 64 bits, a list is no longer than a machine holds. -/
import Derived.Test.YtjippoejaieneaaGreatJcx
namespace Go.Proofs.YtjippoejaieneaaGreat
open Go.RowKit Go.Maps
set_option maxRecDepth 20000
set_option linter.unusedVariables false

def Z7 : Array Value := #[.pointer none, .int .i64 0, .int .i64 0, .int .i64 0, .int .i64 0, .map none, .bool false]
theorem wpList_al7 {ops : Array Oper} {rest : List Oper} {op : Oper} {a : Act} {w : World} {Q : Exit → Act → World → Prop} (hgd : op.guard = none) (ho : op.op = .alloc 101)
    (h : wpList Tryz.prog ops Q rest (a.put op.dst (.pointer (some ⟨w.heap.size, 0, none⟩))) (w.alloc (.cells Z7 101))) : wpList Tryz.prog ops Q (op :: rest) a w :=
  wpList_plain hgd fun _ hK => by
    have e : (Instr.alloc 101 true (.tuple #[])).run Tryz.prog w = .ok (.pointer (some ⟨w.heap.size, 0, none⟩)) (w.alloc (.cells Z7 101)) := by kernel_rfl
    unfold Oper.wp execOp
    simp only [ho, Sem.run_bind, e, Sem.run_pure, Result.andThen_ok]
    exact hK _ _ h
theorem ckp_same (F : Nat → Prop) (j x p mb : Nat) (S : St) (V : Dv) (J : Jn) (w : World) (h : IsJ w F j x p mb S V J) (hh : J.head = 4611686018427387904) :
    Calls Tryz.prog 59 #[.pointer (some ⟨j, 0, none⟩)] w fun e w' => e = .returned (.int .i64 160) ∧ w = w' := by
  obtain ⟨_, _, c2, _⟩ := h.jx.cells
  clear h
  go_enter Tryz.func59, Tryz.ntmps59
  go_wp2
  go_ret
  exact ⟨rfl, rfl⟩
set_option maxHeartbeats 8000000 in
theorem commit_any (F G : Nat → Prop) (j x p mb : Nat) (S : St) (V : Dv) (J : Jn) (v : Value) (l : List Wt) (w : World) (h : IsJ w F j x p mb S V J) (hv : WV w G v l) (hG : ∀ k, G k → ¬ JF F j mb k) (hGw : ∀ k, G k → k < w.heap.size) (hl : l.length ≤ 17592186044416) :
    Calls Tryz.prog 24 #[.pointer (some ⟨j, 0, none⟩), v] w (Face (cmS J V l) (cmE J V l) (cmJ J V l) F w j x p mb S V J) := by
  have hv0 := hv
  obtain ⟨q0, cap, hve, hlc, _⟩ := hv0
  obtain ⟨L, hL⟩ : ∃ L, L = l.length := ⟨_, rfl⟩
  have HL := Lib.hid hL
  rw [← hL] at hve
  subst hve
  obtain ⟨w2, hw2⟩ : ∃ w2, w2 = (w.alloc (.cells #[.pointer (some ⟨j, 0, none⟩)] 41)).alloc (.cells #[.int .i64 0] 29) := ⟨_, rfl⟩
  have hb2 : Below w.heap.size w w2 := by rw [hw2]; exact ((Below.refl _ w).alloc (Nat.le_refl _) _).alloc (by simp) _
  have s1 : (w.alloc (.cells #[.pointer (some ⟨j, 0, none⟩)] 41)).heap.size = w.heap.size + 1 := by simp
  have k0 : w2.heap[w.heap.size]? = some (.cells #[.pointer (some ⟨j, 0, none⟩)] 41 (0, 0)) := by rw [hw2]; exact block_alloc (block_new w _) _
  have k1 : w2.heap[w.heap.size + 1]? = some (.cells #[.int .i64 0] 29 (0, 0)) := by rw [hw2, ← s1]; exact block_new _ _
  have h2 := h.below hb2
  have hv2 := hv.below hb2
  obtain ⟨_, _, _, _, _, _, c6⟩ := h2.jx.cells
  rw [h.live] at c6
  have c0 := cell0 k0
  have c1 := cell0 k1
  have f1 : w2.frozen? ⟨w.heap.size + 1, 0, none⟩ = false := block_free k1
  have hbd := h.jx.bd
  have hjl := h.jx.lt
  have hok := h.ok
  have hc4 := h.c4
  have KR := Lib.hid (refJ_any F G j x p _ S V J _ l w2 h2.jx hv2 hok.a1 hl)
  have HW2 : Hid ((w.alloc (.cells #[.pointer (some ⟨j, 0, none⟩)] 41)).alloc (.cells #[.int .i64 0] 29) = w2) := hw2.symm
  have hml := h.map.lt
  have hnb : ∀ b, b = w.heap.size ∨ b = w.heap.size + 1 → ¬ JF F j mb b := fun b hb z => by
    rcases z with z | z | z
    · have := hbd _ z; omega
    · omega
    · omega
  have hsz2 : w2.heap.size = w.heap.size + 2 := by rw [hw2]; simp
  have HB2 := Lib.hid hb2
  -- no change: an answer alone
  have HEND : Hid (¬ cmGo J V l → ∀ w3, Below w2.heap.size w2 w3 → w3.cell? ⟨w.heap.size, 0, none⟩ = some (.pointer (some ⟨j, 0, none⟩)) ∧ w3.cell? ⟨w.heap.size + 1, 0, none⟩ = some (.int .i64 0) ∧ w3.frozen? ⟨w.heap.size + 1, 0, none⟩ = false ∧
      ∀ r, r = cmE J V l → Face (cmS J V l) (cmE J V l) (cmJ J V l) F w j x p mb S V J (.returned (.int .i64 r)) (w3.setCell ⟨w.heap.size + 1, 0, none⟩ (.int .i64 r)) ∧ (w3.setCell ⟨w.heap.size + 1, 0, none⟩ (.int .i64 r)).cell? ⟨w.heap.size + 1, 0, none⟩ = some (.int .i64 r)) := fun hng w3 hb3 => by
    have e0 := (hb3.block _ (block_lt k0)).trans k0
    have e1 := (hb3.block _ (block_lt k1)).trans k1
    refine ⟨cell0 e0, cell0 e1, block_free e1, fun r hr => ?_⟩
    rw [(cm_no hng).1, (cm_no hng).2, ← hr]
    exact ⟨.inr ⟨rfl, rfl, (ToJ.refl h2 hb3).box HB2.out (Nat.le_succ _) (by omega) (hnb _ (.inr rfl)) _⟩, cell0 (block_setCell e1)⟩
  -- the copy
  have HCP : Hid (∀ w3, Below w2.heap.size w2 w3 → w3.cell? ⟨w.heap.size, 0, none⟩ = some (.pointer (some ⟨j, 0, none⟩)) ∧ w3.heap[j]? = some (.cells (jcells x J (.map (some mb))) 101 (0, 0)) ∧ (w3.alloc (.cells Z7 101)).heap[w3.heap.size]? = some (.cells Z7 101 (0, 0)) ∧
      ∃ w4, (w3.alloc (.cells Z7 101)).setRow w3.heap.size (jcells x J (.map (some mb))) = w4 ∧ Cx w w2 w4 F G w3.heap.size j x p mb S V J (.slice q0 L cap) l ∧ JX w4 F j x p (.map (some mb)) S V J ∧ w4.cell? ⟨w.heap.size, 0, none⟩ = some (.pointer (some ⟨j, 0, none⟩))) := fun w3 hb3 => by
    have e0 := (hb3.block _ (block_lt k0)).trans k0
    have h3 := h2.below hb3
    have ea := block_new w3 (.cells Z7 101)
    have s3 := hb3.size
    refine ⟨cell0 e0, h3.jx.blk, ea, _, rfl, ?_⟩
    have hb34 : Below w3.heap.size w3 ((w3.alloc (.cells Z7 101)).setRow w3.heap.size (jcells x J (.map (some mb)))) := below_setRow ((Below.refl _ w3).alloc (Nat.le_refl _) _) (Nat.le_refl _) _
    have hb24 := hb3.trans (hb34.mono hb3.size)
    have h4 := h2.below hb24
    have hna : ¬ F w3.heap.size := fun z => by have := hbd _ z; omega
    have k0' := (hb24.block _ (block_lt k0)).trans k0
    have k1' := (hb24.block _ (block_lt k1)).trans k1
    have hjf : ∀ k, k < w2.heap.size → k ≠ mb → ¬ F k → ¬ JF F w3.heap.size mb k := fun k hk hm hF z => by
      rcases z with z | z | z
      · exact hF z
      · omega
      · exact hm z
    refine ⟨⟨hb2, hb24, ⟨⟨setRow_heap _ _ _ _ _ _ ea, h4.jx.ext, hna, h4.jx.sok, h4.jx.good, h4.jx.bd⟩, h4.map, h4.mF, by omega, hok, h.live⟩, s3, hjl, h4.jx.blk, hjf j (by omega) h.jm h.jx.nj, hv2.below hb24, fun k hk => ?_, k0', k1', hjf _ (by omega) (by omega) (fun z => hnb _ (.inl rfl) (.inl z)), hjf _ (by omega) (by omega) (fun z => hnb _ (.inr rfl) (.inl z)), hnb _ (.inr rfl), hsz2, fun k hk => ?_⟩, h4.jx, cell0 k0'⟩
    · have hkw := hGw k hk
      exact hjf k (by omega) (fun e => hG k hk (.inr (.inr e))) (fun e => hG k hk (.inl e))
    · have hkw := hGw k hk
      have := hb24.size
      omega
  have HSZ2 := Lib.hid hsz2
  have HK := Lib.hid (And.intro k0 k1)
  have HNB := Lib.hid hnb
  have HOK := Lib.hid hok
  have ha4 : J.area ≤ 4096 := by have := hok.a1; omega
  have he0 : 0 ≤ J.en ∧ J.en ≤ 8192 := by have := hok.e0; have := hok.e1; omega
  clear h h2 hbd k0 k1 hw2 s1 hb2 hnb hsz2 hv hv2 hlc hok hL hl
  by_cases hl0 : L = 0
  · subst hl0
    have hng : ¬ cmGo J V l := fun z => z.1 (List.length_eq_zero_iff.1 HL.out.symm)
    have he : (0 : Int) = cmE J V l := by unfold cmE; rw [if_pos HL.out.symm]
    obtain ⟨x0, x1, x2, x4⟩ := HEND.out hng w2 (Below.refl _ _)
    have HX4 := Lib.hid (x4 0 he)
    clear x4 he hng
    go_enter_defers Tryz.func24, Tryz.ntmps24
    go_wp2_with (first
      | (rw [HW2.out]))
    refine leaves_cons (f := 57) (args := #[.pointer (some ⟨w.heap.size, 0, none⟩), .pointer (some ⟨w.heap.size + 1, 0, none⟩)]) (by simp) (by simp [go_sem]) ?_
    refine (idle57 _ _ _).mono ?_
    rintro e u' w'' ⟨rfl, rfl, rfl⟩
    obtain ⟨hfc, hcl⟩ := HX4.out
    generalize w2.setCell ⟨w.heap.size + 1, 0, none⟩ (.int .i64 0) = w9 at *
    simp [Leaves, settle, results, Tryz.results24, go_sem, hcl]
    exact hfc
  by_cases hr0 : refJ J V l ≠ 0
  · have hng : ¬ cmGo J V l := fun z => hr0 z.2.1
    have he : refJ J V l = cmE J V l := by unfold cmE; rw [if_neg (by rw [← HL.out]; exact hl0), if_pos hr0]
    have HQ := Lib.hid (HEND.out hng)
    have HE2 := Lib.hid he
    clear he hng
    generalize refJ J V l = R at *
    have hr1 : (R == 0) = false := by simp [hr0]
    go_enter_defers Tryz.func24, Tryz.ntmps24
    go_wp2_with (first
      | (rw [HW2.out])
      | (go_at_call 58; (with_reducible refine KR.out.mono ?_); rintro e w3 ⟨rfl, hb3⟩; obtain ⟨x0, x1, x2, x4⟩ := HQ.out w3 hb3; have HX4 := Lib.hid (x4 R HE2.out); clear x4))
    refine leaves_cons (f := 57) (args := #[.pointer (some ⟨w.heap.size, 0, none⟩), .pointer (some ⟨w.heap.size + 1, 0, none⟩)]) (by simp) (by simp [go_sem]) ?_
    refine (idle57 _ _ _).mono ?_
    rintro e u' w'' ⟨rfl, rfl, rfl⟩
    obtain ⟨hfc, hcl⟩ := HX4.out
    generalize w3.setCell ⟨w.heap.size + 1, 0, none⟩ (.int .i64 R) = w9 at *
    simp [Leaves, settle, results, Tryz.results24, go_sem, hcl]
    exact hfc
  have hr1 : refJ J V l = 0 := by simpa using hr0
  rw [hr1] at KR
  clear hr0
  by_cases ho : over J l
  · have ho2 : mostN J.area J.en < (L : Int) := by rw [HL.out]; exact ho
    by_cases hh : J.head = 4611686018427387904
    · have hng : ¬ cmGo J V l := fun z => z.2.2 ⟨ho, hh⟩
      have he : cmE J V l = 160 := by unfold cmE; rw [if_neg (by rw [← HL.out]; exact hl0), if_neg (by rw [hr1]; simp), if_pos ⟨ho, hh⟩]
      have HH := Lib.hid hh
      have HQ := Lib.hid (HEND.out hng)
      have HE2 : Hid ((160 : Int) = cmE J V l) := he.symm
      clear he hng hh hr1 ho
      go_enter_defers Tryz.func24, Tryz.ntmps24
      go_wp2_with (first
        | (rw [HW2.out])
        | (go_at_call 58; (with_reducible refine KR.out.mono ?_); rintro e w3 ⟨rfl, hb3⟩; obtain ⟨x0, x3, xa, w4, hw4, C4, j4, y0⟩ := HCP.out w3 hb3; have HW4 := Lib.hid hw4; have H3 := Lib.hid (And.intro x3 xa); have H4 := Lib.hid (And.intro C4 j4); clear x3 xa hw4 C4 j4)
        | (refine wpList_ld7 rfl (.tmp 23) rfl j rfl _ H3.out.1 rfl ?_)
        | (refine wpList_al7 rfl rfl ?_)
        | (refine wpList_st7 rfl (.tmp 6) (.tmp 24) rfl w3.heap.size rfl Z7 _ rfl H3.out.2 rfl rfl (jcells_one x J mb) ?_; rw [HW4.out])
        | (go_at_call 26; (with_reducible refine (room_any F j x p _ S V J _ H4.out.2 ha4 he0.1 he0.2).mono ?_); rintro e w5 ⟨rfl, rfl⟩)
        | (go_at_call 59; (with_reducible refine (ckp_same F w3.heap.size x p mb S V J w4 H4.out.1.i4 HH.out).mono ?_); rintro e w5 ⟨rfl, rfl⟩; obtain ⟨x5, x6, x7, x8⟩ := HQ.out w4 H4.out.1.hb24; have HX4 := Lib.hid (x8 160 HE2.out); clear x8))
      refine leaves_cons (f := 57) (args := #[.pointer (some ⟨w.heap.size, 0, none⟩), .pointer (some ⟨w.heap.size + 1, 0, none⟩)]) (by simp) (by simp [go_sem]) ?_
      refine (idle57 _ _ _).mono ?_
      rintro e u' w'' ⟨rfl, rfl, rfl⟩
      obtain ⟨hfc, hcl⟩ := HX4.out
      generalize w4.setCell ⟨w.heap.size + 1, 0, none⟩ (.int .i64 160) = w9 at *
      simp [Leaves, settle, results, Tryz.results24, go_sem, hcl]
      exact hfc
    · have HGO : Hid (cmGo J V l) := ⟨fun z => hl0 (by rw [HL.out, z]; rfl), hr1, fun z => hh z.2⟩
      have HP0 : Hid (cmP J V l = ckS J V ∧ cmK J l = ckJ J) := ⟨if_pos ho, if_pos ho⟩
      have HE0 : Hid (ckE J = 0) := if_neg hh
      clear ho hr1 hh
      by_cases qp : gone (ckS J V) S V = true
      · have HGP := Lib.hid qp
        have HGN : Hid (gone (cmS J V l) S V = true ∧ runS (cmS J V l) S V = runS (ckS J V) S V) := by
          unfold Hid
          rw [(cm_yes HGO.out).1, HP0.out.1]
          exact gone_more qp
        clear qp
        go_enter_defers Tryz.func24, Tryz.ntmps24
        go_wp2_with (first
          | (rw [HW2.out])
          | (go_at_call 58; (with_reducible refine KR.out.mono ?_); rintro e w3 ⟨rfl, hb3⟩; obtain ⟨x0, x3, xa, w4, hw4, C4, j4, y0⟩ := HCP.out w3 hb3; have HW4 := Lib.hid hw4; have H3 := Lib.hid (And.intro x3 xa); have H4 := Lib.hid (And.intro C4 j4); clear x3 xa hw4 C4 j4)
          | (refine wpList_ld7 rfl (.tmp 23) rfl j rfl _ H3.out.1 rfl ?_)
          | (refine wpList_al7 rfl rfl ?_)
          | (refine wpList_st7 rfl (.tmp 6) (.tmp 24) rfl w3.heap.size rfl Z7 _ rfl H3.out.2 rfl rfl (jcells_one x J mb) ?_; rw [HW4.out])
          | (go_at_call 26; (with_reducible refine (room_any F j x p _ S V J _ H4.out.2 ha4 he0.1 he0.2).mono ?_); rintro e w5 ⟨rfl, rfl⟩)
          | (go_at_call 59; (with_reducible refine (ckp_any F w3.heap.size x p mb S V J w4 H4.out.1.i4).mono ?_); intro e w6 hd; obtain ⟨rfl, ht⟩ := ((hd.resolve_right (fun z => by have y := z.1; rw [HGP.out] at y; cases y)).2); have HD := Lib.hid (cm_door (mb1 := mb) H4.out.1 (Gr.refl _ _ _) (Ch.of_below (Below.refl _ _)) H4.out.1.i4.jx.nj HGN.out.1 (by rw [HGN.out.2]; exact ht)); clear hd ht))
        refine leaves_cons (f := 57) (args := #[.pointer (some ⟨w.heap.size, 0, none⟩), .pointer (some ⟨w.heap.size + 1, 0, none⟩)]) (by simp) (by simp [go_sem]) ?_
        obtain ⟨x5, x6, x7, x8, hfc, hcl⟩ := HD.out
        refine (catch57 w.heap.size (w.heap.size + 1) j x _ J 0 _ x5 x6 x7 (by omega) x8).mono ?_
        rintro e u' w'' ⟨rfl, rfl, rfl⟩
        generalize (deadW w6 j).setCell ⟨w.heap.size + 1, 0, none⟩ (.int .i64 2) = w9 at *
        simp [Leaves, settle, results, Tryz.results24, go_sem, hcl]
        exact hfc
      · have HGP : Hid (gone (ckS J V) S V = false) := Bool.eq_false_iff.2 qp
        clear qp
        have HI5 : Hid (∀ a w5 F1 m1, IsJ w5 F1 a x p m1 (runS (ckS J V) S V).1 (runS (ckS J V) S V).2 (ckJ J) → IsJ w5 F1 a x p m1 (runS (cmP J V l) S V).1 (runS (cmP J V l) S V).2 (cmK J l) ∧ gone (cmP J V l) S V = false) := fun a w5 F1 m1 i => by rw [HP0.out.1, HP0.out.2]; exact ⟨i, HGP.out⟩
        by_cases qn : gone (cmS J V l) S V = true
        · have HGN := Lib.hid qn
          clear qn
          go_enter_defers Tryz.func24, Tryz.ntmps24
          go_wp2_with (first
            | (rw [HW2.out])
            | (go_at_call 58; (with_reducible refine KR.out.mono ?_); rintro e w3 ⟨rfl, hb3⟩; obtain ⟨x0, x3, xa, w4, hw4, C4, j4, y0⟩ := HCP.out w3 hb3; have HW4 := Lib.hid hw4; have H3 := Lib.hid (And.intro x3 xa); have H4 := Lib.hid (And.intro C4 j4); clear x3 xa hw4 C4 j4)
            | (refine wpList_ld7 rfl (.tmp 23) rfl j rfl _ H3.out.1 rfl ?_)
            | (refine wpList_al7 rfl rfl ?_)
            | (refine wpList_st7 rfl (.tmp 6) (.tmp 24) rfl w3.heap.size rfl Z7 _ rfl H3.out.2 rfl rfl (jcells_one x J mb) ?_; rw [HW4.out])
            | (go_at_call 26; (with_reducible refine (room_any F j x p _ S V J _ H4.out.2 ha4 he0.1 he0.2).mono ?_); rintro e w5 ⟨rfl, rfl⟩)
            | (go_at_call 59; (with_reducible refine (ckp_any F w3.heap.size x p mb S V J w4 H4.out.1.i4).mono ?_); intro e w5 hd; obtain ⟨rfl, F1, m1, i5, g5, c5⟩ := (hd.resolve_left (fun z => by have y := z.1; rw [HGP.out] at y; cases y)).2; rw [HE0.out]; have y5 := cell0 ((c5.block _ (block_lt H4.out.1.b0) H4.out.1.n0).trans H4.out.1.b0); have H5 := Lib.hid (And.intro i5 (And.intro g5 c5)); clear hd i5 g5 c5)
            | (go_at_call 60; (with_reducible refine (cm_rec H4.out.1 HGO.out (show IsJ w5 F1 w3.heap.size x p m1 (runS (cmP J V l) S V).1 (runS (cmP J V l) S V).2 (cmK J l) by rw [HP0.out.1, HP0.out.2]; exact H5.out.1) H5.out.2.1 H5.out.2.2 (by rw [HP0.out.1]; exact HGP.out)).mono ?_); intro e w6 hd; obtain ⟨rfl, hdr⟩ : e = .panicked [{ v := .iface 156 (.agg #[]), recovered := false }] ∧ Door w w6 F j x p mb S V J l := (hd.elim (fun z => z.2) (fun z => by have y := z.1; rw [HGN.out] at y; cases y)); have HD := Lib.hid hdr; clear hd hdr))
          refine leaves_cons (f := 57) (args := #[.pointer (some ⟨w.heap.size, 0, none⟩), .pointer (some ⟨w.heap.size + 1, 0, none⟩)]) (by simp) (by simp [go_sem]) ?_
          obtain ⟨x5, x6, x7, x8, hfc, hcl⟩ := HD.out
          refine (catch57 w.heap.size (w.heap.size + 1) j x _ J 0 _ x5 x6 x7 (by omega) x8).mono ?_
          rintro e u' w'' ⟨rfl, rfl, rfl⟩
          generalize (deadW w6 j).setCell ⟨w.heap.size + 1, 0, none⟩ (.int .i64 2) = w9 at *
          simp [Leaves, settle, results, Tryz.results24, go_sem, hcl]
          exact hfc
        · have HGN : Hid (gone (cmS J V l) S V = false) := Bool.eq_false_iff.2 qn
          clear qn
          go_enter_defers Tryz.func24, Tryz.ntmps24
          go_wp2_with (first
            | (rw [HW2.out])
            | (go_at_call 58; (with_reducible refine KR.out.mono ?_); rintro e w3 ⟨rfl, hb3⟩; obtain ⟨x0, x3, xa, w4, hw4, C4, j4, y0⟩ := HCP.out w3 hb3; have HW4 := Lib.hid hw4; have H3 := Lib.hid (And.intro x3 xa); have H4 := Lib.hid (And.intro C4 j4); clear x3 xa hw4 C4 j4)
            | (refine wpList_ld7 rfl (.tmp 23) rfl j rfl _ H3.out.1 rfl ?_)
            | (refine wpList_al7 rfl rfl ?_)
            | (refine wpList_st7 rfl (.tmp 6) (.tmp 24) rfl w3.heap.size rfl Z7 _ rfl H3.out.2 rfl rfl (jcells_one x J mb) ?_; rw [HW4.out])
            | (go_at_call 26; (with_reducible refine (room_any F j x p _ S V J _ H4.out.2 ha4 he0.1 he0.2).mono ?_); rintro e w5 ⟨rfl, rfl⟩)
            | (go_at_call 59; (with_reducible refine (ckp_any F w3.heap.size x p mb S V J w4 H4.out.1.i4).mono ?_); intro e w5 hd; obtain ⟨rfl, F1, m1, i5, g5, c5⟩ := (hd.resolve_left (fun z => by have y := z.1; rw [HGP.out] at y; cases y)).2; rw [HE0.out]; have y5 := cell0 ((c5.block _ (block_lt H4.out.1.b0) H4.out.1.n0).trans H4.out.1.b0); have H5 := Lib.hid (And.intro i5 (And.intro g5 c5)); clear hd i5 g5 c5)
            | (go_at_call 60; (with_reducible refine (cm_rec H4.out.1 HGO.out (show IsJ w5 F1 w3.heap.size x p m1 (runS (cmP J V l) S V).1 (runS (cmP J V l) S V).2 (cmK J l) by rw [HP0.out.1, HP0.out.2]; exact H5.out.1) H5.out.2.1 H5.out.2.2 (by rw [HP0.out.1]; exact HGP.out)).mono ?_); intro e w6 hd; obtain ⟨rfl, F2, i6, g6, c6', z0⟩ := (hd.resolve_left (fun z => by have y := z.1; rw [HGN.out] at y; cases y)).2; have H6 := Lib.hid (And.intro i6 (And.intro g6 c6')); clear hd i6 g6 c6')
            | (go_at_call 61; (with_reducible refine (cm_take H4.out.1 HGO.out HGN.out H6.out.1 H6.out.2.1 H6.out.2.2).mono ?_); rintro e w7 ⟨rfl, y7, a7, j7, b7, f7, hfc, hcl⟩; have H7 := Lib.hid (And.intro a7 j7); have HX4 := Lib.hid (And.intro hfc hcl); clear a7 j7 hfc hcl)
            | (refine wpList_ld7 rfl (.tmp 6) rfl w3.heap.size rfl _ H7.out.1 rfl ?_)
            | (refine wpList_st7 rfl (.tmp 40) (.tmp 39) rfl j rfl _ _ rfl H7.out.2 rfl rfl (jcells_one x _ _) ?_; change wpList _ _ _ _ _ (cp7 w7 j x (takeJ (cmK J l) l) (.map (some m1)))))
          refine leaves_cons (f := 57) (args := #[.pointer (some ⟨w.heap.size, 0, none⟩), .pointer (some ⟨w.heap.size + 1, 0, none⟩)]) (by simp) (by simp [go_sem]) ?_
          refine (idle57 _ _ _).mono ?_
          rintro e u' w'' ⟨rfl, rfl, rfl⟩
          obtain ⟨hfc, hcl⟩ := HX4.out
          generalize (cp7 w7 j x (takeJ (cmK J l) l) (.map (some m1))).setCell ⟨w.heap.size + 1, 0, none⟩ (.int .i64 0) = w9 at *
          simp [Leaves, settle, results, Tryz.results24, go_sem, hcl]
          exact hfc
  · have ho2 : ¬ mostN J.area J.en < (L : Int) := by rw [HL.out]; exact ho
    have HGO : Hid (cmGo J V l) := ⟨fun z => hl0 (by rw [HL.out, z]; rfl), hr1, fun z => ho z.1⟩
    have HP0 : Hid (cmP J V l = [] ∧ cmK J l = J) := ⟨if_neg ho, if_neg ho⟩
    have HI5 : Hid (∀ a w4, IsJ w4 F a x p mb S V J → IsJ w4 F a x p mb (runS (cmP J V l) S V).1 (runS (cmP J V l) S V).2 (cmK J l) ∧ gone (cmP J V l) S V = false) := fun a w4 i => by rw [HP0.out.1, HP0.out.2]; exact ⟨i, rfl⟩
    clear ho hr1
    by_cases qn : gone (cmS J V l) S V = true
    · have HGN := Lib.hid qn
      clear qn
      go_enter_defers Tryz.func24, Tryz.ntmps24
      go_wp2_with (first
        | (rw [HW2.out])
        | (go_at_call 58; (with_reducible refine KR.out.mono ?_); rintro e w3 ⟨rfl, hb3⟩; obtain ⟨x0, x3, xa, w4, hw4, C4, j4, y0⟩ := HCP.out w3 hb3; have HW4 := Lib.hid hw4; have H3 := Lib.hid (And.intro x3 xa); have H4 := Lib.hid (And.intro C4 j4); clear x3 xa hw4 C4 j4)
        | (refine wpList_ld7 rfl (.tmp 23) rfl j rfl _ H3.out.1 rfl ?_)
        | (refine wpList_al7 rfl rfl ?_)
        | (refine wpList_st7 rfl (.tmp 6) (.tmp 24) rfl w3.heap.size rfl Z7 _ rfl H3.out.2 rfl rfl (jcells_one x J mb) ?_; rw [HW4.out])
        | (go_at_call 26; (with_reducible refine (room_any F j x p _ S V J _ H4.out.2 ha4 he0.1 he0.2).mono ?_); rintro e w5 ⟨rfl, rfl⟩)
        | (go_at_call 60; (with_reducible refine (cm_rec H4.out.1 HGO.out (HI5.out _ _ H4.out.1.i4).1 (Gr.refl _ _ _) (Ch.of_below (Below.refl _ _)) (HI5.out _ _ H4.out.1.i4).2).mono ?_); intro e w6 hd; obtain ⟨rfl, hdr⟩ : e = .panicked [{ v := .iface 156 (.agg #[]), recovered := false }] ∧ Door w w6 F j x p mb S V J l := (hd.elim (fun z => z.2) (fun z => by have y := z.1; rw [HGN.out] at y; cases y)); have HD := Lib.hid hdr; clear hd hdr))
      refine leaves_cons (f := 57) (args := #[.pointer (some ⟨w.heap.size, 0, none⟩), .pointer (some ⟨w.heap.size + 1, 0, none⟩)]) (by simp) (by simp [go_sem]) ?_
      obtain ⟨x5, x6, x7, x8, hfc, hcl⟩ := HD.out
      refine (catch57 w.heap.size (w.heap.size + 1) j x _ J 0 _ x5 x6 x7 (by omega) x8).mono ?_
      rintro e u' w'' ⟨rfl, rfl, rfl⟩
      generalize (deadW w6 j).setCell ⟨w.heap.size + 1, 0, none⟩ (.int .i64 2) = w9 at *
      simp [Leaves, settle, results, Tryz.results24, go_sem, hcl]
      exact hfc
    · have HGN : Hid (gone (cmS J V l) S V = false) := Bool.eq_false_iff.2 qn
      clear qn
      go_enter_defers Tryz.func24, Tryz.ntmps24
      go_wp2_with (first
        | (rw [HW2.out])
        | (go_at_call 58; (with_reducible refine KR.out.mono ?_); rintro e w3 ⟨rfl, hb3⟩; obtain ⟨x0, x3, xa, w4, hw4, C4, j4, y0⟩ := HCP.out w3 hb3; have HW4 := Lib.hid hw4; have H3 := Lib.hid (And.intro x3 xa); have H4 := Lib.hid (And.intro C4 j4); clear x3 xa hw4 C4 j4)
        | (refine wpList_ld7 rfl (.tmp 23) rfl j rfl _ H3.out.1 rfl ?_)
        | (refine wpList_al7 rfl rfl ?_)
        | (refine wpList_st7 rfl (.tmp 6) (.tmp 24) rfl w3.heap.size rfl Z7 _ rfl H3.out.2 rfl rfl (jcells_one x J mb) ?_; rw [HW4.out])
        | (go_at_call 26; (with_reducible refine (room_any F j x p _ S V J _ H4.out.2 ha4 he0.1 he0.2).mono ?_); rintro e w5 ⟨rfl, rfl⟩)
        | (go_at_call 60; (with_reducible refine (cm_rec H4.out.1 HGO.out (HI5.out _ _ H4.out.1.i4).1 (Gr.refl _ _ _) (Ch.of_below (Below.refl _ _)) (HI5.out _ _ H4.out.1.i4).2).mono ?_); intro e w6 hd; obtain ⟨rfl, F2, i6, g6, c6', z0⟩ := (hd.resolve_left (fun z => by have y := z.1; rw [HGN.out] at y; cases y)).2; have H6 := Lib.hid (And.intro i6 (And.intro g6 c6')); clear hd i6 g6 c6')
        | (go_at_call 61; (with_reducible refine (cm_take H4.out.1 HGO.out HGN.out H6.out.1 H6.out.2.1 H6.out.2.2).mono ?_); rintro e w7 ⟨rfl, y7, a7, j7, b7, f7, hfc, hcl⟩; have H7 := Lib.hid (And.intro a7 j7); have HX4 := Lib.hid (And.intro hfc hcl); clear a7 j7 hfc hcl)
        | (refine wpList_ld7 rfl (.tmp 6) rfl w3.heap.size rfl _ H7.out.1 rfl ?_)
        | (refine wpList_st7 rfl (.tmp 40) (.tmp 39) rfl j rfl _ _ rfl H7.out.2 rfl rfl (jcells_one x _ _) ?_; change wpList _ _ _ _ _ (cp7 w7 j x (takeJ (cmK J l) l) (.map (some mb)))))
      refine leaves_cons (f := 57) (args := #[.pointer (some ⟨w.heap.size, 0, none⟩), .pointer (some ⟨w.heap.size + 1, 0, none⟩)]) (by simp) (by simp [go_sem]) ?_
      refine (idle57 _ _ _).mono ?_
      rintro e u' w'' ⟨rfl, rfl, rfl⟩
      obtain ⟨hfc, hcl⟩ := HX4.out
      generalize (cp7 w7 j x (takeJ (cmK J l) l) (.map (some mb))).setCell ⟨w.heap.size + 1, 0, none⟩ (.int .i64 0) = w9 at *
      simp [Leaves, settle, results, Tryz.results24, go_sem, hcl]
      exact hfc
end Go.Proofs.YtjippoejaieneaaGreat
