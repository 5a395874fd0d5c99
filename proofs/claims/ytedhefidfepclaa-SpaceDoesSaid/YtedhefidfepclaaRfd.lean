/- The document's memory: bytes read through a table. Conditions: numbers that a machine holds. -/
import Derived.Test.YtedhefidfepclaaRfc
import Derived.Deep.RegionLaw
namespace Go.Proofs.Ytedhefidfepclaa
open Go.RowKit Go.Maps
set_option linter.unusedVariables false

theorem thereE_zero {ps : List Pg} {R : Int} : ∀ {n : Nat} {a : Int}, thereE ps R a n = 0 → ∀ j, j < n → bad ps R (a + (j : Nat)) = 0
  | 0, _, _, j, hj => absurd hj (by omega)
  | n + 1, a, h, j, hj => by
    have hb := good_bad (Nat.succ_pos n) h
    match j, hj with
    | 0, _ => rw [show a + ((0 : Nat) : Int) = a by omega]; exact hb
    | j + 1, hj =>
      have h2 : thereE ps R (a + 1) n = 0 := by
        unfold thereE at h
        rwa [if_pos hb] at h
      have := thereE_zero h2 j (by omega)
      rwa [show a + 1 + ((j : Nat) : Int) = a + ((j + 1 : Nat) : Int) by omega] at this
theorem chk_pages {F : Nat} {ps : List Pg} (h : chk F ps = 0) : ∀ p ∈ ps, -1 ≤ p.1 ∧ 0 ≤ p.2 ∧ p.2 ≤ 7 := fun p hp => by have := chk_range h hp; omega
set_option maxRecDepth 100000 in
set_option maxHeartbeats 4000000 in
theorem rread_no (p g cap F : Nat) (B : Bts) (w : World) (h : IsR w p g cap F B) (G : Nat → Prop) (v : Value) (ps : List Pg) (ht : TabV G w v ps) (a n R : Int) (ha : In64 a) (hno : readE F ps a n R ≠ 0) :
    Calls Try.prog 41 #[.pointer (some ⟨p, 0, none⟩), v, .int .i64 a, .int .i64 n, .int .i64 R] w fun e w' => e = .returned (.tuple #[.string ⟨#[]⟩, .int .i64 (readE F ps a n R)]) ∧ Below w.heap.size w w' := by
  obtain ⟨q, np, cap0, rfl⟩ : ∃ q n cap, v = .slice q n cap := by obtain ⟨q, cap, e, _⟩ := ht; exact ⟨_, _, _, e⟩
  have kc := rcheck_any p g cap F B w h G (.slice q np cap0) ps ht
  have H := Lib.hid (And.intro h ht)
  by_cases c0 : chk F ps = 0
  · have e1 : readE F ps a n R = if sizeOk n R then thereE ps R a n.toNat else 80 := by unfold readE; rw [if_pos c0]
    have hps := (chk_mem c0).1
    have hrr := chk_pages c0
    rw [c0] at kc
    by_cases s0 : sizeOk n R
    · rw [if_pos s0] at e1
      have s1 := s0
      unfold sizeOk at s1
      obtain ⟨m, rfl⟩ : ∃ m : Nat, n = (m : Int) := ⟨n.toNat, by omega⟩
      rw [Int.toNat_natCast] at e1
      rw [e1] at hno ⊢
      have HT : Hid (∀ W, Below w.heap.size w W → Calls Try.prog 65 #[.slice q np cap0, .int .i64 a, .int .i64 (m : Int), .int .i64 R] W fun e w' => e = .returned (.int .i64 (thereE ps R a m)) ∧ Below W.heap.size W w') :=
        fun W hW => rthere_any q np cap0 G ps W (ht.below hW) hps hrr a ha m (by omega) R (by omega)
      obtain ⟨x, hx⟩ : ∃ x, x = thereE ps R a m := ⟨_, rfl⟩
      rw [← hx] at hno ⊢
      have HX := Lib.hid hx
      have hR := s1.2.2
      have hm1 : (m : Int) ≤ 4096 := s1.2.1
      clear h ht c0 s0 e1 hps hrr hx s1
      rcases hR with rfl | rfl
      · go_enter Try.func41, Try.ntmps41
        go_wp2_with (first
          | (go_at_call 64; refine kc.mono ?_; rintro e w' ⟨rfl, hb⟩; have HB := Lib.hid hb; clear kc)
          | (go_at_call 65; refine (HT.out _ HB.out).mono ?_; rw [← HX.out]; rintro e w'' ⟨rfl, hb'⟩; have HB' := Lib.hid hb'; clear hb'))
        go_ret2
        exact ⟨rfl, HB.out.trans (HB'.out.mono HB.out.size)⟩
      · go_enter Try.func41, Try.ntmps41
        go_wp2_with (first
          | (go_at_call 64; refine kc.mono ?_; rintro e w' ⟨rfl, hb⟩; have HB := Lib.hid hb; clear kc)
          | (go_at_call 65; refine (HT.out _ HB.out).mono ?_; rw [← HX.out]; rintro e w'' ⟨rfl, hb'⟩; have HB' := Lib.hid hb'; clear hb'))
        go_ret2
        exact ⟨rfl, HB.out.trans (HB'.out.mono HB.out.size)⟩
    · rw [if_neg s0] at e1
      rw [e1]
      unfold sizeOk at s0
      have HS := Lib.hid s0
      clear h ht c0 hno e1 hps hrr s0
      by_cases n0 : n < 0
      · go_enter Try.func41, Try.ntmps41
        go_wp2_with (go_at_call 64; refine kc.mono ?_; rintro e w' ⟨rfl, hb⟩)
        go_ret2
        exact ⟨rfl, hb⟩
      · by_cases n1 : 4096 < n
        · go_enter Try.func41, Try.ntmps41
          go_wp2_with (go_at_call 64; refine kc.mono ?_; rintro e w' ⟨rfl, hb⟩)
          go_ret2
          exact ⟨rfl, hb⟩
        · have s0 := HS.out
          have r1 : (R != 1) = true := by simp; omega
          have r4 : (R != 4) = true := by simp; omega
          clear s0
          go_enter Try.func41, Try.ntmps41
          go_wp2_with (go_at_call 64; refine kc.mono ?_; rintro e w' ⟨rfl, hb⟩)
          go_ret2
          exact ⟨rfl, hb⟩
  · have e1 : readE F ps a n R = chk F ps := by unfold readE; rw [if_neg c0]
    rw [e1]
    clear h ht hno e1
    generalize chk F ps = x at *
    go_enter Try.func41, Try.ntmps41
    go_wp2_with (go_at_call 64; refine kc.mono ?_; rintro e w' ⟨rfl, hb⟩)
    go_ret2
    exact ⟨rfl, hb⟩
theorem wp_append_run {P : Program} {o : Oper} {a : Act} {w : World} {K : Act → World → Prop} {Q : Exit → Act → World → Prop} (s x : Operand) (t : TypeId)
    (ho : o.op = .call { callee := .builtin .append, args := #[s, x], argTypes := #[t, t] }) (v sx v' : Value) (w' : World) (hs : a.eval s = v) (hx : a.eval x = sx)
    (hr : (Builtin.append_ #[t, t] o.type #[v, sx]).run P w = .ok v' w') (h : K (a.put o.dst v') w') : o.wp P a w K Q := by
  unfold Oper.wp execOp
  simp only [ho, resolve, invoke, builtin, Sem.run_bind, Sem.run_pure, Result.andThen_ok, List.map_toArray, List.map_cons, List.map_nil, hs, hx, hr]
  exact h
theorem step_append_run {P : Program} {ops : Array Oper} {o : Oper} {a : Act} {w : World} {K : Act → World → Prop} {Q : Exit → Act → World → Prop} {E : Prop} (hgd : o.guard = none) (s x : Operand) (t : TypeId)
    (ho : o.op = .call { callee := .builtin .append, args := #[s, x], argTypes := #[t, t] }) (v sx v' : Value) (w' : World) (hs : a.eval s = v) (hx : a.eval x = sx)
    (hr : (Builtin.append_ #[t, t] o.type #[v, sx]).run P w = .ok v' w') (h : K (a.put o.dst v') w') :
    if Region.wanted o (yielded ops a.tmps) = true then Oper.wp P o a w K Q else E := by
  have hw : Region.wanted o (yielded ops a.tmps) = true := by simp [Region.wanted, hgd]
  rw [if_pos hw]
  exact wp_append_run s x t ho v sx v' w' hs hx hr h
theorem row5 {w : World} {base g n cap : Nat} {l : Bts} (h : w.ownsRow base 5 1 (.slice (some ⟨g, 0, none⟩) n cap) n (l.map cellB)) : RowB 5 w g cap l ∧ l.length = n := by
  have hl := h.1
  rw [List.length_map, Nat.mul_one] at hl
  rcases h.2 with ⟨e, _⟩ | ⟨g', cap', cur, e, hb, hg, hnc, _, hcs, ht⟩
  · cases e
  · injection e with e1 _ e3
    injection e1 with e1
    injection e1 with e1
    subst e1 e3
    refine ⟨⟨cur, (0, 0), hg, .inl rfl, by omega, by omega, ?_⟩, hl⟩
    rw [hl, ← Nat.mul_one n]; exact ht
theorem rd_snoc (ps : List Pg) (B : Bts) (a : Int) (k : Nat) : rd ps B a (k + 1) = rd ps B a k ++ [B.getD (pos ps (a + (k : Nat))) 0] := by
  rw [rd_add]; rfl
set_option maxRecDepth 100000 in
set_option maxHeartbeats 4000000 in
theorem rread_ok (p g cap F : Nat) (B : Bts) (w : World) (h : IsR w p g cap F B) (G : Nat → Prop) (v : Value) (ps : List Pg) (ht : TabV G w v ps) (a : Int) (n : Nat) (R : Int) (ha : In64 a) (h0 : readE F ps a n R = 0) :
    Calls Try.prog 41 #[.pointer (some ⟨p, 0, none⟩), v, .int .i64 a, .int .i64 (n : Int), .int .i64 R] w fun e w' => e = .returned (.tuple #[.string (ofL (rd ps B a n)), .int .i64 0]) ∧ Below w.heap.size w w' := by
  obtain ⟨q, np, cap0, rfl⟩ : ∃ q n cap, v = .slice q n cap := by obtain ⟨q, cap, e, _⟩ := ht; exact ⟨_, _, _, e⟩
  have kc := rcheck_any p g cap F B w h G (.slice q np cap0) ps ht
  have c0 : chk F ps = 0 := by
    unfold readE at h0
    by_cases c : chk F ps = 0
    · exact c
    · rw [if_neg c] at h0; exact absurd h0 c
  have s0 : sizeOk n R := by
    unfold readE at h0
    rw [if_pos c0] at h0
    by_cases c : sizeOk n R
    · exact c
    · rw [if_neg c] at h0; cases h0
  have t0 : thereE ps R a n = 0 := by
    unfold readE at h0
    rw [if_pos c0, if_pos s0, Int.toNat_natCast] at h0
    exact h0
  unfold sizeOk at s0
  rw [c0] at kc
  have hgood := thereE_zero t0
  have HT : Hid (∀ W, Below w.heap.size w W → Calls Try.prog 65 #[.slice q np cap0, .int .i64 a, .int .i64 (n : Int), .int .i64 R] W fun e w' => e = .returned (.int .i64 0) ∧ Below W.heap.size W w') :=
    fun W hW => by
      have := rthere_any q np cap0 G ps W (ht.below hW) (chk_mem c0).1 (chk_pages c0) a ha n (by omega) R (by omega)
      rwa [t0] at this
  obtain ⟨m, hm⟩ : ∃ m, m = ps.length := ⟨_, rfl⟩
  obtain rfl : np = m := by obtain ⟨q, cap, e, _⟩ := ht; injection e with _ e2; rw [e2, hm]
  have hnp : np ≤ 16 := by rw [hm]; exact (chk_mem c0).1
  have hn4 : n ≤ 4096 := by omega
  have hR := s0.2.2
  obtain ⟨i0, hi1, hi2, hi3, hi4⟩ := info_parts Try.info5
  have H := Lib.hid (And.intro h (And.intro ht (And.intro c0 (And.intro hgood hm))))
  have HI := Lib.hid (And.intro hi1 (And.intro hi2 (And.intro hi3 hi4)))
  clear h ht c0 s0 t0 h0 hgood hm hi1 hi2 hi3 hi4
  rcases hR with rfl | rfl
  · go_enter Try.func41, Try.ntmps41
    go_wp2_with (first
      | (go_at_call 64; refine kc.mono ?_; rintro e w' ⟨rfl, hb⟩; have HB := Lib.hid hb; clear kc hb)
      | (go_at_call 65; refine (HT.out _ HB.out).mono ?_; rintro e w'' ⟨rfl, hb'⟩; have HB' := Lib.hid hb'; clear hb'))
    obtain ⟨b0, hb0⟩ : ∃ b0, b0 = w''.heap.size := ⟨_, rfl⟩
    obtain ⟨w3, hw3⟩ : ∃ w3, w3 = w''.alloc (.cells #[] 5) := ⟨_, rfl⟩
    have hb2 : Below w.heap.size w w'' := HB.out.trans (HB'.out.mono HB.out.size)
    have hs2 : w.heap.size ≤ b0 := by rw [hb0]; exact hb2.size
    have hb3 : Below w.heap.size w w3 := by rw [hw3]; exact hb2.alloc hb2.size _
    have hz3 : b0 ≤ w3.heap.size := by rw [hw3, hb0]; simp
    have ho3 : w3.ownsRow b0 5 1 (.slice (some ⟨b0, 0, none⟩) 0 0) 0 ((rd ps B a 0).map cellB) := by
      rw [hw3, hb0]
      exact ⟨by simp [rd], .inr ⟨w''.heap.size, 0, #[], rfl, Nat.le_refl _, block_new _ _, Nat.le_refl _, Nat.zero_le _, by simp, by simp [rd]⟩⟩
    rw [← hw3, ← hb0]
    have HW := Lib.hid (And.intro hb3 (And.intro ho3 (And.intro hs2 hz3)))
    clear hb2 hs2 hb3 hz3 ho3 hw3 hb0
    go_loopw [13, 14] (fun v i wr => ∃ (k gg cc : Nat), k ≤ n ∧ i = .int .i64 (k : Int) ∧ v = .slice (some ⟨gg, 0, none⟩) k cc ∧ wr.ownsRow b0 5 1 (.slice (some ⟨gg, 0, none⟩) k cc) k ((rd ps B a k).map cellB) ∧ Below w.heap.size w wr ∧ b0 ≤ wr.heap.size) (fun _ i _ => n - (intOf i).toNat)
    case atStart => exact ⟨0, b0, 0, Nat.zero_le _, rfl, rfl, HW.out.2.1, HW.out.1, HW.out.2.2.2⟩
    case round =>
      obtain ⟨k, gg, cc, hk, rfl, rfl, hown, hbw, hsz⟩ := hrel
      have hm := H.out.1.below hbw
      have c9 := hm.cell
      by_cases a0 : k < n
      · have hlow : 0 ≤ a := by
          have hx := (bad_zero (H.out.2.2.2.1 0 (by omega))).1
          unfold out at hx; omega
        obtain ⟨A, rfl⟩ : ∃ A : Nat, a = (A : Int) := ⟨a.toNat, by omega⟩
        have hgk := H.out.2.2.2.1 k a0
        have hok := (bad_zero hgk).1
        obtain ⟨hp1, hp2, hp3⟩ := pos_lt H.out.2.2.1 hgk
        have hnpk : (A : Int) + k < 256 * (np : Int) := by unfold out at hok; rw [← H.out.2.2.2.2] at hok; omega
        obtain ⟨q', cap', e1, e2, hc⟩ := H.out.2.1.below hbw
        injection e1 with e3 e4 e5
        have hne : ps ≠ [] := fun e => by have := H.out.2.2.2.2; subst e; simp at this; omega
        obtain ⟨b, o, hq, hG, hlt, hcell⟩ := hc hne
        obtain ⟨d0, _⟩ := hcell ((A + k) / 256) (by rw [← H.out.2.2.2.2]; omega)
        have hpg : pg ps ((A : Int) + (k : Nat)) = ps.getD ((A + k) / 256) (0, 0) := by unfold pg; rw [show (((A : Int) + (k : Nat)) / 256).toNat = (A + k) / 256 by omega]
        rw [← hpg] at d0
        obtain ⟨fN, hfN⟩ : ∃ fN : Nat, (pg ps ((A : Int) + (k : Nat))).1 = (fN : Int) := ⟨(pg ps ((A : Int) + (k : Nat))).1.toNat, by omega⟩
        rw [hfN] at d0 hp2
        have hfF : fN < F := by omega
        have d1 := hm.frame fN hfF
        have hXs := frameB_len hm.len hfF
        have hbyte : (frameB B fN)[(A + k) % 256]? = some (B.getD (pos ps ((A : Int) + (k : Nat))) 0) := by
          have hps : pos ps ((A : Int) + (k : Nat)) = 256 * fN + (A + k) % 256 := by unfold pos; rw [hfN]; omega
          rw [frameB_get _ _ _ (Nat.mod_lt _ (by omega)), ← hps, List.getD_eq_getElem?_getD, List.getElem?_eq_getElem (by rw [hm.len]; exact hp3)]
          rfl
        have e1 : (rd ps B A (k + 1)).map cellB = (rd ps B A k).map cellB ++ [cellB (B.getD (pos ps ((A : Int) + (k : Nat))) 0)] := by rw [rd_snoc, List.map_append]; rfl
        obtain ⟨Y, hY⟩ : ∃ Y, Y = B.getD (pos ps ((A : Int) + (k : Nat))) 0 := ⟨_, rfl⟩
        obtain ⟨X, hX⟩ : ∃ X, X = ofL (frameB B fN) := ⟨_, rfl⟩
        have hXz : X.size = 256 := by rw [hX, ofL_size, hXs]
        rw [← hX] at d1
        rw [← hY] at hbyte e1
        rw [← e3] at hq
        subst hq
        obtain ⟨W2, hW2⟩ : ∃ W2, W2 = (wr.alloc (.cells #[.int .u8 (Y.toNat : Int)] 5)).drew := ⟨_, rfl⟩
        have b2 : Below wr.heap.size wr W2 := by rw [hW2]; exact ((Below.refl _ wr).alloc (Nat.le_refl _) _).drew
        have hx2 : W2.heap[wr.heap.size]? = some (.cells #[.int .u8 (Y.toNat : Int)] 5 (0, 0)) := by rw [hW2]; exact heap_alloc_new wr _
        have ho2 : W2.ownsRow b0 5 1 (.slice (some ⟨gg, 0, none⟩) k cc) k ((rd ps B A k).map cellB) := hown.kept (show wr.grownBy W2 none from ⟨b2.os, b2.tape, b2.output, b2.size, fun i hi _ => b2.block i hi⟩) (by simp [Value.ownBlock])
        have HII := HI.out
        obtain ⟨v', w', hr, hown', hg', hnn, -⟩ := run_append_own_at (P := Try.prog) (w := W2) b0 97 97 5 i0 (.int .u8 0) 1 1 Try.underlying97 HII.1 HII.2.1 HII.2.2.1 HII.2.2.2 rfl (by decide) _ _ _ ho2 ⟨wr.heap.size, 0, none⟩ 1 1 [.int .u8 (Y.toNat : Int)] rfl (fun j u hj => by
          rw [addr_at, cell_of_row W2 _ _ _ _ _ hx2]
          simpa using hj) (by intro u hu; simp at hu; rcases hu with rfl; rfl) (by unfold maxLen; omega) (by omega) (Nat.le_trans hsz b2.size)
        change w'.ownsRow b0 5 1 v' (k + 1) ((rd ps B A k).map cellB ++ [cellB Y]) at hown'
        rw [← e1] at hown'
        have HOW : ∀ j, (Value.slice (some ⟨gg, 0, none⟩) k cc).ownBlock = some j → b0 ≤ j := fun j e => by
          rcases hown.2 with ⟨e2, _⟩ | ⟨g', _, _, e2, hb, _⟩
          · cases e2
          · injection e2 with e2; injection e2 with e2; injection e2 with e2
            have : gg = j := by simpa [Value.ownBlock] using e
            omega
        have b4 : Below w.heap.size w w' := (hbw.trans (b2.mono hbw.size)).grown hg' (Nat.le_trans hbw.size b2.size) (fun j e => Nat.le_trans HW.out.2.2.1 (HOW j e))
        obtain ⟨g', c', rfl⟩ : ∃ g' c', v' = .slice (some ⟨g', 0, none⟩) (k + 1) c' := by
          rcases hown'.2 with ⟨e, _⟩ | ⟨g', c', _, e, _⟩
          · rw [e] at hnn; simp at hnn
          · exact ⟨g', c', e⟩
        rw [hW2] at hr
        have HR := Lib.hid hr
        have HS := Lib.hid (And.intro hown' (And.intro b4 (And.intro (Nat.le_trans hsz (Nat.le_trans b2.size hg'.size)) hnn)))
        have x0 : wr.drew.cell? ⟨p, 0, none⟩ = some (.slice (some ⟨g, 0, none⟩) F cap) := c9
        have x1 : wr.drew.cell? ⟨b, o + (A + k) / 256 * 2, none⟩ = some (.int .i64 (fN : Int)) := d0
        have x2 : wr.drew.cell? ⟨g, fN, none⟩ = some (.string X) := d1
        obtain ⟨S, hS⟩ : ∃ S, S = A + k := ⟨_, rfl⟩
        obtain ⟨M, hM⟩ : ∃ M, M = S / 256 := ⟨_, rfl⟩
        obtain ⟨L, hL⟩ : ∃ L, L = S % 256 := ⟨_, rfl⟩
        have n1 : IntKind.i64.wrap ((A : Int) + (k : Int)) = (S : Int) := by rw [wrap_in (by omega)]; omega
        have n2 : IntKind.i64.wrap ((S : Int).tdiv 256) = (M : Int) := by rw [Int.tdiv_eq_ediv_of_nonneg (by omega), wrap_in (by omega)]; omega
        have n3 : (S : Int).tmod 256 = (L : Int) := by rw [Int.tmod_eq_emod_of_nonneg (by omega)]; omega
        have m2 : IntKind.i64.wrap ((S : Int) / 256) = (M : Int) := by rw [wrap_in (by omega)]; omega
        have m3 : (S : Int) % 256 = (L : Int) := by omega
        have m4 : IntKind.i64.wrap (L : Int) = (L : Int) := wrap_in (by omega)
        have n4 : (M : Int) < (np : Int) := by omega
        have n5 : (L : Int) < 256 := by omega
        have n6 : M < np := by omega
        have n7 : L < 256 := by omega
        rw [← hS, ← hM] at x1
        have n8 : L < X.size := by rw [hXz]; exact n7
        have hYe : X[L]'n8 = Y := by
          rw [← hS, ← hL] at hbyte
          subst hX
          rw [List.getElem?_eq_getElem (by rw [hXs]; exact n7)] at hbyte
          exact Option.some.inj hbyte
        have HL := Lib.hid (And.intro hS (And.intro hM hL))
        clear hS hM hL d0 hnpk
        clear hown hbw hm e1 hY hX hsz hc hcell e2 e3 e4 e5 hne hlt hG hpg hfN hp1 hp3 hgk hok hbyte hXs hlow b2 hx2 ho2 HII hr hown' hg' hnn HOW b4 hW2
        go_wp2
        go_region_law ((refine step_append_run (by rfl) _ _ 97 (by rfl) _ _ _ w' (by rfl) (by rfl) HR.out ?_))
        all_goals (
          go_wp2
          refine ⟨⟨k + 1, g', c', a0, rfl, rfl, HS.out.1, HS.out.2.1, HS.out.2.2.1⟩, ?_⟩
          have z := a0
          simp [intOf]; omega)
      · obtain rfl : k = n := by omega
        obtain ⟨hrow, hl⟩ := row5 hown
        have hcv := hrow.string (w' := wr) 0 k cc (by omega)
        rw [List.drop_zero, List.take_of_length_le (by omega)] at hcv
        have HF := Lib.hid hbw
        clear hown hbw hm hrow hl hsz
        go_wp2
        go_ret2
        exact ⟨rfl, HF.out⟩
  · go_enter Try.func41, Try.ntmps41
    go_wp2_with (first
      | (go_at_call 64; refine kc.mono ?_; rintro e w' ⟨rfl, hb⟩; have HB := Lib.hid hb; clear kc hb)
      | (go_at_call 65; refine (HT.out _ HB.out).mono ?_; rintro e w'' ⟨rfl, hb'⟩; have HB' := Lib.hid hb'; clear hb'))
    obtain ⟨b0, hb0⟩ : ∃ b0, b0 = w''.heap.size := ⟨_, rfl⟩
    obtain ⟨w3, hw3⟩ : ∃ w3, w3 = w''.alloc (.cells #[] 5) := ⟨_, rfl⟩
    have hb2 : Below w.heap.size w w'' := HB.out.trans (HB'.out.mono HB.out.size)
    have hs2 : w.heap.size ≤ b0 := by rw [hb0]; exact hb2.size
    have hb3 : Below w.heap.size w w3 := by rw [hw3]; exact hb2.alloc hb2.size _
    have hz3 : b0 ≤ w3.heap.size := by rw [hw3, hb0]; simp
    have ho3 : w3.ownsRow b0 5 1 (.slice (some ⟨b0, 0, none⟩) 0 0) 0 ((rd ps B a 0).map cellB) := by
      rw [hw3, hb0]
      exact ⟨by simp [rd], .inr ⟨w''.heap.size, 0, #[], rfl, Nat.le_refl _, block_new _ _, Nat.le_refl _, Nat.zero_le _, by simp, by simp [rd]⟩⟩
    rw [← hw3, ← hb0]
    have HW := Lib.hid (And.intro hb3 (And.intro ho3 (And.intro hs2 hz3)))
    clear hb2 hs2 hb3 hz3 ho3 hw3 hb0
    go_loopw [13, 14] (fun v i wr => ∃ (k gg cc : Nat), k ≤ n ∧ i = .int .i64 (k : Int) ∧ v = .slice (some ⟨gg, 0, none⟩) k cc ∧ wr.ownsRow b0 5 1 (.slice (some ⟨gg, 0, none⟩) k cc) k ((rd ps B a k).map cellB) ∧ Below w.heap.size w wr ∧ b0 ≤ wr.heap.size) (fun _ i _ => n - (intOf i).toNat)
    case atStart => exact ⟨0, b0, 0, Nat.zero_le _, rfl, rfl, HW.out.2.1, HW.out.1, HW.out.2.2.2⟩
    case round =>
      obtain ⟨k, gg, cc, hk, rfl, rfl, hown, hbw, hsz⟩ := hrel
      have hm := H.out.1.below hbw
      have c9 := hm.cell
      by_cases a0 : k < n
      · have hlow : 0 ≤ a := by
          have hx := (bad_zero (H.out.2.2.2.1 0 (by omega))).1
          unfold out at hx; omega
        obtain ⟨A, rfl⟩ : ∃ A : Nat, a = (A : Int) := ⟨a.toNat, by omega⟩
        have hgk := H.out.2.2.2.1 k a0
        have hok := (bad_zero hgk).1
        obtain ⟨hp1, hp2, hp3⟩ := pos_lt H.out.2.2.1 hgk
        have hnpk : (A : Int) + k < 256 * (np : Int) := by unfold out at hok; rw [← H.out.2.2.2.2] at hok; omega
        obtain ⟨q', cap', e1, e2, hc⟩ := H.out.2.1.below hbw
        injection e1 with e3 e4 e5
        have hne : ps ≠ [] := fun e => by have := H.out.2.2.2.2; subst e; simp at this; omega
        obtain ⟨b, o, hq, hG, hlt, hcell⟩ := hc hne
        obtain ⟨d0, _⟩ := hcell ((A + k) / 256) (by rw [← H.out.2.2.2.2]; omega)
        have hpg : pg ps ((A : Int) + (k : Nat)) = ps.getD ((A + k) / 256) (0, 0) := by unfold pg; rw [show (((A : Int) + (k : Nat)) / 256).toNat = (A + k) / 256 by omega]
        rw [← hpg] at d0
        obtain ⟨fN, hfN⟩ : ∃ fN : Nat, (pg ps ((A : Int) + (k : Nat))).1 = (fN : Int) := ⟨(pg ps ((A : Int) + (k : Nat))).1.toNat, by omega⟩
        rw [hfN] at d0 hp2
        have hfF : fN < F := by omega
        have d1 := hm.frame fN hfF
        have hXs := frameB_len hm.len hfF
        have hbyte : (frameB B fN)[(A + k) % 256]? = some (B.getD (pos ps ((A : Int) + (k : Nat))) 0) := by
          have hps : pos ps ((A : Int) + (k : Nat)) = 256 * fN + (A + k) % 256 := by unfold pos; rw [hfN]; omega
          rw [frameB_get _ _ _ (Nat.mod_lt _ (by omega)), ← hps, List.getD_eq_getElem?_getD, List.getElem?_eq_getElem (by rw [hm.len]; exact hp3)]
          rfl
        have e1 : (rd ps B A (k + 1)).map cellB = (rd ps B A k).map cellB ++ [cellB (B.getD (pos ps ((A : Int) + (k : Nat))) 0)] := by rw [rd_snoc, List.map_append]; rfl
        obtain ⟨Y, hY⟩ : ∃ Y, Y = B.getD (pos ps ((A : Int) + (k : Nat))) 0 := ⟨_, rfl⟩
        obtain ⟨X, hX⟩ : ∃ X, X = ofL (frameB B fN) := ⟨_, rfl⟩
        have hXz : X.size = 256 := by rw [hX, ofL_size, hXs]
        rw [← hX] at d1
        rw [← hY] at hbyte e1
        rw [← e3] at hq
        subst hq
        obtain ⟨W2, hW2⟩ : ∃ W2, W2 = (wr.alloc (.cells #[.int .u8 (Y.toNat : Int)] 5)).drew := ⟨_, rfl⟩
        have b2 : Below wr.heap.size wr W2 := by rw [hW2]; exact ((Below.refl _ wr).alloc (Nat.le_refl _) _).drew
        have hx2 : W2.heap[wr.heap.size]? = some (.cells #[.int .u8 (Y.toNat : Int)] 5 (0, 0)) := by rw [hW2]; exact heap_alloc_new wr _
        have ho2 : W2.ownsRow b0 5 1 (.slice (some ⟨gg, 0, none⟩) k cc) k ((rd ps B A k).map cellB) := hown.kept (show wr.grownBy W2 none from ⟨b2.os, b2.tape, b2.output, b2.size, fun i hi _ => b2.block i hi⟩) (by simp [Value.ownBlock])
        have HII := HI.out
        obtain ⟨v', w', hr, hown', hg', hnn, -⟩ := run_append_own_at (P := Try.prog) (w := W2) b0 97 97 5 i0 (.int .u8 0) 1 1 Try.underlying97 HII.1 HII.2.1 HII.2.2.1 HII.2.2.2 rfl (by decide) _ _ _ ho2 ⟨wr.heap.size, 0, none⟩ 1 1 [.int .u8 (Y.toNat : Int)] rfl (fun j u hj => by
          rw [addr_at, cell_of_row W2 _ _ _ _ _ hx2]
          simpa using hj) (by intro u hu; simp at hu; rcases hu with rfl; rfl) (by unfold maxLen; omega) (by omega) (Nat.le_trans hsz b2.size)
        change w'.ownsRow b0 5 1 v' (k + 1) ((rd ps B A k).map cellB ++ [cellB Y]) at hown'
        rw [← e1] at hown'
        have HOW : ∀ j, (Value.slice (some ⟨gg, 0, none⟩) k cc).ownBlock = some j → b0 ≤ j := fun j e => by
          rcases hown.2 with ⟨e2, _⟩ | ⟨g', _, _, e2, hb, _⟩
          · cases e2
          · injection e2 with e2; injection e2 with e2; injection e2 with e2
            have : gg = j := by simpa [Value.ownBlock] using e
            omega
        have b4 : Below w.heap.size w w' := (hbw.trans (b2.mono hbw.size)).grown hg' (Nat.le_trans hbw.size b2.size) (fun j e => Nat.le_trans HW.out.2.2.1 (HOW j e))
        obtain ⟨g', c', rfl⟩ : ∃ g' c', v' = .slice (some ⟨g', 0, none⟩) (k + 1) c' := by
          rcases hown'.2 with ⟨e, _⟩ | ⟨g', c', _, e, _⟩
          · rw [e] at hnn; simp at hnn
          · exact ⟨g', c', e⟩
        rw [hW2] at hr
        have HR := Lib.hid hr
        have HS := Lib.hid (And.intro hown' (And.intro b4 (And.intro (Nat.le_trans hsz (Nat.le_trans b2.size hg'.size)) hnn)))
        have x0 : wr.drew.cell? ⟨p, 0, none⟩ = some (.slice (some ⟨g, 0, none⟩) F cap) := c9
        have x1 : wr.drew.cell? ⟨b, o + (A + k) / 256 * 2, none⟩ = some (.int .i64 (fN : Int)) := d0
        have x2 : wr.drew.cell? ⟨g, fN, none⟩ = some (.string X) := d1
        obtain ⟨S, hS⟩ : ∃ S, S = A + k := ⟨_, rfl⟩
        obtain ⟨M, hM⟩ : ∃ M, M = S / 256 := ⟨_, rfl⟩
        obtain ⟨L, hL⟩ : ∃ L, L = S % 256 := ⟨_, rfl⟩
        have n1 : IntKind.i64.wrap ((A : Int) + (k : Int)) = (S : Int) := by rw [wrap_in (by omega)]; omega
        have n2 : IntKind.i64.wrap ((S : Int).tdiv 256) = (M : Int) := by rw [Int.tdiv_eq_ediv_of_nonneg (by omega), wrap_in (by omega)]; omega
        have n3 : (S : Int).tmod 256 = (L : Int) := by rw [Int.tmod_eq_emod_of_nonneg (by omega)]; omega
        have m2 : IntKind.i64.wrap ((S : Int) / 256) = (M : Int) := by rw [wrap_in (by omega)]; omega
        have m3 : (S : Int) % 256 = (L : Int) := by omega
        have m4 : IntKind.i64.wrap (L : Int) = (L : Int) := wrap_in (by omega)
        have n4 : (M : Int) < (np : Int) := by omega
        have n5 : (L : Int) < 256 := by omega
        have n6 : M < np := by omega
        have n7 : L < 256 := by omega
        rw [← hS, ← hM] at x1
        have n8 : L < X.size := by rw [hXz]; exact n7
        have hYe : X[L]'n8 = Y := by
          rw [← hS, ← hL] at hbyte
          subst hX
          rw [List.getElem?_eq_getElem (by rw [hXs]; exact n7)] at hbyte
          exact Option.some.inj hbyte
        have HL := Lib.hid (And.intro hS (And.intro hM hL))
        clear hS hM hL d0 hnpk
        clear hown hbw hm e1 hY hX hsz hc hcell e2 e3 e4 e5 hne hlt hG hpg hfN hp1 hp3 hgk hok hbyte hXs hlow b2 hx2 ho2 HII hr hown' hg' hnn HOW b4 hW2
        go_wp2
        go_region_law ((refine step_append_run (by rfl) _ _ 97 (by rfl) _ _ _ w' (by rfl) (by rfl) HR.out ?_))
        all_goals (
          go_wp2
          refine ⟨⟨k + 1, g', c', a0, rfl, rfl, HS.out.1, HS.out.2.1, HS.out.2.2.1⟩, ?_⟩
          have z := a0
          simp [intOf]; omega)
      · obtain rfl : k = n := by omega
        obtain ⟨hrow, hl⟩ := row5 hown
        have hcv := hrow.string (w' := wr) 0 k cc (by omega)
        rw [List.drop_zero, List.take_of_length_le (by omega)] at hcv
        have HF := Lib.hid hbw
        clear hown hbw hm hrow hl hsz
        go_wp2
        go_ret2
        exact ⟨rfl, HF.out⟩
theorem rread_any (p g cap F : Nat) (B : Bts) (w : World) (h : IsR w p g cap F B) (G : Nat → Prop) (v : Value) (ps : List Pg) (ht : TabV G w v ps) (a n R : Int) (ha : In64 a) :
    Calls Try.prog 41 #[.pointer (some ⟨p, 0, none⟩), v, .int .i64 a, .int .i64 n, .int .i64 R] w fun e w' => e = .returned (.tuple #[.string (ofL (readS F ps B a n R)), .int .i64 (readE F ps a n R)]) ∧ Below w.heap.size w w' := by
  by_cases h0 : readE F ps a n R = 0
  · have hn : 0 ≤ n := by
      unfold readE at h0
      split at h0
      · split at h0
        · rename_i q; exact q.1
        · cases h0
      · contradiction
    obtain ⟨m, rfl⟩ : ∃ m : Nat, n = (m : Int) := ⟨n.toNat, by omega⟩
    unfold readS
    rw [if_pos h0, h0, Int.toNat_natCast]
    exact rread_ok p g cap F B w h G v ps ht a m R ha h0
  · unfold readS
    rw [if_neg h0]
    exact rread_no p g cap F B w h G v ps ht a n R ha h0
end Go.Proofs.Ytedhefidfepclaa
