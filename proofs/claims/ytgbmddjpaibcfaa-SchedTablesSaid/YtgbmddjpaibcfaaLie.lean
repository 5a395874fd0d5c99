/- Each tick lies in just one window: the walk of the law. No conditions. -/
import Derived.Test.YtgbmddjpaibcfaaFxd
import Derived.Deep.RegionHeld3
namespace Go.Proofs.Ytgbmddjpaibcfaa
open Go.RowKit Go.Maps
set_option linter.unusedVariables false
set_option linter.unusedSimpArgs false

theorem loc_spec : ∀ (ns : List Nat) (r : Nat), r < ns.sum → ∃ (k o : Nat) (hk : k < ns.length), loc ns r = (k, o) ∧ o < ns[k] ∧ bnd ns k + o = r
  | [], r, h => absurd h (by simp)
  | n :: ns, r, h => by
    by_cases a : r < n
    · exact ⟨0, r, by simp, by unfold loc; rw [if_pos a], a, by rw [bnd_zero, Nat.zero_add]⟩
    · obtain ⟨k, o, hk, h1, h2, h3⟩ := loc_spec ns (r - n) (by rw [List.sum_cons] at h; omega)
      exact ⟨k + 1, o, by simp; omega, by unfold loc; rw [if_neg a, h1], h2, by rw [bnd_cons]; omega⟩
/-- the next place -/
def nxP (n : Nat) (m : Nat) (M k o : Nat) : Nat × Nat × Nat := if o + 1 < m then (M, k, o + 1) else if k + 1 < n then (M, k + 1, 0) else (M + 1, 0, 0)
theorem at_next {ws : List Wn} (hok : okL ws) (t : Nat) (ht : t < 1099511627776) : ∃ (k o m : Nat) (hk : k < ws.length), (ws.getD k w0).2.2 = (m : Int) ∧ m ≤ 255 ∧ o < m ∧
    atV ws (t : Int) = (((t / lenN ws : Nat) : Int), (k : Int), (o : Int), 0) ∧
    atV ws ((t : Int) + 1) = (((nxP ws.length m (t / lenN ws) k o).1 : Int), ((nxP ws.length m (t / lenN ws) k o).2.1 : Int), ((nxP ws.length m (t / lenN ws) k o).2.2 : Int), 0) := by
  have hL := lenN_ok hok
  obtain ⟨L, hLe⟩ : ∃ L, L = lenN ws := ⟨_, rfl⟩
  have hr : t % L < L := Nat.mod_lt _ (by omega)
  obtain ⟨k, o, hk, h1, h2, h3⟩ := loc_spec (tks ws) (t % L) (by rw [hLe] at hr ⊢; exact hr)
  have hk' : k < ws.length := by rw [← tks_len]; exact hk
  obtain ⟨hg1, hg2, hg3⟩ := tks_get hok k hk'
  obtain ⟨m, hm⟩ : ∃ m : Nat, m = (tks ws)[k] := ⟨_, rfl⟩
  have e1 : atV ws (t : Int) = (((t / lenN ws : Nat) : Int), (k : Int), (o : Int), 0) := by
    unfold atV
    rw [if_pos hok, if_pos (show isT (t : Int) from ⟨by omega, by omega⟩)]
    show (((t / lenN ws : Nat) : Int), _, _, _) = _
    rw [show ((t : Int)).toNat = t from rfl, ← hLe, h1]
  have e2 : atV ws ((t : Int) + 1) = ((((t + 1) / L : Nat) : Int), (((loc (tks ws) ((t + 1) % L)).1 : Nat) : Int), (((loc (tks ws) ((t + 1) % L)).2 : Nat) : Int), 0) := by
    unfold atV
    rw [if_pos hok, if_pos (show isT ((t : Int) + 1) from ⟨by omega, by omega⟩), ← hLe, show ((t : Int) + 1).toNat = t + 1 by omega]
  refine ⟨k, o, m, hk', by rw [hm]; exact hg1, by rw [hm]; exact hg3, by rw [hm]; exact h2, e1, ?_⟩
  rw [e2, ← hLe]
  have hs := bnd_succ (tks ws) k hk
  rw [← hm] at hs h2
  have hdm := Nat.div_add_mod t L
  by_cases c1 : o + 1 < m
  · have hlt : t % L + 1 < L := by
      have := bnd_mono (tks ws) (i := k + 1) (j := (tks ws).length) (by omega)
      rw [bnd_all] at this
      have : L = (tks ws).sum := hLe
      omega
    have hq : (t + 1) / L = t / L ∧ (t + 1) % L = t % L + 1 := by
      have hx := (Nat.div_mod_unique (show 0 < L by omega)).2 (⟨by omega, hlt⟩ : (t % L + 1) + L * (t / L) = t + 1 ∧ t % L + 1 < L)
      exact hx
    have hl := loc_is (tks ws) (t % L + 1) k hk (by omega) (by omega)
    rw [hq.1, hq.2, hl]
    unfold nxP
    rw [if_pos c1, show t % L + 1 - bnd (tks ws) k = o + 1 by omega]
  · by_cases c2 : k + 1 < ws.length
    · have hk2 : k + 1 < (tks ws).length := by rw [tks_len]; exact c2
      have hs2 := bnd_succ (tks ws) (k + 1) hk2
      have hp2 := (tks_le hok _ (List.getElem_mem hk2)).1
      have hlt : t % L + 1 < L := by
        have := bnd_mono (tks ws) (i := k + 1 + 1) (j := (tks ws).length) (by omega)
        rw [bnd_all] at this
        have : L = (tks ws).sum := hLe
        omega
      have hq : (t + 1) / L = t / L ∧ (t + 1) % L = t % L + 1 := by
        have hx := (Nat.div_mod_unique (show 0 < L by omega)).2 (⟨by omega, hlt⟩ : (t % L + 1) + L * (t / L) = t + 1 ∧ t % L + 1 < L)
        exact hx
      have hl := loc_is (tks ws) (t % L + 1) (k + 1) hk2 (by omega) (by omega)
      rw [hq.1, hq.2, hl]
      unfold nxP
      rw [if_neg c1, if_pos c2, show t % L + 1 - bnd (tks ws) (k + 1) = 0 by omega]
    · have hkl : k + 1 = (tks ws).length := by rw [tks_len]; omega
      have hlt : t % L + 1 = L := by
        have h5 := bnd_all (tks ws)
        rw [← hkl] at h5
        have : L = (tks ws).sum := hLe
        omega
      have hq : (t + 1) / L = t / L + 1 ∧ (t + 1) % L = 0 := by
        have hx := (Nat.div_mod_unique (show 0 < L by omega)).2 (⟨by rw [Nat.mul_add, Nat.mul_one, Nat.zero_add]; omega, by omega⟩ : 0 + L * (t / L + 1) = t + 1 ∧ 0 < L)
        exact hx
      have h0 : 0 < (tks ws).length := by omega
      have hp0 := (tks_le hok _ (List.getElem_mem h0)).1
      have hs0 := bnd_succ (tks ws) 0 h0
      have hl := loc_is (tks ws) 0 0 h0 (by rw [bnd_zero]; exact Nat.le_refl _) (by rw [hs0, bnd_zero]; omega)
      rw [hq.1, hq.2, hl]
      unfold nxP
      rw [if_neg c1, if_neg c2, bnd_zero]
theorem below_drew {B : Nat} {a w : World} (h : Below B a w) : Below B a w.drew := ⟨h.os, h.tape, h.output, h.size, h.block⟩
set_option maxRecDepth 100000 in
set_option maxHeartbeats 4000000 in
theorem lies_out (w : World) (G : Nat → Prop) (v : Value) (ws : List Wn) (ht : WinV G w v ws) (hl : ws.length ≤ 140737488355328) (t : Int) (hno : ¬ (okL ws ∧ 0 ≤ t ∧ t < 1099511627776)) :
    Calls Try.prog 5 #[v, .int .i64 t] w fun e w' => e = .returned (.bool true) ∧ Below w.heap.size w w' := by
  have k1 := at_any w G v ws ht t
  have KC : Hid (∀ W, Below w.heap.size w W → Calls Try.prog 11 #[v] W fun e w' => e = .returned (.int .i64 (chkE ws)) ∧ Below W.heap.size W w') := Lib.hid fun W hW => rcheck_any W G v ws (ht.below hW) hl
  have KF : Hid (∀ W, Calls Try.prog 18 #[] W fun e w' => e = .returned (.bool true) ∧ Below W.heap.size W w') := Lib.hid fixed_any
  obtain ⟨q, n, cap0, rfl⟩ : ∃ q n cap, v = .slice q n cap := by obtain ⟨q, cap, e, _⟩ := ht; exact ⟨_, _, _, e⟩
  have main : ∀ (a b c E X : Int), atV ws t = (a, b, c, E) → chkE ws = X → ((E ≠ 0 ∧ a = 0 ∧ b = 0 ∧ c = 0) ∨ (E = 0 ∧ t = 1099511627776 ∧ X = 0)) → (X ≠ 0 ∨ (X = 0 ∧ t < 0) ∨ (X = 0 ∧ ¬ t < 0 ∧ 1099511627776 ≤ t)) →
      Calls Try.prog 5 #[.slice q n cap0, .int .i64 t] w fun e w' => e = .returned (.bool true) ∧ Below w.heap.size w w' := by
    intro a b c E X e1 e2 hA hX
    rw [e1] at k1
    rw [e2] at KC
    clear e1 e2 hno ht
    rcases hA with ⟨hE, rfl, rfl, rfl⟩ | ⟨rfl, rfl, rfl⟩
    · have hE2 : (E != 0) = true := by simpa using hE
      rcases hX with hX | ⟨rfl, hX⟩ | ⟨rfl, hX, hX2⟩
      all_goals
        try have hX3 : (X != 0) = true := by simpa using hX
        try clear hE
        go_enter Try.func5, Try.ntmps5
        go_wp2_with (first
          | (go_at_call 12; refine k1.mono ?_; rintro e w2 ⟨rfl, hb⟩; have H2 := Lib.hid (hb.alloc hb.size (.cells #[.int .i64 0, .int .i64 0, .int .i64 0] 30)); have HP := Lib.hid (block_new w2 (.cells #[.int .i64 0, .int .i64 0, .int .i64 0] 30)); clear hb)
          | (go_at_call 11; refine (KC.out _ H2.out).mono ?_; rintro e w3 ⟨rfl, hb⟩; have H3 := Lib.hid (H2.out.trans (hb.mono H2.out.size)); have hp := (hb.block _ (block_lt HP.out)).trans HP.out
             have p0 : w3.cell? ⟨w2.heap.size, 0, none⟩ = some (.int .i64 0) := by rw [cell_of_row _ _ _ _ _ _ hp]; rfl
             have p1 : w3.cell? ⟨w2.heap.size, 1, none⟩ = some (.int .i64 0) := by rw [cell_of_row _ _ _ _ _ _ hp]; rfl
             have p2 : w3.cell? ⟨w2.heap.size, 2, none⟩ = some (.int .i64 0) := by rw [cell_of_row _ _ _ _ _ _ hp]; rfl
             clear hb hp)
          | (go_at_call 18; refine (KF.out _).mono ?_; rintro e w4 ⟨rfl, hb⟩; have H4 := Lib.hid (H3.out.trans (hb.mono H3.out.size)); clear hb))
        go_ret
        exact ⟨rfl, H4.out⟩
    · go_enter Try.func5, Try.ntmps5
      go_wp2_with (first
        | (go_at_call 12; refine k1.mono ?_; rintro e w2 ⟨rfl, hb⟩; have H2 := Lib.hid (hb.alloc hb.size (.cells #[.int .i64 a, .int .i64 b, .int .i64 c] 30)); clear hb)
        | (go_at_call 11; refine (KC.out _ H2.out).mono ?_; rintro e w3 ⟨rfl, hb⟩; have H3 := Lib.hid (H2.out.trans (hb.mono H2.out.size)); clear hb)
        | (go_at_call 18; refine (KF.out _).mono ?_; rintro e w4 ⟨rfl, hb⟩; have H4 := Lib.hid (H3.out.trans (hb.mono H3.out.size)); clear hb))
      go_ret
      exact ⟨rfl, H4.out⟩
  by_cases hok : okL ws
  · have e2 : chkE ws = 0 := if_pos hok
    by_cases hT : isT t
    · have h1 : t = 1099511627776 := by
        have h1 := hT.1
        have h2 := hT.2
        have h3 : ¬ t < 1099511627776 := fun h => hno ⟨hok, h1, h⟩
        omega
      have e1 : (atV ws t).2.2.2 = 0 := by unfold atV; rw [if_pos hok, if_pos hT]
      exact main _ _ _ _ _ rfl e2 (.inr ⟨e1, h1, rfl⟩) (.inr (.inr ⟨rfl, by omega, by omega⟩))
    · have e1 : atV ws t = (0, 0, 0, 1) := by unfold atV; rw [if_pos hok, if_neg hT]
      refine main 0 0 0 1 0 e1 e2 (.inl ⟨by decide, rfl, rfl, rfl⟩) ?_
      by_cases h : t < 0
      · exact .inr (.inl ⟨rfl, h⟩)
      · refine .inr (.inr ⟨rfl, h, ?_⟩)
        have : ¬ t ≤ 1099511627776 := fun q => hT ⟨by omega, q⟩
        omega
  · have e1 : atV ws t = (0, 0, 0, 130) := by unfold atV; rw [if_neg hok]
    have e2 : chkE ws = 130 := if_neg hok
    exact main 0 0 0 130 130 e1 e2 (.inl ⟨by decide, rfl, rfl, rfl⟩) (.inl (by decide))
set_option maxRecDepth 100000 in
set_option maxHeartbeats 4000000 in
theorem lies_in (w : World) (G : Nat → Prop) (v : Value) (ws : List Wn) (ht : WinV G w v ws) (hl : ws.length ≤ 140737488355328) (t : Nat) (hok : okL ws) (h40 : t < 1099511627776) :
    Calls Try.prog 5 #[v, .int .i64 (t : Int)] w fun e w' => e = .returned (.bool true) ∧ Below w.heap.size w w' := by
  obtain ⟨k, o, m, hk, hm, hm2, ho, e1, e2⟩ := at_next hok t h40
  obtain ⟨q, n, cap0, rfl⟩ : ∃ q n cap, v = .slice q n cap := by obtain ⟨q, cap, e, _⟩ := ht; exact ⟨_, _, _, e⟩
  have hn : n = ws.length := by obtain ⟨q, cap, e, _⟩ := ht; injection e
  have hL := lenN_ok hok
  obtain ⟨L, hLe⟩ : ∃ L, L = lenN ws := ⟨_, rfl⟩
  rw [← hLe] at hL e1 e2
  rw [← hn] at hk e2
  obtain ⟨M, hM⟩ : ∃ M, M = t / L := ⟨_, rfl⟩
  have hM2 : M ≤ 1099511627776 := by rw [hM]; exact Nat.le_trans (Nat.div_le_self _ _) (by omega)
  rw [← hM] at e1 e2
  have hn64 : n ≤ 64 := by rw [hn]; exact hok.2.1
  obtain ⟨g, oo, rfl, hcell⟩ : ∃ g oo, q = some ⟨g, oo, none⟩ ∧ ∀ W, Below w.heap.size w W → W.cell? ⟨g, oo + k * 3 + 2, none⟩ = some (.int .i64 (m : Int)) := by
    obtain ⟨q', cap, e, _, hc⟩ := ht
    injection e with ea eb ec
    obtain ⟨b, o', hq, _, hlt, hcl⟩ := hc (fun e => by rw [e] at hn; simp at hn; omega)
    refine ⟨b, o', ea.trans hq, fun W hW => ?_⟩
    have := (hcl k (by omega)).2.2
    rw [hm] at this
    exact cell_below this hW
  have k1 := at_any w G _ ws ht (t : Int)
  rw [e1] at k1
  obtain ⟨N1, N2, N3, hN⟩ : ∃ N1 N2 N3, nxP n m M k o = (N1, N2, N3) := ⟨_, _, _, rfl⟩
  rw [hN] at e2
  have KC : Hid (∀ W, Below w.heap.size w W → Calls Try.prog 11 #[.slice (some ⟨g, oo, none⟩) n cap0] W fun e w' => e = .returned (.int .i64 0) ∧ Below W.heap.size W w') := Lib.hid fun W hW => by
    have := rcheck_any W G _ ws (ht.below hW) hl
    rw [show chkE ws = 0 from if_pos hok] at this; exact this
  have KA : Hid (∀ W, Below w.heap.size w W → Calls Try.prog 12 #[.slice (some ⟨g, oo, none⟩) n cap0, .int .i64 ((t : Int) + 1)] W fun e w' => e = .returned (.tuple #[.agg #[.int .i64 (N1 : Int), .int .i64 (N2 : Int), .int .i64 (N3 : Int)], .int .i64 0]) ∧ Below W.heap.size W w') := Lib.hid fun W hW => by
    have := at_any W G _ ws (ht.below hW) ((t : Int) + 1)
    rw [e2] at this; exact this
  have KL : Hid (∀ W, Below w.heap.size w W → Calls Try.prog 8 #[.slice (some ⟨g, oo, none⟩) n cap0] W fun e w' => e = .returned (.tuple #[.int .i64 (L : Int), .int .i64 0]) ∧ Below W.heap.size W w') := Lib.hid fun W hW => by
    have := len_any W G _ ws (ht.below hW)
    rw [show chkE ws = 0 from if_pos hok, show lenV ws = (L : Nat) by rw [hLe]; exact if_pos hok] at this; exact this
  have KF : Hid (∀ W, Calls Try.prog 18 #[] W fun e w' => e = .returned (.bool true) ∧ Below W.heap.size W w') := Lib.hid fixed_any
  have KT := Lib.hid hcell
  obtain ⟨T, hT⟩ : ∃ T : Int, T = (t : Int) := ⟨_, rfl⟩
  rw [← hT] at k1 KA
  rw [← hT]
  have kI : (k : Int) < (n : Int) := by omega
  have oI : (o : Int) < (m : Int) := by omega
  have t1 : ¬ T < 0 := by omega
  have t2 : ¬ (1099511627776 : Int) ≤ T := by omega
  have HM := Lib.hid (And.intro (And.intro hM hT) (And.intro hN (And.intro hk (And.intro ho (And.intro hm2 (And.intro hL (And.intro hM2 hn64)))))))
  have t3 : IntKind.i64.wrap (T + 1) = T + 1 := IntWalk.i64_in _ (by omega)
  have t4 : wrap64 (T + 1) = T + 1 := w64 (by omega)
  clear ht hm hLe e1 e2 hn hcell hok hM hN hk ho hm2 hL hM2 hn64 h40 hT
  go_enter Try.func5, Try.ntmps5
  go_wp2_with (first
    | (go_at_call 12; (with_reducible refine k1.mono ?_); rintro e w2 ⟨rfl, hb⟩; have H2 := Lib.hid (hb.alloc hb.size (.cells #[.int .i64 (M : Int), .int .i64 (k : Int), .int .i64 (o : Int)] 30)); have HP := Lib.hid (block_new w2 (.cells #[.int .i64 (M : Int), .int .i64 (k : Int), .int .i64 (o : Int)] 30)); clear hb)
    | (go_at_call 11; refine (KC.out _ H2.out).mono ?_; rintro e w3 ⟨rfl, hb⟩; have H3 := Lib.hid (H2.out.trans (hb.mono H2.out.size)); have HP3 := Lib.hid ((hb.block _ (block_lt HP.out)).trans HP.out); clear hb)
    | (go_at_call 12; (with_reducible refine (KA.out _ H3.out).mono ?_); rintro e w4 ⟨rfl, hb⟩; have h4 := H3.out.trans (hb.mono H3.out.size); have H4 := Lib.hid (h4.alloc h4.size (.cells #[.int .i64 (N1 : Int), .int .i64 (N2 : Int), .int .i64 (N3 : Int)] 30)); have hp := block_alloc ((hb.block _ (block_lt HP3.out)).trans HP3.out) (.cells #[.int .i64 (N1 : Int), .int .i64 (N2 : Int), .int .i64 (N3 : Int)] 30); have hq := block_new w4 (.cells #[.int .i64 (N1 : Int), .int .i64 (N2 : Int), .int .i64 (N3 : Int)] 30); clear hb h4))
  obtain ⟨Bp, hBp⟩ : ∃ Bp, Bp = w2.heap.size := ⟨_, rfl⟩
  obtain ⟨Bq, hBq⟩ : ∃ Bq, Bq = w4.heap.size := ⟨_, rfl⟩
  obtain ⟨W5, hW5⟩ : ∃ W5, W5 = w4.alloc (.cells #[.int .i64 (N1 : Int), .int .i64 (N2 : Int), .int .i64 (N3 : Int)] 30) := ⟨_, rfl⟩
  rw [← hBp, ← hW5] at hp
  rw [← hBq, ← hW5] at hq
  have h5 := H4.out
  rw [← hW5] at h5
  rw [← hBp, ← hBq, ← hW5]
  clear hBp hBq hW5 H4
  have p0 : W5.cell? ⟨Bp, 0, none⟩ = some (.int .i64 (M : Int)) := by rw [cell_of_row _ _ _ _ _ _ hp]; rfl
  have p1 : W5.cell? ⟨Bp, 1, none⟩ = some (.int .i64 (k : Int)) := by rw [cell_of_row _ _ _ _ _ _ hp]; rfl
  have p2 : W5.cell? ⟨Bp, 2, none⟩ = some (.int .i64 (o : Int)) := by rw [cell_of_row _ _ _ _ _ _ hp]; rfl
  have pt := KT.out _ h5
  have d1 : decide ((k : Int) < 0) = false := decide_eq_false (by omega)
  have d2 : decide ((n : Int) ≤ (k : Int)) = false := decide_eq_false (by omega)
  have d2' : decide (n ≤ k) = false := decide_eq_false (by omega)
  have d4' : decide (m ≤ o) = false := decide_eq_false (by omega)
  have d3 : decide ((o : Int) < 0) = false := decide_eq_false (by omega)
  have d4 : decide ((m : Int) ≤ (o : Int)) = false := decide_eq_false (by omega)
  have H5 := Lib.hid (And.intro h5 (And.intro hp hq))
  clear h5 hp hq HP HP3
  go_quiet (fail)
  obtain ⟨h5, hp, hq⟩ := H5.out
  obtain ⟨⟨hM, hT⟩, hN, hk, ho, hm2, hL, hM2, hn64⟩ := HM.out
  have hb6 : Below w.heap.size w (W5.drewN nq) := below_drewN h5 nq
  have hp6 : (W5.drewN nq).heap[Bp]? = some (.cells #[.int .i64 (M : Int), .int .i64 (k : Int), .int .i64 (o : Int)] 30 (0, 0)) := hp
  have hq6 : (W5.drewN nq).heap[Bq]? = some (.cells #[.int .i64 (N1 : Int), .int .i64 (N2 : Int), .int .i64 (N3 : Int)] 30 (0, 0)) := hq
  generalize W5.drewN nq = W6 at *
  have p0 : W6.cell? ⟨Bp, 0, none⟩ = some (.int .i64 (M : Int)) := by rw [cell_of_row _ _ _ _ _ _ hp6]; rfl
  have p1 : W6.cell? ⟨Bp, 1, none⟩ = some (.int .i64 (k : Int)) := by rw [cell_of_row _ _ _ _ _ _ hp6]; rfl
  have p2 : W6.cell? ⟨Bp, 2, none⟩ = some (.int .i64 (o : Int)) := by rw [cell_of_row _ _ _ _ _ _ hp6]; rfl
  have o1 : IntKind.i64.wrap ((o : Int) + 1) = (o : Int) + 1 := IntWalk.i64_in _ (by omega)
  have H6 := Lib.hid (And.intro hb6 (And.intro hp6 hq6))
  clear h5 hp hq hb6 hp6 hq6 H5 hM hT hN hk ho hm2 hL hM2 hn64 pt d1 d2 d2' d3 d4 d4'
  go_wp2
  obtain ⟨hb6, hp6, hq6⟩ := H6.out
  obtain ⟨Bw, hBw⟩ : ∃ Bw, Bw = W6.heap.size := ⟨_, rfl⟩
  obtain ⟨W7, hW7⟩ : ∃ W7, W7 = W6.alloc (.cells #[.int .i64 (M : Int), .int .i64 (k : Int), .int .i64 ((o : Int) + 1)] 30) := ⟨_, rfl⟩
  have hw7 : W7.heap[Bw]? = some (.cells #[.int .i64 (M : Int), .int .i64 (k : Int), .int .i64 ((o : Int) + 1)] 30 (0, 0)) := by rw [hW7, hBw]; exact block_new _ _
  have hp7 : W7.heap[Bp]? = some (.cells #[.int .i64 (M : Int), .int .i64 (k : Int), .int .i64 (o : Int)] 30 (0, 0)) := by rw [hW7]; exact block_alloc hp6 _
  have hq7 : W7.heap[Bq]? = some (.cells #[.int .i64 (N1 : Int), .int .i64 (N2 : Int), .int .i64 (N3 : Int)] 30 (0, 0)) := by rw [hW7]; exact block_alloc hq6 _
  have hb7 : Below w.heap.size w W7 := by rw [hW7]; exact hb6.alloc hb6.size _
  have hBpw : Bp < Bw := by rw [hBw]; exact block_lt hp6
  have hBqw : Bq < Bw := by rw [hBw]; exact block_lt hq6
  have hww : w.heap.size ≤ Bw := by rw [hBw]; exact hb6.size
  rw [← hBw, ← hW7]
  clear hBw hW7 p0 p1 p2 hb6 hp6 hq6 H6
  have u1 : W7.cell? ⟨Bp, 1, none⟩ = some (.int .i64 (k : Int)) := by rw [cell_of_row _ _ _ _ _ _ hp7]; rfl
  have u2 : W7.cell? ⟨Bw, 2, none⟩ = some (.int .i64 ((o : Int) + 1)) := by rw [cell_of_row _ _ _ _ _ _ hw7]; rfl
  have pt := KT.out _ hb7
  have H7 := Lib.hid (And.intro hb7 (And.intro hp7 (And.intro hq7 (And.intro hw7 (And.intro hBpw (And.intro hBqw hww))))))
  clear hb7 hp7 hq7 hw7 hBpw hBqw hww
  go_quiet (fail)
  obtain ⟨hb7, hp7, hq7, hw7, hBpw, hBqw, hww⟩ := H7.out
  have hb8 : Below w.heap.size w (W7.drewN nq) := below_drewN hb7 nq
  have hp8 : (W7.drewN nq).heap[Bp]? = some (.cells #[.int .i64 (M : Int), .int .i64 (k : Int), .int .i64 (o : Int)] 30 (0, 0)) := hp7
  have hq8 : (W7.drewN nq).heap[Bq]? = some (.cells #[.int .i64 (N1 : Int), .int .i64 (N2 : Int), .int .i64 (N3 : Int)] 30 (0, 0)) := hq7
  have hw8 : (W7.drewN nq).heap[Bw]? = some (.cells #[.int .i64 (M : Int), .int .i64 (k : Int), .int .i64 ((o : Int) + 1)] 30 (0, 0)) := hw7
  generalize W7.drewN nq = W8 at *
  have v0 : W8.cell? ⟨Bw, 0, none⟩ = some (.int .i64 (M : Int)) := by rw [cell_of_row _ _ _ _ _ _ hw8]; rfl
  have v1 : W8.cell? ⟨Bw, 1, none⟩ = some (.int .i64 (k : Int)) := by rw [cell_of_row _ _ _ _ _ _ hw8]; rfl
  have v2 : W8.cell? ⟨Bw, 2, none⟩ = some (.int .i64 ((o : Int) + 1)) := by rw [cell_of_row _ _ _ _ _ _ hw8]; rfl
  have g0 := block_free (o := 0) hw8
  have g1 := block_free (o := 1) hw8
  have g2 := block_free (o := 2) hw8
  obtain ⟨⟨hM, hT⟩, hN, hk, ho, hm2, hL, hM2, hn64⟩ := HM.out
  have m1 : IntKind.i64.wrap ((M : Int) + 1) = (M : Int) + 1 := IntWalk.i64_in _ (by omega)
  have k2 : IntKind.i64.wrap ((k : Int) + 1) = (k : Int) + 1 := IntWalk.i64_in _ (by omega)
  have hQ1 : wrap64 (T / (L : Int)) = (M : Int) := by
    rw [show T / (L : Int) = (M : Int) by rw [hT, hM]; exact (Int.natCast_ediv _ _).symm]; exact w64 (by omega)
  have hQ2 : IntKind.i64.wrap (T.tdiv (L : Int)) = (M : Int) := by
    rw [show T.tdiv (L : Int) = (M : Int) by rw [hT, hM]; exact Int.ofNat_tdiv _ _]; exact IntWalk.i64_in _ (by omega)
  have n0 : ¬ (L : Int) = 0 := by omega
  have n1 : ((L : Int) == 0) = false := by simpa using n0
  have n2 : ¬ L = 0 := by omega
  have n3 : (L == 0) = false := by simpa using n2
  have n4 : (L : Int) ≠ 0 := n0
  have hQ3 : T.tdiv (L : Int) = (M : Int) := by rw [hT, hM]; exact Int.ofNat_tdiv _ _
  have hQ4 : T / (L : Int) = (M : Int) := by rw [hT, hM]; exact (Int.natCast_ediv _ _).symm
  have hQ5 : IntKind.i64.wrap (M : Int) = (M : Int) := IntWalk.i64_in _ (by omega)
  have H8 := Lib.hid (And.intro hb8 (And.intro hp8 (And.intro hq8 (And.intro hw8 (And.intro hBpw (And.intro hBqw hww))))))
  clear hb7 hp7 hq7 hw7 H7 u1 u2 pt o1 hb8 hp8 hq8 hw8
  by_cases c1 : o + 1 < m
  · have hN2 : (N1, N2, N3) = (M, k, o + 1) := by rw [← hN]; unfold nxP; rw [if_pos c1]
    injection hN2 with x1 hN2
    injection hN2 with x2 x3
    have x1 := x1.symm
    have x2 := x2.symm
    have x3 := x3.symm
    subst x1 x2 x3
    have cc : (((o : Int) + 1) == (m : Int)) = false := by simp; omega
    have ck : ((k : Int) == (n : Int)) = false := by simp; omega
    clear c1
    obtain ⟨hb8, hp8, hq8, hw8, hBpw, hBqw, hww⟩ := H8.out
    have hbX : Below w.heap.size w (W8) := hb8
    have hwX : (W8).heap[Bw]? = some (.cells #[.int .i64 (M : Int), .int .i64 (k : Int), .int .i64 ((o : Int) + 1)] 30 (0, 0)) := hw8
    have hpX : (W8).heap[Bp]? = some (.cells #[.int .i64 (M : Int), .int .i64 (k : Int), .int .i64 (o : Int)] 30 (0, 0)) := by (repeat rw [block_setCell_other (show Bp ≠ Bw by omega)]); exact hp8
    have hqX : (W8).heap[Bq]? = some (.cells #[.int .i64 (M : Int), .int .i64 (k : Int), .int .i64 ((o : Int) + 1)] 30 (0, 0)) := by (repeat rw [block_setCell_other (show Bq ≠ Bw by omega)]); exact hq8
    have HX := Lib.hid (And.intro hbX (And.intro hpX (And.intro hqX hwX)))
    clear hM hT hN hk ho hm2 hL hM2 hn64 hBpw hBqw hww hbX hwX hpX hqX hb8 hp8 hq8 hw8
    go_wp2_with (go_at_call 8; (with_reducible refine (KL.out _ HX.out.1).mono ?_); rintro e w9 ⟨rfl, hb⟩; have H9 := Lib.hid hb; clear hb)
    obtain ⟨hbX, hpX, hqX, hwX⟩ := HX.out
    have hb9 := H9.out
    have hB9 : Below w.heap.size w w9.drew := below_drew (hbX.trans (hb9.mono hbX.size))
    have hp9 : w9.drew.heap[Bp]? = _ := (hb9.block _ (block_lt hpX)).trans hpX
    have hq9 : w9.drew.heap[Bq]? = _ := (hb9.block _ (block_lt hqX)).trans hqX
    have hw9 : w9.drew.heap[Bw]? = _ := (hb9.block _ (block_lt hwX)).trans hwX
    have PC : ∀ W, Below w9.drew.heap.size w9.drew W → W.cell? ⟨Bq, 0, none⟩ = some (.int .i64 (M : Int)) ∧ W.cell? ⟨Bq, 1, none⟩ = some (.int .i64 (k : Int)) ∧ W.cell? ⟨Bq, 2, none⟩ = some (.int .i64 ((o : Int) + 1)) ∧ W.cell? ⟨Bw, 0, none⟩ = some (.int .i64 (M : Int)) ∧ W.cell? ⟨Bw, 1, none⟩ = some (.int .i64 (k : Int)) ∧ W.cell? ⟨Bw, 2, none⟩ = some (.int .i64 ((o : Int) + 1)) ∧ W.cell? ⟨Bp, 0, none⟩ = some (.int .i64 (M : Int)) := fun W hW => ⟨cell_below (by rw [cell_of_row _ _ _ _ _ _ hq9]; rfl) hW, cell_below (by rw [cell_of_row _ _ _ _ _ _ hq9]; rfl) hW, cell_below (by rw [cell_of_row _ _ _ _ _ _ hq9]; rfl) hW, cell_below (by rw [cell_of_row _ _ _ _ _ _ hw9]; rfl) hW, cell_below (by rw [cell_of_row _ _ _ _ _ _ hw9]; rfl) hW, cell_below (by rw [cell_of_row _ _ _ _ _ _ hw9]; rfl) hW, cell_below (by rw [cell_of_row _ _ _ _ _ _ hp9]; rfl) hW⟩
    have hS0 := PC _ (Below.refl _ _)
    have kf : Calls Try.prog 18 #[] w9.drew fun e w' => e = .returned (.bool true) ∧ (w'.cell? ⟨Bq, 0, none⟩ = some (.int .i64 (M : Int)) ∧ w'.cell? ⟨Bq, 1, none⟩ = some (.int .i64 (k : Int)) ∧ w'.cell? ⟨Bq, 2, none⟩ = some (.int .i64 ((o : Int) + 1)) ∧ w'.cell? ⟨Bw, 0, none⟩ = some (.int .i64 (M : Int)) ∧ w'.cell? ⟨Bw, 1, none⟩ = some (.int .i64 (k : Int)) ∧ w'.cell? ⟨Bw, 2, none⟩ = some (.int .i64 ((o : Int) + 1)) ∧ w'.cell? ⟨Bp, 0, none⟩ = some (.int .i64 (M : Int))) ∧ Hid (Below w.heap.size w w') := (KF.out w9.drew).mono fun e w' ⟨he, hb⟩ => ⟨he, PC _ hb, Lib.hid (hB9.trans (hb.mono hB9.size))⟩
    clear hbX hpX hqX hwX hb9 hp9 hq9 hw9 hB9 PC H9 HX
    go_region_held3 (fun W => W.cell? ⟨Bq, 0, none⟩ = some (.int .i64 (M : Int)) ∧ W.cell? ⟨Bq, 1, none⟩ = some (.int .i64 (k : Int)) ∧ W.cell? ⟨Bq, 2, none⟩ = some (.int .i64 ((o : Int) + 1)) ∧ W.cell? ⟨Bw, 0, none⟩ = some (.int .i64 (M : Int)) ∧ W.cell? ⟨Bw, 1, none⟩ = some (.int .i64 (k : Int)) ∧ W.cell? ⟨Bw, 2, none⟩ = some (.int .i64 ((o : Int) + 1)) ∧ W.cell? ⟨Bp, 0, none⟩ = some (.int .i64 (M : Int))) (first | exact hS0 | exact hS1) (first | (go_at_call 18; with_reducible refine kf.mono ?_; rintro e u1 ⟨rfl, hS1, HF⟩))
    go_wp2
    go_ret
    exact ⟨rfl, HF.out⟩
  · by_cases c2 : k + 1 < n
    · have hN2 : (N1, N2, N3) = (M, k + 1, 0) := by rw [← hN]; unfold nxP; rw [if_neg c1, if_pos c2]
      injection hN2 with x1 hN2
      injection hN2 with x2 x3
      have x1 := x1.symm
      have x2 := x2.symm
      have x3 := x3.symm
      subst x1 x2 x3
      have cc : (((o : Int) + 1) == (m : Int)) = true := by simp; omega
      have ck : (((k : Int) + 1) == (n : Int)) = false := by simp; omega
      clear c1 c2
      obtain ⟨hb8, hp8, hq8, hw8, hBpw, hBqw, hww⟩ := H8.out
      have hbX : Below w.heap.size w ((W8.setCell ⟨Bw, 2, none⟩ (.int .i64 0)).setCell ⟨Bw, 1, none⟩ (.int .i64 ((k : Int) + 1))) := ((hb8).setCell (p := ⟨Bw, 2, none⟩) hww _).setCell (p := ⟨Bw, 1, none⟩) hww _
      have hwX : ((W8.setCell ⟨Bw, 2, none⟩ (.int .i64 0)).setCell ⟨Bw, 1, none⟩ (.int .i64 ((k : Int) + 1))).heap[Bw]? = some (.cells #[.int .i64 (M : Int), .int .i64 ((k : Int) + 1), .int .i64 0] 30 (0, 0)) := block_setCell (block_setCell hw8)
      have hpX : ((W8.setCell ⟨Bw, 2, none⟩ (.int .i64 0)).setCell ⟨Bw, 1, none⟩ (.int .i64 ((k : Int) + 1))).heap[Bp]? = some (.cells #[.int .i64 (M : Int), .int .i64 (k : Int), .int .i64 (o : Int)] 30 (0, 0)) := by (repeat rw [block_setCell_other (show Bp ≠ Bw by omega)]); exact hp8
      have hqX : ((W8.setCell ⟨Bw, 2, none⟩ (.int .i64 0)).setCell ⟨Bw, 1, none⟩ (.int .i64 ((k : Int) + 1))).heap[Bq]? = some (.cells #[.int .i64 (M : Int), .int .i64 ((k : Int) + 1), .int .i64 0] 30 (0, 0)) := by (repeat rw [block_setCell_other (show Bq ≠ Bw by omega)]); exact hq8
      have HX := Lib.hid (And.intro hbX (And.intro hpX (And.intro hqX hwX)))
      clear hM hT hN hk ho hm2 hL hM2 hn64 hBpw hBqw hww hbX hwX hpX hqX hb8 hp8 hq8 hw8
      go_wp2_with (go_at_call 8; (with_reducible refine (KL.out _ HX.out.1).mono ?_); rintro e w9 ⟨rfl, hb⟩; have H9 := Lib.hid hb; clear hb)
      obtain ⟨hbX, hpX, hqX, hwX⟩ := HX.out
      have hb9 := H9.out
      have hB9 : Below w.heap.size w w9.drew := below_drew (hbX.trans (hb9.mono hbX.size))
      have hp9 : w9.drew.heap[Bp]? = _ := (hb9.block _ (block_lt hpX)).trans hpX
      have hq9 : w9.drew.heap[Bq]? = _ := (hb9.block _ (block_lt hqX)).trans hqX
      have hw9 : w9.drew.heap[Bw]? = _ := (hb9.block _ (block_lt hwX)).trans hwX
      have PC : ∀ W, Below w9.drew.heap.size w9.drew W → W.cell? ⟨Bq, 0, none⟩ = some (.int .i64 (M : Int)) ∧ W.cell? ⟨Bq, 1, none⟩ = some (.int .i64 ((k : Int) + 1)) ∧ W.cell? ⟨Bq, 2, none⟩ = some (.int .i64 0) ∧ W.cell? ⟨Bw, 0, none⟩ = some (.int .i64 (M : Int)) ∧ W.cell? ⟨Bw, 1, none⟩ = some (.int .i64 ((k : Int) + 1)) ∧ W.cell? ⟨Bw, 2, none⟩ = some (.int .i64 0) ∧ W.cell? ⟨Bp, 0, none⟩ = some (.int .i64 (M : Int)) := fun W hW => ⟨cell_below (by rw [cell_of_row _ _ _ _ _ _ hq9]; rfl) hW, cell_below (by rw [cell_of_row _ _ _ _ _ _ hq9]; rfl) hW, cell_below (by rw [cell_of_row _ _ _ _ _ _ hq9]; rfl) hW, cell_below (by rw [cell_of_row _ _ _ _ _ _ hw9]; rfl) hW, cell_below (by rw [cell_of_row _ _ _ _ _ _ hw9]; rfl) hW, cell_below (by rw [cell_of_row _ _ _ _ _ _ hw9]; rfl) hW, cell_below (by rw [cell_of_row _ _ _ _ _ _ hp9]; rfl) hW⟩
      have hS0 := PC _ (Below.refl _ _)
      have kf : Calls Try.prog 18 #[] w9.drew fun e w' => e = .returned (.bool true) ∧ (w'.cell? ⟨Bq, 0, none⟩ = some (.int .i64 (M : Int)) ∧ w'.cell? ⟨Bq, 1, none⟩ = some (.int .i64 ((k : Int) + 1)) ∧ w'.cell? ⟨Bq, 2, none⟩ = some (.int .i64 0) ∧ w'.cell? ⟨Bw, 0, none⟩ = some (.int .i64 (M : Int)) ∧ w'.cell? ⟨Bw, 1, none⟩ = some (.int .i64 ((k : Int) + 1)) ∧ w'.cell? ⟨Bw, 2, none⟩ = some (.int .i64 0) ∧ w'.cell? ⟨Bp, 0, none⟩ = some (.int .i64 (M : Int))) ∧ Hid (Below w.heap.size w w') := (KF.out w9.drew).mono fun e w' ⟨he, hb⟩ => ⟨he, PC _ hb, Lib.hid (hB9.trans (hb.mono hB9.size))⟩
      clear hbX hpX hqX hwX hb9 hp9 hq9 hw9 hB9 PC H9 HX
      go_region_held3 (fun W => W.cell? ⟨Bq, 0, none⟩ = some (.int .i64 (M : Int)) ∧ W.cell? ⟨Bq, 1, none⟩ = some (.int .i64 ((k : Int) + 1)) ∧ W.cell? ⟨Bq, 2, none⟩ = some (.int .i64 0) ∧ W.cell? ⟨Bw, 0, none⟩ = some (.int .i64 (M : Int)) ∧ W.cell? ⟨Bw, 1, none⟩ = some (.int .i64 ((k : Int) + 1)) ∧ W.cell? ⟨Bw, 2, none⟩ = some (.int .i64 0) ∧ W.cell? ⟨Bp, 0, none⟩ = some (.int .i64 (M : Int))) (first | exact hS0 | exact hS1) (first | (go_at_call 18; with_reducible refine kf.mono ?_; rintro e u1 ⟨rfl, hS1, HF⟩))
      go_wp2
      go_ret
      exact ⟨rfl, HF.out⟩
    · have hN2 : (N1, N2, N3) = (M + 1, 0, 0) := by rw [← hN]; unfold nxP; rw [if_neg c1, if_neg c2]
      injection hN2 with x1 hN2
      injection hN2 with x2 x3
      have x1 := x1.symm
      have x2 := x2.symm
      have x3 := x3.symm
      subst x1 x2 x3
      have cc : (((o : Int) + 1) == (m : Int)) = true := by simp; omega
      have ck : (((k : Int) + 1) == (n : Int)) = true := by simp; omega
      clear c1 c2
      obtain ⟨hb8, hp8, hq8, hw8, hBpw, hBqw, hww⟩ := H8.out
      have hbX : Below w.heap.size w ((((W8.setCell ⟨Bw, 2, none⟩ (.int .i64 0)).setCell ⟨Bw, 1, none⟩ (.int .i64 ((k : Int) + 1))).setCell ⟨Bw, 1, none⟩ (.int .i64 0)).setCell ⟨Bw, 0, none⟩ (.int .i64 ((M : Int) + 1))) := ((((hb8).setCell (p := ⟨Bw, 2, none⟩) hww _).setCell (p := ⟨Bw, 1, none⟩) hww _).setCell (p := ⟨Bw, 1, none⟩) hww _).setCell (p := ⟨Bw, 0, none⟩) hww _
      have hwX : ((((W8.setCell ⟨Bw, 2, none⟩ (.int .i64 0)).setCell ⟨Bw, 1, none⟩ (.int .i64 ((k : Int) + 1))).setCell ⟨Bw, 1, none⟩ (.int .i64 0)).setCell ⟨Bw, 0, none⟩ (.int .i64 ((M : Int) + 1))).heap[Bw]? = some (.cells #[.int .i64 ((M : Int) + 1), .int .i64 0, .int .i64 0] 30 (0, 0)) := block_setCell (block_setCell (block_setCell (block_setCell hw8)))
      have hpX : ((((W8.setCell ⟨Bw, 2, none⟩ (.int .i64 0)).setCell ⟨Bw, 1, none⟩ (.int .i64 ((k : Int) + 1))).setCell ⟨Bw, 1, none⟩ (.int .i64 0)).setCell ⟨Bw, 0, none⟩ (.int .i64 ((M : Int) + 1))).heap[Bp]? = some (.cells #[.int .i64 (M : Int), .int .i64 (k : Int), .int .i64 (o : Int)] 30 (0, 0)) := by (repeat rw [block_setCell_other (show Bp ≠ Bw by omega)]); exact hp8
      have hqX : ((((W8.setCell ⟨Bw, 2, none⟩ (.int .i64 0)).setCell ⟨Bw, 1, none⟩ (.int .i64 ((k : Int) + 1))).setCell ⟨Bw, 1, none⟩ (.int .i64 0)).setCell ⟨Bw, 0, none⟩ (.int .i64 ((M : Int) + 1))).heap[Bq]? = some (.cells #[.int .i64 ((M : Int) + 1), .int .i64 0, .int .i64 0] 30 (0, 0)) := by (repeat rw [block_setCell_other (show Bq ≠ Bw by omega)]); exact hq8
      have HX := Lib.hid (And.intro hbX (And.intro hpX (And.intro hqX hwX)))
      clear hM hT hN hk ho hm2 hL hM2 hn64 hBpw hBqw hww hbX hwX hpX hqX hb8 hp8 hq8 hw8
      go_wp2_with (go_at_call 8; (with_reducible refine (KL.out _ HX.out.1).mono ?_); rintro e w9 ⟨rfl, hb⟩; have H9 := Lib.hid hb; clear hb)
      obtain ⟨hbX, hpX, hqX, hwX⟩ := HX.out
      have hb9 := H9.out
      have hB9 : Below w.heap.size w w9.drew := below_drew (hbX.trans (hb9.mono hbX.size))
      have hp9 : w9.drew.heap[Bp]? = _ := (hb9.block _ (block_lt hpX)).trans hpX
      have hq9 : w9.drew.heap[Bq]? = _ := (hb9.block _ (block_lt hqX)).trans hqX
      have hw9 : w9.drew.heap[Bw]? = _ := (hb9.block _ (block_lt hwX)).trans hwX
      have PC : ∀ W, Below w9.drew.heap.size w9.drew W → W.cell? ⟨Bq, 0, none⟩ = some (.int .i64 ((M : Int) + 1)) ∧ W.cell? ⟨Bq, 1, none⟩ = some (.int .i64 0) ∧ W.cell? ⟨Bq, 2, none⟩ = some (.int .i64 0) ∧ W.cell? ⟨Bw, 0, none⟩ = some (.int .i64 ((M : Int) + 1)) ∧ W.cell? ⟨Bw, 1, none⟩ = some (.int .i64 0) ∧ W.cell? ⟨Bw, 2, none⟩ = some (.int .i64 0) ∧ W.cell? ⟨Bp, 0, none⟩ = some (.int .i64 (M : Int)) := fun W hW => ⟨cell_below (by rw [cell_of_row _ _ _ _ _ _ hq9]; rfl) hW, cell_below (by rw [cell_of_row _ _ _ _ _ _ hq9]; rfl) hW, cell_below (by rw [cell_of_row _ _ _ _ _ _ hq9]; rfl) hW, cell_below (by rw [cell_of_row _ _ _ _ _ _ hw9]; rfl) hW, cell_below (by rw [cell_of_row _ _ _ _ _ _ hw9]; rfl) hW, cell_below (by rw [cell_of_row _ _ _ _ _ _ hw9]; rfl) hW, cell_below (by rw [cell_of_row _ _ _ _ _ _ hp9]; rfl) hW⟩
      have hS0 := PC _ (Below.refl _ _)
      have kf : Calls Try.prog 18 #[] w9.drew fun e w' => e = .returned (.bool true) ∧ (w'.cell? ⟨Bq, 0, none⟩ = some (.int .i64 ((M : Int) + 1)) ∧ w'.cell? ⟨Bq, 1, none⟩ = some (.int .i64 0) ∧ w'.cell? ⟨Bq, 2, none⟩ = some (.int .i64 0) ∧ w'.cell? ⟨Bw, 0, none⟩ = some (.int .i64 ((M : Int) + 1)) ∧ w'.cell? ⟨Bw, 1, none⟩ = some (.int .i64 0) ∧ w'.cell? ⟨Bw, 2, none⟩ = some (.int .i64 0) ∧ w'.cell? ⟨Bp, 0, none⟩ = some (.int .i64 (M : Int))) ∧ Hid (Below w.heap.size w w') := (KF.out w9.drew).mono fun e w' ⟨he, hb⟩ => ⟨he, PC _ hb, Lib.hid (hB9.trans (hb.mono hB9.size))⟩
      clear hbX hpX hqX hwX hb9 hp9 hq9 hw9 hB9 PC H9 HX
      go_region_held3 (fun W => W.cell? ⟨Bq, 0, none⟩ = some (.int .i64 ((M : Int) + 1)) ∧ W.cell? ⟨Bq, 1, none⟩ = some (.int .i64 0) ∧ W.cell? ⟨Bq, 2, none⟩ = some (.int .i64 0) ∧ W.cell? ⟨Bw, 0, none⟩ = some (.int .i64 ((M : Int) + 1)) ∧ W.cell? ⟨Bw, 1, none⟩ = some (.int .i64 0) ∧ W.cell? ⟨Bw, 2, none⟩ = some (.int .i64 0) ∧ W.cell? ⟨Bp, 0, none⟩ = some (.int .i64 (M : Int))) (first | exact hS0 | exact hS1) (first | (go_at_call 18; with_reducible refine kf.mono ?_; rintro e u1 ⟨rfl, hS1, HF⟩))
      go_wp2
      go_ret
      exact ⟨rfl, HF.out⟩
theorem lies_any (w : World) (G : Nat → Prop) (v : Value) (ws : List Wn) (ht : WinV G w v ws) (hl : ws.length ≤ 140737488355328) (t : Int) :
    Calls Try.prog 5 #[v, .int .i64 t] w fun e w' => e = .returned (.bool true) ∧ Below w.heap.size w w' := by
  by_cases h : okL ws ∧ 0 ≤ t ∧ t < 1099511627776
  · obtain ⟨n, rfl⟩ : ∃ n : Nat, t = (n : Int) := ⟨t.toNat, by omega⟩
    exact lies_in w G v ws ht hl n h.1 (by omega)
  · exact lies_out w G v ws ht hl t h
end Go.Proofs.Ytgbmddjpaibcfaa
