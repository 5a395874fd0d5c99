/- Each row of ticks has its windows' ticks: the walk of the law. No conditions. -/
import Derived.Test.YtgbmddjpaibcfaaFap
namespace Go.Proofs.Ytgbmddjpaibcfaa
open Go.RowKit Go.Maps
set_option linter.unusedVariables false
set_option linter.unusedSimpArgs false

theorem tkN_le {ws : List Wn} (hok : okL ws) (kd ix : Int) {F T : Nat} (hF : F ≤ 1099511627776) (hT : T ≤ 1099511627776) : -18014398509481984 ≤ tkN ws kd ix F T ∧ tkN ws kd ix F T ≤ 18014398509481984 := by
  have key : ∀ l : List Nat, -(281474976710656 * (l.length : Int)) ≤ (l.map (ctb ws kd ix F T)).sum ∧ (l.map (ctb ws kd ix F T)).sum ≤ 281474976710656 * (l.length : Int) := by
    intro l
    induction l with
    | nil => simp
    | cons i l ih =>
      have := ctb_le hok kd ix hF hT i
      rw [List.map_cons, List.sum_cons, List.length_cons]
      omega
  have h := key (List.range ws.length)
  have := hok.2.1
  rw [List.length_range] at h
  unfold tkN
  omega
set_option maxRecDepth 100000 in
set_option maxHeartbeats 4000000 in
theorem fair_no (w : World) (G : Nat → Prop) (v : Value) (ws : List Wn) (ht : WinV G w v ws) (hl : ws.length ≤ 140737488355328) (kd ix F T : Int) (hno : ¬ okL ws) :
    Calls Try.prog 4 #[v, .agg #[.int .i64 kd, .int .i64 ix, .int .i64 F, .int .i64 T]] w fun e w' => e = .returned (.bool true) ∧ Below w.heap.size w w' := by
  have hb1 : Below w.heap.size w (w.alloc (.cells #[.int .i64 kd, .int .i64 ix, .int .i64 F, .int .i64 T] 24)) := (Below.refl _ w).alloc (Nat.le_refl _) _
  have k1 := len_any _ G v ws (ht.below hb1)
  have KC : Hid (∀ W, Below w.heap.size w W → Calls Try.prog 11 #[v] W fun e w' => e = .returned (.int .i64 130) ∧ Below W.heap.size W w') := Lib.hid fun W hW => by
    have := rcheck_any W G v ws (ht.below hW) hl
    rw [show chkE ws = 130 from if_neg hno] at this; exact this
  have KF : Hid (∀ W, Calls Try.prog 18 #[] W fun e w' => e = .returned (.bool true) ∧ Below W.heap.size W w') := Lib.hid fixed_any
  rw [show chkE ws = 130 from if_neg hno] at k1
  generalize lenV ws = L at *
  have HB := Lib.hid hb1
  obtain ⟨q, n, cap0, rfl⟩ : ∃ q n cap, v = .slice q n cap := by obtain ⟨q, cap, e, _⟩ := ht; exact ⟨_, _, _, e⟩
  clear hb1 ht hno
  go_enter Try.func4, Try.ntmps4
  go_wp2_with (first
    | (go_at_call 8; refine k1.mono ?_; rintro e w2 ⟨rfl, hb⟩; have H2 := Lib.hid (HB.out.trans (hb.mono HB.out.size)); clear hb)
    | (go_at_call 11; refine (KC.out _ H2.out).mono ?_; rintro e w3 ⟨rfl, hb⟩; have H3 := Lib.hid (H2.out.trans (hb.mono H2.out.size)); clear hb)
    | (go_at_call 18; refine (KF.out _).mono ?_; rintro e w4 ⟨rfl, hb⟩; have H4 := Lib.hid (H3.out.trans (hb.mono H3.out.size)); clear hb))
  go_ret
  exact ⟨rfl, H4.out⟩
set_option maxRecDepth 100000 in
set_option maxHeartbeats 4000000 in
theorem fair_yes (w : World) (G : Nat → Prop) (v : Value) (ws : List Wn) (ht : WinV G w v ws) (kd ix F T : Int) (hok : okL ws) :
    Calls Try.prog 4 #[v, .agg #[.int .i64 kd, .int .i64 ix, .int .i64 F, .int .i64 T]] w fun e w' => e = .returned (.bool true) ∧ Below w.heap.size w w' := by
  obtain ⟨s0, hs0⟩ : ∃ s0, s0 = w.heap.size := ⟨_, rfl⟩
  obtain ⟨w1, hw1⟩ : ∃ w1, w1 = w.alloc (.cells #[.int .i64 kd, .int .i64 ix, .int .i64 F, .int .i64 T] 24) := ⟨_, rfl⟩
  have hb1 : Below w.heap.size w w1 := by rw [hw1]; exact (Below.refl _ w).alloc (Nat.le_refl _) _
  have hbx : w1.heap[s0]? = some (.cells #[.int .i64 kd, .int .i64 ix, .int .i64 F, .int .i64 T] 24 (0, 0)) := by rw [hw1, hs0]; exact block_new _ _
  have PC : Hid (∀ W, Below w1.heap.size w1 W → W.cell? ⟨s0, 0, none⟩ = some (.int .i64 kd) ∧ W.cell? ⟨s0, 1, none⟩ = some (.int .i64 ix) ∧ W.cell? ⟨s0, 2, none⟩ = some (.int .i64 F) ∧ W.cell? ⟨s0, 3, none⟩ = some (.int .i64 T)) := Lib.hid fun W hW =>
    ⟨cell_below (by rw [cell_of_row _ _ _ _ _ _ hbx]; rfl) hW, cell_below (by rw [cell_of_row _ _ _ _ _ _ hbx]; rfl) hW, cell_below (by rw [cell_of_row _ _ _ _ _ _ hbx]; rfl) hW, cell_below (by rw [cell_of_row _ _ _ _ _ _ hbx]; rfl) hW⟩
  have ht1 := ht.below hb1
  obtain ⟨q, n, cap0, rfl⟩ : ∃ q n cap, v = .slice q n cap := by obtain ⟨q, cap, e, _⟩ := ht; exact ⟨_, _, _, e⟩
  have hn : n = ws.length := by obtain ⟨q, cap, e, _⟩ := ht; injection e
  have hn64 : n ≤ 64 := by rw [hn]; exact hok.2.1
  have hL := lenN_ok hok
  obtain ⟨L, hLe⟩ : ∃ L, L = lenN ws := ⟨_, rfl⟩
  rw [← hLe] at hL
  have k1 := len_any _ G _ ws ht1
  rw [show chkE ws = 0 from if_pos hok, show lenV ws = (L : Nat) by rw [hLe]; exact if_pos hok, hw1] at k1
  obtain ⟨g, oo, rfl, hcell⟩ : ∃ g oo, q = some ⟨g, oo, none⟩ ∧ ∀ W, Below w1.heap.size w1 W → ∀ k, k < n → W.cell? ⟨g, oo + k * 3, none⟩ = some (.int .i64 (ws.getD k w0).1) ∧ W.cell? ⟨g, oo + k * 3 + 1, none⟩ = some (.int .i64 (ws.getD k w0).2.1) ∧ W.cell? ⟨g, oo + k * 3 + 2, none⟩ = some (.int .i64 (ws.getD k w0).2.2) := by
    obtain ⟨q', cap, e, _, hc⟩ := ht1
    injection e with ea eb ec
    obtain ⟨b, o', hq, _, hlt, hcl⟩ := hc (fun e => by have := hok.1; rw [e] at this; simp at this)
    refine ⟨b, o', ea.trans hq, fun W hW k hk => ?_⟩
    obtain ⟨c0, c1, c2⟩ := hcl k (by omega)
    exact ⟨cell_below c0 hW, cell_below c1 hW, cell_below c2 hW⟩
  have KT := Lib.hid hcell
  have HW := Lib.hid (And.intro ht1 (And.intro hok (And.intro hn (And.intro hL (And.intro hLe (And.intro hb1 (And.intro hs0 hw1)))))))
  have KF : Hid (∀ W, Calls Try.prog 18 #[] W fun e w' => e = .returned (.bool true) ∧ Below W.heap.size W w') := Lib.hid fixed_any
  have HB2 : Hid (∀ w2, Below (w.alloc (.cells #[.int .i64 kd, .int .i64 ix, .int .i64 F, .int .i64 T] 24)).heap.size (w.alloc (.cells #[.int .i64 kd, .int .i64 ix, .int .i64 F, .int .i64 T] 24)) w2 → Below w1.heap.size w1 w2) := Lib.hid fun w2 h => by rw [hw1]; exact h
  clear ht ht1 hok hn hL hLe hb1 hw1 hbx hcell
  rw [hs0] at PC
  clear hs0
  go_enter Try.func4, Try.ntmps4
  go_wp2_with (go_at_call 8; refine k1.mono ?_; rintro e w2 ⟨rfl, hb⟩; have H2 := Lib.hid (HB2.out _ hb); clear hb)
  go_loopw [7, 8, 9] (fun a b c wr => ∃ k : Nat, k ≤ n ∧ c = .int .i64 (k : Int) ∧ a = .int .i64 (ownS ws kd ix k) ∧ b = .bool (anyS ws kd ix k) ∧ Below w1.heap.size w1 wr) (fun _ _ c _ => n - (intOf c).toNat)
  case atStart => exact ⟨0, Nat.zero_le _, rfl, rfl, rfl, H2.out⟩
  case round =>
    obtain ⟨k, hk, rfl, rfl, rfl, hbw⟩ := hrel
    by_cases a : k < n
    · have aI : (k : Int) < (n : Int) := by omega
      obtain ⟨c0, c1, c2⟩ := KT.out wr hbw k a
      obtain ⟨y0, y1, y2, y3⟩ := PC.out wr hbw
      have hso := ownS_succ ws kd ix k
      have hsa := anyS_succ ws kd ix k
      have hle := ownS_le HW.out.2.1 kd ix k (by rw [← HW.out.2.2.1]; exact hk)
      obtain ⟨ht1, ht2, ht3⟩ := tks_get HW.out.2.1 k (by rw [← HW.out.2.2.1]; exact a)
      have htb : 1 ≤ (ws.getD k w0).2.2 ∧ (ws.getD k w0).2.2 ≤ 255 := by rw [ht1]; omega
      obtain ⟨f, hf⟩ : ∃ f, f = (ws.getD k w0).1 := ⟨_, rfl⟩
      obtain ⟨r, hr⟩ : ∃ r, r = (ws.getD k w0).2.1 := ⟨_, rfl⟩
      obtain ⟨t, hT⟩ : ∃ t, t = (ws.getD k w0).2.2 := ⟨_, rfl⟩
      rw [← hT] at htb
      have ho1 : own1 ws kd ix k = if isB f r kd ix = true then t else 0 := by unfold own1; rw [hf, hr, hT]
      rw [ho1] at hso
      rw [← hf, ← hr] at hsa
      rw [← hf] at c0
      rw [← hr] at c1
      rw [← hT] at c2
      obtain ⟨O, hO⟩ : ∃ O, O = ownS ws kd ix k := ⟨_, rfl⟩
      obtain ⟨A, hA⟩ : ∃ A, A = anyS ws kd ix k := ⟨_, rfl⟩
      rw [← hO] at hso hle
      rw [← hA] at hsa
      rw [← hO, ← hA]
      have q1 : IntKind.i64.wrap (O + t) = O + t := IntWalk.i64_in _ (by omega)
      have q2 : wrap64 (O + t) = O + t := w64 (by omega)
      have e0 : decide ((k : Int) < (n : Int)) = true := decide_eq_true aI
      have HBW := Lib.hid hbw
      clear hbw ht1 ht2 ht3 hf hr hT hO hA ho1 y2 y3 hle htb
      by_cases cf : f = kd
      · by_cases cr : r = ix
        · have hi : isB f r kd ix = true := by unfold isB; simp [cf, cr]
          rw [hi, if_pos rfl] at hso
          rw [hi, Bool.or_true] at hsa
          have b1 : (f == kd) = true := by simp [cf]
          have b2 : (r == ix) = true := by simp [cr]
          have HS := Lib.hid (And.intro hso hsa)
          clear hso hsa hi cf cr
          go_wp2
          go_quiet (fail)
          have c2' : (wr.drewN nq).cell? ⟨g, oo + k * 3 + 2, none⟩ = some (.int .i64 t) := c2
          have hbw' := below_drewN HBW.out nq
          generalize wr.drewN nq = wv at *
          have HBV := Lib.hid hbw'
          clear hbw' c0 c1 c2 y0 y1
          go_wp2
          exact ⟨⟨k + 1, a, by simp, by rw [HS.out.1], by rw [HS.out.2], HBV.out⟩, by simp [intOf]; omega⟩
        · have hi : isB f r kd ix = false := by unfold isB; simp [cr]
          rw [hi, if_neg (by simp), Int.add_zero] at hso
          rw [hi, Bool.or_false] at hsa
          have b1 : (f == kd) = true := by simp [cf]
          have b2 : (r == ix) = false := by simp [cr]
          have HS := Lib.hid (And.intro hso hsa)
          clear hso hsa hi cf cr
          go_wp2
          go_quiet (fail)
          have hbw' := below_drewN HBW.out nq
          generalize wr.drewN nq = wv at *
          have HBV := Lib.hid hbw'
          clear hbw' c0 c1 c2 y0 y1
          go_wp2
          exact ⟨⟨k + 1, a, by simp, by rw [HS.out.1], by rw [HS.out.2], HBV.out⟩, by simp [intOf]; omega⟩
      · have hi : isB f r kd ix = false := by unfold isB; simp [cf]
        rw [hi, if_neg (by simp), Int.add_zero] at hso
        rw [hi, Bool.or_false] at hsa
        have b1 : (f == kd) = false := by simp [cf]
        have HS := Lib.hid (And.intro hso hsa)
        clear hso hsa hi cf
        go_wp2
        go_quiet (fail)
        have hbw' := below_drewN HBW.out nq
        generalize wr.drewN nq = wv at *
        have HBV := Lib.hid hbw'
        clear hbw' c0 c1 c2 y0 y1
        go_wp2
        exact ⟨⟨k + 1, a, by simp, by rw [HS.out.1], by rw [HS.out.2], HBV.out⟩, by simp [intOf]; omega⟩
    · obtain rfl : k = n := by omega
      obtain ⟨O, hO⟩ : ∃ O, O = ownS ws kd ix k := ⟨_, rfl⟩
      obtain ⟨A, hA⟩ : ∃ A, A = anyS ws kd ix k := ⟨_, rfl⟩
      rw [← hO, ← hA]
      have HO := Lib.hid (And.intro hO hA)
      have HBW := Lib.hid hbw
      clear hO hA hbw
      by_cases b1 : F < 0
      · obtain ⟨y0, y1, y2, y3⟩ := PC.out _ HBW.out
        go_wp2_with (go_at_call 18; refine (KF.out _).mono ?_; rintro e w4 ⟨rfl, hb⟩; have H4 := Lib.hid (HBW.out.trans (hb.mono HBW.out.size)); clear hb)
        go_ret
        exact ⟨rfl, HW.out.2.2.2.2.2.1.trans (H4.out.mono HW.out.2.2.2.2.2.1.size)⟩
      · by_cases b2 : T < F
        · obtain ⟨y0, y1, y2, y3⟩ := PC.out _ HBW.out
          go_wp2_with (go_at_call 18; refine (KF.out _).mono ?_; rintro e w4 ⟨rfl, hb⟩; have H4 := Lib.hid (HBW.out.trans (hb.mono HBW.out.size)); clear hb)
          go_ret
          exact ⟨rfl, HW.out.2.2.2.2.2.1.trans (H4.out.mono HW.out.2.2.2.2.2.1.size)⟩
        · by_cases b3 : 1000000000 < T
          · obtain ⟨y0, y1, y2, y3⟩ := PC.out _ HBW.out
            go_wp2_with (go_at_call 18; refine (KF.out _).mono ?_; rintro e w4 ⟨rfl, hb⟩; have H4 := Lib.hid (HBW.out.trans (hb.mono HBW.out.size)); clear hb)
            go_ret
            exact ⟨rfl, HW.out.2.2.2.2.2.1.trans (H4.out.mono HW.out.2.2.2.2.2.1.size)⟩
          · obtain ⟨ht1, hok, hn, hL, hLe, hb1, _, _⟩ := HW.out
            obtain ⟨fN, hfN⟩ : ∃ fN : Nat, F = (fN : Int) := ⟨F.toNat, by omega⟩
            obtain ⟨tN, htN⟩ : ∃ tN : Nat, T = (tN : Int) := ⟨T.toNat, by omega⟩
            have e1 : tickV ws kd ix F (F + (L : Int)) = (O, 0) := by
              unfold tickV
              rw [if_pos hok, if_pos ⟨⟨by omega, by omega⟩, ⟨by omega, by omega⟩, by omega⟩, hfN, show ((fN : Int) + (L : Int)).toNat = fN + lenN ws by omega, show ((fN : Int)).toNat = fN from rfl, tk_frame hok, HO.out.1, hn]
            have e3 : tickV ws kd ix T (T + (L : Int)) = (O, 0) := by
              unfold tickV
              rw [if_pos hok, if_pos ⟨⟨by omega, by omega⟩, ⟨by omega, by omega⟩, by omega⟩, htN, show ((tN : Int) + (L : Int)).toNat = tN + lenN ws by omega, show ((tN : Int)).toNat = tN from rfl, tk_frame hok, HO.out.1, hn]
            obtain ⟨U, hU⟩ : ∃ U, U = tkN ws kd ix fN tN := ⟨_, rfl⟩
            have e2 : tickV ws kd ix F T = (U, 0) := by
              unfold tickV
              rw [if_pos hok, if_pos ⟨⟨by omega, by omega⟩, ⟨by omega, by omega⟩, by omega⟩, hfN, htN, hU]; rfl
            have e4 : tickV ws kd ix F (T + (L : Int)) = (U + O, 0) := by
              unfold tickV
              rw [if_pos hok, if_pos ⟨⟨by omega, by omega⟩, ⟨by omega, by omega⟩, by omega⟩, hfN, htN, show ((tN : Int) + (L : Int)).toNat = tN + lenN ws by omega, show ((fN : Int)).toNat = fN from rfl, tk_add ws kd ix fN tN, ← hU, tk_frame hok, HO.out.1, hn]
            have hUb := tkN_le hok kd ix (F := fN) (T := tN) (by omega) (by omega)
            have hOb := ownS_le hok kd ix k (by omega)
            rw [← hU] at hUb
            rw [← HO.out.1] at hOb
            have K1 : Hid (∀ W, Below w1.heap.size w1 W → Calls Try.prog 14 #[.slice (some ⟨g, oo, none⟩) k cap0, .int .i64 kd, .int .i64 ix, .int .i64 F, .int .i64 (F + (L : Int))] W fun e w' => e = .returned (.tuple #[.int .i64 O, .int .i64 0]) ∧ Below W.heap.size W w') := Lib.hid fun W hW => by
              have := tic_any W G _ ws (ht1.below hW) kd ix F (F + (L : Int)); rw [e1] at this; exact this
            have K2 : Hid (∀ W, Below w1.heap.size w1 W → Calls Try.prog 14 #[.slice (some ⟨g, oo, none⟩) k cap0, .int .i64 kd, .int .i64 ix, .int .i64 F, .int .i64 T] W fun e w' => e = .returned (.tuple #[.int .i64 U, .int .i64 0]) ∧ Below W.heap.size W w') := Lib.hid fun W hW => by
              have := tic_any W G _ ws (ht1.below hW) kd ix F T; rw [e2] at this; exact this
            have K3 : Hid (∀ W, Below w1.heap.size w1 W → Calls Try.prog 14 #[.slice (some ⟨g, oo, none⟩) k cap0, .int .i64 kd, .int .i64 ix, .int .i64 T, .int .i64 (T + (L : Int))] W fun e w' => e = .returned (.tuple #[.int .i64 O, .int .i64 0]) ∧ Below W.heap.size W w') := Lib.hid fun W hW => by
              have := tic_any W G _ ws (ht1.below hW) kd ix T (T + (L : Int)); rw [e3] at this; exact this
            have K4 : Hid (∀ W, Below w1.heap.size w1 W → Calls Try.prog 14 #[.slice (some ⟨g, oo, none⟩) k cap0, .int .i64 kd, .int .i64 ix, .int .i64 F, .int .i64 (T + (L : Int))] W fun e w' => e = .returned (.tuple #[.int .i64 (U + O), .int .i64 0]) ∧ Below W.heap.size W w') := Lib.hid fun W hW => by
              have := tic_any W G _ ws (ht1.below hW) kd ix F (T + (L : Int)); rw [e4] at this; exact this
            have q1 : IntKind.i64.wrap (F + (L : Int)) = F + (L : Int) := IntWalk.i64_in _ (by omega)
            have q2 : IntKind.i64.wrap (T + (L : Int)) = T + (L : Int) := IntWalk.i64_in _ (by omega)
            have q3 : IntKind.i64.wrap (U + O) = U + O := IntWalk.i64_in _ (by omega)
            have r1 : wrap64 (F + (L : Int)) = F + (L : Int) := w64 (by omega)
            have r2 : wrap64 (T + (L : Int)) = T + (L : Int) := w64 (by omega)
            have r3 : wrap64 (U + O) = U + O := w64 (by omega)
            obtain ⟨y0, y1, y2, y3⟩ := PC.out _ HBW.out
            have hAn := HO.out.2
            rw [hn] at hAn
            cases A with
            | false =>
              have KN : Hid (∀ W, Below w1.heap.size w1 W → Calls Try.prog 16 #[.slice (some ⟨g, oo, none⟩) k cap0, .int .i64 kd, .int .i64 ix, .int .i64 F] W fun e w' => e = .returned (.tuple #[.int .i64 0, .int .i64 130]) ∧ Below W.heap.size W w') := Lib.hid fun W hW => by
                have := nx_any W G _ ws (ht1.below hW) kd ix F
                have e5 : nextV ws kd ix F = (0, 130) := by unfold nextV; rw [if_pos hok, if_pos ⟨by omega, by omega⟩]; exact nx_none hAn.symm _
                rw [e5] at this; exact this
              have HA := Lib.hid (And.intro b1 (And.intro b2 b3))
              clear e1 e2 e3 e4 hU hUb hOb hfN htN ht1 hok hn hL hLe hb1 hAn
              go_wp2_with (first
                | (go_at_call 14; (with_reducible refine (K1.out _ HBW.out).mono ?_); rintro e w3 ⟨rfl, hb⟩; have H3 := Lib.hid (HBW.out.trans (hb.mono HBW.out.size)); obtain ⟨z0, z1, z2, z3⟩ := PC.out _ H3.out; clear hb)
                | (go_at_call 14; (with_reducible refine (K2.out _ H3.out).mono ?_); rintro e w4 ⟨rfl, hb⟩; have H4 := Lib.hid (H3.out.trans (hb.mono H3.out.size)); obtain ⟨u0, u1, u2, u3⟩ := PC.out _ H4.out; clear hb)
                | (go_at_call 14; (with_reducible refine (K3.out _ H4.out).mono ?_); rintro e w5 ⟨rfl, hb⟩; have H5 := Lib.hid (H4.out.trans (hb.mono H4.out.size)); obtain ⟨v0, v1, v2, v3⟩ := PC.out _ H5.out; clear hb)
                | (go_at_call 14; (with_reducible refine (K4.out _ H5.out).mono ?_); rintro e w6 ⟨rfl, hb⟩; have H6 := Lib.hid (H5.out.trans (hb.mono H5.out.size)); obtain ⟨x0, x1, x2, x3⟩ := PC.out _ H6.out; clear hb)
                | (go_at_call 16; (with_reducible refine (KN.out _ H6.out).mono ?_); rintro e w7 ⟨rfl, hb⟩; have H7 := Lib.hid (H6.out.trans (hb.mono H6.out.size)); clear hb)
                | (go_at_call 18; refine (KF.out _).mono ?_; rintro e w8 ⟨rfl, hb⟩; have H8 := Lib.hid (H7.out.trans (hb.mono H7.out.size)); clear hb))
              go_ret
              exact ⟨rfl, HW.out.2.2.2.2.2.1.trans (H8.out.mono HW.out.2.2.2.2.2.1.size)⟩
            | true =>
              obtain ⟨Q, i, hi, hib, hge, hlt, hnx⟩ := nx_some hok hAn.symm fN (by omega)
              obtain ⟨hat, _⟩ := at_begin hok (q := Q) hi (by omega)
              have hself := nx_self hok (q := Q) hi hib (by omega)
              obtain ⟨X, hX⟩ : ∃ X : Nat, X = Q * lenN ws + bnd (tks ws) i := ⟨_, rfl⟩
              rw [← hX] at hge hlt hnx hat hself
              obtain ⟨XI, hXI⟩ : ∃ XI : Int, XI = (X : Int) := ⟨_, rfl⟩
              have KN : Hid (∀ W, Below w1.heap.size w1 W → Calls Try.prog 16 #[.slice (some ⟨g, oo, none⟩) k cap0, .int .i64 kd, .int .i64 ix, .int .i64 F] W fun e w' => e = .returned (.tuple #[.int .i64 XI, .int .i64 0]) ∧ Below W.heap.size W w') := Lib.hid fun W hW => by
                have := nx_any W G _ ws (ht1.below hW) kd ix F
                have e5 : nextV ws kd ix F = (XI, 0) := by unfold nextV; rw [if_pos hok, if_pos ⟨by omega, by omega⟩, hfN, hXI]; exact hnx
                rw [e5] at this; exact this
              have KM : Hid (∀ W, Below w1.heap.size w1 W → Calls Try.prog 16 #[.slice (some ⟨g, oo, none⟩) k cap0, .int .i64 kd, .int .i64 ix, .int .i64 XI] W fun e w' => e = .returned (.tuple #[.int .i64 XI, .int .i64 0]) ∧ Below W.heap.size W w') := Lib.hid fun W hW => by
                have := nx_any W G _ ws (ht1.below hW) kd ix XI
                have e5 : nextV ws kd ix XI = (XI, 0) := by unfold nextV; rw [if_pos hok, if_pos ⟨by omega, by omega⟩, hXI]; exact hself
                rw [e5] at this; exact this
              have KA : Hid (∀ W, Below w1.heap.size w1 W → Calls Try.prog 12 #[.slice (some ⟨g, oo, none⟩) k cap0, .int .i64 XI] W fun e w' => e = .returned (.tuple #[.agg #[.int .i64 (Q : Int), .int .i64 (i : Int), .int .i64 0], .int .i64 0]) ∧ Below W.heap.size W w') := Lib.hid fun W hW => by
                have := at_any W G _ ws (ht1.below hW) XI
                rw [hXI, hat] at this; rw [hXI]; exact this
              have iI : (i : Int) < (k : Int) := by omega
              have d1 : decide (XI < F) = false := decide_eq_false (by omega)
              have d2 : decide (F + (L : Int) ≤ XI) = false := decide_eq_false (by omega)
              have d3 : decide ((i : Int) < 0) = false := decide_eq_false (by omega)
              have d4 : decide ((k : Int) ≤ (i : Int)) = false := decide_eq_false (by omega)
              have d5 : decide (k ≤ i) = false := decide_eq_false (by omega)
              have hkk : (ws.getD i w0).1 = kd ∧ (ws.getD i w0).2.1 = ix := by unfold isB at hib; simpa using hib
              have KTi : Hid (∀ W, Below w1.heap.size w1 W → W.cell? ⟨g, oo + i * 3, none⟩ = some (.int .i64 kd) ∧ W.cell? ⟨g, oo + i * 3 + 1, none⟩ = some (.int .i64 ix)) := Lib.hid fun W hW => by
                obtain ⟨c0, c1, _⟩ := KT.out W hW i (by omega)
                rw [hkk.1] at c0
                rw [hkk.2] at c1
                exact ⟨c0, c1⟩
              have HD := Lib.hid (And.intro d1 (And.intro d2 (And.intro d3 (And.intro d4 d5))))
              have HA := Lib.hid (And.intro b1 (And.intro b2 b3))
              clear e1 e2 e3 e4 hU hUb hOb hfN htN ht1 hok hn hL hLe hb1 hAn hi hib hge hlt hnx hat hself hX hXI d1 d2 d3 d4 d5 hkk
              go_wp2_with (first
                | (go_at_call 14; (with_reducible refine (K1.out _ HBW.out).mono ?_); rintro e w3 ⟨rfl, hb⟩; have H3 := Lib.hid (HBW.out.trans (hb.mono HBW.out.size)); obtain ⟨z0, z1, z2, z3⟩ := PC.out _ H3.out; clear hb)
                | (go_at_call 14; (with_reducible refine (K2.out _ H3.out).mono ?_); rintro e w4 ⟨rfl, hb⟩; have H4 := Lib.hid (H3.out.trans (hb.mono H3.out.size)); obtain ⟨u0, u1, u2, u3⟩ := PC.out _ H4.out; clear hb)
                | (go_at_call 14; (with_reducible refine (K3.out _ H4.out).mono ?_); rintro e w5 ⟨rfl, hb⟩; have H5 := Lib.hid (H4.out.trans (hb.mono H4.out.size)); obtain ⟨v0, v1, v2, v3⟩ := PC.out _ H5.out; clear hb)
                | (go_at_call 14; (with_reducible refine (K4.out _ H5.out).mono ?_); rintro e w6 ⟨rfl, hb⟩; have H6 := Lib.hid (H5.out.trans (hb.mono H5.out.size)); obtain ⟨x0, x1, x2, x3⟩ := PC.out _ H6.out; clear hb)
                | (go_at_call 16; (with_reducible refine (KN.out _ H6.out).mono ?_); rintro e w7 ⟨rfl, hb⟩; have H7 := Lib.hid (H6.out.trans (hb.mono H6.out.size)); clear hb)
                | (go_at_call 12; (with_reducible refine (KA.out _ H7.out).mono ?_); rintro e w8 ⟨rfl, hb⟩; have h8 := H7.out.trans (hb.mono H7.out.size); have H8 := Lib.hid (h8.alloc h8.size (.cells #[.int .i64 (Q : Int), .int .i64 (i : Int), .int .i64 0] 30)); have hp8 := block_new w8 (.cells #[.int .i64 (Q : Int), .int .i64 (i : Int), .int .i64 0] 30); have HP8 := Lib.hid hp8; clear hb h8 hp8))
              have hp := HP8.out
              have h8 := H8.out
              obtain ⟨Bp, hBp⟩ : ∃ Bp, Bp = w8.heap.size := ⟨_, rfl⟩
              obtain ⟨W8, hW8⟩ : ∃ W8, W8 = w8.alloc (.cells #[.int .i64 (Q : Int), .int .i64 (i : Int), .int .i64 0] 30) := ⟨_, rfl⟩
              rw [← hBp, ← hW8] at hp
              rw [← hW8] at h8
              rw [← hBp, ← hW8]
              clear hBp hW8 H8 HP8
              obtain ⟨d1, d2, d3, d4, d5⟩ := HD.out
              have p1 : W8.cell? ⟨Bp, 1, none⟩ = some (.int .i64 (i : Int)) := by rw [cell_of_row _ _ _ _ _ _ hp]; rfl
              have p2 : W8.cell? ⟨Bp, 2, none⟩ = some (.int .i64 0) := by rw [cell_of_row _ _ _ _ _ _ hp]; rfl
              obtain ⟨c0, c1⟩ := KTi.out _ h8
              obtain ⟨a0, a1, a2, a3⟩ := PC.out _ h8
              have H8 := Lib.hid h8
              clear h8 hp y0 y1 y2 y3 z0 z1 z2 z3 u0 u1 u2 u3 v0 v1 v2 v3 x0 x1 x2 x3
              go_quiet (fail)
              have h9 := below_drewN H8.out nq
              have a0' : (W8.drewN nq).cell? ⟨w.heap.size, 0, none⟩ = some (.int .i64 kd) := a0
              have a1' : (W8.drewN nq).cell? ⟨w.heap.size, 1, none⟩ = some (.int .i64 ix) := a1
              generalize W8.drewN nq = W9 at *
              have H9 := Lib.hid h9
              clear h9 a0 a1 a2 a3 c0 c1 p1 p2 d1 d2 d3 d4 d5
              go_wp2_with (first
                | (go_at_call 16; (with_reducible refine (KM.out _ H9.out).mono ?_); rintro e w10 ⟨rfl, hb⟩; have H10 := Lib.hid (H9.out.trans (hb.mono H9.out.size)); clear hb)
                | (go_at_call 18; refine (KF.out _).mono ?_; rintro e w11 ⟨rfl, hb⟩; have H11 := Lib.hid (H10.out.trans (hb.mono H10.out.size)); clear hb))
              go_ret
              exact ⟨rfl, HW.out.2.2.2.2.2.1.trans (H11.out.mono HW.out.2.2.2.2.2.1.size)⟩
theorem fair_any (w : World) (G : Nat → Prop) (v : Value) (ws : List Wn) (ht : WinV G w v ws) (hl : ws.length ≤ 140737488355328) (kd ix F T : Int) :
    Calls Try.prog 4 #[v, .agg #[.int .i64 kd, .int .i64 ix, .int .i64 F, .int .i64 T]] w fun e w' => e = .returned (.bool true) ∧ Below w.heap.size w w' := by
  by_cases hok : okL ws
  · exact fair_yes w G v ws ht kd ix F T hok
  · exact fair_no w G v ws ht hl kd ix F T hok
end Go.Proofs.Ytgbmddjpaibcfaa
