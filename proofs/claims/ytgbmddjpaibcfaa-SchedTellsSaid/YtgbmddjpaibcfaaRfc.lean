/- The document's ticks and next ones: what the two calls return. Condition: the list of windows is no longer than a machine holds. -/
import Derived.Test.YtgbmddjpaibcfaaRfb
namespace Go.Proofs.Ytgbmddjpaibcfaa
open Go.RowKit Go.Maps
set_option linter.unusedVariables false
set_option linter.unusedSimpArgs false

theorem upV_le {ws : List Wn} (hok : okL ws) (kd ix : Int) {T : Nat} (hT : T ≤ 1099511627776) : upV ws kd ix T ≤ 17944029765320640 := by
  have hL := lenN_ok hok
  unfold upV
  have h1 := cntR_le ws kd ix (lenN ws)
  have h2 := cntR_le ws kd ix (T % lenN ws)
  have h3 := Nat.mod_lt T (show 0 < lenN ws by omega)
  have h4 : cntR ws kd ix (lenN ws) * (T / lenN ws) ≤ 17944029765304320 := Nat.le_trans (Nat.mul_le_mul (show _ ≤ 16320 by omega) (Nat.le_trans (Nat.div_le_self _ _) hT)) (by decide)
  have h5 : cntR ws kd ix (T % lenN ws) ≤ 16320 := by omega
  exact Nat.add_le_add h4 h5
theorem sub_in {a b : Nat} (ha : a ≤ 17944029765320640) (hb : b ≤ 17944029765320640) : IntKind.i64.wrap ((a : Int) - (b : Int)) = (a : Int) - (b : Int) ∧ wrap64 ((a : Int) - (b : Int)) = (a : Int) - (b : Int) := ⟨IntWalk.i64_in _ (by omega), w64 (by omega)⟩
set_option maxRecDepth 100000 in
set_option maxHeartbeats 4000000 in
theorem rtic_any (w : World) (G : Nat → Prop) (v : Value) (ws : List Wn) (ht : WinV G w v ws) (hl : ws.length ≤ 140737488355328) (kd ix F T : Int) :
    Calls Try.prog 15 #[v, .int .i64 kd, .int .i64 ix, .int .i64 F, .int .i64 T] w fun e w' => e = .returned (.tuple #[.int .i64 (tickV ws kd ix F T).1, .int .i64 (tickV ws kd ix F T).2]) ∧ Below w.heap.size w w' := by
  have k1 := rcheck_any w G v ws ht hl
  have kf := fun W => rtick_any W F
  have kt := fun W => rtick_any W T
  by_cases hok : okL ws
  · rw [show chkE ws = 0 from if_pos hok] at k1
    by_cases h : isT F ∧ isT T ∧ F ≤ T
    · obtain ⟨fN, hfN⟩ : ∃ n : Nat, F = (n : Int) := ⟨F.toNat, by have := h.1.1; omega⟩
      obtain ⟨tN, htN⟩ : ∃ n : Nat, T = (n : Int) := ⟨T.toNat, by have := h.2.1.1; omega⟩
      have hf40 : fN ≤ 1099511627776 := by have := h.1.2; omega
      have ht40 : tN ≤ 1099511627776 := by have := h.2.1.2; omega
      obtain ⟨U, hU⟩ : ∃ U, U = upV ws kd ix tN := ⟨_, rfl⟩
      obtain ⟨V, hV⟩ : ∃ V, V = upV ws kd ix fN := ⟨_, rfl⟩
      have e1 : tickV ws kd ix F T = ((U : Int) - (V : Int), 0) := by
        unfold tickV
        rw [if_pos hok, if_pos h, hfN, htN, show ((fN : Int)).toNat = fN from rfl, show ((tN : Int)).toNat = tN from rfl, hU, hV, up_sub hok]
      have KU : Hid (∀ W, Below w.heap.size w W → Calls Try.prog 40 #[v, .int .i64 kd, .int .i64 ix, .int .i64 T] W fun e w' => e = .returned (.int .i64 (U : Int)) ∧ Below W.heap.size W w') := Lib.hid fun W hW => by
        have := upto_any W G v ws (ht.below hW) hok kd ix tN ht40
        rw [← hU, ← htN] at this; exact this
      have KV : Hid (∀ W, Below w.heap.size w W → Calls Try.prog 40 #[v, .int .i64 kd, .int .i64 ix, .int .i64 F] W fun e w' => e = .returned (.int .i64 (V : Int)) ∧ Below W.heap.size W w') := Lib.hid fun W hW => by
        have := upto_any W G v ws (ht.below hW) hok kd ix fN hf40
        rw [← hV, ← hfN] at this; exact this
      obtain ⟨q1, q2⟩ := sub_in (a := U) (b := V) (by rw [hU]; exact upV_le hok kd ix ht40) (by rw [hV]; exact upV_le hok kd ix hf40)
      rw [decide_eq_true h.1] at kf
      rw [decide_eq_true h.2.1] at kt
      have hFT : ¬ T < F := by have := h.2.2; omega
      have KF := Lib.hid kf
      have KT := Lib.hid kt
      rw [e1]
      obtain ⟨q, n, cap0, rfl⟩ : ∃ q n cap, v = .slice q n cap := by obtain ⟨q, cap, e, _⟩ := ht; exact ⟨_, _, _, e⟩
      clear ht hok h hfN htN hf40 ht40 hU hV e1 kf kt
      go_enter Try.func15, Try.ntmps15
      go_wp2_with (first
        | (go_at_call 11; refine k1.mono ?_; rintro e w2 ⟨rfl, hb⟩; have H2 := Lib.hid hb; clear hb)
        | (go_at_call 37; (with_reducible refine (KF.out _).mono ?_); rintro e _ ⟨rfl, rfl⟩)
        | (go_at_call 37; (with_reducible refine (KT.out _).mono ?_); rintro e _ ⟨rfl, rfl⟩)
        | (go_at_call 40; (with_reducible refine (KU.out _ H2.out).mono ?_); rintro e w3 ⟨rfl, hb⟩; have H3 := Lib.hid (H2.out.trans (hb.mono H2.out.size)); clear hb)
        | (go_at_call 40; (with_reducible refine (KV.out _ H3.out).mono ?_); rintro e w4 ⟨rfl, hb⟩; have H4 := Lib.hid (H3.out.trans (hb.mono H3.out.size)); clear hb))
      go_ret2
      exact ⟨rfl, H4.out⟩
    · have e1 : tickV ws kd ix F T = (0, 1) := by unfold tickV; rw [if_pos hok, if_neg h]
      rw [e1]
      obtain ⟨q, n, cap0, rfl⟩ : ∃ q n cap, v = .slice q n cap := by obtain ⟨q, cap, e, _⟩ := ht; exact ⟨_, _, _, e⟩
      clear ht hok e1
      by_cases a : isT F
      · rw [decide_eq_true a] at kf
        by_cases b : isT T
        · rw [decide_eq_true b] at kt
          have c : T < F := Int.not_le.1 (fun q => h ⟨a, b, q⟩)
          have KF := Lib.hid kf
          have KT := Lib.hid kt
          clear a b h kf kt
          go_enter Try.func15, Try.ntmps15
          go_wp2_with (first
            | (go_at_call 11; refine k1.mono ?_; rintro e w2 ⟨rfl, hb⟩; have H2 := Lib.hid hb; clear hb)
            | (go_at_call 37; (with_reducible refine (KF.out _).mono ?_); rintro e _ ⟨rfl, rfl⟩)
            | (go_at_call 37; (with_reducible refine (KT.out _).mono ?_); rintro e _ ⟨rfl, rfl⟩))
          go_ret2
          exact ⟨rfl, H2.out⟩
        · rw [decide_eq_false b] at kt
          have KF := Lib.hid kf
          have KT := Lib.hid kt
          clear a b h kf kt
          go_enter Try.func15, Try.ntmps15
          go_wp2_with (first
            | (go_at_call 11; refine k1.mono ?_; rintro e w2 ⟨rfl, hb⟩; have H2 := Lib.hid hb; clear hb)
            | (go_at_call 37; (with_reducible refine (KF.out _).mono ?_); rintro e _ ⟨rfl, rfl⟩)
            | (go_at_call 37; (with_reducible refine (KT.out _).mono ?_); rintro e _ ⟨rfl, rfl⟩))
          go_ret2
          exact ⟨rfl, H2.out⟩
      · rw [decide_eq_false a] at kf
        have KF := Lib.hid kf
        clear a h kf kt
        go_enter Try.func15, Try.ntmps15
        go_wp2_with (first
          | (go_at_call 11; refine k1.mono ?_; rintro e w2 ⟨rfl, hb⟩; have H2 := Lib.hid hb; clear hb)
          | (go_at_call 37; (with_reducible refine (KF.out _).mono ?_); rintro e _ ⟨rfl, rfl⟩))
        go_ret2
        exact ⟨rfl, H2.out⟩
  · have e1 : tickV ws kd ix F T = (0, 130) := by unfold tickV; rw [if_neg hok]
    rw [e1]
    rw [show chkE ws = 130 from if_neg hok] at k1
    obtain ⟨q, n, cap0, rfl⟩ : ∃ q n cap, v = .slice q n cap := by obtain ⟨q, cap, e, _⟩ := ht; exact ⟨_, _, _, e⟩
    clear ht hok e1 kf kt
    go_enter Try.func15, Try.ntmps15
    go_wp2_with (go_at_call 11; refine k1.mono ?_; rintro e w2 ⟨rfl, hb⟩; have H2 := Lib.hid hb; clear hb)
    go_ret2
    exact ⟨rfl, H2.out⟩
set_option maxRecDepth 100000 in
set_option maxHeartbeats 4000000 in
theorem rnx_yes (w : World) (G : Nat → Prop) (v : Value) (ws : List Wn) (ht : WinV G w v ws) (hl : ws.length ≤ 140737488355328) (hok : okL ws) (kd ix : Int) (F : Nat) (hF : F ≤ 1099511627776) :
    Calls Try.prog 17 #[v, .int .i64 kd, .int .i64 ix, .int .i64 (F : Int)] w fun e w' => e = .returned (.tuple #[.int .i64 (nextN ws kd ix F).1, .int .i64 (nextN ws kd ix F).2]) ∧ Below w.heap.size w w' := by
  have k1 := rcheck_any w G v ws ht hl
  rw [show chkE ws = 0 from if_pos hok] at k1
  have kt := fun W => rtick_any W (F : Int)
  rw [decide_eq_true (show isT (F : Int) from ⟨by omega, by omega⟩)] at kt
  have KT' := Lib.hid kt
  have KR : Hid (∀ W, Below w.heap.size w W → Calls Try.prog 33 #[v] W (FrP W (frL ws))) := Lib.hid fun W hW => frame_any W G v ws (ht.below hW) hok
  obtain ⟨q, n, cap0, rfl⟩ : ∃ q n cap, v = .slice q n cap := by obtain ⟨q, cap, e, _⟩ := ht; exact ⟨_, _, _, e⟩
  have hn : n = ws.length := by obtain ⟨q, cap, e, _⟩ := ht; injection e
  have hL := lenN_ok hok
  obtain ⟨L, hLe⟩ : ∃ L, L = lenN ws := ⟨_, rfl⟩
  have hfl : (frL ws).length = L := by rw [frL_len, hLe]
  rw [← hLe] at hL
  obtain ⟨g, oo, rfl, hcell⟩ : ∃ g oo, q = some ⟨g, oo, none⟩ ∧ ∀ W, Below w.heap.size w W → ∀ k, k < n → W.cell? ⟨g, oo + k * 3, none⟩ = some (.int .i64 (ws.getD k w0).1) ∧ W.cell? ⟨g, oo + k * 3 + 1, none⟩ = some (.int .i64 (ws.getD k w0).2.1) ∧ W.cell? ⟨g, oo + k * 3 + 2, none⟩ = some (.int .i64 (ws.getD k w0).2.2) := by
    obtain ⟨q', cap, e, _, hc⟩ := ht
    injection e with ea eb ec
    obtain ⟨b, o', hq, _, hlt, hcl⟩ := hc (fun e => by have := hok.1; rw [e] at this; simp at this)
    refine ⟨b, o', ea.trans hq, fun W hW k hk => ?_⟩
    obtain ⟨c0, c1, c2⟩ := hcl k (by omega)
    exact ⟨cell_below c0 hW, cell_below c1 hW, cell_below c2 hW⟩
  have KT := Lib.hid hcell
  obtain ⟨FI, hFI⟩ : ∃ FI : Int, FI = (F : Int) := ⟨_, rfl⟩
  rw [← hFI] at KT' ⊢
  have q1 : IntKind.i64.wrap (FI + (L : Int)) = FI + (L : Int) := IntWalk.i64_in _ (by omega)
  have q2 : wrap64 (FI + (L : Int)) = FI + (L : Int) := w64 (by omega)
  have n0 : ¬ (L : Int) = 0 := by omega
  have n1 : ((L : Int) == 0) = false := by simpa using n0
  have n2 : ¬ L = 0 := by omega
  have HW := Lib.hid (And.intro hok (And.intro hn (And.intro hfl (And.intro hLe (And.intro hL (And.intro hF hFI))))))
  clear ht hok hn hcell hfl hLe hL hF hFI kt
  go_enter Try.func17, Try.ntmps17
  go_wp2_with (first
    | (go_at_call 11; refine k1.mono ?_; rintro e w1 ⟨rfl, hb⟩; have H1 := Lib.hid hb; clear hb)
    | (go_at_call 37; refine (KT'.out _).mono ?_; rintro e _ ⟨rfl, rfl⟩)
    | (go_at_call 33; refine (KR.out _ H1.out).mono ?_; rintro e w2 ⟨v2, rfl, ⟨g2, c2, rfl, hg2, hg3, hc⟩, hb⟩; rw [HW.out.2.2.1] at *; have H2 := Lib.hid (And.intro hc (H1.out.trans (hb.mono H1.out.size))); clear hc hg2 hg3 hb))
  go_loopw [12] (fun a wr => ∃ (N : Nat) (NI : Int), a = .int .i64 NI ∧ NI = (N : Int) ∧ F ≤ N ∧ N ≤ F + L ∧ (∀ m, F ≤ m → m < N → ¬ conN ws kd ix m) ∧ Below w2.heap.size w2 wr) (fun a _ => F + L - (intOf a).toNat)
  case atStart => exact ⟨F, FI, rfl, HW.out.2.2.2.2.2.2, Nat.le_refl _, Nat.le_add_right _ _, fun m h1 h2 => absurd h2 (by omega), Below.refl _ _⟩
  case round =>
    obtain ⟨N, NI, rfl, hNI, hN1, hN2, hno, hbw⟩ := hrel
    obtain ⟨hok, hn, hfl, hLe, hL, hF, hFI⟩ := HW.out
    by_cases a : N < F + L
    · have aI : NI < FI + (L : Int) := by omega
      obtain ⟨R, hR⟩ : ∃ R, R = N % L := ⟨_, rfl⟩
      have hRL : R < L := by rw [hR]; exact Nat.mod_lt _ (by omega)
      have hget := frL_get ws R (by rw [← hLe]; exact hRL)
      have hkn := loc_lt hok (r := R) (by rw [← hLe]; exact hRL)
      obtain ⟨kk, hkk⟩ : ∃ kk, kk = (loc (tks ws) R).1 := ⟨_, rfl⟩
      obtain ⟨o, ho⟩ : ∃ o, o = (loc (tks ws) R).2 := ⟨_, rfl⟩
      obtain ⟨f0, f1⟩ := H2.out.1 R _ hget
      have y0 := cell_below f0 hbw
      have y1 := cell_below f1 hbw
      rw [← hkk] at y0 hkn
      rw [← ho] at y1
      rw [← hn] at hkn
      have hB : Below w.heap.size w wr := H2.out.2.trans (hbw.mono H2.out.2.size)
      have hbA : Below w2.heap.size w2 (wr.alloc (.cells #[.int .i64 (kk : Int), .int .i64 (o : Int)] 72)) := hbw.alloc hbw.size _
      have hbB : Below w.heap.size w (wr.alloc (.cells #[.int .i64 (kk : Int), .int .i64 (o : Int)] 72)) := hB.alloc hB.size _
      obtain ⟨c0, c1, _⟩ := KT.out _ hbB kk hkn
      have hcon : conN ws kd ix N ↔ (o = 0 ∧ (ws.getD kk w0).1 = kd ∧ (ws.getD kk w0).2.1 = ix) := by
        unfold conN isR isW isB
        rw [← hLe, ← hR, ← hkk, ← ho, decide_eq_true_eq]
      obtain ⟨f, hf⟩ : ∃ f, f = (ws.getD kk w0).1 := ⟨_, rfl⟩
      obtain ⟨r, hr⟩ : ∃ r, r = (ws.getD kk w0).2.1 := ⟨_, rfl⟩
      rw [← hf, ← hr] at hcon
      rw [← hf] at c0
      rw [← hr] at c1
      have kI : (kk : Int) < (n : Int) := by omega
      have RI : (R : Int) < (L : Int) := by omega
      have N0 : 0 ≤ NI := by omega
      have r2 : IntKind.i64.wrap (NI.tmod (L : Int)) = (R : Int) := by
        rw [show NI.tmod (L : Int) = (R : Int) by rw [hNI, hR]; exact Int.ofNat_tmod _ _]; exact IntWalk.i64_in _ (by omega)
      have r4 : NI % (L : Int) = (R : Int) := by rw [hNI, hR]; exact (Int.natCast_emod _ _).symm
      have r5 : IntKind.i64.wrap (NI + 1) = NI + 1 := IntWalk.i64_in _ (by omega)
      have r6 : wrap64 (NI + 1) = NI + 1 := w64 (by omega)
      have hspec := next_spec hok kd ix F
      have hnot : ¬ conN ws kd ix N → Hid (∃ (N_1 : Nat), NI + 1 = (N_1 : Int) ∧ F ≤ N_1 ∧ N_1 ≤ F + L ∧ (∀ m, F ≤ m → m < N_1 → ¬ conN ws kd ix m) ∧ (F + L - N_1 < F + L - NI.toNat)) := fun hc => Lib.hid ⟨N + 1, by omega, by omega, a, fun m h1 h2 => by
        rcases Nat.lt_or_ge m N with h | h
        · exact hno m h1 h
        · obtain rfl : m = N := by omega
          exact hc, by omega⟩
      have hyes : conN ws kd ix N → Hid (nextN ws kd ix F = (NI, 0)) := fun hc => Lib.hid (by
        rcases hspec with ⟨x, e1, e2, e3, e4, e5⟩ | ⟨_, e5⟩
        · have : x = N := by
            rcases Nat.lt_trichotomy x N with h | h | h
            · exact absurd e4 (hno x e2 h)
            · exact h
            · exact absurd hc (e5 N hN1 h)
          rw [e1, this, hNI]
        · exact absurd hc (e5 N hN1 (by rw [← hLe]; exact a)))
      have HB := Lib.hid (And.intro hbA hbB)
      clear hget hkn hkk ho f0 f1 hB hbA hbB hf hr hR hok hn hfl hLe hL hF hFI hNI hN1 hN2 hno hbw hspec hRL
      by_cases co : o = 0
      · by_cases cf : f = kd
        · by_cases cr : r = ix
          · have HY := hyes (hcon.2 ⟨co, cf, cr⟩)
            have b1 : ((o : Int) == 0) = true := by simp [co]
            have b2 : (f == kd) = true := by simp [cf]
            have b3 : (r == ix) = true := by simp [cr]
            clear hyes hnot hcon co cf cr
            go_wp2
            go_ret2
            exact ⟨by first | (rw [HY.out]; done) | (rw [HY.out]; rfl), HB.out.2⟩
          · have HN := hnot (fun h => cr (hcon.1 h).2.2)
            have b1 : ((o : Int) == 0) = true := by simp [co]
            have b2 : (f == kd) = true := by simp [cf]
            have b3 : (r == ix) = false := by simp [cr]
            clear hyes hnot hcon co cf cr
            go_wp2
            obtain ⟨N1, h1, h2, h3, h4, h5⟩ := HN.out
            exact ⟨⟨N1, _, rfl, h1, h2, h3, h4, HB.out.1⟩, by simp only [intOf]; omega⟩
        · have HN := hnot (fun h => cf (hcon.1 h).2.1)
          have b1 : ((o : Int) == 0) = true := by simp [co]
          have b2 : (f == kd) = false := by simp [cf]
          clear hyes hnot hcon co cf
          go_wp2
          obtain ⟨N1, h1, h2, h3, h4, h5⟩ := HN.out
          exact ⟨⟨N1, _, rfl, h1, h2, h3, h4, HB.out.1⟩, by simp only [intOf]; omega⟩
      · have HN := hnot (fun h => co (hcon.1 h).1)
        have b1 : ((o : Int) == 0) = false := by simp [co]
        clear hyes hnot hcon co
        go_wp2
        obtain ⟨N1, h1, h2, h3, h4, h5⟩ := HN.out
        exact ⟨⟨N1, _, rfl, h1, h2, h3, h4, HB.out.1⟩, by simp only [intOf]; omega⟩
    · have aI : ¬ NI < FI + (L : Int) := by omega
      have e1 : nextN ws kd ix F = (0, 130) := by
        rcases next_spec hok kd ix F with ⟨x, e1, e2, e3, e4, e5⟩ | ⟨e1, _⟩
        · exact absurd e4 (hno x e2 (by rw [← hLe] at e3; omega))
        · exact e1
      have HE := Lib.hid (And.intro e1 (H2.out.2.trans (hbw.mono H2.out.2.size)))
      clear hok hn hfl hLe hL hF hFI hNI hN1 hN2 hno hbw e1
      go_wp2
      go_ret2
      exact ⟨by first | (rw [HE.out.1]; done) | (rw [HE.out.1]; rfl), HE.out.2⟩
set_option maxRecDepth 100000 in
set_option maxHeartbeats 4000000 in
theorem rnx_any (w : World) (G : Nat → Prop) (v : Value) (ws : List Wn) (ht : WinV G w v ws) (hl : ws.length ≤ 140737488355328) (kd ix F : Int) :
    Calls Try.prog 17 #[v, .int .i64 kd, .int .i64 ix, .int .i64 F] w fun e w' => e = .returned (.tuple #[.int .i64 (nextV ws kd ix F).1, .int .i64 (nextV ws kd ix F).2]) ∧ Below w.heap.size w w' := by
  have k1 := rcheck_any w G v ws ht hl
  have kf := fun W => rtick_any W F
  by_cases hok : okL ws
  · rw [show chkE ws = 0 from if_pos hok] at k1
    by_cases h : isT F
    · obtain ⟨f, rfl⟩ : ∃ n : Nat, F = (n : Int) := ⟨F.toNat, by have := h.1; omega⟩
      have e : nextV ws kd ix (f : Int) = nextN ws kd ix f := by unfold nextV; rw [if_pos hok, if_pos h]; rfl
      rw [e]
      exact rnx_yes w G v ws ht hl hok kd ix f (by have := h.2; omega)
    · have e : nextV ws kd ix F = (0, 1) := by unfold nextV; rw [if_pos hok, if_neg h]
      rw [e]
      rw [decide_eq_false h] at kf
      have KF := Lib.hid kf
      obtain ⟨q, n, cap0, rfl⟩ : ∃ q n cap, v = .slice q n cap := by obtain ⟨q, cap, e, _⟩ := ht; exact ⟨_, _, _, e⟩
      clear ht hok e kf h
      go_enter Try.func17, Try.ntmps17
      go_wp2_with (first
        | (go_at_call 11; refine k1.mono ?_; rintro e w2 ⟨rfl, hb⟩; have H2 := Lib.hid hb; clear hb)
        | (go_at_call 37; (with_reducible refine (KF.out _).mono ?_); rintro e _ ⟨rfl, rfl⟩))
      go_ret2
      exact ⟨rfl, H2.out⟩
  · have e : nextV ws kd ix F = (0, 130) := by unfold nextV; rw [if_neg hok]
    rw [e]
    rw [show chkE ws = 130 from if_neg hok] at k1
    obtain ⟨q, n, cap0, rfl⟩ : ∃ q n cap, v = .slice q n cap := by obtain ⟨q, cap, e, _⟩ := ht; exact ⟨_, _, _, e⟩
    clear ht hok e kf
    go_enter Try.func17, Try.ntmps17
    go_wp2_with (go_at_call 11; refine k1.mono ?_; rintro e w2 ⟨rfl, hb⟩; have H2 := Lib.hid hb; clear hb)
    go_ret2
    exact ⟨rfl, H2.out⟩
end Go.Proofs.Ytgbmddjpaibcfaa
