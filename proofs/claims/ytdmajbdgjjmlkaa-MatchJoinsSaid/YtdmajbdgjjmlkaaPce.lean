/- A piece: an atom and its sign: what the call returns, how a fault goes out. Conditions: the reader lies in memory; what stands between brackets is read as it should. -/
import Derived.Test.YtdmajbdgjjmlkaaAtm
namespace Go.Proofs.Ytdmajbdgjjmlkaa
open Go.RowKit
set_option linter.unusedVariables false

/-- how the reader, the result's row and an expression that was read lie -/
structure At2 (b R N : Nat) (w wr : World) (l : Bs) (C : Array Value) (v : Value) (ls : List Rx) : Prop where
  at1 : At b R w wr l
  row : wr.heap[N]? = some (.cells C 26 (0, 0))
  lies : LiesL (R + 1 ≤ ·) wr v ls
  hN : R < N
section
variable {b R N : Nat} {w wr w' : World} {l l' : Bs} {C : Array Value} {v : Value} {ls : List Rx}
theorem At2.first (h : At b R w wr l) (hl : LiesL (R + 1 ≤ ·) wr v ls) (C : Array Value) : At2 b R wr.heap.size w (wr.alloc (.cells C 26)) l C v ls :=
  ⟨h.below (below_new wr _), heap_alloc_new wr _, hl.stay (below_new wr _), block_lt h.res⟩
theorem At2.step (h : At2 b R N w wr l C v ls) (k : Step b wr w' l') : At2 b R N w w' l' C v ls :=
  ⟨h.at1.step k, by rw [k.grown.block N (block_lt h.row) (by have := h.at1.lt; have := h.at1.hR; have := h.hN; simp; omega)]; exact h.row,
    h.lies.kept k.grown.size (fun i hi hlt => k.grown.block i hlt (by have := h.at1.lt; have := h.at1.hR; simp; omega)) (fun _ q _ => q), h.hN⟩
theorem At2.c (h : At2 b R N w wr l C v ls) (j : Nat) (u : Value) (hu : C[j]? = some u) : wr.cell? ⟨N, j, none⟩ = some u := cell_at h.row hu
theorem At2.st (h : At2 b R N w wr l C v ls) : St wr b l := h.at1.st
end
theorem Rx.cells_rep (t : Rx) (lo hi : Int) (v : Value) : (repR t lo hi).val v = .agg #[.int .i64 3, .int .i64 lo, .int .i64 hi, .int .u64 0, .int .u64 0, .int .u64 0, .int .u64 0, v] := rfl
theorem one_value {ok : Nat → Prop} {w : World} {v : Value} {t : Rx} (h : LiesL ok w v [t]) : ∃ ao cp, v = .slice ao 1 cp := h.value
set_option maxRecDepth 20000 in
set_option maxHeartbeats 8000000 in
theorem piece_any (alt : Bs → Option (Rx × Bs)) (b : Nat) (l : Bs) (w : World) (h : St w b l)
    (IH : isNext 40 l = true → ∀ w1, St w1 b l.tail → Calls Try.prog 54 #[.pointer (some ⟨b, 0, none⟩)] w1 (PostR b w1 (alt l.tail))) : Calls Try.prog 63 #[.pointer (some ⟨b, 0, none⟩)] w (PostR b w (pieceP alt l)) := by
  have AT := fun w1 (q : St w1 b l) => atom_any alt b l w1 q IH
  clear IH
  obtain ⟨R, hR⟩ : ∃ R, R = w.heap.size := ⟨_, rfl⟩
  have t0 := At.first h
  rw [← hR] at t0
  have q0 := t0.st
  have hsz : (w.alloc (.cells zero8 26)).heap.size = R + 1 := by rw [hR]; simp
  have hzz : w.heap.size = R := hR.symm
  unfold zero8 at q0 t0 hsz
  clear h hR
  unfold pieceP
  cases ha : atomP alt l with
  | none =>
    rw [ha] at AT
    unfold PostR at AT
    have A := Lib.hid AT
    clear AT ha hsz
    unfold PostR
    go_enter Try.func63, Try.ntmps63
    go_wp2_with (first
      | (go_at_call 67; (with_reducible refine (A.out _ q0).mono ?_); rintro e w' ⟨rfl, s1⟩))
    exact ⟨rfl, rfl, grown_trans t0.grown s1⟩
  | some p =>
    obtain ⟨t, l1⟩ := p
    rw [ha] at AT
    obtain ⟨k, mn, mx, x0, x1, x2, x3, ls⟩ := t
    have A : Hid (∀ w1, St w1 b l → Calls Try.prog 67 #[.pointer (some ⟨b, 0, none⟩)] w1 fun e w' => Step b w1 w' l1 ∧ ∃ ao cp, e = .returned (.agg #[.int .i64 k, .int .i64 mn, .int .i64 mx, .int .u64 x0, .int .u64 x1, .int .u64 x2, .int .u64 x3, .slice ao ls.length cp]) ∧ LiesL (w1.heap.size ≤ ·) w' (.slice ao ls.length cp) ls) := fun w1 q => (AT w1 q).mono fun e w' hp => by
      obtain ⟨hs, v, he, hl⟩ := hp
      obtain ⟨ao, cp, hv⟩ := hl.value
      have hv' : v = .slice ao ls.length cp := hv
      subst hv'
      exact ⟨hs, ao, cp, he, hl⟩
    have RP : Hid (∀ (lo hi : Int) (ao : Option Addr) (cp : Nat) (w1 : World), R + 1 ≤ w1.heap.size → LiesL (R + 1 ≤ ·) w1 (.slice ao ls.length cp) ls → Calls Try.prog 68 #[.agg #[.int .i64 k, .int .i64 mn, .int .i64 mx, .int .u64 x0, .int .u64 x1, .int .u64 x2, .int .u64 x3, .slice ao ls.length cp], .int .i64 lo, .int .i64 hi] w1 fun e w' => Below w1.heap.size w1 w' ∧ ∃ bo cq, e = .returned (.agg #[.int .i64 3, .int .i64 lo, .int .i64 hi, .int .u64 0, .int .u64 0, .int .u64 0, .int .u64 0, .slice bo 1 cq]) ∧ LiesL (R + 1 ≤ ·) w' (.slice bo 1 cq) [.mk k mn mx x0 x1 x2 x3 ls]) := fun lo hi ao cp w1 hs hl => (repeated_any (D := R + 1) (.mk k mn mx x0 x1 x2 x3 ls) (.slice ao ls.length cp) lo hi w1 hs hl).mono fun e w' hp => by
      obtain ⟨hb, v, he, hl⟩ := hp
      obtain ⟨bo, cq, rfl⟩ := one_value hl
      exact ⟨hb, bo, cq, he, hl⟩
    clear AT ha
    dsimp only
    cases h42 : isNext 42 l1 with
    | true =>
      have T42 : Hid (∀ w1, St w1 b l1 → Calls Try.prog 61 #[.pointer (some ⟨b, 0, none⟩), .int .u8 42] w1 fun e w' => e = .returned (.bool true) ∧ Step b w1 w' l1.tail) := fun w1 q => takes_yes b 42 l1.tail w1 (by rw [← isNext_iff h42]; exact q)
      rw [if_pos rfl]
      clear h42
      unfold PostR
      go_enter Try.func63, Try.ntmps63
      go_wp2_with (first
        | (go_at_call 67; (with_reducible refine (A.out _ q0).mono ?_); rintro e w1 ⟨s1, ao, cp, rfl, hl⟩; rw [hsz] at hl; have t1 := t0.step s1; have u1 := At2.first t1 hl #[.int .i64 k, .int .i64 mn, .int .i64 mx, .int .u64 x0, .int .u64 x1, .int .u64 x2, .int .u64 x3, .slice ao ls.length cp]; have qu1 := u1.st)
        | (go_at_call 61; (with_reducible refine (T42.out _ qu1).mono ?_); rintro e w2 ⟨rfl, s2⟩; have u2 := u1.step s2; have qu2 := u2.st; have m0 := u2.c 0 (.int .i64 k) rfl; have m1 := u2.c 1 (.int .i64 mn) rfl; have m2 := u2.c 2 (.int .i64 mx) rfl; have m3 := u2.c 3 (.int .u64 x0) rfl; have m4 := u2.c 4 (.int .u64 x1) rfl; have m5 := u2.c 5 (.int .u64 x2) rfl; have m6 := u2.c 6 (.int .u64 x3) rfl; have m7 := u2.c 7 (.slice ao ls.length cp) rfl; have hlz := u2.lies; have hsw : R + 1 ≤ _ := Nat.lt_of_lt_of_le u2.hN (Nat.le_of_lt (block_lt u2.row)))
        | (go_at_call 68; (with_reducible refine (RP.out _ _ _ _ _ hsw hlz).mono ?_); rintro e w9 ⟨g9, bo, cq, rfl, hl9⟩; have tz := u2.at1.below g9; have r0 := tz.r0; have r1 := tz.r1; have r2 := tz.r2; have r3 := tz.r3; have r4 := tz.r4; have r5 := tz.r5; have r6 := tz.r6; have r7 := tz.r7; have rg := tz.g))
      exact bodyPost_ret (v := .agg #[.int .i64 3, .int .i64 0, .int .i64 (-1), .int .u64 0, .int .u64 0, .int .u64 0, .int .u64 0, .slice bo 1 cq]) (by simp [results, Try.results63, go_sem, r0, r1, r2, r3, r4, r5, r6, r7]) rfl ⟨tz.fin, _, rfl, tz.lies hl9 (Nat.lt_succ_self _) (Nat.le_refl _) (fun _ _ _ => rfl)⟩
    | false =>
      have T42 : Hid (∀ w1, St w1 b l1 → Calls Try.prog 61 #[.pointer (some ⟨b, 0, none⟩), .int .u8 42] w1 fun e w' => e = .returned (.bool false) ∧ Step b w1 w' l1) := fun w1 q => takes_no b 42 l1 w1 q h42
      rw [if_neg (by decide)]
      clear h42
      cases h43 : isNext 43 l1 with
      | true =>
        have T43 : Hid (∀ w1, St w1 b l1 → Calls Try.prog 61 #[.pointer (some ⟨b, 0, none⟩), .int .u8 43] w1 fun e w' => e = .returned (.bool true) ∧ Step b w1 w' l1.tail) := fun w1 q => takes_yes b 43 l1.tail w1 (by rw [← isNext_iff h43]; exact q)
        rw [if_pos rfl]
        clear h43
        unfold PostR
        go_enter Try.func63, Try.ntmps63
        go_wp2_with (first
          | (go_at_call 67; (with_reducible refine (A.out _ q0).mono ?_); rintro e w1 ⟨s1, ao, cp, rfl, hl⟩; rw [hsz] at hl; have t1 := t0.step s1; have u1 := At2.first t1 hl #[.int .i64 k, .int .i64 mn, .int .i64 mx, .int .u64 x0, .int .u64 x1, .int .u64 x2, .int .u64 x3, .slice ao ls.length cp]; have qu1 := u1.st)
          | (go_at_call 61; (with_reducible refine (T42.out _ qu1).mono ?_); rintro e w2 ⟨rfl, s2⟩; have u2 := u1.step s2; have qu2 := u2.st)
          | (go_at_call 61; (with_reducible refine (T43.out _ qu2).mono ?_); rintro e w3 ⟨rfl, s3⟩; have u3 := u2.step s3; have qu3 := u3.st; have m0 := u3.c 0 (.int .i64 k) rfl; have m1 := u3.c 1 (.int .i64 mn) rfl; have m2 := u3.c 2 (.int .i64 mx) rfl; have m3 := u3.c 3 (.int .u64 x0) rfl; have m4 := u3.c 4 (.int .u64 x1) rfl; have m5 := u3.c 5 (.int .u64 x2) rfl; have m6 := u3.c 6 (.int .u64 x3) rfl; have m7 := u3.c 7 (.slice ao ls.length cp) rfl; have hlz := u3.lies; have hsw : R + 1 ≤ _ := Nat.lt_of_lt_of_le u3.hN (Nat.le_of_lt (block_lt u3.row)))
          | (go_at_call 68; (with_reducible refine (RP.out _ _ _ _ _ hsw hlz).mono ?_); rintro e w9 ⟨g9, bo, cq, rfl, hl9⟩; have tz := u3.at1.below g9; have r0 := tz.r0; have r1 := tz.r1; have r2 := tz.r2; have r3 := tz.r3; have r4 := tz.r4; have r5 := tz.r5; have r6 := tz.r6; have r7 := tz.r7; have rg := tz.g))
        exact bodyPost_ret (v := .agg #[.int .i64 3, .int .i64 1, .int .i64 (-1), .int .u64 0, .int .u64 0, .int .u64 0, .int .u64 0, .slice bo 1 cq]) (by simp [results, Try.results63, go_sem, r0, r1, r2, r3, r4, r5, r6, r7]) rfl ⟨tz.fin, _, rfl, tz.lies hl9 (Nat.lt_succ_self _) (Nat.le_refl _) (fun _ _ _ => rfl)⟩
      | false =>
        have T43 : Hid (∀ w1, St w1 b l1 → Calls Try.prog 61 #[.pointer (some ⟨b, 0, none⟩), .int .u8 43] w1 fun e w' => e = .returned (.bool false) ∧ Step b w1 w' l1) := fun w1 q => takes_no b 43 l1 w1 q h43
        rw [if_neg (by decide)]
        clear h43
        cases h63 : isNext 63 l1 with
        | true =>
          have T63 : Hid (∀ w1, St w1 b l1 → Calls Try.prog 61 #[.pointer (some ⟨b, 0, none⟩), .int .u8 63] w1 fun e w' => e = .returned (.bool true) ∧ Step b w1 w' l1.tail) := fun w1 q => takes_yes b 63 l1.tail w1 (by rw [← isNext_iff h63]; exact q)
          rw [if_pos rfl]
          clear h63
          unfold PostR
          go_enter Try.func63, Try.ntmps63
          go_wp2_with (first
            | (go_at_call 67; (with_reducible refine (A.out _ q0).mono ?_); rintro e w1 ⟨s1, ao, cp, rfl, hl⟩; rw [hsz] at hl; have t1 := t0.step s1; have u1 := At2.first t1 hl #[.int .i64 k, .int .i64 mn, .int .i64 mx, .int .u64 x0, .int .u64 x1, .int .u64 x2, .int .u64 x3, .slice ao ls.length cp]; have qu1 := u1.st)
            | (go_at_call 61; (with_reducible refine (T42.out _ qu1).mono ?_); rintro e w2 ⟨rfl, s2⟩; have u2 := u1.step s2; have qu2 := u2.st)
            | (go_at_call 61; (with_reducible refine (T43.out _ qu2).mono ?_); rintro e w3 ⟨rfl, s3⟩; have u3 := u2.step s3; have qu3 := u3.st)
            | (go_at_call 61; (with_reducible refine (T63.out _ qu3).mono ?_); rintro e w4 ⟨rfl, s4⟩; have u4 := u3.step s4; have qu4 := u4.st; have m0 := u4.c 0 (.int .i64 k) rfl; have m1 := u4.c 1 (.int .i64 mn) rfl; have m2 := u4.c 2 (.int .i64 mx) rfl; have m3 := u4.c 3 (.int .u64 x0) rfl; have m4 := u4.c 4 (.int .u64 x1) rfl; have m5 := u4.c 5 (.int .u64 x2) rfl; have m6 := u4.c 6 (.int .u64 x3) rfl; have m7 := u4.c 7 (.slice ao ls.length cp) rfl; have hlz := u4.lies; have hsw : R + 1 ≤ _ := Nat.lt_of_lt_of_le u4.hN (Nat.le_of_lt (block_lt u4.row)))
            | (go_at_call 68; (with_reducible refine (RP.out _ _ _ _ _ hsw hlz).mono ?_); rintro e w9 ⟨g9, bo, cq, rfl, hl9⟩; have tz := u4.at1.below g9; have r0 := tz.r0; have r1 := tz.r1; have r2 := tz.r2; have r3 := tz.r3; have r4 := tz.r4; have r5 := tz.r5; have r6 := tz.r6; have r7 := tz.r7; have rg := tz.g))
          exact bodyPost_ret (v := .agg #[.int .i64 3, .int .i64 0, .int .i64 1, .int .u64 0, .int .u64 0, .int .u64 0, .int .u64 0, .slice bo 1 cq]) (by simp [results, Try.results63, go_sem, r0, r1, r2, r3, r4, r5, r6, r7]) rfl ⟨tz.fin, _, rfl, tz.lies hl9 (Nat.lt_succ_self _) (Nat.le_refl _) (fun _ _ _ => rfl)⟩
        | false =>
          have T63 : Hid (∀ w1, St w1 b l1 → Calls Try.prog 61 #[.pointer (some ⟨b, 0, none⟩), .int .u8 63] w1 fun e w' => e = .returned (.bool false) ∧ Step b w1 w' l1) := fun w1 q => takes_no b 63 l1 w1 q h63
          rw [if_neg (by decide)]
          clear h63
          cases h123 : isNext 123 l1 with
          | true =>
            have T123 : Hid (∀ w1, St w1 b l1 → Calls Try.prog 61 #[.pointer (some ⟨b, 0, none⟩), .int .u8 123] w1 fun e w' => e = .returned (.bool true) ∧ Step b w1 w' l1.tail) := fun w1 q => takes_yes b 123 l1.tail w1 (by rw [← isNext_iff h123]; exact q)
            rw [if_pos rfl]
            clear h123
            have TM := fun w1 (q : St w1 b l1.tail) => times_any b l1.tail w1 q
            cases ht : timesP l1.tail with
            | none =>
              rw [ht] at TM
              unfold PostT at TM
              have TM2 := Lib.hid TM
              unfold PostR
              clear TM ht RP
              go_enter Try.func63, Try.ntmps63
              go_wp2_with (first
                | (go_at_call 67; (with_reducible refine (A.out _ q0).mono ?_); rintro e w1 ⟨s1, ao, cp, rfl, hl⟩; rw [hsz] at hl; have t1 := t0.step s1; have u1 := At2.first t1 hl #[.int .i64 k, .int .i64 mn, .int .i64 mx, .int .u64 x0, .int .u64 x1, .int .u64 x2, .int .u64 x3, .slice ao ls.length cp]; have qu1 := u1.st)
                | (go_at_call 61; (with_reducible refine (T42.out _ qu1).mono ?_); rintro e w2 ⟨rfl, s2⟩; have u2 := u1.step s2; have qu2 := u2.st)
                | (go_at_call 61; (with_reducible refine (T43.out _ qu2).mono ?_); rintro e w3 ⟨rfl, s3⟩; have u3 := u2.step s3; have qu3 := u3.st)
                | (go_at_call 61; (with_reducible refine (T63.out _ qu3).mono ?_); rintro e w4 ⟨rfl, s4⟩; have u4 := u3.step s4; have qu4 := u4.st)
                | (go_at_call 61; (with_reducible refine (T123.out _ qu4).mono ?_); rintro e w5 ⟨rfl, s5⟩; have u5 := u4.step s5; have qu5 := u5.st; have m0 := u5.c 0 (.int .i64 k) rfl; have m1 := u5.c 1 (.int .i64 mn) rfl; have m2 := u5.c 2 (.int .i64 mx) rfl; have m3 := u5.c 3 (.int .u64 x0) rfl; have m4 := u5.c 4 (.int .u64 x1) rfl; have m5 := u5.c 5 (.int .u64 x2) rfl; have m6 := u5.c 6 (.int .u64 x3) rfl; have m7 := u5.c 7 (.slice ao ls.length cp) rfl; have hlz := u5.lies; have hsw : R + 1 ≤ _ := Nat.lt_of_lt_of_le u5.hN (Nat.le_of_lt (block_lt u5.row)))
                | (go_at_call 69; (with_reducible refine (TM2.out _ qu5).mono ?_); rintro e w' ⟨rfl, s6⟩))
              exact ⟨rfl, rfl, grown_trans u5.at1.grown s6⟩
            | some p =>
              obtain ⟨lo, hi, l2⟩ := p
              rw [ht] at TM
              unfold PostT at TM
              have TM2 := Lib.hid TM
              unfold PostR
              clear TM ht
              dsimp only
              go_enter Try.func63, Try.ntmps63
              go_wp2_with (first
                | (go_at_call 67; (with_reducible refine (A.out _ q0).mono ?_); rintro e w1 ⟨s1, ao, cp, rfl, hl⟩; rw [hsz] at hl; have t1 := t0.step s1; have u1 := At2.first t1 hl #[.int .i64 k, .int .i64 mn, .int .i64 mx, .int .u64 x0, .int .u64 x1, .int .u64 x2, .int .u64 x3, .slice ao ls.length cp]; have qu1 := u1.st)
                | (go_at_call 61; (with_reducible refine (T42.out _ qu1).mono ?_); rintro e w2 ⟨rfl, s2⟩; have u2 := u1.step s2; have qu2 := u2.st)
                | (go_at_call 61; (with_reducible refine (T43.out _ qu2).mono ?_); rintro e w3 ⟨rfl, s3⟩; have u3 := u2.step s3; have qu3 := u3.st)
                | (go_at_call 61; (with_reducible refine (T63.out _ qu3).mono ?_); rintro e w4 ⟨rfl, s4⟩; have u4 := u3.step s4; have qu4 := u4.st)
                | (go_at_call 61; (with_reducible refine (T123.out _ qu4).mono ?_); rintro e w5 ⟨rfl, s5⟩; have u5 := u4.step s5; have qu5 := u5.st)
                | (go_at_call 69; (with_reducible refine (TM2.out _ qu5).mono ?_); rintro e w6 ⟨rfl, s6⟩; have u6 := u5.step s6; have m0 := u6.c 0 (.int .i64 k) rfl; have m1 := u6.c 1 (.int .i64 mn) rfl; have m2 := u6.c 2 (.int .i64 mx) rfl; have m3 := u6.c 3 (.int .u64 x0) rfl; have m4 := u6.c 4 (.int .u64 x1) rfl; have m5 := u6.c 5 (.int .u64 x2) rfl; have m6 := u6.c 6 (.int .u64 x3) rfl; have m7 := u6.c 7 (.slice ao ls.length cp) rfl; have hlz := u6.lies; have hsw : R + 1 ≤ _ := Nat.lt_of_lt_of_le u6.hN (Nat.le_of_lt (block_lt u6.row)))
                | (go_at_call 68; (with_reducible refine (RP.out _ _ _ _ _ hsw hlz).mono ?_); rintro e w9 ⟨g9, bo, cq, rfl, hl9⟩; have tz := u6.at1.below g9; have r0 := tz.r0; have r1 := tz.r1; have r2 := tz.r2; have r3 := tz.r3; have r4 := tz.r4; have r5 := tz.r5; have r6 := tz.r6; have r7 := tz.r7; have rg := tz.g))
              exact bodyPost_ret (v := .agg #[.int .i64 3, .int .i64 lo, .int .i64 hi, .int .u64 0, .int .u64 0, .int .u64 0, .int .u64 0, .slice bo 1 cq]) (by simp [results, Try.results63, go_sem, r0, r1, r2, r3, r4, r5, r6, r7]) rfl ⟨tz.fin, _, rfl, tz.lies hl9 (Nat.lt_succ_self _) (Nat.le_refl _) (fun _ _ _ => rfl)⟩
          | false =>
            have T123 : Hid (∀ w1, St w1 b l1 → Calls Try.prog 61 #[.pointer (some ⟨b, 0, none⟩), .int .u8 123] w1 fun e w' => e = .returned (.bool false) ∧ Step b w1 w' l1) := fun w1 q => takes_no b 123 l1 w1 q h123
            rw [if_neg (by decide)]
            clear h123
            unfold PostR
            clear RP
            go_enter Try.func63, Try.ntmps63
            go_wp2_with (first
              | (go_at_call 67; (with_reducible refine (A.out _ q0).mono ?_); rintro e w1 ⟨s1, ao, cp, rfl, hl⟩; rw [hsz] at hl; have t1 := t0.step s1; have u1 := At2.first t1 hl #[.int .i64 k, .int .i64 mn, .int .i64 mx, .int .u64 x0, .int .u64 x1, .int .u64 x2, .int .u64 x3, .slice ao ls.length cp]; have qu1 := u1.st)
              | (go_at_call 61; (with_reducible refine (T42.out _ qu1).mono ?_); rintro e w2 ⟨rfl, s2⟩; have u2 := u1.step s2; have qu2 := u2.st)
              | (go_at_call 61; (with_reducible refine (T43.out _ qu2).mono ?_); rintro e w3 ⟨rfl, s3⟩; have u3 := u2.step s3; have qu3 := u3.st)
              | (go_at_call 61; (with_reducible refine (T63.out _ qu3).mono ?_); rintro e w4 ⟨rfl, s4⟩; have u4 := u3.step s4; have qu4 := u4.st)
              | (go_at_call 61; (with_reducible refine (T123.out _ qu4).mono ?_); rintro e w5 ⟨rfl, s5⟩; have u5 := u4.step s5; have qu5 := u5.st; have m0 := u5.c 0 (.int .i64 k) rfl; have m1 := u5.c 1 (.int .i64 mn) rfl; have m2 := u5.c 2 (.int .i64 mx) rfl; have m3 := u5.c 3 (.int .u64 x0) rfl; have m4 := u5.c 4 (.int .u64 x1) rfl; have m5 := u5.c 5 (.int .u64 x2) rfl; have m6 := u5.c 6 (.int .u64 x3) rfl; have m7 := u5.c 7 (.slice ao ls.length cp) rfl; have hlz := u5.lies; have hsw : R + 1 ≤ _ := Nat.lt_of_lt_of_le u5.hN (Nat.le_of_lt (block_lt u5.row)); have tz := u5.at1; have hl9 := u5.lies; have r0 := tz.r0; have r1 := tz.r1; have r2 := tz.r2; have r3 := tz.r3; have r4 := tz.r4; have r5 := tz.r5; have r6 := tz.r6; have r7 := tz.r7; have rg := tz.g))
            exact bodyPost_ret (v := .agg #[.int .i64 k, .int .i64 mn, .int .i64 mx, .int .u64 x0, .int .u64 x1, .int .u64 x2, .int .u64 x3, .slice ao ls.length cp]) (by simp [results, Try.results63, go_sem, r0, r1, r2, r3, r4, r5, r6, r7]) rfl ⟨tz.fin, _, rfl, tz.lies hl9 (Nat.lt_succ_self _) (Nat.le_refl _) (fun _ _ _ => rfl)⟩
end Go.Proofs.Ytdmajbdgjjmlkaa
