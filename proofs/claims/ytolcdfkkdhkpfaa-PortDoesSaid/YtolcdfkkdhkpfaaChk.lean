/- What may be a port: both checks. No conditions. -/
import Derived.Test.YtolcdfkkdhkpfaaMem
import Derived.Deep.RegionHeld3
namespace Go.Proofs.Ytolcdfkkdhkpfaa
open Go.RowKit Go.Maps
set_option linter.unusedVariables false
set_option linter.unusedSimpArgs false

set_option maxHeartbeats 4000000 in
theorem check_w (w : World) (k f t s d D : Int) (b1 b2 b3 b4 b5 : Bool) (h3 : (f == t) = b3)
    (k1 : Calls Try.prog 22 #[.int .i64 f] (w.alloc (.cells #[.int .i64 k, .int .i64 f, .int .i64 t, .int .i64 s, .int .i64 d] 23)) fun e w' => e = .returned (.bool b1) ∧ (w.alloc (.cells #[.int .i64 k, .int .i64 f, .int .i64 t, .int .i64 s, .int .i64 d] 23)) = w')
    (k2 : Calls Try.prog 22 #[.int .i64 t] (w.alloc (.cells #[.int .i64 k, .int .i64 f, .int .i64 t, .int .i64 s, .int .i64 d] 23)) fun e w' => e = .returned (.bool b2) ∧ (w.alloc (.cells #[.int .i64 k, .int .i64 f, .int .i64 t, .int .i64 s, .int .i64 d] 23)) = w')
    (K4 : Hid (∀ m, Calls Try.prog 23 #[.int .i64 s, .int .i64 1, .int .i64 255] ((w.alloc (.cells #[.int .i64 k, .int .i64 f, .int .i64 t, .int .i64 s, .int .i64 d] 23)).drewN m) fun e w2 => e = .returned (.bool b4) ∧ ∃ m', w2 = (w.alloc (.cells #[.int .i64 k, .int .i64 f, .int .i64 t, .int .i64 s, .int .i64 d] 23)).drewN m'))
    (K24 : Hid (∀ m, Calls Try.prog 24 #[.int .i64 k] ((w.alloc (.cells #[.int .i64 k, .int .i64 f, .int .i64 t, .int .i64 s, .int .i64 d] 23)).drewN m) fun e w2 => e = .returned (.int .i64 D) ∧ ∃ m', w2 = (w.alloc (.cells #[.int .i64 k, .int .i64 f, .int .i64 t, .int .i64 s, .int .i64 d] 23)).drewN m'))
    (K5 : Hid (∀ m, Calls Try.prog 23 #[.int .i64 d, .int .i64 1, .int .i64 D] ((w.alloc (.cells #[.int .i64 k, .int .i64 f, .int .i64 t, .int .i64 s, .int .i64 d] 23)).drewN m) fun e w2 => e = .returned (.bool b5) ∧ ∃ m', w2 = (w.alloc (.cells #[.int .i64 k, .int .i64 f, .int .i64 t, .int .i64 s, .int .i64 d] 23)).drewN m'))
    (HB : Hid (∀ m, Below w.heap.size w ((w.alloc (.cells #[.int .i64 k, .int .i64 f, .int .i64 t, .int .i64 s, .int .i64 d] 23)).drewN m))) :
    Calls Try.prog 9 #[.agg #[.int .i64 k, .int .i64 f, .int .i64 t, .int .i64 s, .int .i64 d]] w fun e w' => e = .returned (.int .i64 (if b1 && b2 && !b3 && b4 && b5 then 0 else 140)) ∧ Below w.heap.size w w' := by
  have HB0 : Hid (Below w.heap.size w (w.alloc (.cells #[.int .i64 k, .int .i64 f, .int .i64 t, .int .i64 s, .int .i64 d] 23))) := Lib.hid ⟨(HB.out 0).os, (HB.out 0).tape, (HB.out 0).output, (HB.out 0).size, (HB.out 0).block⟩
  cases b1 with
  | false =>
    go_enter Try.func9, Try.ntmps9
    go_wp2_with (first | (go_at_call 22; refine k1.mono ?_; rintro e _ ⟨rfl, rfl⟩))
    go_ret
    exact ⟨rfl, HB0.out⟩
  | true =>
    cases b2 with
    | false =>
      go_enter Try.func9, Try.ntmps9
      go_wp2_with (first | (go_at_call 22; refine k1.mono ?_; rintro e _ ⟨rfl, rfl⟩) | (go_at_call 22; refine k2.mono ?_; rintro e _ ⟨rfl, rfl⟩))
      go_ret
      exact ⟨rfl, HB0.out⟩
    | true =>
      cases b3 with
      | true =>
        go_enter Try.func9, Try.ntmps9
        go_wp2_with (first | (go_at_call 22; refine k1.mono ?_; rintro e _ ⟨rfl, rfl⟩) | (go_at_call 22; refine k2.mono ?_; rintro e _ ⟨rfl, rfl⟩))
        go_ret
        exact ⟨rfl, HB0.out⟩
      | false =>
        cases b4 with
        | false =>
          go_enter Try.func9, Try.ntmps9
          go_wp2_with (first | (go_at_call 22; refine k1.mono ?_; rintro e _ ⟨rfl, rfl⟩) | (go_at_call 22; refine k2.mono ?_; rintro e _ ⟨rfl, rfl⟩))
          go_quiet (first | (go_at_call 23; with_reducible exact K4.out _))
          go_wp2
          go_ret
          exact ⟨rfl, HB.out _⟩
        | true =>
          cases b5 with
          | false =>
            go_enter Try.func9, Try.ntmps9
            go_wp2_with (first | (go_at_call 22; refine k1.mono ?_; rintro e _ ⟨rfl, rfl⟩) | (go_at_call 22; refine k2.mono ?_; rintro e _ ⟨rfl, rfl⟩))
            go_quiet (first | (go_at_call 23; with_reducible exact K4.out _) | (go_at_call 24; with_reducible exact K24.out _) | (go_at_call 23; with_reducible exact K5.out _))
            go_wp2
            go_ret
            exact ⟨rfl, HB.out _⟩
          | true =>
            go_enter Try.func9, Try.ntmps9
            go_wp2_with (first | (go_at_call 22; refine k1.mono ?_; rintro e _ ⟨rfl, rfl⟩) | (go_at_call 22; refine k2.mono ?_; rintro e _ ⟨rfl, rfl⟩))
            go_quiet (first | (go_at_call 23; with_reducible exact K4.out _) | (go_at_call 24; with_reducible exact K24.out _) | (go_at_call 23; with_reducible exact K5.out _))
            go_wp2
            go_ret
            exact ⟨rfl, HB.out _⟩
theorem check_any (w : World) (c : Cf) : Calls Try.prog 9 #[c.agg] w fun e w' => e = .returned (.int .i64 (chkE c)) ∧ Below w.heap.size w w' := by
  obtain ⟨k, f, t, s, d⟩ := c
  have hb1 : Below w.heap.size w (w.alloc (.cells #[.int .i64 k, .int .i64 f, .int .i64 t, .int .i64 s, .int .i64 d] 23)) := (Below.refl _ w).alloc (Nat.le_refl _) _
  have h := check_w w k f t s d (deeV k) _ _ _ _ _ rfl (isPart_any _ f) (isPart_any _ t)
    (Lib.hid fun m => (within_any _ s 1 255).mono fun e w2 ⟨x, y⟩ => ⟨x, m, y.symm⟩)
    (Lib.hid fun m => (deepest_any _ k).mono fun e w2 ⟨x, y⟩ => ⟨x, m, y.symm⟩)
    (Lib.hid fun m => (within_any _ d 1 (deeV k)).mono fun e w2 ⟨x, y⟩ => ⟨x, m, y.symm⟩)
    (Lib.hid fun m => below_drewN hb1 m)
  refine h.mono fun e w' ⟨x, y⟩ => ⟨x.trans ?_, y⟩
  refine congrArg (fun z => Ending.returned (Value.int .i64 z)) ?_
  unfold chkE
  have : okC ⟨k, f, t, s, d⟩ ↔ (decide (0 ≤ f ∧ f ≤ 7) && decide (0 ≤ t ∧ t ≤ 7) && !(f == t) && decide (1 ≤ s ∧ s ≤ 255) && decide (1 ≤ d ∧ d ≤ deeV k)) = true := by
    unfold okC deeV
    simp only [Bool.and_eq_true, decide_eq_true_eq, Bool.not_eq_true', beq_eq_false_iff_ne, ne_eq]
    constructor
    · rintro ⟨h1, h2, h3, h4, h5, h6, h7, h8⟩
      refine ⟨⟨⟨⟨h2, h3⟩, h4⟩, h5⟩, h6, ?_⟩
      rcases h1 with h1 | h1
      · rw [if_pos h1]; exact h7 h1
      · rw [if_neg (by omega), if_pos h1]; exact h8
    · rintro ⟨⟨⟨⟨h2, h3⟩, h4⟩, h5⟩, h6, h7⟩
      by_cases k0 : k = 0
      · rw [if_pos k0] at h7
        exact ⟨.inl k0, h2, h3, h4, h5, h6, fun _ => h7, by omega⟩
      · rw [if_neg k0] at h7
        by_cases k1 : k = 1
        · rw [if_pos k1] at h7
          exact ⟨.inr k1, h2, h3, h4, h5, h6, fun q => absurd q k0, h7⟩
        · rw [if_neg k1] at h7; omega
  by_cases q : okC ⟨k, f, t, s, d⟩
  · rw [if_pos q, if_pos (this.1 q)]
  · rw [if_neg q, if_neg (fun x => q (this.2 x))]
set_option maxHeartbeats 8000000 in
theorem rcheck_w (w : World) (k f t s d : Int) (a1 a2 b1 b2 b3 b4 b5 b6 b7 b8 b9 c1 : Bool) (h0 : (k == 0) = !a1) (h1 : (k != 0) = a1) (h2 : (k != 1) = a2) (g1 : decide (f < 0) = b1) (g2 : decide (7 < f) = b2) (g3 : decide (t < 0) = b3) (g4 : decide (7 < t) = b4) (g5 : (f == t) = b5)
    (g6 : decide (s < 1) = b6) (g7 : decide (255 < s) = b7) (g8 : decide (d < 1) = b8) (g9 : decide (8 < d) = b9) (h3 : decide (1 < d) = c1)
    (HB : Hid (Below w.heap.size w (w.alloc (.cells #[.int .i64 k, .int .i64 f, .int .i64 t, .int .i64 s, .int .i64 d] 23)))) :
    Calls Try.prog 21 #[.agg #[.int .i64 k, .int .i64 f, .int .i64 t, .int .i64 s, .int .i64 d]] w fun e w' => e = .returned (.int .i64 (if (a1 && a2) || b1 || b2 || b3 || b4 || b5 || b6 || b7 || b8 || b9 || (!a1 && c1) then 140 else 0)) ∧ Below w.heap.size w w' := by
  cases a1 with
  | true =>
    replace h0 : (k == 0) = false := h0
    cases a2 with
    | true =>
      go_enter Try.func21, Try.ntmps21
      go_wp2
      go_ret
      exact ⟨by first | rfl | simp, HB.out⟩
    | false =>
      cases b1 with
      | true =>
        go_enter Try.func21, Try.ntmps21
        go_wp2
        go_ret
        exact ⟨by first | rfl | simp, HB.out⟩
      | false =>
       cases b2 with
       | true =>
         go_enter Try.func21, Try.ntmps21
         go_wp2
         go_ret
         exact ⟨by first | rfl | simp, HB.out⟩
       | false =>
        cases b3 with
        | true =>
          go_enter Try.func21, Try.ntmps21
          go_wp2
          go_ret
          exact ⟨by first | rfl | simp, HB.out⟩
        | false =>
         cases b4 with
         | true =>
           go_enter Try.func21, Try.ntmps21
           go_wp2
           go_ret
           exact ⟨by first | rfl | simp, HB.out⟩
         | false =>
          cases b5 with
          | true =>
            go_enter Try.func21, Try.ntmps21
            go_wp2
            go_ret
            exact ⟨by first | rfl | simp, HB.out⟩
          | false =>
           cases b6 with
           | true =>
             go_enter Try.func21, Try.ntmps21
             go_wp2
             go_ret
             exact ⟨by first | rfl | simp, HB.out⟩
           | false =>
            cases b7 with
            | true =>
              go_enter Try.func21, Try.ntmps21
              go_wp2
              go_ret
              exact ⟨by first | rfl | simp, HB.out⟩
            | false =>
             cases b8 with
             | true =>
               go_enter Try.func21, Try.ntmps21
               go_wp2
               go_ret
               exact ⟨by first | rfl | simp, HB.out⟩
             | false =>
              cases b9 with
              | true =>
                go_enter Try.func21, Try.ntmps21
                go_wp2
                go_ret
                exact ⟨by first | rfl | simp, HB.out⟩
              | false =>
               go_enter Try.func21, Try.ntmps21
               go_wp2
               go_ret
               exact ⟨by first | rfl | simp, HB.out⟩
  | false =>
    replace h0 : (k == 0) = true := h0
    cases b1 with
    | true =>
      go_enter Try.func21, Try.ntmps21
      go_wp2
      go_ret
      exact ⟨by first | rfl | simp, HB.out⟩
    | false =>
     cases b2 with
     | true =>
       go_enter Try.func21, Try.ntmps21
       go_wp2
       go_ret
       exact ⟨by first | rfl | simp, HB.out⟩
     | false =>
      cases b3 with
      | true =>
        go_enter Try.func21, Try.ntmps21
        go_wp2
        go_ret
        exact ⟨by first | rfl | simp, HB.out⟩
      | false =>
       cases b4 with
       | true =>
         go_enter Try.func21, Try.ntmps21
         go_wp2
         go_ret
         exact ⟨by first | rfl | simp, HB.out⟩
       | false =>
        cases b5 with
        | true =>
          go_enter Try.func21, Try.ntmps21
          go_wp2
          go_ret
          exact ⟨by first | rfl | simp, HB.out⟩
        | false =>
         cases b6 with
         | true =>
           go_enter Try.func21, Try.ntmps21
           go_wp2
           go_ret
           exact ⟨by first | rfl | simp, HB.out⟩
         | false =>
          cases b7 with
          | true =>
            go_enter Try.func21, Try.ntmps21
            go_wp2
            go_ret
            exact ⟨by first | rfl | simp, HB.out⟩
          | false =>
           cases b8 with
           | true =>
             go_enter Try.func21, Try.ntmps21
             go_wp2
             go_ret
             exact ⟨by first | rfl | simp, HB.out⟩
           | false =>
            cases b9 with
            | true =>
              go_enter Try.func21, Try.ntmps21
              go_wp2
              go_ret
              exact ⟨by first | rfl | simp, HB.out⟩
            | false =>
             cases c1 with
             | true =>
               go_enter Try.func21, Try.ntmps21
               go_wp2
               go_ret
               exact ⟨by first | rfl | simp, HB.out⟩
             | false =>
               go_enter Try.func21, Try.ntmps21
               go_wp2
               go_ret
               exact ⟨by first | rfl | simp, HB.out⟩
theorem rcheck_any (w : World) (c : Cf) : Calls Try.prog 21 #[c.agg] w fun e w' => e = .returned (.int .i64 (chkE c)) ∧ Below w.heap.size w w' := by
  obtain ⟨k, f, t, s, d⟩ := c
  have hb1 : Below w.heap.size w (w.alloc (.cells #[.int .i64 k, .int .i64 f, .int .i64 t, .int .i64 s, .int .i64 d] 23)) := (Below.refl _ w).alloc (Nat.le_refl _) _
  have h := rcheck_w w k f t s d _ _ _ _ _ _ _ _ _ _ _ _ (by show _ = !(!(k == 0)); rw [Bool.not_not]) rfl rfl rfl rfl rfl rfl rfl rfl rfl rfl rfl rfl (Lib.hid hb1)
  refine h.mono fun e w' ⟨x, y⟩ => ⟨x.trans ?_, y⟩
  refine congrArg (fun z => Ending.returned (Value.int .i64 z)) ?_
  unfold chkE
  have : okC ⟨k, f, t, s, d⟩ ↔ ¬ ((((k != 0) && (k != 1)) || decide (f < 0) || decide (7 < f) || decide (t < 0) || decide (7 < t) || (f == t) || decide (s < 1) || decide (255 < s) || decide (d < 1) || decide (8 < d) || (!(k != 0) && decide (1 < d))) = true) := by
    unfold okC
    simp only [Bool.or_eq_true, Bool.and_eq_true, decide_eq_true_eq, Bool.not_eq_true', bne_iff_ne, beq_iff_eq, ne_eq, bne_eq_false_iff_eq]
    omega
  by_cases q : okC ⟨k, f, t, s, d⟩
  · rw [if_pos q, if_neg (this.1 q)]
  · rw [if_neg q, if_pos (Classical.not_not.1 fun x => q (this.2 x))]
end Go.Proofs.Ytolcdfkkdhkpfaa
