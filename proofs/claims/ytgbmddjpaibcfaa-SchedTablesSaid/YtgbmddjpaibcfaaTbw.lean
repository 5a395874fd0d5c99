/- Every call, in every order, on a table and its clones: the walk of the law. Condition: the script is no longer than a machine holds. -/
import Derived.Test.YtgbmddjpaibcfaaTbq
namespace Go.Proofs.Ytgbmddjpaibcfaa
open Go.RowKit Go.Maps
set_option linter.unusedVariables false
set_option linter.unusedSimpArgs false

def In64t (x : Int) : Prop := -9223372036854775808 ≤ x ∧ x < 9223372036854775808
theorem rtab_no (w : World) (n : Int) (hn : n < 0 ∨ 8 < n) :
    Calls Try.prog 20 #[.int .i64 n] w fun e w' => e = .returned (.tuple #[.pointer none, .int .i64 1]) ∧ w = w' := by
  rcases hn with h | h
  · go_enter Try.func20, Try.ntmps20
    go_wp2
    go_ret2
    exact ⟨rfl, rfl⟩
  · have h2 : ¬ n < 0 := by omega
    go_enter Try.func20, Try.ntmps20
    go_wp2
    go_ret2
    exact ⟨rfl, rfl⟩
set_option maxRecDepth 100000 in
set_option maxHeartbeats 4000000 in
theorem tables_no (w : World) (v : Value) (n : Int) (hn : n < 0 ∨ 8 < n) (hv : ∃ q m cap, v = .slice q m cap) :
    Calls Try.prog 6 #[.int .i64 n, v] w fun e w' => e = .returned (.bool true) ∧ Below w.heap.size w w' := by
  obtain ⟨q, m, cap0, rfl⟩ := hv
  have KN : Hid (∀ W, Calls Try.prog 19 #[.int .i64 n] W fun e w' => e = .returned (.tuple #[.pointer none, .int .i64 1]) ∧ W = w') := Lib.hid fun W => ntab_no W n hn
  have KR : Hid (∀ W, Calls Try.prog 20 #[.int .i64 n] W fun e w' => e = .returned (.tuple #[.pointer none, .int .i64 1]) ∧ W = w') := Lib.hid fun W => rtab_no W n hn
  have KF : Hid (∀ W, Calls Try.prog 18 #[] W fun e w' => e = .returned (.bool true) ∧ Below W.heap.size W w') := Lib.hid fixed_any
  clear hn
  go_enter Try.func6, Try.ntmps6
  go_wp2_with (first
    | (go_at_call 19; refine (KN.out _).mono ?_; rintro e _ ⟨rfl, rfl⟩)
    | (go_at_call 20; refine (KR.out _).mono ?_; rintro e _ ⟨rfl, rfl⟩)
    | (go_at_call 18; refine (KF.out _).mono ?_; rintro e w4 ⟨rfl, hb⟩; have H4 := Lib.hid hb; clear hb))
  go_ret
  exact ⟨rfl, H4.out⟩
set_option maxRecDepth 100000 in
set_option maxHeartbeats 4000000 in
theorem tables_yes (w : World) (G : Nat → Prop) (v : Value) (ops : List Wn) (ht : WinV G w v ops) (h64 : ∀ x ∈ ops, In64t x.1) (hl : ops.length ≤ 8796093022206) (n : Nat) (hn : n ≤ 8) :
    Calls Try.prog 6 #[.int .i64 (n : Int), v] w fun e w' => e = .returned (.bool true) ∧ Below w.heap.size w w' := by
  obtain ⟨q, N, cap0, rfl⟩ : ∃ q n cap, v = .slice q n cap := by obtain ⟨q, cap, e, _⟩ := ht; exact ⟨_, _, _, e⟩
  have hN : N = ops.length := by obtain ⟨q, cap, e, _⟩ := ht; injection e
  have KN : Hid (∀ W, Calls Try.prog 19 #[.int .i64 (n : Int)] W (NuP W (List.replicate n s00))) := Lib.hid fun W => ntabU_any W n hn
  have KR : Hid (∀ W, Calls Try.prog 20 #[.int .i64 (n : Int)] W (RtP W (List.replicate n s00))) := Lib.hid fun W => rtab_any W n hn
  have KF : Hid (∀ W, Calls Try.prog 18 #[] W fun e w' => e = .returned (.bool true) ∧ Below W.heap.size W w') := Lib.hid fixed_any
  have H := Lib.hid (And.intro ht (And.intro hN (And.intro hl (And.intro h64 hn))))
  have hN2 : N ≤ 8796093022206 := by omega
  clear ht hN hl h64 hn
  go_enter Try.func6, Try.ntmps6
  go_wp2_with (first
    | (go_at_call 19; refine (KN.out w).mono ?_; rintro e w1 ⟨p1, g1, rfl, hT, h1, h2, hb⟩; have H1 := Lib.hid (And.intro hT (And.intro h1 (And.intro h2 hb))); clear hT h1 h2 hb)
    | (go_at_call 20; refine (KR.out w1).mono ?_; rintro e w2 ⟨q1, r1, t1, rfl, hT, h1, h2, h3, hb⟩; have H2 := Lib.hid (And.intro hT (And.intro h1 (And.intro h2 (And.intro h3 hb)))); clear hT h1 h2 h3 hb))
  have hS : Sts w.heap.size 0 w ((w2.alloc (.cells #[.pointer (some ⟨p1, 0, none⟩)] 43)).alloc (.cells #[.pointer (some ⟨q1, 0, none⟩)] 46)) (.slice (some ⟨w2.heap.size, 0, none⟩) 1 1) (.slice (some ⟨w2.heap.size + 1, 0, none⟩) 1 1) [⟨p1, g1, q1, r1, t1, List.replicate n s00⟩] := by
    obtain ⟨a1, a2, a3, a5⟩ := H1.out
    obtain ⟨b1, b2, b3, b4, b5⟩ := H2.out
    have s1 := a5.size
    have e0 : BndT 0 (List.replicate n s00) := fun m hm => by rw [rep_get]; exact Nat.le_refl _
    have bx : Below w2.heap.size w2 (w2.alloc (.cells #[.pointer (some ⟨p1, 0, none⟩)] 43)) := (Below.refl _ w2).alloc (Nat.le_refl _) _
    have by1 : Below w2.heap.size w2 ((w2.alloc (.cells #[.pointer (some ⟨p1, 0, none⟩)] 43)).alloc (.cells #[.pointer (some ⟨q1, 0, none⟩)] 46)) := bx.alloc bx.size _
    have s2 := b5.size
    have hz : (w2.alloc (.cells #[.pointer (some ⟨p1, 0, none⟩)] 43)).heap.size = w2.heap.size + 1 := by simp
    refine ⟨⟨fun i hi => ?_, fun i hi => ?_, fun i hi => ?_, fun i j hi hj hne => ?_⟩, ?_, ?_, ?_, Nat.one_pos, Nat.le_refl _⟩
    · obtain rfl : i = 0 := by simpa using hi
      exact (a1.below b5).below by1
    · obtain rfl : i = 0 := by simpa using hi
      exact b1.below by1
    · obtain rfl : i = 0 := by simpa using hi
      exact ⟨a3, Nat.le_trans s1 b3, Nat.le_trans s1 b4, by show (List.replicate n s00).length ≤ 8; rw [List.length_replicate]; exact H.out.2.2.2.2, e0⟩
    · simp at hi hj; omega
    · exact ⟨rfl, .inr ⟨w2.heap.size, 1, #[.pointer (some ⟨p1, 0, none⟩)], rfl, by omega, block_alloc (block_new w2 _) _, Nat.le_refl _, by unfold maxLen; omega, rfl, rfl⟩⟩
    · exact ⟨rfl, .inr ⟨w2.heap.size + 1, 1, #[.pointer (some ⟨q1, 0, none⟩)], rfl, by omega, by rw [← hz]; exact block_new _ _, Nat.le_refl _, by unfold maxLen; omega, rfl, rfl⟩⟩
    · exact (a5.trans (b5.mono s1)).trans (by1.mono (by omega))
  have HS := Lib.hid hS
  clear hS H1 H2
  go_loopw [9, 10, 11] (fun a b c wr => ∃ (k : Nat) (R : List Rec), k ≤ N ∧ c = .int .i64 (k : Int) ∧ Sts w.heap.size k w wr a b R) (fun _ _ c _ => N - (intOf c).toNat)
  case atStart => exact ⟨0, _, Nat.zero_le _, rfl, HS.out⟩
  case round =>
    obtain ⟨k, R, hk, rfl, hT⟩ := hrel
    by_cases a : k < N
    · have aI : (k : Int) < (N : Int) := by omega
      have hsz : w.heap.size ≤ wr.heap.size := hT.2.2.2.1.size
      obtain ⟨g, oo, rfl, c0, c1, c2, i64⟩ : ∃ g oo, q = some ⟨g, oo, none⟩ ∧ wr.cell? ⟨g, oo + k * 3, none⟩ = some (.int .i64 (ops.getD k w0).1) ∧ wr.cell? ⟨g, oo + k * 3 + 1, none⟩ = some (.int .i64 (ops.getD k w0).2.1) ∧ wr.cell? ⟨g, oo + k * 3 + 2, none⟩ = some (.int .i64 (ops.getD k w0).2.2) ∧ In64t (ops.getD k w0).1 := by
        have h6 : In64t (ops.getD k w0).1 := H.out.2.2.2.1 _ (by
          have hk2 : k < ops.length := by have := H.out.2.1; omega
          rw [List.getD_eq_getElem?_getD, List.getElem?_eq_getElem hk2]; exact List.getElem_mem _)
        obtain ⟨q', cap, e, _, hc⟩ := H.out.1.below hT.2.2.2.1
        injection e with ea eb ec
        obtain ⟨b, o', hq, _, hlt, hcl⟩ := hc (fun e => by have := H.out.2.1; rw [e] at this; simp at this; omega)
        obtain ⟨x1, x2, x3⟩ := hcl k (by have := H.out.2.1; omega)
        exact ⟨b, o', ea.trans hq, x1, x2, x3, h6⟩
      obtain ⟨on, hon⟩ : ∃ on, on = (ops.getD k w0).1 := ⟨_, rfl⟩
      obtain ⟨kd, hkd⟩ : ∃ kd, kd = (ops.getD k w0).2.1 := ⟨_, rfl⟩
      obtain ⟨pt, hpt⟩ : ∃ pt, pt = (ops.getD k w0).2.2 := ⟨_, rfl⟩
      rw [← hon] at c0 i64
      rw [← hkd] at c1
      rw [← hpt] at c2
      obtain ⟨wo, hwo⟩ : ∃ wo, wo = wr.alloc (.cells #[.int .i64 on, .int .i64 kd, .int .i64 pt] 52) := ⟨_, rfl⟩
      have hbo : Below wr.heap.size wr wo := by rw [hwo]; exact (Below.refl _ wr).alloc (Nat.le_refl _) _
      have hrow : wo.heap[wr.heap.size]? = some (.cells #[.int .i64 on, .int .i64 kd, .int .i64 pt] 52 (0, 0)) := by rw [hwo]; exact block_new _ _
      have hTo := hT.below hbo hsz
      have hzo : w.heap.size ≤ wo.heap.size := Nat.le_trans hsz hbo.size
      obtain ⟨j, hj, kP⟩ := place_any on R.length hT.2.2.2.2.1 (by have := hT.2.2.2.2.2; omega) (by unfold In64t at i64; omega)
      obtain ⟨gx, cx, rfl, tyX, cX⟩ := own_at hTo.2.1 hj
      obtain ⟨gy, cy, rfl, tyY, cY⟩ := own_at hTo.2.2.1 hj
      have cX := cX _ (ptX_at hj)
      have cY := cY _ (ptY_at hj)
      have jI : (j : Int) < (R.length : Int) := by omega
      have j0 : (0 : Int) ≤ (j : Int) := by omega
      have hB := (hTo.1.b j hj).2.2.2
      have hU := hTo.1.u j hj
      have hD := hTo.1.d j hj
      -- in the drawn world
      have hTd := hTo.below (below_draw wo) hzo
      have hzd : w.heap.size ≤ wo.drew.heap.size := hzo
      have cells : ∀ W : World, (∀ b t, t ≠ 84 → t ≠ 4 → t ≠ 3 → TyB wo.drew b t → W.heap[b]? = wo.drew.heap[b]?) → W.cell? ⟨gx, j, none⟩ = some (.pointer (some ⟨(R.getD j r00).p, 0, none⟩)) ∧ W.cell? ⟨gy, j, none⟩ = some (.pointer (some ⟨(R.getD j r00).q, 0, none⟩)) ∧ W.cell? ⟨wr.heap.size, 2, none⟩ = some (.int .i64 pt) := fun W hk => by
        have x1 := hk gx 43 (by decide) (by decide) (by decide) tyX
        have x2 := hk gy 46 (by decide) (by decide) (by decide) tyY
        have x3 : W.heap[wr.heap.size]? = _ := (hk _ _ (by decide) (by decide) (by decide) ⟨_, _, hrow⟩).trans hrow
        refine ⟨?_, ?_, ?_⟩
        · exact (World.cell?_of_block (a := ⟨gx, j, none⟩) x1).trans cX
        · exact (World.cell?_of_block (a := ⟨gy, j, none⟩) x2).trans cY
        · rw [cell_of_row _ _ _ _ _ _ x3]; rfl
      have hS0 := cells wo.drew fun _ _ _ _ _ _ => rfl
      have KP := Lib.hid kP
      by_cases ck : kd = 0
      · subst ck
        have kA := hTd.two hzd hj (entS (R.getD j r00).ss pt) 22 23 (.tuple #[.bool (entB (R.getD j r00).ss pt), .int .i64 (hasE (R.getD j r00).ss pt)]) pt _ cells
          (enterU_any wo.drew _ _ _ (hTd.1.u j hj) pt (fun m hm => by have := hB.2 m hm; omega))
          (fun W hW => renter_any W _ _ _ _ hW pt (fun m hm => by have := hB.2 m hm; omega)) (entS_len _ _) (bnd_ent hB.2 pt)
        have KA := Lib.hid kA
        generalize entB (R.getD j r00).ss pt = EB at *
        generalize hasE (R.getD j r00).ss pt = EE at *
        rw [hwo] at cX cY hS0 KA
        clear hsz i64 hon hkd hpt hwo hbo hrow hTo hTd hT hzo hzd kP tyX tyY hB hU hD cells kA
        generalize R.getD j r00 = RJ at *
        generalize R.length = L at *
        go_wp2_with (first
          | (go_at_call 21; (with_reducible refine (KP.out _).mono ?_); rintro e1 _ ⟨rfl, rfl⟩))
        go_region_held3 (fun W => W.cell? ⟨gx, j, none⟩ = some (.pointer (some ⟨RJ.p, 0, none⟩)) ∧ W.cell? ⟨gy, j, none⟩ = some (.pointer (some ⟨RJ.q, 0, none⟩)) ∧ W.cell? ⟨wr.heap.size, 2, none⟩ = some (.int .i64 pt)) (with_reducible first | exact hS0 | exact hS1) (first | (go_at_call 22; (with_reducible refine KA.out.mono ?_); rintro e1 w3 ⟨rfl, hS1, HF⟩))
        obtain ⟨hS2, kB⟩ := HF.out _ (.inr rfl)
        have KB := Lib.hid kB
        clear kB
        go_wp2
        go_region_held3 (fun W => W.cell? ⟨gx, j, none⟩ = some (.pointer (some ⟨RJ.p, 0, none⟩)) ∧ W.cell? ⟨gy, j, none⟩ = some (.pointer (some ⟨RJ.q, 0, none⟩)) ∧ W.cell? ⟨wr.heap.size, 2, none⟩ = some (.int .i64 pt)) (with_reducible first | exact hS2 | exact hS3) (first | (go_at_call 23; (with_reducible refine KB.out.mono ?_); rintro e2 w4 ⟨rfl, hS3, HG⟩))
        go_wp2
        obtain ⟨R', hR'⟩ := HG.out
        exact ⟨⟨k + 1, R', a, by simp, hR'⟩, by simp [intOf]; omega⟩
      · have ck2 : (kd == 0) = false := by simpa using ck
        by_cases ck3 : kd = 1
        · subst ck3
          have kA := hTd.two hzd hj (trpS (R.getD j r00).ss pt) 24 25 (.int .i64 (hasE (R.getD j r00).ss pt)) pt _ cells
            (trapU_any wo.drew _ _ _ (hTd.1.u j hj) pt)
            (fun W hW => rtrap_any W _ _ _ _ hW pt) (trpS_len _ _) (bnd_trp hB.2 pt)
          have KA := Lib.hid kA
          generalize hasE (R.getD j r00).ss pt = EE at *
          rw [hwo] at cX cY hS0 KA
          clear hsz i64 hon hkd hpt hwo hbo hrow hTo hTd hT hzo hzd kP tyX tyY hB hU hD cells kA ck
          generalize R.getD j r00 = RJ at *
          generalize R.length = L at *
          go_wp2_with (first
            | (go_at_call 21; (with_reducible refine (KP.out _).mono ?_); rintro e1 _ ⟨rfl, rfl⟩))
          go_region_held3 (fun W => W.cell? ⟨gx, j, none⟩ = some (.pointer (some ⟨RJ.p, 0, none⟩)) ∧ W.cell? ⟨gy, j, none⟩ = some (.pointer (some ⟨RJ.q, 0, none⟩)) ∧ W.cell? ⟨wr.heap.size, 2, none⟩ = some (.int .i64 pt)) (with_reducible first | exact hS0 | exact hS1 | exact hS2) (first | (go_at_call 24; (with_reducible refine KA.out.mono ?_); rintro e1 w3 ⟨rfl, hS1, HF⟩) | (go_at_call 25; (with_reducible refine (HF.out w3 (.inl rfl)).2.mono ?_); rintro e2 w4 ⟨rfl, hS2, HG⟩))
          go_wp2
          obtain ⟨R', hR'⟩ := HG.out
          exact ⟨⟨k + 1, R', a, by simp, hR'⟩, by simp [intOf]; omega⟩
        · have ck4 : (kd == 1) = false := by simpa using ck3
          by_cases ck5 : kd = 2
          · subst ck5
            have KA := Lib.hid (hTo.clone hzo hj (by omega) rfl)
            rw [hwo] at cX cY hS0 KA
            clear hsz i64 hon hkd hpt hwo hbo hrow hTo hTd hT hzo hzd kP tyX tyY hB hU hD cells ck ck3 hS0
            generalize R.getD j r00 = RJ at *
            generalize R.length = L at *
            go_wp2_with (first
              | (go_at_call 21; (with_reducible refine (KP.out _).mono ?_); rintro e1 _ ⟨rfl, rfl⟩)
              | (go_at_call 26; (with_reducible refine KA.out.mono ?_); rintro e1 w3 ⟨p', xv', w5, rfl, hapX, cY5, HF⟩)
              | (at_builtin; refine wpList_app rfl (.tmp 121) (.tmp 123) 49 rfl _ _ _ _ rfl rfl hapX ?_)
              | (go_at_call 27; (with_reducible refine HF.out.mono ?_); rintro e2 w6 ⟨q', yv', w7, rfl, hapY, HG⟩)
              | (at_builtin; refine wpList_app rfl (.tmp 125) (.tmp 131) 50 rfl _ _ _ _ rfl rfl hapY ?_))
            obtain ⟨R', hR'⟩ := HG.out
            exact ⟨⟨k + 1, R', a, by simp, hR'⟩, by simp [intOf]; omega⟩
          · have ck6 : (kd == 2) = false := by simpa using ck5
            rw [hwo] at cX cY
            have HE : Hid (Sts w.heap.size (k + 1) w (wr.alloc (.cells #[.int .i64 on, .int .i64 kd, .int .i64 pt] 52)) (.slice (some ⟨gx, 0, none⟩) R.length cx) (.slice (some ⟨gy, 0, none⟩) R.length cy) R) := Lib.hid (by rw [← hwo]; exact hTo.next)
            clear hsz i64 hon hkd hpt hwo hbo hrow hTo hTd hT hzo hzd kP tyX tyY hB hU hD cells ck ck3 ck5 hS0
            generalize R.length = L at *
            go_wp2_with (first
              | (go_at_call 21; (with_reducible refine (KP.out _).mono ?_); rintro e1 _ ⟨rfl, rfl⟩))
            exact ⟨⟨k + 1, R, a, by simp, HE.out⟩, by simp [intOf]; omega⟩
    · obtain rfl : k = N := by omega
      obtain ⟨gx, cx, rfl, _, _⟩ := own_at hT.2.1 hT.2.2.2.2.1
      obtain ⟨gy, cy, rfl, _, _⟩ := own_at hT.2.2.1 hT.2.2.2.2.1
      obtain ⟨L, hL⟩ : ∃ L, L = R.length := ⟨_, rfl⟩
      have hLb : L ≤ 8796093022208 := by have := hT.2.2.2.2.2; omega
      rw [← hL] at hT
      have HT := Lib.hid (And.intro hL hT)
      rw [← hL]
      clear hT hk a
      clear hL
      go_wp2
      go_loopw [19] (fun x wr' => ∃ i : Nat, i ≤ L ∧ x = .int .i64 (i : Int) ∧ Sts w.heap.size k w wr' (.slice (some ⟨gx, 0, none⟩) L cx) (.slice (some ⟨gy, 0, none⟩) L cy) R) (fun x _ => L - (intOf x).toNat)
      case atStart => exact ⟨0, Nat.zero_le _, rfl, HT.out.2⟩
      case round =>
        obtain ⟨i, hi, rfl, hT⟩ := hrel
        by_cases a : i < L
        · have aI : (i : Int) < (L : Int) := by omega
          have a0 : (0 : Int) ≤ (i : Int) := by omega
          have HT2 := Lib.hid hT
          clear hT
          go_wp2
          go_loopw [20] (fun x wr' => ∃ P : Int, (-1 ≤ P ∧ P ≤ 10) ∧ x = .int .i64 P ∧ Sts w.heap.size k w wr' (.slice (some ⟨gx, 0, none⟩) L cx) (.slice (some ⟨gy, 0, none⟩) L cy) R) (fun x _ => (10 - intOf x).toNat)
          case atStart => exact ⟨-1, by omega, rfl, HT2.out⟩
          case round =>
            obtain ⟨P, hP, rfl, hT⟩ := hrel
            have hiR : i < R.length := by have := HT.out.1; omega
            have cX : wr.cell? ⟨gx, i, none⟩ = some (.pointer (some ⟨(R.getD i r00).p, 0, none⟩)) := by
              obtain ⟨g2, c2, e2, _, cX⟩ := own_at hT.2.1 hiR
              injection e2 with e2 _ _
              injection e2 with e2
              injection e2 with e2 _
              subst e2
              exact cX _ (ptX_at hiR)
            have cY : wr.cell? ⟨gy, i, none⟩ = some (.pointer (some ⟨(R.getD i r00).q, 0, none⟩)) := by
              obtain ⟨g2, c2, e2, _, cY⟩ := own_at hT.2.2.1 hiR
              injection e2 with e2 _ _
              injection e2 with e2
              injection e2 with e2 _
              subst e2
              exact cY _ (ptY_at hiR)
            by_cases b : P < 10
            · have hU := hT.1.u i hiR
              have hD := hT.1.d i hiR
              have k28 : ∀ m, Calls Try.prog 28 #[.pointer (some ⟨(R.getD i r00).p, 0, none⟩), .int .i64 P] (wr.drewN m) fun e w2 => e = .returned (.bool (runV (R.getD i r00).ss P)) ∧ ∃ m', w2 = wr.drewN m' := fun m => (runs_any _ _ _ _ (hU.below (below_drewN (Below.refl _ wr) m)).isT P).mono fun e w2 ⟨x, y⟩ => ⟨x, m, y.symm⟩
              have k29 : ∀ m, Calls Try.prog 29 #[.pointer (some ⟨(R.getD i r00).q, 0, none⟩), .int .i64 P] (wr.drewN m) fun e w2 => e = .returned (.bool (runV (R.getD i r00).ss P)) ∧ ∃ m', w2 = wr.drewN m' := fun m => (rruns_any _ _ _ _ _ (hD.below (below_drewN (Below.refl _ wr) m)) P).mono fun e w2 ⟨x, y⟩ => ⟨x, m, y.symm⟩
              have k30 : ∀ m, Calls Try.prog 30 #[.pointer (some ⟨(R.getD i r00).p, 0, none⟩), .int .i64 P] (wr.drewN m) fun e w2 => e = .returned (.int .i64 (staV (R.getD i r00).ss P)) ∧ ∃ m', w2 = wr.drewN m' := fun m => (starts_any _ _ _ _ (hU.below (below_drewN (Below.refl _ wr) m)).isT P).mono fun e w2 ⟨x, y⟩ => ⟨x, m, y.symm⟩
              have k31 : ∀ m, Calls Try.prog 31 #[.pointer (some ⟨(R.getD i r00).q, 0, none⟩), .int .i64 P] (wr.drewN m) fun e w2 => e = .returned (.int .i64 (staV (R.getD i r00).ss P)) ∧ ∃ m', w2 = wr.drewN m' := fun m => (rstarts_any _ _ _ _ _ (hD.below (below_drewN (Below.refl _ wr) m)) P).mono fun e w2 ⟨x, y⟩ => ⟨x, m, y.symm⟩
              have HN : Hid (∀ m, Sts w.heap.size k w (wr.drewN m) (.slice (some ⟨gx, 0, none⟩) L cx) (.slice (some ⟨gy, 0, none⟩) L cy) R) := Lib.hid fun m => hT.below (below_drewN (Below.refl _ wr) m) hT.2.2.2.1.size
              have K28 := Lib.hid k28
              have K29 := Lib.hid k29
              have K30 := Lib.hid k30
              have K31 := Lib.hid k31
              have q1 : IntKind.i64.wrap (P + 1) = P + 1 := IntWalk.i64_in _ (by omega)
              have q2 : wrap64 (P + 1) = P + 1 := w64 (by omega)
              clear k28 k29 k30 k31 hU hD hT hiR
              generalize runV (R.getD i r00).ss P = RV at *
              generalize staV (R.getD i r00).ss P = SV at *
              generalize R.getD i r00 = RJ at *
              go_wp2
              go_quiet (first
                | (go_at_call 28; exact K28.out _)
                | (go_at_call 29; exact K29.out _)
                | (go_at_call 30; exact K30.out _)
                | (go_at_call 31; exact K31.out _))
              go_wp2
              exact ⟨⟨P + 1, by omega, rfl, HN.out _⟩, by simp [intOf]; omega⟩
            · have hPe : P = 10 := by omega
              subst hPe
              have HT3 := Lib.hid hT
              clear hT cX cY
              go_wp2
              exact ⟨⟨i + 1, a, by simp, HT3.out⟩, by simp [intOf]; omega⟩
        · obtain rfl : i = L := by omega
          have HB := Lib.hid hT.2.2.2.1
          clear hT
          go_wp2_with (go_at_call 18; refine (KF.out _).mono ?_; rintro e1 w4 ⟨rfl, hb⟩; have H4 := Lib.hid (HB.out.trans (hb.mono HB.out.size)); clear hb)
          go_ret
          exact ⟨rfl, H4.out⟩
theorem tables_any (w : World) (G : Nat → Prop) (parts : Int) (v : Value) (ops : List Wn) (ht : WinV G w v ops) (h64 : ∀ x ∈ ops, In64t x.1) (hl : ops.length ≤ 8796093022206) :
    Calls Try.prog 6 #[.int .i64 parts, v] w fun e w' => e = .returned (.bool true) ∧ Below w.heap.size w w' := by
  by_cases h : parts < 0 ∨ 8 < parts
  · exact tables_no w v parts h (by obtain ⟨q, cap, e, _⟩ := ht; exact ⟨_, _, _, e⟩)
  · obtain ⟨n, rfl⟩ : ∃ n : Nat, parts = (n : Int) := ⟨parts.toNat, by omega⟩
    exact tables_yes w G v ops ht h64 hl n (by omega)
end Go.Proofs.Ytgbmddjpaibcfaa
