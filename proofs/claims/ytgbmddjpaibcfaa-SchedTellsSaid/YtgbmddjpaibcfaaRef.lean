/- The document's answers: length, place, ticks, next: what the calls return. Condition: the list of windows is no longer than a machine holds. -/
import Derived.Test.YtgbmddjpaibcfaaFrm
import Derived.Test.YtgbmddjpaibcfaaTep
namespace Go.Proofs.Ytgbmddjpaibcfaa
open Go.RowKit Go.Maps
set_option linter.unusedVariables false
set_option linter.unusedSimpArgs false

theorem results_tmp4 {fn : Func} {t u x y : Tmp} (h : fn.results = #[.tmp t, .tmp u, .tmp x, .tmp y]) (tmps : Array Value) (P : Program) (w : World) :
    (results fn tmps).run P w = .ok (.tuple #[tmps.getD t undef, tmps.getD u undef, tmps.getD x undef, tmps.getD y undef]) w := by
  simp only [results, h]
  simp [Sem.run_bind, Result.andThen]
def frL (ws : List Wn) : List (Nat × Nat) := frm (tks ws) ws.length
theorem frL_len (ws : List Wn) : (frL ws).length = lenN ws := by
  unfold frL; rw [frm_len _ _ (by rw [tks_len]; exact Nat.le_refl _), ← tks_len ws, bnd_all]; rfl
theorem frL_get (ws : List Wn) (r : Nat) (h : r < lenN ws) : (frL ws)[r]? = some (loc (tks ws) r) := by
  refine frm_get (tks ws) ws.length (by rw [tks_len]; exact Nat.le_refl _) r ?_
  rw [← tks_len ws, bnd_all]; exact h
set_option maxRecDepth 100000 in
set_option maxHeartbeats 4000000 in
theorem rlen_any (w : World) (G : Nat → Prop) (v : Value) (ws : List Wn) (ht : WinV G w v ws) (hl : ws.length ≤ 140737488355328) :
    Calls Try.prog 9 #[v] w fun e w' => e = .returned (.tuple #[.int .i64 (lenV ws), .int .i64 (chkE ws)]) ∧ Below w.heap.size w w' := by
  have k1 := rcheck_any w G v ws ht hl
  by_cases hok : okL ws
  · have KF : Hid (∀ W, Below w.heap.size w W → Calls Try.prog 33 #[v] W (FrP W (frL ws))) := Lib.hid fun W hW => frame_any W G v ws (ht.below hW) hok
    obtain ⟨q, n, cap0, rfl⟩ : ∃ q n cap, v = .slice q n cap := by obtain ⟨q, cap, e, _⟩ := ht; exact ⟨_, _, _, e⟩
    rw [show chkE ws = 0 from if_pos hok] at k1
    rw [show chkE ws = 0 from if_pos hok, show lenV ws = (lenN ws : Nat) from if_pos hok, ← frL_len]
    clear ht hok
    go_enter Try.func9, Try.ntmps9
    go_wp2_with (first
      | (go_at_call 11; refine k1.mono ?_; rintro e w2 ⟨rfl, hb⟩; have H2 := Lib.hid hb; clear hb)
      | (go_at_call 33; refine (KF.out _ H2.out).mono ?_; rintro e w3 ⟨v3, rfl, ⟨g3, c3, rfl, _, _, hc⟩, hb⟩; have H3 := Lib.hid (H2.out.trans (hb.mono H2.out.size)); clear hb hc))
    go_ret2
    exact ⟨rfl, H3.out⟩
  · rw [show chkE ws = 130 from if_neg hok] at k1
    rw [show chkE ws = 130 from if_neg hok, show lenV ws = 0 from if_neg hok]
    obtain ⟨q, n, cap0, rfl⟩ : ∃ q n cap, v = .slice q n cap := by obtain ⟨q, cap, e, _⟩ := ht; exact ⟨_, _, _, e⟩
    clear ht hok
    go_enter Try.func9, Try.ntmps9
    go_wp2_with (go_at_call 11; refine k1.mono ?_; rintro e w2 ⟨rfl, hb⟩; have H2 := Lib.hid hb; clear hb)
    go_ret2
    exact ⟨rfl, H2.out⟩
set_option maxRecDepth 100000 in
set_option maxHeartbeats 4000000 in
theorem rat_any (w : World) (G : Nat → Prop) (v : Value) (ws : List Wn) (ht : WinV G w v ws) (hl : ws.length ≤ 140737488355328) (t : Int) :
    Calls Try.prog 13 #[v, .int .i64 t] w fun e w' => e = .returned (.tuple #[.int .i64 (atV ws t).1, .int .i64 (atV ws t).2.1, .int .i64 (atV ws t).2.2.1, .int .i64 (atV ws t).2.2.2]) ∧ Below w.heap.size w w' := by
  have k1 := rcheck_any w G v ws ht hl
  by_cases hok : okL ws
  · rw [show chkE ws = 0 from if_pos hok] at k1
    have kt := fun W => rtick_any W t
    by_cases hT : isT t
    · have KF : Hid (∀ W, Below w.heap.size w W → Calls Try.prog 33 #[v] W (FrP W (frL ws))) := Lib.hid fun W hW => frame_any W G v ws (ht.below hW) hok
      obtain ⟨q, n, cap0, rfl⟩ : ∃ q n cap, v = .slice q n cap := by obtain ⟨q, cap, e, _⟩ := ht; exact ⟨_, _, _, e⟩
      rw [decide_eq_true hT] at kt
      have KT := Lib.hid kt
      have hL := lenN_ok hok
      obtain ⟨tn, htn⟩ : ∃ tn : Nat, t = (tn : Int) := ⟨t.toNat, by have := hT.1; omega⟩
      obtain ⟨L, hLe⟩ : ∃ L, L = lenN ws := ⟨_, rfl⟩
      have hget := frL_get ws (tn % lenN ws) (Nat.mod_lt _ (by omega))
      obtain ⟨M, hM⟩ : ∃ M, M = tn / L := ⟨_, rfl⟩
      obtain ⟨R, hR⟩ : ∃ R, R = tn % L := ⟨_, rfl⟩
      obtain ⟨kk, hkk⟩ : ∃ kk, kk = (loc (tks ws) R).1 := ⟨_, rfl⟩
      obtain ⟨oo, hoo⟩ : ∃ oo, oo = (loc (tks ws) R).2 := ⟨_, rfl⟩
      have e1 : atV ws t = ((M : Int), (kk : Int), (oo : Int), 0) := by
        unfold atV
        rw [if_pos hok, if_pos hT, htn, hkk, hoo, hR, hM, hLe]; rfl
      have hfl : (frL ws).length = L := by rw [frL_len, hLe]
      have hget2 : (frL ws)[R]? = some (kk, oo) := by rw [hR, hLe, hget, hkk, hoo, hR, hLe]
      have ht40 := hT.2
      have hRL : R < L := by rw [hR]; exact Nat.mod_lt _ (by omega)
      rw [← hLe] at hL
      have hM2 : M ≤ tn := by rw [hM]; exact Nat.div_le_self _ _
      have RI : (R : Int) < (L : Int) := by omega
      have q1 : IntKind.i64.wrap (t.tdiv (L : Int)) = (M : Int) := by
        rw [show t.tdiv (L : Int) = (M : Int) by rw [htn, hM]; exact Int.ofNat_tdiv _ _]; exact IntWalk.i64_in _ (by omega)
      have q2 : IntKind.i64.wrap (t.tmod (L : Int)) = (R : Int) := by
        rw [show t.tmod (L : Int) = (R : Int) by rw [htn, hR]; exact Int.ofNat_tmod _ _]; exact IntWalk.i64_in _ (by omega)
      have q3 : t / (L : Int) = (M : Int) := by rw [htn, hM]; exact (Int.natCast_ediv _ _).symm
      have q4 : t % (L : Int) = (R : Int) := by rw [htn, hR]; exact (Int.natCast_emod _ _).symm
      have q5 : t.tdiv (L : Int) = (M : Int) := by rw [htn, hM]; exact Int.ofNat_tdiv _ _
      have q6 : t.tmod (L : Int) = (R : Int) := by rw [htn, hR]; exact Int.ofNat_tmod _ _
      have q7 : IntKind.i64.wrap (M : Int) = (M : Int) := IntWalk.i64_in _ (by omega)
      have q8 : wrap64 (M : Int) = (M : Int) := w64 (by omega)
      have n0 : ¬ (L : Int) = 0 := by omega
      have n1 : ((L : Int) == 0) = false := by simpa using n0
      have n2 : ¬ L = 0 := by omega
      have t0 := hT.1
      rw [e1]
      have HG := Lib.hid (And.intro hfl hget2)
      clear ht hok hT e1 hget hfl hget2 hkk hoo hR hM hLe htn ht40 hL hM2 kt
      go_enter Try.func13, Try.ntmps13
      go_wp2_with (first
        | (go_at_call 11; refine k1.mono ?_; rintro e w2 ⟨rfl, hb⟩; have H2 := Lib.hid hb; clear hb)
        | (go_at_call 37; refine (KT.out _).mono ?_; rintro e _ ⟨rfl, rfl⟩)
        | (go_at_call 33; refine (KF.out _ H2.out).mono ?_; rintro e w3 ⟨v3, rfl, ⟨g3, c3, rfl, _, _, hc⟩, hb⟩; have h3 := H2.out.trans (hb.mono H2.out.size); obtain ⟨f0, f1⟩ := hc R (kk, oo) HG.out.2; rw [HG.out.1]; have H3 := Lib.hid (h3.alloc h3.size (.cells #[.int .i64 (kk : Int), .int .i64 (oo : Int)] 72)); have HP := Lib.hid (block_new w3 (.cells #[.int .i64 (kk : Int), .int .i64 (oo : Int)] 72)); clear hb hc h3))
      have hp := HP.out
      have p0 : (w3.alloc (.cells #[.int .i64 (kk : Int), .int .i64 (oo : Int)] 72)).cell? ⟨w3.heap.size, 0, none⟩ = some (.int .i64 (kk : Int)) := by rw [cell_of_row _ _ _ _ _ _ hp]; rfl
      have p1 : (w3.alloc (.cells #[.int .i64 (kk : Int), .int .i64 (oo : Int)] 72)).cell? ⟨w3.heap.size, 1, none⟩ = some (.int .i64 (oo : Int)) := by rw [cell_of_row _ _ _ _ _ _ hp]; rfl
      clear hp
      go_quiet (fail)
      go_wp2
      exact bodyPost_ret_by (results_tmp4 (t := 4) (u := 5) (x := 6) (y := 7) (by kernel_rfl) _ _ _) rfl ⟨rfl, below_drewN H3.out nq⟩
    · rw [decide_eq_false hT] at kt
      have KT := Lib.hid kt
      have e1 : atV ws t = (0, 0, 0, 1) := by unfold atV; rw [if_pos hok, if_neg hT]
      rw [e1]
      obtain ⟨q, n, cap0, rfl⟩ : ∃ q n cap, v = .slice q n cap := by obtain ⟨q, cap, e, _⟩ := ht; exact ⟨_, _, _, e⟩
      clear ht hok hT e1 kt
      go_enter Try.func13, Try.ntmps13
      go_wp2_with (first
        | (go_at_call 11; refine k1.mono ?_; rintro e w2 ⟨rfl, hb⟩; have H2 := Lib.hid hb; clear hb)
        | (go_at_call 37; refine (KT.out _).mono ?_; rintro e _ ⟨rfl, rfl⟩))
      exact bodyPost_ret_by (results_tmp4 (t := 4) (u := 5) (x := 6) (y := 7) (by kernel_rfl) _ _ _) rfl ⟨rfl, H2.out⟩
  · rw [show chkE ws = 130 from if_neg hok] at k1
    have e1 : atV ws t = (0, 0, 0, 130) := by unfold atV; rw [if_neg hok]
    rw [e1]
    obtain ⟨q, n, cap0, rfl⟩ : ∃ q n cap, v = .slice q n cap := by obtain ⟨q, cap, e, _⟩ := ht; exact ⟨_, _, _, e⟩
    clear ht hok e1
    go_enter Try.func13, Try.ntmps13
    go_wp2_with (go_at_call 11; refine k1.mono ?_; rintro e w2 ⟨rfl, hb⟩; have H2 := Lib.hid hb; clear hb)
    exact bodyPost_ret_by (results_tmp4 (t := 4) (u := 5) (x := 6) (y := 7) (by kernel_rfl) _ _ _) rfl ⟨rfl, H2.out⟩
end Go.Proofs.Ytgbmddjpaibcfaa
