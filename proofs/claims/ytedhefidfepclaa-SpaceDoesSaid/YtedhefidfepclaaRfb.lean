/- The document's memory: are bytes there with a right? Conditions: at most 16 pages that may be, at most 4096 bytes. -/
import Derived.Test.YtedhefidfepclaaRfa
namespace Go.Proofs.Ytedhefidfepclaa
open Go.RowKit Go.Maps
set_option linter.unusedVariables false

theorem thereE_at {ps : List Pg} {R a : Int} {k n : Nat} (h : ∀ j, j < k → bad ps R (a + (j : Nat)) = 0) (hk : k < n) (hb : bad ps R (a + (k : Nat)) ≠ 0) : thereE ps R a n = bad ps R (a + (k : Nat)) := by
  have := thereE_add ps R k (n - k) a h
  rw [show k + (n - k) = n by omega] at this
  rw [this]
  exact thereE_hd (by omega) hb
theorem thereE_full {ps : List Pg} {R a : Int} {n : Nat} (h : ∀ j, j < n → bad ps R (a + (j : Nat)) = 0) : thereE ps R a n = 0 := by
  have := thereE_add ps R n 0 a h
  rw [Nat.add_zero] at this
  rw [this]; rfl
set_option maxHeartbeats 4000000 in
set_option maxRecDepth 20000 in
theorem rthere_any (q : Option Addr) (np cap0 : Nat) (G : Nat → Prop) (ps : List Pg) (w : World) (hT : TabV G w (.slice q np cap0) ps) (hps : ps.length ≤ 16) (hr : ∀ p ∈ ps, -1 ≤ p.1 ∧ 0 ≤ p.2 ∧ p.2 ≤ 7) (at0 : Int) (hat : In64 at0) (n0 : Nat) (hn0 : n0 ≤ 4096) (R : Int) (hR : R = 1 ∨ R = 2 ∨ R = 4) :
    Calls Try.prog 65 #[.slice q np cap0, .int .i64 at0, .int .i64 (n0 : Int), .int .i64 R] w fun e w' => e = .returned (.int .i64 (thereE ps R at0 n0)) ∧ Below w.heap.size w w' := by
  obtain ⟨n, hn⟩ : ∃ n, n = ps.length := ⟨_, rfl⟩
  obtain rfl : np = n := by obtain ⟨q, cap, e, _⟩ := hT; injection e with _ e2; rw [e2, hn]
  have H := Lib.hid (And.intro hT (And.intro hn hr))
  rw [← hn] at hps
  clear hT hn hr
  go_enter Try.func65, Try.ntmps65
  go_wp2
  go_loopw [9] (fun i wr => ∃ k : Nat, k ≤ n0 ∧ i = .int .i64 (k : Int) ∧ (∀ j, j < k → bad ps R (at0 + (j : Nat)) = 0) ∧ Below w.heap.size w wr) (fun i _ => n0 - (intOf i).toNat)
  case atStart => exact ⟨0, Nat.zero_le _, rfl, fun j hj => absurd hj (by omega), Below.refl _ _⟩
  case round =>
    obtain ⟨k, hk, rfl, hno, hbw⟩ := hrel
    have HNO := Lib.hid hno
    have HBW := Lib.hid hbw
    clear hno hbw
    by_cases a0 : k < n0
    · by_cases z1 : at0 < 0
      · have e : thereE ps R at0 n0 = 81 := by
          have hb : bad ps R at0 = 81 := by unfold bad; rw [if_pos (.inl z1)]
          rw [thereE_hd (by omega) (by rw [hb]; decide), hb]
        have HE := Lib.hid e
        clear e
        go_wp2
        go_ret
        exact ⟨ret_int HE.out.symm, HBW.out⟩
      · obtain ⟨A, rfl⟩ : ∃ A : Nat, at0 = (A : Int) := ⟨at0.toNat, by omega⟩
        by_cases z2 : 256 * (np : Int) - k ≤ A
        · have e : thereE ps R A n0 = 81 := by
            have hb : bad ps R ((A : Int) + (k : Nat)) = 81 := by unfold bad; rw [if_pos (.inr (by rw [← H.out.2.1]; omega))]
            rw [thereE_at HNO.out a0 (by rw [hb]; decide), hb]
          have HE := Lib.hid e
          clear e
          go_wp2
          go_ret
          exact ⟨ret_int HE.out.symm, HBW.out⟩
        · have ho : ¬ out ps ((A : Int) + (k : Nat)) := by unfold out; rw [← H.out.2.1]; omega
          obtain ⟨M, hM⟩ : ∃ M, M = (A + k) / 256 := ⟨_, rfl⟩
          have hMn : M < np := by omega
          obtain ⟨q', cap', e1, e2, hc⟩ := H.out.1.below HBW.out
          injection e1 with e3 e4 e5
          have hne : ps ≠ [] := fun e => by have := H.out.2.1; subst e; simp at this; omega
          obtain ⟨b, o, hq, hG, hlt, hcell⟩ := hc hne
          obtain ⟨c0, c1⟩ := hcell M (by rw [← H.out.2.1]; exact hMn)
          have hpg : pg ps ((A : Int) + (k : Nat)) = ps.getD M (0, 0) := by unfold pg; congr 1; omega
          rw [← hpg] at c0 c1
          obtain ⟨hf1, hr0, hr7⟩ := H.out.2.2 _ (pg_mem ho)
          rw [← e3] at hq
          subst hq
          clear hc hcell e2 e3 e4 e5 hne hlt hG hpg
          have hbb : bad ps R ((A : Int) + (k : Nat)) = if (pg ps ((A : Int) + (k : Nat))).1 = -1 then 81 else if hasR (pg ps ((A : Int) + (k : Nat))).2 R then 0 else 82 := by
            unfold bad; rw [if_neg (show ¬ ((A : Int) + (k : Nat) < 0 ∨ 256 * (ps.length : Int) ≤ (A : Int) + (k : Nat)) from ho)]
          obtain ⟨f, hf⟩ : ∃ f, f = (pg ps ((A : Int) + (k : Nat))).1 := ⟨_, rfl⟩
          obtain ⟨r, hr⟩ : ∃ r, r = (pg ps ((A : Int) + (k : Nat))).2 := ⟨_, rfl⟩
          rw [← hf] at c0 hf1
          rw [← hr] at c1 hr0 hr7
          rw [← hf, ← hr] at hbb
          clear hf hr ho
          rw [hM] at c0 c1
          clear hM hMn
          have HBB := Lib.hid hbb
          clear hbb
          have ha := and_has ⟨hr0, hr7⟩ hR
          obtain ⟨bv, hbv⟩ : ∃ bv, bv = bits .and .i64 r R := ⟨_, rfl⟩
          have hbv2 := hbv.symm
          rw [← hbv] at ha
          clear hbv
          have hX : (wr.alloc (.cells #[.int .i64 f, .int .i64 r] 56)).heap[wr.heap.size]? = some (.cells #[.int .i64 f, .int .i64 r] 56 (0, 0)) := block_new _ _
          have d0 : (wr.alloc (.cells #[.int .i64 f, .int .i64 r] 56)).cell? ⟨wr.heap.size, 0, none⟩ = some (.int .i64 f) := by rw [cell_of_row _ _ _ _ _ _ hX]; rfl
          have d1 : (wr.alloc (.cells #[.int .i64 f, .int .i64 r] 56)).cell? ⟨wr.heap.size, 1, none⟩ = some (.int .i64 r) := by rw [cell_of_row _ _ _ _ _ _ hX]; rfl
          clear hX
          have HAL : Hid (∀ o, Below w.heap.size w (wr.alloc o)) := fun o => HBW.out.alloc HBW.out.size o
          by_cases z3 : f < 0
          · have e : thereE ps R A n0 = 81 := by
              have hb := HBB.out
              rw [if_pos (by omega)] at hb
              rw [thereE_at HNO.out a0 (by rw [hb]; decide), hb]
            have HE := Lib.hid e
            clear e ha
            go_wp2
            go_ret
            exact ⟨ret_int HE.out.symm, HAL.out _⟩
          · by_cases z4 : hasR r R = true
            · have hb : bad ps R ((A : Int) + (k : Nat)) = 0 := by rw [HBB.out, if_neg (by omega), if_pos z4]
              have hz : (bv == 0) = false := by
                simp only [beq_eq_false_iff_ne]
                intro e; rw [ha] at e; rw [e] at z4; cases z4
              have HB := Lib.hid hb
              clear hb ha z4
              go_wp2
              refine ⟨⟨k + 1, a0, rfl, fun j hj => ?_, HAL.out _⟩, ?_⟩
              · rcases Nat.lt_or_ge j k with hlt | hge
                · exact HNO.out j hlt
                · obtain rfl : j = k := by omega
                  exact HB.out
              · have z := a0
                simp [intOf]; omega
            · have e : thereE ps R A n0 = 82 := by
                have hb := HBB.out
                rw [if_neg (by omega), if_neg z4] at hb
                rw [thereE_at HNO.out a0 (by rw [hb]; decide), hb]
              have hz : bv = 0 := ha.2 (by simpa using z4)
              have HE := Lib.hid e
              clear e ha z4
              subst hz
              go_wp2
              go_ret
              exact ⟨ret_int HE.out.symm, HAL.out _⟩
    · obtain rfl : k = n0 := by omega
      go_wp2
      go_ret
      exact ⟨ret_int (thereE_full HNO.out).symm, HBW.out⟩
end Go.Proofs.Ytedhefidfepclaa
