/- Do two tables lie on a frame both? Conditions: at most 16 pages each. -/
import Derived.Test.YtnhfbeehoifddaaApa
namespace Go.Proofs.Ytnhfbeehoifddaa
open Go.RowKit Go.Maps
set_option linter.unusedVariables false

theorem tab_cells {G : Nat → Prop} {W : World} {q : Option Addr} {n cap : Nat} {ps : List Pg} (h : TabV G W (.slice q n cap) ps) {k : Nat} (hk : k < ps.length) :
    ∃ b o, q = some ⟨b, o, none⟩ ∧ W.cell? ⟨b, o + k * 2, none⟩ = some (.int .i64 (ps.getD k (0, 0)).1) ∧ W.cell? ⟨b, o + k * 2 + 1, none⟩ = some (.int .i64 (ps.getD k (0, 0)).2) := by
  obtain ⟨q', cap', e, _, hrow⟩ := h
  injection e with e1 _ _
  obtain ⟨b, o, hq, _, _, hc⟩ := hrow (fun e => by rw [e] at hk; simp at hk)
  exact ⟨b, o, e1.trans hq, (hc k hk).1, (hc k hk).2⟩
set_option maxHeartbeats 4000000 in
theorem shares_any (G G2 : Nat → Prop) (va vb : Value) (ps qs : List Pg) (w : World) (ha : TabV G w va ps) (hb : TabV G2 w vb qs) (h1 : ps.length ≤ 16) (h2 : qs.length ≤ 16) :
    Calls Try.prog 24 #[va, vb] w fun e w' => ∃ d, e = .returned (.bool d) ∧ (d = false → apart ps qs) ∧ Below w.heap.size w w' := by
  obtain ⟨q, n, cap, rfl⟩ : ∃ q n cap, va = .slice q n cap := by obtain ⟨q, cap, e, _⟩ := ha; exact ⟨_, _, _, e⟩
  obtain ⟨q2, n2, cap2, rfl⟩ : ∃ q n cap, vb = .slice q n cap := by obtain ⟨q, cap, e, _⟩ := hb; exact ⟨_, _, _, e⟩
  obtain rfl : n = ps.length := by obtain ⟨q, cap, e, _⟩ := ha; injection e
  obtain rfl : n2 = qs.length := by obtain ⟨q, cap, e, _⟩ := hb; injection e
  obtain ⟨n, hn⟩ : ∃ n, n = ps.length := ⟨_, rfl⟩
  obtain ⟨n2, hn2⟩ : ∃ n, n = qs.length := ⟨_, rfl⟩
  have H := Lib.hid (And.intro ha (And.intro hb (And.intro hn hn2)))
  rw [← hn] at h1 ⊢
  rw [← hn2] at h2 ⊢
  clear ha hb hn hn2
  go_enter Try.func24, Try.ntmps24
  go_wp2
  go_loopw [5] (fun i wr => ∃ k : Nat, k ≤ n ∧ i = .int .i64 (k : Int) ∧ (∀ x, x < k → ∀ y, y < n2 → 0 ≤ (ps.getD x (0, 0)).1 → (ps.getD x (0, 0)).1 ≠ (qs.getD y (0, 0)).1) ∧ Below w.heap.size w wr) (fun i _ => n - (intOf i).toNat)
  case atStart => exact ⟨0, Nat.zero_le _, rfl, fun x hx => absurd hx (Nat.not_lt_zero _), Below.refl _ _⟩
  case round =>
    obtain ⟨k, hk, rfl, hno, hbw⟩ := hrel
    generalize wr = wo at *
    by_cases a0 : k < n
    · have HN := Lib.hid (And.intro hno hbw)
      clear hno hbw
      go_wp2
      go_loopw [6] (fun i wr => ∃ l : Nat, l ≤ n2 ∧ i = .int .i64 (l : Int) ∧ (∀ y, y < l → 0 ≤ (ps.getD k (0, 0)).1 → (ps.getD k (0, 0)).1 ≠ (qs.getD y (0, 0)).1) ∧ Below w.heap.size w wr) (fun i _ => n2 - (intOf i).toNat)
      case atStart => exact ⟨0, Nat.zero_le _, rfl, fun x hx => absurd hx (Nat.not_lt_zero _), HN.out.2⟩
      case round =>
        obtain ⟨l, hl, rfl, hno, hbw⟩ := hrel
        by_cases a1 : l < n2
        · obtain ⟨b, o, e1, c1, _⟩ := tab_cells (H.out.1.below hbw) (k := k) (by rw [← H.out.2.2.1]; exact a0)
          obtain ⟨b2, o2, e2, c2, _⟩ := tab_cells (H.out.2.1.below hbw) (k := l) (by rw [← H.out.2.2.2]; exact a1)
          subst e1 e2
          obtain ⟨f, hf⟩ : ∃ f, f = (ps.getD k (0, 0)).1 := ⟨_, rfl⟩
          obtain ⟨f2, hf2⟩ : ∃ f, f = (qs.getD l (0, 0)).1 := ⟨_, rfl⟩
          rw [← hf] at c1
          rw [← hf2] at c2
          have HL := Lib.hid (And.intro hno (And.intro hbw (And.intro hf hf2)))
          clear hno hbw hf hf2
          by_cases z1 : 0 ≤ f
          · by_cases z2 : f = f2
            · subst z2
              go_wp2
              go_quiet (fail)
              go_wp2
              go_ret
              exact ⟨true, rfl, (fun e => by cases e), below_drewN HL.out.2.1 nq⟩
            · have z2' : (f == f2) = false := by simpa using z2
              go_wp2
              go_quiet (fail)
              go_wp2
              refine ⟨⟨l + 1, a1, rfl, fun y hy => ?_, below_drewN HL.out.2.1 nq⟩, ?_⟩
              · rcases Nat.lt_or_ge y l with z | z
                · exact HL.out.1 y z
                · obtain rfl : y = l := by omega
                  intro _
                  rw [← HL.out.2.2.1, ← HL.out.2.2.2]; exact z2
              · have z := a1
                simp [intOf]; omega
          · have z1' : decide (0 ≤ f) = false := by simp; omega
            go_wp2
            go_quiet (fail)
            go_wp2
            refine ⟨⟨l + 1, a1, rfl, fun y hy => ?_, below_drewN HL.out.2.1 nq⟩, ?_⟩
            · rcases Nat.lt_or_ge y l with z | z
              · exact HL.out.1 y z
              · intro h0
                rw [← HL.out.2.2.1] at h0
                omega
            · have z := a1
              simp [intOf]; omega
        · obtain rfl : l = n2 := by omega
          have HL := Lib.hid (And.intro hno hbw)
          clear hno hbw
          go_wp2
          refine ⟨⟨k + 1, a0, rfl, fun x hx y hy => ?_, HL.out.2⟩, ?_⟩
          · rcases Nat.lt_or_ge x k with z | z
            · exact HN.out.1 x z y hy
            · obtain rfl : x = k := by omega
              exact HL.out.1 y hy
          · have z := a0
            simp [intOf]; omega
    · obtain rfl : k = n := by omega
      have HN := Lib.hid (And.intro hno hbw)
      clear hno hbw
      go_wp2
      go_ret
      refine ⟨false, rfl, fun _ p hp q hq h0 => ?_, HN.out.2⟩
      obtain ⟨x, hx, rfl⟩ := List.getElem_of_mem hp
      obtain ⟨y, hy, rfl⟩ := List.getElem_of_mem hq
      have := HN.out.1 x (by rw [H.out.2.2.1]; exact hx) y (by rw [H.out.2.2.2]; exact hy)
      rw [List.getD_eq_getElem?_getD, List.getD_eq_getElem?_getD, List.getElem?_eq_getElem hx, List.getElem?_eq_getElem hy] at this
      exact this h0
end Go.Proofs.Ytnhfbeehoifddaa
