/- A pair more: plain facts on what flows then; pairs put behind pairs where the order is open. No conditions. -/
import Derived.Test.YtbkpfiagoinoiaaInv
namespace Go.Proofs.Ytbkpfiagoinoiaa
open Go.RowKit
set_option linter.unusedVariables false

theorem more_F (ps : List (Int × Int)) (x y : Int) (i j : Nat) : newF (ps ++ [(x, y)]) i j = (newF ps i j || (decide (x.toNat = i) && decide (y.toNat = j))) := by
  rw [newF_at, newF_at, List.any_append]
  simp
theorem more_ok (n : Nat) (ps : List (Int × Int)) (x y : Int) : (ps ++ [(x, y)]).all (okP n) = (ps.all (okP n) && okP n (x, y)) := by
  rw [List.all_append]
  simp
theorem more_mono (ps : List (Int × Int)) (x y : Int) (i j : Nat) (hi : i < 8) (hj : j < 8) (q : newG ps i j = true) : newG (ps ++ [(x, y)]) i j = true :=
  clo_le (clo_pre _) (fun a b ha hb f => clo_of _ a b ha (by rw [more_F, f]; rfl)) hi hj q
theorem more_same {n : Nat} {ps : List (Int × Int)} {x y : Int} (n8 : n ≤ 8) (h : flB n (newG ps) x y = true) : Alike (newG (ps ++ [(x, y)])) (newG ps) := fun i j hi hj => by
  unfold flB at h
  simp only [Bool.and_eq_true] at h
  have hx := hasB_lt h.1.1
  have hy := hasB_lt h.1.2
  refine bool_iff (clo_le (clo_pre _) (fun a b ha hb f => ?_) hi hj) (more_mono ps x y i j hi hj)
  rw [more_F, Bool.or_eq_true] at f
  rcases f with f | f
  · exact clo_of _ a b ha f
  · simp only [Bool.and_eq_true, decide_eq_true_eq] at f
    rw [← f.1, ← f.2]
    exact h.2
theorem more_E {n : Int} {ps : List (Int × Int)} {x y : Int} (he : newE n ps = 0) (hl : ps.length < 64) (h : flB n.toNat (newG ps) x y = true) : newE n (ps ++ [(x, y)]) = 0 := by
  have hok := newE_ok he
  have hf := h
  unfold flB at hf
  simp only [Bool.and_eq_true] at hf
  have hs : ¬ (n < 1 ∨ 8 < n ∨ 64 < (ps ++ [(x, y)]).length) := by rw [List.length_append]; simp only [List.length_cons, List.length_nil]; omega
  have hal : (ps ++ [(x, y)]).all (okP n.toNat) = true := by
    rw [more_ok, hok.2.2.2.1]
    simp [okP, hf.1.1, hf.1.2]
  rw [newE_rest hs hal, loopB_same (by omega) (more_same (by omega) h), joinB_same (by omega) (more_same (by omega) h), hok.2.2.2.2.1, hok.2.2.2.2.2]
  rfl

theorem app_pairsG (ty : TypeId) (w : World) (D : Nat) (v : Value) (xs : List (Int × Int)) (hown : w.ownsRow D 23 2 v xs.length (flatP xs)) (ao : Option Addr) (cap : Nat) (ps : List (Int × Int)) (hP : LiesP w ao ps)
    (hcap : ao = none → cap = 0) (hl : xs.length + ps.length ≤ 8796093022100) (hD : D ≤ w.heap.size) :
    ∃ v' w', (Builtin.append_ #[22, 22] ty #[v, .slice ao ps.length cap]).run Try.prog w = .ok v' w' ∧ w'.ownsRow D 23 2 v' (xs ++ ps).length (flatP (xs ++ ps)) ∧ Below D w w' ∧ D ≤ w'.heap.size ∧ w.grownBy w' v.ownBlock := by
  obtain ⟨i0, hi, hz0, hz1, hz2⟩ := info_parts Try.info23
  cases ao with
  | none =>
    rcases hP.addr with rfl | ⟨a, e⟩
    · obtain rfl := hcap rfl
      exact ⟨v, w, run_append_owned_none (P := Try.prog) (w := w) D 22 ty 23 i0 2 Try.underlying22 hi v _ _ hown, by simpa using hown, Below.refl _ _, hD, World.grownBy.refl w _⟩
    · cases e
  | some a =>
    obtain ⟨v', w', h1, h2, h3, _, _⟩ := run_append_own_at (P := Try.prog) (w := w) D 22 ty 23 i0 (.agg #[.int .i64 0, .int .i64 0]) 2 16 Try.underlying22 hi hz0 hz1 hz2 rfl (by decide) v _ _ hown a ps.length cap (flatP ps)
      (flatP_len ps) (lies_cells hP) (flatP_one ps) (by unfold maxLen; omega) (by omega) hD
    exact ⟨v', w', h1, by rw [List.length_append, flatP_app]; exact h2, (Below.refl D w).grown h3 hD (fun g hg => (hown.lt g hg).1), Nat.le_trans hD h3.size, h3⟩
theorem own_empty {w : World} {g D : Nat} (h : w.heap[g]? = some (.cells #[] 23 (0, 0))) (hD : D ≤ g) : w.ownsRow D 23 2 (.slice (some ⟨g, 0, none⟩) 0 0) 0 (flatP []) :=
  ⟨rfl, .inr ⟨g, 0, #[], rfl, hD, h, Nat.le_refl _, by decide, rfl, rfl⟩⟩
theorem lies_alloc {w : World} {ao : Option Addr} {ps : List (Int × Int)} (h : LiesP w ao ps) (o : Obj) : LiesP (w.alloc o) ao ps := h.below ((Below.refl w.heap.size w).alloc (Nat.le_refl _) o) (Nat.le_refl _)
theorem second_kept {w2 w9 : World} (e0 XY : Obj) (hg : ((w2.alloc e0).alloc XY).grownBy w9 (some w2.heap.size)) : w9.heap[w2.heap.size + 1]? = some XY := by
  have h1 := hg.block (w2.heap.size + 1) (by simp) (by simp)
  have h2 := block_new (w2.alloc e0) XY
  rw [h1]
  simpa using h2
theorem first_kept {w2 w9 : World} (e0 XY : Obj) (hg : ((w2.alloc XY).alloc e0).grownBy w9 (some (w2.heap.size + 1))) : w9.heap[w2.heap.size]? = some XY := by
  have h1 := hg.block w2.heap.size (by simp; omega) (by simp)
  rw [h1]
  exact block_alloc (block_new w2 XY) e0
theorem second_new (w2 : World) (XY e0 : Obj) : ((w2.alloc XY).alloc e0).heap[w2.heap.size + 1]? = some e0 := by
  have := block_new (w2.alloc XY) e0
  simpa using this
theorem step_app {ops : Array Oper} {o : Oper} {a : Act} {w : World} {K : Act → World → Prop} {Q : Exit → Act → World → Prop} {E : Prop} (hgd : o.guard = none) (s x : Operand)
    (ho : o.op = .call { callee := .builtin .append, args := #[s, x], argTypes := #[22, 22] }) (D : Nat) (ao0 : Option Addr) (cap0 : Nat) (xs : List (Int × Int)) (N0 : Nat) (hN0 : N0 = xs.length) (hs : a.eval s = .slice ao0 N0 cap0)
    (hown : w.ownsRow D 23 2 (.slice ao0 N0 cap0) N0 (flatP xs)) (ao : Option Addr) (cap : Nat) (ps : List (Int × Int)) (N1 : Nat) (hN1 : N1 = ps.length) (hx : a.eval x = .slice ao N1 cap) (hP : LiesP w ao ps)
    (hcap : ao = none → cap = 0) (hl : xs.length + ps.length ≤ 8796093022100) (hD : D ≤ w.heap.size) (N : Nat) (hN : N = (xs ++ ps).length)
    (h : ∀ ao' cap' w', w.grownBy w' (Value.slice ao0 N0 cap0).ownBlock → w'.ownsRow D 23 2 (.slice ao' N cap') N (flatP (xs ++ ps)) → LiesP w' ao' (xs ++ ps) → (ao' = none → cap' = 0) → Below D w w' → D ≤ w'.heap.size → K (a.put o.dst (.slice ao' N cap')) w') :
    if Region.wanted o (yielded ops a.tmps) = true then Oper.wp Try.prog o a w K Q else E := by
  subst hN0 hN1 hN
  obtain ⟨v', w', hr, own, bel, hs', hg⟩ := app_pairsG o.type w D _ xs hown ao cap ps hP hcap hl hD
  obtain ⟨ao', cap', rfl, hL, hc⟩ := own_pairsI own
  exact step_append_run hgd s x 22 ho _ _ _ w' hs hx hr (h ao' cap' w' hg own hL hc bel hs')
end Go.Proofs.Ytbkpfiagoinoiaa
