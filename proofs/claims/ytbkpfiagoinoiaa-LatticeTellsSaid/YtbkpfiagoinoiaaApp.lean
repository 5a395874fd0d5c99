/- Pairs put behind pairs: whatever lies there, nothing too. No conditions but that there is room. -/
import Derived.Test.YtbkpfiagoinoiaaGod
import Derived.Deep.AppendLies
import Derived.Laws.AppendOwnNone
import Derived.Maps.AppendAt
namespace Go.Proofs.Ytbkpfiagoinoiaa
open Go.RowKit
set_option linter.unusedVariables false

theorem wp_append_run {P : Program} {o : Oper} {a : Act} {w : World} {K : Act → World → Prop} {Q : Exit → Act → World → Prop} (s x : Operand) (t : TypeId)
    (ho : o.op = .call { callee := .builtin .append, args := #[s, x], argTypes := #[t, t] }) (v sx v' : Value) (w' : World) (hs : a.eval s = v) (hx : a.eval x = sx)
    (hr : (Builtin.append_ #[t, t] o.type #[v, sx]).run P w = .ok v' w') (h : K (a.put o.dst v') w') : o.wp P a w K Q := by
  unfold Oper.wp execOp
  simp only [ho, resolve, invoke, builtin, Sem.run_bind, Sem.run_pure, Result.andThen_ok, List.map_toArray, List.map_cons, List.map_nil, hs, hx, hr]
  exact h
theorem step_append_run {P : Program} {ops : Array Oper} {o : Oper} {a : Act} {w : World} {K : Act → World → Prop} {Q : Exit → Act → World → Prop} {E : Prop} (hgd : o.guard = none) (s x : Operand) (t : TypeId)
    (ho : o.op = .call { callee := .builtin .append, args := #[s, x], argTypes := #[t, t] }) (v sx v' : Value) (w' : World) (hs : a.eval s = v) (hx : a.eval x = sx)
    (hr : (Builtin.append_ #[t, t] o.type #[v, sx]).run P w = .ok v' w') (h : K (a.put o.dst v') w') :
    if Region.wanted o (yielded ops a.tmps) = true then Oper.wp P o a w K Q else E := by
  have hw : Region.wanted o (yielded ops a.tmps) = true := by simp [Region.wanted, hgd]
  rw [if_pos hw]
  exact wp_append_run s x t ho v sx v' w' hs hx hr h
theorem list_append_run {P : Program} {ops : Array Oper} {rest : List Oper} {o : Oper} {a : Act} {w : World} {Q : Exit → Act → World → Prop} (hgd : o.guard = none) (s x : Operand) (t : TypeId)
    (ho : o.op = .call { callee := .builtin .append, args := #[s, x], argTypes := #[t, t] }) (v sx v' : Value) (w' : World) (hs : a.eval s = v) (hx : a.eval x = sx)
    (hr : (Builtin.append_ #[t, t] o.type #[v, sx]).run P w = .ok v' w') (h : wpList P ops Q rest (a.put o.dst v') w') : wpList P ops Q (o :: rest) a w :=
  wpList_plain hgd fun _ hK => wp_append_run s x t ho v sx v' w' hs hx hr (hK _ _ h)

theorem flatP_len : ∀ l : List (Int × Int), (flatP l).length = l.length * 2
  | [] => rfl
  | p :: l => by
    have e : flatP (p :: l) = .int .i64 p.1 :: .int .i64 p.2 :: flatP l := rfl
    rw [e, List.length_cons, List.length_cons, flatP_len l, List.length_cons]; omega
theorem flatP_app (l m : List (Int × Int)) : flatP (l ++ m) = flatP l ++ flatP m := by simp [flatP, List.flatMap_append]
theorem flatP_one : ∀ (l : List (Int × Int)), ∀ u ∈ flatP l, u.oneCell' = true
  | [], u, h => by cases h
  | p :: l, u, h => by
    have e : flatP (p :: l) = .int .i64 p.1 :: .int .i64 p.2 :: flatP l := rfl
    rw [e] at h
    simp only [List.mem_cons] at h
    rcases h with rfl | rfl | h
    · rfl
    · rfl
    · exact flatP_one l u h
theorem add_add' (a : Addr) (i j : Nat) : (a.add i).add j = a.add (i + j) := by
  unfold Addr.add
  by_cases hi : i = 0
  · subst hi; simp
  · by_cases hj : j = 0
    · subst hj; simp
    · rw [if_neg hi, if_neg hj, if_neg (by omega)]; simp [Nat.add_assoc]
/-- the cells of pairs that lie there -/
theorem lies_cells {w : World} {a : Addr} {ps : List (Int × Int)} (h : LiesP w (some a) ps) (j : Nat) (u : Value) (hj : (flatP ps)[j]? = some u) : w.cell? (a.add j) = some u := by
  have hlt : j < (flatP ps).length := (List.getElem?_eq_some_iff.1 hj).1
  rw [flatP_len] at hlt
  obtain ⟨a', e, q1, q2, _⟩ := h (j / 2) (by omega)
  cases e
  have hf := flatP_at ps (j / 2) (by omega)
  by_cases hp : j % 2 = 0
  · have e : j / 2 * 2 = j := by omega
    rw [e] at q1 hf
    rw [hf.1] at hj
    rw [q1, hj]
  · have e : j / 2 * 2 + 1 = j := by omega
    rw [add_add', e] at q2
    rw [e] at hf
    rw [hf.2] at hj
    rw [q2, hj]
theorem LiesP.addr {w : World} {ao : Option Addr} {ps : List (Int × Int)} (h : LiesP w ao ps) : ps = [] ∨ ∃ a, ao = some a := by
  cases ps with
  | nil => exact .inl rfl
  | cons p l => obtain ⟨a, e, _⟩ := h 0 (by simp); exact .inr ⟨a, e⟩
theorem app_pairs (ty : TypeId) (w : World) (D : Nat) (v : Value) (xs : List (Int × Int)) (hown : w.ownsRow D 23 2 v xs.length (flatP xs)) (ao : Option Addr) (cap : Nat) (ps : List (Int × Int)) (hP : LiesP w ao ps)
    (hcap : ao = none → cap = 0) (hl : xs.length + ps.length ≤ 8796093022100) (hD : D ≤ w.heap.size) :
    ∃ v' w', (Builtin.append_ #[22, 22] ty #[v, .slice ao ps.length cap]).run Try.prog w = .ok v' w' ∧ w'.ownsRow D 23 2 v' (xs ++ ps).length (flatP (xs ++ ps)) ∧ Below D w w' ∧ D ≤ w'.heap.size := by
  obtain ⟨i0, hi, hz0, hz1, hz2⟩ := info_parts Try.info23
  cases ao with
  | none =>
    rcases hP.addr with rfl | ⟨a, e⟩
    · obtain rfl := hcap rfl
      exact ⟨v, w, run_append_owned_none (P := Try.prog) (w := w) D 22 ty 23 i0 2 Try.underlying22 hi v _ _ hown, by simpa using hown, Below.refl _ _, hD⟩
    · cases e
  | some a =>
    obtain ⟨v', w', h1, h2, h3, _, _⟩ := run_append_own_at (P := Try.prog) (w := w) D 22 ty 23 i0 (.agg #[.int .i64 0, .int .i64 0]) 2 16 Try.underlying22 hi hz0 hz1 hz2 rfl (by decide) v _ _ hown a ps.length cap (flatP ps)
      (flatP_len ps) (lies_cells hP) (flatP_one ps) (by unfold maxLen; omega) (by omega) hD
    refine ⟨v', w', h1, by rw [List.length_append, flatP_app]; exact h2, (Below.refl D w).grown h3 hD (fun g hg => (hown.lt g hg).1), Nat.le_trans hD h3.size⟩
/-- a row of pairs of the call's own, as it lies -/
theorem own_pairsI {w : World} {base : Nat} {v : Value} {l : List (Int × Int)} (h : w.ownsRow base 23 2 v l.length (flatP l)) : ∃ ao cap, v = .slice ao l.length cap ∧ LiesP w ao l ∧ (ao = none → cap = 0) := by
  have h0 := h
  obtain ⟨_, h2⟩ := h
  rcases h2 with ⟨rfl, h2⟩ | ⟨g, cap, cur, hv, q2, q3, q4⟩
  · have : l = [] := List.length_eq_zero_iff.1 h2
    subst this
    exact ⟨none, 0, rfl, LiesP.nil _ _, fun _ => rfl⟩
  · subst hv
    refine ⟨some ⟨g, 0, none⟩, cap, rfl, fun i hi => ?_, fun h => by cases h⟩
    have hf := flatP_at l i hi
    refine ⟨_, rfl, ?_, ?_, block_lt q3⟩
    · rw [addr_at, Nat.zero_add, World.ownsRow.cellAt h0 _ (by omega), hf.1]
    · rw [addr_at, Nat.zero_add, addr_at, World.ownsRow.cellAt h0 _ (by omega), hf.2]
theorem flat_nat : ∀ l : List (Nat × Nat), l.flatMap cell2 = flatP (natP l)
  | [] => rfl
  | p :: l => by
    have ih := flat_nat l
    show cell2 p ++ l.flatMap cell2 = _
    rw [ih]; rfl
end Go.Proofs.Ytbkpfiagoinoiaa
