/- The document's new space. No conditions. -/
import Derived.Test.YtedhefidfepclaaRqe
namespace Go.Proofs.Ytedhefidfepclaa
open Go.RowKit Go.Maps
set_option linter.unusedVariables false
set_option linter.unusedSimpArgs false

theorem qnew_no (w : World) (G : Nat → Prop) (v : Value) (ps : List Pg) (ht : TabV G w v ps) (hl : ps.length ≤ 140737488355328) (hno : ¬ okL ps) :
    Calls Try.prog 8 #[v] w fun e w' => e = .returned (.tuple #[.pointer none, .int .i64 120]) ∧ Below w.heap.size w w' := by
  have k := checkT_any w G v ps ht hl
  rw [decide_eq_false hno] at k
  obtain ⟨q, n, cap0, rfl⟩ : ∃ q n cap, v = .slice q n cap := by obtain ⟨q, cap, e, _⟩ := ht; exact ⟨_, _, _, e⟩
  clear ht hno
  go_enter Try.func8, Try.ntmps8
  go_wp2_with (go_at_call 20; refine k.mono ?_; rintro e _ ⟨rfl, rfl⟩)
  go_ret2
  exact ⟨rfl, Below.refl _ _⟩
/-- pages one behind the other, rights 3 -/
def pgs (s0 m : Nat) : List Pg := (List.range m).map fun x => (((s0 + x : Nat) : Int), (3 : Int))
theorem pgs_len (s0 m : Nat) : (pgs s0 m).length = m := by simp [pgs]
theorem pgs_succ (s0 m : Nat) : pgs s0 (m + 1) = pgs s0 m ++ [(((s0 + m : Nat) : Int), (3 : Int))] := by simp [pgs, List.range_succ]
theorem pgs_tab (ns : List Nat) (i : Nat) (hi : i < ns.length) : tabP ns (pg0 ns.sum) i = pgs (bnd ns i) ns[i] := by
  have hl : (pg0 ns.sum).length = ns.sum := pg0_len _
  have h1 := bnd_succ ns i hi
  have h2 := bnd_le ns (i + 1)
  refine list_ext0 (by rw [tabP_len hl i hi, pgs_len]) fun j hj => ?_
  rw [tabP_len hl i hi] at hj
  rw [tabP_get hl i hi j hj, pg0_get _ _ (by omega)]
  unfold pgs
  rw [List.getD_eq_getElem?_getD, List.getElem?_map, List.getElem?_range hj]; rfl
/-- a table that grows -/
structure QJ (W0 W : World) (tv : Value) (s0 m : Nat) : Prop where
  row : W.ownsRow W0.heap.size 56 2 tv m (flatP (pgs s0 m))
  bel : Below W0.heap.size W0 W
theorem QJ.app {W0 W : World} {tv : Value} {s0 m : Nat} (h : QJ W0 W tv s0 m) (hm : m ≤ 16) :
    ∃ q' c' W', (Builtin.append_ #[50, 50] 50 #[tv, .slice (some ⟨W.heap.size, 0, none⟩) 1 1]).run Try.prog (W.alloc (.cells #[.int .i64 ((s0 + m : Nat) : Int), .int .i64 3] 56)) = .ok (.slice q' (m + 1) c') W' ∧ QJ W0 W' (.slice q' (m + 1) c') s0 (m + 1) := by
  obtain ⟨i0, hi, hz0, hz1, hz2⟩ := info_parts Try.info56
  have hb : Below W.heap.size W (W.alloc (.cells #[.int .i64 ((s0 + m : Nat) : Int), .int .i64 3] 56)) := (Below.refl _ W).alloc (Nat.le_refl _) _
  have hn := block_new W (.cells #[.int .i64 ((s0 + m : Nat) : Int), .int .i64 3] 56)
  have lo := own2_lt h.row
  have ho := own2_below h.row (W := W.alloc (.cells #[.int .i64 ((s0 + m : Nat) : Int), .int .i64 3] 56)) fun j hj => by
    obtain ⟨_, cur, hc⟩ := lo j hj
    exact hb.block j (block_lt hc)
  have hbW := h.bel.trans (hb.mono h.bel.size)
  obtain ⟨v', W', hrun, hown, hgr, _, hob⟩ := run_append_own_at (P := Try.prog) (w := W.alloc (.cells #[.int .i64 ((s0 + m : Nat) : Int), .int .i64 3] 56)) W0.heap.size 50 50 56 i0 (.agg #[.int .i64 0, .int .i64 0]) 2 16 Try.underlying50 hi hz0 hz1 hz2 rfl (by decide) tv m _ ho ⟨W.heap.size, 0, none⟩ 1 1 [.int .i64 ((s0 + m : Nat) : Int), .int .i64 3] rfl (by
    intro j u hu
    rw [addr_at, Nat.zero_add, cell_of_row _ _ _ _ _ _ hn, ← hu]; exact (List.getElem?_toArray ..)) (by intro u hu; simp at hu; rcases hu with rfl | rfl <;> rfl) (by unfold maxLen; omega) (by omega) hbW.size
  have hv : ∃ q' c', v' = .slice q' (m + 1) c' := by
    rcases hown.2 with ⟨e1, e2⟩ | ⟨g, c, cur, e1, _⟩
    · omega
    · exact ⟨_, _, e1⟩
  obtain ⟨q', c', rfl⟩ := hv
  refine ⟨q', c', W', hrun, ?_, hbW.grown hgr hbW.size fun j hj => (lo j hj).1⟩
  rw [pgs_succ, show flatP (pgs s0 m ++ [(((s0 + m : Nat) : Int), (3 : Int))]) = flatP (pgs s0 m) ++ [.int .i64 ((s0 + m : Nat) : Int), .int .i64 3] by simp [flatP]]
  exact hown
/-- the tables that are there -/
structure QI (w W : World) (Y : Nat) (ns : List Nat) (k : Nat) (tq : Option Addr) (tc : Nat) : Prop where
  y : W.heap[Y]? = some (.cells #[.pointer none, .slice tq k tc] 81 (0, 0))
  bel : Below w.heap.size w W
  new : w.heap.size ≤ Y
  rows : ∃ vs : List Value, W.ownsRow w.heap.size 50 1 (.slice tq k tc) k vs ∧ ∀ j, j < k → ∃ v, vs[j]? = some v ∧ v.oneCell' = true ∧ W.ownsRow w.heap.size 56 2 v (ns.getD j 0) (flatP (pgs (bnd ns j) (ns.getD j 0)))
theorem own1_lt {w : World} {b e n : Nat} {v : Value} {xs : List Value} (h : w.ownsRow b e 1 v n xs) : ∀ j, v.ownBlock = some j → b ≤ j ∧ ∃ cur, w.heap[j]? = some (.cells cur e (0, 0)) := by
  rcases h.2 with ⟨e1, _⟩ | ⟨g, c, cur, e1, h1, hg, _⟩
  · rw [e1]; intro j hj; cases hj
  · rw [e1]; intro j hj; injection hj with hj; subst hj; exact ⟨h1, cur, hg⟩
theorem own1_below {w W : World} {b e n : Nat} {v : Value} {xs : List Value} (h : w.ownsRow b e 1 v n xs) (hb : ∀ j, v.ownBlock = some j → W.heap[j]? = w.heap[j]?) : W.ownsRow b e 1 v n xs := by
  refine ⟨h.1, ?_⟩
  rcases h.2 with e1 | ⟨g, c, cur, e1, h1, hg, h2⟩
  · exact .inl e1
  · exact .inr ⟨g, c, cur, e1, h1, (hb g (by rw [e1]; rfl)).trans hg, h2⟩
theorem QI.below {w W W' : World} {Y : Nat} {ns : List Nat} {k : Nat} {tq : Option Addr} {tc : Nat} (h : QI w W Y ns k tq tc) (hb : Below W.heap.size W W') : QI w W' Y ns k tq tc := by
  obtain ⟨h1, h2, h3, vs, h4, h5⟩ := h
  refine ⟨(hb.block _ (block_lt h1)).trans h1, h2.trans (hb.mono h2.size), h3, vs, own1_below h4 fun j hj => ?_, fun j hj => ?_⟩
  · obtain ⟨_, cur, hc⟩ := own1_lt h4 j hj
    exact hb.block j (block_lt hc)
  · obtain ⟨v, v1, v2, v3⟩ := h5 j hj
    exact ⟨v, v1, v2, own2_below v3 fun a ha => by
      obtain ⟨_, cur, hc⟩ := own2_lt v3 a ha
      exact hb.block a (block_lt hc)⟩
/-- s.T = append(s.T, t) -/
theorem QI.app {w W0 W : World} {Y : Nat} {ns : List Nat} {k : Nat} {tq : Option Addr} {tc : Nat} (h : QI w W0 Y ns k tq tc) (hk : k < ns.length) (h8 : ns.length ≤ 8) {tv : Value} (hj : QJ W0 W tv (bnd ns k) (ns.getD k 0)) (ho1 : tv.oneCell' = true) :
    ∃ q' c' W', (Builtin.append_ #[79, 79] 79 #[.slice tq k tc, .slice (some ⟨W.heap.size, 0, none⟩) 1 1]).run Try.prog (W.alloc (.cells #[tv] 50)) = .ok (.slice q' (k + 1) c') W' ∧
      (∃ u, W'.cell? ⟨Y, 1, none⟩ = some u ∧ u.oneCell' = true) ∧ W'.frozen? ⟨Y, 1, none⟩ = false ∧ QI w (W'.setCell ⟨Y, 1, none⟩ (.slice q' (k + 1) c')) Y ns (k + 1) q' c' := by
  obtain ⟨i0, hi, hz0, hz1, hz2⟩ := info_parts Try.info50
  obtain ⟨h1, h2, h3, vs, h4, h5⟩ := h.below hj.bel
  have hb : Below W.heap.size W (W.alloc (.cells #[tv] 50)) := (Below.refl _ W).alloc (Nat.le_refl _) _
  have hn := block_new W (.cells #[tv] 50)
  have lo := own1_lt h4
  have hbW := h2.trans (hb.mono h2.size)
  obtain ⟨v', W', hrun, hown, hgr, _, hob⟩ := run_append_own_at (P := Try.prog) (w := W.alloc (.cells #[tv] 50)) w.heap.size 79 79 50 i0 (.slice none 0 0) 1 24 Try.underlying79 hi hz0 hz1 hz2 rfl (by decide) (.slice tq k tc) k vs (own1_below h4 fun j hj => by
    obtain ⟨_, cur, hc⟩ := lo j hj
    exact hb.block j (block_lt hc)) ⟨W.heap.size, 0, none⟩ 1 1 [tv] rfl (by
    intro j u hu
    rw [addr_at, Nat.zero_add, cell_of_row _ _ _ _ _ _ hn, ← hu]; exact (List.getElem?_toArray ..)) (by intro u hu; simp at hu; subst hu; exact ho1) (by unfold maxLen; omega) (by omega) hbW.size
  have hv : ∃ q' c', v' = .slice q' (k + 1) c' := by
    rcases hown.2 with ⟨e1, e2⟩ | ⟨g, c, cur, e1, _⟩
    · omega
    · exact ⟨_, _, e1⟩
  obtain ⟨q', c', rfl⟩ := hv
  have nt : ∀ (a : Nat) (ca : Array Value) (ta : TypeId), W.heap[a]? = some (.cells ca ta (0, 0)) → ta ≠ 50 → ∀ j, (Value.slice tq k tc).ownBlock = some j → a ≠ j := fun a ca ta ha hta j hj e => by
    obtain ⟨_, cur, hc⟩ := lo j hj
    subst e; rw [ha] at hc; injection hc with hc; injection hc with _ h3 _; exact hta h3
  have keep : ∀ (a : Nat) (ca : Array Value) (ta : TypeId), W.heap[a]? = some (.cells ca ta (0, 0)) → ta ≠ 50 → W'.heap[a]? = W.heap[a]? := fun a ca ta ha hta => (hgr.block a (Nat.lt_of_lt_of_le (block_lt ha) hb.size) (fun e => nt a ca ta ha hta a e.symm rfl)).trans (hb.block a (block_lt ha))
  have hY := (keep _ _ _ h1 (by decide)).trans h1
  have oth : ∀ a, a ≠ Y → (W'.setCell ⟨Y, 1, none⟩ (.slice q' (k + 1) c')).heap[a]? = W'.heap[a]? := fun a ha => block_setCell_other (x := ⟨Y, 1, none⟩) ha
  have ny : ∀ (a : Nat) (ca : Array Value) (ta : TypeId), W'.heap[a]? = some (.cells ca ta (0, 0)) → ta ≠ 81 → a ≠ Y := fun a ca ta ha hta e => by
    subst e; rw [hY] at ha; injection ha with ha; injection ha with _ h3 _; exact hta h3.symm
  refine ⟨q', c', W', hrun, ⟨_, by rw [cell_of_row _ _ _ _ _ _ hY]; rfl, rfl⟩, block_free hY, block_setCell hY, (hbW.grown hgr hbW.size fun j hj => (lo j hj).1).setCell (p := ⟨Y, 1, none⟩) h3 _, h3, vs ++ [tv], own1_below hown fun j hj => ?_, fun j hj2 => ?_⟩
  · obtain ⟨_, cur, hc⟩ := own1_lt hown j hj
    exact oth j (ny _ _ _ hc (by decide))
  · have hl : vs.length = k := by have := h4.1; omega
    by_cases e : j < k
    · obtain ⟨v, v1, v2, v3⟩ := h5 j e
      refine ⟨v, by rw [List.getElem?_append_left (by omega)]; exact v1, v2, own2_below v3 fun a ha => ?_⟩
      obtain ⟨_, cur, hc⟩ := own2_lt v3 a ha
      have hc2 := (keep _ _ _ hc (by decide)).trans hc
      exact (oth a (ny _ _ _ hc2 (by decide))).trans (keep _ _ _ hc (by decide))
    · have ej : j = k := by omega
      subst ej
      refine ⟨tv, by rw [List.getElem?_append_right (by omega), hl, Nat.sub_self]; rfl, ho1, ?_⟩
      have hr := hj.row
      have hbase : W.ownsRow w.heap.size 56 2 tv (ns.getD j 0) (flatP (pgs (bnd ns j) (ns.getD j 0))) := by
        refine ⟨hr.1, ?_⟩
        rcases hr.2 with e1 | ⟨g, c, cur, e1, b1, b2⟩
        · exact .inl e1
        · exact .inr ⟨g, c, cur, e1, Nat.le_trans h.bel.size b1, b2⟩
      refine own2_below hbase fun a ha => ?_
      obtain ⟨_, cur, hc⟩ := own2_lt hbase a ha
      have hc2 := (keep _ _ _ hc (by decide)).trans hc
      exact (oth a (ny _ _ _ hc2 (by decide))).trans (keep _ _ _ hc (by decide))
end Go.Proofs.Ytedhefidfepclaa
