/- Rows of expressions that a reader makes: how they lie in memory, one put behind another. No conditions but that there is room. -/
import Derived.Test.YtdmajbdgjjmlkaaPce
import Derived.Deep.AppendLies
import Derived.Laws.AppendOwnNone
import Derived.Maps.AppendAt
namespace Go.Proofs.Ytdmajbdgjjmlkaa
open Go.RowKit
set_option linter.unusedVariables false

theorem wp_append_run {P : Program} {o : Oper} {a : Act} {w : World} {K : Act → World → Prop} {Q : Exit → Act → World → Prop} (s x : Operand) (t : TypeId)
    (ho : o.op = .call { callee := .builtin .append, args := #[s, x], argTypes := #[t, t] }) (v sx v' : Value) (w' : World) (hs : a.eval s = v) (hx : a.eval x = sx)
    (hr : (Builtin.append_ #[t, t] o.type #[v, sx]).run P w = .ok v' w') (h : K (a.put o.dst v') w') : o.wp P a w K Q := by
  unfold Oper.wp execOp
  simp only [ho, resolve, invoke, builtin, Sem.run_bind, Sem.run_pure, Result.andThen_ok, List.map_toArray, List.map_cons, List.map_nil, hs, hx, hr]
  exact h
theorem list_append_run {P : Program} {ops : Array Oper} {rest : List Oper} {o : Oper} {a : Act} {w : World} {Q : Exit → Act → World → Prop} (hgd : o.guard = none) (s x : Operand) (t : TypeId)
    (ho : o.op = .call { callee := .builtin .append, args := #[s, x], argTypes := #[t, t] }) (v sx v' : Value) (w' : World) (hs : a.eval s = v) (hx : a.eval x = sx)
    (hr : (Builtin.append_ #[t, t] o.type #[v, sx]).run P w = .ok v' w') (h : wpList P ops Q rest (a.put o.dst v') w') : wpList P ops Q (o :: rest) a w :=
  wpList_plain hgd fun _ hK => wp_append_run s x t ho v sx v' w' hs hx hr (hK _ _ h)

abbrev Px := Rx × Value
def flat8 : List Px → List Value
  | [] => []
  | p :: l => (p.1.cells p.2).toList ++ flat8 l
theorem cells_len (t : Rx) (v : Value) : (t.cells v).toList.length = 8 := by cases t; rfl
theorem flat8_len : ∀ l : List Px, (flat8 l).length = l.length * 8
  | [] => rfl
  | p :: l => by rw [flat8, List.length_append, cells_len, flat8_len l, List.length_cons]; omega
theorem flat8_app : ∀ l m : List Px, flat8 (l ++ m) = flat8 l ++ flat8 m
  | [], m => rfl
  | p :: l, m => by rw [List.cons_append, flat8, flat8_app l m, flat8, List.append_assoc]
theorem flat8_at : ∀ (l : List Px) (i : Nat) (h : i < l.length) (j : Nat) (u : Value), (l[i].1.cells l[i].2)[j]? = some u → (flat8 l)[i * 8 + j]? = some u
  | [], i, h, _, _, _ => absurd h (by simp)
  | p :: l, 0, h, j, u, hu => by
    have hu' : (p.1.cells p.2)[j]? = some u := hu
    have hj : j < 8 := by
      have := (Array.getElem?_eq_some_iff.1 hu').1
      have e : (p.1.cells p.2).size = 8 := cells_len p.1 p.2
      omega
    rw [flat8, List.getElem?_append_left (by rw [cells_len]; omega)]
    rw [Nat.zero_mul, Nat.zero_add]
    simpa using hu'
  | p :: l, i + 1, h, j, u, hu => by
    rw [flat8, List.getElem?_append_right (by rw [cells_len]; omega), cells_len]
    have := flat8_at l i (by simpa using h) j u (by simpa using hu)
    rw [show (i + 1) * 8 + j - 8 = i * 8 + j by omega]
    exact this
theorem flat8_one : ∀ (l : List Px), (∀ p ∈ l, p.2.oneCell' = true) → ∀ u ∈ flat8 l, u.oneCell' = true
  | [], _, u, h => by cases h
  | p :: l, hp, u, h => by
    rw [flat8, List.mem_append] at h
    rcases h with h | h
    · obtain ⟨⟨k, mn, mx, x0, x1, x2, x3, ls⟩, v⟩ := p
      have hv : v.oneCell' = true := hp _ (List.mem_cons.2 (.inl rfl))
      simp [Rx.cells, cellsX] at h
      rcases h with rfl | rfl | rfl | rfl | rfl | rfl | rfl | rfl
      · rfl
      · rfl
      · rfl
      · rfl
      · rfl
      · rfl
      · rfl
      · exact hv
    · exact flat8_one l (fun q hq => hp q (by simp [hq])) u h
def fsts (l : List Px) : List Rx := l.map Prod.fst
theorem fsts_len (l : List Px) : (fsts l).length = l.length := by simp [fsts]
theorem fsts_app (l : List Px) (p : Px) : fsts (l ++ [p]) = fsts l ++ [p.1] := by simp [fsts]
/-- a row of its own, as expressions that lie there -/
theorem own_lies {ok : Nat → Prop} {D : Nat} {w : World} {v : Value} {ps : List Px} (h : w.ownsRow D 26 8 v ps.length (flat8 ps)) (few : ps.length ≤ 140737488355328) (hok : ∀ g, v.ownBlock = some g → ok g)
    (hin : ∀ p ∈ ps, LiesL ok w p.2 p.1.list) : LiesL ok w v (fsts ps) := by
  have h0 := h
  rcases h.2 with ⟨rfl, h2⟩ | ⟨g, cap, cur, rfl, hb, hg, h3⟩
  · have : ps = [] := List.length_eq_zero_iff.1 h2
    subst this
    exact LiesL.nil ok w
  · have e : LiesL ok w (.slice (some ⟨g, 0, none⟩) (fsts ps).length cap) (fsts ps) := by
      refine .mk (some ⟨g, 0, none⟩) cap (fsts ps) (fun i => (ps.getD i (.mk 0 0 0 0 0 0 0 [], .slice none 0 0)).2) (by rw [fsts_len]; exact few) (fun i hi => ?_) (fun i hi => ?_)
      · have hi' : i < ps.length := by rw [fsts_len] at hi; exact hi
        refine ⟨_, rfl, hok g rfl, block_lt hg, fun j u hu => ?_⟩
        have hu' : (ps[i].1.cells ps[i].2)[j]? = some u := by
          have e1 : (fsts ps)[i] = ps[i].1 := by simp [fsts]
          have e2 : (ps.getD i (.mk 0 0 0 0 0 0 0 [], .slice none 0 0)).2 = ps[i].2 := by simp [List.getD, hi']
          rw [e1, e2] at hu
          exact hu
        exact h0.cells (g := g) rfl _ _ (flat8_at ps i hi' j u hu')
      · have hi' : i < ps.length := by rw [fsts_len] at hi; exact hi
        have e1 : (fsts ps)[i] = ps[i].1 := by simp [fsts]
        have e2 : (ps.getD i (.mk 0 0 0 0 0 0 0 [], .slice none 0 0)).2 = ps[i].2 := by simp [List.getD, hi']
        rw [e1, e2]
        exact hin _ (List.getElem_mem hi')
    rw [fsts_len] at e
    exact e
theorem Try.info26 : (Try.prog.info? 26).map (fun i => (i.zero, i.size, i.bytes)) = some (some (.agg zero8), 8, 80) := by kernel_rfl
theorem lies_cell {ok : Nat → Prop} {w : World} {v : Value} {l : List Rx} (h : LiesL ok w v l) : v.oneCell' = true := by
  obtain ⟨ao, cap, rfl⟩ := h.value
  rfl
/-- one more behind a row -/
theorem push8 {w : World} {D N : Nat} {v : Value} {ps : List Px} (x : Rx) (vx : Value) (ty : TypeId) (own : w.ownsRow D 26 8 v ps.length (flat8 ps)) (hN : w.heap[N]? = some (.cells (x.cells vx) 26 (0, 0))) (hv : vx.oneCell' = true)
    (few : ps.length ≤ 1000) (hD : D ≤ w.heap.size) :
    ∃ ao cap w', (Builtin.append_ #[24, 24] ty #[v, .slice (some ⟨N, 0, none⟩) 1 1]).run Try.prog w = .ok (.slice ao (ps ++ [(x, vx)]).length cap) w' ∧ w'.ownsRow D 26 8 (.slice ao (ps ++ [(x, vx)]).length cap) (ps ++ [(x, vx)]).length (flat8 (ps ++ [(x, vx)])) ∧ w.grownBy w' v.ownBlock ∧
      ((Value.slice ao (ps ++ [(x, vx)]).length cap).ownBlock = v.ownBlock ∨ (Value.slice ao (ps ++ [(x, vx)]).length cap).ownBlock = some w.heap.size) := by
  obtain ⟨i0, hi, hz0, hz1, hz2⟩ := info_parts Try.info26
  obtain ⟨v', w', h1, h2, h3, _, h5⟩ := run_append_own_at (P := Try.prog) (w := w) D 24 ty 26 i0 (.agg zero8) 8 80 Try.underlying24 hi hz0 hz1 hz2 rfl (by decide) v _ _ own ⟨N, 0, none⟩ 1 1 (flat8 [(x, vx)])
    (by rw [flat8_len]; rfl) (fun j u hj => by
      have e : (⟨N, 0, none⟩ : Addr).add j = ⟨N, j, none⟩ := by unfold Addr.add; split <;> simp_all
      rw [e]
      refine cell_at hN ?_
      simpa [flat8] using hj) (flat8_one _ (fun p hp => by simp at hp; subst hp; exact hv)) (by unfold maxLen; omega) (by omega) hD
  have e : ps.length + 1 = (ps ++ [(x, vx)]).length := by simp
  rw [e, ← flat8_app] at h2
  have hv' : ∃ ao cap, v' = .slice ao (ps ++ [(x, vx)]).length cap := by
    rcases h2.2 with ⟨rfl, h0⟩ | ⟨g, cap, cur, rfl, _⟩
    · simp at h0
    · exact ⟨_, _, rfl⟩
  obtain ⟨ao, cap, rfl⟩ := hv'
  exact ⟨ao, cap, w', h1, h2, h3, h5⟩
/-- blocks that neither row has as its own -/
def okT (R : Nat) (vr vw : Value) (g : Nat) : Prop := R + 1 ≤ g ∧ vr.ownBlock ≠ some g ∧ vw.ownBlock ≠ some g
structure Two (b R : Nat) (w wr : World) (l : Bs) (vr vw : Value) (prs pws : List Px) : Prop where
  at1 : At b R w wr l
  ownr : wr.ownsRow (R + 1) 26 8 vr prs.length (flat8 prs)
  ownw : wr.ownsRow (R + 1) 26 8 vw pws.length (flat8 pws)
  inr : ∀ p ∈ prs, LiesL (okT R vr vw) wr p.2 p.1.list
  inw : ∀ p ∈ pws, LiesL (okT R vr vw) wr p.2 p.1.list
  ne : ∀ g, vr.ownBlock = some g → vw.ownBlock ≠ some g
section
variable {b R : Nat} {w wr w' : World} {l l' : Bs} {vr vw : Value} {prs pws : List Px}
theorem Two.first (h : At b R w wr l) : Two b R w wr l (.slice none 0 0) (.slice none 0 0) [] [] :=
  ⟨h, World.ownsRow_nil _ _ _ _, World.ownsRow_nil _ _ _ _, fun p hp => (by cases hp), fun p hp => (by cases hp), fun g hg => (by cases hg)⟩
theorem own_ne {D b : Nat} {v : Value} {n : Nat} {xs : List Value} (h : wr.ownsRow D 26 8 v n xs) (hb : b < D) : v.ownBlock = none ∨ v.ownBlock ≠ some b := by
  cases hv : v.ownBlock with
  | none => exact .inl rfl
  | some g => exact .inr (fun e => by have := (h.lt g hv).1; cases e; omega)
theorem Two.step (h : Two b R w wr l vr vw prs pws) (k : Step b wr w' l') : Two b R w w' l' vr vw prs pws := by
  have hb : b < R + 1 := by have := h.at1.lt; have := h.at1.hR; omega
  exact ⟨h.at1.step k, h.ownr.kept k.grown (own_ne h.ownr hb), h.ownw.kept k.grown (own_ne h.ownw hb),
    fun p hp => (h.inr p hp).kept k.grown.size (fun i hi hlt => k.grown.block i hlt (by have := hi.1; simp; omega)) (fun _ q _ => q),
    fun p hp => (h.inw p hp).kept k.grown.size (fun i hi hlt => k.grown.block i hlt (by have := hi.1; simp; omega)) (fun _ q _ => q), h.ne⟩
theorem Two.below (h : Two b R w wr l vr vw prs pws) (k : Below wr.heap.size wr w') : Two b R w w' l vr vw prs pws :=
  ⟨h.at1.below k, h.ownr.kept (below_grown k (r := none)) (by cases vr.ownBlock <;> simp), h.ownw.kept (below_grown k (r := none)) (by cases vw.ownBlock <;> simp),
    fun p hp => (h.inr p hp).stay k, fun p hp => (h.inw p hp).stay k, h.ne⟩
/-- the second row is given up -/
theorem Two.give (h : Two b R w wr l vr vw prs pws) : Two b R w wr l vr (.slice none 0 0) prs [] :=
  ⟨h.at1, h.ownr, World.ownsRow_nil _ _ _ _, fun p hp => (h.inr p hp).kept (Nat.le_refl _) (fun _ _ _ => rfl) (fun g q _ => ⟨q.1, q.2.1, fun e => by cases e⟩), fun p hp => (by cases hp), fun g hg => (fun e => by cases e)⟩
theorem Two.roww (h : Two b R w wr l vr vw prs pws) (few : pws.length ≤ 1000) : LiesL (okT R vr (.slice none 0 0)) wr vw (fsts pws) :=
  own_lies h.ownw (by omega) (fun g hg => ⟨(h.ownw.lt g hg).1, fun e => h.ne g e hg, fun e => by cases e⟩) (fun p hp => (h.inw p hp).kept (Nat.le_refl _) (fun _ _ _ => rfl) (fun g q _ => ⟨q.1, q.2.1, fun e => by cases e⟩))
theorem Two.fresh (h : Two b R w wr l vr vw prs pws) {w1 : World} {v : Value} {ls : List Rx} (hl : LiesL (wr.heap.size ≤ ·) w1 v ls) : LiesL (okT R vr vw) w1 v ls :=
  hl.kept (Nat.le_refl _) (fun _ _ _ => rfl) (fun g q _ => ⟨by have := block_lt h.at1.res; omega, fun e => by have := (h.ownr.lt g e).2; omega, fun e => by have := (h.ownw.lt g e).2; omega⟩)
theorem At.grow {r : Option Nat} (h : At b R w wr l) (g : wr.grownBy w' r) (hr : ∀ x, r = some x → R + 1 ≤ x) : At b R w w' l :=
  ⟨by unfold St; rw [g.block b (block_lt h.st) (fun e => by have := hr b e.symm; have := h.lt; have := h.hR; omega)]; exact h.st,
    by rw [g.block R (block_lt h.res) (fun e => by have := hr R e.symm; omega)]; exact h.res,
    ⟨g.os.trans h.grown.os, g.tape.trans h.grown.tape, g.output.trans h.grown.output, Nat.le_trans h.grown.size g.size, fun i hi hn => (g.block i (Nat.lt_of_lt_of_le hi h.grown.size) (fun e => by have := hr i e.symm; have := h.hR; omega)).trans (h.grown.block i hi hn)⟩, h.lt, h.hR⟩
/-- one more behind the second row -/
theorem Two.pushw0 (h : Two b R w wr l vr vw prs pws) (x : Rx) (vx : Value) (ty : TypeId) (hx : LiesL (okT R vr vw) wr vx x.list) (few : pws.length ≤ 1000) :
    ∃ ao cap w', (Builtin.append_ #[24, 24] ty #[vw, .slice (some ⟨wr.heap.size, 0, none⟩) 1 1]).run Try.prog (wr.alloc (.cells (x.cells vx) 26)) = .ok (.slice ao (pws ++ [(x, vx)]).length cap) w' ∧ Two b R w w' l vr (.slice ao (pws ++ [(x, vx)]).length cap) prs (pws ++ [(x, vx)]) := by
  have h2 := h.below (below_new wr (.cells (x.cells vx) 26))
  have hx2 := hx.stay (below_new wr (.cells (x.cells vx) 26))
  obtain ⟨ao, cap, w', hr, own, g, ob⟩ := push8 x vx ty h2.ownw (heap_alloc_new wr (.cells (x.cells vx) 26)) (lies_cell hx) few (by have := block_lt h2.at1.res; omega)
  generalize wr.alloc (.cells (x.cells vx) 26) = w2 at *
  have keep : ∀ {v : Value} {ls : List Rx}, LiesL (okT R vr vw) w2 v ls → LiesL (okT R vr (.slice ao (pws ++ [(x, vx)]).length cap)) w' v ls := fun hl =>
    hl.kept g.size (fun i hi hlt => g.block i hlt (fun e => hi.2.2 e.symm)) (fun i hi hlt => ⟨hi.1, hi.2.1, fun e => by
      rcases ob with ob | ob
      · rw [ob] at e; exact hi.2.2 e
      · rw [ob] at e; cases e; omega⟩)
  refine ⟨ao, cap, w', hr, ⟨h2.at1.grow g (fun q hq => (h2.ownw.lt q hq).1), h2.ownr.kept g ?_, own, fun p hp => keep (h2.inr p hp), fun p hp => ?_, fun q hq e => ?_⟩⟩
  · cases hv : vr.ownBlock with
    | none => exact .inl rfl
    | some q => exact .inr (fun e => h2.ne q hv e.symm)
  · rcases List.mem_append.1 hp with hp | hp
    · exact keep (h2.inw p hp)
    · simp at hp; subst hp; exact keep hx2
  · rcases ob with ob | ob
    · rw [ob] at e; exact h2.ne q hq e
    · rw [ob] at e; cases e; have := (h2.ownr.lt _ hq).2; omega
/-- one more behind the first row, where there is no second -/
theorem Two.pushr0 (h : Two b R w wr l vr (.slice none 0 0) prs []) (x : Rx) (vx : Value) (ty : TypeId) (hx : LiesL (okT R vr (.slice none 0 0)) wr vx x.list) (few : prs.length ≤ 1000) :
    ∃ ao cap w', (Builtin.append_ #[24, 24] ty #[vr, .slice (some ⟨wr.heap.size, 0, none⟩) 1 1]).run Try.prog (wr.alloc (.cells (x.cells vx) 26)) = .ok (.slice ao (prs ++ [(x, vx)]).length cap) w' ∧ Two b R w w' l (.slice ao (prs ++ [(x, vx)]).length cap) (.slice none 0 0) (prs ++ [(x, vx)]) [] := by
  have h2 := h.below (below_new wr (.cells (x.cells vx) 26))
  have hx2 := hx.stay (below_new wr (.cells (x.cells vx) 26))
  obtain ⟨ao, cap, w', hr, own, g, ob⟩ := push8 x vx ty h2.ownr (heap_alloc_new wr (.cells (x.cells vx) 26)) (lies_cell hx) few (by have := block_lt h2.at1.res; omega)
  generalize wr.alloc (.cells (x.cells vx) 26) = w2 at *
  have keep : ∀ {v : Value} {ls : List Rx}, LiesL (okT R vr (.slice none 0 0)) w2 v ls → LiesL (okT R (.slice ao (prs ++ [(x, vx)]).length cap) (.slice none 0 0)) w' v ls := fun hl =>
    hl.kept g.size (fun i hi hlt => g.block i hlt (fun e => hi.2.1 e.symm)) (fun i hi hlt => ⟨hi.1, fun e => by
      rcases ob with ob | ob
      · rw [ob] at e; exact hi.2.1 e
      · rw [ob] at e; cases e; omega, fun e => by cases e⟩)
  refine ⟨ao, cap, w', hr, ⟨h2.at1.grow g (fun q hq => (h2.ownr.lt q hq).1), own, World.ownsRow_nil _ _ _ _, fun p hp => ?_, fun p hp => (by cases hp), fun q hq e => by cases e⟩⟩
  rcases List.mem_append.1 hp with hp | hp
  · exact keep (h2.inr p hp)
  · simp at hp; subst hp; exact keep hx2
theorem Two.pushw (h : Two b R w wr l vr vw prs pws) (x : Rx) (vx : Value) (ty : TypeId) (hx : LiesL (okT R vr vw) wr vx x.list) (few : pws.length ≤ 1000) :
    ∃ ao cap w', (Builtin.append_ #[24, 24] ty #[vw, .slice (some ⟨wr.heap.size, 0, none⟩) 1 1]).run Try.prog (wr.alloc (.cells (x.cells vx) 26)) = .ok (.slice ao (pws.length + 1) cap) w' ∧ Two b R w w' l vr (.slice ao (pws.length + 1) cap) prs (pws ++ [(x, vx)]) := by
  obtain ⟨ao, cap, w', h1, h2⟩ := h.pushw0 x vx ty hx few
  rw [show (pws ++ [(x, vx)]).length = pws.length + 1 by simp] at h1 h2
  exact ⟨ao, cap, w', h1, h2⟩
theorem Two.pushr (h : Two b R w wr l vr (.slice none 0 0) prs []) (x : Rx) (vx : Value) (ty : TypeId) (hx : LiesL (okT R vr (.slice none 0 0)) wr vx x.list) (few : prs.length ≤ 1000) :
    ∃ ao cap w', (Builtin.append_ #[24, 24] ty #[vr, .slice (some ⟨wr.heap.size, 0, none⟩) 1 1]).run Try.prog (wr.alloc (.cells (x.cells vx) 26)) = .ok (.slice ao (prs.length + 1) cap) w' ∧ Two b R w w' l (.slice ao (prs.length + 1) cap) (.slice none 0 0) (prs ++ [(x, vx)]) [] := by
  obtain ⟨ao, cap, w', h1, h2⟩ := h.pushr0 x vx ty hx few
  rw [show (prs ++ [(x, vx)]).length = prs.length + 1 by simp] at h1 h2
  exact ⟨ao, cap, w', h1, h2⟩
theorem Two.rowr (h : Two b R w wr l vr vw prs pws) (few : prs.length ≤ 1000) : LiesL (R + 1 ≤ ·) wr vr (fsts prs) :=
  own_lies h.ownr (by omega) (fun g hg => (h.ownr.lt g hg).1) (fun p hp => (h.inr p hp).kept (Nat.le_refl _) (fun _ _ _ => rfl) (fun g q _ => q.1))
end
set_option maxHeartbeats 1000000 in
theorem together_ok {ok : Nat → Prop} (kind : Int) (l : List Rx) (v : Value) (w : World) (hl : LiesL ok w v l) : Calls Try.prog 62 #[.int .i64 kind, v] w fun e w' => Below w.heap.size w w' ∧ ∃ v', e = .returned ((togR kind l).val v') ∧ LiesL ok w' v' (togR kind l).list := by
  have bel : Hid (∀ o, Below w.heap.size w (w.alloc o)) := fun o => below_new w o
  have hl0 := hl
  cases hl with
  | mk ao cap l sl few cell inner =>
    by_cases h1 : l.length = 1
    · obtain ⟨t, rfl⟩ := List.length_eq_one_iff.mp h1
      obtain ⟨a, rfl, hda, hab, hcell⟩ := cell 0 (by simp)
      obtain ⟨k, mn, mx, s0, s1, s2, s3, l⟩ := t
      obtain ⟨bo, cp, hv⟩ := (inner 0 (by simp)).value
      rw [show ([Rx.mk k mn mx s0 s1 s2 s3 l][0]'(by simp)).list.length = l.length from rfl] at hv
      rw [hv] at hcell
      have a0 : a.add (0 * 8) = a := by simp [Addr.add]
      have E := eight (wr := w) hcell hab (Below.refl _ _)
      have E2 := fun o => eight (wr := w.alloc o) hcell hab (below_new w o)
      rw [a0] at E E2
      obtain ⟨e0, e1, e2, e3, e4, e5, e6, e7⟩ := E
      have f0 := fun o => (E2 o).1
      have f1 := fun o => (E2 o).2.1
      have f2 := fun o => (E2 o).2.2.1
      have f3 := fun o => (E2 o).2.2.2.1
      have f4 := fun o => (E2 o).2.2.2.2.1
      have f5 := fun o => (E2 o).2.2.2.2.2.1
      have f6 := fun o => (E2 o).2.2.2.2.2.2.1
      have f7 := fun o => (E2 o).2.2.2.2.2.2.2
      clear E2
      have fin : Hid (∀ o, LiesL ok (w.alloc o) (.slice bo l.length cp) l) := fun o => by
        have := (inner 0 (by simp)).stay (below_new w o)
        rw [hv] at this
        exact this
      unfold togR Rx.val
      dsimp only [Rx.cells, cellsX, Rx.list]
      clear hl0 cell inner hcell few h1
      simp only [List.length_singleton]
      go_enter Try.func62, Try.ntmps62
      go_wp2
      exact bodyPost_ret (v := .agg #[.int .i64 k, .int .i64 mn, .int .i64 mx, .int .u64 s0, .int .u64 s1, .int .u64 s2, .int .u64 s3, .slice bo l.length cp]) (by simp [results, Try.results62, go_sem]) rfl ⟨bel.out _, _, rfl, fin.out _⟩
    · have fin : Hid (togR kind l = .mk kind 0 0 0 0 0 0 l) := by
        unfold togR
        split
        · exact absurd rfl h1
        · rfl
      have h2 : ¬ ((l.length : Int) = 1) := by omega
      rw [fin.out]
      unfold Rx.val
      dsimp only [Rx.cells, cellsX, Rx.list]
      have HL := Lib.hid fun o => hl0.stay (below_new w o)
      clear fin hl0 cell inner few h1
      go_enter Try.func62, Try.ntmps62
      go_wp2
      exact bodyPost_ret (v := .agg #[.int .i64 kind, .int .i64 0, .int .i64 0, .int .u64 0, .int .u64 0, .int .u64 0, .int .u64 0, .slice ao l.length cap]) (by simp [results, Try.results62, go_sem]) rfl ⟨bel.out _, _, rfl, HL.out _⟩
/-- a scope that is gone through again from one label, and left by another -/
def Exit.jump2 (l : Nat) (J : Act → World → Prop) (m : Nat) (K : Act → World → Prop) (Q : Exit → Act → World → Prop) : Exit → Act → World → Prop
  | .goto l', a, w => (l' = l ∧ J a w) ∨ (l' = m ∧ K a w)
  | e, a, w => Q e a w
def Exit.jump0 (Q : Exit → Act → World → Prop) : Exit → Act → World → Prop
  | .goto l', a, w => False
  | e, a, w => Q e a w
theorem wp_scope_two {P : Program} {a : Act} {w : World} {Q : Exit → Act → World → Prop} {c r1 r0 : Code} (l m : Nat) (J : Act → World → Prop) (μ : Act → World → Nat) (K : Act → World → Prop)
    (hf : findLabel c l = some r1) (hm : findLabel c m = some r0)
    (first : c.wp P (Exit.jump2 l J m K Q) a w)
    (pass : ∀ a w, J a w → r1.wp P (Exit.jump2 l (fun a' w' => J a' w' ∧ μ a' w' < μ a w) m K Q) a w)
    (last : ∀ a w, K a w → r0.wp P (Exit.jump0 Q) a w) : (Code.scope c).wp P Q a w := by
  intro b k cs
  have hg : gotoIn l (.inScope c :: k) = some (.code r1 :: .inScope c :: k) := by simp [gotoIn, hf]
  have hgm : gotoIn m (.inScope c :: k) = some (.code r0 :: .inScope c :: k) := by simp [gotoIn, hm]
  have lastK : ∀ a w, K a w → ∃ e a' w', Q e a' w' ∧ Arrives P (lone (b.at a (.code r0 :: .inScope c :: k)) cs w) b k cs e a' w' := by
    intro a w hK
    obtain ⟨e, a₁, w₁, hq, harr⟩ := last a w hK b (.inScope c :: k) cs
    cases e with
    | normal => exact ⟨.normal, a₁, w₁, hq, Steps.trans harr (.one step_inScope)⟩
    | exit id => exact ⟨.exit id, a₁, w₁, hq, fun k' hk => harr k' (by simp [exitTo, hk])⟩
    | goto l' => exact hq.elim
    | ret => exact ⟨_, a₁, w₁, hq, harr⟩
    | panic ch => exact ⟨_, a₁, w₁, hq, harr⟩
    | outgrown => exact ⟨_, a₁, w₁, hq, harr⟩
  have key : ∀ n a w, μ a w = n → J a w → ∃ e a' w', Q e a' w' ∧ Arrives P (lone (b.at a (.code r1 :: .inScope c :: k)) cs w) b k cs e a' w' := by
    intro n
    induction n using Nat.strongRecOn with
    | _ n ih =>
      intro a w hn hJ
      obtain ⟨e, a₁, w₁, hq, harr⟩ := pass a w hJ b (.inScope c :: k) cs
      cases e with
      | normal => exact ⟨.normal, a₁, w₁, hq, Steps.trans harr (.one step_inScope)⟩
      | exit id => exact ⟨.exit id, a₁, w₁, hq, fun k' hk => harr k' (by simp [exitTo, hk])⟩
      | goto l' =>
        rcases hq with ⟨rfl, hJ', hlt⟩ | ⟨rfl, hK⟩
        · obtain ⟨e₂, a₂, w₂, hq₂, harr₂⟩ := ih _ (by omega) a₁ w₁ rfl hJ'
          exact ⟨e₂, a₂, w₂, hq₂, .of_steps (harr _ hg) harr₂⟩
        · obtain ⟨e₂, a₂, w₂, hq₂, harr₂⟩ := lastK a₁ w₁ hK
          exact ⟨e₂, a₂, w₂, hq₂, .of_steps (harr _ hgm) harr₂⟩
      | ret => exact ⟨_, a₁, w₁, hq, harr⟩
      | panic ch => exact ⟨_, a₁, w₁, hq, harr⟩
      | outgrown => exact ⟨_, a₁, w₁, hq, harr⟩
  obtain ⟨e, a₁, w₁, hq, harr⟩ := first b (.inScope c :: k) cs
  cases e with
  | normal => exact ⟨.normal, a₁, w₁, hq, .head step_scope (Steps.trans harr (.one step_inScope))⟩
  | exit id => exact ⟨.exit id, a₁, w₁, hq, fun k' hk => .head step_scope (harr k' (by simp [exitTo, hk]))⟩
  | goto l' =>
    rcases hq with ⟨rfl, hJ'⟩ | ⟨rfl, hK⟩
    · obtain ⟨e₂, a₂, w₂, hq₂, harr₂⟩ := key _ a₁ w₁ rfl hJ'
      exact ⟨e₂, a₂, w₂, hq₂, .of_steps (.head step_scope (harr _ hg)) harr₂⟩
    · obtain ⟨e₂, a₂, w₂, hq₂, harr₂⟩ := lastK a₁ w₁ hK
      exact ⟨e₂, a₂, w₂, hq₂, .of_steps (.head step_scope (harr _ hgm)) harr₂⟩
  | ret => exact ⟨_, a₁, w₁, hq, .of_steps (.one step_scope) harr⟩
  | panic ch => exact ⟨_, a₁, w₁, hq, .of_steps (.one step_scope) harr⟩
  | outgrown => exact ⟨_, a₁, w₁, hq, .of_steps (.one step_scope) harr⟩
end Go.Proofs.Ytdmajbdgjjmlkaa
