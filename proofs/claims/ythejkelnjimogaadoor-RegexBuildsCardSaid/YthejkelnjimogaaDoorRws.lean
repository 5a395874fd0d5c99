/- The rows of an alternative, or an expression as one row, and two more: what the call returns. Conditions: the expressions lie in memory, the rows are few. -/
import Derived.Test.YthejkelnjimogaaDoorSzw
import Derived.Test.YthejkelnjimogaaDoorBld

namespace Go.Proofs.YthejkelnjimogaaDoor
open Go.RowKit
set_option linter.unusedVariables false

/-- some more behind a row -/
theorem pushs {w : World} {D : Nat} {v : Value} {ps : List Px} (qs : List Px) (ty : TypeId) (own : w.ownsRow D 26 8 v ps.length (flat8 ps)) (ea : Addr) (m c : Nat) (hm : qs.length = m)
    (hq : ∀ j u, (flat8 qs)[j]? = some u → w.cell? (ea.add j) = some u) (hv : ∀ q ∈ qs, q.2.oneCell' = true) (few : ps.length ≤ 2000) (few2 : m ≤ 2000) (h0 : 0 < m) (hD : D ≤ w.heap.size) :
    ∃ ao cap w', (Builtin.append_ #[24, 24] ty #[v, .slice (some ea) m c]).run Tryd.prog w = .ok (.slice ao (ps.length + m) cap) w' ∧ w'.ownsRow D 26 8 (.slice ao (ps.length + m) cap) (ps ++ qs).length (flat8 (ps ++ qs)) ∧ w.grownBy w' v.ownBlock := by
  obtain ⟨i0, hi, hz0, hz1, hz2⟩ := info_parts Tryd.info26
  obtain ⟨v', w', h1, h2, h3, _, h5⟩ := run_append_own_at (P := Tryd.prog) (w := w) D 24 ty 26 i0 (.agg zero8) 8 80 Tryd.underlying24 hi hz0 hz1 hz2 rfl (by decide) v _ _ own ea m c (flat8 qs)
    (by rw [flat8_len, hm]) hq (flat8_one _ hv) (by unfold maxLen; omega) (by omega) hD
  have e : ps.length + m = (ps ++ qs).length := by simp [hm]
  rw [← flat8_app] at h2
  have hv' : ∃ ao cap, v' = .slice ao (ps.length + m) cap := by
    rcases h2.2 with ⟨rfl, h0'⟩ | ⟨g, cap, cur, rfl, _⟩
    · omega
    · exact ⟨_, _, rfl⟩
  obtain ⟨ao, cap, rfl⟩ := hv'
  rw [e] at h2 h1 ⊢
  exact ⟨ao, cap, w', h1, h2, h3⟩
def zipv : List Rx → (Nat → Value) → List Px
  | [], _ => []
  | x :: l, f => (x, f 0) :: zipv l (fun i => f (i + 1))
theorem zipv_fst : ∀ (l : List Rx) (f : Nat → Value), fsts (zipv l f) = l
  | [], _ => rfl
  | x :: l, f => by
    have := zipv_fst l (fun i => f (i + 1))
    unfold fsts at this ⊢
    rw [zipv, List.map_cons, this]
theorem zipv_len (l : List Rx) (f : Nat → Value) : (zipv l f).length = l.length := by
  have := congrArg List.length (zipv_fst l f)
  simpa [fsts] using this
theorem zipv_mem : ∀ (l : List Rx) (f : Nat → Value) (q : Px), q ∈ zipv l f → ∃ i, ∃ h : i < l.length, q = (l[i], f i)
  | [], _, q, h => by cases h
  | x :: l, f, q, h => by
    rw [zipv, List.mem_cons] at h
    rcases h with rfl | h
    · exact ⟨0, by simp, rfl⟩
    · obtain ⟨i, hi, e⟩ := zipv_mem l _ q h
      exact ⟨i + 1, by simpa using hi, by simpa using e⟩
theorem zipv_at : ∀ (l : List Rx) (f : Nat → Value) (j : Nat) (u : Value), (flat8 (zipv l f))[j]? = some u → ∃ i k, ∃ h : i < l.length, j = i * 8 + k ∧ (l[i].cells (f i))[k]? = some u
  | [], _, j, u, h => by cases h
  | x :: l, f, j, u, h => by
    rw [zipv, flat8] at h
    have e8 := cells_len x (f 0)
    by_cases hj : j < 8
    · rw [List.getElem?_append_left (by simp only [e8]; exact hj)] at h
      exact ⟨0, j, by simp, by omega, by simpa using h⟩
    · rw [List.getElem?_append_right (by simp only [e8]; omega)] at h
      simp only [e8] at h
      obtain ⟨i, k, hi, e, hk⟩ := zipv_at l _ (j - 8) u h
      exact ⟨i + 1, k, by simpa using hi, by omega, by simpa using hk⟩
theorem below_of {w w1 w2 : World} {D : Nat} {v : Value} {n : Nat} {xs : List Value} (b : Below D w w1) (own : w1.ownsRow D 26 8 v n xs) (g : w1.grownBy w2 v.ownBlock) (hD : D ≤ w1.heap.size) : Below D w w2 :=
  ⟨g.os.trans b.os, g.tape.trans b.tape, g.output.trans b.output, Nat.le_trans b.size g.size, fun i hi => (g.block i (by omega) (fun e => by have := (own.lt i e.symm).1; omega)).trans (b.block i hi)⟩
theorem two_at {w : World} {N : Nat} {t1 t2 : Rx} {v1 v2 : Value} (h : w.heap[N]? = some (.cells (t1.cells v1 ++ t2.cells v2) 26 (0, 0))) (j : Nat) (u : Value) (hj : (flat8 [(t1, v1), (t2, v2)])[j]? = some u) : w.cell? ((⟨N, 0, none⟩ : Addr).add j) = some u := by
  have e : (⟨N, 0, none⟩ : Addr).add j = ⟨N, j, none⟩ := by unfold Addr.add; split <;> simp_all
  rw [e]
  refine cell_at h ?_
  rw [← Array.getElem?_toList, Array.toList_append]
  simpa [flat8] using hj
/-- what the last append makes, from whatever stands before -/
theorem rows_end {w W : World} {v : Value} {ps : List Px} {ta tb : Rx} {va vb : Value} (b : Below w.heap.size w W) (own : W.ownsRow w.heap.size 26 8 v ps.length (flat8 ps)) (hp : ∀ p ∈ ps, LiesL (fun _ => True) w p.2 p.1.list)
    (ha : LiesL (fun _ => True) w va ta.list) (hb : LiesL (fun _ => True) w vb tb.list) (few : ps.length ≤ 1000) :
    ∃ ao cap w', (Builtin.append_ #[24, 24] 24 #[v, .slice (some ⟨W.heap.size, 0, none⟩) 2 2]).run Tryd.prog (W.alloc (.cells (ta.cells va ++ tb.cells vb) 26)) = .ok (.slice ao (ps.length + 2) cap) w' ∧ Below w.heap.size w w' ∧ LiesL (fun _ => True) w' (.slice ao (ps.length + 2) cap) (fsts ps ++ [ta, tb]) := by
  have hs := b.size
  obtain ⟨ao, cap, w', h1, h2, h3⟩ := pushs (w := W.alloc (.cells (ta.cells va ++ tb.cells vb) 26)) [(ta, va), (tb, vb)] 24 (own.alloc _) ⟨W.heap.size, 0, none⟩ 2 2 rfl (two_at (heap_alloc_new W _))
    (fun q hq => by
      simp at hq
      rcases hq with rfl | rfl
      · exact lies_cell ha
      · exact lies_cell hb) (by omega) (by omega) (by omega) (by simp; omega)
  have b1 : Below w.heap.size w (W.alloc (.cells (ta.cells va ++ tb.cells vb) 26)) := below_trans b (below_new W _)
  have b2 := below_of b1 (own.alloc _) h3 (by simp; omega)
  refine ⟨ao, cap, w', h1, b2, ?_⟩
  have := own_lies (ok := fun _ => True) h2 (by simp; omega) (fun _ _ => trivial) (fun p hp' => by
    rcases List.mem_append.1 hp' with hp' | hp'
    · exact (hp p hp').stay b2
    · simp at hp'
      rcases hp' with rfl | rfl
      · exact ha.stay b2
      · exact hb.stay b2)
  simpa [fsts] using this
set_option maxRecDepth 100000 in
set_option maxHeartbeats 4000000 in
theorem rows_any (ta tb : Rx) (va vb : Value) (w : World) (ha : LiesL (fun _ => True) w va ta.list) (hb : LiesL (fun _ => True) w vb tb.list) (h2 : ta.kind = 2 → 0 < ta.list.length) (few : ta.list.length ≤ 900) :
    Calls Tryd.prog 20 #[ta.val va, tb.val vb] w fun e w' => Below w.heap.size w w' ∧ ∃ ao cap, e = .returned (.slice ao (rowsR ta ++ [ta, tb]).length cap) ∧ LiesL (fun _ => True) w' (.slice ao (rowsR ta ++ [ta, tb]).length cap) (rowsR ta ++ [ta, tb]) := by
  have ha0 := ha
  obtain ⟨pb, cb, hvb⟩ := hb.value
  subst hvb
  have e1 : ∀ (t : Rx) (v : Value), (t.cells v).size = 8 := fun t v => by cases t; rfl
  have b3 : ∀ (o1 o2 o3 : Obj), Below w.heap.size w (((w.alloc o1).alloc o2).alloc o3) := fun o1 o2 o3 => below_trans (below_trans (below_new w _) (below_new _ _)) (below_new _ _)
  have r3 : ∀ (o1 o2 o3 : Obj), (((w.alloc o1).alloc o2).alloc o3).heap[w.heap.size]? = some o1 ∧ (((w.alloc o1).alloc o2).alloc o3).heap[w.heap.size + 1]? = some o2 := fun o1 o2 o3 => by
    have h1 := heap_alloc_new w o1
    have h2 := heap_alloc_new (w.alloc o1) o2
    have s1 : (w.alloc o1).heap.size = w.heap.size + 1 := by simp
    rw [s1] at h2
    refine ⟨?_, ?_⟩
    · rw [(below_new _ o3).block _ (by simp; omega), (below_new _ o2).block _ (by simp)]; exact h1
    · rw [(below_new _ o3).block _ (by simp)]; exact h2
  cases ha with
  | mk pa ca ls sl few2 cell inner =>
  have own1 : (((w.alloc (.cells (ta.cells (.slice pa ta.list.length ca)) 26)).alloc (.cells (tb.cells (.slice pb tb.list.length cb)) 26)).alloc (.cells (ta.cells (.slice pa ta.list.length ca)) 26)).ownsRow w.heap.size 26 8 (.slice (some ⟨w.heap.size + 1 + 1, 0, none⟩) 1 1) 1 (flat8 [(ta, .slice pa ta.list.length ca)]) := by
    have := World.ownsRow_lit (base := w.heap.size) (size := 8) (e := 26) ((w.alloc (.cells (ta.cells (.slice pa ta.list.length ca)) 26)).alloc (.cells (tb.cells (.slice pb tb.list.length cb)) 26)) (ta.cells (.slice pa ta.list.length ca)) 1 (by simp; omega) (by decide) (by rw [e1])
    simpa [flat8] using this
  have own0 : ((((w.alloc (.cells (ta.cells (.slice pa ta.list.length ca)) 26)).alloc (.cells (tb.cells (.slice pb tb.list.length cb)) 26)).alloc (.cells (ta.cells (.slice pa ta.list.length ca)) 26)).alloc (.cells #[] 26)).ownsRow w.heap.size 26 8 (.slice (some ⟨w.heap.size + 1 + 1 + 1, 0, none⟩) 0 0) 0 (flat8 []) := by
    have := World.ownsRow_lit (base := w.heap.size) (size := 8) (e := 26) (((w.alloc (.cells (ta.cells (.slice pa ta.list.length ca)) 26)).alloc (.cells (tb.cells (.slice pb tb.list.length cb)) 26)).alloc (.cells (ta.cells (.slice pa ta.list.length ca)) 26)) #[] 0 (by simp; omega) (by decide) rfl
    simpa [flat8] using this
  have hq : ∀ (ea : Addr), pa = some ea → ∀ j u, (flat8 (zipv ta.list sl))[j]? = some u → w.cell? (ea.add j) = some u := fun ea he j u hj => by
    obtain ⟨i, k, hi, ej, hk⟩ := zipv_at _ _ _ _ hj
    obtain ⟨a, he', _, _, hc⟩ := cell i hi
    rw [he] at he'
    cases he'
    rw [ej]; exact hc k u hk
  have hlt : ∀ (ea : Addr), pa = some ea → 0 < ta.list.length → ea.block < w.heap.size := fun ea he h0 => by
    obtain ⟨a, he', _, h, _⟩ := cell 0 h0
    rw [he] at he'; cases he'; exact h
  have hsome : 0 < ta.list.length → ∃ ea, pa = some ea := fun h0 => by
    obtain ⟨a, he', _⟩ := cell 0 h0
    exact ⟨a, he'⟩
  have hz : ∀ p ∈ zipv ta.list sl, LiesL (fun _ => True) w p.2 p.1.list := fun p hp => by
    obtain ⟨i, hi, e⟩ := zipv_mem _ _ _ hp
    rw [e]; exact inner i hi
  have hz1 : ∀ q ∈ zipv ta.list sl, q.2.oneCell' = true := fun q hq => lies_cell (hz q hq)
  by_cases hk : ta.kind = 2
  · have h0 := h2 hk
    obtain ⟨ea, rfl⟩ := hsome h0
    have b4 : Below w.heap.size w ((((w.alloc (.cells (ta.cells (.slice (some ea) ta.list.length ca)) 26)).alloc (.cells (tb.cells (.slice pb tb.list.length cb)) 26)).alloc (.cells (ta.cells (.slice (some ea) ta.list.length ca)) 26)).alloc (.cells #[] 26)) := below_trans (b3 _ _ _) (below_new _ _)
    obtain ⟨ao, cap, w3, hr3, own3, g3⟩ := pushs (ps := []) (zipv ta.list sl) 24 own0 ea ta.list.length ca (zipv_len _ _) (fun j u hj => by
      have := hq ea rfl j u hj
      rw [← this]
      exact World.cell?_of_block (by rw [add_block]; exact b4.block _ (hlt ea rfl h0))) hz1 (by simp) (by omega) h0 (by simp; omega)
    have b5 := below_of b4 own0 g3 (by simp; omega)
    have q3 : w3.heap[w.heap.size]? = some (.cells (ta.cells (.slice (some ea) ta.list.length ca)) 26 (0, 0)) ∧ w3.heap[w.heap.size + 1]? = some (.cells (tb.cells (.slice pb tb.list.length cb)) 26 (0, 0)) := by
      obtain ⟨x, y⟩ := r3 (.cells (ta.cells (.slice (some ea) ta.list.length ca)) 26) (.cells (tb.cells (.slice pb tb.list.length cb)) 26) (.cells (ta.cells (.slice (some ea) ta.list.length ca)) 26)
      refine ⟨?_, ?_⟩
      · rw [g3.block _ (by simp; omega) (by simp [Value.ownBlock]; omega), (below_new _ _).block _ (by simp; omega)]; exact x
      · rw [g3.block _ (by simp) (by simp [Value.ownBlock]), (below_new _ _).block _ (by simp)]; exact y
    rw [List.nil_append] at own3
    rw [List.length_nil, Nat.zero_add] at hr3 own3
    obtain ⟨ao2, cap2, w4, hr4, b6, l4⟩ := rows_end b5 own3 hz ha0 hb (by rw [zipv_len]; omega)
    rw [zipv_fst, zipv_len] at l4
    rw [zipv_len] at hr4
    have er : rowsR ta = ta.list := by unfold rowsR; rw [if_pos hk]
    have el : (rowsR ta ++ [ta, tb]).length = ta.list.length + 2 := by rw [er]; simp
    rw [el, er]
    clear hq hlt hsome hz hz1 own0 own1 own3 g3 b3 r3 b4 b5 e1 er el
    obtain ⟨ka, mna, mxa, a0, a1, a2, a3, la⟩ := ta
    obtain ⟨kb, mnb, mxb, b0, b1, b2, b3, lb⟩ := tb
    have hk' : ka = 2 := hk
    subst hk'
    clear hk
    unfold Rx.val
    dsimp only [Rx.cells, cellsX, Rx.list] at *
    have hr4' : (Builtin.append_ #[24, 24] 24 #[.slice ao la.length cap, .slice (some ⟨w3.heap.size, 0, none⟩) 2 2]).run Tryd.prog (w3.alloc (.cells #[.int .i64 2, .int .i64 mna, .int .i64 mxa, .int .u64 a0, .int .u64 a1, .int .u64 a2, .int .u64 a3, .slice (some ea) la.length ca, .int .i64 kb, .int .i64 mnb, .int .i64 mxb, .int .u64 b0, .int .u64 b1, .int .u64 b2, .int .u64 b3, .slice pb lb.length cb] 26)) = .ok (.slice ao2 (la.length + 2) cap2) w4 := hr4
    obtain ⟨c0, c1, c2, c3, c4, c5, c6, c7⟩ := cells8 q3.1
    obtain ⟨d0, d1, d2, d3, d4, d5, d6, d7⟩ := cells8 q3.2
    have fin := Lib.hid (And.intro b6 l4)
    clear hr4 q3 ha0 hb cell inner b6 l4
    go_enter Tryd.func20, Tryd.ntmps20
    go_wp2_with (first
      | (at_builtin; refine list_append_run rfl _ _ 24 rfl _ _ _ w3 rfl rfl hr3 ?_)
      | (at_builtin; refine list_append_run rfl _ _ 24 rfl _ _ _ w4 rfl rfl hr4' ?_))
    go_ret
    exact ⟨fin.out.1, _, _, rfl, fin.out.2⟩
  · obtain ⟨ao2, cap2, w4, hr4, b6, l4⟩ := rows_end (b3 _ _ _) own1 (fun p hp => by simp at hp; subst hp; exact ha0) ha0 hb (by simp)
    have er : rowsR ta = [ta] := by unfold rowsR; rw [if_neg hk]
    rw [er]
    have q3 := r3 (.cells (ta.cells (.slice pa ta.list.length ca)) 26) (.cells (tb.cells (.slice pb tb.list.length cb)) 26) (.cells (ta.cells (.slice pa ta.list.length ca)) 26)
    clear hq hlt hsome hz hz1 own0 own1 b3 r3 e1 er
    obtain ⟨ka, mna, mxa, a0, a1, a2, a3, la⟩ := ta
    obtain ⟨kb, mnb, mxb, b0, b1, b2, b3, lb⟩ := tb
    have hk2 : ¬ ka = 2 := hk
    have hkb : (ka == 2) = false := by simpa using hk2
    clear hk h2
    unfold Rx.val
    dsimp only [Rx.cells, cellsX, Rx.list] at *
    have hr4' : (Builtin.append_ #[24, 24] 24 #[.slice (some ⟨w.heap.size + 1 + 1, 0, none⟩) 1 1, .slice (some ⟨w.heap.size + 1 + 1 + 1, 0, none⟩) 2 2]).run Tryd.prog ((((w.alloc (.cells #[.int .i64 ka, .int .i64 mna, .int .i64 mxa, .int .u64 a0, .int .u64 a1, .int .u64 a2, .int .u64 a3, .slice pa la.length ca] 26)).alloc (.cells #[.int .i64 kb, .int .i64 mnb, .int .i64 mxb, .int .u64 b0, .int .u64 b1, .int .u64 b2, .int .u64 b3, .slice pb lb.length cb] 26)).alloc (.cells #[.int .i64 ka, .int .i64 mna, .int .i64 mxa, .int .u64 a0, .int .u64 a1, .int .u64 a2, .int .u64 a3, .slice pa la.length ca] 26)).alloc (.cells #[.int .i64 ka, .int .i64 mna, .int .i64 mxa, .int .u64 a0, .int .u64 a1, .int .u64 a2, .int .u64 a3, .slice pa la.length ca, .int .i64 kb, .int .i64 mnb, .int .i64 mxb, .int .u64 b0, .int .u64 b1, .int .u64 b2, .int .u64 b3, .slice pb lb.length cb] 26)) = .ok (.slice ao2 3 cap2) w4 := by
      have := hr4
      simp only [World.size_alloc] at this
      exact this
    have fin := Lib.hid (And.intro b6 l4)
    clear hr4 q3 ha0 hb cell inner b6 l4
    go_enter Tryd.func20, Tryd.ntmps20
    go_wp2_with (first
      | (at_builtin; refine list_append_run rfl _ _ 24 rfl _ _ _ w4 rfl rfl hr4' ?_))
    go_ret
    exact ⟨fin.out.1, _, _, rfl, fin.out.2⟩
end Go.Proofs.YthejkelnjimogaaDoor
