/- The document's space: a copy of it. No conditions. -/
import Derived.Test.YtedhefidfepclaaRqd
namespace Go.Proofs.Ytedhefidfepclaa
open Go.RowKit Go.Maps
set_option linter.unusedVariables false
set_option linter.unusedSimpArgs false

theorem block_alloc_lt {w : World} {b : Nat} {o : Obj} (h : b < w.heap.size) : (w.alloc o).heap[b]? = w.heap[b]? := Below.heap_alloc w o b h
/-- what a copy leaves: the tables' rows are shared -/
def QCp (w : World) (G : Nat → Prop) (B : Bts) (ns : List Nat) (ps : List Pg) (e : Ending) (w' : World) : Prop := ∃ q' : QAt, e = .returned (.pointer (some ⟨q'.y, 0, none⟩)) ∧ IsQ w' G q' B ns ps ∧ Below w.heap.size w w' ∧ w.heap.size ≤ q'.y ∧ w.heap.size ≤ q'.m ∧ w.heap.size ≤ q'.g ∧ w.heap.size ≤ q'.gt
theorem qcp_end {w w' : World} {G : Nat → Prop} {q : QAt} {B : Bts} {ns : List Nat} {ps : List Pg} (h : IsQ w G q B ns ps) (hb : Below w.heap.size w w') {p' g' cap' r c' : Nat} (hm : IsR w' p' g' cap' ps.length B) (hp : w.heap.size ≤ p') (hg : w.heap.size ≤ g')
    (hr : ∃ cur : Array Value, w'.heap[r]? = some (.cells cur 50 (0, 0)) ∧ ∀ k, k < ns.length → ∃ v, cur[k]? = some v ∧ TabV G w v (tabP ns ps k)) (hbr : w.heap.size ≤ r) :
    QCp w G B ns ps (.returned (.pointer (some ⟨w'.heap.size, 0, none⟩))) (w'.alloc (.cells #[.pointer (some ⟨p', 0, none⟩), .slice (some ⟨r, 0, none⟩) ns.length c'] 81)) := by
  obtain ⟨cur, hr1, hr2⟩ := hr
  have hb2 : Below w'.heap.size w' (w'.alloc (.cells #[.pointer (some ⟨p', 0, none⟩), .slice (some ⟨r, 0, none⟩) ns.length c'] 81)) := (Below.refl _ w').alloc (Nat.le_refl _) _
  have hb3 := hb.trans (hb2.mono hb.size)
  refine ⟨⟨w'.heap.size, p', g', cap', r, c'⟩, rfl, ⟨block_new _ _, hm.below hb2, ⟨cur, block_alloc hr1 _, fun k hk => ?_⟩, h.sum, h.few, h.each⟩, hb3, hb.size, hp, hg, hbr⟩
  obtain ⟨v, v1, v2⟩ := hr2 k hk
  exact ⟨v, v1, v2.below hb3⟩
/-- the row of tables, copied -/
theorem tcopy_run {w W : World} {G : Nat → Prop} {q : QAt} {B : Bts} {ns : List Nat} {ps : List Pg} (h : IsQ w G q B ns ps) (hb : Below w.heap.size w W) {b : Nat} (hn : W.heap[b]? = some (.cells #[] 50 (0, 0))) (hbb : w.heap.size ≤ b) (hl : 1 ≤ ns.length) :
    ∃ r c' W', (Builtin.append_ #[79, 79] 79 #[.slice (some ⟨b, 0, none⟩) 0 0, .slice (some ⟨q.gt, 0, none⟩) ns.length q.ct]).run Try.prog W = .ok (.slice (some ⟨r, 0, none⟩) ns.length c') W' ∧
      (∃ cur : Array Value, W'.heap[r]? = some (.cells cur 50 (0, 0)) ∧ ∀ k, k < ns.length → ∃ v, cur[k]? = some v ∧ TabV G w v (tabP ns ps k)) ∧ W.grownBy W' (some b) ∧ w.heap.size ≤ r ∧ Below w.heap.size w W' := by
  obtain ⟨i0, hi, hz0, hz1, hz2⟩ := info_parts Try.info50
  obtain ⟨cur, ht, hc⟩ := h.tab
  have hch : ∃ f : Nat → Value, ∀ k, k < ns.length → cur[k]? = some (f k) ∧ TabV G w (f k) (tabP ns ps k) := ⟨fun k => (cur[k]?).getD (.slice none 0 0), fun k hk => by
    obtain ⟨v, v1, v2⟩ := hc k hk
    have e : (cur[k]?).getD (.slice none 0 0) = v := by rw [v1]; rfl
    show cur[k]? = some ((cur[k]?).getD (.slice none 0 0)) ∧ TabV G w ((cur[k]?).getD (.slice none 0 0)) (tabP ns ps k)
    rw [e]; exact ⟨v1, v2⟩⟩
  obtain ⟨f, hf⟩ := hch
  have h8 := h.few
  obtain ⟨r, c', W', hrun, ⟨cur', q1, q2, q3, q4⟩, hgr, hbr⟩ := app_fresh (W := W) (base := w.heap.size) (b := b) 79 50 i0 (.slice none 0 0) 24 Try.underlying79 hi hz0 hz1 hz2 rfl hn hbb q.gt ns.length q.ct ((List.range ns.length).map f) (by simp) (by
    intro j u hu
    have hj : j < ns.length := by have := (List.getElem?_eq_some_iff.1 hu).1; simpa using this
    rw [List.getElem?_map, List.getElem?_range hj] at hu
    rw [cell_of_row _ _ _ _ _ _ ((hb.block _ (block_lt ht)).trans ht), (hf j hj).1]; exact hu) (by
    intro u hu
    obtain ⟨x, hx, rfl⟩ := List.mem_map.1 hu
    obtain ⟨a, cp, e⟩ := tabV_slice (hf x (List.mem_range.1 hx)).2
    rw [e]; rfl) hl (by omega) (by unfold maxLen; omega)
  exact ⟨r, c', W', hrun, ⟨cur', q1, fun k hk => ⟨f k, q4 k _ (by rw [List.getElem?_map, List.getElem?_range hk]; rfl), (hf k hk).2⟩⟩, hgr, hbr, hb.grown hgr hb.size (fun k e => by have := Option.some.inj e; omega)⟩
set_option maxRecDepth 20000 in
set_option maxHeartbeats 8000000 in
theorem qcopy_any (w : World) (G : Nat → Prop) (q : QAt) (B : Bts) (ns : List Nat) (ps : List Pg) (h : IsQ w G q B ns ps) (hl : 1 ≤ ns.length) : Calls Try.prog 18 #[.pointer (some ⟨q.y, 0, none⟩)] w (QCp w G B ns ps) := by
  obtain ⟨c0, c1⟩ := h.cells
  obtain ⟨S, hS⟩ : ∃ S : World → Prop, S = fun W => W.cell? ⟨q.y, 0, none⟩ = some (.pointer (some ⟨q.m, 0, none⟩)) ∧ W.cell? ⟨q.y, 1, none⟩ = some (.slice (some ⟨q.gt, 0, none⟩) ns.length q.ct) := ⟨_, rfl⟩
  have PC : ∀ W, Below w.heap.size w W → W.cell? ⟨q.y, 0, none⟩ = some (.pointer (some ⟨q.m, 0, none⟩)) ∧ W.cell? ⟨q.y, 1, none⟩ = some (.slice (some ⟨q.gt, 0, none⟩) ns.length q.ct) := fun W hW => ⟨cell_below c0 hW, cell_below c1 hW⟩
  have bd : Below w.heap.size w w.drew := ⟨rfl, rfl, rfl, Nat.le_refl _, fun _ _ => rfl⟩
  have b0 : Below w.heap.size w (w.alloc (.cells #[] 50)) := (Below.refl _ w).alloc (Nat.le_refl _) _
  have bA : Below w.heap.size w (w.alloc (.cells #[] 50)).drew := ⟨b0.os, b0.tape, b0.output, b0.size, b0.block⟩
  have nA : (w.alloc (.cells #[] 50)).drew.heap[w.heap.size]? = some (.cells #[] 50 (0, 0)) := block_new w _
  obtain ⟨r1, k1, W1, run1, row1, gr1, br1, bW1⟩ := tcopy_run h bA nA (Nat.le_refl _) hl
  have fin : ∀ (W' : World) (p' g' cap' r c' : Nat), Below w.heap.size w W' → IsR W' p' g' cap' ps.length B → w.heap.size ≤ p' → w.heap.size ≤ g' → (∃ cur : Array Value, W'.heap[r]? = some (.cells cur 50 (0, 0)) ∧ ∀ k, k < ns.length → ∃ v, cur[k]? = some v ∧ TabV G w v (tabP ns ps k)) → w.heap.size ≤ r →
      Hid (QCp w G B ns ps (.returned (.pointer (some ⟨W'.heap.size, 0, none⟩))) (W'.alloc (.cells #[.pointer (some ⟨p', 0, none⟩), .slice (some ⟨r, 0, none⟩) ns.length c'] 81))) := fun W' p' g' cap' r c' x1 x2 x3 x4 x5 x6 => Lib.hid (qcp_end h x1 x2 x3 x4 x5 x6)
  -- the call first
  have KC : Hid (Calls Try.prog 47 #[.pointer (some ⟨q.m, 0, none⟩)] w.drew fun e u => ∃ p', e = .returned (.pointer (some ⟨p', 0, none⟩)) ∧ (u.cell? ⟨q.y, 0, none⟩ = some (.pointer (some ⟨q.m, 0, none⟩)) ∧ u.cell? ⟨q.y, 1, none⟩ = some (.slice (some ⟨q.gt, 0, none⟩) ns.length q.ct)) ∧
      (∀ o, (u.alloc o).cell? ⟨q.y, 0, none⟩ = some (.pointer (some ⟨q.m, 0, none⟩)) ∧ (u.alloc o).cell? ⟨q.y, 1, none⟩ = some (.slice (some ⟨q.gt, 0, none⟩) ns.length q.ct)) ∧
      ∃ r c' W', (Builtin.append_ #[79, 79] 79 #[.slice (some ⟨u.heap.size, 0, none⟩) 0 0, .slice (some ⟨q.gt, 0, none⟩) ns.length q.ct]).run Try.prog (u.alloc (.cells #[] 50)) = .ok (.slice (some ⟨r, 0, none⟩) ns.length c') W' ∧ (W'.cell? ⟨q.y, 0, none⟩ = some (.pointer (some ⟨q.m, 0, none⟩)) ∧ W'.cell? ⟨q.y, 1, none⟩ = some (.slice (some ⟨q.gt, 0, none⟩) ns.length q.ct)) ∧
        (∀ o, (W'.alloc o).cell? ⟨q.y, 0, none⟩ = some (.pointer (some ⟨q.m, 0, none⟩)) ∧ (W'.alloc o).cell? ⟨q.y, 1, none⟩ = some (.slice (some ⟨q.gt, 0, none⟩) ns.length q.ct)) ∧
        Hid (QCp w G B ns ps (.returned (.pointer (some ⟨W'.heap.size, 0, none⟩))) (W'.alloc (.cells #[.pointer (some ⟨p', 0, none⟩), .slice (some ⟨r, 0, none⟩) ns.length c'] 81)))) := Lib.hid (by
    refine (mcopy_any w.drew q.m q.g q.cap ps.length B (h.below bd).mem).mono fun e u ⟨p', g', cap', x1, x2, x3, x4, x5⟩ => ?_
    have bu : Below w.heap.size w u := bd.trans x3
    have bu2 : Below w.heap.size w (u.alloc (.cells #[] 50)) := bu.alloc bu.size _
    obtain ⟨r, c', W', y1, y2, y3, y4, y5⟩ := tcopy_run h bu2 (block_new u _) bu.size hl
    have m' : IsR W' p' g' cap' ps.length B := x2.of_heap ((y3.block p' (by rw [World.size_alloc]; have := x2.lt.1; omega) (fun e => by have := Option.some.inj e; have := x2.lt.1; omega)).trans (block_alloc_lt x2.lt.1)) ((y3.block g' (by rw [World.size_alloc]; have := x2.lt.2; omega) (fun e => by have := Option.some.inj e; have := x2.lt.2; omega)).trans (block_alloc_lt x2.lt.2))
    exact ⟨p', x1, PC u bu, fun o => PC _ (bu.alloc bu.size o), r, c', W', y1, PC W' y5, fun o => PC _ (y5.alloc y5.size o), fin W' p' g' cap' r c' y5 m' x4 x5 y2 y4⟩)
  -- the row first
  have KA : Hid (Calls Try.prog 47 #[.pointer (some ⟨q.m, 0, none⟩)] (w.alloc (.cells #[] 50)).drew fun e u => ∃ p', e = .returned (.pointer (some ⟨p', 0, none⟩)) ∧ (u.cell? ⟨q.y, 0, none⟩ = some (.pointer (some ⟨q.m, 0, none⟩)) ∧ u.cell? ⟨q.y, 1, none⟩ = some (.slice (some ⟨q.gt, 0, none⟩) ns.length q.ct)) ∧
      ∃ r c' W', (Builtin.append_ #[79, 79] 79 #[.slice (some ⟨w.heap.size, 0, none⟩) 0 0, .slice (some ⟨q.gt, 0, none⟩) ns.length q.ct]).run Try.prog u = .ok (.slice (some ⟨r, 0, none⟩) ns.length c') W' ∧ (W'.cell? ⟨q.y, 0, none⟩ = some (.pointer (some ⟨q.m, 0, none⟩)) ∧ W'.cell? ⟨q.y, 1, none⟩ = some (.slice (some ⟨q.gt, 0, none⟩) ns.length q.ct)) ∧
        (∀ o, (W'.alloc o).cell? ⟨q.y, 0, none⟩ = some (.pointer (some ⟨q.m, 0, none⟩)) ∧ (W'.alloc o).cell? ⟨q.y, 1, none⟩ = some (.slice (some ⟨q.gt, 0, none⟩) ns.length q.ct)) ∧
        Hid (QCp w G B ns ps (.returned (.pointer (some ⟨W'.heap.size, 0, none⟩))) (W'.alloc (.cells #[.pointer (some ⟨p', 0, none⟩), .slice (some ⟨r, 0, none⟩) ns.length c'] 81)))) := Lib.hid (by
    refine (mcopy_any _ q.m q.g q.cap ps.length B (h.below bA).mem).mono fun e u ⟨p', g', cap', x1, x2, x3, x4, x5⟩ => ?_
    have sA : (w.alloc (.cells #[] 50)).drew.heap.size = w.heap.size + 1 := World.size_alloc _ _
    have bu : Below w.heap.size w u := bA.trans (x3.mono bA.size)
    obtain ⟨r, c', W', y1, y2, y3, y4, y5⟩ := tcopy_run h bu ((x3.block _ (by rw [sA]; omega)).trans nA) (Nat.le_refl _) hl
    have m' : IsR W' p' g' cap' ps.length B := x2.of_heap (y3.block p' x2.lt.1 (fun e => by have := Option.some.inj e; omega)) (y3.block g' x2.lt.2 (fun e => by have := Option.some.inj e; omega))
    exact ⟨p', x1, PC u bu, r, c', W', y1, PC W' y5, fun o => PC _ (y5.alloc y5.size o), fin W' p' g' cap' r c' y5 m' (by omega) (by omega) y2 y4⟩)
  -- the row and its cells first
  have KB : Hid (Calls Try.prog 47 #[.pointer (some ⟨q.m, 0, none⟩)] W1 fun e u => ∃ p', e = .returned (.pointer (some ⟨p', 0, none⟩)) ∧ (u.cell? ⟨q.y, 0, none⟩ = some (.pointer (some ⟨q.m, 0, none⟩)) ∧ u.cell? ⟨q.y, 1, none⟩ = some (.slice (some ⟨q.gt, 0, none⟩) ns.length q.ct)) ∧
        (∀ o, (u.alloc o).cell? ⟨q.y, 0, none⟩ = some (.pointer (some ⟨q.m, 0, none⟩)) ∧ (u.alloc o).cell? ⟨q.y, 1, none⟩ = some (.slice (some ⟨q.gt, 0, none⟩) ns.length q.ct)) ∧
        Hid (QCp w G B ns ps (.returned (.pointer (some ⟨u.heap.size, 0, none⟩))) (u.alloc (.cells #[.pointer (some ⟨p', 0, none⟩), .slice (some ⟨r1, 0, none⟩) ns.length k1] 81)))) := Lib.hid (by
    refine (mcopy_any W1 q.m q.g q.cap ps.length B (h.below bW1).mem).mono fun e u ⟨p', g', cap', x1, x2, x3, x4, x5⟩ => ?_
    have bu : Below w.heap.size w u := bW1.trans (x3.mono bW1.size)
    obtain ⟨cur, z1, z2⟩ := row1
    have := bW1.size
    exact ⟨p', x1, PC u bu, fun o => PC _ (bu.alloc bu.size o), fin u p' g' cap' r1 k1 bu x2 (by omega) (by omega) ⟨cur, (x3.block _ (block_lt z1)).trans z1, z2⟩ br1⟩)
  have hS0 := PC _ bd
  have hS1 := PC _ b0
  have hS2 := PC _ bA
  have hS3 := PC _ bW1
  clear PC h bd b0 bA nA row1 gr1 br1 bW1 fin hS hl
  generalize ns.length = n at *
  go_enter Try.func18, Try.ntmps18
  go_wp2
  go_region_held3 (fun W => W.cell? ⟨q.y, 0, none⟩ = some (.pointer (some ⟨q.m, 0, none⟩)) ∧ W.cell? ⟨q.y, 1, none⟩ = some (.slice (some ⟨q.gt, 0, none⟩) n q.ct)) (with_reducible first | exact hS0 | exact hS1 | exact hS2 | exact hS3 | exact tS1 | exact tS2 | exact tSa _ | exact tSb _) (first
    | (go_at_call 47; with_reducible refine KC.out.mono ?_; rintro e u ⟨p', rfl, tS1, tSa, r, c', W', hrun, tS2, tSb, HE⟩)
    | (go_at_call 47; with_reducible refine KA.out.mono ?_; rintro e u ⟨p', rfl, tS1, r, c', W', hrun, tS2, tSb, HE⟩)
    | (go_at_call 47; with_reducible refine KB.out.mono ?_; rintro e u ⟨p', rfl, tS1, tSa, HE⟩)
    | ((with_reducible refine step_append_run ?_ (.tmp 8) (.tmp 12) 79 ?_ _ _ _ W' ?_ ?_ hrun ?_); rfl; rfl; rfl; rfl)
    | ((with_reducible refine step_append_run ?_ (.tmp 8) (.tmp 12) 79 ?_ _ _ _ W1 ?_ ?_ run1 ?_); rfl; rfl; rfl; rfl))
  all_goals go_wp2
  all_goals go_ret
  all_goals exact HE.out
end Go.Proofs.Ytedhefidfepclaa
