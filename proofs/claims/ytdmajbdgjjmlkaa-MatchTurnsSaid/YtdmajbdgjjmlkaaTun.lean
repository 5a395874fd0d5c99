/- An expression turned end for end: what the law's helper returns; nothing that was there turns. Conditions: the expression lies in memory. -/
import Derived.Test.YtdmajbdgjjmlkaaTnp
import Derived.Test.YtdmajbdgjjmlkaaStw
import Derived.Deep.RegionLaw
namespace Go.Proofs.Ytdmajbdgjjmlkaa
open Go.RowKit
set_option linter.unusedVariables false
set_option linter.unusedSimpArgs false

/-- a row of expressions of its own, from block D on -/
structure Rw (D : Nat) (w : World) (v : Value) (ps : List Px) : Prop where
  own : w.ownsRow D 26 8 v ps.length (flat8 ps)
  inn : ∀ p ∈ ps, LiesL (fun g => D ≤ g ∧ v.ownBlock ≠ some g) w p.2 p.1.list
theorem Rw.below {D : Nat} {w w' : World} {v : Value} {ps : List Px} (h : Rw D w v ps) (hb : Below w.heap.size w w') : Rw D w' v ps :=
  ⟨h.own.kept (below_grown hb (r := none)) (by cases v.ownBlock <;> simp), fun p hp => (h.inn p hp).stay hb⟩
theorem Rw.store {D Z o : Nat} {w : World} {v u : Value} {ps : List Px} (h : Rw D w v ps) (hZ : Z < D) : Rw D (w.setCell ⟨Z, o, none⟩ u) v ps :=
  ⟨h.own.kept (row := some Z) ⟨rfl, rfl, rfl, by simp, fun j hj hn2 => Below.heap_setCell _ _ _ _ (fun e => hn2 (by rw [e]))⟩ (.inr (fun e => by have := (h.own.lt Z e).1; omega)),
   fun p hp => (h.inn p hp).kept (by simp) (fun g hg _ => heap_setCell_other _ _ _ _ (by have := hg.1; show g ≠ Z; omega)) (fun _ q _ => q)⟩
theorem Rw.push {D : Nat} {w : World} {v : Value} {ps : List Px} (h : Rw D w v ps) (x : Rx) (vx : Value) (hx : LiesL (fun g => D ≤ g ∧ v.ownBlock ≠ some g) w vx x.list) (few : ps.length ≤ 1000) (hD : D ≤ w.heap.size) :
    ∃ bo cap w', (Builtin.append_ #[24, 24] 24 #[v, .slice (some ⟨w.heap.size, 0, none⟩) 1 1]).run Try.prog (w.alloc (.cells (x.cells vx) 26)) = .ok (.slice bo (ps.length + 1) cap) w' ∧ Rw D w' (.slice bo (ps.length + 1) cap) (ps ++ [(x, vx)]) ∧ (w.alloc (.cells (x.cells vx) 26)).grownBy w' v.ownBlock ∧ ∀ k, v.ownBlock = some k → D ≤ k := by
  have hb := below_new w (.cells (x.cells vx) 26)
  have h2 := h.below hb
  have hx2 := hx.stay hb
  obtain ⟨bo, cap, w', hr, own, g, ob⟩ := push8 x vx 24 h2.own (heap_alloc_new w (.cells (x.cells vx) 26)) (lies_cell hx) few (Nat.le_trans hD hb.size)
  have e : (ps ++ [(x, vx)]).length = ps.length + 1 := by simp
  rw [e] at hr own ob
  generalize w.alloc (.cells (x.cells vx) 26) = w2 at *
  have keep : ∀ {u : Value} {ls : List Rx}, LiesL (fun g => D ≤ g ∧ v.ownBlock ≠ some g) w2 u ls → LiesL (fun g => D ≤ g ∧ (Value.slice bo (ps.length + 1) cap).ownBlock ≠ some g) w' u ls := fun hl =>
    hl.kept g.size (fun i hi hlt => g.block i hlt (fun e => hi.2 e.symm)) (fun i hi hlt => ⟨hi.1, fun e => by
      rcases ob with ob | ob
      · rw [ob] at e; exact hi.2 e
      · rw [ob] at e; cases e; omega⟩)
  refine ⟨bo, cap, w', hr, ⟨by rw [e]; exact own, fun p hp => ?_⟩, g, fun k hk => (h2.own.lt k hk).1⟩
  rcases List.mem_append.1 hp with hp | hp
  · exact keep (h2.inn p hp)
  · simp at hp; subst hp; exact keep hx2
/-- the elements as they are turned -/
def turned (k : Int) (l : List Rx) : List Rx := if k = 1 then (l.map turnR).reverse else l.map turnR
theorem turned_len (k : Int) (l : List Rx) : (turned k l).length = l.length := by unfold turned; split <;> simp
theorem turned_at (k : Int) (l : List Rx) (j : Nat) (hj : j < l.length) : (turned k l)[j]? = some (turnR (l[if k = 1 then l.length - 1 - j else j]'(by split <;> omega))) := by
  unfold turned
  by_cases h : k = 1
  · rw [if_pos h, List.getElem?_reverse (by simpa using hj), List.length_map, List.getElem?_map, List.getElem?_eq_getElem (by omega)]
    simp [h]
  · rw [if_neg h, List.getElem?_map, List.getElem?_eq_getElem hj]
    simp [h]
def TurnC (t : Rx) : Prop := ∀ (ok : Nat → Prop) (w : World) (v : Value), LiesL ok w v t.list → Calls Try.prog 27 #[t.val v] w fun e w' => (∃ bo cap, e = .returned ((turnR t).val (.slice bo t.list.length cap)) ∧ LiesL (w.heap.size ≤ ·) w' (.slice bo t.list.length cap) (turnR t).list) ∧ Below w.heap.size w w'
set_option maxRecDepth 100000 in
set_option maxHeartbeats 8000000 in
theorem turned_all : ∀ t : Rx, sizeR t ≠ 0 → sizeR t < 257 → TurnC t := by
  intro t
  refine Rx.ind (P := fun t => sizeR t ≠ 0 → sizeR t < 257 → TurnC t) ?_ t
  intro k mn mx s0 s1 s2 s3 l ih hz hz57 ok w sv hl
  obtain ⟨hf, hx0⟩ := sizeR_form hz
  have hsum := sizeR_sum hf hx0
  rw [hsum] at hz57
  have hlt57 : 1 + sumR l * timesF mn mx < 257 := by omega
  have htp := timesF_pos mn mx
  have hx1 : ∀ x ∈ l, sizeR x < 257 := sumR_lt hlt57 htp
  have HX : ∀ x ∈ l, TurnC x := fun x hm => ih x hm (hx0 x hm) (hx1 x hm)
  have hfew : l.length ≤ 257 := by
    have h1 : ∀ l : List Rx, (∀ x ∈ l, sizeR x ≠ 0) → l.length ≤ sumR l := by
      intro l
      induction l with
      | nil => intro _; exact Nat.le_refl _
      | cons x l ih =>
        intro h
        have h1 := h x (by simp)
        have h2 := ih (fun y hy => h y (by simp [hy]))
        rw [List.length_cons, sumR]; omega
    have := h1 l hx0
    have := Nat.mul_le_mul_left (sumR l) htp
    omega
  have hli : (l.length : Int) ≤ 257 := by omega
  dsimp only [Rx.list] at hl ⊢
  obtain ⟨ao, cap, rfl⟩ := hl.value
  rw [turn_list]
  have ht0 : (if k = 1 then (l.map turnR).reverse else l.map turnR) = turned k l := rfl
  rw [ht0]
  unfold Rx.val
  dsimp only [Rx.cells, cellsX, Rx.list]
  obtain ⟨X, hX⟩ : ∃ X, X = w.heap.size := ⟨_, rfl⟩
  have hzz : w.heap.size = X := hX.symm
  -- the world with the three boxes
  obtain ⟨W0, hW0⟩ : ∃ W0, W0 = ((w.alloc (.cells #[.int .i64 k, .int .i64 mn, .int .i64 mx, .int .u64 s0, .int .u64 s1, .int .u64 s2, .int .u64 s3, .slice ao l.length cap] 26)).alloc (.cells #[.int .i64 0, .int .i64 0, .int .i64 0, .int .u64 0, .int .u64 0, .int .u64 0, .int .u64 0, .slice none 0 0] 26)).alloc (.cells #[.int .i64 k, .int .i64 mn, .int .i64 mx, .int .u64 s0, .int .u64 s1, .int .u64 s2, .int .u64 s3, .slice none 0 0] 26) := ⟨_, rfl⟩
  have s1' : (w.alloc (.cells #[.int .i64 k, .int .i64 mn, .int .i64 mx, .int .u64 s0, .int .u64 s1, .int .u64 s2, .int .u64 s3, .slice ao l.length cap] 26)).heap.size = X + 1 := by rw [hX]; simp
  have s2' : ((w.alloc (.cells #[.int .i64 k, .int .i64 mn, .int .i64 mx, .int .u64 s0, .int .u64 s1, .int .u64 s2, .int .u64 s3, .slice ao l.length cap] 26)).alloc (.cells #[.int .i64 0, .int .i64 0, .int .i64 0, .int .u64 0, .int .u64 0, .int .u64 0, .int .u64 0, .slice none 0 0] 26)).heap.size = X + 1 + 1 := by rw [hX]; simp
  have x0 : W0.heap[X]? = some (.cells #[.int .i64 k, .int .i64 mn, .int .i64 mx, .int .u64 s0, .int .u64 s1, .int .u64 s2, .int .u64 s3, .slice ao l.length cap] 26 (0, 0)) := by
    rw [hW0, Below.heap_alloc _ _ X (by rw [s2']; omega), Below.heap_alloc _ _ X (by rw [s1']; omega), hX]; exact heap_alloc_new w _
  have y0 : W0.heap[X + 1]? = some (.cells #[.int .i64 0, .int .i64 0, .int .i64 0, .int .u64 0, .int .u64 0, .int .u64 0, .int .u64 0, .slice none 0 0] 26 (0, 0)) := by
    have := heap_alloc_new (w.alloc (.cells #[.int .i64 k, .int .i64 mn, .int .i64 mx, .int .u64 s0, .int .u64 s1, .int .u64 s2, .int .u64 s3, .slice ao l.length cap] 26)) (.cells #[.int .i64 0, .int .i64 0, .int .i64 0, .int .u64 0, .int .u64 0, .int .u64 0, .int .u64 0, .slice none 0 0] 26)
    rw [s1'] at this
    rw [hW0, Below.heap_alloc _ _ (X + 1) (by rw [s2']; omega)]; exact this
  have z0 : W0.heap[X + 1 + 1]? = some (.cells #[.int .i64 k, .int .i64 mn, .int .i64 mx, .int .u64 s0, .int .u64 s1, .int .u64 s2, .int .u64 s3, .slice none 0 0] 26 (0, 0)) := by
    have := heap_alloc_new ((w.alloc (.cells #[.int .i64 k, .int .i64 mn, .int .i64 mx, .int .u64 s0, .int .u64 s1, .int .u64 s2, .int .u64 s3, .slice ao l.length cap] 26)).alloc (.cells #[.int .i64 0, .int .i64 0, .int .i64 0, .int .u64 0, .int .u64 0, .int .u64 0, .int .u64 0, .slice none 0 0] 26)) (.cells #[.int .i64 k, .int .i64 mn, .int .i64 mx, .int .u64 s0, .int .u64 s1, .int .u64 s2, .int .u64 s3, .slice none 0 0] 26)
    rw [s2'] at this
    rw [hW0]; exact this
  have b0 : Below X w W0 := by rw [hW0, hX]; exact below_trans (below_new w _) (below_trans (below_new _ _) (below_new _ _))
  have hsz0 : W0.heap.size = X + 1 + 1 + 1 := by rw [hW0]; simp [hX]
  have HW0 : Hid (((w.alloc (.cells #[.int .i64 k, .int .i64 mn, .int .i64 mx, .int .u64 s0, .int .u64 s1, .int .u64 s2, .int .u64 s3, .slice ao l.length cap] 26)).alloc (.cells #[.int .i64 0, .int .i64 0, .int .i64 0, .int .u64 0, .int .u64 0, .int .u64 0, .int .u64 0, .slice none 0 0] 26)).alloc (.cells #[.int .i64 k, .int .i64 mn, .int .i64 mx, .int .u64 s0, .int .u64 s1, .int .u64 s2, .int .u64 s3, .slice none 0 0] 26) = W0) := Lib.hid hW0.symm
  have ST := Lib.hid (And.intro x0 (And.intro y0 (And.intro z0 (And.intro b0 hsz0))))
  have EL : Hid (∀ i (hi : i < l.length) w1, Below X w w1 → ∃ a v', ao = some a ∧ a.block < w1.heap.size ∧ (∀ j u, (l[i].cells v')[j]? = some u → w1.cell? (a.add (i * 8 + j)) = some u) ∧ LiesL ok w1 v' l[i].list) := Lib.hid fun i hi w1 hb => by
    obtain ⟨a, cap', v', hv, _, hab, hc, hll⟩ := (hl.stay (by rw [← hX]; exact hb)).elem i hi
    exact ⟨a, v', (Value.slice.inj hv).1, hab, hc, hll⟩
  have LC : Hid (∀ i (hi : i < l.length) (v' : Value) w1, LiesL ok w1 v' l[i].list → Calls Try.prog 27 #[l[i].val v'] w1 fun e w' => (∃ bo cap, e = .returned ((turnR l[i]).val (.slice bo l[i].list.length cap)) ∧ LiesL (w1.heap.size ≤ ·) w' (.slice bo l[i].list.length cap) (turnR l[i]).list) ∧ Below w1.heap.size w1 w') := Lib.hid fun i hi v' w1 hll => HX l[i] (List.getElem_mem hi) ok w1 v' hll
  have HTL := Lib.hid (turned_len k l)
  have HTA := Lib.hid (turned_at k l)
  have HFEW := Lib.hid hfew
  have HZ := Lib.hid hzz
  rw [hzz]
  clear hl ih hz hz57 hf hx0 hsum hlt57 htp hx1 HX hfew ht0 hX hW0 s1' s2' x0 y0 z0 b0 hsz0
  go_enter Try.func27, Try.ntmps27
  go_wp2
  rw [HW0.out]
  obtain ⟨x0, y0, z0, b0, hsz0⟩ := ST.out
  obtain ⟨Sx, hSx⟩ : ∃ Sx : Value → List Px → World → Prop, Sx = fun v ps wr => wr.heap[X]? = some (.cells #[.int .i64 k, .int .i64 mn, .int .i64 mx, .int .u64 s0, .int .u64 s1, .int .u64 s2, .int .u64 s3, .slice ao l.length cap] 26 (0, 0)) ∧ wr.heap[X + 1]? = some (.cells #[.int .i64 0, .int .i64 0, .int .i64 0, .int .u64 0, .int .u64 0, .int .u64 0, .int .u64 0, .slice none 0 0] 26 (0, 0)) ∧ wr.heap[X + 1 + 1]? = some (.cells #[.int .i64 k, .int .i64 mn, .int .i64 mx, .int .u64 s0, .int .u64 s1, .int .u64 s2, .int .u64 s3, v] 26 (0, 0)) ∧ Rw (X + 1 + 1 + 1) wr v ps ∧ Below X w wr := ⟨_, rfl⟩
  have S0 : Hid (Sx (.slice none 0 0) [] W0) := Lib.hid (by rw [hSx]; exact ⟨x0, y0, z0, ⟨World.ownsRow_nil _ _ _ _, fun p hp => by cases hp⟩, b0⟩)
  have SB : Hid (∀ v ps wa wb, Sx v ps wa → Below wa.heap.size wa wb → Sx v ps wb) := Lib.hid (by
    rw [hSx]
    rintro v ps wa wb ⟨a1, a2, a3, a4, a5⟩ hb
    have := block_lt' a3
    exact ⟨(hb.block _ (block_lt' a1)).trans a1, (hb.block _ (block_lt' a2)).trans a2, (hb.block _ this).trans a3, a4.below hb, a5.trans (hb.mono (by omega))⟩)
  have SO : Hid (∀ v ps wa, Sx v ps wa → (wa.heap[X]? = some (.cells #[.int .i64 k, .int .i64 mn, .int .i64 mx, .int .u64 s0, .int .u64 s1, .int .u64 s2, .int .u64 s3, .slice ao l.length cap] 26 (0, 0)) ∧ wa.heap[X + 1]? = some (.cells #[.int .i64 0, .int .i64 0, .int .i64 0, .int .u64 0, .int .u64 0, .int .u64 0, .int .u64 0, .slice none 0 0] 26 (0, 0)) ∧ wa.heap[X + 1 + 1]? = some (.cells #[.int .i64 k, .int .i64 mn, .int .i64 mx, .int .u64 s0, .int .u64 s1, .int .u64 s2, .int .u64 s3, v] 26 (0, 0)) ∧ Rw (X + 1 + 1 + 1) wa v ps ∧ Below X w wa)) := Lib.hid (by rw [hSx]; exact fun _ _ _ h => h)
  have SN : Hid (∀ bo j co ps w1 w3 (x : Rx) vx, Sx (.slice bo j co) ps w1 → Below w1.heap.size w1 w3 → LiesL (w1.heap.size ≤ ·) w3 vx x.list → ps.length = j → ps.length ≤ 1000 →
      ∃ bo2 co2 w7, (Builtin.append_ #[24, 24] 24 #[.slice bo j co, .slice (some ⟨w3.heap.size, 0, none⟩) 1 1]).run Try.prog (w3.alloc (.cells (x.cells vx) 26)) = .ok (.slice bo2 (j + 1) co2) w7 ∧ w7.frozen? ⟨X + 1 + 1, 7, none⟩ = false ∧ w7.cell? ⟨X + 1 + 1, 7, none⟩ = some (.slice bo j co) ∧ Sx (.slice bo2 (j + 1) co2) (ps ++ [(x, vx)]) (w7.setCell ⟨X + 1 + 1, 7, none⟩ (.slice bo2 (j + 1) co2)) ∧ Below X w w7 ∧ w7.heap[X]? = some (.cells #[.int .i64 k, .int .i64 mn, .int .i64 mx, .int .u64 s0, .int .u64 s1, .int .u64 s2, .int .u64 s3, .slice ao l.length cap] 26 (0, 0))) := Lib.hid (by
    intro bo j co ps w1 w3 x vx h1 hb hlx hps few
    have h3 := SB.out _ _ _ _ h1 hb
    rw [hSx] at h1 h3
    obtain ⟨a1, a2, a3, a4, a5⟩ := h3
    have hs1 := block_lt' h1.2.2.1
    have hs3 := block_lt' a3
    have hlx2 : LiesL (fun g => X + 1 + 1 + 1 ≤ g ∧ (Value.slice bo j co).ownBlock ≠ some g) w3 vx x.list := hlx.kept (Nat.le_refl _) (fun _ _ _ => rfl) (fun g q _ => ⟨Nat.le_trans (by omega) q, fun e => by have := (h1.2.2.2.1.own.lt g e); have := q; have := h1.2.2.2.1.own.lt g e; omega⟩)
    obtain ⟨bo2, co2, w7, hr, hR, hg, hbl⟩ := a4.push x vx hlx2 few (by omega)
    rw [hps] at hr hR
    have bA := below_new w3 (.cells (x.cells vx) 26)
    have K : ∀ b o, b < X + 1 + 1 + 1 → w3.heap[b]? = some o → w7.heap[b]? = some o := fun b o hlt ho => by
      rw [hg.block b (by have := bA.size; have := block_lt' ho; omega) (fun e => by have := hbl _ e.symm; omega), bA.block b (block_lt' ho)]; exact ho
    have z7 := K _ _ (by omega) a3
    have b7 := ((a5.trans (bA.mono (by omega))).grown hg (by have := bA.size; omega) (fun b e => by have := hbl b e; omega))
    refine ⟨bo2, co2, w7, hr, free_at z7, cell_at z7 rfl, ?_, b7, K _ _ (by omega) a1⟩
    rw [hSx]
    have o1 : ∀ b, b ≠ X + 1 + 1 → (w7.setCell ⟨X + 1 + 1, 7, none⟩ (.slice bo2 (j + 1) co2)).heap[b]? = w7.heap[b]? := fun b hb => heap_setCell_other _ _ _ _ hb
    refine ⟨(o1 _ (by omega)).trans (K _ _ (by omega) a1), (o1 _ (by omega)).trans (K _ _ (by omega) a2), set1' z7 _, hR.store (by omega), ?_⟩
    exact b7.setCell (show X ≤ X + 1 + 1 by omega) _)
  clear x0 y0 z0 b0 hsz0 hSx
  go_loopw [4, 5] (fun i u wr => ∃ (j : Nat) (ps : List Px) (bo : Option Addr) (co : Nat), j ≤ l.length ∧ i = .int .i64 (j : Nat) ∧ Sx (.slice bo j co) ps wr ∧ Hid (ps.length = j ∧ ps.map (·.1) = (turned k l).take j)) (fun i _ _ => l.length - (intOf i).toNat)
  case atStart => exact ⟨0, [], none, 0, Nat.zero_le _, rfl, S0.out, Lib.hid ⟨rfl, by simp⟩⟩
  case round =>
    obtain ⟨j, ps, bo, co, hj, rfl, hS, HPS⟩ := hrel
    obtain ⟨q1, q2, q3, q4, q5⟩ := SO.out _ _ _ hS
    obtain ⟨c0, c1, c2, c3, c4, c5, c6, c7⟩ := cells8_at q1
    obtain ⟨e0, e1, e2, e3, e4, e5, e6, e7⟩ := cells8_at q3
    by_cases hlt : j < l.length
    · have hji : (j : Int) < (l.length : Int) := by omega
      obtain ⟨m, hm⟩ : ∃ m, m = if k = 1 then l.length - 1 - j else j := ⟨_, rfl⟩
      have hml : m < l.length := by rw [hm]; split <;> omega
      have hmi : (m : Int) < (l.length : Int) := by omega
      have hat : (turned k l)[j]? = some (turnR l[m]) := by subst hm; exact HTA.out j hlt
      obtain ⟨a, v', rfl, hab, hcell, hlies⟩ := EL.out m hml wr q5
      have ELd : Hid (∀ w1, Below X w w1 → ∃ v', a.block < w1.heap.size ∧ (∀ j u, (l[m].cells v')[j]? = some u → w1.cell? (a.add (m * 8 + j)) = some u) ∧ LiesL ok w1 v' l[m].list) := Lib.hid fun w1 hb => by
        obtain ⟨a', v2, e, r⟩ := EL.out m hml w1 hb
        cases e
        exact ⟨v2, r⟩
      have lc := fun w1 (h : LiesL ok w1 v' l[m].list) => LC.out m hml v' w1 h
      generalize l[m] = t at *
      obtain ⟨kk, mn', mx', t0, t1, t2, t3, ls⟩ := t
      obtain ⟨tl, htl⟩ : ∃ tl, turnR (.mk kk mn' mx' t0 t1 t2 t3 ls) = .mk kk mn' mx' t0 t1 t2 t3 tl := ⟨_, turn_list ..⟩
      rw [htl] at lc hat
      obtain ⟨ao', cap', rfl⟩ := hlies.value
      unfold Rx.val Rx.cells cellsX at lc
      dsimp only [Rx.list] at lc hlies
      have LCD : Hid (∀ w1, Below wr.heap.size wr w1 → Calls Try.prog 27 #[.agg #[.int .i64 kk, .int .i64 mn', .int .i64 mx', .int .u64 t0, .int .u64 t1, .int .u64 t2, .int .u64 t3, .slice ao' ls.length cap']] w1 fun e w' => ∃ bo' cp', e = .returned (.agg #[.int .i64 kk, .int .i64 mn', .int .i64 mx', .int .u64 t0, .int .u64 t1, .int .u64 t2, .int .u64 t3, .slice bo' ls.length cp']) ∧ Hid (LiesL (w1.heap.size ≤ ·) w' (.slice bo' ls.length cp') tl ∧ Below w1.heap.size w1 w')) := Lib.hid fun w1 hb => (lc w1 (hlies.stay hb)).mono fun e w' g => by
        obtain ⟨⟨b1, c1, h1, h2⟩, h3⟩ := g
        exact ⟨b1, c1, h1, Lib.hid ⟨h2, h3⟩⟩
      obtain ⟨I, hI⟩ : ∃ I : World → Prop, I = fun wa => Below X w wa ∧ wa.heap[X]? = some (.cells #[.int .i64 k, .int .i64 mn, .int .i64 mx, .int .u64 s0, .int .u64 s1, .int .u64 s2, .int .u64 s3, .slice (some a) l.length cap] 26 (0, 0)) := ⟨_, rfl⟩
      have I0 : I wr := by rw [hI]; exact ⟨q5, q1⟩
      have HXR := Lib.hid (And.intro (block_lt' q1) q5.size)
      have ID1 : Hid (∀ wa, I wa → I wa.drew) := Lib.hid (by rw [hI]; exact fun wa h => ⟨h.1.drew, h.2⟩)
      have IS : Hid (∀ wa wb, I wa → Below wa.heap.size wa wb → I wb) := Lib.hid (by rw [hI]; exact fun wa wb h g => ⟨h.1.trans (g.mono (by have := block_lt' h.2; omega)), (g.block _ (block_lt' h.2)).trans h.2⟩)
      have IA : Hid (∀ wa o, I wa → I (wa.alloc o)) := Lib.hid (by rw [hI]; exact fun wa o h => ⟨h.1.trans ((below_new wa o).mono (by have := block_lt' h.2; omega)), (Below.heap_alloc wa o X (block_lt' h.2)).trans h.2⟩)
      have habX : a.block < X := by
        obtain ⟨a', v2, e, r, -⟩ := EL.out m hml w (Below.refl _ _)
        cases e
        have := HZ.out
        omega
      have IC2 : Hid (∀ wa, I wa → wa.cell? ⟨X, 7, none⟩ = some (.slice (some a) l.length cap) ∧
          wa.cell? (a.add (m * 8)) = some (.int .i64 kk) ∧ wa.cell? ⟨(a.add (m * 8)).block, (a.add (m * 8)).off + 1, none⟩ = some (.int .i64 mn') ∧ wa.cell? ⟨(a.add (m * 8)).block, (a.add (m * 8)).off + 2, none⟩ = some (.int .i64 mx') ∧ wa.cell? ⟨(a.add (m * 8)).block, (a.add (m * 8)).off + 3, none⟩ = some (.int .u64 t0) ∧ wa.cell? ⟨(a.add (m * 8)).block, (a.add (m * 8)).off + 4, none⟩ = some (.int .u64 t1) ∧ wa.cell? ⟨(a.add (m * 8)).block, (a.add (m * 8)).off + 5, none⟩ = some (.int .u64 t2) ∧ wa.cell? ⟨(a.add (m * 8)).block, (a.add (m * 8)).off + 6, none⟩ = some (.int .u64 t3) ∧ wa.cell? ⟨(a.add (m * 8)).block, (a.add (m * 8)).off + 7, none⟩ = some (.slice ao' ls.length cap')) := Lib.hid (by
        rw [hI]
        intro wa h
        refine ⟨cell_at h.2 rfl, ?_⟩
        have e8 : ∀ p : Addr, p.block < X → wa.cell? p = wr.cell? p := fun p hp => by
          rw [h.1.cell (p := p) hp, q5.cell (p := p) hp]
        exact eight (w := wa) (wr := wa) (fun j u hu => (e8 (a.add (m * 8 + j)) (by unfold Addr.add; split <;> exact habX)).trans (hcell j u hu)) (by have := block_lt' h.2; omega) (Below.refl _ _))
      have IT : Hid (∀ wa, Below wr.heap.size wr wa → wa.cell? ⟨X + 1 + 1, 7, none⟩ = some (.slice bo j co)) := Lib.hid fun wa hb => by
        obtain ⟨p1, p2, p3, p4, p5⟩ := SO.out _ _ _ (SB.out _ _ _ _ hS hb)
        exact cell_at p3 rfl
      have NXT : Hid (∀ w1 w3 bo' cp', Below wr.heap.size wr w1 → LiesL (w1.heap.size ≤ ·) w3 (.slice bo' ls.length cp') tl → Below w1.heap.size w1 w3 → ∃ bo2 co2 w7, (Builtin.append_ #[24, 24] 24 #[.slice bo j co, .slice (some ⟨w3.heap.size, 0, none⟩) 1 1]).run Try.prog (w3.alloc (.cells #[.int .i64 kk, .int .i64 mn', .int .i64 mx', .int .u64 t0, .int .u64 t1, .int .u64 t2, .int .u64 t3, .slice bo' ls.length cp'] 26)) = .ok (.slice bo2 (j + 1) co2) w7 ∧ w7.frozen? ⟨X + 1 + 1, 7, none⟩ = false ∧ w7.cell? ⟨X + 1 + 1, 7, none⟩ = some (.slice bo j co) ∧ Hid (Sx (.slice bo2 (j + 1) co2) (ps ++ [(.mk kk mn' mx' t0 t1 t2 t3 tl, .slice bo' ls.length cp')]) (w7.setCell ⟨X + 1 + 1, 7, none⟩ (.slice bo2 (j + 1) co2))) ∧ I w7 ∧ I (w7.setCell ⟨X + 1 + 1, 7, none⟩ (.slice bo2 (j + 1) co2)) ∧
          w3.cell? ⟨X + 1 + 1, 7, none⟩ = some (.slice bo j co) ∧ (w3.alloc (.cells #[.int .i64 kk, .int .i64 mn', .int .i64 mx', .int .u64 t0, .int .u64 t1, .int .u64 t2, .int .u64 t3, .slice bo' ls.length cp'] 26)).cell? ⟨X + 1 + 1, 7, none⟩ = some (.slice bo j co)) := Lib.hid (by
        intro w1 w3 bo' cp' h1 h2 h3
        obtain ⟨x1, x2, x3, x4, x5, x6, x7, x8, x9⟩ := SN.out bo j co ps w1 w3 (.mk kk mn' mx' t0 t1 t2 t3 tl) (.slice bo' ls.length cp') (SB.out _ _ _ _ hS h1) h3 h2 HPS.out.1 (by have := HPS.out.1; omega)
        have b3 := h1.trans (h3.mono h1.size)
        refine ⟨x1, x2, x3, x4, x5, x6, Lib.hid x7, by rw [hI]; exact ⟨x8, x9⟩, by rw [hI]; exact ⟨x8.setCell (show X ≤ X + 1 + 1 by omega) _, (heap_setCell_other _ _ _ _ (show X ≠ X + 1 + 1 by omega)).trans x9⟩, IT.out _ b3, IT.out _ (b3.trans ((below_new w3 _).mono b3.size))⟩)
      have LCI : Hid (∀ wa, Below wr.heap.size wr wa → _) := Lib.hid LCD.out
      have BD : Hid (Below wr.heap.size wr wr.drew) := Lib.hid (Below.refl _ _).drew
      have B0 : Hid (Below wr.heap.size wr wr) := Lib.hid (Below.refl _ _)
      have g0 := IT.out _ BD.out
      have HEN : Hid (∀ vx, (ps ++ [(Rx.mk kk mn' mx' t0 t1 t2 t3 tl, vx)]).length = j + 1 ∧ (ps ++ [(Rx.mk kk mn' mx' t0 t1 t2 t3 tl, vx)]).map (·.1) = (turned k l).take (j + 1)) := Lib.hid fun vx => by
        obtain ⟨r1, r2⟩ := HPS.out
        refine ⟨by simp [r1], ?_⟩
        rw [List.map_append, r2, List.take_add_one, hat]
        rfl
      have HLT := Lib.hid hlt
      obtain ⟨d1, d3, d4, d5, d6, d7, d8, d9, d10⟩ := IC2.out _ I0
      have hm1 : k = 1 → (l.length : Int) - 1 - (j : Int) = (m : Int) := fun h => by rw [if_pos h] at hm; omega
      have hm2 : k ≠ 1 → j = m := fun h => by rw [if_neg h] at hm; exact hm.symm
      clear hS q1 q2 q3 q4 q5 hm hat hcell hlies lc htl hI hlt hj ELd LCD hab hml habX IT
      by_cases k1 : k = 1
      · have hme := hm1 k1
        subst k1
        clear hm1 hm2
        go_wp2
        go_region_law (first | (go_simp; go_at_call 27; (with_reducible refine (LCI.out _ BD.out).mono ?_); rintro e w3 ⟨bo', cp', rfl, h3⟩; have i3 := IS.out _ _ (ID1.out _ I0) h3.out.2; obtain ⟨bo2, co2, w7, hr, hf7, hc7, hS7, i7, i8, g3, g4⟩ := NXT.out _ _ _ _ BD.out h3.out.1 h3.out.2; have HR := Lib.hid hr; clear hr h3) | (go_simp; go_at_call 27; (with_reducible refine (LCI.out _ B0.out).mono ?_); rintro e w3 ⟨bo', cp', rfl, h3⟩; have i3 := IS.out _ _ I0 h3.out.2; obtain ⟨bo2, co2, w7, hr, hf7, hc7, hS7, i7, i8, g3, g4⟩ := NXT.out _ _ _ _ B0.out h3.out.1 h3.out.2; have HR := Lib.hid hr; clear hr h3) | (refine step_append_run (by rfl) _ _ 24 (by rfl) _ _ _ w7 (by rfl) (by rfl) HR.out ?_))
        all_goals (go_wp2; exact ⟨⟨j + 1, _, bo2, co2, HLT.out, by go_num, hS7.out, Lib.hid (HEN.out _)⟩, by simp [intOf]; have := HLT.out; omega⟩)
      · have hme := hm2 k1
        have k2 : (k == 1) = false := by simpa using k1
        subst hme
        clear hm1 hm2
        go_wp2
        go_region_law (first | (go_simp; go_at_call 27; (with_reducible refine (LCI.out _ BD.out).mono ?_); rintro e w3 ⟨bo', cp', rfl, h3⟩; have i3 := IS.out _ _ (ID1.out _ I0) h3.out.2; obtain ⟨bo2, co2, w7, hr, hf7, hc7, hS7, i7, i8, g3, g4⟩ := NXT.out _ _ _ _ BD.out h3.out.1 h3.out.2; have HR := Lib.hid hr; clear hr h3) | (go_simp; go_at_call 27; (with_reducible refine (LCI.out _ B0.out).mono ?_); rintro e w3 ⟨bo', cp', rfl, h3⟩; have i3 := IS.out _ _ I0 h3.out.2; obtain ⟨bo2, co2, w7, hr, hf7, hc7, hS7, i7, i8, g3, g4⟩ := NXT.out _ _ _ _ B0.out h3.out.1 h3.out.2; have HR := Lib.hid hr; clear hr h3) | (refine step_append_run (by rfl) _ _ 24 (by rfl) _ _ _ w7 (by rfl) (by rfl) HR.out ?_))
        all_goals (go_wp2; exact ⟨⟨j + 1, _, bo2, co2, HLT.out, by go_num, hS7.out, Lib.hid (HEN.out _)⟩, by simp [intOf]; have := HLT.out; omega⟩)
    · have hjl : j = l.length := by omega
      subst hjl
      obtain ⟨f0, f1, f2, f3, f4, f5, f6, f7⟩ := cells8_at q2
      have hfz : ∀ o, wr.frozen? ⟨X + 1, o, none⟩ = false := fun o => free_at q2
      have hps : fsts ps = turned k l := by
        have := HPS.out.2
        unfold fsts
        rw [this, List.take_of_length_le (by rw [turned_len]; omega)]
      have END : Hid (∀ a b c d e f g h, LiesL (X ≤ ·) ((((((((wr.setCell ⟨X + 1, 0, none⟩ a).setCell ⟨X + 1, 1, none⟩ b).setCell ⟨X + 1, 2, none⟩ c).setCell ⟨X + 1, 3, none⟩ d).setCell ⟨X + 1, 4, none⟩ e).setCell ⟨X + 1, 5, none⟩ f).setCell ⟨X + 1, 6, none⟩ g).setCell ⟨X + 1, 7, none⟩ h) (.slice bo l.length co) (turned k l) ∧ Below X w ((((((((wr.setCell ⟨X + 1, 0, none⟩ a).setCell ⟨X + 1, 1, none⟩ b).setCell ⟨X + 1, 2, none⟩ c).setCell ⟨X + 1, 3, none⟩ d).setCell ⟨X + 1, 4, none⟩ e).setCell ⟨X + 1, 5, none⟩ f).setCell ⟨X + 1, 6, none⟩ g).setCell ⟨X + 1, 7, none⟩ h)) := Lib.hid fun a b c d e f g h => by
        have hZ : X + 1 < X + 1 + 1 + 1 := by omega
        have hX1 : X ≤ X + 1 := by omega
        have hR := (((((((q4.store (o := 0) (u := a) hZ).store (o := 1) (u := b) hZ).store (o := 2) (u := c) hZ).store (o := 3) (u := d) hZ).store (o := 4) (u := e) hZ).store (o := 5) (u := f) hZ).store (o := 6) (u := g) hZ).store (o := 7) (u := h) hZ
        refine ⟨?_, (((((((q5.setCell hX1 _).setCell hX1 _).setCell hX1 _).setCell hX1 _).setCell hX1 _).setCell hX1 _).setCell hX1 _).setCell hX1 _⟩
        rw [← hps]
        exact own_lies hR.own (by have := HPS.out.1; omega) (fun g hg => Nat.le_trans (by omega) (hR.own.lt g hg).1) (fun p hp => (hR.inn p hp).kept (Nat.le_refl _) (fun _ _ _ => rfl) (fun g q _ => Nat.le_trans (by omega) q.1))
      clear hS q1 q2 q3 q4 q5 hps hlt hj
      go_wp2
      refine bodyPost_ret (v := .agg #[.int .i64 k, .int .i64 mn, .int .i64 mx, .int .u64 s0, .int .u64 s1, .int .u64 s2, .int .u64 s3, .slice bo l.length co]) (by simp [results, Try.results27, go_sem, f0, f1, f2, f3, f4, f5, f6, f7, e0, e1, e2, e3, e4, e5, e6, e7]) rfl ⟨⟨bo, co, rfl, ?_⟩, ?_⟩
      · exact (END.out _ _ _ _ _ _ _ _).1
      · exact (END.out _ _ _ _ _ _ _ _).2
end Go.Proofs.Ytdmajbdgjjmlkaa
