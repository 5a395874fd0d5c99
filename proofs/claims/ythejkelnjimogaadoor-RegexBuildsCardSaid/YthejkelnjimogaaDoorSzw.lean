/- The size of an expression is told by its elements' sizes: what the law's call returns. Conditions: the expressions lie in memory. -/
import Derived.Test.YthejkelnjimogaaDoorOpn
namespace Go.Proofs.YthejkelnjimogaaDoor
open Go.RowKit
set_option linter.unusedVariables false

/-- two expressions that came in lie in rows of their own -/
structure Ab (w : World) (X : Nat) (Ca Cb : Array Value) (wr : World) : Prop where
  ra : wr.heap[X]? = some (.cells Ca 26 (0, 0))
  rb : wr.heap[X + 1]? = some (.cells Cb 26 (0, 0))
  bel : Below w.heap.size w wr
theorem Ab.first (w : World) (Ca Cb : Array Value) : Ab w w.heap.size Ca Cb ((w.alloc (.cells Ca 26)).alloc (.cells Cb 26)) :=
  ⟨by rw [(below_new _ (.cells Cb 26)).block _ (by simp)]; exact heap_alloc_new w _, by
    have := heap_alloc_new (w.alloc (.cells Ca 26)) (.cells Cb 26)
    simpa using this, below_trans (below_new w _) (below_new _ _)⟩
theorem Ab.step {w : World} {X : Nat} {Ca Cb : Array Value} {wr w' : World} (h : Ab w X Ca Cb wr) (g : Below wr.heap.size wr w') : Ab w X Ca Cb w' :=
  ⟨cell_stay h.ra g, cell_stay h.rb g, below_trans h.bel g⟩
theorem Ab.drew {w : World} {X : Nat} {Ca Cb : Array Value} {wr : World} (h : Ab w X Ca Cb wr) : Ab w X Ca Cb wr.drew := ⟨h.ra, h.rb, h.bel.drew⟩
theorem LiesL.two {w : World} {N : Nat} {t1 t2 : Rx} {v1 v2 : Value} (h : w.heap[N]? = some (.cells (t1.cells v1 ++ t2.cells v2) 26 (0, 0))) (h1 : LiesL (fun _ => True) w v1 t1.list) (h2 : LiesL (fun _ => True) w v2 t2.list) :
    LiesL (fun _ => True) w (.slice (some ⟨N, 0, none⟩) 2 2) [t1, t2] := by
  have e8 : ∀ (t : Rx) (v : Value), (t.cells v).size = 8 := fun t v => cells_len t v
  refine .mk (some ⟨N, 0, none⟩) 2 [t1, t2] (fun i => if i = 0 then v1 else v2) (by simp) (fun i hi => ?_) (fun i hi => ?_)
  · have h01 : i = 0 ∨ i = 1 := by simp at hi; omega
    rcases h01 with rfl | rfl
    · refine ⟨_, rfl, trivial, block_lt h, fun j u hu => ?_⟩
      rw [show (⟨N, 0, none⟩ : Addr).add (0 * 8 + j) = ⟨N, j, none⟩ by unfold Addr.add; split <;> simp_all]
      refine cell_at h ?_
      have hu' : (t1.cells v1)[j]? = some u := hu
      have := (Array.getElem?_eq_some_iff.1 hu').1
      rw [Array.getElem?_append_left this]; exact hu'
    · refine ⟨_, rfl, trivial, block_lt h, fun j u hu => ?_⟩
      rw [show (⟨N, 0, none⟩ : Addr).add (1 * 8 + j) = ⟨N, 8 + j, none⟩ by unfold Addr.add; split <;> simp_all]
      refine cell_at h ?_
      have hu' : (t2.cells v2)[j]? = some u := hu
      rw [Array.getElem?_append_right (by rw [e8]; omega), e8]
      simpa using hu'
  · have h01 : i = 0 ∨ i = 1 := by simp at hi; omega
    rcases h01 with rfl | rfl
    · exact h1
    · exact h2
theorem LiesL.one' {w : World} {N : Nat} {t : Rx} {v : Value} (h : w.heap[N]? = some (.cells (t.cells v) 26 (0, 0))) (hl : LiesL (fun _ => True) w v t.list) : LiesL (fun _ => True) w (.slice (some ⟨N, 0, none⟩) 1 1) [t] := by
  refine .mk (some ⟨N, 0, none⟩) 1 [t] (fun _ => v) (by simp) (fun i hi => ?_) (fun i hi => ?_)
  · have h0 : i = 0 := by simp at hi; omega
    subst h0
    refine ⟨_, rfl, trivial, block_lt h, fun j u hu => ?_⟩
    rw [show (⟨N, 0, none⟩ : Addr).add (0 * 8 + j) = ⟨N, j, none⟩ by unfold Addr.add; split <;> simp_all]
    exact cell_at h hu
  · have h0 : i = 0 := by simp at hi; omega
    subst h0
    exact hl
theorem size_two (k : Int) (hk : k = 1 ∨ k = 2) (a b : Rx) (ha : sizeR a ≠ 0) (hb : sizeR b ≠ 0) : sizeR (.mk k 0 0 0 0 0 0 [a, b]) = min 257 (1 + sizeR a + sizeR b) := by
  rw [sizeR, if_pos (by rcases hk with rfl | rfl <;> rfl)]
  rw [sizeL, if_neg ha, sizeL, if_neg hb, sizeL]
  have : timesF 0 0 = 1 := rfl
  rw [this]
  omega
theorem size_rep0 (mn mx : Int) (h : areT mn mx = false) (a : Rx) : sizeR (.mk 3 mn mx 0 0 0 0 [a]) = 0 := by
  rw [sizeR, if_neg]
  simp [formF, h]
theorem size_rep (mn mx : Int) (h : areT mn mx = true) (a : Rx) (ha : sizeR a ≠ 0) : sizeR (.mk 3 mn mx 0 0 0 0 [a]) = min 257 (1 + sizeR a * timesF mn mx) := by
  rw [sizeR, if_pos (by simp [formF, h, noS]), sizeL, if_neg ha, sizeL]
  omega
set_option maxRecDepth 100000 in
set_option maxHeartbeats 8000000 in
theorem sizes_walk (ta tb : Rx) (va vb : Value) (n : Int) (w : World) (ha : LiesL (fun _ => True) w va ta.list) (hb : LiesL (fun _ => True) w vb tb.list) :
    Calls Tryd.prog 6 #[ta.val va, tb.val vb, .int .i64 n] w fun e w' => e = .returned (.bool true) ∧ Below w.heap.size w w' := by
  obtain ⟨I, hI⟩ : ∃ I : World → Prop, I = Ab w w.heap.size (ta.cells va) (tb.cells vb) := ⟨_, rfl⟩
  have I0 : I ((w.alloc (.cells (ta.cells va) 26)).alloc (.cells (tb.cells vb) 26)) := by rw [hI]; exact Ab.first w _ _
  have IS : Hid (∀ wr w', I wr → Below wr.heap.size wr w' → I w') := by rw [hI]; exact fun wr w' h g => h.step g
  have IN : Hid (∀ wr o, I wr → I (wr.alloc o)) := fun wr o h => IS.out _ _ h (below_new wr o)
  have ID : Hid (∀ wr, I wr → I wr.drew) := by rw [hI]; exact fun wr h => h.drew
  have IB : Hid (∀ wr, I wr → Below w.heap.size w wr) := by rw [hI]; exact fun wr h => h.bel
  have FX := Lib.hid fixed_any
  have SA : Hid (∀ wr, I wr → Calls Tryd.prog 14 #[.agg (ta.cells va)] wr fun e w' => e = .returned (.int .i64 (sizeR ta : Nat)) ∧ Below wr.heap.size wr w') := fun wr h => size_any wr va ta (ha.stay (IB.out _ h))
  have SB : Hid (∀ wr, I wr → Calls Tryd.prog 14 #[.agg (tb.cells vb)] wr fun e w' => e = .returned (.int .i64 (sizeR tb : Nat)) ∧ Below wr.heap.size wr w') := fun wr h => size_any wr vb tb (hb.stay (IB.out _ h))
  have CA : Hid (∀ wr, I wr → Calls Tryd.prog 12 #[.agg (ta.cells va)] wr fun e w' => e = .returned (.int .i64 (checkR ta)) ∧ Below wr.heap.size wr w') := fun wr h => check_any wr va ta (ha.stay (IB.out _ h))
  have CB : Hid (∀ wr, I wr → Calls Tryd.prog 12 #[.agg (tb.cells vb)] wr fun e w' => e = .returned (.int .i64 (checkR tb)) ∧ Below wr.heap.size wr w') := fun wr h => check_any wr vb tb (hb.stay (IB.out _ h))
  have S2 : Hid (∀ (k : Int) wr, I wr → Calls Tryd.prog 14 #[.agg #[.int .i64 k, .int .i64 0, .int .i64 0, .int .u64 0, .int .u64 0, .int .u64 0, .int .u64 0, .slice (some ⟨wr.heap.size, 0, none⟩) 2 2]] (wr.alloc (.cells (ta.cells va ++ tb.cells vb) 26)) fun e w' => e = .returned (.int .i64 (sizeR (.mk k 0 0 0 0 0 0 [ta, tb]) : Nat)) ∧ Below (wr.alloc (.cells (ta.cells va ++ tb.cells vb) 26)).heap.size (wr.alloc (.cells (ta.cells va ++ tb.cells vb) 26)) w') := fun k wr h =>
    size_any (wr.alloc (.cells (ta.cells va ++ tb.cells vb) 26)) (.slice (some ⟨wr.heap.size, 0, none⟩) 2 2) (.mk k 0 0 0 0 0 0 [ta, tb]) (LiesL.two (heap_alloc_new wr _) (ha.stay (IB.out _ (IN.out _ _ h))) (hb.stay (IB.out _ (IN.out _ _ h))))
  have S1 : Hid (∀ (mn mx : Int) wr, I wr → Calls Tryd.prog 14 #[.agg #[.int .i64 3, .int .i64 mn, .int .i64 mx, .int .u64 0, .int .u64 0, .int .u64 0, .int .u64 0, .slice (some ⟨wr.heap.size, 0, none⟩) 1 1]] (wr.alloc (.cells (ta.cells va) 26)) fun e w' => e = .returned (.int .i64 (sizeR (.mk 3 mn mx 0 0 0 0 [ta]) : Nat)) ∧ Below (wr.alloc (.cells (ta.cells va) 26)).heap.size (wr.alloc (.cells (ta.cells va) 26)) w') := fun mn mx wr h =>
    size_any (wr.alloc (.cells (ta.cells va) 26)) (.slice (some ⟨wr.heap.size, 0, none⟩) 1 1) (.mk 3 mn mx 0 0 0 0 [ta]) (LiesL.one' (heap_alloc_new wr _) (ha.stay (IB.out _ (IN.out _ _ h))))
  have hT := size_two 1 (.inl rfl) ta tb
  have hT2 := size_two 2 (.inr rfl) ta tb
  have hR := fun mn mx h => size_rep mn mx h ta
  have hR0 := fun mn mx h => size_rep0 mn mx h ta
  have leA := sizeR_le ta
  have leB := sizeR_le tb
  have cA : checkR ta = if sizeR ta = 0 then 52 else if sizeR ta = 257 then 51 else 0 := rfl
  have cB : checkR tb = if sizeR tb = 0 then 52 else if sizeR tb = 257 then 51 else 0 := rfl
  obtain ⟨pa, ca, hva⟩ := ha.value
  obtain ⟨pb, cb, hvb⟩ := hb.value
  subst hva
  subst hvb
  obtain ⟨X, hX⟩ : ∃ X, X = w.heap.size := ⟨_, rfl⟩
  have hzz : w.heap.size = X := hX.symm
  rw [hzz] at hI
  have IC' : ∀ wr, I wr → wr.heap[X]? = some (.cells (ta.cells (.slice pa ta.list.length ca)) 26 (0, 0)) ∧ wr.heap[X + 1]? = some (.cells (tb.cells (.slice pb tb.list.length cb)) 26 (0, 0)) := by rw [hI]; exact fun wr h => ⟨h.ra, h.rb⟩
  clear hI ha hb hX
  generalize sizeR ta = x at *
  generalize sizeR tb = y at *
  generalize ta.list.length = na at *
  generalize tb.list.length = nb at *
  obtain ⟨ka, mna, mxa, a0, a1, a2, a3, la⟩ := ta
  obtain ⟨kb, mnb, mxb, b0, b1, b2, b3, lb⟩ := tb
  unfold Rx.val
  dsimp only [Rx.cells, cellsX] at *
  have IC : Hid (∀ wr, I wr → wr.cell? ⟨X, 0, none⟩ = some (.int .i64 ka) ∧ wr.cell? ⟨X, 1, none⟩ = some (.int .i64 mna) ∧ wr.cell? ⟨X, 2, none⟩ = some (.int .i64 mxa) ∧ wr.cell? ⟨X, 3, none⟩ = some (.int .u64 a0) ∧ wr.cell? ⟨X, 4, none⟩ = some (.int .u64 a1) ∧ wr.cell? ⟨X, 5, none⟩ = some (.int .u64 a2) ∧ wr.cell? ⟨X, 6, none⟩ = some (.int .u64 a3) ∧ wr.cell? ⟨X, 7, none⟩ = some (.slice pa na ca) ∧ wr.cell? ⟨X + 1, 0, none⟩ = some (.int .i64 kb) ∧ wr.cell? ⟨X + 1, 1, none⟩ = some (.int .i64 mnb) ∧ wr.cell? ⟨X + 1, 2, none⟩ = some (.int .i64 mxb) ∧ wr.cell? ⟨X + 1, 3, none⟩ = some (.int .u64 b0) ∧ wr.cell? ⟨X + 1, 4, none⟩ = some (.int .u64 b1) ∧ wr.cell? ⟨X + 1, 5, none⟩ = some (.int .u64 b2) ∧ wr.cell? ⟨X + 1, 6, none⟩ = some (.int .u64 b3) ∧ wr.cell? ⟨X + 1, 7, none⟩ = some (.slice pb nb cb)) := fun wr h => by
    obtain ⟨q0, q1, q2, q3, q4, q5, q6, q7⟩ := cells8 (IC' wr h).1
    obtain ⟨r0, r1, r2, r3, r4, r5, r6, r7⟩ := cells8 (IC' wr h).2
    exact ⟨q0, q1, q2, q3, q4, q5, q6, q7, r0, r1, r2, r3, r4, r5, r6, r7⟩
  clear IC'
  have S21 : Hid (∀ wr, I wr → Calls Tryd.prog 14 #[.agg #[.int .i64 1, .int .i64 0, .int .i64 0, .int .u64 0, .int .u64 0, .int .u64 0, .int .u64 0, .slice (some ⟨wr.heap.size, 0, none⟩) 2 2]] (wr.alloc (.cells #[.int .i64 ka, .int .i64 mna, .int .i64 mxa, .int .u64 a0, .int .u64 a1, .int .u64 a2, .int .u64 a3, .slice pa na ca, .int .i64 kb, .int .i64 mnb, .int .i64 mxb, .int .u64 b0, .int .u64 b1, .int .u64 b2, .int .u64 b3, .slice pb nb cb] 26)) fun e w' => e = .returned (.int .i64 (sizeR (.mk 1 0 0 0 0 0 0 [.mk ka mna mxa a0 a1 a2 a3 la, .mk kb mnb mxb b0 b1 b2 b3 lb]) : Nat)) ∧ Below (wr.alloc (.cells #[.int .i64 ka, .int .i64 mna, .int .i64 mxa, .int .u64 a0, .int .u64 a1, .int .u64 a2, .int .u64 a3, .slice pa na ca, .int .i64 kb, .int .i64 mnb, .int .i64 mxb, .int .u64 b0, .int .u64 b1, .int .u64 b2, .int .u64 b3, .slice pb nb cb] 26)).heap.size (wr.alloc (.cells #[.int .i64 ka, .int .i64 mna, .int .i64 mxa, .int .u64 a0, .int .u64 a1, .int .u64 a2, .int .u64 a3, .slice pa na ca, .int .i64 kb, .int .i64 mnb, .int .i64 mxb, .int .u64 b0, .int .u64 b1, .int .u64 b2, .int .u64 b3, .slice pb nb cb] 26)) w') := fun wr h => S2.out 1 wr h
  have S22 : Hid (∀ wr, I wr → Calls Tryd.prog 14 #[.agg #[.int .i64 2, .int .i64 0, .int .i64 0, .int .u64 0, .int .u64 0, .int .u64 0, .int .u64 0, .slice (some ⟨wr.heap.size, 0, none⟩) 2 2]] (wr.alloc (.cells #[.int .i64 ka, .int .i64 mna, .int .i64 mxa, .int .u64 a0, .int .u64 a1, .int .u64 a2, .int .u64 a3, .slice pa na ca, .int .i64 kb, .int .i64 mnb, .int .i64 mxb, .int .u64 b0, .int .u64 b1, .int .u64 b2, .int .u64 b3, .slice pb nb cb] 26)) fun e w' => e = .returned (.int .i64 (sizeR (.mk 2 0 0 0 0 0 0 [.mk ka mna mxa a0 a1 a2 a3 la, .mk kb mnb mxb b0 b1 b2 b3 lb]) : Nat)) ∧ Below (wr.alloc (.cells #[.int .i64 ka, .int .i64 mna, .int .i64 mxa, .int .u64 a0, .int .u64 a1, .int .u64 a2, .int .u64 a3, .slice pa na ca, .int .i64 kb, .int .i64 mnb, .int .i64 mxb, .int .u64 b0, .int .u64 b1, .int .u64 b2, .int .u64 b3, .slice pb nb cb] 26)).heap.size (wr.alloc (.cells #[.int .i64 ka, .int .i64 mna, .int .i64 mxa, .int .u64 a0, .int .u64 a1, .int .u64 a2, .int .u64 a3, .slice pa na ca, .int .i64 kb, .int .i64 mnb, .int .i64 mxb, .int .u64 b0, .int .u64 b1, .int .u64 b2, .int .u64 b3, .slice pb nb cb] 26)) w') := fun wr h => S2.out 2 wr h
  clear S2
  rw [hzz]
  go_enter Tryd.func6, Tryd.ntmps6
  go_wp2_with (first
    | (go_at_call 11; (with_reducible refine (FX.out _).mono ?_); rintro e w1 ⟨rfl, g1⟩; have i1 := IS.out _ _ I0 g1; obtain ⟨x0, x1, x2, x3, x4, x5, x6, x7, y0, y1, y2, y3, y4, y5, y6, y7⟩ := IC.out _ i1))
  go_region_held3 (fun wr => (wr.cell? ⟨X, 0, none⟩ = some (.int .i64 ka) ∧ wr.cell? ⟨X, 1, none⟩ = some (.int .i64 mna) ∧ wr.cell? ⟨X, 2, none⟩ = some (.int .i64 mxa) ∧ wr.cell? ⟨X, 3, none⟩ = some (.int .u64 a0) ∧ wr.cell? ⟨X, 4, none⟩ = some (.int .u64 a1) ∧ wr.cell? ⟨X, 5, none⟩ = some (.int .u64 a2) ∧ wr.cell? ⟨X, 6, none⟩ = some (.int .u64 a3) ∧ wr.cell? ⟨X, 7, none⟩ = some (.slice pa na ca) ∧ wr.cell? ⟨X + 1, 0, none⟩ = some (.int .i64 kb) ∧ wr.cell? ⟨X + 1, 1, none⟩ = some (.int .i64 mnb) ∧ wr.cell? ⟨X + 1, 2, none⟩ = some (.int .i64 mxb) ∧ wr.cell? ⟨X + 1, 3, none⟩ = some (.int .u64 b0) ∧ wr.cell? ⟨X + 1, 4, none⟩ = some (.int .u64 b1) ∧ wr.cell? ⟨X + 1, 5, none⟩ = some (.int .u64 b2) ∧ wr.cell? ⟨X + 1, 6, none⟩ = some (.int .u64 b3) ∧ wr.cell? ⟨X + 1, 7, none⟩ = some (.slice pb nb cb)) ∧ I wr)
    (first | exact ⟨IC.out _ (ID.out _ i1), ID.out _ i1⟩ | exact ⟨IC.out _ i2, i2⟩ | exact ⟨IC.out _ i3, i3⟩)
    (first
      | (go_at_call 14; (with_reducible refine (SA.out _ (ID.out _ i1)).mono ?_); rintro e w2 ⟨rfl, g2⟩; have i2 := IS.out _ _ (ID.out _ i1) g2)
      | (go_at_call 14; (with_reducible refine (SB.out _ i2).mono ?_); rintro e w3 ⟨rfl, g3⟩; have i3 := IS.out _ _ i2 g3))
  clear i1 i2 g1 g2 g3 I0 x0 x1 x2 x3 x4 x5 x6 x7 y0 y1 y2 y3 y4 y5 y6 y7 FX SA SB
  obtain ⟨x0, x1, x2, x3, x4, x5, x6, x7, y0, y1, y2, y3, y4, y5, y6, y7⟩ := IC.out _ i3
  have BEL : Hid (∀ wr, I wr → Below X w wr) := fun wr h => by rw [← hzz]; exact IB.out wr h
  by_cases hx : x = 0
  · subst hx
    rw [if_pos rfl] at cA
    rw [cA] at CA
    by_cases hy : y = 0
    · subst hy
      rw [if_pos rfl] at cB
      rw [cB] at CB
      go_wp2_with (first
        | (go_at_call 12; (with_reducible refine (CA.out _ i3).mono ?_); rintro e w4 ⟨rfl, g4⟩; have i4 := IS.out _ _ i3 g4; obtain ⟨x0, x1, x2, x3, x4, x5, x6, x7, y0, y1, y2, y3, y4, y5, y6, y7⟩ := IC.out _ i4)
        | (go_at_call 12; (with_reducible refine (CB.out _ i4).mono ?_); rintro e w5 ⟨rfl, g5⟩; have i5 := IS.out _ _ i4 g5))
      go_ret
      exact ⟨rfl, BEL.out _ i5⟩
    · have ey : ((y : Int) == 0) = false := by simp; omega
      rw [if_neg hy] at cB
      obtain ⟨c, hc, hc2⟩ : ∃ c, checkR (.mk kb mnb mxb b0 b1 b2 b3 lb) = c ∧ (c == 52) = false := by
        rw [cB]; split
        · exact ⟨_, rfl, by decide⟩
        · exact ⟨_, rfl, by decide⟩
      rw [hc] at CB
      clear hc cB hy
      go_wp2_with (first
        | (go_at_call 12; (with_reducible refine (CA.out _ i3).mono ?_); rintro e w4 ⟨rfl, g4⟩; have i4 := IS.out _ _ i3 g4; obtain ⟨x0, x1, x2, x3, x4, x5, x6, x7, y0, y1, y2, y3, y4, y5, y6, y7⟩ := IC.out _ i4)
        | (go_at_call 12; (with_reducible refine (CB.out _ i4).mono ?_); rintro e w5 ⟨rfl, g5⟩; have i5 := IS.out _ _ i4 g5))
      go_ret
      exact ⟨rfl, BEL.out _ i5⟩
  · have ex : ((x : Int) == 0) = false := by simp; omega
    rw [if_neg hx] at cA
    obtain ⟨d, hd, hd2⟩ : ∃ d, checkR (.mk ka mna mxa a0 a1 a2 a3 la) = d ∧ (d == 52) = false := by
      rw [cA]; split
      · exact ⟨_, rfl, by decide⟩
      · exact ⟨_, rfl, by decide⟩
    rw [hd] at CA
    clear hd cA
    by_cases hy : y = 0
    · subst hy
      rw [if_pos rfl] at cB
      rw [cB] at CB
      go_wp2_with (first
        | (go_at_call 12; (with_reducible refine (CA.out _ i3).mono ?_); rintro e w4 ⟨rfl, g4⟩; have i4 := IS.out _ _ i3 g4; obtain ⟨x0, x1, x2, x3, x4, x5, x6, x7, y0, y1, y2, y3, y4, y5, y6, y7⟩ := IC.out _ i4)
        | (go_at_call 12; (with_reducible refine (CB.out _ i4).mono ?_); rintro e w5 ⟨rfl, g5⟩; have i5 := IS.out _ _ i4 g5))
      go_ret
      exact ⟨rfl, BEL.out _ i5⟩
    · have ey : ((y : Int) == 0) = false := by simp; omega
      clear cB CA CB
      have hT' := hT hx hy
      have hT2' := hT2 hx hy
      rw [hT2'] at S22
      rw [hT'] at S21
      clear hT hT2 hT' hT2'
      obtain ⟨M, hM⟩ : ∃ M, min 257 (1 + x + y) = M := ⟨_, rfl⟩
      rw [hM] at S21 S22
      have hMi : min (257 : Int) (1 + (x : Int) + (y : Int)) = (M : Int) := by omega
      clear hM
      by_cases hn : n < 0 ∨ 15 < n
      · have hat : areT n (-1) = false := by
          cases hh : areT n (-1) with
          | false => rfl
          | true => rw [areT_iff] at hh; omega
        have S1n := Lib.hid (fun wr h => S1.out n (-1) wr h)
        rw [hR0 _ _ hat] at S1n
        clear hat hR hR0 S1
        go_wp2_with (first
          | (go_at_call 14; (with_reducible refine (S21.out _ i3).mono ?_); rintro e w4 ⟨rfl, g4⟩; have i4 := IS.out _ _ (IN.out _ _ i3) g4; obtain ⟨x0, x1, x2, x3, x4, x5, x6, x7, y0, y1, y2, y3, y4, y5, y6, y7⟩ := IC.out _ i4)
          | (go_at_call 14; (with_reducible refine (S22.out _ i4).mono ?_); rintro e w5 ⟨rfl, g5⟩; have i5 := IS.out _ _ (IN.out _ _ i4) g5; obtain ⟨x0, x1, x2, x3, x4, x5, x6, x7, y0, y1, y2, y3, y4, y5, y6, y7⟩ := IC.out _ i5)
          | (go_at_call 14; (with_reducible refine (S1n.out _ i5).mono ?_); rintro e w6 ⟨rfl, g6⟩; have i6 := IS.out _ _ (IN.out _ _ i5) g6))
        all_goals
          go_ret
          exact ⟨rfl, BEL.out _ i6⟩
      · obtain ⟨m, rfl⟩ : ∃ m : Nat, n = (m : Int) := ⟨n.toNat, by omega⟩
        have hm15 : m ≤ 15 := by omega
        have at1 : areT (m : Int) (-1) = true := by rw [areT_iff]; omega
        have at2 : areT 0 (m : Int) = true := by rw [areT_iff]; omega
        have tm1 : timesF (m : Int) (-1) = max 1 m := by unfold timesF; omega
        have tm2 : timesF 0 (m : Int) = max 1 m := by unfold timesF; omega
        have S1n := Lib.hid (fun wr h => S1.out (m : Int) (-1) wr h)
        have S1z := Lib.hid (fun wr h => S1.out 0 (m : Int) wr h)
        rw [hR _ _ at1 hx, tm1] at S1n
        rw [hR _ _ at2 hx, tm2] at S1z
        obtain ⟨q, hq⟩ : ∃ q, max 1 m = q := ⟨_, rfl⟩
        have hqi : max (1 : Int) (m : Int) = (q : Int) := by omega
        have hq15 : q ≤ 15 := by omega
        rw [hq] at S1n S1z
        obtain ⟨P, hP⟩ : ∃ P, x * q = P := ⟨_, rfl⟩
        have hPb : P ≤ 257 * 15 := by rw [← hP]; exact Nat.mul_le_mul leA hq15
        have hPi : (q : Int) * (x : Int) = (P : Int) := by rw [← hP, Nat.mul_comm]; simp
        rw [hP] at S1n S1z
        obtain ⟨M2, hM2⟩ : ∃ M2, min 257 (1 + P) = M2 := ⟨_, rfl⟩
        rw [hM2] at S1n S1z
        have hM2i : min (257 : Int) (1 + (P : Int)) = (M2 : Int) := by omega
        have g1 : ¬ (m : Int) < 0 := by omega
        have g2 : ¬ 15 < (m : Int) := by omega
        clear hR hR0 S1 hM2 hP hq at1 at2 tm1 tm2 hn
        go_wp2_with (first
          | (go_at_call 14; (with_reducible refine (S21.out _ i3).mono ?_); rintro e w4 ⟨rfl, g4⟩; have i4 := IS.out _ _ (IN.out _ _ i3) g4; obtain ⟨x0, x1, x2, x3, x4, x5, x6, x7, y0, y1, y2, y3, y4, y5, y6, y7⟩ := IC.out _ i4)
          | (go_at_call 14; (with_reducible refine (S22.out _ i4).mono ?_); rintro e w5 ⟨rfl, g5⟩; have i5 := IS.out _ _ (IN.out _ _ i4) g5; obtain ⟨x0, x1, x2, x3, x4, x5, x6, x7, y0, y1, y2, y3, y4, y5, y6, y7⟩ := IC.out _ i5)
          | (go_at_call 14; (with_reducible refine (S1n.out _ i5).mono ?_); rintro e w6 ⟨rfl, g6⟩; have i6 := IS.out _ _ (IN.out _ _ i5) g6; obtain ⟨x0, x1, x2, x3, x4, x5, x6, x7, y0, y1, y2, y3, y4, y5, y6, y7⟩ := IC.out _ i6)
          | (go_at_call 14; (with_reducible refine (S1z.out _ i6).mono ?_); rintro e w7 ⟨rfl, g7⟩; have i7 := IS.out _ _ (IN.out _ _ i6) g7))
        all_goals
          go_ret
          exact ⟨rfl, BEL.out _ i7⟩
end Go.Proofs.YthejkelnjimogaaDoor
