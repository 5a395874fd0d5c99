/- An expression is read from its pattern as what it was; whatever pattern is read, its own pattern is read the same: what the law's call returns. Conditions: the expression lies in memory, its numbers are a machine's. -/
import Derived.Test.YthejkelnjimogaaDoorOpn
import Derived.Test.YthejkelnjimogaaDoorPrm
import Derived.Test.YthejkelnjimogaaDoorSam
namespace Go.Proofs.YthejkelnjimogaaDoor
open Go.RowKit
set_option linter.unusedVariables false

theorem parse_yes' {s : ByteArray} {w : World} {l : Bs} {t : Rx} {k mn mx x0 x1 x2 x3 : Int} {ls : List Rx} {n : Int} (hs : s.data.toList = l) (ht : t = .mk k mn mx x0 x1 x2 x3 ls) (hp : parseS l = (some t, n)) :
    Calls Tryd.prog 16 #[.string s] w fun e w' => Below w.heap.size w w' ∧ ∃ ao cp, e = .returned (.tuple #[.agg #[.int .i64 k, .int .i64 mn, .int .i64 mx, .int .u64 x0, .int .u64 x1, .int .u64 x2, .int .u64 x3, .slice ao ls.length cp], .int .i64 n]) ∧ LiesL (w.heap.size ≤ ·) w' (.slice ao ls.length cp) ls := by
  subst ht
  exact parse_yes hs hp
theorem str_list (l : Bs) : (str l).data.toList = l := by simp [str]
set_option maxRecDepth 100000 in
set_option maxHeartbeats 16000000 in
theorem back_walk (t : Rx) (va : Value) (s : ByteArray) (w : World) (ha : LiesL (fun _ => True) w va t.list) (ho : okR t) :
    Calls Tryd.prog 5 #[t.val va, .string s] w fun e w' => e = .returned (.bool true) ∧ Below w.heap.size w w' := by
  have FX := Lib.hid fixed_any
  have PE' := fun w1 (g : Below w.heap.size w w1) => print_any w1 va t (ha.stay g) ho
  have CE' := fun w1 (g : Below w.heap.size w w1) => check_any w1 va t (ha.stay g)
  have SE' := fun (D : Nat) (v2 : Value) (w1 : World) (g : Below w.heap.size w w1) (h2 : LiesL (D ≤ ·) w1 v2 t.list) => same_any w1 va v2 t (ha.stay g) h2
  have SZ : Hid (∀ w, Calls Tryd.prog 18 #[.agg #[.int .i64 0, .int .i64 0, .int .i64 0, .int .u64 0, .int .u64 0, .int .u64 0, .int .u64 0, .slice none 0 0], .agg #[.int .i64 0, .int .i64 0, .int .i64 0, .int .u64 0, .int .u64 0, .int .u64 0, .int .u64 0, .slice none 0 0]] w fun e w' => e = .returned (.bool true) ∧ Below w.heap.size w w') := fun w => same_any w (.slice none 0 0) (.slice none 0 0) (.mk 0 0 0 0 0 0 0 []) (LiesL.nil (fun _ => True) w) (LiesL.nil (fun _ => True) w)
  obtain ⟨pa, ca, hva⟩ := ha.value
  subst hva
  obtain ⟨P, hP⟩ : ∃ P, printS t = P := ⟨_, rfl⟩
  have hk := print_kinds t
  have hb := fun h => print_back (t := t) ho h
  rw [hP] at PE' hk hb
  obtain ⟨Ps, n⟩ := P
  dsimp only at PE' hk hb
  clear hP ha ho
  obtain ⟨k, mn, mx, s0, s1, s2, s3, la⟩ := t
  unfold Rx.val at PE' CE' ⊢
  dsimp only [Rx.cells, cellsX, Rx.list] at *
  have PE := Lib.hid PE'
  by_cases hn : n = 0
  · subst hn
    obtain ⟨hc, hm, hps, _, _⟩ := hb rfl
    rw [hc] at CE'
    have CE := Lib.hid CE'
    have SE : Hid (∀ (D : Nat) (bo : Option Addr) (cq : Nat) (w1 : World), Below w.heap.size w w1 → LiesL (D ≤ ·) w1 (.slice bo la.length cq) la → Calls Tryd.prog 18 #[.agg #[.int .i64 k, .int .i64 mn, .int .i64 mx, .int .u64 s0, .int .u64 s1, .int .u64 s2, .int .u64 s3, .slice pa la.length ca], .agg #[.int .i64 k, .int .i64 mn, .int .i64 mx, .int .u64 s0, .int .u64 s1, .int .u64 s2, .int .u64 s3, .slice bo la.length cq]] w1 fun e w' => e = .returned (.bool true) ∧ Below w1.heap.size w1 w') := fun D bo cq w1 g h2 => SE' D (.slice bo la.length cq) w1 g h2
    have PA := Lib.hid (fun w => parse_yes (s := str Ps) (w := w) (str_list _) hps)
    clear hb hk hc hm hps PE' CE' SE'
    generalize str Ps = sp at *
    cases hps : parseS s.data.toList with
    | mk oy n2 =>
      cases oy with
      | none =>
        have PS : Hid (∀ w, Calls Tryd.prog 16 #[.string s] w fun e w' => e = .returned (.tuple #[.agg #[.int .i64 0, .int .i64 0, .int .i64 0, .int .u64 0, .int .u64 0, .int .u64 0, .int .u64 0, .slice none 0 0], .int .i64 n2]) ∧ Below w.heap.size w w') := fun w => parse_no rfl hps
        have hn2 : (n2 != 0) = true := by rcases parse_err hps with rfl | rfl <;> rfl
        clear hps
        go_enter Tryd.func5, Tryd.ntmps5
        go_wp2_with (first
          | (go_at_call 9; (with_reducible refine (PE.out _ (below_new w _)).mono ?_); rintro e w1 ⟨rfl, g1⟩; have r1 := cell_stay (heap_alloc_new w (.cells #[.int .i64 k, .int .i64 mn, .int .i64 mx, .int .u64 s0, .int .u64 s1, .int .u64 s2, .int .u64 s3, .slice pa la.length ca] 26)) g1; have b1 := below_trans (below_new w _) g1; obtain ⟨r1c0, r1c1, r1c2, r1c3, r1c4, r1c5, r1c6, r1c7⟩ := cells8 r1)
          | (go_at_call 11; (with_reducible refine (FX.out _).mono ?_); rintro e w2 ⟨rfl, g2⟩; have r2 := cell_stay r1 g2; have b2 := below_trans b1 g2; obtain ⟨r2c0, r2c1, r2c2, r2c3, r2c4, r2c5, r2c6, r2c7⟩ := cells8 r2)
          | (go_at_call 12; (with_reducible refine (CE.out _ b2).mono ?_); rintro e w3 ⟨rfl, g3⟩; have r3 := cell_stay r2 g3; have b3 := below_trans b2 g3; obtain ⟨r3c0, r3c1, r3c2, r3c3, r3c4, r3c5, r3c6, r3c7⟩ := cells8 r3)
          | (go_at_call 16; (with_reducible refine (PA.out _).mono ?_); rintro e w4 ⟨g4, px, cx, rfl, l4⟩; have r4 := cell_stay (cell_stay r3 g4) (below_new w4 (.cells #[.int .i64 k, .int .i64 mn, .int .i64 mx, .int .u64 s0, .int .u64 s1, .int .u64 s2, .int .u64 s3, .slice px la.length cx] 26)); have q4 := heap_alloc_new w4 (.cells #[.int .i64 k, .int .i64 mn, .int .i64 mx, .int .u64 s0, .int .u64 s1, .int .u64 s2, .int .u64 s3, .slice px la.length cx] 26); have b4 := below_trans (below_trans b3 g4) (below_new w4 (.cells #[.int .i64 k, .int .i64 mn, .int .i64 mx, .int .u64 s0, .int .u64 s1, .int .u64 s2, .int .u64 s3, .slice px la.length cx] 26)); have l4a := l4.stay (below_new w4 (.cells #[.int .i64 k, .int .i64 mn, .int .i64 mx, .int .u64 s0, .int .u64 s1, .int .u64 s2, .int .u64 s3, .slice px la.length cx] 26)); obtain ⟨r4c0, r4c1, r4c2, r4c3, r4c4, r4c5, r4c6, r4c7⟩ := cells8 r4; obtain ⟨q4c0, q4c1, q4c2, q4c3, q4c4, q4c5, q4c6, q4c7⟩ := cells8 q4)
          | (go_at_call 18; (with_reducible refine (SE.out _ _ _ _ b4 l4a).mono ?_); rintro e w5 ⟨rfl, g5⟩; have b5 := below_trans b4 g5)
          | (go_at_call 16; (with_reducible refine (PS.out _).mono ?_); rintro e w6 ⟨rfl, g6⟩; have q6 := heap_alloc_new w6 (.cells #[.int .i64 0, .int .i64 0, .int .i64 0, .int .u64 0, .int .u64 0, .int .u64 0, .int .u64 0, .slice none 0 0] 26); have b6 := below_trans (below_trans b5 g6) (below_new w6 (.cells #[.int .i64 0, .int .i64 0, .int .i64 0, .int .u64 0, .int .u64 0, .int .u64 0, .int .u64 0, .slice none 0 0] 26)); obtain ⟨q6c0, q6c1, q6c2, q6c3, q6c4, q6c5, q6c6, q6c7⟩ := cells8 q6)
          | (go_at_call 18; (with_reducible refine (SZ.out _).mono ?_); rintro e w7 ⟨rfl, g7⟩; have bz := below_trans b6 g7))
        go_ret
        exact ⟨rfl, bz⟩
      | some ty =>
        obtain ⟨rfl, hmy, hy257⟩ := parse_may hps
        obtain ⟨k', mn', mx', t0, t1, t2, t3, lb⟩ := ty
        have PS : Hid (∀ w, Calls Tryd.prog 16 #[.string s] w fun e w' => Below w.heap.size w w' ∧ ∃ ao cp, e = .returned (.tuple #[.agg #[.int .i64 k', .int .i64 mn', .int .i64 mx', .int .u64 t0, .int .u64 t1, .int .u64 t2, .int .u64 t3, .slice ao lb.length cp], .int .i64 0]) ∧ LiesL (w.heap.size ≤ ·) w' (.slice ao lb.length cp) lb) := fun w => parse_yes rfl hps
        have CY : Hid (∀ (D : Nat) (ao : Option Addr) (cp : Nat) (w : World), LiesL (D ≤ ·) w (.slice ao lb.length cp) lb → Calls Tryd.prog 12 #[.agg #[.int .i64 k', .int .i64 mn', .int .i64 mx', .int .u64 t0, .int .u64 t1, .int .u64 t2, .int .u64 t3, .slice ao lb.length cp]] w fun e w' => e = .returned (.int .i64 0) ∧ Below w.heap.size w w') := fun D ao cp w h => by
          have := check_any w (.slice ao lb.length cp) (.mk k' mn' mx' t0 t1 t2 t3 lb) h
          rw [check_zero hmy hy257] at this
          exact this
        have SY : Hid (∀ (D D2 : Nat) (ao : Option Addr) (cp : Nat) (bo : Option Addr) (cq : Nat) (w : World), LiesL (D ≤ ·) w (.slice ao lb.length cp) lb → LiesL (D2 ≤ ·) w (.slice bo lb.length cq) lb → Calls Tryd.prog 18 #[.agg #[.int .i64 k', .int .i64 mn', .int .i64 mx', .int .u64 t0, .int .u64 t1, .int .u64 t2, .int .u64 t3, .slice ao lb.length cp], .agg #[.int .i64 k', .int .i64 mn', .int .i64 mx', .int .u64 t0, .int .u64 t1, .int .u64 t2, .int .u64 t3, .slice bo lb.length cq]] w fun e w' => e = .returned (.bool true) ∧ Below w.heap.size w w') := fun D D2 ao cp bo cq w h h2 => same_any w (.slice ao lb.length cp) (.slice bo lb.length cq) (.mk k' mn' mx' t0 t1 t2 t3 lb) h h2
        have PY0 := fun (D : Nat) (ao : Option Addr) (cp : Nat) (w : World) (h : LiesL (D ≤ ·) w (.slice ao lb.length cp) lb) => print_any w (.slice ao lb.length cp) (.mk k' mn' mx' t0 t1 t2 t3 lb) h hmy.2
        by_cases hl : (patR (.mk k' mn' mx' t0 t1 t2 t3 lb)).length ≤ 128
        · have hpr : printS (.mk k' mn' mx' t0 t1 t2 t3 lb) = (patR (.mk k' mn' mx' t0 t1 t2 t3 lb), 0) := by unfold printS; rw [if_neg (by simp [check_zero hmy hy257]), if_neg (by omega)]
          have hpz : parseS (patR (.mk k' mn' mx' t0 t1 t2 t3 lb)) = (some (.mk k' mn' mx' t0 t1 t2 t3 lb), 0) := by rw [parse_back hmy, if_neg (by omega), if_neg hy257]
          rw [hpr] at PY0
          have PZ0 := fun w => parse_yes (s := str (patR (.mk k' mn' mx' t0 t1 t2 t3 lb))) (w := w) (str_list _) hpz
          have hsz : (str (patR (.mk k' mn' mx' t0 t1 t2 t3 lb))).size ≤ 128 := by rw [str_size]; exact hl
          dsimp only at PY0
          generalize patR (.mk k' mn' mx' t0 t1 t2 t3 lb) = Py at *
          have hszi : ((str Py).size : Int) ≤ 128 := by omega
          have PY : Hid (∀ (D : Nat) (ao : Option Addr) (cp : Nat) (w : World), LiesL (D ≤ ·) w (.slice ao lb.length cp) lb → Calls Tryd.prog 9 #[.agg #[.int .i64 k', .int .i64 mn', .int .i64 mx', .int .u64 t0, .int .u64 t1, .int .u64 t2, .int .u64 t3, .slice ao lb.length cp]] w fun e w' => e = .returned (.tuple #[.string (str Py), .int .i64 0]) ∧ Below w.heap.size w w') := PY0
          have PZ := Lib.hid PZ0
          clear PY0 PZ0 hpr hpz hmy hy257 hps hl CY hsz
          generalize str Py = sy at *
          go_enter Tryd.func5, Tryd.ntmps5
          go_wp2_with (first
            | (go_at_call 9; (with_reducible refine (PE.out _ (below_new w _)).mono ?_); rintro e w1 ⟨rfl, g1⟩; have r1 := cell_stay (heap_alloc_new w (.cells #[.int .i64 k, .int .i64 mn, .int .i64 mx, .int .u64 s0, .int .u64 s1, .int .u64 s2, .int .u64 s3, .slice pa la.length ca] 26)) g1; have b1 := below_trans (below_new w _) g1; obtain ⟨r1c0, r1c1, r1c2, r1c3, r1c4, r1c5, r1c6, r1c7⟩ := cells8 r1)
            | (go_at_call 11; (with_reducible refine (FX.out _).mono ?_); rintro e w2 ⟨rfl, g2⟩; have r2 := cell_stay r1 g2; have b2 := below_trans b1 g2; obtain ⟨r2c0, r2c1, r2c2, r2c3, r2c4, r2c5, r2c6, r2c7⟩ := cells8 r2)
            | (go_at_call 12; (with_reducible refine (CE.out _ b2).mono ?_); rintro e w3 ⟨rfl, g3⟩; have r3 := cell_stay r2 g3; have b3 := below_trans b2 g3; obtain ⟨r3c0, r3c1, r3c2, r3c3, r3c4, r3c5, r3c6, r3c7⟩ := cells8 r3)
            | (go_at_call 16; (with_reducible refine (PA.out _).mono ?_); rintro e w4 ⟨g4, px, cx, rfl, l4⟩; have r4 := cell_stay (cell_stay r3 g4) (below_new w4 (.cells #[.int .i64 k, .int .i64 mn, .int .i64 mx, .int .u64 s0, .int .u64 s1, .int .u64 s2, .int .u64 s3, .slice px la.length cx] 26)); have q4 := heap_alloc_new w4 (.cells #[.int .i64 k, .int .i64 mn, .int .i64 mx, .int .u64 s0, .int .u64 s1, .int .u64 s2, .int .u64 s3, .slice px la.length cx] 26); have b4 := below_trans (below_trans b3 g4) (below_new w4 (.cells #[.int .i64 k, .int .i64 mn, .int .i64 mx, .int .u64 s0, .int .u64 s1, .int .u64 s2, .int .u64 s3, .slice px la.length cx] 26)); have l4a := l4.stay (below_new w4 (.cells #[.int .i64 k, .int .i64 mn, .int .i64 mx, .int .u64 s0, .int .u64 s1, .int .u64 s2, .int .u64 s3, .slice px la.length cx] 26)); obtain ⟨r4c0, r4c1, r4c2, r4c3, r4c4, r4c5, r4c6, r4c7⟩ := cells8 r4; obtain ⟨q4c0, q4c1, q4c2, q4c3, q4c4, q4c5, q4c6, q4c7⟩ := cells8 q4)
            | (go_at_call 18; (with_reducible refine (SE.out _ _ _ _ b4 l4a).mono ?_); rintro e w5 ⟨rfl, g5⟩; have b5 := below_trans b4 g5)
            | (go_at_call 16; (with_reducible refine (PS.out _).mono ?_); rintro e w6 ⟨g6, py, cy, rfl, l6⟩; have l6a := l6.stay (below_new w6 (.cells #[.int .i64 k', .int .i64 mn', .int .i64 mx', .int .u64 t0, .int .u64 t1, .int .u64 t2, .int .u64 t3, .slice py lb.length cy] 26)); have q6 := heap_alloc_new w6 (.cells #[.int .i64 k', .int .i64 mn', .int .i64 mx', .int .u64 t0, .int .u64 t1, .int .u64 t2, .int .u64 t3, .slice py lb.length cy] 26); have b6 := below_trans (below_trans b5 g6) (below_new w6 (.cells #[.int .i64 k', .int .i64 mn', .int .i64 mx', .int .u64 t0, .int .u64 t1, .int .u64 t2, .int .u64 t3, .slice py lb.length cy] 26)); obtain ⟨q6c0, q6c1, q6c2, q6c3, q6c4, q6c5, q6c6, q6c7⟩ := cells8 q6)
            | (go_at_call 9; (with_reducible refine (PY.out _ _ _ _ l6a).mono ?_); rintro e w7 ⟨rfl, g7⟩; have l7 := l6a.stay g7; have q7 := cell_stay q6 g7; have b7 := below_trans b6 g7; obtain ⟨q7c0, q7c1, q7c2, q7c3, q7c4, q7c5, q7c6, q7c7⟩ := cells8 q7)
            | (go_at_call 16; (with_reducible refine (PZ.out _).mono ?_); rintro e w8 ⟨g8, pz, cz, rfl, l8⟩; have l8a := l8.stay (below_new w8 (.cells #[.int .i64 k', .int .i64 mn', .int .i64 mx', .int .u64 t0, .int .u64 t1, .int .u64 t2, .int .u64 t3, .slice pz lb.length cz] 26)); have l7a := (l7.stay g8).stay (below_new w8 (.cells #[.int .i64 k', .int .i64 mn', .int .i64 mx', .int .u64 t0, .int .u64 t1, .int .u64 t2, .int .u64 t3, .slice pz lb.length cz] 26)); have r8 := cell_stay (cell_stay q7 g8) (below_new w8 (.cells #[.int .i64 k', .int .i64 mn', .int .i64 mx', .int .u64 t0, .int .u64 t1, .int .u64 t2, .int .u64 t3, .slice pz lb.length cz] 26)); have q8 := heap_alloc_new w8 (.cells #[.int .i64 k', .int .i64 mn', .int .i64 mx', .int .u64 t0, .int .u64 t1, .int .u64 t2, .int .u64 t3, .slice pz lb.length cz] 26); have b8 := below_trans (below_trans b7 g8) (below_new w8 (.cells #[.int .i64 k', .int .i64 mn', .int .i64 mx', .int .u64 t0, .int .u64 t1, .int .u64 t2, .int .u64 t3, .slice pz lb.length cz] 26)); obtain ⟨r8c0, r8c1, r8c2, r8c3, r8c4, r8c5, r8c6, r8c7⟩ := cells8 r8; obtain ⟨q8c0, q8c1, q8c2, q8c3, q8c4, q8c5, q8c6, q8c7⟩ := cells8 q8)
            | (go_at_call 18; (with_reducible refine (SY.out _ _ _ _ _ _ _ l7a l8a).mono ?_); rintro e w9 ⟨rfl, g9⟩; have bz := below_trans b8 g9))
          go_ret
          exact ⟨rfl, bz⟩
        · have hpr : printS (.mk k' mn' mx' t0 t1 t2 t3 lb) = ([], 51) := by unfold printS; rw [if_neg (by simp [check_zero hmy hy257]), if_pos (by omega)]
          rw [hpr] at PY0
          have PY : Hid (∀ (D : Nat) (ao : Option Addr) (cp : Nat) (w : World), LiesL (D ≤ ·) w (.slice ao lb.length cp) lb → Calls Tryd.prog 9 #[.agg #[.int .i64 k', .int .i64 mn', .int .i64 mx', .int .u64 t0, .int .u64 t1, .int .u64 t2, .int .u64 t3, .slice ao lb.length cp]] w fun e w' => e = .returned (.tuple #[.string ⟨#[]⟩, .int .i64 51]) ∧ Below w.heap.size w w') := PY0
          clear PY0 hpr hmy hy257 hps hl SY
          go_enter Tryd.func5, Tryd.ntmps5
          go_wp2_with (first
            | (go_at_call 9; (with_reducible refine (PE.out _ (below_new w _)).mono ?_); rintro e w1 ⟨rfl, g1⟩; have r1 := cell_stay (heap_alloc_new w (.cells #[.int .i64 k, .int .i64 mn, .int .i64 mx, .int .u64 s0, .int .u64 s1, .int .u64 s2, .int .u64 s3, .slice pa la.length ca] 26)) g1; have b1 := below_trans (below_new w _) g1; obtain ⟨r1c0, r1c1, r1c2, r1c3, r1c4, r1c5, r1c6, r1c7⟩ := cells8 r1)
            | (go_at_call 11; (with_reducible refine (FX.out _).mono ?_); rintro e w2 ⟨rfl, g2⟩; have r2 := cell_stay r1 g2; have b2 := below_trans b1 g2; obtain ⟨r2c0, r2c1, r2c2, r2c3, r2c4, r2c5, r2c6, r2c7⟩ := cells8 r2)
            | (go_at_call 12; (with_reducible refine (CE.out _ b2).mono ?_); rintro e w3 ⟨rfl, g3⟩; have r3 := cell_stay r2 g3; have b3 := below_trans b2 g3; obtain ⟨r3c0, r3c1, r3c2, r3c3, r3c4, r3c5, r3c6, r3c7⟩ := cells8 r3)
            | (go_at_call 16; (with_reducible refine (PA.out _).mono ?_); rintro e w4 ⟨g4, px, cx, rfl, l4⟩; have r4 := cell_stay (cell_stay r3 g4) (below_new w4 (.cells #[.int .i64 k, .int .i64 mn, .int .i64 mx, .int .u64 s0, .int .u64 s1, .int .u64 s2, .int .u64 s3, .slice px la.length cx] 26)); have q4 := heap_alloc_new w4 (.cells #[.int .i64 k, .int .i64 mn, .int .i64 mx, .int .u64 s0, .int .u64 s1, .int .u64 s2, .int .u64 s3, .slice px la.length cx] 26); have b4 := below_trans (below_trans b3 g4) (below_new w4 (.cells #[.int .i64 k, .int .i64 mn, .int .i64 mx, .int .u64 s0, .int .u64 s1, .int .u64 s2, .int .u64 s3, .slice px la.length cx] 26)); have l4a := l4.stay (below_new w4 (.cells #[.int .i64 k, .int .i64 mn, .int .i64 mx, .int .u64 s0, .int .u64 s1, .int .u64 s2, .int .u64 s3, .slice px la.length cx] 26)); obtain ⟨r4c0, r4c1, r4c2, r4c3, r4c4, r4c5, r4c6, r4c7⟩ := cells8 r4; obtain ⟨q4c0, q4c1, q4c2, q4c3, q4c4, q4c5, q4c6, q4c7⟩ := cells8 q4)
            | (go_at_call 18; (with_reducible refine (SE.out _ _ _ _ b4 l4a).mono ?_); rintro e w5 ⟨rfl, g5⟩; have b5 := below_trans b4 g5)
            | (go_at_call 16; (with_reducible refine (PS.out _).mono ?_); rintro e w6 ⟨g6, py, cy, rfl, l6⟩; have l6a := l6.stay (below_new w6 (.cells #[.int .i64 k', .int .i64 mn', .int .i64 mx', .int .u64 t0, .int .u64 t1, .int .u64 t2, .int .u64 t3, .slice py lb.length cy] 26)); have q6 := heap_alloc_new w6 (.cells #[.int .i64 k', .int .i64 mn', .int .i64 mx', .int .u64 t0, .int .u64 t1, .int .u64 t2, .int .u64 t3, .slice py lb.length cy] 26); have b6 := below_trans (below_trans b5 g6) (below_new w6 (.cells #[.int .i64 k', .int .i64 mn', .int .i64 mx', .int .u64 t0, .int .u64 t1, .int .u64 t2, .int .u64 t3, .slice py lb.length cy] 26)); obtain ⟨q6c0, q6c1, q6c2, q6c3, q6c4, q6c5, q6c6, q6c7⟩ := cells8 q6)
            | (go_at_call 9; (with_reducible refine (PY.out _ _ _ _ l6a).mono ?_); rintro e w7 ⟨rfl, g7⟩; have l7 := l6a.stay g7; have q7 := cell_stay q6 g7; have b7 := below_trans b6 g7; obtain ⟨q7c0, q7c1, q7c2, q7c3, q7c4, q7c5, q7c6, q7c7⟩ := cells8 q7)
            | (go_at_call 12; (with_reducible refine (CY.out _ _ _ _ l7).mono ?_); rintro e w8 ⟨rfl, g8⟩; have bz := below_trans b7 g8))
          go_ret
          exact ⟨rfl, bz⟩
  · have hn0 : (n == 0) = false := by simpa using hn
    have hn1 : (n != 0) = true := by simpa using hn
    clear hb hk PE' CE' SE'
    generalize str Ps = sp at *
    cases hps : parseS s.data.toList with
    | mk oy n2 =>
      cases oy with
      | none =>
        have PS : Hid (∀ w, Calls Tryd.prog 16 #[.string s] w fun e w' => e = .returned (.tuple #[.agg #[.int .i64 0, .int .i64 0, .int .i64 0, .int .u64 0, .int .u64 0, .int .u64 0, .int .u64 0, .slice none 0 0], .int .i64 n2]) ∧ Below w.heap.size w w') := fun w => parse_no rfl hps
        have hn2 : (n2 != 0) = true := by rcases parse_err hps with rfl | rfl <;> rfl
        clear hps
        go_enter Tryd.func5, Tryd.ntmps5
        go_wp2_with (first
          | (go_at_call 9; (with_reducible refine (PE.out _ (below_new w _)).mono ?_); rintro e w1 ⟨rfl, g1⟩; have r1 := cell_stay (heap_alloc_new w (.cells #[.int .i64 k, .int .i64 mn, .int .i64 mx, .int .u64 s0, .int .u64 s1, .int .u64 s2, .int .u64 s3, .slice pa la.length ca] 26)) g1; have b1 := below_trans (below_new w _) g1; obtain ⟨r1c0, r1c1, r1c2, r1c3, r1c4, r1c5, r1c6, r1c7⟩ := cells8 r1)
          | (go_at_call 11; (with_reducible refine (FX.out _).mono ?_); rintro e w2 ⟨rfl, g2⟩; have r2 := cell_stay r1 g2; have b2 := below_trans b1 g2; obtain ⟨r2c0, r2c1, r2c2, r2c3, r2c4, r2c5, r2c6, r2c7⟩ := cells8 r2)
          | (go_at_call 16; (with_reducible refine (PS.out _).mono ?_); rintro e w6 ⟨rfl, g6⟩; have q6 := heap_alloc_new w6 (.cells #[.int .i64 0, .int .i64 0, .int .i64 0, .int .u64 0, .int .u64 0, .int .u64 0, .int .u64 0, .slice none 0 0] 26); have b6 := below_trans (below_trans b2 g6) (below_new w6 (.cells #[.int .i64 0, .int .i64 0, .int .i64 0, .int .u64 0, .int .u64 0, .int .u64 0, .int .u64 0, .slice none 0 0] 26)); obtain ⟨q6c0, q6c1, q6c2, q6c3, q6c4, q6c5, q6c6, q6c7⟩ := cells8 q6)
          | (go_at_call 18; (with_reducible refine (SZ.out _).mono ?_); rintro e w7 ⟨rfl, g7⟩; have bz := below_trans b6 g7))
        go_ret
        exact ⟨rfl, bz⟩
      | some ty =>
        obtain ⟨rfl, hmy, hy257⟩ := parse_may hps
        obtain ⟨k', mn', mx', t0, t1, t2, t3, lb⟩ := ty
        have PS : Hid (∀ w, Calls Tryd.prog 16 #[.string s] w fun e w' => Below w.heap.size w w' ∧ ∃ ao cp, e = .returned (.tuple #[.agg #[.int .i64 k', .int .i64 mn', .int .i64 mx', .int .u64 t0, .int .u64 t1, .int .u64 t2, .int .u64 t3, .slice ao lb.length cp], .int .i64 0]) ∧ LiesL (w.heap.size ≤ ·) w' (.slice ao lb.length cp) lb) := fun w => parse_yes rfl hps
        have CY : Hid (∀ (D : Nat) (ao : Option Addr) (cp : Nat) (w : World), LiesL (D ≤ ·) w (.slice ao lb.length cp) lb → Calls Tryd.prog 12 #[.agg #[.int .i64 k', .int .i64 mn', .int .i64 mx', .int .u64 t0, .int .u64 t1, .int .u64 t2, .int .u64 t3, .slice ao lb.length cp]] w fun e w' => e = .returned (.int .i64 0) ∧ Below w.heap.size w w') := fun D ao cp w h => by
          have := check_any w (.slice ao lb.length cp) (.mk k' mn' mx' t0 t1 t2 t3 lb) h
          rw [check_zero hmy hy257] at this
          exact this
        have SY : Hid (∀ (D D2 : Nat) (ao : Option Addr) (cp : Nat) (bo : Option Addr) (cq : Nat) (w : World), LiesL (D ≤ ·) w (.slice ao lb.length cp) lb → LiesL (D2 ≤ ·) w (.slice bo lb.length cq) lb → Calls Tryd.prog 18 #[.agg #[.int .i64 k', .int .i64 mn', .int .i64 mx', .int .u64 t0, .int .u64 t1, .int .u64 t2, .int .u64 t3, .slice ao lb.length cp], .agg #[.int .i64 k', .int .i64 mn', .int .i64 mx', .int .u64 t0, .int .u64 t1, .int .u64 t2, .int .u64 t3, .slice bo lb.length cq]] w fun e w' => e = .returned (.bool true) ∧ Below w.heap.size w w') := fun D D2 ao cp bo cq w h h2 => same_any w (.slice ao lb.length cp) (.slice bo lb.length cq) (.mk k' mn' mx' t0 t1 t2 t3 lb) h h2
        have PY0 := fun (D : Nat) (ao : Option Addr) (cp : Nat) (w : World) (h : LiesL (D ≤ ·) w (.slice ao lb.length cp) lb) => print_any w (.slice ao lb.length cp) (.mk k' mn' mx' t0 t1 t2 t3 lb) h hmy.2
        by_cases hl : (patR (.mk k' mn' mx' t0 t1 t2 t3 lb)).length ≤ 128
        · have hpr : printS (.mk k' mn' mx' t0 t1 t2 t3 lb) = (patR (.mk k' mn' mx' t0 t1 t2 t3 lb), 0) := by unfold printS; rw [if_neg (by simp [check_zero hmy hy257]), if_neg (by omega)]
          have hpz : parseS (patR (.mk k' mn' mx' t0 t1 t2 t3 lb)) = (some (.mk k' mn' mx' t0 t1 t2 t3 lb), 0) := by rw [parse_back hmy, if_neg (by omega), if_neg hy257]
          rw [hpr] at PY0
          have PZ0 := fun w => parse_yes (s := str (patR (.mk k' mn' mx' t0 t1 t2 t3 lb))) (w := w) (str_list _) hpz
          have hsz : (str (patR (.mk k' mn' mx' t0 t1 t2 t3 lb))).size ≤ 128 := by rw [str_size]; exact hl
          dsimp only at PY0
          generalize patR (.mk k' mn' mx' t0 t1 t2 t3 lb) = Py at *
          have hszi : ((str Py).size : Int) ≤ 128 := by omega
          have PY : Hid (∀ (D : Nat) (ao : Option Addr) (cp : Nat) (w : World), LiesL (D ≤ ·) w (.slice ao lb.length cp) lb → Calls Tryd.prog 9 #[.agg #[.int .i64 k', .int .i64 mn', .int .i64 mx', .int .u64 t0, .int .u64 t1, .int .u64 t2, .int .u64 t3, .slice ao lb.length cp]] w fun e w' => e = .returned (.tuple #[.string (str Py), .int .i64 0]) ∧ Below w.heap.size w w') := PY0
          have PZ := Lib.hid PZ0
          clear PY0 PZ0 hpr hpz hmy hy257 hps hl CY hsz
          generalize str Py = sy at *
          go_enter Tryd.func5, Tryd.ntmps5
          go_wp2_with (first
            | (go_at_call 9; (with_reducible refine (PE.out _ (below_new w _)).mono ?_); rintro e w1 ⟨rfl, g1⟩; have r1 := cell_stay (heap_alloc_new w (.cells #[.int .i64 k, .int .i64 mn, .int .i64 mx, .int .u64 s0, .int .u64 s1, .int .u64 s2, .int .u64 s3, .slice pa la.length ca] 26)) g1; have b1 := below_trans (below_new w _) g1; obtain ⟨r1c0, r1c1, r1c2, r1c3, r1c4, r1c5, r1c6, r1c7⟩ := cells8 r1)
            | (go_at_call 11; (with_reducible refine (FX.out _).mono ?_); rintro e w2 ⟨rfl, g2⟩; have r2 := cell_stay r1 g2; have b2 := below_trans b1 g2; obtain ⟨r2c0, r2c1, r2c2, r2c3, r2c4, r2c5, r2c6, r2c7⟩ := cells8 r2)
            | (go_at_call 16; (with_reducible refine (PS.out _).mono ?_); rintro e w6 ⟨g6, py, cy, rfl, l6⟩; have l6a := l6.stay (below_new w6 (.cells #[.int .i64 k', .int .i64 mn', .int .i64 mx', .int .u64 t0, .int .u64 t1, .int .u64 t2, .int .u64 t3, .slice py lb.length cy] 26)); have q6 := heap_alloc_new w6 (.cells #[.int .i64 k', .int .i64 mn', .int .i64 mx', .int .u64 t0, .int .u64 t1, .int .u64 t2, .int .u64 t3, .slice py lb.length cy] 26); have b6 := below_trans (below_trans b2 g6) (below_new w6 (.cells #[.int .i64 k', .int .i64 mn', .int .i64 mx', .int .u64 t0, .int .u64 t1, .int .u64 t2, .int .u64 t3, .slice py lb.length cy] 26)); obtain ⟨q6c0, q6c1, q6c2, q6c3, q6c4, q6c5, q6c6, q6c7⟩ := cells8 q6)
            | (go_at_call 9; (with_reducible refine (PY.out _ _ _ _ l6a).mono ?_); rintro e w7 ⟨rfl, g7⟩; have l7 := l6a.stay g7; have q7 := cell_stay q6 g7; have b7 := below_trans b6 g7; obtain ⟨q7c0, q7c1, q7c2, q7c3, q7c4, q7c5, q7c6, q7c7⟩ := cells8 q7)
            | (go_at_call 16; (with_reducible refine (PZ.out _).mono ?_); rintro e w8 ⟨g8, pz, cz, rfl, l8⟩; have l8a := l8.stay (below_new w8 (.cells #[.int .i64 k', .int .i64 mn', .int .i64 mx', .int .u64 t0, .int .u64 t1, .int .u64 t2, .int .u64 t3, .slice pz lb.length cz] 26)); have l7a := (l7.stay g8).stay (below_new w8 (.cells #[.int .i64 k', .int .i64 mn', .int .i64 mx', .int .u64 t0, .int .u64 t1, .int .u64 t2, .int .u64 t3, .slice pz lb.length cz] 26)); have r8 := cell_stay (cell_stay q7 g8) (below_new w8 (.cells #[.int .i64 k', .int .i64 mn', .int .i64 mx', .int .u64 t0, .int .u64 t1, .int .u64 t2, .int .u64 t3, .slice pz lb.length cz] 26)); have q8 := heap_alloc_new w8 (.cells #[.int .i64 k', .int .i64 mn', .int .i64 mx', .int .u64 t0, .int .u64 t1, .int .u64 t2, .int .u64 t3, .slice pz lb.length cz] 26); have b8 := below_trans (below_trans b7 g8) (below_new w8 (.cells #[.int .i64 k', .int .i64 mn', .int .i64 mx', .int .u64 t0, .int .u64 t1, .int .u64 t2, .int .u64 t3, .slice pz lb.length cz] 26)); obtain ⟨r8c0, r8c1, r8c2, r8c3, r8c4, r8c5, r8c6, r8c7⟩ := cells8 r8; obtain ⟨q8c0, q8c1, q8c2, q8c3, q8c4, q8c5, q8c6, q8c7⟩ := cells8 q8)
            | (go_at_call 18; (with_reducible refine (SY.out _ _ _ _ _ _ _ l7a l8a).mono ?_); rintro e w9 ⟨rfl, g9⟩; have bz := below_trans b8 g9))
          go_ret
          exact ⟨rfl, bz⟩
        · have hpr : printS (.mk k' mn' mx' t0 t1 t2 t3 lb) = ([], 51) := by unfold printS; rw [if_neg (by simp [check_zero hmy hy257]), if_pos (by omega)]
          rw [hpr] at PY0
          have PY : Hid (∀ (D : Nat) (ao : Option Addr) (cp : Nat) (w : World), LiesL (D ≤ ·) w (.slice ao lb.length cp) lb → Calls Tryd.prog 9 #[.agg #[.int .i64 k', .int .i64 mn', .int .i64 mx', .int .u64 t0, .int .u64 t1, .int .u64 t2, .int .u64 t3, .slice ao lb.length cp]] w fun e w' => e = .returned (.tuple #[.string ⟨#[]⟩, .int .i64 51]) ∧ Below w.heap.size w w') := PY0
          clear PY0 hpr hmy hy257 hps hl SY
          go_enter Tryd.func5, Tryd.ntmps5
          go_wp2_with (first
            | (go_at_call 9; (with_reducible refine (PE.out _ (below_new w _)).mono ?_); rintro e w1 ⟨rfl, g1⟩; have r1 := cell_stay (heap_alloc_new w (.cells #[.int .i64 k, .int .i64 mn, .int .i64 mx, .int .u64 s0, .int .u64 s1, .int .u64 s2, .int .u64 s3, .slice pa la.length ca] 26)) g1; have b1 := below_trans (below_new w _) g1; obtain ⟨r1c0, r1c1, r1c2, r1c3, r1c4, r1c5, r1c6, r1c7⟩ := cells8 r1)
            | (go_at_call 11; (with_reducible refine (FX.out _).mono ?_); rintro e w2 ⟨rfl, g2⟩; have r2 := cell_stay r1 g2; have b2 := below_trans b1 g2; obtain ⟨r2c0, r2c1, r2c2, r2c3, r2c4, r2c5, r2c6, r2c7⟩ := cells8 r2)
            | (go_at_call 16; (with_reducible refine (PS.out _).mono ?_); rintro e w6 ⟨g6, py, cy, rfl, l6⟩; have l6a := l6.stay (below_new w6 (.cells #[.int .i64 k', .int .i64 mn', .int .i64 mx', .int .u64 t0, .int .u64 t1, .int .u64 t2, .int .u64 t3, .slice py lb.length cy] 26)); have q6 := heap_alloc_new w6 (.cells #[.int .i64 k', .int .i64 mn', .int .i64 mx', .int .u64 t0, .int .u64 t1, .int .u64 t2, .int .u64 t3, .slice py lb.length cy] 26); have b6 := below_trans (below_trans b2 g6) (below_new w6 (.cells #[.int .i64 k', .int .i64 mn', .int .i64 mx', .int .u64 t0, .int .u64 t1, .int .u64 t2, .int .u64 t3, .slice py lb.length cy] 26)); obtain ⟨q6c0, q6c1, q6c2, q6c3, q6c4, q6c5, q6c6, q6c7⟩ := cells8 q6)
            | (go_at_call 9; (with_reducible refine (PY.out _ _ _ _ l6a).mono ?_); rintro e w7 ⟨rfl, g7⟩; have l7 := l6a.stay g7; have q7 := cell_stay q6 g7; have b7 := below_trans b6 g7; obtain ⟨q7c0, q7c1, q7c2, q7c3, q7c4, q7c5, q7c6, q7c7⟩ := cells8 q7)
            | (go_at_call 12; (with_reducible refine (CY.out _ _ _ _ l7).mono ?_); rintro e w8 ⟨rfl, g8⟩; have bz := below_trans b7 g8))
          go_ret
          exact ⟨rfl, bz⟩
end Go.Proofs.YthejkelnjimogaaDoor
