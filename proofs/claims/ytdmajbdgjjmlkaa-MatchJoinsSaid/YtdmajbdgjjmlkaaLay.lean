/- What laying an expression's states leaves, so many times: the call's contract, if laying one has its. Conditions: the machine lies in memory, the expression too, ahead of it; there is room. -/
import Derived.Test.YtdmajbdgjjmlkaaFlw
namespace Go.Proofs.Ytdmajbdgjjmlkaa
open Go.RowKit
set_option linter.unusedVariables false
set_option linter.unusedSimpArgs false

/-- what laying leaves -/
def LayPost (n0 p : Nat) (M : Mac) (r : Nat × List Sta) (w : World) (e : Ending) (w' : World) : Prop := e = .returned (.int .i64 (r.1 : Nat)) ∧ IsM n0 p ⟨r.2, M.beg⟩ w' ∧ Oth n0 p w w'
/-- laying an expression has its contract -/
def LayC (x : Rx) : Prop := ∀ (n0 p : Nat) (M : Mac) (w : World) (sv : Value) (nx : Nat), IsM n0 p M w → LiesL (· < n0) w sv x.list → M.sts.length + sizeR x ≤ 257 → nx < M.sts.length →
  Calls Try.prog 30 #[.pointer (some ⟨p, 0, none⟩), x.val sv, .int .i64 (nx : Nat)] w (LayPost n0 p M (layR x nx M.sts) w)
theorem Oth.keep {n0 p : Nat} {w w' : World} (h : Oth n0 p w w') {k : Nat} {cs : Array Value} {t : TypeId} (hk : w.heap[k]? = some (.cells cs t (0, 0))) (hp : k ≠ p) (ht : t ≠ 59) : w'.heap[k]? = some (.cells cs t (0, 0)) :=
  h.old k _ hk hp fun c fz e => by cases e; exact ht rfl
theorem LiesL.oth {n0 p : Nat} {w w' : World} {v : Value} {l : List Rx} (h : LiesL (· < n0) w v l) (ho : Oth n0 p w w') : LiesL (· < n0) w' v l :=
  h.kept ho.below.size (fun b hb _ => ho.below.block b hb) (fun b hb _ => hb)
theorem lies_low {n0 : Nat} {w : World} {v : Value} {l : List Rx} (h : LiesL (· < n0) w v l) {w' : World} (hn : n0 ≤ w.heap.size) (hb : Below w.heap.size w w') : LiesL (· < n0) w' v l := h.stay hb
theorem cells8_at {w : World} {X : Nat} {k mn mx s0 s1 s2 s3 : Int} {v : Value} (h : w.heap[X]? = some (.cells #[.int .i64 k, .int .i64 mn, .int .i64 mx, .int .u64 s0, .int .u64 s1, .int .u64 s2, .int .u64 s3, v] 26 (0, 0))) :
    w.cell? ⟨X, 0, none⟩ = some (.int .i64 k) ∧ w.cell? ⟨X, 1, none⟩ = some (.int .i64 mn) ∧ w.cell? ⟨X, 2, none⟩ = some (.int .i64 mx) ∧ w.cell? ⟨X, 3, none⟩ = some (.int .u64 s0) ∧ w.cell? ⟨X, 4, none⟩ = some (.int .u64 s1) ∧ w.cell? ⟨X, 5, none⟩ = some (.int .u64 s2) ∧ w.cell? ⟨X, 6, none⟩ = some (.int .u64 s3) ∧ w.cell? ⟨X, 7, none⟩ = some v :=
  ⟨cell_at h rfl, cell_at h rfl, cell_at h rfl, cell_at h rfl, cell_at h rfl, cell_at h rfl, cell_at h rfl, cell_at h rfl⟩
/-- a block that is no state's row may be stored to -/
theorem Oth.putp {n0 p X P : Nat} {a w : World} (h : Oth n0 p a w) (hX : n0 ≤ X) (hXa : a.heap.size ≤ X) : Oth n0 p a (put5 w X P) :=
  ⟨put5_below h.below hX, fun k o hk h1 h2 => by rw [put5_other (by have := block_lt' hk; omega)]; exact h.old k o hk h1 h2⟩
theorem put5_grown (w : World) (X P : Nat) : w.grownBy (put5 w X P) (some X) := by
  have h := below5 (w0 := w) (Below.refl X w) (Nat.le_refl X) (.int .u64 (pw P 0 : Nat)) (.int .u64 (pw P 1 : Nat)) (.int .u64 (pw P 2 : Nat)) (.int .u64 (pw P 3 : Nat)) (.int .u64 (pw P 4 : Nat))
  exact ⟨h.os, h.tape, h.output, h.size, fun j _ hj => put5_other (fun e => hj (by rw [e]))⟩
theorem cells_type {w : World} {k : Nat} {c d : Array Value} {t u : TypeId} (h1 : w.heap[k]? = some (.cells c t (0, 0))) (h2 : w.heap[k]? = some (.cells d u (0, 0))) : t = u := by
  rw [h1] at h2
  exact (Obj.cells.inj (Option.some.inj h2)).2.1
theorem IsM.putp {n0 p X P : Nat} {M : Mac} {w : World} (h : IsM n0 p M w) {cs : Array Value} (hX : w.heap[X]? = some (.cells cs 57 (0, 0))) : IsM n0 p M (put5 w X P) := by
  obtain ⟨hn, v, hc, ho⟩ := h
  have hpX : p ≠ X := fun e => by
    rw [e] at hc
    exact absurd (cells_type hX hc) (by decide)
  have hne : v.ownBlock ≠ some X := own_ne' ho hX (by intro c fz e; exact absurd (Obj.cells.inj e).2.1 (by decide))
  exact ⟨hn, v, (put5_other hpX).trans hc, ho.kept (put5_grown w X P) (.inr hne)⟩
set_option maxRecDepth 100000 in
set_option maxHeartbeats 4000000 in
theorem times_lay (x : Rx) (HX : LayC x) (hx0 : sizeR x ≠ 0) (hx1 : sizeR x < 257) (n0 p : Nat) (M : Mac) (w : World) (sv : Value) (nx : Nat) (least : Int) (most : Nat) (h : IsM n0 p M w) (hl : LiesL (· < n0) w sv x.list) (hroom : M.sts.length + most * sizeR x + 1 ≤ 257) (hnx : nx < M.sts.length) (hm15 : most ≤ 15) (hl0 : 0 ≤ least) (hl1 : least ≤ 15) :
    Calls Try.prog 46 #[.pointer (some ⟨p, 0, none⟩), x.val sv, .int .i64 least, .int .i64 (most : Nat), .int .i64 (nx : Nat)] w (LayPost n0 p M ((layT (layR x) least (most + 1) 0 nx 0 M.sts).2.length, (layT (layR x) least (most + 1) 0 nx 0 M.sts).2 ++ [⟨0, 0, 0, 0, (layT (layR x) least (most + 1) 0 nx 0 M.sts).1⟩]) w) := by
  have LL := layR_ok x hx0
  have LN := layR_len x hx0 hx1
  obtain ⟨X, hX⟩ : ∃ X, X = w.heap.size := ⟨_, rfl⟩
  have hzz : w.heap.size = X := hX.symm
  obtain ⟨L, beg⟩ := M
  dsimp only at *
  obtain ⟨sz, hsz⟩ : ∃ sz, sz = sizeR x := ⟨_, rfl⟩
  rw [← hsz] at hroom LN
  have hsz1 : sz ≠ 0 := by rw [hsz]; exact hx0
  obtain ⟨R, hR⟩ : ∃ R, R = layT (layR x) least (most + 1) 0 nx 0 L := ⟨_, rfl⟩
  rw [← hR]
  obtain ⟨f, hf⟩ : ∃ f, f = layR x := ⟨_, rfl⟩
  have LX := fun M' w' nx' (a : IsM n0 p M' w') (b : LiesL (· < n0) w' sv x.list) (c : M'.sts.length + sz ≤ 257) (d : nx' < M'.sts.length) => HX n0 p M' w' sv nx' a b (by rw [← hsz]; exact c) d
  rw [← hf] at hR LL LN LX
  obtain ⟨k, mn, mx, s0, s1, s2, s3, ls⟩ := x
  unfold Rx.val Rx.cells cellsX at LX ⊢
  dsimp only [Rx.list] at *
  obtain ⟨B8, hB8⟩ : ∃ B8 : Array Value, B8 = #[.int .i64 k, .int .i64 mn, .int .i64 mx, .int .u64 s0, .int .u64 s1, .int .u64 s2, .int .u64 s3, sv] := ⟨_, rfl⟩
  have hn0 : n0 ≤ X := by rw [hX]; exact Nat.le_trans h.base (Nat.le_of_lt h.lt)
  have hpX : p < X := by rw [hX]; exact h.lt
  have st0 : ∀ o2, ((w.alloc (.cells B8 26)).alloc o2).heap[X]? = some (.cells B8 26 (0, 0)) ∧ ((w.alloc (.cells B8 26)).alloc o2).heap[X + 1]? = some o2 ∧ Below X w ((w.alloc (.cells B8 26)).alloc o2) := fun o2 => by
    have e1 := heap_alloc_new w (.cells B8 26)
    have e2 := heap_alloc_new (w.alloc (.cells B8 26)) o2
    have s2 : (w.alloc (.cells B8 26)).heap.size = X + 1 := by rw [hX]; simp
    rw [s2] at e2
    refine ⟨?_, e2, ?_⟩
    · rw [Below.heap_alloc _ o2 X (by rw [s2]; omega), hX]; exact e1
    · rw [hX]; exact below_trans (below_new w _) (below_new _ _)
  have HST : Hid (∃ W0, W0 = (w.alloc (.cells B8 26)).alloc (.cells #[.int .u64 0, .int .u64 0, .int .u64 0, .int .u64 0, .int .u64 0] 57) ∧ W0.heap[X]? = some (.cells B8 26 (0, 0)) ∧ W0.heap[X + 1]? = some (.cells (plc 0) 57 (0, 0)) ∧ IsM n0 p ⟨L, beg⟩ W0 ∧ Oth n0 p w W0) := Lib.hid (by
    obtain ⟨a1, a2, a3⟩ := st0 (.cells #[.int .u64 0, .int .u64 0, .int .u64 0, .int .u64 0, .int .u64 0] 57)
    rw [hX] at a3
    exact ⟨_, rfl, a1, by rw [plc_zero]; exact a2, h.of_below a3, Oth.of_below a3 (by rw [← hX]; exact hn0)⟩)
  have HR := Lib.hid hR
  have WI := Lib.hid (fun P i (hi : i < 320) w => pwith_any P i hi w)
  have AD := Lib.hid (fun M' (x' : Sta) few w' (a : IsM n0 p M' w') => add_any n0 p M' x' few w' a)
  unfold plc at WI
  have HL := Lib.hid (And.intro LL (And.intro LN (And.intro hl (And.intro hroom (And.intro hnx (And.intro hsz1 (And.intro hn0 hpX)))))))
  have HLX := Lib.hid LX
  have HB8 := Lib.hid hB8
  have HM := Lib.hid (And.intro hm15 (And.intro hl0 hl1))
  have hmi : (most : Int) ≤ 15 := by omega
  clear h hl hroom hnx hm15 hl0 hl1 HX hx0 hx1 LL LN hX hsz hR hf LX st0 hsz1 hn0 hpX hB8
  go_enter Try.func46, Try.ntmps46
  go_wp2
  go_loopw [15, 4] (fun i v wr => ∃ (left bs nx' : Nat) (K : List Sta), left ≤ most + 1 ∧ i = .int .i64 (left : Nat) ∧ v = .int .i64 (nx' : Nat) ∧ Hid ((wr.heap[X]? = some (.cells B8 26 (0, 0)) ∧ wr.heap[X + 1]? = some (.cells (plc bs) 57 (0, 0)) ∧ IsM n0 p ⟨K, beg⟩ wr ∧ Oth n0 p w wr) ∧ nx' < K.length ∧ K.length + (if left = 0 then most else most + 1 - left) * sz + 1 ≤ 257 ∧ layT f least (most + 1 - left) left nx' bs K = R)) (fun i _ _ => most + 1 - (intOf i).toNat)
  case atStart =>
    obtain ⟨W0, e0, a1, a2, a3, a4⟩ := HST.out
    rw [HB8.out] at e0
    rw [← e0]
    obtain ⟨LL, LN, hl, hroom, hnx, -⟩ := HL.out
    exact ⟨0, 0, nx, L, Nat.zero_le _, rfl, rfl, Lib.hid ⟨⟨a1, a2, a3, a4⟩, hnx, by rw [if_pos rfl]; exact hroom, by rw [Nat.sub_zero]; exact HR.out.symm⟩⟩
  case round =>
    obtain ⟨left, bs, nx', K, hleft, rfl, rfl, HH⟩ := hrel
    by_cases hlt : left < most + 1
    · have hji : (left : Int) < (most : Int) + 1 := by omega
      have hli : (left : Int) ≤ 16 := by have := HM.out.1; omega
      -- the first half: laid, if so many are left
      obtain ⟨r, hr⟩ : ∃ r, r = (if 0 < left then f nx' K else (nx', K)) := ⟨_, rfl⟩
      have hT : layT f least (most + 1 - (left + 1)) (left + 1) r.1 (if least ≤ (left : Int) then bs ||| bitN r.1 else bs) r.2 = R := by
        rw [← HH.out.2.2.2, show most + 1 - left = (most + 1 - (left + 1)) + 1 by omega, layT, hr]
      obtain ⟨⟨q1, q2, q3, q4⟩, q5, q6, q7⟩ := HH.out
      obtain ⟨LL, LN, hl, hroom, hnx, hsz1, hn0, hpX⟩ := HL.out
      -- the beginning of what is entered with so many left
      have hr1 : r.1 < r.2.length ∧ r.2.length + (if left + 1 = 0 then most else most + 1 - (left + 1)) * sz + 1 ≤ 257 := by
        rw [if_neg (Nat.succ_ne_zero left)]
        by_cases c0 : 0 < left
        · rw [if_pos c0] at hr
          rw [if_neg (by omega), show most + 1 - left = (most + 1 - (left + 1)) + 1 by omega, Nat.succ_mul] at q6
          have hLL := LL K nx' (by omega) q5
          have hLN := LN nx' K
          rw [hr]
          exact ⟨hLL.at_, by omega⟩
        · rw [if_neg c0] at hr
          have e0 : left = 0 := by omega
          subst e0
          rw [if_pos rfl] at q6
          rw [hr]
          exact ⟨q5, by simpa using q6⟩
      have hr257 : r.1 < 320 := by have := hr1.2; omega
      -- the second half, from any world in which the first is done
      have hrl : (r.1 : Int) ≤ 320 := by omega
      have WJ := Lib.hid (WI.out bs r.1 hr257)
      have G : Hid (∀ w1, IsM n0 p ⟨r.2, beg⟩ w1 → Oth n0 p wr w1 → (w1.heap[X]? = some (.cells B8 26 (0, 0)) ∧ w1.heap[X + 1]? = some (.cells (plc bs) 57 (0, 0)) ∧ Oth n0 p w w1)) := Lib.hid fun w1 a b =>
        ⟨b.keep q1 (by omega) (by decide), b.keep q2 (by omega) (by decide), q4.trans b⟩
      have G2 : Hid (∀ w1, IsM n0 p ⟨r.2, beg⟩ w1 → Oth n0 p w w1 → w1.heap[X]? = some (.cells B8 26 (0, 0)) → w1.heap[X + 1]? = some (.cells (plc bs) 57 (0, 0)) → ∀ w2, Below w1.heap.size w1 w2 → IsM n0 p ⟨r.2, beg⟩ w2 ∧ Oth n0 p w w2 ∧ w2.heap[X]? = some (.cells B8 26 (0, 0)) ∧ w2.heap[X + 1]? = some (.cells (plc bs) 57 (0, 0))) := Lib.hid fun w1 a b c d w2 hb =>
        ⟨a.of_below hb, b.trans (Oth.of_below hb (Nat.le_trans a.base (Nat.le_of_lt a.lt))), (hb.block _ (block_lt' c)).trans c, (hb.block _ (block_lt' d)).trans d⟩
      have G3 : Hid (∀ w2, IsM n0 p ⟨r.2, beg⟩ w2 → Oth n0 p w w2 → w2.heap[X]? = some (.cells B8 26 (0, 0)) → w2.heap[X + 1]? = some (.cells (plc bs) 57 (0, 0)) → ∀ P, (put5 w2 (X + 1) P).heap[X]? = some (.cells B8 26 (0, 0)) ∧ (put5 w2 (X + 1) P).heap[X + 1]? = some (.cells (plc P) 57 (0, 0)) ∧ IsM n0 p ⟨r.2, beg⟩ (put5 w2 (X + 1) P) ∧ Oth n0 p w (put5 w2 (X + 1) P)) := Lib.hid fun w2 a b c d P =>
        ⟨(put5_other (by omega)).trans c, put5_row d, a.putp d, b.putp (by omega) (by have := hzz; omega)⟩
      obtain ⟨b0, b1, b2, b3, b4, b5, b6, b7⟩ := cells8_at (by rw [HB8.out] at q1; exact q1)
      have HQ := Lib.hid (And.intro hr1 (And.intro hlt hr257))
      by_cases hlz : 0 < left
      · have hlzi : (0 : Int) < (left : Int) := by omega
        rw [if_pos hlz] at hr
        have KL := Lib.hid (HLX.out ⟨K, beg⟩ wr nx' q3 (hl.oth q4) (by
          rw [if_neg (by omega), show most + 1 - left = (most + 1 - (left + 1)) + 1 by omega, Nat.succ_mul] at q6
          show K.length + sz ≤ 257
          omega) q5)
        unfold LayPost at KL
        dsimp only at KL
        rw [← hr] at KL
        by_cases hge : least ≤ (left : Int)
        · rw [if_pos hge] at hT
          have HT := Lib.hid hT
          clear q1 q2 q3 q4 q5 q6 q7 HH hr hT LL LN hl hroom hnx hsz1 hn0 hr1 hlt hlz hr257
          go_wp2_with (first
            | (go_at_call 30; (with_reducible refine KL.out.mono ?_); rintro e w1 ⟨rfl, hi, ho⟩; obtain ⟨g1, g2, g3⟩ := G.out _ hi ho; have N2 := Lib.hid (G2.out _ hi g3 g1 g2); obtain ⟨d0, d1, d2, d3, d4, df⟩ := plc_at g2; clear hi ho g1 g2 g3)
            | (go_at_call 29; (with_reducible refine (WJ.out _).mono ?_); rintro e w2 ⟨rfl, hb2⟩; obtain ⟨k1, k2, k3, k4⟩ := N2.out _ hb2; have N3 := Lib.hid (G3.out _ k1 k2 k3 k4); obtain ⟨e0, e1, e2, e3, e4, ef⟩ := plc_at k4; clear k1 k2 k3 k4 hb2))
          exact ⟨⟨left + 1, bs ||| bitN r.1, r.1, r.2, by have := HQ.out.2.1; omega, by go_num, rfl, Lib.hid ⟨N3.out _, HQ.out.1.1, HQ.out.1.2, HT.out⟩⟩, by simp [intOf]; have := HQ.out.2.1; omega⟩
        · rw [if_neg hge] at hT
          have HT := Lib.hid hT
          clear q1 q2 q3 q4 q5 q6 q7 HH hr hT LL LN hl hroom hnx hsz1 hn0 hr1 hlt hlz hr257
          go_wp2_with (go_at_call 30; (with_reducible refine KL.out.mono ?_); rintro e w1 ⟨rfl, hi, ho⟩; obtain ⟨g1, g2, g3⟩ := G.out _ hi ho; have N2 := Lib.hid (And.intro g1 (And.intro g2 (And.intro hi g3))); clear hi ho g1 g2 g3)
          exact ⟨⟨left + 1, bs, r.1, r.2, by have := HQ.out.2.1; omega, by go_num, rfl, Lib.hid ⟨N2.out, HQ.out.1.1, HQ.out.1.2, HT.out⟩⟩, by simp [intOf]; have := HQ.out.2.1; omega⟩
      · have hl00 : left = 0 := by omega
        subst hl00
        rw [if_neg hlz] at hr
        have er : r = (nx', K) := hr
        clear hr
        subst er
        dsimp only at *
        by_cases hge : least ≤ 0
        · have hge' : least ≤ ((0 : Nat) : Int) := hge
          rw [if_pos hge'] at hT
          have HT := Lib.hid hT
          have N2 := Lib.hid (G2.out wr q3 q4 q1 q2)
          obtain ⟨d0, d1, d2, d3, d4, df⟩ := plc_at q2
          clear q1 q2 q3 q4 q5 q6 q7 HH hT LL LN hl hroom hnx hsz1 hn0 hr1 hlt hlz hr257 hge'
          go_wp2_with (go_at_call 29; (with_reducible refine (WJ.out _).mono ?_); rintro e w2 ⟨rfl, hb2⟩; obtain ⟨k1, k2, k3, k4⟩ := N2.out _ hb2; have N3 := Lib.hid (G3.out _ k1 k2 k3 k4); obtain ⟨e0, e1, e2, e3, e4, ef⟩ := plc_at k4; clear k1 k2 k3 k4 hb2)
          exact ⟨⟨1, bs ||| bitN nx', nx', K, by omega, by go_num, rfl, Lib.hid ⟨N3.out _, HQ.out.1.1, HQ.out.1.2, HT.out⟩⟩, by simp [intOf]⟩
        · have hge' : ¬ least ≤ ((0 : Nat) : Int) := hge
          rw [if_neg hge'] at hT
          have HT := Lib.hid hT
          have N2 := Lib.hid (And.intro q1 (And.intro q2 (And.intro q3 q4)))
          clear q1 q2 q3 q4 q5 q6 q7 HH hT LL LN hl hroom hnx hsz1 hn0 hr1 hlt hlz hr257 hge'
          go_wp2
          exact ⟨⟨1, bs, nx', K, by omega, by go_num, rfl, Lib.hid ⟨N2.out, HQ.out.1.1, HQ.out.1.2, HT.out⟩⟩, by simp [intOf]⟩
    · have hjl : left = most + 1 := by omega
      subst hjl
      have hji : ¬ ((most + 1 : Nat) : Int) < (most : Int) + 1 := by omega
      obtain ⟨⟨h1, h2, h3, h4⟩, h5, h6, h7⟩ := HH.out
      rw [Nat.sub_self, layT] at h7
      obtain ⟨d0, d1, d2, d3, d4, df⟩ := plc_at h2
      have AK := Lib.hid (AD.out ⟨K, beg⟩ ⟨0, 0, 0, 0, bs⟩ (by show K.length ≤ 1000; omega) wr h3)
      have e9 : (staV ⟨0, 0, 0, 0, bs⟩).toArray = #[Value.int .u64 0, .int .u64 0, .int .u64 0, .int .u64 0, .int .u64 (pw bs 0 : Nat), .int .u64 (pw bs 1 : Nat), .int .u64 (pw bs 2 : Nat), .int .u64 (pw bs 3 : Nat), .int .u64 (pw bs 4 : Nat)] := rfl
      rw [e9] at AK
      have HO := Lib.hid h4
      have H7 := Lib.hid h7
      dsimp only at AK
      clear h1 h2 h3 h4 h5 h6 h7 HH hlt hleft e9
      go_wp2_with (go_at_call 43; (with_reducible refine AK.out.mono ?_); rintro e w1 ⟨rfl, hi, ho⟩; have HI := Lib.hid hi; have HOO := Lib.hid ho; clear hi ho)
      go_ret
      rw [← H7.out]
      exact ⟨rfl, HI.out, HO.out.trans HOO.out⟩
end Go.Proofs.Ytdmajbdgjjmlkaa
