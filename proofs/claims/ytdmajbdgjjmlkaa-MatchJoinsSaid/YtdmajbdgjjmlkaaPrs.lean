/- The expression of a pattern, and how a reader's fault is taken: what the call returns. Conditions: none. -/
import Derived.Test.YtdmajbdgjjmlkaaAlt
import Derived.Defers
import Derived.Recover
namespace Go.Proofs.Ytdmajbdgjjmlkaa
open Go.RowKit
set_option linter.unusedVariables false

set_option maxHeartbeats 1000000 in
theorem catch_panicking (p q : Nat) (k mn mx x0 x1 x2 x3 : Int) (v : Value) (y : Int) (w : World)
    (h0 : w.cell? ⟨p, 0, none⟩ = some (.int .i64 k)) (h1 : w.cell? ⟨p, 1, none⟩ = some (.int .i64 mn)) (h2 : w.cell? ⟨p, 2, none⟩ = some (.int .i64 mx)) (h3 : w.cell? ⟨p, 3, none⟩ = some (.int .u64 x0)) (h4 : w.cell? ⟨p, 4, none⟩ = some (.int .u64 x1)) (h5 : w.cell? ⟨p, 5, none⟩ = some (.int .u64 x2)) (h6 : w.cell? ⟨p, 6, none⟩ = some (.int .u64 x3)) (h7 : w.cell? ⟨p, 7, none⟩ = some v) (hq : w.cell? ⟨q, 0, none⟩ = some (.int .i64 y))
    (hp : ∀ o, w.frozen? ⟨p, o, none⟩ = false) (hg : ∀ o, w.frozen? ⟨q, o, none⟩ = false) (hne : ¬ q = p) (hne2 : ¬ p = q) :
    CallsD Try.prog 53 #[.pointer (some ⟨p, 0, none⟩), .pointer (some ⟨q, 0, none⟩)] (.panicking ([{ v := .iface 28 (.int .i64 50), recovered := false }])) w fun e u' w' =>
      e = .returned (.tuple #[]) ∧ u' = .panicking ([{ v := .iface 28 (.int .i64 50), recovered := true }]) ∧ w' = (put8 w p 0 0 0 0 0 0 0 (.slice none 0 0)).setCell ⟨q, 0, none⟩ (.int .i64 50) := by
  refine callsD_of_wpS Try.func53 rfl fun c₀ cs hu => ?_
  apply wpS_seq
  apply wpS_region
  simp [wpOpsS, go_sem, recoverD, hu, Try.ntmps53, Exit.thenS]
  refine wpS_cond (t := true) (by simp [Act.eval, Array.replicate]) ?_
  simp only [if_true]
  apply wpS_region
  unfold put8
  simp [wpOpsS, go_sem, h0, h1, h2, h3, h4, h5, h6, h7, hq, hp, hg, bodyPostS, results, Try.results53]
theorem catch_idle (p q : Addr) (w : World) :
    CallsD Try.prog 53 #[.pointer (some p), .pointer (some q)] .returning w fun e u' w' => e = .returned (.tuple #[]) ∧ u' = .returning ∧ w' = w := by
  refine callsD_of_wpS Try.func53 rfl fun c₀ cs hu => ?_
  apply wpS_seq
  apply wpS_region
  simp [wpOpsS, go_sem, recoverD, hu, Try.ntmps53, Exit.thenS]
  refine wpS_cond (t := false) (by simp [Act.eval, Array.replicate]) ?_
  simp only [Bool.false_eq_true, if_false]
  refine wpS_of_wp (wp_skip ?_)
  cases c₀
  simp_all [bodyPostS, results, Try.results53]
/-- the results' rows -/
structure Sp (w : World) (R : Nat) (wr : World) (k mn mx x0 x1 x2 x3 : Int) (v : Value) (y : Int) : Prop where
  row : wr.heap[R]? = some (.cells #[.int .i64 k, .int .i64 mn, .int .i64 mx, .int .u64 x0, .int .u64 x1, .int .u64 x2, .int .u64 x3, v] 26 (0, 0))
  err : wr.heap[R + 1]? = some (.cells #[.int .i64 y] 28 (0, 0))
  bel : Below w.heap.size w wr
  hR : w.heap.size ≤ R
section
variable {w wr w' : World} {R : Nat} {k mn mx x0 x1 x2 x3 y : Int} {v : Value}
theorem Sp.c (h : Sp w R wr k mn mx x0 x1 x2 x3 v y) (j : Nat) (u : Value) (hu : (#[.int .i64 k, .int .i64 mn, .int .i64 mx, .int .u64 x0, .int .u64 x1, .int .u64 x2, .int .u64 x3, v] : Array Value)[j]? = some u) : wr.cell? ⟨R, j, none⟩ = some u := cell_at h.row hu
theorem Sp.e (h : Sp w R wr k mn mx x0 x1 x2 x3 v y) : wr.cell? ⟨R + 1, 0, none⟩ = some (.int .i64 y) := cell_at h.err rfl
theorem Sp.g (h : Sp w R wr k mn mx x0 x1 x2 x3 v y) (o : Nat) : wr.frozen? ⟨R, o, none⟩ = false := free_at h.row
theorem Sp.f (h : Sp w R wr k mn mx x0 x1 x2 x3 v y) (o : Nat) : wr.frozen? ⟨R + 1, o, none⟩ = false := free_at h.err
theorem put8_row {k' mn' mx' x0' x1' x2' x3' : Int} {v' : Value} (h : wr.heap[R]? = some (.cells #[.int .i64 k, .int .i64 mn, .int .i64 mx, .int .u64 x0, .int .u64 x1, .int .u64 x2, .int .u64 x3, v] 26 (0, 0))) :
    (put8 wr R k' mn' mx' x0' x1' x2' x3' v').heap[R]? = some (.cells #[.int .i64 k', .int .i64 mn', .int .i64 mx', .int .u64 x0', .int .u64 x1', .int .u64 x2', .int .u64 x3', v'] 26 (0, 0)) := by
  unfold put8
  rw [block_setCell (block_setCell (block_setCell (block_setCell (block_setCell (block_setCell (block_setCell (block_setCell h)))))))]
  simp
theorem put8_below {D : Nat} {k' mn' mx' x0' x1' x2' x3' : Int} {v' : Value} (h : Below D w wr) (hR : D ≤ R) : Below D w (put8 wr R k' mn' mx' x0' x1' x2' x3' v') :=
  by unfold put8; exact (((((((h.setCell (by exact hR) _).setCell (by exact hR) _).setCell (by exact hR) _).setCell (by exact hR) _).setCell (by exact hR) _).setCell (by exact hR) _).setCell (by exact hR) _).setCell (by exact hR) _
theorem Sp.put (h : Sp w R wr k mn mx x0 x1 x2 x3 v y) (k' mn' mx' x0' x1' x2' x3' : Int) (v' : Value) : Sp w R (put8 wr R k' mn' mx' x0' x1' x2' x3' v') k' mn' mx' x0' x1' x2' x3' v' y :=
  ⟨put8_row h.row, by rw [put8_other (by omega)]; exact h.err, put8_below h.bel h.hR, h.hR⟩
theorem Sp.set (h : Sp w R wr k mn mx x0 x1 x2 x3 v y) (n : Int) : Sp w R (wr.setCell ⟨R + 1, 0, none⟩ (.int .i64 n)) k mn mx x0 x1 x2 x3 v n :=
  ⟨by rw [heap_setCell_other _ _ _ _ (by show R ≠ R + 1; omega)]; exact h.row, block_setCell h.err, h.bel.setCell (by show w.heap.size ≤ R + 1; have := h.hR; omega) _, h.hR⟩
theorem Sp.below (h : Sp w R wr k mn mx x0 x1 x2 x3 v y) (g : Below wr.heap.size wr w') : Sp w R w' k mn mx x0 x1 x2 x3 v y :=
  ⟨by rw [g.block R (block_lt h.row)]; exact h.row, by rw [g.block (R + 1) (block_lt h.err)]; exact h.err, h.bel.trans (g.mono (by exact h.bel.size)), h.hR⟩
theorem Sp.grow {b : Nat} (h : Sp w R wr k mn mx x0 x1 x2 x3 v y) (g : wr.grownBy w' (some b)) (hb : R + 1 < b) : Sp w R w' k mn mx x0 x1 x2 x3 v y :=
  ⟨by rw [g.block R (block_lt h.row) (by simp; omega)]; exact h.row, by rw [g.block (R + 1) (block_lt h.err) (by simp; omega)]; exact h.err,
    ⟨g.os.trans h.bel.os, g.tape.trans h.bel.tape, g.output.trans h.bel.output, Nat.le_trans h.bel.size g.size, fun i hi => (g.block i (Nat.lt_of_lt_of_le hi h.bel.size) (by have := h.hR; simp; omega)).trans (h.bel.block i hi)⟩, h.hR⟩
end
theorem Sp.first (w : World) (s : ByteArray) : Sp w w.heap.size (((w.alloc (.cells zero8 26)).alloc (.cells #[.int .i64 0] 28)).alloc (.cells #[.string s] 98)) 0 0 0 0 0 0 0 (.slice none 0 0) 0 :=
  ⟨by
    rw [(below_new _ (.cells #[.string s] 98)).block _ (by simp; omega), (below_new _ (.cells #[.int .i64 0] 28)).block _ (by simp)]
    exact heap_alloc_new w _, by
    rw [(below_new _ (.cells #[.string s] 98)).block _ (by simp)]
    have := heap_alloc_new (w.alloc (.cells zero8 26)) (.cells #[.int .i64 0] 28)
    simpa using this, below_trans (below_trans (below_new w _) (below_new _ _)) (below_new _ _), Nat.le_refl _⟩
theorem St.box (w : World) (l : Bs) : St (((w.alloc (.cells zero8 26)).alloc (.cells #[.int .i64 0] 28)).alloc (.cells #[.string (str l)] 98)) (w.heap.size + 1 + 1) l := by
  have := heap_alloc_new ((w.alloc (.cells zero8 26)).alloc (.cells #[.int .i64 0] 28)) (.cells #[.string (str l)] 98)
  unfold St
  simpa using this
/-- what reading a pattern leaves -/
def PostP (w : World) (r : Option Rx × Int) (e : Ending) (w' : World) : Prop :=
  Below w.heap.size w w' ∧ match r with
  | (some t, n) => ∃ v, e = .returned (.tuple #[t.val v, .int .i64 n]) ∧ LiesL (w.heap.size ≤ ·) w' v t.list
  | (none, n) => e = .returned (.tuple #[.agg zero8, .int .i64 n])
theorem str_toList (s : ByteArray) : str s.data.toList = s := by cases s; simp [str]
set_option maxRecDepth 20000 in
set_option maxHeartbeats 8000000 in
theorem parse_str (l : Bs) (w : World) : Calls Try.prog 40 #[.string (str l)] w (PostP w (parseS l)) := by
  have hmf : ∀ (fn : Fn) (first cap : Array Value) (w : World), (Instr.makeFunc fn first cap).run Try.prog w = .ok (.func fn first cap) w := fun _ _ _ _ => rfl
  unfold parseS
  have hss := str_size l
  by_cases hL : 128 < l.length
  · rw [if_pos hL]
    have hLi : (128 : Int) < ((str l).size : Int) := by rw [hss]; omega
    unfold PostP
    generalize str l = s at *
    clear hss hL
    go_enter_defers Try.func40, Try.ntmps40
    go_wp2
    simp [Leaves, bodyPostD, results, Try.results40, go_sem]
    exact below_trans (below_new w _) (below_new _ _)
  · rw [if_neg hL]
    have hLi : ¬ (128 : Int) < ((str l).size : Int) := by rw [hss]; omega
    obtain ⟨R, hR⟩ : ∃ R, R = w.heap.size := ⟨_, rfl⟩
    have hzz : w.heap.size = R := hR.symm
    have sp0 := Sp.first w (str l)
    have st0 := St.box w l
    rw [hzz] at sp0 st0
    unfold zero8 at sp0 st0
    have A := fun w1 (q : St w1 (R + 1 + 1) l) => alt_any (R + 1 + 1) l.length l (l.length + 1) w1 (Nat.le_refl _) q (Nat.lt_succ_self _) (by omega)
    generalize str l = s at *
    clear hss hL hR
    cases ha : altP (l.length + 1) [] [] l with
    | none =>
      rw [ha] at A
      unfold PostR at A
      have A2 := Lib.hid A
      clear A ha
      unfold PostP
      go_enter_defers Try.func40, Try.ntmps40
      go_wp2_with (first
        | (go_at_call 54; (with_reducible refine (A2.out _ st0).mono ?_); rintro e w1 ⟨rfl, g1⟩; have sp1 := sp0.grow g1 (by omega); have r0 := sp1.c 0 _ rfl; have r1 := sp1.c 1 _ rfl; have r2 := sp1.c 2 _ rfl; have r3 := sp1.c 3 _ rfl; have r4 := sp1.c 4 _ rfl; have r5 := sp1.c 5 _ rfl; have r6 := sp1.c 6 _ rfl; have r7 := sp1.c 7 _ rfl; have re := sp1.e; have rg := sp1.g; have rf := sp1.f))
      refine leaves_cons (f := 53) (args := #[.pointer (some ⟨R, 0, none⟩), .pointer (some ⟨R + 1, 0, none⟩)]) (by simp) (by simp [go_sem]) ?_
      refine (catch_panicking R (R + 1) 0 0 0 0 0 0 0 (.slice none 0 0) 0 _ r0 r1 r2 r3 r4 r5 r6 r7 re rg rf (by omega) (by omega)).mono ?_
      rintro e u' w'' ⟨rfl, rfl, rfl⟩
      have sp2 := (sp1.put 0 0 0 0 0 0 0 (.slice none 0 0)).set 50
      have q0 := sp2.c 0 _ rfl; have q1 := sp2.c 1 _ rfl; have q2 := sp2.c 2 _ rfl; have q3 := sp2.c 3 _ rfl; have q4 := sp2.c 4 _ rfl; have q5 := sp2.c 5 _ rfl; have q6 := sp2.c 6 _ rfl; have q7 := sp2.c 7 _ rfl; have qe := sp2.e; have qg := sp2.g; have qf := sp2.f
      have bl := sp2.bel
      generalize (put8 w1 R 0 0 0 0 0 0 0 (Value.slice none 0 0)).setCell ⟨R + 1, 0, none⟩ (.int .i64 50) = w9 at *
      simp [Leaves, settle, results, Try.results40, go_sem, q0, q1, q2, q3, q4, q5, q6, q7, qe]
      exact bl
    | some pr =>
      obtain ⟨t, l1⟩ := pr
      rw [ha] at A
      obtain ⟨k, mn, mx, x0, x1, x2, x3, ls⟩ := t
      have A2 : Hid (∀ w1, St w1 (R + 1 + 1) l → Calls Try.prog 54 #[.pointer (some ⟨R + 1 + 1, 0, none⟩)] w1 fun e w' => Step (R + 1 + 1) w1 w' l1 ∧ ∃ bo cq, e = .returned (.agg #[.int .i64 k, .int .i64 mn, .int .i64 mx, .int .u64 x0, .int .u64 x1, .int .u64 x2, .int .u64 x3, .slice bo ls.length cq]) ∧ LiesL (w1.heap.size ≤ ·) w' (.slice bo ls.length cq) ls) := fun w1 q => (A w1 q).mono fun e w' hp => by
        obtain ⟨hs, v, he, hl⟩ := hp
        obtain ⟨bo, cq, hv⟩ := hl.value
        have hv' : v = .slice bo ls.length cq := hv
        subst hv'
        exact ⟨hs, bo, cq, he, hl⟩
      dsimp only
      cases l1 with
      | cons c l1 =>
        have RY := Lib.hid refuse_yes
        obtain ⟨s1, hs1, e1, e2, e3, e4, e5⟩ := str_cons c l1
        clear A ha
        have hne : (!(c :: l1).isEmpty) = true := rfl
        rw [if_pos hne]
        unfold PostP
        go_enter_defers Try.func40, Try.ntmps40
        go_wp2_with (first
          | (go_at_call 54; (with_reducible refine (A2.out _ st0).mono ?_); rintro e w1 ⟨k1, bo, cq, rfl, hl1⟩; have sp1 := sp0.grow k1.grown (by omega); have r0 := sp1.c 0 _ rfl; have r1 := sp1.c 1 _ rfl; have r2 := sp1.c 2 _ rfl; have r3 := sp1.c 3 _ rfl; have r4 := sp1.c 4 _ rfl; have r5 := sp1.c 5 _ rfl; have r6 := sp1.c 6 _ rfl; have r7 := sp1.c 7 _ rfl; have re := sp1.e; have rg := sp1.g; have rf := sp1.f; have sp2 := sp1.put k mn mx x0 x1 x2 x3 (.slice bo ls.length cq); unfold put8 at sp2; have hc1 := k1.st.cell; rw [hs1] at hc1)
          | (go_at_call 55; (with_reducible refine (RY.out _).mono ?_); rintro e w' ⟨rfl, rfl⟩))
        have sp3 := (sp2.put 0 0 0 0 0 0 0 (.slice none 0 0)).set 50
        refine leaves_cons (f := 53) (args := #[.pointer (some ⟨R, 0, none⟩), .pointer (some ⟨R + 1, 0, none⟩)]) (by simp) (by simp [go_sem]) ?_
        refine (catch_panicking R (R + 1) _ _ _ _ _ _ _ _ _ _ (sp2.c 0 _ rfl) (sp2.c 1 _ rfl) (sp2.c 2 _ rfl) (sp2.c 3 _ rfl) (sp2.c 4 _ rfl) (sp2.c 5 _ rfl) (sp2.c 6 _ rfl) (sp2.c 7 _ rfl) sp2.e sp2.g sp2.f (by omega) (by omega)).mono ?_
        rintro e u' w'' ⟨rfl, rfl, rfl⟩
        generalize World.setCell (put8 _ R 0 0 0 0 0 0 0 (Value.slice none 0 0)) ⟨R + 1, 0, none⟩ (.int .i64 50) = w9 at *
        have q0 := sp3.c 0 _ rfl; have q1 := sp3.c 1 _ rfl; have q2 := sp3.c 2 _ rfl; have q3 := sp3.c 3 _ rfl; have q4 := sp3.c 4 _ rfl; have q5 := sp3.c 5 _ rfl; have q6 := sp3.c 6 _ rfl; have q7 := sp3.c 7 _ rfl; have qe := sp3.e; have qg := sp3.g; have qf := sp3.f
        have bl := sp3.bel
        simp [Leaves, settle, results, Try.results40, go_sem, q0, q1, q2, q3, q4, q5, q6, q7, qe]
        exact bl
      | nil =>
        have RN := Lib.hid refuse_no
        clear A ha
        have hne : ¬ (!([] : Bs).isEmpty) = true := by decide
        rw [if_neg hne]
        have SZ : Hid (∀ (bo : Option Addr) (cq : Nat) (w1 : World), LiesL (R + 1 + 1 + 1 ≤ ·) w1 (.slice bo ls.length cq) ls → Calls Try.prog 42 #[.agg #[.int .i64 k, .int .i64 mn, .int .i64 mx, .int .u64 x0, .int .u64 x1, .int .u64 x2, .int .u64 x3, .slice bo ls.length cq]] w1 fun e w' => e = .returned (.int .i64 (sizeR (.mk k mn mx x0 x1 x2 x3 ls) : Nat)) ∧ Below w1.heap.size w1 w') := fun bo cq w1 hl => size_any w1 (.slice bo ls.length cq) (.mk k mn mx x0 x1 x2 x3 ls) hl
        have hsp : ∀ o : Obj, True := fun _ => trivial
        have WS : Hid (∀ o1 o2 o3, (((w.alloc o1).alloc o2).alloc o3).heap.size = R + 1 + 1 + 1) := fun o1 o2 o3 => by simp [hzz]
        by_cases h257 : sizeR (.mk k mn mx x0 x1 x2 x3 ls) = 257
        · rw [if_pos h257]
          rw [h257] at SZ
          unfold PostP
          go_enter_defers Try.func40, Try.ntmps40
          go_wp2_with (first
            | (go_at_call 54; (with_reducible refine (A2.out _ st0).mono ?_); rintro e w1 ⟨k1, bo, cq, rfl, hl1⟩; rw [WS.out] at hl1; have sp1 := sp0.grow k1.grown (by omega); have r0 := sp1.c 0 _ rfl; have r1 := sp1.c 1 _ rfl; have r2 := sp1.c 2 _ rfl; have r3 := sp1.c 3 _ rfl; have r4 := sp1.c 4 _ rfl; have r5 := sp1.c 5 _ rfl; have r6 := sp1.c 6 _ rfl; have r7 := sp1.c 7 _ rfl; have re := sp1.e; have rg := sp1.g; have rf := sp1.f; have sp2 := sp1.put k mn mx x0 x1 x2 x3 (.slice bo ls.length cq); have hl2 : LiesL (R + 1 + 1 + 1 ≤ ·) (put8 w1 R k mn mx x0 x1 x2 x3 (.slice bo ls.length cq)) _ ls := hl1.kept (by rw [put8_size]; exact Nat.le_refl _) (fun i hi _ => put8_other (by omega)) (fun _ q _ => q); unfold put8 at sp2 hl2; have hc1 : w1.cell? _ = some (.string ⟨#[]⟩) := k1.st.cell)
            | (go_at_call 55; (with_reducible refine (RN.out _).mono ?_); rintro e w' ⟨rfl, rfl⟩)
            | (go_at_call 42; (with_reducible refine (SZ.out _ _ _ hl2).mono ?_); rintro e w3 ⟨rfl, g3⟩; have sp3 := sp2.below g3; have sp4 := (sp3.put 0 0 0 0 0 0 0 (.slice none 0 0)).set 51; unfold put8 at sp4; have r0 := sp3.c 0 _ rfl; have r1 := sp3.c 1 _ rfl; have r2 := sp3.c 2 _ rfl; have r3 := sp3.c 3 _ rfl; have r4 := sp3.c 4 _ rfl; have r5 := sp3.c 5 _ rfl; have r6 := sp3.c 6 _ rfl; have r7 := sp3.c 7 _ rfl; have re := sp3.e; have rg := sp3.g; have rf := sp3.f))
          refine leaves_cons (f := 53) (args := #[.pointer (some ⟨R, 0, none⟩), .pointer (some ⟨R + 1, 0, none⟩)]) (by simp) (by simp [go_sem]) ?_
          refine (catch_idle ⟨R, 0, none⟩ ⟨R + 1, 0, none⟩ _).mono ?_
          rintro e u' w'' ⟨rfl, rfl, rfl⟩
          have bl := sp4.bel
          simp [Leaves, settle, results, Try.results40, go_sem, r0, r1, r2, r3, r4, r5, r6, r7, re]
          exact bl
        · rw [if_neg h257]
          have h257i : ((sizeR (.mk k mn mx x0 x1 x2 x3 ls) : Nat) : Int) ≠ 257 := by omega
          have hd : (((sizeR (.mk k mn mx x0 x1 x2 x3 ls) : Nat) : Int) == 257) = false := by simp; omega
          generalize sizeR (.mk k mn mx x0 x1 x2 x3 ls) = sz at *
          clear h257
          unfold PostP
          go_enter_defers Try.func40, Try.ntmps40
          go_wp2_with (first
            | (go_at_call 54; (with_reducible refine (A2.out _ st0).mono ?_); rintro e w1 ⟨k1, bo, cq, rfl, hl1⟩; rw [WS.out] at hl1; have sp1 := sp0.grow k1.grown (by omega); have r0 := sp1.c 0 _ rfl; have r1 := sp1.c 1 _ rfl; have r2 := sp1.c 2 _ rfl; have r3 := sp1.c 3 _ rfl; have r4 := sp1.c 4 _ rfl; have r5 := sp1.c 5 _ rfl; have r6 := sp1.c 6 _ rfl; have r7 := sp1.c 7 _ rfl; have re := sp1.e; have rg := sp1.g; have rf := sp1.f; have sp2 := sp1.put k mn mx x0 x1 x2 x3 (.slice bo ls.length cq); have hl2 : LiesL (R + 1 + 1 + 1 ≤ ·) (put8 w1 R k mn mx x0 x1 x2 x3 (.slice bo ls.length cq)) _ ls := hl1.kept (by rw [put8_size]; exact Nat.le_refl _) (fun i hi _ => put8_other (by omega)) (fun _ q _ => q); unfold put8 at sp2 hl2; have hc1 : w1.cell? _ = some (.string ⟨#[]⟩) := k1.st.cell)
            | (go_at_call 55; (with_reducible refine (RN.out _).mono ?_); rintro e w' ⟨rfl, rfl⟩)
            | (go_at_call 42; (with_reducible refine (SZ.out _ _ _ hl2).mono ?_); rintro e w3 ⟨rfl, g3⟩; have sp3 := sp2.below g3; have sp4 := (sp3.put k mn mx x0 x1 x2 x3 (.slice bo ls.length cq)).set 0; have hl3 := hl2.stay g3; have hl4 : LiesL (w.heap.size ≤ ·) ((put8 w3 R k mn mx x0 x1 x2 x3 (.slice bo ls.length cq)).setCell ⟨R + 1, 0, none⟩ (.int .i64 0)) _ ls := hl3.kept (by simp [put8_size]) (fun i hi _ => by rw [heap_setCell_other _ _ _ _ (by show i ≠ R + 1; omega), put8_other (by omega)]) (fun i q _ => by omega); unfold put8 at sp4 hl4; have r0 := sp3.c 0 _ rfl; have r1 := sp3.c 1 _ rfl; have r2 := sp3.c 2 _ rfl; have r3 := sp3.c 3 _ rfl; have r4 := sp3.c 4 _ rfl; have r5 := sp3.c 5 _ rfl; have r6 := sp3.c 6 _ rfl; have r7 := sp3.c 7 _ rfl; have re := sp3.e; have rg := sp3.g; have rf := sp3.f))
          refine leaves_cons (f := 53) (args := #[.pointer (some ⟨R, 0, none⟩), .pointer (some ⟨R + 1, 0, none⟩)]) (by simp) (by simp [go_sem]) ?_
          refine (catch_idle ⟨R, 0, none⟩ ⟨R + 1, 0, none⟩ _).mono ?_
          rintro e u' w'' ⟨rfl, rfl, rfl⟩
          have bl := sp4.bel
          simp [Leaves, settle, results, Try.results40, go_sem, r0, r1, r2, r3, r4, r5, r6, r7, re]
          exact ⟨bl, _, rfl, hl4⟩
/-- the expression of a pattern -/
theorem parse_any (s : ByteArray) (w : World) : Calls Try.prog 40 #[.string s] w (PostP w (parseS s.data.toList)) := by
  have := parse_str s.data.toList w
  rw [str_toList] at this
  exact this
end Go.Proofs.Ytdmajbdgjjmlkaa
