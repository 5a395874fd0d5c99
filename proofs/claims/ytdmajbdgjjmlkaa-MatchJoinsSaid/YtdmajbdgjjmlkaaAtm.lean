/- An atom: what the call returns, how a fault goes out. Conditions: the reader lies in memory; what stands between brackets is read as it should. -/
import Derived.Test.YtdmajbdgjjmlkaaSts
namespace Go.Proofs.Ytdmajbdgjjmlkaa
open Go.RowKit
set_option linter.unusedVariables false

/-- what a reading call of an expression leaves: the expression lies in blocks of its own -/
def PostR (b : Nat) (w : World) (r : Option (Rx × Bs)) (e : Ending) (w' : World) : Prop :=
  match r with
  | some (t, l) => Step b w w' l ∧ ∃ v, e = .returned (t.val v) ∧ LiesL (w.heap.size ≤ ·) w' v t.list
  | none => e = pan ∧ w.grownBy w' (some b)
abbrev zero8 : Array Value := #[.int .i64 0, .int .i64 0, .int .i64 0, .int .u64 0, .int .u64 0, .int .u64 0, .int .u64 0, .slice none 0 0]
def put8 (w : World) (R : Nat) (k mn mx s0 s1 s2 s3 : Int) (v : Value) : World := (((((((w.setCell ⟨R, 0, none⟩ (.int .i64 k)).setCell ⟨R, 1, none⟩ (.int .i64 mn)).setCell ⟨R, 2, none⟩ (.int .i64 mx)).setCell ⟨R, 3, none⟩ (.int .u64 s0)).setCell ⟨R, 4, none⟩ (.int .u64 s1)).setCell ⟨R, 5, none⟩ (.int .u64 s2)).setCell ⟨R, 6, none⟩ (.int .u64 s3)).setCell ⟨R, 7, none⟩ v
theorem put8_other {w : World} {R i : Nat} {k mn mx s0 s1 s2 s3 : Int} {v : Value} (h : i ≠ R) : (put8 w R k mn mx s0 s1 s2 s3 v).heap[i]? = w.heap[i]? := by
  unfold put8
  rw [heap_setCell_other _ _ _ _ h, heap_setCell_other _ _ _ _ h, heap_setCell_other _ _ _ _ h, heap_setCell_other _ _ _ _ h, heap_setCell_other _ _ _ _ h, heap_setCell_other _ _ _ _ h, heap_setCell_other _ _ _ _ h, heap_setCell_other _ _ _ _ h]
theorem put8_size {w : World} {R : Nat} {k mn mx s0 s1 s2 s3 : Int} {v : Value} : (put8 w R k mn mx s0 s1 s2 s3 v).heap.size = w.heap.size := by unfold put8; simp
/-- how the reader and the result's row lie -/
structure At (b R : Nat) (w wr : World) (l : Bs) : Prop where
  st : St wr b l
  res : wr.heap[R]? = some (.cells zero8 26 (0, 0))
  grown : w.grownBy wr (some b)
  lt : b < w.heap.size
  hR : w.heap.size ≤ R
section
variable {b R : Nat} {w wr w' : World} {l l' : Bs}
theorem At.first (h : St w b l) : At b w.heap.size w (w.alloc (.cells zero8 26)) l :=
  ⟨by unfold St; rw [(below_new w _).block b (block_lt h)]; exact h, heap_alloc_new w _, below_grown (below_new w _), block_lt h, Nat.le_refl _⟩
theorem At.step (h : At b R w wr l) (k : Step b wr w' l') : At b R w w' l' :=
  ⟨k.st, by rw [k.grown.block R (block_lt h.res) (by have := h.lt; have := h.hR; simp; omega)]; exact h.res, grown_trans h.grown k.grown, h.lt, h.hR⟩
theorem At.below (h : At b R w wr l) (k : Below wr.heap.size wr w') : At b R w w' l :=
  ⟨by unfold St; rw [k.block b (block_lt h.st)]; exact h.st, by rw [k.block R (block_lt h.res)]; exact h.res, grown_trans h.grown (below_grown k), h.lt, h.hR⟩
theorem At.fin (h : At b R w wr l) {k mn mx s0 s1 s2 s3 : Int} {v : Value} : Step b w (put8 wr R k mn mx s0 s1 s2 s3 v) l :=
  ⟨by
    have hR := h.hR
    unfold put8
    exact grown_cell (a := ⟨R, 7, none⟩) (grown_cell (a := ⟨R, 6, none⟩) (grown_cell (a := ⟨R, 5, none⟩) (grown_cell (a := ⟨R, 4, none⟩) (grown_cell (a := ⟨R, 3, none⟩) (grown_cell (a := ⟨R, 2, none⟩) (grown_cell (a := ⟨R, 1, none⟩) (grown_cell (a := ⟨R, 0, none⟩) h.grown hR) hR) hR) hR) hR) hR) hR) hR, by unfold St; rw [put8_other (by have := h.lt; have := h.hR; omega)]; exact h.st⟩
theorem At.r0 (h : At b R w wr l) : wr.cell? ⟨R, 0, none⟩ = some (.int .i64 0) := cell_at h.res rfl
theorem At.r1 (h : At b R w wr l) : wr.cell? ⟨R, 1, none⟩ = some (.int .i64 0) := cell_at h.res rfl
theorem At.r2 (h : At b R w wr l) : wr.cell? ⟨R, 2, none⟩ = some (.int .i64 0) := cell_at h.res rfl
theorem At.r3 (h : At b R w wr l) : wr.cell? ⟨R, 3, none⟩ = some (.int .u64 0) := cell_at h.res rfl
theorem At.r4 (h : At b R w wr l) : wr.cell? ⟨R, 4, none⟩ = some (.int .u64 0) := cell_at h.res rfl
theorem At.r5 (h : At b R w wr l) : wr.cell? ⟨R, 5, none⟩ = some (.int .u64 0) := cell_at h.res rfl
theorem At.r6 (h : At b R w wr l) : wr.cell? ⟨R, 6, none⟩ = some (.int .u64 0) := cell_at h.res rfl
theorem At.r7 (h : At b R w wr l) : wr.cell? ⟨R, 7, none⟩ = some (.slice none 0 0) := cell_at h.res rfl
theorem At.g (h : At b R w wr l) (o : Nat) : wr.frozen? ⟨R, o, none⟩ = false := free_at h.res
/-- an expression that lies in blocks made later stays when the result's row is written -/
theorem At.lies {D : Nat} {w2 : World} {v : Value} {ls : List Rx} (h : At b R w wr l) (hl : LiesL (D ≤ ·) w2 v ls) (hD : R < D) (hs : w2.heap.size ≤ wr.heap.size) (hk : ∀ i, D ≤ i → i < w2.heap.size → wr.heap[i]? = w2.heap[i]?)
    {k mn mx s0 s1 s2 s3 : Int} {u : Value} : LiesL (w.heap.size ≤ ·) (put8 wr R k mn mx s0 s1 s2 s3 u) v ls :=
  hl.kept (by rw [put8_size]; exact hs) (fun i hi hlt => by rw [put8_other (by omega)]; exact hk i hi hlt) (fun i hi _ => by have := h.hR; omega)
end
theorem LiesL.none' {ok : Nat → Prop} {w : World} : LiesL ok w (.slice none 0 0) [] := LiesL.nil ok w
theorem isNext_no {l : Bs} {c d : UInt8} (h : isNext c l = true) (hd : c ≠ d) : isNext d l = false := by
  cases l with
  | nil => rfl
  | cons x l => simp [isNext] at h ⊢; subst h; exact hd
theorem moved_cell {b R : Nat} {w w2 w4 : World} {l1 l2 : Bs} {C : Array Value} (h : At b R w w2 l1) (k : Step b (w2.alloc (.cells C 26)) w4 l2) : ∀ j u, C[j]? = some u → w4.cell? ⟨w2.heap.size, j, none⟩ = some u := fun j u hu => by
  refine cell_at (t := 26) (C := C) ?_ hu
  rw [k.grown.block _ (by simp) (by have := block_lt h.st; simp; omega)]
  exact heap_alloc_new w2 (.cells C 26)
set_option maxRecDepth 20000 in
set_option maxHeartbeats 8000000 in
theorem atom_any (alt : Bs → Option (Rx × Bs)) (b : Nat) (l : Bs) (w : World) (h : St w b l)
    (IH : isNext 40 l = true → ∀ w1, St w1 b l.tail → Calls Try.prog 54 #[.pointer (some ⟨b, 0, none⟩)] w1 (PostR b w1 (alt l.tail))) : Calls Try.prog 67 #[.pointer (some ⟨b, 0, none⟩)] w (PostR b w (atomP alt l)) := by
  obtain ⟨R, hR⟩ : ∃ R, R = w.heap.size := ⟨_, rfl⟩
  have t0 := At.first h
  rw [← hR] at t0
  have q0 := t0.st
  have hzz : w.heap.size = R := hR.symm
  unfold zero8 at q0 t0
  clear h hR
  unfold atomP
  cases h40 : isNext 40 l with
  | true =>
    have IH1 := IH h40
    clear IH
    have T40 : Hid (∀ w1, St w1 b l → Calls Try.prog 61 #[.pointer (some ⟨b, 0, none⟩), .int .u8 40] w1 fun e w' => e = .returned (.bool true) ∧ Step b w1 w' l.tail) := fun w1 q => takes_yes b 40 l.tail w1 (by rw [← isNext_iff h40]; exact q)
    rw [if_pos rfl]
    clear h40
    cases ha : alt l.tail with
    | none =>
      rw [ha] at IH1
      unfold PostR at IH1
      have IH2 := Lib.hid IH1
      clear IH1 ha
      unfold PostR
      go_enter Try.func67, Try.ntmps67
      go_wp2_with (first
        | (go_at_call 61; (with_reducible refine (T40.out _ q0).mono ?_); rintro e w' ⟨rfl, s1⟩; have t1 := t0.step s1; have qt1 := t1.st)
        | (go_at_call 54; (with_reducible refine (IH2.out _ qt1).mono ?_); rintro e w' ⟨rfl, s2⟩))
      exact ⟨rfl, rfl, grown_trans t1.grown s2⟩
    | some p =>
      obtain ⟨t, l1⟩ := p
      rw [ha] at IH1
      obtain ⟨k, mn, mx, x0, x1, x2, x3, ls⟩ := t
      have IH2 : Hid (∀ w1, St w1 b l.tail → Calls Try.prog 54 #[.pointer (some ⟨b, 0, none⟩)] w1 fun e w' => Step b w1 w' l1 ∧ ∃ ao cp, e = .returned (.agg #[.int .i64 k, .int .i64 mn, .int .i64 mx, .int .u64 x0, .int .u64 x1, .int .u64 x2, .int .u64 x3, .slice ao ls.length cp]) ∧ LiesL (w1.heap.size ≤ ·) w' (.slice ao ls.length cp) ls) := fun w1 q => (IH1 w1 q).mono fun e w' hp => by
        obtain ⟨hs, v, he, hl⟩ := hp
        obtain ⟨ao, cp, hv⟩ := hl.value
        have hv' : v = .slice ao ls.length cp := hv
        subst hv'
        exact ⟨hs, ao, cp, he, hl⟩
      clear IH1 ha
      dsimp only
      rw [wantP_eq]
      cases h41 : isNext 41 l1 with
      | false =>
        have W : Hid (∀ w1, St w1 b l1 → Calls Try.prog 73 #[.pointer (some ⟨b, 0, none⟩), .int .u8 41] w1 fun e w' => e = pan ∧ w1.grownBy w' (some b)) := fun w1 q => wants_no b 41 l1 w1 q h41
        rw [if_neg (by decide)]
        unfold PostR
        clear h41
        go_enter Try.func67, Try.ntmps67
        go_wp2_with (first
          | (go_at_call 61; (with_reducible refine (T40.out _ q0).mono ?_); rintro e w' ⟨rfl, s1⟩; have t1 := t0.step s1; have qt1 := t1.st)
          | (go_at_call 54; (with_reducible refine (IH2.out _ qt1).mono ?_); rintro e w2 ⟨s2, ao, cp, rfl, hl⟩; have t2 := t1.step s2; have t3 := fun o => t2.below (below_new _ o); have q3 := fun o => (t3 o).st)
          | (go_at_call 73; (with_reducible refine (W.out _ (q3 _)).mono ?_); rintro e w' ⟨rfl, s4⟩))
        exact ⟨rfl, rfl, grown_trans (t3 _).grown s4⟩
      | true =>
        have e41 := isNext_iff h41
        have W : Hid (∀ w1, St w1 b l1 → Calls Try.prog 73 #[.pointer (some ⟨b, 0, none⟩), .int .u8 41] w1 fun e w' => e = .returned (.tuple #[]) ∧ Step b w1 w' l1.tail) := fun w1 q => wants_yes b 41 l1.tail w1 (by rw [← e41]; exact q)
        rw [if_pos rfl]
        unfold PostR
        clear h41 e41
        go_enter Try.func67, Try.ntmps67
        go_wp2_with (first
          | (go_at_call 61; (with_reducible refine (T40.out _ q0).mono ?_); rintro e w' ⟨rfl, s1⟩; have t1 := t0.step s1; have qt1 := t1.st)
          | (go_at_call 54; (with_reducible refine (IH2.out _ qt1).mono ?_); rintro e w2 ⟨s2, ao, cp, rfl, hl⟩; have t2 := t1.step s2; have t3 := fun o => t2.below (below_new _ o); have q3 := fun o => (t3 o).st)
          | (go_at_call 73; (with_reducible refine (W.out _ (q3 _)).mono ?_); rintro e w4 ⟨rfl, s4⟩; have tz := (t3 _).step s4; have r0 := tz.r0; have r1 := tz.r1; have r2 := tz.r2; have r3 := tz.r3; have r4 := tz.r4; have r5 := tz.r5; have r6 := tz.r6; have r7 := tz.r7; have rg := tz.g; have m0 : w4.cell? ⟨w2.heap.size, 0, none⟩ = some (.int .i64 k) := moved_cell t2 s4 0 _ rfl; have m1 : w4.cell? ⟨w2.heap.size, 1, none⟩ = some (.int .i64 mn) := moved_cell t2 s4 1 _ rfl; have m2 : w4.cell? ⟨w2.heap.size, 2, none⟩ = some (.int .i64 mx) := moved_cell t2 s4 2 _ rfl; have m3 : w4.cell? ⟨w2.heap.size, 3, none⟩ = some (.int .u64 x0) := moved_cell t2 s4 3 _ rfl; have m4 : w4.cell? ⟨w2.heap.size, 4, none⟩ = some (.int .u64 x1) := moved_cell t2 s4 4 _ rfl; have m5 : w4.cell? ⟨w2.heap.size, 5, none⟩ = some (.int .u64 x2) := moved_cell t2 s4 5 _ rfl; have m6 : w4.cell? ⟨w2.heap.size, 6, none⟩ = some (.int .u64 x3) := moved_cell t2 s4 6 _ rfl; have m7 : w4.cell? ⟨w2.heap.size, 7, none⟩ = some (.slice ao ls.length cp) := moved_cell t2 s4 7 _ rfl))
        exact bodyPost_ret (v := .agg #[.int .i64 k, .int .i64 mn, .int .i64 mx, .int .u64 x0, .int .u64 x1, .int .u64 x2, .int .u64 x3, .slice ao ls.length cp]) (by simp [results, Try.results67, go_sem, r0, r1, r2, r3, r4, r5, r6, r7]) rfl ⟨tz.fin, _, rfl, tz.lies hl (by have := block_lt t1.res; omega) (by have := s4.grown.size; simp at this; omega) (fun i h1 h2 => by have := block_lt t1.st; rw [s4.grown.block i (by simp; omega) (by simp; omega)]; exact (below_new w2 _).block i h2)⟩
  | false =>
    clear IH
    have T40 : Hid (∀ w1, St w1 b l → Calls Try.prog 61 #[.pointer (some ⟨b, 0, none⟩), .int .u8 40] w1 fun e w' => e = .returned (.bool false) ∧ Step b w1 w' l) := fun w1 q => takes_no b 40 l w1 q h40
    rw [if_neg (by decide)]
    clear h40
    cases h91 : isNext 91 l with
    | true =>
      have T91 : Hid (∀ w1, St w1 b l → Calls Try.prog 61 #[.pointer (some ⟨b, 0, none⟩), .int .u8 91] w1 fun e w' => e = .returned (.bool true) ∧ Step b w1 w' l.tail) := fun w1 q => takes_yes b 91 l.tail w1 (by rw [← isNext_iff h91]; exact q)
      rw [if_pos rfl]
      clear h91
      have S := fun w1 (q : St w1 b l.tail) => set_any b l.tail w1 q
      cases hs : setP l.tail with
      | none =>
        rw [hs] at S
        unfold PostS at S
        have S2 := Lib.hid S
        unfold PostR
        clear S hs
        go_enter Try.func67, Try.ntmps67
        go_wp2_with (first
          | (go_at_call 61; (with_reducible refine (T40.out _ q0).mono ?_); rintro e w' ⟨rfl, s1⟩; have t1 := t0.step s1; have qt1 := t1.st)
          | (go_at_call 61; (with_reducible refine (T91.out _ qt1).mono ?_); rintro e w' ⟨rfl, s2⟩; have t2 := t1.step s2; have qt2 := t2.st)
          | (go_at_call 75; (with_reducible refine (S2.out _ qt2).mono ?_); rintro e w' ⟨rfl, s3⟩))
        exact ⟨rfl, rfl, grown_trans t2.grown s3⟩
      | some p =>
        obtain ⟨s, l1⟩ := p
        rw [hs] at S
        have S2 : Hid (∀ w1, St w1 b l.tail → Calls Try.prog 75 #[.pointer (some ⟨b, 0, none⟩)] w1 fun e w' => e = .returned (.agg #[.int .u64 (s.a : Nat), .int .u64 (s.b : Nat), .int .u64 (s.c : Nat), .int .u64 (s.d : Nat)]) ∧ Step b w1 w' l1) := fun w1 q => (S w1 q).mono fun e w' hp => ⟨hp.1, hp.2.1⟩
        have K64 : Hid (∀ w, Calls Try.prog 74 #[.agg #[.int .u64 (s.a : Nat), .int .u64 (s.b : Nat), .int .u64 (s.c : Nat), .int .u64 (s.d : Nat)]] w fun e w' => e = .returned (.agg #[.int .i64 0, .int .i64 0, .int .i64 0, .int .u64 (s.a : Nat), .int .u64 (s.b : Nat), .int .u64 (s.c : Nat), .int .u64 (s.d : Nat), .slice none 0 0]) ∧ Below w.heap.size w w') := fun w => anyOf_any s w
        unfold PostR
        clear S hs
        go_enter Try.func67, Try.ntmps67
        go_wp2_with (first
          | (go_at_call 61; (with_reducible refine (T40.out _ q0).mono ?_); rintro e w' ⟨rfl, s1⟩; have t1 := t0.step s1; have qt1 := t1.st)
          | (go_at_call 61; (with_reducible refine (T91.out _ qt1).mono ?_); rintro e w' ⟨rfl, s2⟩; have t2 := t1.step s2; have qt2 := t2.st)
          | (go_at_call 75; (with_reducible refine (S2.out _ qt2).mono ?_); rintro e w' ⟨rfl, s3⟩; have t3 := t2.step s3)
          | (go_at_call 74; (with_reducible refine (K64.out _).mono ?_); rintro e w' ⟨rfl, g64⟩; have tz := t3.below g64; have r0 := tz.r0; have r1 := tz.r1; have r2 := tz.r2; have r3 := tz.r3; have r4 := tz.r4; have r5 := tz.r5; have r6 := tz.r6; have r7 := tz.r7; have rg := tz.g))
        exact bodyPost_ret (v := .agg #[.int .i64 0, .int .i64 0, .int .i64 0, .int .u64 (s.a : Nat), .int .u64 (s.b : Nat), .int .u64 (s.c : Nat), .int .u64 (s.d : Nat), .slice none 0 0]) (by simp [results, Try.results67, go_sem, r0, r1, r2, r3, r4, r5, r6, r7]) rfl ⟨tz.fin, _, rfl, LiesL.none'⟩
    | false =>
      have T91 : Hid (∀ w1, St w1 b l → Calls Try.prog 61 #[.pointer (some ⟨b, 0, none⟩), .int .u8 91] w1 fun e w' => e = .returned (.bool false) ∧ Step b w1 w' l) := fun w1 q => takes_no b 91 l w1 q h91
      rw [if_neg (by decide)]
      clear h91
      cases h46 : isNext 46 l with
      | true =>
        have T46 : Hid (∀ w1, St w1 b l → Calls Try.prog 61 #[.pointer (some ⟨b, 0, none⟩), .int .u8 46] w1 fun e w' => e = .returned (.bool true) ∧ Step b w1 w' l.tail) := fun w1 q => takes_yes b 46 l.tail w1 (by rw [← isNext_iff h46]; exact q)
        rw [if_pos rfl]
        clear h46
        have A : Hid (∀ w, Calls Try.prog 76 #[] w fun e w' => e = .returned (.agg #[.int .u64 (S4.full.a : Nat), .int .u64 (S4.full.b : Nat), .int .u64 (S4.full.c : Nat), .int .u64 (S4.full.d : Nat)]) ∧ Below w.heap.size w w') := fun w => allBytes_any w
        generalize S4.full = s at *
        have K64 : Hid (∀ w, Calls Try.prog 74 #[.agg #[.int .u64 (s.a : Nat), .int .u64 (s.b : Nat), .int .u64 (s.c : Nat), .int .u64 (s.d : Nat)]] w fun e w' => e = .returned (.agg #[.int .i64 0, .int .i64 0, .int .i64 0, .int .u64 (s.a : Nat), .int .u64 (s.b : Nat), .int .u64 (s.c : Nat), .int .u64 (s.d : Nat), .slice none 0 0]) ∧ Below w.heap.size w w') := fun w => anyOf_any s w
        unfold PostR
        go_enter Try.func67, Try.ntmps67
        go_wp2_with (first
          | (go_at_call 61; (with_reducible refine (T40.out _ q0).mono ?_); rintro e w' ⟨rfl, s1⟩; have t1 := t0.step s1; have qt1 := t1.st)
          | (go_at_call 61; (with_reducible refine (T91.out _ qt1).mono ?_); rintro e w' ⟨rfl, s2⟩; have t2 := t1.step s2; have qt2 := t2.st)
          | (go_at_call 61; (with_reducible refine (T46.out _ qt2).mono ?_); rintro e w' ⟨rfl, s3⟩; have t3 := t2.step s3; have qt3 := t3.st)
          | (go_at_call 76; (with_reducible refine (A.out _).mono ?_); rintro e w' ⟨rfl, g4⟩; have t4 := t3.below g4)
          | (go_at_call 74; (with_reducible refine (K64.out _).mono ?_); rintro e w' ⟨rfl, g64⟩; have tz := t4.below g64; have r0 := tz.r0; have r1 := tz.r1; have r2 := tz.r2; have r3 := tz.r3; have r4 := tz.r4; have r5 := tz.r5; have r6 := tz.r6; have r7 := tz.r7; have rg := tz.g))
        exact bodyPost_ret (v := .agg #[.int .i64 0, .int .i64 0, .int .i64 0, .int .u64 (s.a : Nat), .int .u64 (s.b : Nat), .int .u64 (s.c : Nat), .int .u64 (s.d : Nat), .slice none 0 0]) (by simp [results, Try.results67, go_sem, r0, r1, r2, r3, r4, r5, r6, r7]) rfl ⟨tz.fin, _, rfl, LiesL.none'⟩
      | false =>
        have T46 : Hid (∀ w1, St w1 b l → Calls Try.prog 61 #[.pointer (some ⟨b, 0, none⟩), .int .u8 46] w1 fun e w' => e = .returned (.bool false) ∧ Step b w1 w' l) := fun w1 q => takes_no b 46 l w1 q h46
        rw [if_neg (by decide)]
        clear h46
        have B' := fun w1 (q : St w1 b l) => but_any ⟨#[92, 46, 91, 93, 40, 41, 124, 42, 43, 63, 123, 125]⟩ b l w1 q
        have B : Hid (∀ w1, St w1 b l → Calls Try.prog 77 #[.pointer (some ⟨b, 0, none⟩), .string ⟨#[92, 46, 91, 93, 40, 41, 124, 42, 43, 63, 123, 125]⟩] w1 (PostI b w1 (byteP rowBar l))) := fun w1 q => B' w1 q
        clear B'
        cases hb : byteP rowBar l with
        | none =>
          rw [hb] at B
          unfold PostI at B
          unfold PostR
          clear hb
          go_enter Try.func67, Try.ntmps67
          go_wp2_with (first
            | (go_at_call 61; (with_reducible refine (T40.out _ q0).mono ?_); rintro e w' ⟨rfl, s1⟩; have t1 := t0.step s1; have qt1 := t1.st)
            | (go_at_call 61; (with_reducible refine (T91.out _ qt1).mono ?_); rintro e w' ⟨rfl, s2⟩; have t2 := t1.step s2; have qt2 := t2.st)
            | (go_at_call 61; (with_reducible refine (T46.out _ qt2).mono ?_); rintro e w' ⟨rfl, s3⟩; have t3 := t2.step s3; have qt3 := t3.st)
            | (go_at_call 77; (with_reducible refine (B.out _ qt3).mono ?_); rintro e w' ⟨rfl, s4⟩))
          exact ⟨rfl, rfl, grown_trans t3.grown s4⟩
        | some p =>
          obtain ⟨n, l1⟩ := p
          rw [hb] at B
          unfold PostI at B
          have hn := (byteP_le hb).1
          have W : Hid (∀ w, Calls Try.prog 78 #[.agg #[.int .u64 0, .int .u64 0, .int .u64 0, .int .u64 0], .int .i64 (n : Nat), .int .i64 (n : Nat)] w fun e w' => e = .returned (.agg #[.int .u64 ((S4.zero.with n n).a : Nat), .int .u64 ((S4.zero.with n n).b : Nat), .int .u64 ((S4.zero.with n n).c : Nat), .int .u64 ((S4.zero.with n n).d : Nat)]) ∧ Below w.heap.size w w') := fun w => with_any S4.zero n n w zero_ok hn hn
          dsimp only
          generalize S4.zero.with n n = s at *
          have K64 : Hid (∀ w, Calls Try.prog 74 #[.agg #[.int .u64 (s.a : Nat), .int .u64 (s.b : Nat), .int .u64 (s.c : Nat), .int .u64 (s.d : Nat)]] w fun e w' => e = .returned (.agg #[.int .i64 0, .int .i64 0, .int .i64 0, .int .u64 (s.a : Nat), .int .u64 (s.b : Nat), .int .u64 (s.c : Nat), .int .u64 (s.d : Nat), .slice none 0 0]) ∧ Below w.heap.size w w') := fun w => anyOf_any s w
          unfold PostR
          clear hb hn
          go_enter Try.func67, Try.ntmps67
          go_wp2_with (first
            | (go_at_call 61; (with_reducible refine (T40.out _ q0).mono ?_); rintro e w' ⟨rfl, s1⟩; have t1 := t0.step s1; have qt1 := t1.st)
            | (go_at_call 61; (with_reducible refine (T91.out _ qt1).mono ?_); rintro e w' ⟨rfl, s2⟩; have t2 := t1.step s2; have qt2 := t2.st)
            | (go_at_call 61; (with_reducible refine (T46.out _ qt2).mono ?_); rintro e w' ⟨rfl, s3⟩; have t3 := t2.step s3; have qt3 := t3.st)
            | (go_at_call 77; (with_reducible refine (B.out _ qt3).mono ?_); rintro e w' ⟨rfl, s4⟩; have t4 := t3.step s4)
            | (go_at_call 78; (with_reducible refine (W.out _).mono ?_); rintro e w' ⟨rfl, g5⟩; have t5 := t4.below g5)
            | (go_at_call 74; (with_reducible refine (K64.out _).mono ?_); rintro e w' ⟨rfl, g64⟩; have tz := t5.below g64; have r0 := tz.r0; have r1 := tz.r1; have r2 := tz.r2; have r3 := tz.r3; have r4 := tz.r4; have r5 := tz.r5; have r6 := tz.r6; have r7 := tz.r7; have rg := tz.g))
          exact bodyPost_ret (v := .agg #[.int .i64 0, .int .i64 0, .int .i64 0, .int .u64 (s.a : Nat), .int .u64 (s.b : Nat), .int .u64 (s.c : Nat), .int .u64 (s.d : Nat), .slice none 0 0]) (by simp [results, Try.results67, go_sem, r0, r1, r2, r3, r4, r5, r6, r7]) rfl ⟨tz.fin, _, rfl, LiesL.none'⟩
end Go.Proofs.Ytdmajbdgjjmlkaa
