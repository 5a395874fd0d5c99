/- The bytes of a set as they are told: what the call returns, how a fault goes out. Conditions: the reader lies in memory. -/
import Derived.Test.YtdmajbdgjjmlkaaWit
import Derived.Test.YtdmajbdgjjmlkaaRep
import Derived.Test.YtdmajbdgjjmlkaaRow
import Derived.ScopeJumps
import Derived.WalkMore
namespace Go.Proofs.Ytdmajbdgjjmlkaa
open Go.RowKit
set_option linter.unusedVariables false

theorem wp_scope_loop {P : Program} {a : Act} {w : World} {Q : Exit → Act → World → Prop} {c rest : Code} (l : Nat) (J : Act → World → Prop) (μ : Act → World → Nat) (hf : findLabel c l = some (.seq .skip rest))
    (pass : ∀ a w, J a w → rest.wp P (Exit.jump l (fun a' w' => J a' w' ∧ μ a' w' < μ a w) Q) a w)
    (first : (∀ a w, J a w → rest.wp P (Exit.jump l J Q) a w) → c.wp P (Exit.jump l J Q) a w) : (Code.scope c).wp P Q a w :=
  wp_scope_jumps l J μ hf (first fun a w hJ => wp_mono (pass a w hJ) fun e a' w' hq => by
    cases e with
    | goto l' => exact ⟨hq.1, hq.2.1⟩
    | normal => exact hq
    | exit id => exact hq
    | ret => exact hq
    | panic ch => exact hq
    | outgrown => exact hq) fun a w hJ => wp_seq (wp_skip (pass a w hJ))
def putX (w : World) (X : Nat) (s : S4) : World := (((w.setCell ⟨X, 0, none⟩ (.int .u64 (s.a : Nat))).setCell ⟨X, 1, none⟩ (.int .u64 (s.b : Nat))).setCell ⟨X, 2, none⟩ (.int .u64 (s.c : Nat))).setCell ⟨X, 3, none⟩ (.int .u64 (s.d : Nat))
/-- how the reader and a set under way lie -/
structure Sit (b X R : Nat) (w wr : World) (s : S4) (l : Bs) : Prop where
  st : St wr b l
  row : wr.heap[X]? = some (.cells s.cells 103 (0, 0))
  res : wr.heap[R]? = some (.cells S4.zero.cells 103 (0, 0))
  grown : w.grownBy wr (some b)
  lt : b < w.heap.size
  hX : w.heap.size ≤ X
  hR : w.heap.size ≤ R
  ne : R ≠ X
section
variable {b X R : Nat} {w wr w' : World} {s s' : S4} {l l' : Bs}
theorem Sit.step (h : Sit b X R w wr s l) (k : Step b wr w' l') : Sit b X R w w' s l' :=
  ⟨k.st, by rw [k.grown.block X (block_lt h.row) (by have := h.lt; have := h.hX; simp; omega)]; exact h.row, by rw [k.grown.block R (block_lt h.res) (by have := h.lt; have := h.hR; simp; omega)]; exact h.res, grown_trans h.grown k.grown, h.lt, h.hX, h.hR, h.ne⟩
theorem below_grown {w w' : World} {r : Option Nat} (h : Below w.heap.size w w') : w.grownBy w' r := ⟨h.os, h.tape, h.output, h.size, fun i hi _ => h.block i hi⟩
theorem Sit.below (h : Sit b X R w wr s l) (k : Below wr.heap.size wr w') : Sit b X R w w' s l :=
  ⟨by unfold St; rw [k.block b (block_lt h.st)]; exact h.st, by rw [k.block X (block_lt h.row)]; exact h.row, by rw [k.block R (block_lt h.res)]; exact h.res, grown_trans h.grown (below_grown k), h.lt, h.hX, h.hR, h.ne⟩
theorem grown_cell {w wr : World} {r : Option Nat} {a : Addr} {v : Value} (h : w.grownBy wr r) (ha : w.heap.size ≤ a.block) : w.grownBy (wr.setCell a v) r :=
  ⟨h.os, h.tape, h.output, by simpa using h.size, fun i hi hn => (heap_setCell_other _ _ _ _ (by omega)).trans (h.block i hi hn)⟩
theorem putX_other (w : World) (X i : Nat) (s : S4) (h : i ≠ X) : (putX w X s).heap[i]? = w.heap[i]? := by
  unfold putX
  rw [heap_setCell_other _ _ _ _ h, heap_setCell_other _ _ _ _ h, heap_setCell_other _ _ _ _ h, heap_setCell_other _ _ _ _ h]
theorem putX_row {w : World} {X : Nat} {s : S4} (s' : S4) (h : w.heap[X]? = some (.cells s.cells 103 (0, 0))) : (putX w X s').heap[X]? = some (.cells s'.cells 103 (0, 0)) := by
  unfold putX
  rw [block_setCell (block_setCell (block_setCell (block_setCell h)))]
  rfl
theorem putX_grown {w wr : World} {r : Option Nat} {X : Nat} (s : S4) (h : w.grownBy wr r) (hX : w.heap.size ≤ X) : w.grownBy (putX wr X s) r :=
  grown_cell (a := ⟨X, 3, none⟩) (grown_cell (a := ⟨X, 2, none⟩) (grown_cell (a := ⟨X, 1, none⟩) (grown_cell (a := ⟨X, 0, none⟩) h hX) hX) hX) hX
theorem Sit.put (h : Sit b X R w wr s l) (s' : S4) : Sit b X R w (putX wr X s') s' l :=
  ⟨by unfold St; rw [putX_other _ _ _ _ (by have := h.lt; have := h.hX; omega)]; exact h.st, putX_row s' h.row, by rw [putX_other _ _ _ _ h.ne]; exact h.res, putX_grown s' h.grown h.hX, h.lt, h.hX, h.hR, h.ne⟩
theorem Sit.c0 (h : Sit b X R w wr s l) : wr.cell? ⟨X, 0, none⟩ = some (.int .u64 (s.a : Nat)) := cell_at h.row rfl
theorem Sit.c1 (h : Sit b X R w wr s l) : wr.cell? ⟨X, 1, none⟩ = some (.int .u64 (s.b : Nat)) := cell_at h.row rfl
theorem Sit.c2 (h : Sit b X R w wr s l) : wr.cell? ⟨X, 2, none⟩ = some (.int .u64 (s.c : Nat)) := cell_at h.row rfl
theorem Sit.c3 (h : Sit b X R w wr s l) : wr.cell? ⟨X, 3, none⟩ = some (.int .u64 (s.d : Nat)) := cell_at h.row rfl
theorem Sit.f (h : Sit b X R w wr s l) (o : Nat) : wr.frozen? ⟨X, o, none⟩ = false := free_at h.row
theorem Sit.r0 (h : Sit b X R w wr s l) : wr.cell? ⟨R, 0, none⟩ = some (.int .u64 0) := cell_at h.res rfl
theorem Sit.r1 (h : Sit b X R w wr s l) : wr.cell? ⟨R, 1, none⟩ = some (.int .u64 0) := cell_at h.res rfl
theorem Sit.r2 (h : Sit b X R w wr s l) : wr.cell? ⟨R, 2, none⟩ = some (.int .u64 0) := cell_at h.res rfl
theorem Sit.r3 (h : Sit b X R w wr s l) : wr.cell? ⟨R, 3, none⟩ = some (.int .u64 0) := cell_at h.res rfl
theorem Sit.g (h : Sit b X R w wr s l) (o : Nat) : wr.frozen? ⟨R, o, none⟩ = false := free_at h.res
end
/-- what a reading call of a set leaves -/
def PostS (b : Nat) (w : World) (r : Option (S4 × Bs)) (e : Ending) (w' : World) : Prop :=
  match r with
  | some (t, l) => e = .returned t.val ∧ Step b w w' l ∧ t.ok
  | none => e = pan ∧ w.grownBy w' (some b)
/-- how much the reader has left -/
def left (b : Nat) (w : World) : Nat := match w.cell? ⟨b, 0, none⟩ with | some (.string s) => s.size | _ => 0
theorem left_st {w : World} {b : Nat} {l : Bs} (h : St w b l) : left b w = l.length := by unfold left; rw [h.cell]; exact str_size l
theorem S4.ok.with' {s : S4} (h : s.ok) (lo hi : Nat) : (s.with lo hi).ok := S4.ok.withN h lo _
theorem S4.ok.others' {s : S4} (h : s.ok) : s.others.ok := ⟨by show 18446744073709551615 - s.a < _; omega, by show 18446744073709551615 - s.b < _; omega, by show 18446744073709551615 - s.c < _; omega, by show 18446744073709551615 - s.d < _; omega⟩
theorem Sit.fin {b X R : Nat} {w wr : World} {s : S4} {l : Bs} (h : Sit b X R w wr s l) (s' : S4) : Step b w (putX wr R s') l :=
  ⟨putX_grown s' h.grown h.hR, by unfold St; rw [putX_other _ _ _ _ (by have := h.lt; have := h.hR; omega)]; exact h.st⟩
def same4 (a b c d a' b' c' d' : Int) : Bool := a == a' && b == b' && c == c' && d == d'
theorem same4_no {s : S4} (h : ¬ s = S4.zero) : same4 (s.a : Nat) (s.b : Nat) (s.c : Nat) (s.d : Nat) 0 0 0 0 = false := by
  obtain ⟨a, b, c, d⟩ := s
  cases hh : same4 (a : Nat) (b : Nat) (c : Nat) (d : Nat) 0 0 0 0 with
  | false => rfl
  | true =>
    exfalso
    apply h
    unfold same4 at hh
    simp at hh
    simp [S4.zero, hh]
noncomputable def eql103 (x y : Value) : Sem Value := binOp .eql 103 x y
theorem eql103_pre (x y : Value) : binOp .eql 103 x y = eql103 x y := rfl
theorem eql103_run (a b c d a' b' c' d' : Int) (w : World) : (eql103 (.agg #[.int .u64 a, .int .u64 b, .int .u64 c, .int .u64 d]) (.agg #[.int .u64 a', .int .u64 b', .int .u64 c', .int .u64 d'])).run Try.prog w = .ok (.bool (same4 a b c d a' b' c' d')) w := by
  show (binOp .eql 103 (.agg (set4 a b c d)) (.agg (set4 a' b' c' d'))).run Try.prog w = _
  rw [run_eql_struct, eq23 a b c d a' b' c' d' 9998 w 103 Try.underlying103, Result.andThen_ok]
  rfl
attribute [local go_sem ↓] eql103_pre
attribute [local go_sem] eql103_run
def JS (b X R : Nat) (w : World) (o : Bool) (T : Option (S4 × Bs)) (a : Act) (wr : World) : Prop := ∃ s l, Sit b X R w wr s l ∧ s.ok ∧ endS o (rowsS s l) = T ∧ ∃ (u1 u5 u6 u7 u8 u9 u10 u11 u12 u13 u14 u15 u16 u17 u18 u19 u20 u21 u22 u23 u24 u25 u26 u27 u28 u29 u30 u31 u32 u33 u34 : Value), a = ⟨#[.pointer (some ⟨b, 0, none⟩), u1, .pointer (some ⟨R, 0, none⟩), .pointer (some ⟨X, 0, none⟩), .bool o, u5, u6, u7, u8, u9, u10, u11, u12, u13, u14, u15, u16, u17, u18, u19, u20, u21, u22, u23, u24, u25, u26, u27, u28, u29, u30, u31, u32, u33, u34], []⟩
set_option maxRecDepth 20000 in
set_option maxHeartbeats 8000000 in
theorem set_core (b : Nat) (o : Bool) (T : Option (S4 × Bs)) (l l0 : Bs) (w : World) (h : St w b l)
    (TK : Hid (∀ w, St w b l → Calls Try.prog 61 #[.pointer (some ⟨b, 0, none⟩), .int .u8 94] w fun e w' => e = .returned (.bool o) ∧ Step b w w' l0))
    (hT : Hid (endS o (rowsS S4.zero l0) = T)) : Calls Try.prog 75 #[.pointer (some ⟨b, 0, none⟩)] w (PostS b w T) := by
  obtain ⟨R, hR⟩ : ∃ R, R = w.heap.size := ⟨_, rfl⟩
  have st0 : Hid (∀ o1, St ((w.alloc o1).alloc (.cells #[.int .u64 0, .int .u64 0, .int .u64 0, .int .u64 0] 103)) b l) := fun o1 => by
    have hbl := below_trans (below_new w o1) (below_new _ (.cells #[.int .u64 0, .int .u64 0, .int .u64 0, .int .u64 0] 103))
    unfold St
    rw [hbl.block b (block_lt h)]
    exact h
  have sit0 : Hid (∀ w2, Step b ((w.alloc (.cells #[.int .u64 0, .int .u64 0, .int .u64 0, .int .u64 0] 103)).alloc (.cells #[.int .u64 0, .int .u64 0, .int .u64 0, .int .u64 0] 103)) w2 l0 → Sit b (R + 1) R w w2 S4.zero l0) := fun w2 k => by
    have hlt := block_lt h
    have hbl := below_trans (below_new w (.cells #[.int .u64 0, .int .u64 0, .int .u64 0, .int .u64 0] 103)) (below_new _ (.cells #[.int .u64 0, .int .u64 0, .int .u64 0, .int .u64 0] 103))
    have s0 : Sit b (R + 1) R w ((w.alloc (.cells #[.int .u64 0, .int .u64 0, .int .u64 0, .int .u64 0] 103)).alloc (.cells #[.int .u64 0, .int .u64 0, .int .u64 0, .int .u64 0] 103)) S4.zero l := by
      refine ⟨st0.out _, ?_, ?_, below_grown hbl, hlt, by omega, by omega, by omega⟩
      · have := heap_alloc_new (w.alloc (.cells #[.int .u64 0, .int .u64 0, .int .u64 0, .int .u64 0] 103)) (.cells #[.int .u64 0, .int .u64 0, .int .u64 0, .int .u64 0] 103)
        show _ = some (Obj.cells #[.int .u64 0, .int .u64 0, .int .u64 0, .int .u64 0] 103 (0, 0))
        rw [hR]
        simpa using this
      · rw [Below.heap_alloc _ _ R (by rw [hR]; simp), hR]; exact heap_alloc_new w _
    exact s0.step k
  have hzz : w.heap.size = R := hR.symm
  clear h hR
  go_enter Try.func75, Try.ntmps75
  go_wp2
  refine wp_scope_loop 0 (JS b (R + 1) R w o T) (fun _ w' => left b w') rfl ?_ ?_
  · clear st0 sit0 TK hT hzz
    rintro a wr ⟨s, l, sit, ok, ht, u1, u5, u6, u7, u8, u9, u10, u11, u12, u13, u14, u15, u16, u17, u18, u19, u20, u21, u22, u23, u24, u25, u26, u27, u28, u29, u30, u31, u32, u33, u34, rfl⟩
    have RN := Lib.hid refuse_no
    have RY := Lib.hid refuse_yes
    have q0 := sit.st
    have B1' := fun w1 (q : St w1 b l) => but_any ⟨#[92, 93, 94, 45]⟩ b l w1 q
    have B1 : Hid (∀ w1, St w1 b l → Calls Try.prog 77 #[.pointer (some ⟨b, 0, none⟩), .string ⟨#[92, 93, 94, 45]⟩] w1 (PostI b w1 (byteP setBar l))) := fun w1 q => B1' w1 q
    clear B1'
    cases hb1 : byteP setBar l with
    | none =>
      rw [hb1] at B1
      unfold PostI at B1
      have hT : T = none := by rw [← ht, rowsS_eq]; unfold spanP; rw [hb1]; rfl
      subst hT
      clear ht hb1
      go_wp2_with (first
        | (go_at_call 77; (with_reducible refine (B1.out _ q0).mono ?_); rintro e w1 ⟨rfl, s1⟩))
      exact ⟨rfl, rfl, grown_trans sit.grown s1⟩
    | some p =>
      obtain ⟨lo, l1⟩ := p
      rw [hb1] at B1
      unfold PostI at B1
      cases h1 : isNext 45 l1 with
      | false =>
        have hsp : spanP l = some (lo, lo, l1) := by unfold spanP; rw [hb1]; dsimp only; rw [h1]; rfl
        have N45 : Hid (∀ w1, St w1 b l1 → Calls Try.prog 61 #[.pointer (some ⟨b, 0, none⟩), .int .u8 45] w1 fun e w' => e = .returned (.bool false) ∧ Step b w1 w' l1) := fun w1 q => takes_no b 45 l1 w1 q h1
        clear h1 hb1
        obtain ⟨s', hs'⟩ : ∃ s', s' = s.with lo lo := ⟨_, rfl⟩
        have ok' : s'.ok := by rw [hs']; exact ok.with' _ _
        have hlo := spanP_le hsp
        have KW : Hid (∀ w, Calls Try.prog 78 #[.agg #[.int .u64 (s.a : Nat), .int .u64 (s.b : Nat), .int .u64 (s.c : Nat), .int .u64 (s.d : Nat)], .int .i64 (lo : Nat), .int .i64 (lo : Nat)] w fun e w' => e = .returned (.agg #[.int .u64 (s'.a : Nat), .int .u64 (s'.b : Nat), .int .u64 (s'.c : Nat), .int .u64 (s'.d : Nat)]) ∧ Below w.heap.size w w') := fun w => by rw [hs']; exact with_any s lo lo w ok hlo.1 hlo.2.1
        have hrow : rowsS s l = if isNext 93 l1 then some (s', l1.tail) else rowsS s' l1 := by rw [rowsS_eq, hsp, hs']
        have hlen : l1.length < l.length := hlo.2.2
        rw [hrow] at ht
        have HLEN := Lib.hid hlen
        have OK := Lib.hid ok'
        clear hrow hs' hlo hlen ok' ok
        cases h3 : isNext 93 l1 with
        | false =>
          rw [h3, if_neg (by decide)] at ht
          have T93 : Hid (∀ w1, St w1 b l1 → Calls Try.prog 61 #[.pointer (some ⟨b, 0, none⟩), .int .u8 93] w1 fun e w' => e = .returned (.bool false) ∧ Step b w1 w' l1) := fun w1 q => takes_no b 93 l1 w1 q h3
          have HT := Lib.hid ht
          clear h3 ht hsp
          go_wp2_with (first
            | (go_at_call 77; (with_reducible refine (B1.out _ q0).mono ?_); rintro e w1 ⟨rfl, s1⟩; have t1 := sit.step s1; have q1 := t1.st)
            | (go_at_call 61; (with_reducible refine (N45.out _ q1).mono ?_); rintro e w2 ⟨rfl, s2⟩; have tk := t1.step s2; have c0 := tk.c0; have c1 := tk.c1; have c2 := tk.c2; have c3 := tk.c3)
            | (go_at_call 55; (with_reducible refine (RN.out _).mono ?_); rintro e w' ⟨rfl, rfl⟩)
            | (go_at_call 78; (with_reducible refine (KW.out _).mono ?_); rintro e w4 ⟨rfl, g4⟩; have t4 := tk.below g4; have f4 := t4.f; have d0 := t4.c0; have d1 := t4.c1; have d2 := t4.c2; have d3 := t4.c3; have p4 := t4.put s'; unfold putX at p4; have q4 := p4.st)
            | (go_at_call 61; (with_reducible refine (T93.out _ q4).mono ?_); rintro e w5 ⟨rfl, s5⟩; have t5 := p4.step s5; have e0 := t5.c0; have e1 := t5.c1; have e2 := t5.c2; have e3 := t5.c3; have h0 := t5.r0; have h1 := t5.r1; have h2 := t5.r2; have h3 := t5.r3; have x5 := t5.f; have y5 := t5.g))
          go_step3
          refine ⟨rfl, ⟨s', l1, t5, OK.out, HT.out, _, _, _, _, _, _, _, _, _, _, _, _, _, _, _, _, _, _, _, _, _, _, _, _, _, _, _, _, _, _, _, rfl⟩, ?_⟩
          rw [left_st t5.st, left_st sit.st]
          exact HLEN.out
        | true =>
          rw [h3, if_pos rfl] at ht
          have e3 := isNext_iff h3
          have T93 : Hid (∀ w1, St w1 b l1 → Calls Try.prog 61 #[.pointer (some ⟨b, 0, none⟩), .int .u8 93] w1 fun e w' => e = .returned (.bool true) ∧ Step b w1 w' l1.tail) := fun w1 q => takes_yes b 93 l1.tail w1 (by rw [← e3]; exact q)
          clear h3 e3 hsp
          cases o with
          | false =>
            have ht2 : (if s' = S4.zero then none else some (s', l1.tail)) = T := ht
            clear ht
            by_cases hz : s' = S4.zero
            · rw [if_pos hz] at ht2
              subst ht2
              subst hz
              have hz2 : same4 (S4.zero.a : Nat) (S4.zero.b : Nat) (S4.zero.c : Nat) (S4.zero.d : Nat) 0 0 0 0 = true := by decide
              go_wp2_with (first
                | (go_at_call 77; (with_reducible refine (B1.out _ q0).mono ?_); rintro e w1 ⟨rfl, s1⟩; have t1 := sit.step s1; have q1 := t1.st)
                | (go_at_call 61; (with_reducible refine (N45.out _ q1).mono ?_); rintro e w2 ⟨rfl, s2⟩; have tk := t1.step s2; have c0 := tk.c0; have c1 := tk.c1; have c2 := tk.c2; have c3 := tk.c3)
                | (go_at_call 55; (with_reducible refine (RN.out _).mono ?_); rintro e w' ⟨rfl, rfl⟩)
                | (go_at_call 78; (with_reducible refine (KW.out _).mono ?_); rintro e w4 ⟨rfl, g4⟩; have t4 := tk.below g4; have f4 := t4.f; have d0 := t4.c0; have d1 := t4.c1; have d2 := t4.c2; have d3 := t4.c3; have p4 := t4.put S4.zero; unfold putX at p4; have q4 := p4.st)
                | (go_at_call 61; (with_reducible refine (T93.out _ q4).mono ?_); rintro e w5 ⟨rfl, s5⟩; have t5 := p4.step s5; have e0 := t5.c0; have e1 := t5.c1; have e2 := t5.c2; have e3 := t5.c3; have h0 := t5.r0; have h1 := t5.r1; have h2 := t5.r2; have h3 := t5.r3; have x5 := t5.f; have y5 := t5.g)
                | (go_at_call 55; (with_reducible refine (RY.out _).mono ?_); rintro e w' ⟨rfl, rfl⟩))
              exact ⟨rfl, rfl, t5.grown⟩
            · rw [if_neg hz] at ht2
              have hz2 := same4_no hz
              subst ht2
              clear hz
              go_wp2_with (first
                | (go_at_call 77; (with_reducible refine (B1.out _ q0).mono ?_); rintro e w1 ⟨rfl, s1⟩; have t1 := sit.step s1; have q1 := t1.st)
                | (go_at_call 61; (with_reducible refine (N45.out _ q1).mono ?_); rintro e w2 ⟨rfl, s2⟩; have tk := t1.step s2; have c0 := tk.c0; have c1 := tk.c1; have c2 := tk.c2; have c3 := tk.c3)
                | (go_at_call 55; (with_reducible refine (RN.out _).mono ?_); rintro e w' ⟨rfl, rfl⟩)
                | (go_at_call 78; (with_reducible refine (KW.out _).mono ?_); rintro e w4 ⟨rfl, g4⟩; have t4 := tk.below g4; have f4 := t4.f; have d0 := t4.c0; have d1 := t4.c1; have d2 := t4.c2; have d3 := t4.c3; have p4 := t4.put s'; unfold putX at p4; have q4 := p4.st)
                | (go_at_call 61; (with_reducible refine (T93.out _ q4).mono ?_); rintro e w5 ⟨rfl, s5⟩; have t5 := p4.step s5; have e0 := t5.c0; have e1 := t5.c1; have e2 := t5.c2; have e3 := t5.c3; have h0 := t5.r0; have h1 := t5.r1; have h2 := t5.r2; have h3 := t5.r3; have x5 := t5.f; have y5 := t5.g))
              exact bodyPost_ret (v := .agg #[.int .u64 (s'.a : Nat), .int .u64 (s'.b : Nat), .int .u64 (s'.c : Nat), .int .u64 (s'.d : Nat)]) (by simp [results, Try.results75, go_sem, h0, h1, h2, h3]) rfl ⟨rfl, t5.fin s', OK.out⟩
          | true =>
            obtain ⟨s'', hs''⟩ : ∃ s'', s'' = s'.others := ⟨_, rfl⟩
            have K57 : Hid (∀ w, Calls Try.prog 82 #[.agg #[.int .u64 (s'.a : Nat), .int .u64 (s'.b : Nat), .int .u64 (s'.c : Nat), .int .u64 (s'.d : Nat)]] w fun e w' => e = .returned (.agg #[.int .u64 (s''.a : Nat), .int .u64 (s''.b : Nat), .int .u64 (s''.c : Nat), .int .u64 (s''.d : Nat)]) ∧ Below w.heap.size w w') := fun w => by rw [hs'']; exact others_any s' w OK.out
            have OK2 : Hid s''.ok := by rw [hs'']; exact OK.out.others'
            have ht2 : (if s'' = S4.zero then none else some (s'', l1.tail)) = T := by rw [hs'']; exact ht
            clear ht hs''
            by_cases hz : s'' = S4.zero
            · rw [if_pos hz] at ht2
              subst ht2
              subst hz
              have hz2 : same4 (S4.zero.a : Nat) (S4.zero.b : Nat) (S4.zero.c : Nat) (S4.zero.d : Nat) 0 0 0 0 = true := by decide
              go_wp2_with (first
                | (go_at_call 77; (with_reducible refine (B1.out _ q0).mono ?_); rintro e w1 ⟨rfl, s1⟩; have t1 := sit.step s1; have q1 := t1.st)
                | (go_at_call 61; (with_reducible refine (N45.out _ q1).mono ?_); rintro e w2 ⟨rfl, s2⟩; have tk := t1.step s2; have c0 := tk.c0; have c1 := tk.c1; have c2 := tk.c2; have c3 := tk.c3)
                | (go_at_call 55; (with_reducible refine (RN.out _).mono ?_); rintro e w' ⟨rfl, rfl⟩)
                | (go_at_call 78; (with_reducible refine (KW.out _).mono ?_); rintro e w4 ⟨rfl, g4⟩; have t4 := tk.below g4; have f4 := t4.f; have d0 := t4.c0; have d1 := t4.c1; have d2 := t4.c2; have d3 := t4.c3; have p4 := t4.put s'; unfold putX at p4; have q4 := p4.st)
                | (go_at_call 61; (with_reducible refine (T93.out _ q4).mono ?_); rintro e w5 ⟨rfl, s5⟩; have t5 := p4.step s5; have e0 := t5.c0; have e1 := t5.c1; have e2 := t5.c2; have e3 := t5.c3; have h0 := t5.r0; have h1 := t5.r1; have h2 := t5.r2; have h3 := t5.r3; have x5 := t5.f; have y5 := t5.g)
                | (go_at_call 82; (with_reducible refine (K57.out _).mono ?_); rintro e w6 ⟨rfl, g6⟩; have t6 := t5.below g6; have x6 := t6.f; have i0 := t6.c0; have i1 := t6.c1; have i2 := t6.c2; have i3 := t6.c3; have p6 := t6.put S4.zero; unfold putX at p6; have j0 := p6.c0; have j1 := p6.c1; have j2 := p6.c2; have j3 := p6.c3; have k0 := p6.r0; have k1 := p6.r1; have k2 := p6.r2; have k3 := p6.r3; have xp := p6.f; have yp := p6.g)
                | (go_at_call 55; (with_reducible refine (RY.out _).mono ?_); rintro e w' ⟨rfl, rfl⟩))
              exact ⟨rfl, rfl, p6.grown⟩
            · rw [if_neg hz] at ht2
              have hz2 := same4_no hz
              subst ht2
              clear hz
              go_wp2_with (first
                | (go_at_call 77; (with_reducible refine (B1.out _ q0).mono ?_); rintro e w1 ⟨rfl, s1⟩; have t1 := sit.step s1; have q1 := t1.st)
                | (go_at_call 61; (with_reducible refine (N45.out _ q1).mono ?_); rintro e w2 ⟨rfl, s2⟩; have tk := t1.step s2; have c0 := tk.c0; have c1 := tk.c1; have c2 := tk.c2; have c3 := tk.c3)
                | (go_at_call 55; (with_reducible refine (RN.out _).mono ?_); rintro e w' ⟨rfl, rfl⟩)
                | (go_at_call 78; (with_reducible refine (KW.out _).mono ?_); rintro e w4 ⟨rfl, g4⟩; have t4 := tk.below g4; have f4 := t4.f; have d0 := t4.c0; have d1 := t4.c1; have d2 := t4.c2; have d3 := t4.c3; have p4 := t4.put s'; unfold putX at p4; have q4 := p4.st)
                | (go_at_call 61; (with_reducible refine (T93.out _ q4).mono ?_); rintro e w5 ⟨rfl, s5⟩; have t5 := p4.step s5; have e0 := t5.c0; have e1 := t5.c1; have e2 := t5.c2; have e3 := t5.c3; have h0 := t5.r0; have h1 := t5.r1; have h2 := t5.r2; have h3 := t5.r3; have x5 := t5.f; have y5 := t5.g)
                | (go_at_call 82; (with_reducible refine (K57.out _).mono ?_); rintro e w6 ⟨rfl, g6⟩; have t6 := t5.below g6; have x6 := t6.f; have i0 := t6.c0; have i1 := t6.c1; have i2 := t6.c2; have i3 := t6.c3; have p6 := t6.put s''; unfold putX at p6; have j0 := p6.c0; have j1 := p6.c1; have j2 := p6.c2; have j3 := p6.c3; have k0 := p6.r0; have k1 := p6.r1; have k2 := p6.r2; have k3 := p6.r3; have xp := p6.f; have yp := p6.g))
              exact bodyPost_ret (v := .agg #[.int .u64 (s''.a : Nat), .int .u64 (s''.b : Nat), .int .u64 (s''.c : Nat), .int .u64 (s''.d : Nat)]) (by simp [results, Try.results75, go_sem, k0, k1, k2, k3]) rfl ⟨rfl, p6.fin s'', OK2.out⟩
      | true =>
        have e1 := isNext_iff h1
        have N45 : Hid (∀ w1, St w1 b l1 → Calls Try.prog 61 #[.pointer (some ⟨b, 0, none⟩), .int .u8 45] w1 fun e w' => e = .returned (.bool true) ∧ Step b w1 w' l1.tail) := fun w1 q => takes_yes b 45 l1.tail w1 (by rw [← e1]; exact q)
        have B2' := fun w1 (q : St w1 b l1.tail) => but_any ⟨#[92, 93, 94, 45]⟩ b l1.tail w1 q
        have B2 : Hid (∀ w1, St w1 b l1.tail → Calls Try.prog 77 #[.pointer (some ⟨b, 0, none⟩), .string ⟨#[92, 93, 94, 45]⟩] w1 (PostI b w1 (byteP setBar l1.tail))) := fun w1 q => B2' w1 q
        clear B2' e1
        cases hb2 : byteP setBar l1.tail with
        | none =>
          rw [hb2] at B2
          unfold PostI at B2
          have hT : T = none := by rw [← ht, rowsS_eq]; unfold spanP; rw [hb1]; dsimp only; rw [h1, if_pos rfl, hb2]; rfl
          subst hT
          clear ht hb1 hb2 h1
          go_wp2_with (first
            | (go_at_call 77; (with_reducible refine (B1.out _ q0).mono ?_); rintro e w1 ⟨rfl, s1⟩; have t1 := sit.step s1; have q1 := t1.st)
            | (go_at_call 61; (with_reducible refine (N45.out _ q1).mono ?_); rintro e w2 ⟨rfl, s2⟩; have t2 := t1.step s2; have q2 := t2.st)
            | (go_at_call 77; (with_reducible refine (B2.out _ q2).mono ?_); rintro e w3 ⟨rfl, s3⟩))
          exact ⟨rfl, rfl, grown_trans t2.grown s3⟩
        | some p2 =>
          obtain ⟨hi, l2⟩ := p2
          rw [hb2] at B2
          unfold PostI at B2
          by_cases hlt : hi < lo
          · have hT : T = none := by rw [← ht, rowsS_eq]; unfold spanP; rw [hb1]; dsimp only; rw [h1, if_pos rfl, hb2]; dsimp only; rw [if_pos hlt]; rfl
            subst hT
            have g1 : (hi : Int) < (lo : Int) := by omega
            clear ht hb1 hb2 h1 hlt
            go_wp2_with (first
              | (go_at_call 77; (with_reducible refine (B1.out _ q0).mono ?_); rintro e w1 ⟨rfl, s1⟩; have t1 := sit.step s1; have q1 := t1.st)
              | (go_at_call 61; (with_reducible refine (N45.out _ q1).mono ?_); rintro e w2 ⟨rfl, s2⟩; have t2 := t1.step s2; have q2 := t2.st)
              | (go_at_call 77; (with_reducible refine (B2.out _ q2).mono ?_); rintro e w3 ⟨rfl, s3⟩; have tk := t2.step s3; have c0 := tk.c0; have c1 := tk.c1; have c2 := tk.c2; have c3 := tk.c3)
              | (go_at_call 55; (with_reducible refine (RY.out _).mono ?_); rintro e w' ⟨rfl, rfl⟩))
            exact ⟨rfl, rfl, tk.grown⟩
          · have hsp : spanP l = some (lo, hi, l2) := by unfold spanP; rw [hb1]; dsimp only; rw [h1, if_pos rfl, hb2]; dsimp only; rw [if_neg hlt]
            have g1 : decide (hi < lo) = false := by simp; omega
            clear hb1 hb2 h1
            obtain ⟨s', hs'⟩ : ∃ s', s' = s.with lo hi := ⟨_, rfl⟩
            have ok' : s'.ok := by rw [hs']; exact ok.with' _ _
            have hlo := spanP_le hsp
            have KW : Hid (∀ w, Calls Try.prog 78 #[.agg #[.int .u64 (s.a : Nat), .int .u64 (s.b : Nat), .int .u64 (s.c : Nat), .int .u64 (s.d : Nat)], .int .i64 (lo : Nat), .int .i64 (hi : Nat)] w fun e w' => e = .returned (.agg #[.int .u64 (s'.a : Nat), .int .u64 (s'.b : Nat), .int .u64 (s'.c : Nat), .int .u64 (s'.d : Nat)]) ∧ Below w.heap.size w w') := fun w => by rw [hs']; exact with_any s lo hi w ok hlo.1 hlo.2.1
            have hrow : rowsS s l = if isNext 93 l2 then some (s', l2.tail) else rowsS s' l2 := by rw [rowsS_eq, hsp, hs']
            have hlen : l2.length < l.length := hlo.2.2
            rw [hrow] at ht
            have HLEN := Lib.hid hlen
            have OK := Lib.hid ok'
            clear hrow hs' hlo hlen ok' ok
            cases h3 : isNext 93 l2 with
            | false =>
              rw [h3, if_neg (by decide)] at ht
              have T93 : Hid (∀ w1, St w1 b l2 → Calls Try.prog 61 #[.pointer (some ⟨b, 0, none⟩), .int .u8 93] w1 fun e w' => e = .returned (.bool false) ∧ Step b w1 w' l2) := fun w1 q => takes_no b 93 l2 w1 q h3
              have HT := Lib.hid ht
              clear h3 ht hsp
              go_wp2_with (first
                | (go_at_call 77; (with_reducible refine (B1.out _ q0).mono ?_); rintro e w1 ⟨rfl, s1⟩; have t1 := sit.step s1; have q1 := t1.st)
                | (go_at_call 61; (with_reducible refine (N45.out _ q1).mono ?_); rintro e w2 ⟨rfl, s2⟩; have t2 := t1.step s2; have q2 := t2.st)
                | (go_at_call 77; (with_reducible refine (B2.out _ q2).mono ?_); rintro e w3 ⟨rfl, s3⟩; have tk := t2.step s3; have c0 := tk.c0; have c1 := tk.c1; have c2 := tk.c2; have c3 := tk.c3)
                | (go_at_call 55; (with_reducible refine (RN.out _).mono ?_); rintro e w' ⟨rfl, rfl⟩)
                | (go_at_call 78; (with_reducible refine (KW.out _).mono ?_); rintro e w4 ⟨rfl, g4⟩; have t4 := tk.below g4; have f4 := t4.f; have d0 := t4.c0; have d1 := t4.c1; have d2 := t4.c2; have d3 := t4.c3; have p4 := t4.put s'; unfold putX at p4; have q4 := p4.st)
                | (go_at_call 61; (with_reducible refine (T93.out _ q4).mono ?_); rintro e w5 ⟨rfl, s5⟩; have t5 := p4.step s5; have e0 := t5.c0; have e1 := t5.c1; have e2 := t5.c2; have e3 := t5.c3; have h0 := t5.r0; have h1 := t5.r1; have h2 := t5.r2; have h3 := t5.r3; have x5 := t5.f; have y5 := t5.g))
              go_step3
              refine ⟨rfl, ⟨s', l2, t5, OK.out, HT.out, _, _, _, _, _, _, _, _, _, _, _, _, _, _, _, _, _, _, _, _, _, _, _, _, _, _, _, _, _, _, _, rfl⟩, ?_⟩
              rw [left_st t5.st, left_st sit.st]
              exact HLEN.out
            | true =>
              rw [h3, if_pos rfl] at ht
              have e3 := isNext_iff h3
              have T93 : Hid (∀ w1, St w1 b l2 → Calls Try.prog 61 #[.pointer (some ⟨b, 0, none⟩), .int .u8 93] w1 fun e w' => e = .returned (.bool true) ∧ Step b w1 w' l2.tail) := fun w1 q => takes_yes b 93 l2.tail w1 (by rw [← e3]; exact q)
              clear h3 e3 hsp
              cases o with
              | false =>
                have ht2 : (if s' = S4.zero then none else some (s', l2.tail)) = T := ht
                clear ht
                by_cases hz : s' = S4.zero
                · rw [if_pos hz] at ht2
                  subst ht2
                  subst hz
                  have hz2 : same4 (S4.zero.a : Nat) (S4.zero.b : Nat) (S4.zero.c : Nat) (S4.zero.d : Nat) 0 0 0 0 = true := by decide
                  go_wp2_with (first
                    | (go_at_call 77; (with_reducible refine (B1.out _ q0).mono ?_); rintro e w1 ⟨rfl, s1⟩; have t1 := sit.step s1; have q1 := t1.st)
                    | (go_at_call 61; (with_reducible refine (N45.out _ q1).mono ?_); rintro e w2 ⟨rfl, s2⟩; have t2 := t1.step s2; have q2 := t2.st)
                    | (go_at_call 77; (with_reducible refine (B2.out _ q2).mono ?_); rintro e w3 ⟨rfl, s3⟩; have tk := t2.step s3; have c0 := tk.c0; have c1 := tk.c1; have c2 := tk.c2; have c3 := tk.c3)
                    | (go_at_call 55; (with_reducible refine (RN.out _).mono ?_); rintro e w' ⟨rfl, rfl⟩)
                    | (go_at_call 78; (with_reducible refine (KW.out _).mono ?_); rintro e w4 ⟨rfl, g4⟩; have t4 := tk.below g4; have f4 := t4.f; have d0 := t4.c0; have d1 := t4.c1; have d2 := t4.c2; have d3 := t4.c3; have p4 := t4.put S4.zero; unfold putX at p4; have q4 := p4.st)
                    | (go_at_call 61; (with_reducible refine (T93.out _ q4).mono ?_); rintro e w5 ⟨rfl, s5⟩; have t5 := p4.step s5; have e0 := t5.c0; have e1 := t5.c1; have e2 := t5.c2; have e3 := t5.c3; have h0 := t5.r0; have h1 := t5.r1; have h2 := t5.r2; have h3 := t5.r3; have x5 := t5.f; have y5 := t5.g)
                    | (go_at_call 55; (with_reducible refine (RY.out _).mono ?_); rintro e w' ⟨rfl, rfl⟩))
                  exact ⟨rfl, rfl, t5.grown⟩
                · rw [if_neg hz] at ht2
                  have hz2 := same4_no hz
                  subst ht2
                  clear hz
                  go_wp2_with (first
                    | (go_at_call 77; (with_reducible refine (B1.out _ q0).mono ?_); rintro e w1 ⟨rfl, s1⟩; have t1 := sit.step s1; have q1 := t1.st)
                    | (go_at_call 61; (with_reducible refine (N45.out _ q1).mono ?_); rintro e w2 ⟨rfl, s2⟩; have t2 := t1.step s2; have q2 := t2.st)
                    | (go_at_call 77; (with_reducible refine (B2.out _ q2).mono ?_); rintro e w3 ⟨rfl, s3⟩; have tk := t2.step s3; have c0 := tk.c0; have c1 := tk.c1; have c2 := tk.c2; have c3 := tk.c3)
                    | (go_at_call 55; (with_reducible refine (RN.out _).mono ?_); rintro e w' ⟨rfl, rfl⟩)
                    | (go_at_call 78; (with_reducible refine (KW.out _).mono ?_); rintro e w4 ⟨rfl, g4⟩; have t4 := tk.below g4; have f4 := t4.f; have d0 := t4.c0; have d1 := t4.c1; have d2 := t4.c2; have d3 := t4.c3; have p4 := t4.put s'; unfold putX at p4; have q4 := p4.st)
                    | (go_at_call 61; (with_reducible refine (T93.out _ q4).mono ?_); rintro e w5 ⟨rfl, s5⟩; have t5 := p4.step s5; have e0 := t5.c0; have e1 := t5.c1; have e2 := t5.c2; have e3 := t5.c3; have h0 := t5.r0; have h1 := t5.r1; have h2 := t5.r2; have h3 := t5.r3; have x5 := t5.f; have y5 := t5.g))
                  exact bodyPost_ret (v := .agg #[.int .u64 (s'.a : Nat), .int .u64 (s'.b : Nat), .int .u64 (s'.c : Nat), .int .u64 (s'.d : Nat)]) (by simp [results, Try.results75, go_sem, h0, h1, h2, h3]) rfl ⟨rfl, t5.fin s', OK.out⟩
              | true =>
                obtain ⟨s'', hs''⟩ : ∃ s'', s'' = s'.others := ⟨_, rfl⟩
                have K57 : Hid (∀ w, Calls Try.prog 82 #[.agg #[.int .u64 (s'.a : Nat), .int .u64 (s'.b : Nat), .int .u64 (s'.c : Nat), .int .u64 (s'.d : Nat)]] w fun e w' => e = .returned (.agg #[.int .u64 (s''.a : Nat), .int .u64 (s''.b : Nat), .int .u64 (s''.c : Nat), .int .u64 (s''.d : Nat)]) ∧ Below w.heap.size w w') := fun w => by rw [hs'']; exact others_any s' w OK.out
                have OK2 : Hid s''.ok := by rw [hs'']; exact OK.out.others'
                have ht2 : (if s'' = S4.zero then none else some (s'', l2.tail)) = T := by rw [hs'']; exact ht
                clear ht hs''
                by_cases hz : s'' = S4.zero
                · rw [if_pos hz] at ht2
                  subst ht2
                  subst hz
                  have hz2 : same4 (S4.zero.a : Nat) (S4.zero.b : Nat) (S4.zero.c : Nat) (S4.zero.d : Nat) 0 0 0 0 = true := by decide
                  go_wp2_with (first
                    | (go_at_call 77; (with_reducible refine (B1.out _ q0).mono ?_); rintro e w1 ⟨rfl, s1⟩; have t1 := sit.step s1; have q1 := t1.st)
                    | (go_at_call 61; (with_reducible refine (N45.out _ q1).mono ?_); rintro e w2 ⟨rfl, s2⟩; have t2 := t1.step s2; have q2 := t2.st)
                    | (go_at_call 77; (with_reducible refine (B2.out _ q2).mono ?_); rintro e w3 ⟨rfl, s3⟩; have tk := t2.step s3; have c0 := tk.c0; have c1 := tk.c1; have c2 := tk.c2; have c3 := tk.c3)
                    | (go_at_call 55; (with_reducible refine (RN.out _).mono ?_); rintro e w' ⟨rfl, rfl⟩)
                    | (go_at_call 78; (with_reducible refine (KW.out _).mono ?_); rintro e w4 ⟨rfl, g4⟩; have t4 := tk.below g4; have f4 := t4.f; have d0 := t4.c0; have d1 := t4.c1; have d2 := t4.c2; have d3 := t4.c3; have p4 := t4.put s'; unfold putX at p4; have q4 := p4.st)
                    | (go_at_call 61; (with_reducible refine (T93.out _ q4).mono ?_); rintro e w5 ⟨rfl, s5⟩; have t5 := p4.step s5; have e0 := t5.c0; have e1 := t5.c1; have e2 := t5.c2; have e3 := t5.c3; have h0 := t5.r0; have h1 := t5.r1; have h2 := t5.r2; have h3 := t5.r3; have x5 := t5.f; have y5 := t5.g)
                    | (go_at_call 82; (with_reducible refine (K57.out _).mono ?_); rintro e w6 ⟨rfl, g6⟩; have t6 := t5.below g6; have x6 := t6.f; have i0 := t6.c0; have i1 := t6.c1; have i2 := t6.c2; have i3 := t6.c3; have p6 := t6.put S4.zero; unfold putX at p6; have j0 := p6.c0; have j1 := p6.c1; have j2 := p6.c2; have j3 := p6.c3; have k0 := p6.r0; have k1 := p6.r1; have k2 := p6.r2; have k3 := p6.r3; have xp := p6.f; have yp := p6.g)
                    | (go_at_call 55; (with_reducible refine (RY.out _).mono ?_); rintro e w' ⟨rfl, rfl⟩))
                  exact ⟨rfl, rfl, p6.grown⟩
                · rw [if_neg hz] at ht2
                  have hz2 := same4_no hz
                  subst ht2
                  clear hz
                  go_wp2_with (first
                    | (go_at_call 77; (with_reducible refine (B1.out _ q0).mono ?_); rintro e w1 ⟨rfl, s1⟩; have t1 := sit.step s1; have q1 := t1.st)
                    | (go_at_call 61; (with_reducible refine (N45.out _ q1).mono ?_); rintro e w2 ⟨rfl, s2⟩; have t2 := t1.step s2; have q2 := t2.st)
                    | (go_at_call 77; (with_reducible refine (B2.out _ q2).mono ?_); rintro e w3 ⟨rfl, s3⟩; have tk := t2.step s3; have c0 := tk.c0; have c1 := tk.c1; have c2 := tk.c2; have c3 := tk.c3)
                    | (go_at_call 55; (with_reducible refine (RN.out _).mono ?_); rintro e w' ⟨rfl, rfl⟩)
                    | (go_at_call 78; (with_reducible refine (KW.out _).mono ?_); rintro e w4 ⟨rfl, g4⟩; have t4 := tk.below g4; have f4 := t4.f; have d0 := t4.c0; have d1 := t4.c1; have d2 := t4.c2; have d3 := t4.c3; have p4 := t4.put s'; unfold putX at p4; have q4 := p4.st)
                    | (go_at_call 61; (with_reducible refine (T93.out _ q4).mono ?_); rintro e w5 ⟨rfl, s5⟩; have t5 := p4.step s5; have e0 := t5.c0; have e1 := t5.c1; have e2 := t5.c2; have e3 := t5.c3; have h0 := t5.r0; have h1 := t5.r1; have h2 := t5.r2; have h3 := t5.r3; have x5 := t5.f; have y5 := t5.g)
                    | (go_at_call 82; (with_reducible refine (K57.out _).mono ?_); rintro e w6 ⟨rfl, g6⟩; have t6 := t5.below g6; have x6 := t6.f; have i0 := t6.c0; have i1 := t6.c1; have i2 := t6.c2; have i3 := t6.c3; have p6 := t6.put s''; unfold putX at p6; have j0 := p6.c0; have j1 := p6.c1; have j2 := p6.c2; have j3 := p6.c3; have k0 := p6.r0; have k1 := p6.r1; have k2 := p6.r2; have k3 := p6.r3; have xp := p6.f; have yp := p6.g))
                  exact bodyPost_ret (v := .agg #[.int .u64 (s''.a : Nat), .int .u64 (s''.b : Nat), .int .u64 (s''.c : Nat), .int .u64 (s''.d : Nat)]) (by simp [results, Try.results75, go_sem, k0, k1, k2, k3]) rfl ⟨rfl, p6.fin s'', OK2.out⟩
  · intro again
    have AG := Lib.hid again
    clear again
    go_wp2_with (go_at_call 61; (with_reducible refine (TK.out _ (st0.out _)).mono ?_); rintro e w1 ⟨rfl, s1⟩; have sit := sit0.out _ s1)
    go_step3
    rename_i hK
    refine hK _ _ ?_
    refine AG.out _ _ ?_
    exact ⟨S4.zero, l0, sit, zero_ok, hT.out, _, _, _, _, _, _, _, _, _, _, _, _, _, _, _, _, _, _, _, _, _, _, _, _, _, _, _, _, _, _, _, rfl⟩
/-- the bytes of a set as they are told -/
theorem set_any (b : Nat) (l : Bs) (w : World) (h : St w b l) : Calls Try.prog 75 #[.pointer (some ⟨b, 0, none⟩)] w (PostS b w (setP l)) := by
  rw [setP_eq]
  cases hn : isNext 94 l with
  | true =>
    have e := isNext_iff hn
    rw [if_pos rfl]
    exact set_core b true _ l l.tail w h (fun w1 q => takes_yes b 94 l.tail w1 (by rw [← e]; exact q)) rfl
  | false =>
    rw [if_neg (by decide)]
    exact set_core b false _ l l w h (fun w1 q => takes_no b 94 l w1 q hn) rfl
end Go.Proofs.Ytdmajbdgjjmlkaa
