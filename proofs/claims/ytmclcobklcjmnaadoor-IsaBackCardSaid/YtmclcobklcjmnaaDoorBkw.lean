/- Instructions and programs go there and back: the walk of the law. Conditions: texts that a machine holds. -/
import Derived.Test.YtmclcobklcjmnaaDoorJow
import Derived.Deep.DeepCutAuto
import Derived.Deep.CutRange
namespace Go.Proofs.YtmclcobklcjmnaaDoor
open Go.RowKit Go.Maps
set_option linter.unusedVariables false
set_option linter.unusedSimpArgs false

theorem dec_encS (i : In) (h : okI i = true) : decV (encS i) = i ∧ decE (encS i) = 0 ∧ (encS i).length = 4 := by
  unfold encS
  rw [if_pos h]
  refine ⟨?_, ?_, enc_len i⟩
  · unfold decV; rw [dec_enc i h]
  · unfold decE; rw [dec_enc i h]
theorem par_prnS (i : In) (h : okI i = true) : parV (prnS i) = i ∧ parE (prnS i) = 0 := by
  unfold prnS
  rw [if_pos h]
  constructor
  · unfold parV; rw [par_prn i h]
  · unfold parE; rw [par_prn i h]
theorem ck_ok {i : In} (h : okI i = true) : ckE i = 0 := by unfold ckE; rw [if_pos h]
theorem ck_no {i : In} (h : ¬ okI i = true) : ckE i = 90 := by unfold ckE; rw [if_neg h]
/-- What List answers. -/
def lisR (l : Bs) : Bs × Int := (lisS l, lisE l.length)
/-- the instruction lies at X, all else as it lay -/
structure Gd (w : World) (X : Nat) (op a b imm : Int) (W : World) : Prop where
  bel : Below X w W
  row : W.heap[X]? = some (.cells #[.int .i64 op, .int .i64 a, .int .i64 b, .int .i64 imm] 30)
theorem Gd.below {w : World} {X : Nat} {op a b imm : Int} {W W' : World} (h : Gd w X op a b imm W) (hb : Below W.heap.size W W') : Gd w X op a b imm W' :=
  ⟨h.bel.trans (hb.mono (Nat.le_of_lt (block_lt h.row))), (hb.block X (block_lt h.row)).trans h.row⟩
theorem Gd.alloc {w : World} {X : Nat} {op a b imm : Int} {W : World} (h : Gd w X op a b imm W) (o : Obj) : Gd w X op a b imm (W.alloc o) := h.below ((Below.refl _ W).alloc (Nat.le_refl _) o)
theorem Gd.cells {w : World} {X : Nat} {op a b imm : Int} {W : World} (h : Gd w X op a b imm W) : W.cell? ⟨X, 0, none⟩ = some (.int .i64 op) ∧ W.cell? ⟨X, 1, none⟩ = some (.int .i64 a) ∧ W.cell? ⟨X, 2, none⟩ = some (.int .i64 b) ∧ W.cell? ⟨X, 3, none⟩ = some (.int .i64 imm) :=
  ⟨cell_of_row W X 0 _ _ _ h.row, cell_of_row W X 1 _ _ _ h.row, cell_of_row W X 2 _ _ _ h.row, cell_of_row W X 3 _ _ _ h.row⟩
set_option maxRecDepth 20000 in
set_option maxHeartbeats 4000000 in
theorem back_law (i : In) (bs t : ByteArray) (hb : bs.size ≤ 140737488351232) (ht : t.size ≤ 140737488351232) (w : World) (hL : LaidV w) : Calls Tryd.prog 5 #[inV i, .string bs, .string t] w fun e w' => e = .returned (.bool true) ∧ Below w.heap.size w w' := by
  obtain ⟨X, hX⟩ : ∃ X, X = w.heap.size := ⟨_, rfl⟩
  have KF : Hid (∀ W, LaidV W → Calls Tryd.prog 12 #[] W fun e w' => e = .returned (.bool true) ∧ Below W.heap.size W w') := Lib.hid fun W hW => fixed_any W hW
  obtain ⟨E, hE⟩ : ∃ E, E = ckE i := ⟨_, rfl⟩
  obtain ⟨A, hA⟩ : ∃ A, A = str (encS i) := ⟨_, rfl⟩
  obtain ⟨S, hS⟩ : ∃ S, S = str (prnS i) := ⟨_, rfl⟩
  obtain ⟨op, a, b, imm⟩ := i
  obtain ⟨w0, hw0⟩ : ∃ w0, w0 = w.alloc (.cells #[.int .i64 op, .int .i64 a, .int .i64 b, .int .i64 imm] 30) := ⟨_, rfl⟩
  have G0 : Hid (Gd w X op a b imm w0) := Lib.hid ⟨by rw [hw0, hX]; exact (Below.refl _ w).alloc (Nat.le_refl _) _, by rw [hw0, hX]; exact World.alloc_heap_new w _⟩
  have HL : Hid (∀ W, Below X w W → LaidV W) := Lib.hid fun W hW => hL.below (by rw [← hX]; exact hW)
  have KE : Hid (∀ W, Calls Tryd.prog 15 #[.agg #[.int .i64 op, .int .i64 a, .int .i64 b, .int .i64 imm]] W fun e w' => e = .returned (.tuple #[.string A, .int .i64 E]) ∧ Below W.heap.size W w') := Lib.hid fun W => by
    have := enc_any ⟨op, a, b, imm⟩ W; rw [← hE, ← hA] at this; exact this
  have KP : Hid (∀ W, LaidV W → Calls Tryd.prog 16 #[.agg #[.int .i64 op, .int .i64 a, .int .i64 b, .int .i64 imm]] W fun e w' => e = .returned (.tuple #[.string S, .int .i64 E]) ∧ Below W.heap.size W w') := Lib.hid fun W hW => by
    have := prn_any ⟨op, a, b, imm⟩ W hW; rw [← hE, ← hS] at this; exact this
  have KC : Hid (∀ W, Calls Tryd.prog 17 #[.agg #[.int .i64 op, .int .i64 a, .int .i64 b, .int .i64 imm]] W fun e w' => e = .returned (.int .i64 E) ∧ Below W.heap.size W w') := Lib.hid fun W => by
    have := check_any ⟨op, a, b, imm⟩ W; rw [← hE] at this; exact this
  have HW := Lib.hid (And.intro hE (And.intro hA (And.intro hS hX)))
  have HX := Lib.hid hX
  clear hL hE hA hS
  unfold inV
  dsimp only
  have ebb : (E != E) = false := by simp
  go_enter Tryd.func5, Tryd.ntmps5
  go_wp2_with (fail)
  rw [← hw0, ← hX]
  clear hw0 hX
  refine (KF.out _ (HL.out _ G0.out.bel)).mono ?_
  rintro e w1 ⟨rfl, hb1⟩
  have G1 : Hid (Gd w X op a b imm w1) := Lib.hid (G0.out.below hb1)
  clear hb1
  obtain ⟨c10, c11, c12, c13⟩ := G1.out.cells
  go_wp2_with (fail)
  refine (KE.out _).mono ?_
  rintro e w2 ⟨rfl, hb2⟩
  have G2 : Hid (Gd w X op a b imm w2) := Lib.hid (G1.out.below hb2)
  clear hb2
  obtain ⟨c20, c21, c22, c23⟩ := G2.out.cells
  go_wp2_with (fail)
  refine (KP.out _ (HL.out _ G2.out.bel)).mono ?_
  rintro e w3 ⟨rfl, hb3⟩
  have G3 : Hid (Gd w X op a b imm w3) := Lib.hid (G2.out.below hb3)
  clear hb3
  obtain ⟨c30, c31, c32, c33⟩ := G3.out.cells
  go_wp2_with (fail)
  refine (KC.out _).mono ?_
  rintro e w4 ⟨rfl, hb4⟩
  have G4 : Hid (Gd w X op a b imm w4) := Lib.hid (G3.out.below hb4)
  clear hb4
  obtain ⟨c40, c41, c42, c43⟩ := G4.out.cells
  go_upto_if 52 with (fail)
  go_cut [11, 12, 13, 14] (fun s1 s2 s3 s4 wx => Gd w X op a b imm wx)
  case first =>
    obtain ⟨hE, hA, hS, -⟩ := HW.out
    by_cases hok : okI ⟨op, a, b, imm⟩ = true
    · obtain ⟨d1, d2, d3⟩ := dec_encS _ hok
      obtain ⟨p1, p2⟩ := par_prnS _ hok
      have hE0 : E = 0 := by rw [hE, ck_ok hok]
      have hAs : A.size = 4 := by rw [hA, str_size, d3]
      have hAi : (A.size : Int) = 4 := by omega
      have hSs : S.size ≤ 281474976710656 := by
        rw [hS, str_size]
        unfold prnS
        rw [if_pos hok]
        have := prn_short _ hok
        omega
      have KD : Hid (∀ W, Calls Tryd.prog 18 #[.string A] W fun e w' => e = .returned (.tuple #[.agg #[.int .i64 op, .int .i64 a, .int .i64 b, .int .i64 imm], .int .i64 0]) ∧ Below W.heap.size W w') := Lib.hid fun W => by
        have := dec_any A W; rw [hA, str_list, d1, d2] at this; rw [hA]; exact this
      have KR : Hid (∀ W, LaidV W → Calls Tryd.prog 19 #[.string S] W fun e w' => e = .returned (.tuple #[.agg #[.int .i64 op, .int .i64 a, .int .i64 b, .int .i64 imm], .int .i64 0]) ∧ Below W.heap.size W w') := Lib.hid fun W hW => by
        have := par_any S hSs W hW; rw [hS, str_list, p1, p2] at this; rw [hS]; exact this
      clear hE hA hS hok d1 d2 d3 p1 p2 hAs hSs
      subst hE0
      go_wp2_with (fail)
      refine (KD.out _).mono ?_
      rintro e w5 ⟨rfl, hb5⟩
      have G5 : Hid (Gd w X op a b imm w5) := Lib.hid (G4.out.below hb5)
      have HB5 : Hid (∀ k o, w4.heap[k]? = some o → w5.heap[k]? = some o) := Lib.hid fun k o ho => (hb5.block k (block_lt ho)).trans ho
      clear hb5
      obtain ⟨c50, c51, c52, c53⟩ := G5.out.cells
      go_wp2_with (fail)
      obtain ⟨v5, hv5⟩ : ∃ v5, v5 = w5.alloc (.cells #[.int .i64 op, .int .i64 a, .int .i64 b, .int .i64 imm] 30) := ⟨_, rfl⟩
      have hy : v5.heap[w5.heap.size]? = some (.cells #[.int .i64 op, .int .i64 a, .int .i64 b, .int .i64 imm] 30) := by rw [hv5]; exact World.alloc_heap_new w5 _
      have G5' : Hid (Gd w X op a b imm v5) := Lib.hid (by rw [hv5]; exact G5.out.alloc _)
      obtain ⟨Y, hY⟩ : ∃ Y, Y = w5.heap.size := ⟨_, rfl⟩
      rw [← hv5, ← hY]
      rw [← hY] at hy
      clear hv5 hY
      have HYc := Lib.hid hy
      clear hy
      refine (KR.out _ (HL.out _ G5'.out.bel)).mono ?_
      rintro e w6 ⟨rfl, hb6⟩
      have G6 : Hid (Gd w X op a b imm w6) := Lib.hid (G5'.out.below hb6)
      have HB6 : Hid (∀ k o, v5.heap[k]? = some o → w6.heap[k]? = some o) := Lib.hid fun k o ho => (hb6.block k (block_lt ho)).trans ho
      clear hb6
      obtain ⟨c60, c61, c62, c63⟩ := G6.out.cells
      have hy6 : w6.heap[Y]? = some (.cells #[.int .i64 op, .int .i64 a, .int .i64 b, .int .i64 imm] 30) := HB6.out Y _ HYc.out
      have y0 := cell_of_row w6 Y 0 _ _ _ hy6
      have y1 := cell_of_row w6 Y 1 _ _ _ hy6
      have y2 := cell_of_row w6 Y 2 _ _ _ hy6
      have y3 := cell_of_row w6 Y 3 _ _ _ hy6
      have G7 : Hid (Gd w X op a b imm (w6.alloc (.cells #[.int .i64 op, .int .i64 a, .int .i64 b, .int .i64 imm] 30))) := Lib.hid (G6.out.alloc _)
      have hYl : Y < w6.heap.size := block_lt hy6
      have hXl6 : X < w6.heap.size := block_lt G6.out.row
      clear hy6
      go_wp2_with (fail)
      go_meet
      case rel => exact G7.out
    · have hE0 : E = 90 := by rw [hE, ck_no hok]
      clear hE hA hS hok
      subst hE0
      go_wp2_with (fail)
      go_meet
      case rel => exact G4.out
  case rest =>
    have Gc := Lib.hid hcut
    obtain ⟨k0, k1, k2, k3⟩ := hcut.cells
    clear hcut KE KP KC ebb
    go_upto_if 86 with (fail)
    go_cut [15, 16, 17, 18] (fun s1 s2 s3 s4 wx => Gd w X op a b imm wx)
    case first =>
      by_cases h4 : (4 : Int) ≤ (bs.size : Int)
      · obtain ⟨Q, hQ⟩ : ∃ Q, Q = bs.data.toList.take 4 := ⟨_, rfl⟩
        have hl : bs.data.toList.length = bs.size := Array.length_toList
        have hQ4 : Q.length = 4 := by rw [hQ, List.length_take]; omega
        have hex : bs.extract 0 4 = str Q := by rw [hQ, ext_take _ _ (by omega)]
        obtain ⟨q0, q1, hq⟩ : ∃ (q0 : In) (q1 : Int), q0 = decV Q ∧ q1 = decE Q := ⟨_, _, rfl, rfl⟩
        obtain ⟨f0, f1, hf⟩ : ∃ (f0 : ByteArray) (f1 : Int), f0 = str (encS (decV Q)) ∧ f1 = ckE (decV Q) := ⟨_, _, rfl, rfl⟩
        have hcase : (q1 = 0 ∧ f1 = 0 ∧ f0 = bs.extract 0 4) ∨ (q1 = 91 ∧ q0 = ⟨0, 0, 0, 0⟩) := by
          rw [hq.1, hq.2, hf.1, hf.2, hex]
          unfold decV decE
          cases hd : decS Q with
          | none => exact .inr ⟨rfl, rfl⟩
          | some i =>
            obtain ⟨ho, he⟩ := dec_some hd
            refine .inl ⟨rfl, ck_ok ho, ?_⟩
            dsimp only
            unfold encS
            rw [if_pos ho, he]
        have KD : Hid (∀ W, Calls Tryd.prog 18 #[.string (bs.extract 0 4)] W fun e w' => e = .returned (.tuple #[.agg #[.int .i64 q0.op, .int .i64 q0.a, .int .i64 q0.b, .int .i64 q0.imm], .int .i64 q1]) ∧ Below W.heap.size W w') := Lib.hid fun W => by
          have := dec_any (str Q) W; rw [str_list] at this; rw [hex, hq.1, hq.2]; exact this
        have KN : Hid (∀ W, Calls Tryd.prog 15 #[.agg #[.int .i64 q0.op, .int .i64 q0.a, .int .i64 q0.b, .int .i64 q0.imm]] W fun e w' => e = .returned (.tuple #[.string f0, .int .i64 f1]) ∧ Below W.heap.size W w') := Lib.hid fun W => by
          have := enc_any q0 W; rw [hq.1] at this; rw [hq.1, hf.1, hf.2]; exact this
        clear hl hQ hQ4 hex hq hf
        obtain ⟨z0, z1, z2, z3⟩ := q0
        dsimp only at KD KN
        rcases hcase with ⟨rfl, rfl, rfl⟩ | ⟨rfl, hz⟩
        · skip
          go_wp2_with (fail)
          refine (KD.out _).mono ?_
          rintro e w6 ⟨rfl, hb6⟩
          have G6 : Hid (Gd w X op a b imm w6) := Lib.hid (Gc.out.below hb6)
          have HB6 : Hid (∀ k o, wc.heap[k]? = some o → w6.heap[k]? = some o) := Lib.hid fun k o ho => (hb6.block k (block_lt ho)).trans ho
          clear hb6
          obtain ⟨c60, c61, c62, c63⟩ := G6.out.cells
          go_wp2_with (fail)
          obtain ⟨v6, hv6⟩ : ∃ v6, v6 = w6.alloc (.cells #[.int .i64 z0, .int .i64 z1, .int .i64 z2, .int .i64 z3] 30) := ⟨_, rfl⟩
          have hy : v6.heap[w6.heap.size]? = some (.cells #[.int .i64 z0, .int .i64 z1, .int .i64 z2, .int .i64 z3] 30) := by rw [hv6]; exact World.alloc_heap_new w6 _
          have G6' : Hid (Gd w X op a b imm v6) := Lib.hid (by rw [hv6]; exact G6.out.alloc _)
          obtain ⟨Y, hY⟩ : ∃ Y, Y = w6.heap.size := ⟨_, rfl⟩
          rw [← hv6, ← hY]
          rw [← hY] at hy
          clear hv6 hY
          have HYc := Lib.hid hy
          clear hy
          have x0 := cell_of_row v6 Y 0 _ _ _ HYc.out
          have x1 := cell_of_row v6 Y 1 _ _ _ HYc.out
          have x2 := cell_of_row v6 Y 2 _ _ _ HYc.out
          have x3 := cell_of_row v6 Y 3 _ _ _ HYc.out
          go_wp2_with (fail)
          refine (KN.out _).mono ?_
          rintro e w7 ⟨rfl, hb7⟩
          have G7 : Hid (Gd w X op a b imm w7) := Lib.hid (G6'.out.below hb7)
          have HB7 : Hid (∀ k o, v6.heap[k]? = some o → w7.heap[k]? = some o) := Lib.hid fun k o ho => (hb7.block k (block_lt ho)).trans ho
          clear hb7
          obtain ⟨c70, c71, c72, c73⟩ := G7.out.cells
          go_wp2_with (fail)
          go_meet
          case rel => exact G7.out
        · injection hz with e1 e2 e3 e4
          subst e1 e2 e3 e4
          go_wp2_with (fail)
          refine (KD.out _).mono ?_
          rintro e w6 ⟨rfl, hb6⟩
          have G6 : Hid (Gd w X op a b imm w6) := Lib.hid (Gc.out.below hb6)
          have HB6 : Hid (∀ k o, wc.heap[k]? = some o → w6.heap[k]? = some o) := Lib.hid fun k o ho => (hb6.block k (block_lt ho)).trans ho
          clear hb6
          obtain ⟨c60, c61, c62, c63⟩ := G6.out.cells
          go_wp2_with (fail)
          obtain ⟨v6, hv6⟩ : ∃ v6, v6 = w6.alloc (.cells #[.int .i64 0, .int .i64 0, .int .i64 0, .int .i64 0] 30) := ⟨_, rfl⟩
          have hy : v6.heap[w6.heap.size]? = some (.cells #[.int .i64 0, .int .i64 0, .int .i64 0, .int .i64 0] 30) := by rw [hv6]; exact World.alloc_heap_new w6 _
          have G6' : Hid (Gd w X op a b imm v6) := Lib.hid (by rw [hv6]; exact G6.out.alloc _)
          obtain ⟨Y, hY⟩ : ∃ Y, Y = w6.heap.size := ⟨_, rfl⟩
          rw [← hv6, ← hY]
          rw [← hY] at hy
          clear hv6 hY
          have HYc := Lib.hid hy
          clear hy
          have x0 := cell_of_row v6 Y 0 _ _ _ HYc.out
          have x1 := cell_of_row v6 Y 1 _ _ _ HYc.out
          have x2 := cell_of_row v6 Y 2 _ _ _ HYc.out
          have x3 := cell_of_row v6 Y 3 _ _ _ HYc.out
          go_wp2_with (fail)
          refine (KN.out _).mono ?_
          rintro e w7 ⟨rfl, hb7⟩
          have G7 : Hid (Gd w X op a b imm w7) := Lib.hid (G6'.out.below hb7)
          have HB7 : Hid (∀ k o, v6.heap[k]? = some o → w7.heap[k]? = some o) := Lib.hid fun k o ho => (hb7.block k (block_lt ho)).trans ho
          clear hb7
          obtain ⟨c70, c71, c72, c73⟩ := G7.out.cells
          have y0 := cell_of_row w7 Y 0 _ _ _ (HB7.out Y _ HYc.out)
          have y1 := cell_of_row w7 Y 1 _ _ _ (HB7.out Y _ HYc.out)
          have y2 := cell_of_row w7 Y 2 _ _ _ (HB7.out Y _ HYc.out)
          have y3 := cell_of_row w7 Y 3 _ _ _ (HB7.out Y _ HYc.out)
          go_wp2_with (fail)
          go_meet
          case rel => exact G7.out
      · go_wp2_with (fail)
        go_meet
        case rel => exact Gc.out
    case rest =>
      have Gd8 := Lib.hid hcut
      clear hcut
      have hlb : bs.data.toList.length = bs.size := Array.length_toList
      have KL : Hid (∀ W, LaidV W → Calls Tryd.prog 13 #[.string bs] W fun e w' => e = .returned (.tuple #[.string (str (lisR bs.data.toList).1), .int .i64 (lisR bs.data.toList).2]) ∧ Below W.heap.size W w') := Lib.hid fun W hW => by
        have := list_any bs W hW
        unfold lisR
        rw [hlb]
        exact this
      have hlist : (lisR bs.data.toList = ([], 94) ∧ (4096 : Int) < (bs.size : Int)) ∨ (∃ r : Int, lisR bs.data.toList = ([], 91) ∧ ¬ (4096 : Int) < (bs.size : Int) ∧ (bs.size : Int).tmod 4 = r ∧ (r = 1 ∨ r = 2 ∨ r = 3)) ∨ (lisR bs.data.toList = (lisP bs.data.toList, 0) ∧ asmR (lisP bs.data.toList) = (bs.data.toList, 0, 0)) := by
        unfold lisR lisS lisE
        rw [hlb]
        by_cases h1 : 4096 < bs.size
        · rw [if_pos h1, if_pos h1]; exact .inl ⟨rfl, by omega⟩
        · rw [if_neg h1, if_neg h1]
          by_cases h2 : bs.size % 4 = 0
          · rw [if_pos h2, if_pos h2]; exact .inr (.inr ⟨rfl, asmR_lis _ (by rw [hlb]; exact h2) (by rw [hlb]; omega)⟩)
          · rw [if_neg h2, if_neg h2]
            refine .inr (.inl ⟨((bs.size % 4 : Nat) : Int), rfl, by omega, ?_, by omega⟩)
            rw [Int.tmod_eq_emod_of_nonneg (by omega)]
            omega
      have KS : Hid (∀ W, LaidV W → Calls Tryd.prog 10 #[.string (str (lisP bs.data.toList))] W fun e w' => e = .returned (.tuple #[.string (str (asmR (lisP bs.data.toList)).1), .int .i64 (asmR (lisP bs.data.toList)).2.1, .int .i64 (asmR (lisP bs.data.toList)).2.2]) ∧ Below W.heap.size W w') := Lib.hid fun W hW => by
        have := asm_any (str (lisP bs.data.toList)) W hW
        rw [str_list] at this
        exact this
      have hlist' : (lisR bs.data.toList = ([], 94) ∧ (4096 : Int) < (bs.size : Int)) ∨ (∃ r : Int, lisR bs.data.toList = ([], 91) ∧ ¬ (4096 : Int) < (bs.size : Int) ∧ (bs.size : Int).tmod 4 = r ∧ (r = 1 ∨ r = 2 ∨ r = 3)) ∨ (lisR bs.data.toList = (lisP bs.data.toList, 0) ∧ asmR (lisP bs.data.toList) = (bs.data.toList, 0, 0)) := hlist
      have HLI := Lib.hid hlist'
      clear hlist hlist' hlb
      obtain ⟨q0, q1, hq⟩ : ∃ (q0 : In) (q1 : Int), q0 = parV t.data.toList ∧ q1 = parE t.data.toList := ⟨_, _, rfl, rfl⟩
      obtain ⟨f0, f1, hf⟩ : ∃ (f0 : ByteArray) (f1 : Int), f0 = str (prnS (parV t.data.toList)) ∧ f1 = ckE (parV t.data.toList) := ⟨_, _, rfl, rfl⟩
      have hcase : (q1 = 0 ∧ f1 = 0 ∧ f0 = t) ∨ (q1 = 92 ∧ q0 = ⟨0, 0, 0, 0⟩) := by
        rw [hq.1, hq.2, hf.1, hf.2]
        unfold parV parE
        cases hd : parP t.data.toList with
        | none => exact .inr ⟨rfl, rfl⟩
        | some i =>
          obtain ⟨ho, he⟩ := par_some hd
          refine .inl ⟨rfl, ck_ok ho, ?_⟩
          dsimp only
          unfold prnS
          rw [if_pos ho, he, str_toList]
      have KR : Hid (∀ W, LaidV W → Calls Tryd.prog 19 #[.string t] W fun e w' => e = .returned (.tuple #[.agg #[.int .i64 q0.op, .int .i64 q0.a, .int .i64 q0.b, .int .i64 q0.imm], .int .i64 q1]) ∧ Below W.heap.size W w') := Lib.hid fun W hW => by
        have := par_any t (by omega) W hW; rw [hq.1, hq.2]; exact this
      have KP : Hid (∀ W, LaidV W → Calls Tryd.prog 16 #[.agg #[.int .i64 q0.op, .int .i64 q0.a, .int .i64 q0.b, .int .i64 q0.imm]] W fun e w' => e = .returned (.tuple #[.string f0, .int .i64 f1]) ∧ Below W.heap.size W w') := Lib.hid fun W hW => by
        have := prn_any q0 W hW; rw [hq.1] at this; rw [hq.1, hf.1, hf.2]; exact this
      clear hq hf
      obtain ⟨z0, z1, z2, z3⟩ := q0
      dsimp only at KR KP
      rcases hcase with ⟨rfl, rfl, rfl⟩ | ⟨rfl, hz⟩
      · skip
        rcases HLI.out with ⟨l94, n94⟩ | ⟨r, l91, n91, hr, hr0⟩ | ⟨l0, hlen⟩
        · skip
          rw [l94] at KL
          dsimp only at KL
          rw [show (str [] : ByteArray) = { data := #[] } from rfl] at KL
          go_wp2_with (fail)
          refine (KR.out _ (HL.out _ Gd8.out.bel)).mono ?_
          rintro e w8 ⟨rfl, hb8⟩
          have G8 : Hid (Gd w X op a b imm w8) := Lib.hid (Gd8.out.below hb8)
          have HB8 : Hid (∀ k o, wc.heap[k]? = some o → w8.heap[k]? = some o) := Lib.hid fun k o ho => (hb8.block k (block_lt ho)).trans ho
          clear hb8
          go_wp2_with (fail)
          obtain ⟨v8, hv8⟩ : ∃ v8, v8 = w8.alloc (.cells #[.int .i64 z0, .int .i64 z1, .int .i64 z2, .int .i64 z3] 30) := ⟨_, rfl⟩
          have hy : v8.heap[w8.heap.size]? = some (.cells #[.int .i64 z0, .int .i64 z1, .int .i64 z2, .int .i64 z3] 30) := by rw [hv8]; exact World.alloc_heap_new w8 _
          have G8' : Hid (Gd w X op a b imm v8) := Lib.hid (by rw [hv8]; exact G8.out.alloc _)
          obtain ⟨Y, hY⟩ : ∃ Y, Y = w8.heap.size := ⟨_, rfl⟩
          rw [← hv8, ← hY]
          rw [← hY] at hy
          clear hv8 hY
          have HYc := Lib.hid hy
          clear hy
          have x0 := cell_of_row v8 Y 0 _ _ _ HYc.out
          have x1 := cell_of_row v8 Y 1 _ _ _ HYc.out
          have x2 := cell_of_row v8 Y 2 _ _ _ HYc.out
          have x3 := cell_of_row v8 Y 3 _ _ _ HYc.out
          go_wp2_with (fail)
          refine (KP.out _ (HL.out _ G8'.out.bel)).mono ?_
          rintro e w9 ⟨rfl, hb9⟩
          have G9 : Hid (Gd w X op a b imm w9) := Lib.hid (G8'.out.below hb9)
          have HB9 : Hid (∀ k o, v8.heap[k]? = some o → w9.heap[k]? = some o) := Lib.hid fun k o ho => (hb9.block k (block_lt ho)).trans ho
          clear hb9
          have y0 := cell_of_row w9 Y 0 _ _ _ (HB9.out Y _ HYc.out)
          have y1 := cell_of_row w9 Y 1 _ _ _ (HB9.out Y _ HYc.out)
          have y2 := cell_of_row w9 Y 2 _ _ _ (HB9.out Y _ HYc.out)
          have y3 := cell_of_row w9 Y 3 _ _ _ (HB9.out Y _ HYc.out)
          go_wp2_with (fail)
          refine (KL.out _ (HL.out _ G9.out.bel)).mono ?_
          rintro e wa ⟨rfl, hba⟩
          have Ga : Hid (Gd w X op a b imm wa) := Lib.hid (G9.out.below hba)
          have HBa : Hid (∀ k o, w9.heap[k]? = some o → wa.heap[k]? = some o) := Lib.hid fun k o ho => (hba.block k (block_lt ho)).trans ho
          clear hba
          go_wp2
          go_ret
          exact ⟨rfl, by rw [← HX.out]; exact Ga.out.bel⟩
        · rcases hr0 with rfl | rfl | rfl
          · skip
            rw [l91] at KL
            dsimp only at KL
            rw [show (str [] : ByteArray) = { data := #[] } from rfl] at KL
            go_wp2_with (fail)
            refine (KR.out _ (HL.out _ Gd8.out.bel)).mono ?_
            rintro e w8 ⟨rfl, hb8⟩
            have G8 : Hid (Gd w X op a b imm w8) := Lib.hid (Gd8.out.below hb8)
            have HB8 : Hid (∀ k o, wc.heap[k]? = some o → w8.heap[k]? = some o) := Lib.hid fun k o ho => (hb8.block k (block_lt ho)).trans ho
            clear hb8
            go_wp2_with (fail)
            obtain ⟨v8, hv8⟩ : ∃ v8, v8 = w8.alloc (.cells #[.int .i64 z0, .int .i64 z1, .int .i64 z2, .int .i64 z3] 30) := ⟨_, rfl⟩
            have hy : v8.heap[w8.heap.size]? = some (.cells #[.int .i64 z0, .int .i64 z1, .int .i64 z2, .int .i64 z3] 30) := by rw [hv8]; exact World.alloc_heap_new w8 _
            have G8' : Hid (Gd w X op a b imm v8) := Lib.hid (by rw [hv8]; exact G8.out.alloc _)
            obtain ⟨Y, hY⟩ : ∃ Y, Y = w8.heap.size := ⟨_, rfl⟩
            rw [← hv8, ← hY]
            rw [← hY] at hy
            clear hv8 hY
            have HYc := Lib.hid hy
            clear hy
            have x0 := cell_of_row v8 Y 0 _ _ _ HYc.out
            have x1 := cell_of_row v8 Y 1 _ _ _ HYc.out
            have x2 := cell_of_row v8 Y 2 _ _ _ HYc.out
            have x3 := cell_of_row v8 Y 3 _ _ _ HYc.out
            go_wp2_with (fail)
            refine (KP.out _ (HL.out _ G8'.out.bel)).mono ?_
            rintro e w9 ⟨rfl, hb9⟩
            have G9 : Hid (Gd w X op a b imm w9) := Lib.hid (G8'.out.below hb9)
            have HB9 : Hid (∀ k o, v8.heap[k]? = some o → w9.heap[k]? = some o) := Lib.hid fun k o ho => (hb9.block k (block_lt ho)).trans ho
            clear hb9
            have y0 := cell_of_row w9 Y 0 _ _ _ (HB9.out Y _ HYc.out)
            have y1 := cell_of_row w9 Y 1 _ _ _ (HB9.out Y _ HYc.out)
            have y2 := cell_of_row w9 Y 2 _ _ _ (HB9.out Y _ HYc.out)
            have y3 := cell_of_row w9 Y 3 _ _ _ (HB9.out Y _ HYc.out)
            go_wp2_with (fail)
            refine (KL.out _ (HL.out _ G9.out.bel)).mono ?_
            rintro e wa ⟨rfl, hba⟩
            have Ga : Hid (Gd w X op a b imm wa) := Lib.hid (G9.out.below hba)
            have HBa : Hid (∀ k o, w9.heap[k]? = some o → wa.heap[k]? = some o) := Lib.hid fun k o ho => (hba.block k (block_lt ho)).trans ho
            clear hba
            go_wp2
            go_ret
            exact ⟨rfl, by rw [← HX.out]; exact Ga.out.bel⟩
          · skip
            rw [l91] at KL
            dsimp only at KL
            rw [show (str [] : ByteArray) = { data := #[] } from rfl] at KL
            go_wp2_with (fail)
            refine (KR.out _ (HL.out _ Gd8.out.bel)).mono ?_
            rintro e w8 ⟨rfl, hb8⟩
            have G8 : Hid (Gd w X op a b imm w8) := Lib.hid (Gd8.out.below hb8)
            have HB8 : Hid (∀ k o, wc.heap[k]? = some o → w8.heap[k]? = some o) := Lib.hid fun k o ho => (hb8.block k (block_lt ho)).trans ho
            clear hb8
            go_wp2_with (fail)
            obtain ⟨v8, hv8⟩ : ∃ v8, v8 = w8.alloc (.cells #[.int .i64 z0, .int .i64 z1, .int .i64 z2, .int .i64 z3] 30) := ⟨_, rfl⟩
            have hy : v8.heap[w8.heap.size]? = some (.cells #[.int .i64 z0, .int .i64 z1, .int .i64 z2, .int .i64 z3] 30) := by rw [hv8]; exact World.alloc_heap_new w8 _
            have G8' : Hid (Gd w X op a b imm v8) := Lib.hid (by rw [hv8]; exact G8.out.alloc _)
            obtain ⟨Y, hY⟩ : ∃ Y, Y = w8.heap.size := ⟨_, rfl⟩
            rw [← hv8, ← hY]
            rw [← hY] at hy
            clear hv8 hY
            have HYc := Lib.hid hy
            clear hy
            have x0 := cell_of_row v8 Y 0 _ _ _ HYc.out
            have x1 := cell_of_row v8 Y 1 _ _ _ HYc.out
            have x2 := cell_of_row v8 Y 2 _ _ _ HYc.out
            have x3 := cell_of_row v8 Y 3 _ _ _ HYc.out
            go_wp2_with (fail)
            refine (KP.out _ (HL.out _ G8'.out.bel)).mono ?_
            rintro e w9 ⟨rfl, hb9⟩
            have G9 : Hid (Gd w X op a b imm w9) := Lib.hid (G8'.out.below hb9)
            have HB9 : Hid (∀ k o, v8.heap[k]? = some o → w9.heap[k]? = some o) := Lib.hid fun k o ho => (hb9.block k (block_lt ho)).trans ho
            clear hb9
            have y0 := cell_of_row w9 Y 0 _ _ _ (HB9.out Y _ HYc.out)
            have y1 := cell_of_row w9 Y 1 _ _ _ (HB9.out Y _ HYc.out)
            have y2 := cell_of_row w9 Y 2 _ _ _ (HB9.out Y _ HYc.out)
            have y3 := cell_of_row w9 Y 3 _ _ _ (HB9.out Y _ HYc.out)
            go_wp2_with (fail)
            refine (KL.out _ (HL.out _ G9.out.bel)).mono ?_
            rintro e wa ⟨rfl, hba⟩
            have Ga : Hid (Gd w X op a b imm wa) := Lib.hid (G9.out.below hba)
            have HBa : Hid (∀ k o, w9.heap[k]? = some o → wa.heap[k]? = some o) := Lib.hid fun k o ho => (hba.block k (block_lt ho)).trans ho
            clear hba
            go_wp2
            go_ret
            exact ⟨rfl, by rw [← HX.out]; exact Ga.out.bel⟩
          · skip
            rw [l91] at KL
            dsimp only at KL
            rw [show (str [] : ByteArray) = { data := #[] } from rfl] at KL
            go_wp2_with (fail)
            refine (KR.out _ (HL.out _ Gd8.out.bel)).mono ?_
            rintro e w8 ⟨rfl, hb8⟩
            have G8 : Hid (Gd w X op a b imm w8) := Lib.hid (Gd8.out.below hb8)
            have HB8 : Hid (∀ k o, wc.heap[k]? = some o → w8.heap[k]? = some o) := Lib.hid fun k o ho => (hb8.block k (block_lt ho)).trans ho
            clear hb8
            go_wp2_with (fail)
            obtain ⟨v8, hv8⟩ : ∃ v8, v8 = w8.alloc (.cells #[.int .i64 z0, .int .i64 z1, .int .i64 z2, .int .i64 z3] 30) := ⟨_, rfl⟩
            have hy : v8.heap[w8.heap.size]? = some (.cells #[.int .i64 z0, .int .i64 z1, .int .i64 z2, .int .i64 z3] 30) := by rw [hv8]; exact World.alloc_heap_new w8 _
            have G8' : Hid (Gd w X op a b imm v8) := Lib.hid (by rw [hv8]; exact G8.out.alloc _)
            obtain ⟨Y, hY⟩ : ∃ Y, Y = w8.heap.size := ⟨_, rfl⟩
            rw [← hv8, ← hY]
            rw [← hY] at hy
            clear hv8 hY
            have HYc := Lib.hid hy
            clear hy
            have x0 := cell_of_row v8 Y 0 _ _ _ HYc.out
            have x1 := cell_of_row v8 Y 1 _ _ _ HYc.out
            have x2 := cell_of_row v8 Y 2 _ _ _ HYc.out
            have x3 := cell_of_row v8 Y 3 _ _ _ HYc.out
            go_wp2_with (fail)
            refine (KP.out _ (HL.out _ G8'.out.bel)).mono ?_
            rintro e w9 ⟨rfl, hb9⟩
            have G9 : Hid (Gd w X op a b imm w9) := Lib.hid (G8'.out.below hb9)
            have HB9 : Hid (∀ k o, v8.heap[k]? = some o → w9.heap[k]? = some o) := Lib.hid fun k o ho => (hb9.block k (block_lt ho)).trans ho
            clear hb9
            have y0 := cell_of_row w9 Y 0 _ _ _ (HB9.out Y _ HYc.out)
            have y1 := cell_of_row w9 Y 1 _ _ _ (HB9.out Y _ HYc.out)
            have y2 := cell_of_row w9 Y 2 _ _ _ (HB9.out Y _ HYc.out)
            have y3 := cell_of_row w9 Y 3 _ _ _ (HB9.out Y _ HYc.out)
            go_wp2_with (fail)
            refine (KL.out _ (HL.out _ G9.out.bel)).mono ?_
            rintro e wa ⟨rfl, hba⟩
            have Ga : Hid (Gd w X op a b imm wa) := Lib.hid (G9.out.below hba)
            have HBa : Hid (∀ k o, w9.heap[k]? = some o → wa.heap[k]? = some o) := Lib.hid fun k o ho => (hba.block k (block_lt ho)).trans ho
            clear hba
            go_wp2
            go_ret
            exact ⟨rfl, by rw [← HX.out]; exact Ga.out.bel⟩
        · skip
          rw [l0] at KL
          rw [hlen] at KS
          dsimp only at KL KS
          rw [str_toList] at KS
          go_wp2_with (fail)
          refine (KR.out _ (HL.out _ Gd8.out.bel)).mono ?_
          rintro e w8 ⟨rfl, hb8⟩
          have G8 : Hid (Gd w X op a b imm w8) := Lib.hid (Gd8.out.below hb8)
          have HB8 : Hid (∀ k o, wc.heap[k]? = some o → w8.heap[k]? = some o) := Lib.hid fun k o ho => (hb8.block k (block_lt ho)).trans ho
          clear hb8
          go_wp2_with (fail)
          obtain ⟨v8, hv8⟩ : ∃ v8, v8 = w8.alloc (.cells #[.int .i64 z0, .int .i64 z1, .int .i64 z2, .int .i64 z3] 30) := ⟨_, rfl⟩
          have hy : v8.heap[w8.heap.size]? = some (.cells #[.int .i64 z0, .int .i64 z1, .int .i64 z2, .int .i64 z3] 30) := by rw [hv8]; exact World.alloc_heap_new w8 _
          have G8' : Hid (Gd w X op a b imm v8) := Lib.hid (by rw [hv8]; exact G8.out.alloc _)
          obtain ⟨Y, hY⟩ : ∃ Y, Y = w8.heap.size := ⟨_, rfl⟩
          rw [← hv8, ← hY]
          rw [← hY] at hy
          clear hv8 hY
          have HYc := Lib.hid hy
          clear hy
          have x0 := cell_of_row v8 Y 0 _ _ _ HYc.out
          have x1 := cell_of_row v8 Y 1 _ _ _ HYc.out
          have x2 := cell_of_row v8 Y 2 _ _ _ HYc.out
          have x3 := cell_of_row v8 Y 3 _ _ _ HYc.out
          go_wp2_with (fail)
          refine (KP.out _ (HL.out _ G8'.out.bel)).mono ?_
          rintro e w9 ⟨rfl, hb9⟩
          have G9 : Hid (Gd w X op a b imm w9) := Lib.hid (G8'.out.below hb9)
          have HB9 : Hid (∀ k o, v8.heap[k]? = some o → w9.heap[k]? = some o) := Lib.hid fun k o ho => (hb9.block k (block_lt ho)).trans ho
          clear hb9
          have y0 := cell_of_row w9 Y 0 _ _ _ (HB9.out Y _ HYc.out)
          have y1 := cell_of_row w9 Y 1 _ _ _ (HB9.out Y _ HYc.out)
          have y2 := cell_of_row w9 Y 2 _ _ _ (HB9.out Y _ HYc.out)
          have y3 := cell_of_row w9 Y 3 _ _ _ (HB9.out Y _ HYc.out)
          go_wp2_with (fail)
          refine (KL.out _ (HL.out _ G9.out.bel)).mono ?_
          rintro e wa ⟨rfl, hba⟩
          have Ga : Hid (Gd w X op a b imm wa) := Lib.hid (G9.out.below hba)
          have HBa : Hid (∀ k o, w9.heap[k]? = some o → wa.heap[k]? = some o) := Lib.hid fun k o ho => (hba.block k (block_lt ho)).trans ho
          clear hba
          go_wp2_with (fail)
          refine (KS.out _ (HL.out _ Ga.out.bel)).mono ?_
          rintro e wb ⟨rfl, hbb⟩
          have Gb : Hid (Gd w X op a b imm wb) := Lib.hid (Ga.out.below hbb)
          have HBb : Hid (∀ k o, wa.heap[k]? = some o → wb.heap[k]? = some o) := Lib.hid fun k o ho => (hbb.block k (block_lt ho)).trans ho
          clear hbb
          go_wp2
          go_ret
          exact ⟨rfl, by rw [← HX.out]; exact Gb.out.bel⟩
      · injection hz with e1 e2 e3 e4
        subst e1 e2 e3 e4
        rcases HLI.out with ⟨l94, n94⟩ | ⟨r, l91, n91, hr, hr0⟩ | ⟨l0, hlen⟩
        · skip
          rw [l94] at KL
          dsimp only at KL
          rw [show (str [] : ByteArray) = { data := #[] } from rfl] at KL
          go_wp2_with (fail)
          refine (KR.out _ (HL.out _ Gd8.out.bel)).mono ?_
          rintro e w8 ⟨rfl, hb8⟩
          have G8 : Hid (Gd w X op a b imm w8) := Lib.hid (Gd8.out.below hb8)
          have HB8 : Hid (∀ k o, wc.heap[k]? = some o → w8.heap[k]? = some o) := Lib.hid fun k o ho => (hb8.block k (block_lt ho)).trans ho
          clear hb8
          go_wp2_with (fail)
          obtain ⟨v8, hv8⟩ : ∃ v8, v8 = w8.alloc (.cells #[.int .i64 0, .int .i64 0, .int .i64 0, .int .i64 0] 30) := ⟨_, rfl⟩
          have hy : v8.heap[w8.heap.size]? = some (.cells #[.int .i64 0, .int .i64 0, .int .i64 0, .int .i64 0] 30) := by rw [hv8]; exact World.alloc_heap_new w8 _
          have G8' : Hid (Gd w X op a b imm v8) := Lib.hid (by rw [hv8]; exact G8.out.alloc _)
          obtain ⟨Y, hY⟩ : ∃ Y, Y = w8.heap.size := ⟨_, rfl⟩
          rw [← hv8, ← hY]
          rw [← hY] at hy
          clear hv8 hY
          have HYc := Lib.hid hy
          clear hy
          have x0 := cell_of_row v8 Y 0 _ _ _ HYc.out
          have x1 := cell_of_row v8 Y 1 _ _ _ HYc.out
          have x2 := cell_of_row v8 Y 2 _ _ _ HYc.out
          have x3 := cell_of_row v8 Y 3 _ _ _ HYc.out
          go_wp2_with (fail)
          refine (KP.out _ (HL.out _ G8'.out.bel)).mono ?_
          rintro e w9 ⟨rfl, hb9⟩
          have G9 : Hid (Gd w X op a b imm w9) := Lib.hid (G8'.out.below hb9)
          have HB9 : Hid (∀ k o, v8.heap[k]? = some o → w9.heap[k]? = some o) := Lib.hid fun k o ho => (hb9.block k (block_lt ho)).trans ho
          clear hb9
          have y0 := cell_of_row w9 Y 0 _ _ _ (HB9.out Y _ HYc.out)
          have y1 := cell_of_row w9 Y 1 _ _ _ (HB9.out Y _ HYc.out)
          have y2 := cell_of_row w9 Y 2 _ _ _ (HB9.out Y _ HYc.out)
          have y3 := cell_of_row w9 Y 3 _ _ _ (HB9.out Y _ HYc.out)
          go_wp2_with (fail)
          refine (KL.out _ (HL.out _ G9.out.bel)).mono ?_
          rintro e wa ⟨rfl, hba⟩
          have Ga : Hid (Gd w X op a b imm wa) := Lib.hid (G9.out.below hba)
          have HBa : Hid (∀ k o, w9.heap[k]? = some o → wa.heap[k]? = some o) := Lib.hid fun k o ho => (hba.block k (block_lt ho)).trans ho
          clear hba
          go_wp2
          go_ret
          exact ⟨rfl, by rw [← HX.out]; exact Ga.out.bel⟩
        · rcases hr0 with rfl | rfl | rfl
          · skip
            rw [l91] at KL
            dsimp only at KL
            rw [show (str [] : ByteArray) = { data := #[] } from rfl] at KL
            go_wp2_with (fail)
            refine (KR.out _ (HL.out _ Gd8.out.bel)).mono ?_
            rintro e w8 ⟨rfl, hb8⟩
            have G8 : Hid (Gd w X op a b imm w8) := Lib.hid (Gd8.out.below hb8)
            have HB8 : Hid (∀ k o, wc.heap[k]? = some o → w8.heap[k]? = some o) := Lib.hid fun k o ho => (hb8.block k (block_lt ho)).trans ho
            clear hb8
            go_wp2_with (fail)
            obtain ⟨v8, hv8⟩ : ∃ v8, v8 = w8.alloc (.cells #[.int .i64 0, .int .i64 0, .int .i64 0, .int .i64 0] 30) := ⟨_, rfl⟩
            have hy : v8.heap[w8.heap.size]? = some (.cells #[.int .i64 0, .int .i64 0, .int .i64 0, .int .i64 0] 30) := by rw [hv8]; exact World.alloc_heap_new w8 _
            have G8' : Hid (Gd w X op a b imm v8) := Lib.hid (by rw [hv8]; exact G8.out.alloc _)
            obtain ⟨Y, hY⟩ : ∃ Y, Y = w8.heap.size := ⟨_, rfl⟩
            rw [← hv8, ← hY]
            rw [← hY] at hy
            clear hv8 hY
            have HYc := Lib.hid hy
            clear hy
            have x0 := cell_of_row v8 Y 0 _ _ _ HYc.out
            have x1 := cell_of_row v8 Y 1 _ _ _ HYc.out
            have x2 := cell_of_row v8 Y 2 _ _ _ HYc.out
            have x3 := cell_of_row v8 Y 3 _ _ _ HYc.out
            go_wp2_with (fail)
            refine (KP.out _ (HL.out _ G8'.out.bel)).mono ?_
            rintro e w9 ⟨rfl, hb9⟩
            have G9 : Hid (Gd w X op a b imm w9) := Lib.hid (G8'.out.below hb9)
            have HB9 : Hid (∀ k o, v8.heap[k]? = some o → w9.heap[k]? = some o) := Lib.hid fun k o ho => (hb9.block k (block_lt ho)).trans ho
            clear hb9
            have y0 := cell_of_row w9 Y 0 _ _ _ (HB9.out Y _ HYc.out)
            have y1 := cell_of_row w9 Y 1 _ _ _ (HB9.out Y _ HYc.out)
            have y2 := cell_of_row w9 Y 2 _ _ _ (HB9.out Y _ HYc.out)
            have y3 := cell_of_row w9 Y 3 _ _ _ (HB9.out Y _ HYc.out)
            go_wp2_with (fail)
            refine (KL.out _ (HL.out _ G9.out.bel)).mono ?_
            rintro e wa ⟨rfl, hba⟩
            have Ga : Hid (Gd w X op a b imm wa) := Lib.hid (G9.out.below hba)
            have HBa : Hid (∀ k o, w9.heap[k]? = some o → wa.heap[k]? = some o) := Lib.hid fun k o ho => (hba.block k (block_lt ho)).trans ho
            clear hba
            go_wp2
            go_ret
            exact ⟨rfl, by rw [← HX.out]; exact Ga.out.bel⟩
          · skip
            rw [l91] at KL
            dsimp only at KL
            rw [show (str [] : ByteArray) = { data := #[] } from rfl] at KL
            go_wp2_with (fail)
            refine (KR.out _ (HL.out _ Gd8.out.bel)).mono ?_
            rintro e w8 ⟨rfl, hb8⟩
            have G8 : Hid (Gd w X op a b imm w8) := Lib.hid (Gd8.out.below hb8)
            have HB8 : Hid (∀ k o, wc.heap[k]? = some o → w8.heap[k]? = some o) := Lib.hid fun k o ho => (hb8.block k (block_lt ho)).trans ho
            clear hb8
            go_wp2_with (fail)
            obtain ⟨v8, hv8⟩ : ∃ v8, v8 = w8.alloc (.cells #[.int .i64 0, .int .i64 0, .int .i64 0, .int .i64 0] 30) := ⟨_, rfl⟩
            have hy : v8.heap[w8.heap.size]? = some (.cells #[.int .i64 0, .int .i64 0, .int .i64 0, .int .i64 0] 30) := by rw [hv8]; exact World.alloc_heap_new w8 _
            have G8' : Hid (Gd w X op a b imm v8) := Lib.hid (by rw [hv8]; exact G8.out.alloc _)
            obtain ⟨Y, hY⟩ : ∃ Y, Y = w8.heap.size := ⟨_, rfl⟩
            rw [← hv8, ← hY]
            rw [← hY] at hy
            clear hv8 hY
            have HYc := Lib.hid hy
            clear hy
            have x0 := cell_of_row v8 Y 0 _ _ _ HYc.out
            have x1 := cell_of_row v8 Y 1 _ _ _ HYc.out
            have x2 := cell_of_row v8 Y 2 _ _ _ HYc.out
            have x3 := cell_of_row v8 Y 3 _ _ _ HYc.out
            go_wp2_with (fail)
            refine (KP.out _ (HL.out _ G8'.out.bel)).mono ?_
            rintro e w9 ⟨rfl, hb9⟩
            have G9 : Hid (Gd w X op a b imm w9) := Lib.hid (G8'.out.below hb9)
            have HB9 : Hid (∀ k o, v8.heap[k]? = some o → w9.heap[k]? = some o) := Lib.hid fun k o ho => (hb9.block k (block_lt ho)).trans ho
            clear hb9
            have y0 := cell_of_row w9 Y 0 _ _ _ (HB9.out Y _ HYc.out)
            have y1 := cell_of_row w9 Y 1 _ _ _ (HB9.out Y _ HYc.out)
            have y2 := cell_of_row w9 Y 2 _ _ _ (HB9.out Y _ HYc.out)
            have y3 := cell_of_row w9 Y 3 _ _ _ (HB9.out Y _ HYc.out)
            go_wp2_with (fail)
            refine (KL.out _ (HL.out _ G9.out.bel)).mono ?_
            rintro e wa ⟨rfl, hba⟩
            have Ga : Hid (Gd w X op a b imm wa) := Lib.hid (G9.out.below hba)
            have HBa : Hid (∀ k o, w9.heap[k]? = some o → wa.heap[k]? = some o) := Lib.hid fun k o ho => (hba.block k (block_lt ho)).trans ho
            clear hba
            go_wp2
            go_ret
            exact ⟨rfl, by rw [← HX.out]; exact Ga.out.bel⟩
          · skip
            rw [l91] at KL
            dsimp only at KL
            rw [show (str [] : ByteArray) = { data := #[] } from rfl] at KL
            go_wp2_with (fail)
            refine (KR.out _ (HL.out _ Gd8.out.bel)).mono ?_
            rintro e w8 ⟨rfl, hb8⟩
            have G8 : Hid (Gd w X op a b imm w8) := Lib.hid (Gd8.out.below hb8)
            have HB8 : Hid (∀ k o, wc.heap[k]? = some o → w8.heap[k]? = some o) := Lib.hid fun k o ho => (hb8.block k (block_lt ho)).trans ho
            clear hb8
            go_wp2_with (fail)
            obtain ⟨v8, hv8⟩ : ∃ v8, v8 = w8.alloc (.cells #[.int .i64 0, .int .i64 0, .int .i64 0, .int .i64 0] 30) := ⟨_, rfl⟩
            have hy : v8.heap[w8.heap.size]? = some (.cells #[.int .i64 0, .int .i64 0, .int .i64 0, .int .i64 0] 30) := by rw [hv8]; exact World.alloc_heap_new w8 _
            have G8' : Hid (Gd w X op a b imm v8) := Lib.hid (by rw [hv8]; exact G8.out.alloc _)
            obtain ⟨Y, hY⟩ : ∃ Y, Y = w8.heap.size := ⟨_, rfl⟩
            rw [← hv8, ← hY]
            rw [← hY] at hy
            clear hv8 hY
            have HYc := Lib.hid hy
            clear hy
            have x0 := cell_of_row v8 Y 0 _ _ _ HYc.out
            have x1 := cell_of_row v8 Y 1 _ _ _ HYc.out
            have x2 := cell_of_row v8 Y 2 _ _ _ HYc.out
            have x3 := cell_of_row v8 Y 3 _ _ _ HYc.out
            go_wp2_with (fail)
            refine (KP.out _ (HL.out _ G8'.out.bel)).mono ?_
            rintro e w9 ⟨rfl, hb9⟩
            have G9 : Hid (Gd w X op a b imm w9) := Lib.hid (G8'.out.below hb9)
            have HB9 : Hid (∀ k o, v8.heap[k]? = some o → w9.heap[k]? = some o) := Lib.hid fun k o ho => (hb9.block k (block_lt ho)).trans ho
            clear hb9
            have y0 := cell_of_row w9 Y 0 _ _ _ (HB9.out Y _ HYc.out)
            have y1 := cell_of_row w9 Y 1 _ _ _ (HB9.out Y _ HYc.out)
            have y2 := cell_of_row w9 Y 2 _ _ _ (HB9.out Y _ HYc.out)
            have y3 := cell_of_row w9 Y 3 _ _ _ (HB9.out Y _ HYc.out)
            go_wp2_with (fail)
            refine (KL.out _ (HL.out _ G9.out.bel)).mono ?_
            rintro e wa ⟨rfl, hba⟩
            have Ga : Hid (Gd w X op a b imm wa) := Lib.hid (G9.out.below hba)
            have HBa : Hid (∀ k o, w9.heap[k]? = some o → wa.heap[k]? = some o) := Lib.hid fun k o ho => (hba.block k (block_lt ho)).trans ho
            clear hba
            go_wp2
            go_ret
            exact ⟨rfl, by rw [← HX.out]; exact Ga.out.bel⟩
        · skip
          rw [l0] at KL
          rw [hlen] at KS
          dsimp only at KL KS
          rw [str_toList] at KS
          go_wp2_with (fail)
          refine (KR.out _ (HL.out _ Gd8.out.bel)).mono ?_
          rintro e w8 ⟨rfl, hb8⟩
          have G8 : Hid (Gd w X op a b imm w8) := Lib.hid (Gd8.out.below hb8)
          have HB8 : Hid (∀ k o, wc.heap[k]? = some o → w8.heap[k]? = some o) := Lib.hid fun k o ho => (hb8.block k (block_lt ho)).trans ho
          clear hb8
          go_wp2_with (fail)
          obtain ⟨v8, hv8⟩ : ∃ v8, v8 = w8.alloc (.cells #[.int .i64 0, .int .i64 0, .int .i64 0, .int .i64 0] 30) := ⟨_, rfl⟩
          have hy : v8.heap[w8.heap.size]? = some (.cells #[.int .i64 0, .int .i64 0, .int .i64 0, .int .i64 0] 30) := by rw [hv8]; exact World.alloc_heap_new w8 _
          have G8' : Hid (Gd w X op a b imm v8) := Lib.hid (by rw [hv8]; exact G8.out.alloc _)
          obtain ⟨Y, hY⟩ : ∃ Y, Y = w8.heap.size := ⟨_, rfl⟩
          rw [← hv8, ← hY]
          rw [← hY] at hy
          clear hv8 hY
          have HYc := Lib.hid hy
          clear hy
          have x0 := cell_of_row v8 Y 0 _ _ _ HYc.out
          have x1 := cell_of_row v8 Y 1 _ _ _ HYc.out
          have x2 := cell_of_row v8 Y 2 _ _ _ HYc.out
          have x3 := cell_of_row v8 Y 3 _ _ _ HYc.out
          go_wp2_with (fail)
          refine (KP.out _ (HL.out _ G8'.out.bel)).mono ?_
          rintro e w9 ⟨rfl, hb9⟩
          have G9 : Hid (Gd w X op a b imm w9) := Lib.hid (G8'.out.below hb9)
          have HB9 : Hid (∀ k o, v8.heap[k]? = some o → w9.heap[k]? = some o) := Lib.hid fun k o ho => (hb9.block k (block_lt ho)).trans ho
          clear hb9
          have y0 := cell_of_row w9 Y 0 _ _ _ (HB9.out Y _ HYc.out)
          have y1 := cell_of_row w9 Y 1 _ _ _ (HB9.out Y _ HYc.out)
          have y2 := cell_of_row w9 Y 2 _ _ _ (HB9.out Y _ HYc.out)
          have y3 := cell_of_row w9 Y 3 _ _ _ (HB9.out Y _ HYc.out)
          go_wp2_with (fail)
          refine (KL.out _ (HL.out _ G9.out.bel)).mono ?_
          rintro e wa ⟨rfl, hba⟩
          have Ga : Hid (Gd w X op a b imm wa) := Lib.hid (G9.out.below hba)
          have HBa : Hid (∀ k o, w9.heap[k]? = some o → wa.heap[k]? = some o) := Lib.hid fun k o ho => (hba.block k (block_lt ho)).trans ho
          clear hba
          go_wp2_with (fail)
          refine (KS.out _ (HL.out _ Ga.out.bel)).mono ?_
          rintro e wb ⟨rfl, hbb⟩
          have Gb : Hid (Gd w X op a b imm wb) := Lib.hid (Ga.out.below hbb)
          have HBb : Hid (∀ k o, wa.heap[k]? = some o → wb.heap[k]? = some o) := Lib.hid fun k o ho => (hbb.block k (block_lt ho)).trans ho
          clear hbb
          go_wp2
          go_ret
          exact ⟨rfl, by rw [← HX.out]; exact Gb.out.bel⟩
end Go.Proofs.YtmclcobklcjmnaaDoor
