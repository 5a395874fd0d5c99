/- Two expressions that are the same: what the call returns. Conditions: they lie in memory. -/
import Derived.Test.YthejkelnjimogaaDoorPri
import Derived.Deep.RegionHeld3
namespace Go.Proofs.YthejkelnjimogaaDoor
open Go.RowKit
set_option linter.unusedVariables false

noncomputable def neq23 (x y : Value) : Sem Value := binOp .neq 23 x y
theorem neq23_pre (x y : Value) : binOp .neq 23 x y = neq23 x y := rfl
theorem neq23_run (a b c d : Int) (w : World) : (neq23 (.agg #[.int .u64 a, .int .u64 b, .int .u64 c, .int .u64 d]) (.agg #[.int .u64 a, .int .u64 b, .int .u64 c, .int .u64 d])).run Tryd.prog w = .ok (.bool false) w := by
  show (binOp .neq 23 (.agg (set4 a b c d)) (.agg (set4 a b c d))).run Tryd.prog w = _
  rw [run_neq_struct, eq23 a b c d a b c d 9998 w 23 Tryd.underlying23, Result.andThen_ok]
  simp
attribute [local go_sem ↓] neq23_pre
attribute [local go_sem] neq23_run
/-- the two rows -/
structure Aw (w wx : World) (B : Nat) (Ca Cb : Array Value) (wr : World) : Prop where
  ra : wr.heap[B]? = some (.cells Ca 26 (0, 0))
  rb : wr.heap[B + 1]? = some (.cells Cb 26 (0, 0))
  bw : Below w.heap.size w wr
  bx : Below wx.heap.size wx wr
theorem Aw.step {w wx : World} {B : Nat} {Ca Cb : Array Value} {wr w' : World} (h : Aw w wx B Ca Cb wr) (g : Below wr.heap.size wr w') : Aw w wx B Ca Cb w' :=
  ⟨by rw [g.block B (block_lt h.ra)]; exact h.ra, by rw [g.block (B + 1) (block_lt h.rb)]; exact h.rb, below_trans h.bw g, below_trans h.bx g⟩
theorem Aw.drew {w wx : World} {B : Nat} {Ca Cb : Array Value} {wr : World} (h : Aw w wx B Ca Cb wr) : Aw w wx B Ca Cb wr.drew := ⟨h.ra, h.rb, h.bw.drew, h.bx.drew⟩
set_option maxRecDepth 100000 in
set_option maxHeartbeats 8000000 in
theorem same_step {ok : Nat → Prop} {w : World} (ao : Option Addr) (cap : Nat) (l : List Rx) (sl : Nat → Value)
    (cell : ∀ i (h : i < l.length), ∃ a, ao = some a ∧ ok a.block ∧ a.block < w.heap.size ∧ ∀ j u, (l[i].cells (sl i))[j]? = some u → w.cell? (a.add (i * 8 + j)) = some u)
    (bo : Option Addr) (cap2 : Nat) (sl2 : Nat → Value)
    (cell2 : ∀ i (h : i < l.length), ∃ a, bo = some a ∧ a.block < w.heap.size ∧ ∀ j u, (l[i].cells (sl2 i))[j]? = some u → w.cell? (a.add (i * 8 + j)) = some u)
    (vals : ∀ i (h : i < l.length), ∃ p m c, sl i = .slice p m c) (vals2 : ∀ i (h : i < l.length), ∃ p m c, sl2 i = .slice p m c)
    (ih : ∀ i (h : i < l.length), ∀ w', Below w.heap.size w w' → Calls Tryd.prog 18 #[.agg (l[i].cells (sl i)), .agg (l[i].cells (sl2 i))] w' fun e w'' => e = .returned (.bool true) ∧ Below w'.heap.size w' w'')
    (few : l.length ≤ 140737488355328) (k mn mx s0 s1 s2 s3 : Int) (wx : World) (hb : Below w.heap.size w wx) :
    Calls Tryd.prog 18 #[.agg (cellsX k mn mx s0 s1 s2 s3 (.slice ao l.length cap)), .agg (cellsX k mn mx s0 s1 s2 s3 (.slice bo l.length cap2))] wx fun e w'' => e = .returned (.bool true) ∧ Below wx.heap.size wx w'' := by
  unfold cellsX
  obtain ⟨B, hB⟩ : ∃ B, B = wx.heap.size := ⟨_, rfl⟩
  have hzz : wx.heap.size = B := hB.symm
  obtain ⟨I, hI⟩ : ∃ I : World → Prop, I = Aw w wx B #[.int .i64 k, .int .i64 mn, .int .i64 mx, .int .u64 s0, .int .u64 s1, .int .u64 s2, .int .u64 s3, .slice ao l.length cap] #[.int .i64 k, .int .i64 mn, .int .i64 mx, .int .u64 s0, .int .u64 s1, .int .u64 s2, .int .u64 s3, .slice bo l.length cap2] := ⟨_, rfl⟩
  have I0 : I ((wx.alloc (.cells #[.int .i64 k, .int .i64 mn, .int .i64 mx, .int .u64 s0, .int .u64 s1, .int .u64 s2, .int .u64 s3, .slice ao l.length cap] 26)).alloc (.cells #[.int .i64 k, .int .i64 mn, .int .i64 mx, .int .u64 s0, .int .u64 s1, .int .u64 s2, .int .u64 s3, .slice bo l.length cap2] 26)) := by
    rw [hI]
    refine ⟨?_, ?_, below_trans hb (below_trans (below_new wx _) (below_new _ _)), below_trans (below_new wx _) (below_new _ _)⟩
    · rw [(below_new _ (.cells #[.int .i64 k, .int .i64 mn, .int .i64 mx, .int .u64 s0, .int .u64 s1, .int .u64 s2, .int .u64 s3, .slice bo l.length cap2] 26)).block B (by rw [hB]; simp), hB]
      exact heap_alloc_new wx _
    · have := heap_alloc_new (wx.alloc (.cells #[.int .i64 k, .int .i64 mn, .int .i64 mx, .int .u64 s0, .int .u64 s1, .int .u64 s2, .int .u64 s3, .slice ao l.length cap] 26)) (.cells #[.int .i64 k, .int .i64 mn, .int .i64 mx, .int .u64 s0, .int .u64 s1, .int .u64 s2, .int .u64 s3, .slice bo l.length cap2] 26)
      rw [hB]; simpa using this
  have IS : Hid (∀ wr w', I wr → Below wr.heap.size wr w' → I w') := by rw [hI]; exact fun wr w' h g => h.step g
  have ID : Hid (∀ wr, I wr → I wr.drew) := by rw [hI]; exact fun wr h => h.drew
  have IB : Hid (∀ wr, I wr → Below w.heap.size w wr ∧ Below B wx wr) := by rw [hI]; exact fun wr h => ⟨h.bw, by rw [← hzz]; exact h.bx⟩
  have IC : Hid (∀ wr, I wr → (wr.cell? ⟨B, 0, none⟩ = some (.int .i64 k) ∧ wr.cell? ⟨B, 1, none⟩ = some (.int .i64 mn) ∧ wr.cell? ⟨B, 2, none⟩ = some (.int .i64 mx) ∧ wr.cell? ⟨B, 3, none⟩ = some (.int .u64 s0) ∧ wr.cell? ⟨B, 4, none⟩ = some (.int .u64 s1) ∧ wr.cell? ⟨B, 5, none⟩ = some (.int .u64 s2) ∧ wr.cell? ⟨B, 6, none⟩ = some (.int .u64 s3) ∧ wr.cell? ⟨B, 7, none⟩ = some (.slice ao l.length cap)) ∧
    (wr.cell? ⟨B + 1, 0, none⟩ = some (.int .i64 k) ∧ wr.cell? ⟨B + 1, 1, none⟩ = some (.int .i64 mn) ∧ wr.cell? ⟨B + 1, 2, none⟩ = some (.int .i64 mx) ∧ wr.cell? ⟨B + 1, 3, none⟩ = some (.int .u64 s0) ∧ wr.cell? ⟨B + 1, 4, none⟩ = some (.int .u64 s1) ∧ wr.cell? ⟨B + 1, 5, none⟩ = some (.int .u64 s2) ∧ wr.cell? ⟨B + 1, 6, none⟩ = some (.int .u64 s3) ∧ wr.cell? ⟨B + 1, 7, none⟩ = some (.slice bo l.length cap2))) := by
    rw [hI]; exact fun wr h => ⟨⟨cell_at h.ra rfl, cell_at h.ra rfl, cell_at h.ra rfl, cell_at h.ra rfl, cell_at h.ra rfl, cell_at h.ra rfl, cell_at h.ra rfl, cell_at h.ra rfl⟩, cell_at h.rb rfl, cell_at h.rb rfl, cell_at h.rb rfl, cell_at h.rb rfl, cell_at h.rb rfl, cell_at h.rb rfl, cell_at h.rb rfl, cell_at h.rb rfl⟩
  obtain ⟨⟨x0, x1, x2, x3, x4, x5, x6, x7⟩, y0, y1, y2, y3, y4, y5, y6, y7⟩ := IC.out _ I0
  have CE := Lib.hid cell
  have CE2 := Lib.hid cell2
  have VS := Lib.hid vals
  have VS2 := Lib.hid vals2
  have IH := Lib.hid ih
  rw [hzz]
  clear hI hB cell cell2 vals vals2 ih hb
  go_enter Tryd.func18, Tryd.ntmps18
  go_wp2_with fail
  clear x0 x1 x2 x3 x4 x5 x6 x7 y0 y1 y2 y3 y4 y5 y6 y7
  go_loopw [5] (fun i wr => ∃ j : Nat, j ≤ l.length ∧ i = .int .i64 j ∧ I wr) (fun i _ => l.length - (intOf i).toNat)
  case atStart => exact ⟨0, by omega, rfl, I0⟩
  case round =>
    obtain ⟨j, hj, rfl, ir⟩ := hrel
    clear I0
    obtain ⟨⟨x0, x1, x2, x3, x4, x5, x6, x7⟩, y0, y1, y2, y3, y4, y5, y6, y7⟩ := IC.out _ ir
    by_cases hlt : j < l.length
    · obtain ⟨a, rfl, _, hab, hcj⟩ := CE.out j hlt
      obtain ⟨b, rfl, hbb, hcj2⟩ := CE2.out j hlt
      obtain ⟨p1, m1, c1, hv1⟩ := VS.out j hlt
      obtain ⟨p2, m2, c2, hv2⟩ := VS2.out j hlt
      have IJ := IH.out j hlt
      rw [hv1] at hcj IJ
      rw [hv2] at hcj2 IJ
      have hji : (j : Int) < (l.length : Int) := by omega
      clear hv1 hv2
      generalize l[j] = t at *
      obtain ⟨k', mn', mx', t0, t1, t2, t3, l'⟩ := t
      have EC : Hid (∀ wr, I wr → (wr.cell? (a.add (j * 8)) = some (.int .i64 k') ∧ wr.cell? (⟨(a.add (j * 8)).block, (a.add (j * 8)).off + 1, none⟩) = some (.int .i64 mn') ∧ wr.cell? (⟨(a.add (j * 8)).block, (a.add (j * 8)).off + 2, none⟩) = some (.int .i64 mx') ∧ wr.cell? (⟨(a.add (j * 8)).block, (a.add (j * 8)).off + 3, none⟩) = some (.int .u64 t0) ∧ wr.cell? (⟨(a.add (j * 8)).block, (a.add (j * 8)).off + 4, none⟩) = some (.int .u64 t1) ∧ wr.cell? (⟨(a.add (j * 8)).block, (a.add (j * 8)).off + 5, none⟩) = some (.int .u64 t2) ∧ wr.cell? (⟨(a.add (j * 8)).block, (a.add (j * 8)).off + 6, none⟩) = some (.int .u64 t3) ∧ wr.cell? (⟨(a.add (j * 8)).block, (a.add (j * 8)).off + 7, none⟩) = some (.slice p1 m1 c1)) ∧ (wr.cell? (b.add (j * 8)) = some (.int .i64 k') ∧ wr.cell? (⟨(b.add (j * 8)).block, (b.add (j * 8)).off + 1, none⟩) = some (.int .i64 mn') ∧ wr.cell? (⟨(b.add (j * 8)).block, (b.add (j * 8)).off + 2, none⟩) = some (.int .i64 mx') ∧ wr.cell? (⟨(b.add (j * 8)).block, (b.add (j * 8)).off + 3, none⟩) = some (.int .u64 t0) ∧ wr.cell? (⟨(b.add (j * 8)).block, (b.add (j * 8)).off + 4, none⟩) = some (.int .u64 t1) ∧ wr.cell? (⟨(b.add (j * 8)).block, (b.add (j * 8)).off + 5, none⟩) = some (.int .u64 t2) ∧ wr.cell? (⟨(b.add (j * 8)).block, (b.add (j * 8)).off + 6, none⟩) = some (.int .u64 t3) ∧ wr.cell? (⟨(b.add (j * 8)).block, (b.add (j * 8)).off + 7, none⟩) = some (.slice p2 m2 c2))) := fun wr h => ⟨eight hcj hab (IB.out _ h).1, eight hcj2 hbb (IB.out _ h).1⟩
      have IJ2 : Hid (∀ w', Below w.heap.size w w' → Calls Tryd.prog 18 #[.agg #[.int .i64 k', .int .i64 mn', .int .i64 mx', .int .u64 t0, .int .u64 t1, .int .u64 t2, .int .u64 t3, .slice p1 m1 c1], .agg #[.int .i64 k', .int .i64 mn', .int .i64 mx', .int .u64 t0, .int .u64 t1, .int .u64 t2, .int .u64 t3, .slice p2 m2 c2]] w' fun e w'' => e = .returned (.bool true) ∧ Below w'.heap.size w' w'') := IJ
      have XC : Hid (∀ wr, I wr → wr.cell? ⟨B, 7, none⟩ = some (.slice (some a) l.length cap) ∧ wr.cell? ⟨B + 1, 7, none⟩ = some (.slice (some b) l.length cap2)) := fun wr h => ⟨(IC.out _ h).1.2.2.2.2.2.2.2, (IC.out _ h).2.2.2.2.2.2.2.2⟩
      clear hcj hcj2 IJ
      go_wp2_with fail
      go_region_held3 (fun wr => ((wr.cell? (a.add (j * 8)) = some (.int .i64 k') ∧ wr.cell? (⟨(a.add (j * 8)).block, (a.add (j * 8)).off + 1, none⟩) = some (.int .i64 mn') ∧ wr.cell? (⟨(a.add (j * 8)).block, (a.add (j * 8)).off + 2, none⟩) = some (.int .i64 mx') ∧ wr.cell? (⟨(a.add (j * 8)).block, (a.add (j * 8)).off + 3, none⟩) = some (.int .u64 t0) ∧ wr.cell? (⟨(a.add (j * 8)).block, (a.add (j * 8)).off + 4, none⟩) = some (.int .u64 t1) ∧ wr.cell? (⟨(a.add (j * 8)).block, (a.add (j * 8)).off + 5, none⟩) = some (.int .u64 t2) ∧ wr.cell? (⟨(a.add (j * 8)).block, (a.add (j * 8)).off + 6, none⟩) = some (.int .u64 t3) ∧ wr.cell? (⟨(a.add (j * 8)).block, (a.add (j * 8)).off + 7, none⟩) = some (.slice p1 m1 c1)) ∧ (wr.cell? (b.add (j * 8)) = some (.int .i64 k') ∧ wr.cell? (⟨(b.add (j * 8)).block, (b.add (j * 8)).off + 1, none⟩) = some (.int .i64 mn') ∧ wr.cell? (⟨(b.add (j * 8)).block, (b.add (j * 8)).off + 2, none⟩) = some (.int .i64 mx') ∧ wr.cell? (⟨(b.add (j * 8)).block, (b.add (j * 8)).off + 3, none⟩) = some (.int .u64 t0) ∧ wr.cell? (⟨(b.add (j * 8)).block, (b.add (j * 8)).off + 4, none⟩) = some (.int .u64 t1) ∧ wr.cell? (⟨(b.add (j * 8)).block, (b.add (j * 8)).off + 5, none⟩) = some (.int .u64 t2) ∧ wr.cell? (⟨(b.add (j * 8)).block, (b.add (j * 8)).off + 6, none⟩) = some (.int .u64 t3) ∧ wr.cell? (⟨(b.add (j * 8)).block, (b.add (j * 8)).off + 7, none⟩) = some (.slice p2 m2 c2))) ∧ (wr.cell? ⟨B, 7, none⟩ = some (.slice (some a) l.length cap) ∧ wr.cell? ⟨B + 1, 7, none⟩ = some (.slice (some b) l.length cap2)) ∧ I wr)
        (first | exact ⟨EC.out _ (ID.out _ ir), XC.out _ (ID.out _ ir), ID.out _ ir⟩ | exact ⟨EC.out _ i2, XC.out _ i2, i2⟩)
        (first
          | (go_at_call 18; (with_reducible refine (IJ2.out _ (IB.out _ (ID.out _ ir)).1).mono ?_); rintro e w2 ⟨rfl, g2⟩; have i2 := IS.out _ _ (ID.out _ ir) g2))
      go_wp2_with fail
      exact ⟨⟨j + 1, by omega, by go_num, i2⟩, by simp [intOf]; omega⟩
    · have hbx := (IB.out _ ir).2
      have hjn : ¬ (j : Int) < (l.length : Int) := by omega
      go_wp2_with fail
      go_ret
      exact ⟨rfl, hbx⟩
theorem same_lies {ok : Nat → Prop} {w : World} {v : Value} {l : List Rx} (h : LiesL ok w v l) : ∀ (ok2 : Nat → Prop) (v2 : Value) (h2 : LiesL ok2 w v2 l) (k mn mx s0 s1 s2 s3 : Int) (wx : World), Below w.heap.size w wx →
    Calls Tryd.prog 18 #[.agg (cellsX k mn mx s0 s1 s2 s3 v), .agg (cellsX k mn mx s0 s1 s2 s3 v2)] wx fun e w'' => e = .returned (.bool true) ∧ Below wx.heap.size wx w'' := by
  induction h with
  | mk ao cap l sl few cell inner ih =>
    intro ok2 v2 h2 k mn mx s0 s1 s2 s3 wx hb
    cases h2 with
    | mk bo cap2 _ sl2 _ cell2 inner2 =>
      refine same_step ao cap l sl cell bo cap2 sl2 (fun i hi => ?_) (fun i hi => ?_) (fun i hi => ?_) (fun i hi w' hw' => ?_) few k mn mx s0 s1 s2 s3 wx hb
      · obtain ⟨a, h1, _, h3, h4⟩ := cell2 i hi
        exact ⟨a, h1, h3, h4⟩
      · obtain ⟨p, c, hv⟩ := (inner i hi).value
        exact ⟨p, _, c, hv⟩
      · obtain ⟨p, c, hv⟩ := (inner2 i hi).value
        exact ⟨p, _, c, hv⟩
      · have := ih i hi ok2 _ (inner2 i hi)
        cases hli : l[i] with
        | mk k' mn' mx' t0 t1 t2 t3 l' =>
          exact this k' mn' mx' t0 t1 t2 t3 w' hw'
/-- an expression is the same as itself, wherever the two lie -/
theorem same_any {ok ok2 : Nat → Prop} (w : World) (v v2 : Value) (t : Rx) (h : LiesL ok w v t.list) (h2 : LiesL ok2 w v2 t.list) : Calls Tryd.prog 18 #[.agg (t.cells v), .agg (t.cells v2)] w fun e w' => e = .returned (.bool true) ∧ Below w.heap.size w w' := by
  cases t with
  | mk k mn mx s0 s1 s2 s3 l => exact same_lies h ok2 v2 h2 k mn mx s0 s1 s2 s3 w (Below.refl _ _)
end Go.Proofs.YthejkelnjimogaaDoor
