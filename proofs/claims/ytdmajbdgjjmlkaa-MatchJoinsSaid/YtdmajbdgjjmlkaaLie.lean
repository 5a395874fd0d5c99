/- Expressions as they lie in memory; how big one is: what the call returns; nothing that was there turns. Conditions: the expression lies in memory. -/
import Derived.Test.YtdmajbdgjjmlkaaFrm
import Derived.Deep.RegionWith
namespace Go.Proofs.Ytdmajbdgjjmlkaa
open Go.RowKit
set_option linter.unusedVariables false

/-- the eight cells of an expression, its list's value told -/
def Rx.cells (v : Value) : Rx → Array Value
  | .mk k mn mx s0 s1 s2 s3 _ => cellsX k mn mx s0 s1 s2 s3 v
/-- a list of expressions lies there, in blocks that are allowed -/
inductive LiesL (ok : Nat → Prop) (w : World) : Value → List Rx → Prop
  | mk (ao : Option Addr) (cap : Nat) (l : List Rx) (sl : Nat → Value) (few : l.length ≤ 140737488355328)
      (cell : ∀ i (h : i < l.length), ∃ a, ao = some a ∧ ok a.block ∧ a.block < w.heap.size ∧ ∀ j u, (l[i].cells (sl i))[j]? = some u → w.cell? (a.add (i * 8 + j)) = some u)
      (inner : ∀ i (h : i < l.length), LiesL ok w (sl i) l[i].list) : LiesL ok w (.slice ao l.length cap) l
theorem add_block (a : Addr) (k : Nat) : (a.add k).block = a.block := by unfold Addr.add; split <;> rfl
/-- blocks that are allowed are as they were -/
theorem LiesL.kept {ok ok' : Nat → Prop} {w w' : World} {v : Value} {l : List Rx} (h : LiesL ok w v l) (hs : w.heap.size ≤ w'.heap.size) (hb : ∀ b, ok b → b < w.heap.size → w'.heap[b]? = w.heap[b]?) (hk : ∀ b, ok b → b < w.heap.size → ok' b) : LiesL ok' w' v l := by
  induction h with
  | mk ao cap l sl few cell inner ih =>
    refine .mk ao cap l sl few (fun i hi => ?_) (fun i hi => ih i hi)
    obtain ⟨a, h1, h0, h2, h3⟩ := cell i hi
    exact ⟨a, h1, hk _ h0 h2, Nat.lt_of_lt_of_le h2 hs, fun j u hj => by rw [World.cell?_of_block (w := w) (a := a.add (i * 8 + j)) (by rw [add_block]; exact hb _ h0 h2)]; exact h3 j u hj⟩
theorem LiesL.stay {ok : Nat → Prop} {w w' : World} {v : Value} {l : List Rx} (h : LiesL ok w v l) (hb : Below w.heap.size w w') : LiesL ok w' v l :=
  h.kept hb.size (fun b _ hlt => hb.block b hlt) (fun b hb _ => hb)
theorem LiesL.value {ok : Nat → Prop} {w : World} {v : Value} {l : List Rx} (h : LiesL ok w v l) : ∃ ao cap, v = .slice ao l.length cap := by
  cases h with
  | mk ao cap l sl few cell inner => exact ⟨ao, cap, rfl⟩
theorem LiesL.nil (ok : Nat → Prop) (w : World) : LiesL ok w (.slice none 0 0) [] := .mk none 0 [] (fun _ => .slice none 0 0) (by simp) (fun i h => absurd h (by simp)) (fun i h => absurd h (by simp))

theorem add_add' (a : Addr) (i j : Nat) : (a.add i).add j = a.add (i + j) := by
  unfold Addr.add
  by_cases hi : i = 0
  · subst hi; simp
  · by_cases hj : j = 0
    · subst hj; simp
    · rw [if_neg hi, if_neg hj, if_neg (by omega)]; simp [Nat.add_assoc]
/-- the eight cells of an element, as the walk asks for them -/
theorem eight {w wr : World} {a : Addr} {v : Value} {i : Nat} {k mn mx s0 s1 s2 s3 : Int} {l : List Rx} (h : ∀ j u, ((Rx.mk k mn mx s0 s1 s2 s3 l).cells v)[j]? = some u → w.cell? (a.add (i * 8 + j)) = some u)
    (hab : a.block < w.heap.size) (hb : Below w.heap.size w wr) :
    wr.cell? (a.add (i * 8)) = some (.int .i64 k) ∧ wr.cell? ⟨(a.add (i * 8)).block, (a.add (i * 8)).off + 1, none⟩ = some (.int .i64 mn) ∧ wr.cell? ⟨(a.add (i * 8)).block, (a.add (i * 8)).off + 2, none⟩ = some (.int .i64 mx) ∧
    wr.cell? ⟨(a.add (i * 8)).block, (a.add (i * 8)).off + 3, none⟩ = some (.int .u64 s0) ∧ wr.cell? ⟨(a.add (i * 8)).block, (a.add (i * 8)).off + 4, none⟩ = some (.int .u64 s1) ∧ wr.cell? ⟨(a.add (i * 8)).block, (a.add (i * 8)).off + 5, none⟩ = some (.int .u64 s2) ∧
    wr.cell? ⟨(a.add (i * 8)).block, (a.add (i * 8)).off + 6, none⟩ = some (.int .u64 s3) ∧ wr.cell? ⟨(a.add (i * 8)).block, (a.add (i * 8)).off + 7, none⟩ = some v := by
  have key : ∀ j u, ((Rx.mk k mn mx s0 s1 s2 s3 l).cells v)[j]? = some u → wr.cell? ((a.add (i * 8)).add j) = some u := fun j u hj => by
    rw [add_add', hb.cell (p := a.add (i * 8 + j)) (by rw [add_block]; exact hab)]
    exact h j u hj
  have e : ∀ j, (a.add (i * 8)).add (j + 1) = ⟨(a.add (i * 8)).block, (a.add (i * 8)).off + (j + 1), none⟩ := fun j => by simp [Addr.add]
  refine ⟨by have := key 0 _ rfl; rw [add_add', Nat.add_zero] at this; exact this, ?_, ?_, ?_, ?_, ?_, ?_, ?_⟩
  · rw [← e 0]; exact key 1 _ rfl
  · rw [← e 1]; exact key 2 _ rfl
  · rw [← e 2]; exact key 3 _ rfl
  · rw [← e 3]; exact key 4 _ rfl
  · rw [← e 4]; exact key 5 _ rfl
  · rw [← e 5]; exact key 6 _ rfl
  · rw [← e 6]; exact key 7 _ rfl
theorem form_bounds {k mn mx s0 s1 s2 s3 : Int} {n : Nat} (h : formF k mn mx s0 s1 s2 s3 n = true) : 0 ≤ mn ∧ mn ≤ 15 ∧ -1 ≤ mx ∧ mx ≤ 15 := by
  unfold formF areT at h
  split at h
  · simp at h; omega
  · split at h
    · simp at h; omega
    · split at h
      · simp at h; omega
      · split at h
        · simp at h; omega
        · cases h
theorem w64_in (x : Int) (h : 0 ≤ x ∧ x ≤ 1000000) : wrap64 x = x := by unfold wrap64; omega
theorem times_int {mn mx : Int} (h : 0 ≤ mn ∧ mn ≤ 15 ∧ -1 ≤ mx ∧ mx ≤ 15) : (if (if 1 < mn then mn else 1) < mx then mx else if 1 < mn then mn else 1) = (timesF mn mx : Int) ∧ 1 ≤ timesF mn mx ∧ timesF mn mx ≤ 15 := by
  unfold timesF
  obtain ⟨h1, h2, h3, h4⟩ := h
  rw [Int.max_def, Int.max_def]
  by_cases a : 1 < mn
  · rw [if_pos a]
    by_cases b : mn < mx
    · rw [if_pos b, if_pos (show mn ≤ mx by omega), if_pos (show 1 ≤ mx by omega)]; omega
    · rw [if_neg b]
      by_cases c : mn ≤ mx
      · rw [if_pos c, if_pos (show 1 ≤ mx by omega)]; omega
      · rw [if_neg c, if_pos (show 1 ≤ mn by omega)]; omega
  · rw [if_neg a]
    by_cases b : 1 < mx
    · rw [if_pos b, if_pos (show mn ≤ mx by omega), if_pos (show 1 ≤ mx by omega)]; omega
    · rw [if_neg b]
      by_cases c : mn ≤ mx
      · rw [if_pos c]
        by_cases d : 1 ≤ mx
        · rw [if_pos d]; omega
        · rw [if_neg d]; omega
      · rw [if_neg c]
        by_cases d : 1 ≤ mn
        · rw [if_pos d]; omega
        · rw [if_neg d]; omega
theorem size_num (acc p : Nat) {mn mx : Int} (h : 0 ≤ mn ∧ mn ≤ 15 ∧ -1 ≤ mx ∧ mx ≤ 15) (ha : acc ≤ 257) (hp : p ≤ 257) :
    (if 257 < wrap64 ((acc : Int) + wrap64 ((p : Int) * if (if 1 < mn then mn else 1) < mx then mx else if 1 < mn then mn else 1)) then 257
      else wrap64 ((acc : Int) + wrap64 ((p : Int) * if (if 1 < mn then mn else 1) < mx then mx else if 1 < mn then mn else 1))) = ((min (acc + p * timesF mn mx) 257 : Nat) : Int) := by
  obtain ⟨e, h1, h2⟩ := times_int h
  rw [e]
  generalize timesF mn mx = T at *
  have hm : p * T ≤ 257 * 15 := Nat.mul_le_mul hp h2
  have e1 : (p : Int) * (T : Int) = ((p * T : Nat) : Int) := by simp
  rw [e1]
  generalize p * T = q at *
  rw [w64_in (q : Int) (by omega), w64_in _ (by omega)]
  by_cases c : (257 : Int) < (acc : Int) + (q : Int)
  · rw [if_pos c]; omega
  · rw [if_neg c]; omega
set_option maxRecDepth 100000 in
set_option maxHeartbeats 4000000 in
theorem size_step {ok : Nat → Prop} {w : World} (ao : Option Addr) (cap : Nat) (l : List Rx) (sl : Nat → Value)
    (cell : ∀ i (h : i < l.length), ∃ a, ao = some a ∧ ok a.block ∧ a.block < w.heap.size ∧ ∀ j u, (l[i].cells (sl i))[j]? = some u → w.cell? (a.add (i * 8 + j)) = some u)
    (ih : ∀ i (h : i < l.length), ∀ w', Below w.heap.size w w' → Calls Try.prog 42 #[.agg (l[i].cells (sl i))] w' fun e w'' => e = .returned (.int .i64 (sizeR l[i] : Nat)) ∧ Below w'.heap.size w' w'')
    (k mn mx s0 s1 s2 s3 : Int) (hl : l.length ≤ 140737488355328) (wx : World) (hb : Below w.heap.size w wx) :
    Calls Try.prog 42 #[.agg (cellsX k mn mx s0 s1 s2 s3 (.slice ao l.length cap))] wx fun e w'' => e = .returned (.int .i64 (sizeR (.mk k mn mx s0 s1 s2 s3 l) : Nat)) ∧ Below wx.heap.size wx w'' := by
  rw [sizeR]
  have FA := Lib.hid (form_any k mn mx s0 s1 s2 s3 ao l.length cap)
  unfold cellsX at FA ⊢
  cases hf : formF k mn mx s0 s1 s2 s3 l.length with
  | false =>
    rw [hf] at FA
    have bel : Hid (∀ o w', Below (wx.alloc o).heap.size (wx.alloc o) w' → Below wx.heap.size wx w') := fun o w' h => below_trans (below_new wx o) h
    clear hf ih cell
    go_enter Try.func42, Try.ntmps42
    go_wp2_with (go_at_call 59; (with_reducible refine (FA.out _).mono ?_); rintro e w' ⟨rfl, hb1⟩)
    go_ret
    exact ⟨rfl, bel.out _ _ hb1⟩
  | true =>
    rw [hf] at FA
    obtain ⟨X, hX⟩ : ∃ X, X = wx.heap.size := ⟨_, rfl⟩
    have hzz : wx.heap.size = X := hX.symm
    obtain ⟨C, hC⟩ : ∃ C : Array Value, C = #[.int .i64 k, .int .i64 mn, .int .i64 mx, .int .u64 s0, .int .u64 s1, .int .u64 s2, .int .u64 s3, .slice ao l.length cap] := ⟨_, rfl⟩
    have box : Hid (∀ w', Below (wx.alloc (.cells C 26)).heap.size (wx.alloc (.cells C 26)) w' → (w'.cell? ⟨X, 7, none⟩ = some (.slice ao l.length cap) ∧ w'.cell? ⟨X, 1, none⟩ = some (.int .i64 mn) ∧ w'.cell? ⟨X, 2, none⟩ = some (.int .i64 mx)) ∧ Below X wx w' ∧ Below w.heap.size w w') := fun w' h => by
      have hh : (wx.alloc (.cells C 26)).heap[X]? = some (.cells C 26 (0, 0)) := by rw [hX]; exact heap_alloc_new wx _
      have h2 : w'.heap[X]? = some (.cells C 26 (0, 0)) := by rw [h.block X (by rw [hX]; simp)]; exact hh
      have hb2 := below_trans (below_new wx _) h
      refine ⟨⟨?_, ?_, ?_⟩, by rw [hX]; exact hb2, below_trans hb hb2⟩
      · rw [cell_of_row _ _ _ _ _ _ h2, hC]; rfl
      · rw [cell_of_row _ _ _ _ _ _ h2, hC]; rfl
      · rw [cell_of_row _ _ _ _ _ _ h2, hC]; rfl
    have hst : Hid (∀ w1 w2, Below (wx.alloc (.cells C 26)).heap.size (wx.alloc (.cells C 26)) w1 → Below w1.heap.size w1 w2 → Below (wx.alloc (.cells C 26)).heap.size (wx.alloc (.cells C 26)) w2) := fun w1 w2 h k => below_trans h k
    rw [hC] at box hst
    obtain ⟨I, hI⟩ : ∃ I : World → Prop, I = Below (wx.alloc (.cells #[.int .i64 k, .int .i64 mn, .int .i64 mx, .int .u64 s0, .int .u64 s1, .int .u64 s2, .int .u64 s3, .slice ao l.length cap] 26)).heap.size (wx.alloc (.cells #[.int .i64 k, .int .i64 mn, .int .i64 mx, .int .u64 s0, .int .u64 s1, .int .u64 s2, .int .u64 s3, .slice ao l.length cap] 26)) := ⟨_, rfl⟩
    rw [← hI] at box hst
    have FA2 : Hid (Calls Try.prog 59 #[.agg #[.int .i64 k, .int .i64 mn, .int .i64 mx, .int .u64 s0, .int .u64 s1, .int .u64 s2, .int .u64 s3, .slice ao l.length cap]] (wx.alloc (.cells #[.int .i64 k, .int .i64 mn, .int .i64 mx, .int .u64 s0, .int .u64 s1, .int .u64 s2, .int .u64 s3, .slice ao l.length cap] 26)) fun e w' => e = .returned (.bool true) ∧ I w') := by
      rw [hI]; exact FA.out _
    have hbd := form_bounds hf
    have CE := Lib.hid cell
    have IH := Lib.hid ih
    rw [hzz]
    clear hI hC hX FA hf cell ih hb
    go_enter Try.func42, Try.ntmps42
    go_wp2_with (go_at_call 59; (with_reducible refine (FA2.out).mono ?_); rintro e w' ⟨rfl, g0⟩; obtain ⟨⟨c7, c1, c2⟩, _, _⟩ := box.out _ g0)
    go_loopw [3, 12] (fun z i wr => ∃ j acc : Nat, j ≤ l.length ∧ i = .int .i64 j ∧ z = .int .i64 acc ∧ acc ≤ 257 ∧ I wr ∧ Hid (sizeL (timesF mn mx) l 1 = sizeL (timesF mn mx) (l.drop j) acc)) (fun _ i _ => l.length - (intOf i).toNat)
    case atStart => exact ⟨0, 1, by omega, rfl, rfl, by omega, g0, rfl⟩
    case round =>
      obtain ⟨j, acc, hj, rfl, rfl, hac, gr, hs⟩ := hrel
      clear g0 c7 c1 c2
      obtain ⟨⟨c7, c1, c2⟩, hbx, hbw⟩ := box.out _ gr
      by_cases hlt : j < l.length
      · have hji : (j : Int) < (l.length : Int) := by omega
        obtain ⟨a, rfl, _, hab, hcj⟩ := CE.out j hlt
        have IJ := Lib.hid (IH.out j hlt)
        have hd := List.drop_eq_getElem_cons hlt
        generalize l[j] = t at *
        obtain ⟨k', mn', mx', t0, t1, t2, t3, l'⟩ := t
        obtain ⟨r0, r1, r2, r3, r4, r5, r6, r7⟩ := eight hcj hab hbw
        have IJ2 : Hid (∀ w', Below w.heap.size w w' → Calls Try.prog 42 #[.agg #[.int .i64 k', .int .i64 mn', .int .i64 mx', .int .u64 t0, .int .u64 t1, .int .u64 t2, .int .u64 t3, sl j]] w' fun e w'' => e = .returned (.int .i64 (sizeR (.mk k' mn' mx' t0 t1 t2 t3 l') : Nat)) ∧ Below w'.heap.size w' w'') := IJ.out
        generalize sl j = v' at *
        clear hcj IJ
        have hp := sizeR_le (.mk k' mn' mx' t0 t1 t2 t3 l')
        have hst2 : Hid (sizeL (timesF mn mx) l 1 = if sizeR (.mk k' mn' mx' t0 t1 t2 t3 l') = 0 then 0 else sizeL (timesF mn mx) (l.drop (j + 1)) (min (acc + sizeR (.mk k' mn' mx' t0 t1 t2 t3 l') * timesF mn mx) 257)) := by
          rw [hs.out, hd, sizeL]; exact rfl
        generalize sizeR (.mk k' mn' mx' t0 t1 t2 t3 l') = p at *
        obtain ⟨b1, b2, b3, b4⟩ := hbd
        clear hd hs
        by_cases hp0 : p = 0
        · subst hp0
          have hfin : Hid (sizeL (timesF mn mx) l 1 = 0) := by rw [hst2.out]; exact rfl
          clear hst2
          go_wp2_with (go_at_call 42; (with_reducible refine (IJ2.out _ hbw).mono ?_); rintro e w1 ⟨rfl, hb1⟩; have g1 := hst.out _ _ gr hb1; obtain ⟨⟨d7, d1, d2⟩, hbx1, _⟩ := box.out _ g1)
          go_ret
          exact ⟨by rw [hfin.out]; rfl, hbx1⟩
        · have e0 : ((p : Int) == 0) = false := by simp; omega
          have hfin : Hid (sizeL (timesF mn mx) l 1 = sizeL (timesF mn mx) (l.drop (j + 1)) (min (acc + p * timesF mn mx) 257)) := by rw [hst2.out, if_neg hp0]; exact rfl
          clear hst2 hp0
          go_wp2_with (go_at_call 42; (with_reducible refine (IJ2.out _ hbw).mono ?_); rintro e w1 ⟨rfl, hb1⟩; have g1 := hst.out _ _ gr hb1; obtain ⟨⟨d7, d1, d2⟩, hbx1, _⟩ := box.out _ g1)
          have hbb : 0 ≤ mn ∧ mn ≤ 15 ∧ -1 ≤ mx ∧ mx ≤ 15 := ⟨b1, b2, b3, b4⟩
          exact ⟨⟨j + 1, _, by omega, by go_num, congrArg (Value.int .i64) (size_num acc p hbb hac hp), Nat.min_le_right _ _, g1, hfin⟩, by simp [intOf]; omega⟩
      · have hjl : j = l.length := by omega
        subst hjl
        have hfin : Hid (sizeL (timesF mn mx) l 1 = acc) := by rw [hs.out, List.drop_length, sizeL]; exact rfl
        clear hs hbd
        go_wp2
        go_ret
        exact ⟨by rw [hfin.out]; rfl, hbx⟩
theorem size_lies {ok : Nat → Prop} {w : World} {v : Value} {l : List Rx} (h : LiesL ok w v l) : ∀ (k mn mx s0 s1 s2 s3 : Int) (wx : World), Below w.heap.size w wx →
    Calls Try.prog 42 #[.agg (cellsX k mn mx s0 s1 s2 s3 v)] wx fun e w'' => e = .returned (.int .i64 (sizeR (.mk k mn mx s0 s1 s2 s3 l) : Nat)) ∧ Below wx.heap.size wx w'' := by
  induction h with
  | mk ao cap l sl few cell inner ih =>
    intro k mn mx s0 s1 s2 s3 wx hb
    refine size_step ao cap l sl cell (fun i hi w' hw' => ?_) k mn mx s0 s1 s2 s3 few wx hb
    have := ih i hi
    cases hli : l[i] with
    | mk k' mn' mx' t0 t1 t2 t3 l' =>
      rw [hli] at this
      exact this k' mn' mx' t0 t1 t2 t3 w' hw'
/-- how big an expression that lies there is -/
theorem size_any {ok : Nat → Prop} (w : World) (v : Value) (t : Rx) (h : LiesL ok w v t.list) : Calls Try.prog 42 #[.agg (t.cells v)] w fun e w' => e = .returned (.int .i64 (sizeR t : Nat)) ∧ Below w.heap.size w w' := by
  cases t with
  | mk k mn mx s0 s1 s2 s3 l => exact size_lies h k mn mx s0 s1 s2 s3 w (Below.refl _ _)
end Go.Proofs.Ytdmajbdgjjmlkaa
