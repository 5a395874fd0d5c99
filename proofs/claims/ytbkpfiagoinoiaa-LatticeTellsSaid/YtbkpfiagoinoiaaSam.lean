/- Lists of numbers and of pairs that are the same: what the document's calls return. Conditions: they lie in memory. -/
import Derived.Test.YtbkpfiagoinoiaaPai
namespace Go.Proofs.Ytbkpfiagoinoiaa
open Go.RowKit
set_option linter.unusedVariables false

/-- numbers lie from an address on -/
def LiesI (w : World) (ao : Option Addr) (l : List Nat) : Prop :=
  ∀ i, i < l.length → ∃ a, ao = some a ∧ w.cell? (a.add i) = some (.int .i64 (l.getD i 0 : Nat)) ∧ a.block < w.heap.size
theorem LiesI.below {w w' : World} {ao : Option Addr} {l : List Nat} {B : Nat} (h : LiesI w ao l) (hb : Below B w w') (hB : w.heap.size ≤ B) : LiesI w' ao l := fun i hi => by
  obtain ⟨a, h1, h2, h4⟩ := h i hi
  refine ⟨a, h1, ?_, Nat.lt_of_lt_of_le h4 hb.size⟩
  rw [hb.cell (p := a.add i) (by rw [add_block]; omega)]; exact h2
theorem cellI_len : ∀ l : List Nat, (l.map cellI).length = l.length := fun l => List.length_map ..
/-- a list of the call's own, as it lies -/
theorem own_ints {w : World} {base : Nat} {v : Value} {l : List Nat} (h : w.ownsRow base 3 1 v l.length (l.map cellI)) : ∃ ao cap, v = .slice ao l.length cap ∧ LiesI w ao l := by
  have h0 := h
  obtain ⟨_, h2⟩ := h
  rcases h2 with ⟨rfl, h2⟩ | ⟨g, cap, cur, hv, q2, q3, q4⟩
  · have : l = [] := List.length_eq_zero_iff.1 h2
    subst this
    exact ⟨none, 0, rfl, fun i hi => absurd hi (by simp)⟩
  · subst hv
    refine ⟨some ⟨g, 0, none⟩, cap, rfl, fun i hi => ⟨_, rfl, ?_, block_lt q3⟩⟩
    rw [addr_at, Nat.zero_add, World.ownsRow.cellAt h0 i (by omega)]
    simp [List.getElem?_eq_getElem hi, List.getD, cellI]
def natP (l : List (Nat × Nat)) : List (Int × Int) := l.map fun p => ((p.1 : Int), (p.2 : Int))
theorem flat2_at : ∀ (l : List (Nat × Nat)) (i : Nat), i < l.length → (l.flatMap cell2)[i * 2]? = some (cellI (l.getD i (0, 0)).1) ∧ (l.flatMap cell2)[i * 2 + 1]? = some (cellI (l.getD i (0, 0)).2)
  | [], i, h => absurd h (by simp)
  | p :: l, 0, _ => ⟨rfl, rfl⟩
  | p :: l, i + 1, h => by
    have ih := flat2_at l i (by simpa using h)
    have e : (p :: l).flatMap cell2 = cellI p.1 :: cellI p.2 :: l.flatMap cell2 := rfl
    rw [e, show (i + 1) * 2 = i * 2 + 1 + 1 by omega]
    simpa using ih
theorem own_pairs {w : World} {base : Nat} {v : Value} {l : List (Nat × Nat)} (h : w.ownsRow base 23 2 v l.length (l.flatMap cell2)) : ∃ ao cap, v = .slice ao l.length cap ∧ LiesP w ao (natP l) := by
  have h0 := h
  obtain ⟨_, h2⟩ := h
  rcases h2 with ⟨rfl, h2⟩ | ⟨g, cap, cur, hv, q2, q3, q4⟩
  · have : l = [] := List.length_eq_zero_iff.1 h2
    subst this
    exact ⟨none, 0, rfl, fun i hi => absurd hi (by simp [natP])⟩
  · subst hv
    refine ⟨some ⟨g, 0, none⟩, cap, rfl, fun i hi => ?_⟩
    have hi' : i < l.length := by simpa [natP] using hi
    have hf := flat2_at l i hi'
    have e : (natP l).getD i (0, 0) = (((l.getD i (0, 0)).1 : Int), ((l.getD i (0, 0)).2 : Int)) := by
      simp [natP, List.getD, List.getElem?_eq_getElem hi']
    refine ⟨_, rfl, ?_, ?_, block_lt q3⟩
    · rw [addr_at, Nat.zero_add, World.ownsRow.cellAt h0 _ (by omega), hf.1, e]; rfl
    · rw [addr_at, Nat.zero_add, addr_at, World.ownsRow.cellAt h0 _ (by omega), hf.2, e]; rfl

set_option maxHeartbeats 1000000 in
theorem same_any (ao1 ao2 : Option Addr) (cap1 cap2 : Nat) (l : List Nat) (w : World) (hl : l.length ≤ 1000) (h1 : LiesI w ao1 l) (h2 : LiesI w ao2 l) :
    Calls Try.prog 22 #[.slice ao1 l.length cap1, .slice ao2 l.length cap2] w fun e w' => e = .returned (.bool true) ∧ ∃ k, w' = w.drewN k := by
  obtain ⟨N, hN⟩ : ∃ N, N = l.length := ⟨_, rfl⟩
  have H1 := Lib.hid h1
  have H2 := Lib.hid h2
  rw [← hN] at hl ⊢
  have HN := Lib.hid hN
  clear h1 h2 hN
  go_enter Try.func22, Try.ntmps22
  go_wp2
  go_loopw [5] (fun i wr => ∃ k n : Nat, k ≤ N ∧ i = .int .i64 k ∧ wr = w.drewN n) (fun i _ => N - (intOf i).toNat)
  case atStart => exact ⟨0, 0, by omega, rfl, rfl⟩
  case round =>
    obtain ⟨k, n, hk, rfl, rfl⟩ := hrel
    by_cases hlt : k < N
    · have hki : (k : Int) < (N : Int) := by omega
      obtain ⟨a1, e1, c1, _⟩ := H1.out k (by rw [← HN.out]; exact hlt)
      obtain ⟨a2, e2, c2, _⟩ := H2.out k (by rw [← HN.out]; exact hlt)
      subst e1 e2
      generalize l.getD k 0 = x at *
      have d1 : (w.drewN n).cell? (a1.add k) = some (.int .i64 (x : Int)) := c1
      have d2 : (w.drewN n).cell? (a2.add k) = some (.int .i64 (x : Int)) := c2
      clear c1 c2
      generalize hW : w.drewN n = W at *
      go_wp2
      go_quiet (fail)
      have e9 : W.drewN nq = w.drewN (n + nq) := by rw [← hW, World.drewN_drewN]
      have HE := Lib.hid e9
      clear e9 hW d1 d2
      generalize W.drewN nq = w9 at *
      go_wp2
      first
        | exact ⟨⟨k + 1, n + nq, by omega, by go_num, HE.out⟩, by simp [intOf]; omega⟩
        | (refine ⟨?_, by simp [intOf]; omega⟩; repeat apply Exists.intro; exact ⟨⟨k + 1, n + nq, by omega, by go_num, HE.out⟩, rfl⟩)
    · have hkN : k = N := by omega
      subst hkN
      go_wp2
      go_ret
      exact ⟨rfl, n, rfl⟩
noncomputable def neq23 (x y : Value) : Sem Value := binOp .neq 23 x y
theorem neq23_pre (x y : Value) : binOp .neq 23 x y = neq23 x y := rfl
theorem neq23_run (a b c d : Int) (w : World) : (neq23 (.agg #[.int .i64 a, .int .i64 b]) (.agg #[.int .i64 c, .int .i64 d])).run Try.prog w = .ok (.bool (!(a == c && b == d))) w := by
  show (binOp .neq 23 (.agg #[.int .i64 a, .int .i64 b]) (.agg #[.int .i64 c, .int .i64 d])).run Try.prog w = _
  have hi : ∃ i0, Try.prog.info? 3 = some i0 := Option.isSome_iff_exists.1 (by kernel_rfl)
  obtain ⟨i0, hi⟩ := hi
  have c3 : Try.prog.cellsOf 3 = 1 := by kernel_rfl
  have hagg : (isAgg 3).run Try.prog w = .ok false w := by simp
  have e : (Op.equalIn 10000 23 (.agg #[.int .i64 a, .int .i64 b]) (.agg #[.int .i64 c, .int .i64 d])).run Try.prog w = .ok ((List.range 2).all fun i => if i = 0 then a == c else b == d) w := by
    rw [run_equalIn_array w 9999 _ _ Try.underlying23 hi, c3]
    refine items_all _ _ _ _ _ _ w _ fun i hi => ?_
    have : i = 0 ∨ i = 1 := by have := List.mem_range.1 hi; omega
    rcases this with rfl | rfl
    · exact ⟨.int .i64 a, .int .i64 c, by simp [part, hagg], by simp [part, hagg], by simpa using run_equalIn_int w 9998 3 .i64 .i64 a c Try.underlying3⟩
    · exact ⟨.int .i64 b, .int .i64 d, by simp [part, hagg], by simp [part, hagg], by simpa using run_equalIn_int w 9998 3 .i64 .i64 b d Try.underlying3⟩
  rw [run_neq_struct, e, Result.andThen_ok]
  simp [List.range, List.range.loop]
attribute [local go_sem ↓] load23_pre neq23_pre
attribute [local go_sem] load23_run rowOr_some neq23_run

set_option maxHeartbeats 1000000 in
theorem samep_any (ao1 ao2 : Option Addr) (cap1 cap2 : Nat) (l : List (Int × Int)) (w : World) (hl : l.length ≤ 140737488355328) (h1 : LiesP w ao1 l) (h2 : LiesP w ao2 l) :
    Calls Try.prog 13 #[.slice ao1 l.length cap1, .slice ao2 l.length cap2] w fun e w' => e = .returned (.bool true) ∧ ∃ k, w' = w.drewN k := by
  obtain ⟨N, hN⟩ : ∃ N, N = l.length := ⟨_, rfl⟩
  have H1 := Lib.hid h1
  have H2 := Lib.hid h2
  rw [← hN] at hl ⊢
  have HN := Lib.hid hN
  clear h1 h2 hN
  go_enter Try.func13, Try.ntmps13
  go_wp2
  go_loopw [5] (fun i wr => ∃ k n : Nat, k ≤ N ∧ i = .int .i64 k ∧ wr = w.drewN n) (fun i _ => N - (intOf i).toNat)
  case atStart => exact ⟨0, 0, by omega, rfl, rfl⟩
  case round =>
    obtain ⟨k, n, hk, rfl, rfl⟩ := hrel
    by_cases hlt : k < N
    · have hki : (k : Int) < (N : Int) := by omega
      obtain ⟨a1, e1, c1, b1, _⟩ := H1.out k (by rw [← HN.out]; exact hlt)
      obtain ⟨a2, e2, c2, b2, _⟩ := H2.out k (by rw [← HN.out]; exact hlt)
      subst e1 e2
      generalize l.getD k (0, 0) = xy at *
      obtain ⟨x, y⟩ := xy
      have d1 := pairAt_of (w := w.drewN n) c1 b1
      have d2 := pairAt_of (w := w.drewN n) c2 b2
      dsimp only at d1 d2
      clear c1 c2 b1 b2
      generalize hW : w.drewN n = W at *
      go_wp2
      have hqd : ∀ m, pairAt (W.drewN m) (a1.add (k * 2)) = some #[.int .i64 x, .int .i64 y] := fun m => d1
      have hqe : ∀ m, pairAt (W.drewN m) (a2.add (k * 2)) = some #[.int .i64 x, .int .i64 y] := fun m => d2
      go_quiet (fail)
      have e9 : W.drewN nq = w.drewN (n + nq) := by rw [← hW, World.drewN_drewN]
      have HE := Lib.hid e9
      clear e9 hW d1 d2 hqd hqe
      generalize W.drewN nq = w9 at *
      go_wp2
      first
        | exact ⟨⟨k + 1, n + nq, by omega, by go_num, HE.out⟩, by simp [intOf]; omega⟩
        | (refine ⟨?_, by simp [intOf]; omega⟩; repeat apply Exists.intro; exact ⟨⟨k + 1, n + nq, by omega, by go_num, HE.out⟩, rfl⟩)
    · have hkN : k = N := by omega
      subst hkN
      go_wp2
      go_ret
      exact ⟨rfl, n, rfl⟩
end Go.Proofs.Ytbkpfiagoinoiaa
