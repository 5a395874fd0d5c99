/- The instruction of a text. Conditions: the library's variables are as they were laid. -/
import Derived.Test.YtmclcobklcjmnaaDoorPrn
import Derived.Test.YtmclcobklcjmnaaDoorRdr
namespace Go.Proofs.YtmclcobklcjmnaaDoor
open Go.RowKit Go.Maps
set_option linter.unusedVariables false
set_option linter.unusedSimpArgs false

theorem row4 {w : World} {g : Nat} {x0 x1 x2 x3 : Value} {t : TypeId} (h : w.heap[g]? = some (.cells #[x0, x1, x2, x3] t)) : w.cell? ⟨g, 0, none⟩ = some x0 ∧ w.cell? ⟨g, 1, none⟩ = some x1 ∧ w.cell? ⟨g, 2, none⟩ = some x2 ∧ w.cell? ⟨g, 3, none⟩ = some x3 ∧ w.frozen? ⟨g, 0, none⟩ = false ∧ w.frozen? ⟨g, 1, none⟩ = false ∧ w.frozen? ⟨g, 2, none⟩ = false ∧ w.frozen? ⟨g, 3, none⟩ = false :=
  ⟨cell_of_row w g 0 _ _ _ h, cell_of_row w g 1 _ _ _ h, cell_of_row w g 2 _ _ _ h, cell_of_row w g 3 _ _ _ h, by simp [World.frozen?, h], by simp [World.frozen?, h], by simp [World.frozen?, h], by simp [World.frozen?, h]⟩
def parE (s : Bs) : Int := match parP s with | some _ => 0 | none => 92
def parV (s : Bs) : In := match parP s with | some i => i | none => zeroI
theorem par_cases (s : Bs) : (readP s = none ∧ parE s = 92 ∧ parV s = zeroI) ∨ (∃ j, readP s = some j ∧ ((okI j = true ∧ prnI j = s ∧ parE s = 0 ∧ parV s = j) ∨ ((okI j = false ∨ prnI j ≠ s) ∧ parE s = 92 ∧ parV s = zeroI))) := by
  unfold parE parV parP
  cases h : readP s with
  | none => exact .inl ⟨rfl, rfl, rfl⟩
  | some j =>
    refine .inr ⟨j, rfl, ?_⟩
    dsimp only
    by_cases hh : okI j = true ∧ prnI j = s
    · rw [if_pos hh]
      exact .inl ⟨hh.1, hh.2, rfl, rfl⟩
    · rw [if_neg hh]
      refine .inr ⟨?_, rfl, rfl⟩
      by_cases h1 : okI j = true
      · exact .inr fun h2 => hh ⟨h1, h2⟩
      · exact .inl (by simpa using h1)
set_option maxRecDepth 100000 in
set_option maxHeartbeats 4000000 in
theorem par_any (s : ByteArray) (hs : s.size ≤ 281474976710656) (w : World) (hL : LaidV w) : Calls Tryd.prog 19 #[.string s] w fun e w' => e = .returned (.tuple #[inV (parV s.data.toList), .int .i64 (parE s.data.toList)]) ∧ Below w.heap.size w w' := by
  have KR : Hid (∀ w1, Below w.heap.size w w1 → Calls Tryd.prog 42 #[.string s] w1 (RdPost (readP s.data.toList) w1)) := Lib.hid fun w1 h => read_any s hs w1 (hL.below h)
  have KP : Hid (∀ i w1, Below w.heap.size w w1 → Calls Tryd.prog 16 #[inV i] w1 fun e w' => e = .returned (.tuple #[.string (str (prnS i)), .int .i64 (ckE i)]) ∧ Below w1.heap.size w1 w') := Lib.hid fun i w1 h => prn_any i w1 (hL.below h)
  clear hL hs
  have HA : Hid (Below w.heap.size w (w.alloc (.cells #[.int .i64 0, .int .i64 0, .int .i64 0, .int .i64 0] 30))) := Lib.hid ((Below.refl _ w).alloc (Nat.le_refl _) _)
  rcases par_cases s.data.toList with ⟨h1, h2, h3⟩ | ⟨j, h1, ⟨h4, h5, h2, h3⟩ | ⟨h4, h2, h3⟩⟩
  · rw [h2, h3]
    rw [h1] at KR
    unfold inV zeroI
    dsimp only
    clear h1 h2 h3
    go_enter Tryd.func19, Tryd.ntmps19
    go_wp2_with (go_at_call 42; (with_reducible refine (KR.out _ HA.out).mono ?_); rintro e w1 ⟨⟨i, rfl, -⟩, hb⟩; obtain ⟨op, a, b, imm⟩ := i; unfold inV; dsimp only [Option.isSome]; have hz1 : w.heap.size < w1.heap.size := (by have := hb.size; simp at this; omega); have hr := (hb.block w.heap.size (by simp)).trans (heap_alloc_last w _); obtain ⟨c0, c1, c2, c3, z0, z1, z2, z3⟩ := row4 hr; have HB1 := Lib.hid (And.intro hb hr); clear hb hr)
    have hh0 := set4 HB1.out.2 (.int .i64 0) (.int .i64 0) (.int .i64 0) (.int .i64 0)
    have hh := (heap_alloc_old _ (.cells #[.int .i64 op, .int .i64 a, .int .i64 b, .int .i64 imm] 30) (block_lt hh0)).trans hh0
    exact bodyPost_ret_by (results_ct Tryd.results19 _ _ w.heap.size 30 _ (0, 0) _ _ rfl rfl hh Tryd.underlying30 rfl (by kernel_rfl)) rfl ⟨rfl, (below4 (HA.out.trans (HB1.out.1.mono (by simp))) (Nat.le_refl _) _ _ _ _).alloc (by have := block_lt hh0; omega) _⟩
  · rw [h2, h3]
    rw [h1] at KR
    have KP2 := Lib.hid (KP.out j)
    unfold prnS ckE at KP2
    rw [if_pos h4, if_pos h4, h5, str_toList] at KP2
    clear h1 h2 h3 h4 h5 KP
    unfold inV at *
    obtain ⟨op, a, b, imm⟩ := j
    dsimp only at *
    go_enter Tryd.func19, Tryd.ntmps19
    go_wp2_with (first
      | (go_at_call 42; (with_reducible refine (KR.out _ HA.out).mono ?_); rintro e w1 ⟨⟨i, rfl, hi⟩, hb⟩; obtain rfl := hi _ rfl; unfold inV; dsimp only [Option.isSome]; have hz1 : w.heap.size < w1.heap.size := (by have := hb.size; simp at this; omega); have hr := (hb.block w.heap.size (by simp)).trans (heap_alloc_last w _); have HB1 := Lib.hid (And.intro hb hr); clear hb hr)
      | (go_at_call 16; (with_reducible refine (KP2.out _ ((HA.out.trans (HB1.out.1.mono (by simp))).alloc (by omega) _)).mono ?_); rintro e w2 ⟨rfl, hb⟩; have hk1 := (hb.block w1.heap.size (by simp)).trans (heap_alloc_last w1 _); have hk2 := (hb.block w.heap.size (by simp; omega)).trans ((heap_alloc_old _ _ hz1).trans HB1.out.2); obtain ⟨d0, d1, d2, d3, -, -, -, -⟩ := row4 hk1; obtain ⟨c0, c1, c2, c3, z0, z1, z2, z3⟩ := row4 hk2; have HB2 := Lib.hid (And.intro hb hk2); clear hb hk1 hk2))
    have hh := set4 HB2.out.2 (.int .i64 op) (.int .i64 a) (.int .i64 b) (.int .i64 imm)
    exact bodyPost_ret_by (results_ct Tryd.results19 _ _ w.heap.size 30 _ (0, 0) _ _ rfl rfl hh Tryd.underlying30 rfl (by kernel_rfl)) rfl ⟨rfl, below4 (((HA.out.trans (HB1.out.1.mono (by simp))).alloc (by omega) _).trans (HB2.out.1.mono (by simp; omega))) (Nat.le_refl _) _ _ _ _⟩
  · rw [h2, h3]
    rw [h1] at KR
    have KP2 := Lib.hid (KP.out j)
    have hcase : (ckE j = 90) ∨ (ckE j = 0 ∧ ((str (prnS j)).toList == s.toList) = false) := by
      unfold ckE prnS
      rcases h4 with h | h
      · exact .inl (by rw [h]; rfl)
      · by_cases h6 : okI j = true
        · refine .inr ⟨by rw [if_pos h6], ?_⟩
          rw [if_pos h6, ByteArray.toList_eq, ByteArray.toList_eq, str_list]
          simpa using h
        · exact .inl (by rw [if_neg h6])
    generalize prnS j = pj at *
    generalize str pj = sp at *
    generalize ckE j = cj at *
    clear h1 h2 h3 h4 KP
    unfold zeroI
    unfold inV at *
    obtain ⟨op, a, b, imm⟩ := j
    dsimp only at *
    rcases hcase with rfl | ⟨rfl, hq⟩
    all_goals
      go_enter Tryd.func19, Tryd.ntmps19
      go_wp2_with (first
        | (go_at_call 42; (with_reducible refine (KR.out _ HA.out).mono ?_); rintro e w1 ⟨⟨i, rfl, hi⟩, hb⟩; obtain rfl := hi _ rfl; unfold inV; dsimp only [Option.isSome]; have hz1 : w.heap.size < w1.heap.size := (by have := hb.size; simp at this; omega); have hr := (hb.block w.heap.size (by simp)).trans (heap_alloc_last w _); have HB1 := Lib.hid (And.intro hb hr); clear hb hr)
        | (go_at_call 16; (with_reducible refine (KP2.out _ ((HA.out.trans (HB1.out.1.mono (by simp))).alloc (by omega) _)).mono ?_); rintro e w2 ⟨rfl, hb⟩; have hk1 := (hb.block w1.heap.size (by simp)).trans (heap_alloc_last w1 _); have hk2 := (hb.block w.heap.size (by simp; omega)).trans ((heap_alloc_old _ _ hz1).trans HB1.out.2); obtain ⟨d0, d1, d2, d3, -, -, -, -⟩ := row4 hk1; obtain ⟨c0, c1, c2, c3, z0, z1, z2, z3⟩ := row4 hk2; have HB2 := Lib.hid (And.intro hb hk2); clear hb hk1 hk2))
      have hh := set4 HB2.out.2 (.int .i64 0) (.int .i64 0) (.int .i64 0) (.int .i64 0)
      exact bodyPost_ret_by (results_ct Tryd.results19 _ _ w.heap.size 30 _ (0, 0) _ _ rfl rfl hh Tryd.underlying30 rfl (by kernel_rfl)) rfl ⟨rfl, below4 (((HA.out.trans (HB1.out.1.mono (by simp))).alloc (by omega) _).trans (HB2.out.1.mono (by simp; omega))) (Nat.le_refl _) _ _ _ _⟩
end Go.Proofs.YtmclcobklcjmnaaDoor
