/- The calls whose answers the document fixes: they answer so. No conditions. -/
import Derived.Test.YtbkpfiagoinoiaaCon
namespace Go.Proofs.Ytbkpfiagoinoiaa
open Go.RowKit
set_option linter.unusedVariables false
attribute [local go_sem ↓] load47_pre store47_pre load49_pre store49_pre eql47_pre load23_pre neq49_pre neq23_pre
attribute [local go_sem] load47_run store47_run load49_run store49_run rowOr_some putOr_true heap_drew eql47_run tellOr_true load23_run neq49_run neq23_run

def flatP (ps : List (Int × Int)) : List Value := ps.flatMap fun p => [.int .i64 p.1, .int .i64 p.2]
theorem flatP_at : ∀ (l : List (Int × Int)) (i : Nat), i < l.length → (flatP l)[i * 2]? = some (.int .i64 (l.getD i (0, 0)).1) ∧ (flatP l)[i * 2 + 1]? = some (.int .i64 (l.getD i (0, 0)).2)
  | [], i, h => absurd h (by simp)
  | p :: l, 0, _ => ⟨rfl, rfl⟩
  | p :: l, i + 1, h => by
    have ih := flatP_at l i (by simpa using h)
    have e : flatP (p :: l) = .int .i64 p.1 :: .int .i64 p.2 :: flatP l := rfl
    rw [e, show (i + 1) * 2 = i * 2 + 1 + 1 by omega]
    simpa using ih
theorem lies_block {w : World} {N : Nat} {ps : List (Int × Int)} {t : TypeId} {fr : Nat × Nat} (h : w.heap[N]? = some (.cells (flatP ps).toArray t fr)) : LiesP w (some ⟨N, 0, none⟩) ps := fun i hi => by
  have hf := flatP_at ps i hi
  refine ⟨_, rfl, ?_, ?_, block_lt h⟩
  · rw [addr_at, Nat.zero_add, cell_of_row w N _ _ _ _ h, List.getElem?_toArray, hf.1]
  · rw [addr_at, Nat.zero_add, addr_at, cell_of_row w N _ _ _ _ h, List.getElem?_toArray, hf.2]
theorem new_ok {n : Nat} {ps : List (Int × Int)} {G : Flw} {ao : Option Addr} {cap : Nat} {w : World} (he : newE n ps = 0) (hG : Alike (newG ps) G) (hP : LiesP w ao ps) :
    Calls Try.prog 10 #[.int .i64 (n : Int), .slice ao ps.length cap] w fun e w' => ∃ b, w.heap.size ≤ b ∧ e = .returned (.tuple #[.pointer (some ⟨b, 0, none⟩), .int .i64 0]) ∧ IsL w' b n G ∧ Below w.heap.size w w' := by
  have h := newE_ok he
  refine (new_main n ao cap ps w h.2.2.1 (by omega) (by omega) hP).mono fun e w' hp => ?_
  obtain ⟨hb, h1 | h1⟩ := hp
  · obtain ⟨_, b, hbb, q, hl⟩ := h1
    exact ⟨b, hbb, q, isL_same hG (by simpa using hl), hb⟩
  · exact absurd he h1.1
theorem new_no {n : Int} {ps : List (Int × Int)} {c : Int} {ao : Option Addr} {cap : Nat} {w : World} (he : newE n ps = c) (hc : c ≠ 0) (hl : ps.length ≤ 140737488355328) (hP : LiesP w ao ps) :
    Calls Try.prog 10 #[.int .i64 n, .slice ao ps.length cap] w fun e w' => e = .returned (.tuple #[.pointer none, .int .i64 c]) ∧ Below w.heap.size w w' := by
  have fin : ∀ e w', NewPost n ps w e w' → e = .returned (.tuple #[.pointer none, .int .i64 c]) ∧ Below w.heap.size w w' := fun e w' hp => by
    obtain ⟨hb, h1 | h1⟩ := hp
    · exact absurd (he.symm.trans h1.1) hc
    · exact ⟨by rw [← he]; exact h1.2, hb⟩
  by_cases h : n < 1 ∨ 8 < n ∨ 64 < ps.length
  · exact (new_size n ao cap ps w hl h).mono fin
  · obtain ⟨m, rfl⟩ : ∃ m : Nat, n = (m : Int) := ⟨n.toNat, by omega⟩
    exact (new_main m ao cap ps w (by omega) (by omega) (by omega) hP).mono fin

theorem n1 (w : World) : Calls Try.prog 10 #[.int .i64 4, .slice (some ⟨w.heap.size, 0, none⟩) 5 5] (w.alloc (.cells #[.int .i64 0, .int .i64 1, .int .i64 0, .int .i64 2, .int .i64 1, .int .i64 3, .int .i64 2, .int .i64 3, .int .i64 0, .int .i64 3] 23)) fun e w' => ∃ b, w.heap.size ≤ b ∧ e = .returned (.tuple #[.pointer (some ⟨b, 0, none⟩), .int .i64 0]) ∧ IsL w' b 4 dia ∧ Below w.heap.size w w' :=
  (new_ok (n := 4) (ps := ps1) (cap := 5) e1 dia_is (lies_block (ps := ps1) (block_new w _))).mono fun e w' ⟨b, h1, h2, h3, h4⟩ => ⟨b, by simp at h1; omega, h2, h3, ((Below.refl _ w).alloc (Nat.le_refl _) _).trans (h4.mono (by simp))⟩
theorem n2 (w : World) : Calls Try.prog 10 #[.int .i64 0, .slice none 0 0] w fun e w' => e = .returned (.tuple #[.pointer none, .int .i64 40]) ∧ Below w.heap.size w w' :=
  new_no (n := 0) (ps := []) e2 (by decide) (by decide) (LiesP.nil _ _)
theorem n3 (w : World) : Calls Try.prog 10 #[.int .i64 2, .slice (some ⟨w.heap.size, 0, none⟩) 1 1] (w.alloc (.cells #[.int .i64 0, .int .i64 2] 23)) fun e w' => e = .returned (.tuple #[.pointer none, .int .i64 41]) ∧ Below w.heap.size w w' :=
  (new_no (n := 2) (ps := ps3) (cap := 1) e3 (by decide) (by decide) (lies_block (ps := ps3) (block_new w _))).mono fun e w' ⟨h1, h4⟩ => ⟨h1, ((Below.refl _ w).alloc (Nat.le_refl _) _).trans (h4.mono (by simp))⟩
theorem n4 (w : World) : Calls Try.prog 10 #[.int .i64 2, .slice (some ⟨w.heap.size, 0, none⟩) 2 2] (w.alloc (.cells #[.int .i64 0, .int .i64 1, .int .i64 1, .int .i64 0] 23)) fun e w' => e = .returned (.tuple #[.pointer none, .int .i64 42]) ∧ Below w.heap.size w w' :=
  (new_no (n := 2) (ps := ps4) (cap := 2) e4 (by decide) (by decide) (lies_block (ps := ps4) (block_new w _))).mono fun e w' ⟨h1, h4⟩ => ⟨h1, ((Below.refl _ w).alloc (Nat.le_refl _) _).trans (h4.mono (by simp))⟩
theorem n5 (w : World) : Calls Try.prog 10 #[.int .i64 2, .slice none 0 0] w fun e w' => e = .returned (.tuple #[.pointer none, .int .i64 43]) ∧ Below w.heap.size w w' :=
  new_no (n := 2) (ps := []) e5 (by decide) (by decide) (LiesP.nil _ _)
theorem j1 (b : Nat) (w : World) (h : IsL w b 4 dia) : Calls Try.prog 16 #[.pointer (some ⟨b, 0, none⟩), .int .i64 1, .int .i64 2] w fun e w' => e = .returned (.int .i64 3) ∧ Below w.heap.size w w' := by
  have := join_any b 4 dia 1 2 w (by decide) h
  rwa [dia_join] at this
theorem j2 (b : Nat) (w : World) (h : IsL w b 4 dia) : Calls Try.prog 18 #[.pointer (some ⟨b, 0, none⟩), .int .i64 1, .int .i64 2] w fun e w' => e = .returned (.int .i64 0) ∧ Below w.heap.size w w' := by
  have := meet_any b 4 dia 1 2 w (by decide) h
  rwa [dia_meet] at this
theorem j3 (b : Nat) (w : World) (h : IsL w b 4 dia) : Calls Try.prog 16 #[.pointer (some ⟨b, 0, none⟩), .int .i64 1, .int .i64 9] w fun e w' => e = .returned (.int .i64 (-1)) ∧ Below w.heap.size w w' := by
  have := join_any b 4 dia 1 9 w (by decide) h
  rwa [dia_none] at this
theorem t1 (b : Nat) (w : World) (h : IsL w b 4 dia) : Calls Try.prog 26 #[.pointer (some ⟨b, 0, none⟩)] w fun e w' => e = .returned (.int .i64 3) ∧ Below w.heap.size w w' := by
  have := top_any b 4 dia w (by decide) h
  rwa [dia_top] at this
theorem t2 (b : Nat) (w : World) (h : IsL w b 4 dia) : Calls Try.prog 28 #[.pointer (some ⟨b, 0, none⟩)] w fun e w' => e = .returned (.int .i64 0) ∧ Below w.heap.size w w' := by
  have := bottom_any b 4 dia w (by decide) h
  rwa [dia_bottom] at this
theorem f1 (b : Nat) (w : World) (h : IsL w b 4 dia) : Calls Try.prog 14 #[.pointer (some ⟨b, 0, none⟩), .int .i64 0, .int .i64 3] w fun e w' => e = .returned (.bool true) ∧ w = w' := by
  have := flows_any b 4 dia 0 3 w (by decide) h
  rwa [dia_flows] at this
theorem f2 (b : Nat) (w : World) (h : IsL w b 4 dia) : Calls Try.prog 14 #[.pointer (some ⟨b, 0, none⟩), .int .i64 1, .int .i64 2] w fun e w' => e = .returned (.bool false) ∧ w = w' := by
  have := flows_any b 4 dia 1 2 w (by decide) h
  rwa [dia_not] at this
theorem l1 (b : Nat) (w : World) (h : IsL w b 4 dia) : Calls Try.prog 25 #[.pointer (some ⟨b, 0, none⟩)] w fun e w' => e = .returned (.int .i64 4) ∧ w = w' := levels_any b 4 dia w h
theorem a1 (b : Nat) (w : World) (h : IsL w b 4 dia) : Calls Try.prog 20 #[.pointer (some ⟨b, 0, none⟩), .int .i64 1] w fun e w' => ∃ ao cap, e = .returned (.slice ao 2 cap) ∧ LiesI w' ao [1, 3] ∧ Below w.heap.size w w' := by
  refine (above_any b 4 dia 1 w (by decide) h).mono fun e w' ⟨v, h1, h2, h3⟩ => ?_
  rw [dia_above] at h2
  obtain ⟨ao, cap, rfl, hl⟩ := own_ints h2
  exact ⟨ao, cap, h1, hl, h3⟩
theorem p1 (b : Nat) (w : World) (h : IsL w b 4 dia) : Calls Try.prog 30 #[.pointer (some ⟨b, 0, none⟩)] w fun e w' => ∃ ao cap, e = .returned (.slice ao 4 cap) ∧ LiesP w' ao [(0, 1), (0, 2), (1, 3), (2, 3)] ∧ Below w.heap.size w w' := by
  refine (pairs_any b 4 dia w (by decide) h).mono fun e w' ⟨v, h1, h2, h3⟩ => ?_
  rw [dia_pairs] at h2
  obtain ⟨ao, cap, rfl, hl⟩ := own_pairs h2
  exact ⟨ao, cap, h1, hl, h3⟩
theorem lies_ints {w : World} {N : Nat} {l : List Nat} {t : TypeId} {fr : Nat × Nat} (h : w.heap[N]? = some (.cells (l.map cellI).toArray t fr)) : LiesI w (some ⟨N, 0, none⟩) l := fun i hi => by
  refine ⟨_, rfl, ?_, block_lt h⟩
  rw [addr_at, Nat.zero_add, cell_of_row w N _ _ _ _ h, List.getElem?_toArray]
  simp [List.getD, List.getElem?_eq_getElem hi, cellI]
theorem s1 (ao : Option Addr) (cap : Nat) (w : World) (h : LiesI w ao [1, 3]) : Calls Try.prog 22 #[.slice ao 2 cap, .slice (some ⟨w.heap.size, 0, none⟩) 2 2] (w.alloc (.cells #[.int .i64 1, .int .i64 3] 3)) fun e w' => e = .returned (.bool true) ∧ Below w.heap.size w w' :=
  (same_any ao (some ⟨w.heap.size, 0, none⟩) cap 2 [1, 3] _ (by decide) (h.below ((Below.refl w.heap.size w).alloc (Nat.le_refl _) _) (Nat.le_refl _)) (lies_ints (l := [1, 3]) (block_new w _))).mono fun e w' ⟨h1, k, h2⟩ =>
    ⟨h1, by rw [h2]; exact below_drewN ((Below.refl w.heap.size w).alloc (Nat.le_refl _) _) k⟩
theorem s2 (ao : Option Addr) (cap : Nat) (w : World) (h : LiesP w ao [(0, 1), (0, 2), (1, 3), (2, 3)]) : Calls Try.prog 13 #[.slice ao 4 cap, .slice (some ⟨w.heap.size, 0, none⟩) 4 4] (w.alloc (.cells #[.int .i64 0, .int .i64 1, .int .i64 0, .int .i64 2, .int .i64 1, .int .i64 3, .int .i64 2, .int .i64 3] 23)) fun e w' => e = .returned (.bool true) ∧ Below w.heap.size w w' :=
  (samep_any ao (some ⟨w.heap.size, 0, none⟩) cap 4 [(0, 1), (0, 2), (1, 3), (2, 3)] _ (by decide) (h.below ((Below.refl w.heap.size w).alloc (Nat.le_refl _) _) (Nat.le_refl _)) (lies_block (ps := [(0, 1), (0, 2), (1, 3), (2, 3)]) (block_new w _))).mono fun e w' ⟨h1, k, h2⟩ =>
    ⟨h1, by rw [h2]; exact below_drewN ((Below.refl w.heap.size w).alloc (Nat.le_refl _) _) k⟩

set_option maxRecDepth 100000 in
set_option maxHeartbeats 4000000 in
theorem fixed_any (w : World) : Calls Try.prog 12 #[] w fun e w' => e = .returned (.bool true) ∧ Below w.heap.size w w' := by
  have B0 := Below.refl w.heap.size w
  go_enter Try.func12, Try.ntmps12
  go_wp2_with fail
  (with_reducible refine (n1 _).mono ?_)
  rintro e w1 ⟨b, hb, rfl, L1, b1⟩
  have B1 := below_trans B0 b1
  have lt1 := L1.lt
  go_wp2_with fail
  (with_reducible refine (n2 _).mono ?_)
  rintro e w2 ⟨rfl, b2⟩
  have B2 := below_trans B1 b2
  have L2 := L1.below b2 lt1
  have lt2 := L2.lt
  go_wp2_with fail
  (with_reducible refine (n3 _).mono ?_)
  rintro e w3 ⟨rfl, b3⟩
  have B3 := below_trans B2 b3
  have L3 := L2.below b3 lt2
  have lt3 := L3.lt
  go_wp2_with fail
  (with_reducible refine (n4 _).mono ?_)
  rintro e w4 ⟨rfl, b4⟩
  have B4 := below_trans B3 b4
  have L4 := L3.below b4 lt3
  have lt4 := L4.lt
  go_wp2_with fail
  (with_reducible refine (n5 _).mono ?_)
  rintro e w5 ⟨rfl, b5⟩
  have B5 := below_trans B4 b5
  have L5 := L4.below b5 lt4
  have lt5 := L5.lt
  go_wp2_with fail
  (with_reducible refine (j1 _ _ L5).mono ?_)
  rintro e w6 ⟨rfl, b6⟩
  have B6 := below_trans B5 b6
  have L6 := L5.below b6 lt5
  have lt6 := L6.lt
  clear L1 L2 L3 L4 L5 b1 b2 b3 b4 b5 B1 B2 B3 B4 B5 b6
  go_wp2_with fail
  (with_reducible refine (j2 _ _ L6).mono ?_)
  rintro e w7 ⟨rfl, b7⟩
  have B7 := below_trans B6 b7
  have L7 := L6.below b7 lt6
  have lt7 := L7.lt
  go_wp2_with fail
  (with_reducible refine (j3 _ _ L7).mono ?_)
  rintro e w8 ⟨rfl, b8⟩
  have B8 := below_trans B7 b8
  have L8 := L7.below b8 lt7
  have lt8 := L8.lt
  go_wp2_with fail
  (with_reducible refine (t1 _ _ L8).mono ?_)
  rintro e w9 ⟨rfl, b9⟩
  have B9 := below_trans B8 b9
  have L9 := L8.below b9 lt8
  have lt9 := L9.lt
  go_wp2_with fail
  (with_reducible refine (t2 _ _ L9).mono ?_)
  rintro e w10 ⟨rfl, b10⟩
  have B10 := below_trans B9 b10
  have L10 := L9.below b10 lt9
  have lt10 := L10.lt
  clear L6 L7 L8 L9 b7 b8 b9 b10 B6 B7 B8 B9
  go_wp2_with fail
  (with_reducible refine (f1 _ _ L10).mono ?_)
  rintro e w' ⟨rfl, rfl⟩
  go_wp2_with fail
  (with_reducible refine (f2 _ _ L10).mono ?_)
  rintro e w' ⟨rfl, rfl⟩
  go_wp2_with fail
  (with_reducible refine (l1 _ _ L10).mono ?_)
  rintro e w' ⟨rfl, rfl⟩
  go_wp2_with fail
  (with_reducible refine (a1 _ _ L10).mono ?_)
  rintro e w11 ⟨ao1, cap1, rfl, hi1, b11⟩
  have B11 := below_trans B10 b11
  have L11 := L10.below b11 lt10
  have lt11 := L11.lt
  go_wp2_with fail
  (with_reducible refine (s1 _ _ _ hi1).mono ?_)
  rintro e w12 ⟨rfl, b12⟩
  have B12 := below_trans B11 b12
  have L12 := L11.below b12 lt11
  have lt12 := L12.lt
  go_wp2_with fail
  (with_reducible refine (p1 _ _ L12).mono ?_)
  rintro e w13 ⟨ao2, cap2, rfl, hi2, b13⟩
  have B13 := below_trans B12 b13
  go_wp2_with fail
  (with_reducible refine (s2 _ _ _ hi2).mono ?_)
  rintro e w14 ⟨rfl, b14⟩
  have B14 := below_trans B13 b14
  go_wp2_with fail
  go_ret
  exact ⟨rfl, B14⟩
end Go.Proofs.Ytbkpfiagoinoiaa
