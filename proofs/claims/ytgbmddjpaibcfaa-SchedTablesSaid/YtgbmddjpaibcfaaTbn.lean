/- A new table, and a clone: what the calls return. Conditions: at most 8 partitions. -/
import Derived.Test.YtgbmddjpaibcfaaTab
import Derived.Lib.AppendZeros
namespace Go.Proofs.Ytgbmddjpaibcfaa
open Go.RowKit Go.Maps
set_option linter.unusedVariables false
set_option linter.unusedSimpArgs false

theorem Try.info84 : (Try.prog.info? 84).map (fun i => (i.zero, i.size, i.bytes)) = some (some (.agg #[.bool false, .int .i64 0]), 2, 16) := by kernel_rfl
theorem ntab_no (w : World) (n : Int) (hn : n < 0 ∨ 8 < n) :
    Calls Try.prog 19 #[.int .i64 n] w fun e w' => e = .returned (.tuple #[.pointer none, .int .i64 1]) ∧ w = w' := by
  rcases hn with h | h
  · go_enter Try.func19, Try.ntmps19
    go_wp2
    go_ret2
    exact ⟨rfl, rfl⟩
  · have h2 : ¬ n < 0 := by omega
    go_enter Try.func19, Try.ntmps19
    go_wp2
    go_ret2
    exact ⟨rfl, rfl⟩
theorem flat_rep (n : Nat) : (madeCells (Value.agg #[.bool false, .int .i64 0]).cells (n * 2)).size = n * 2 ∧ ∀ j, j < n → (madeCells (Value.agg #[.bool false, .int .i64 0]).cells (n * 2))[j * 2]? = some (.bool false) ∧ (madeCells (Value.agg #[.bool false, .int .i64 0]).cells (n * 2))[j * 2 + 1]? = some (.int .i64 0) := by
  have e9 : (Value.agg #[.bool false, .int .i64 0]).cells = #[.bool false, .int .i64 0] := rfl
  unfold madeCells
  rw [e9]
  refine ⟨by simp, fun j hj => ⟨?_, ?_⟩⟩
  · rw [Array.getElem?_map, Array.getElem?_range, if_pos (by omega)]
    simp only [Option.map_some, List.size_toArray, List.length_cons, List.length_nil, Nat.zero_add]
    rw [show j * 2 % (1 + 1) = 0 by omega]; rfl
  · rw [Array.getElem?_map, Array.getElem?_range, if_pos (by omega)]
    simp only [Option.map_some, List.size_toArray, List.length_cons, List.length_nil, Nat.zero_add]
    rw [show (j * 2 + 1) % (1 + 1) = 1 by omega]; rfl
/-- what a new table's call leaves -/
def NtP (w : World) (ss : List Stt) (e : Ending) (w' : World) : Prop := ∃ p g, e = .returned (.tuple #[.pointer (some ⟨p, 0, none⟩), .int .i64 0]) ∧ IsT w' p g ss ∧ w.heap.size ≤ p ∧ w.heap.size ≤ g ∧ g < p ∧ Below w.heap.size w w'
set_option maxRecDepth 20000 in
set_option maxHeartbeats 1000000 in
theorem ntab_any (w : World) (n : Nat) (hn : n ≤ 8) : Calls Try.prog 19 #[.int .i64 (n : Int)] w (NtP w (List.replicate n s00)) := by
  obtain ⟨i0, hi, hz0, hz1, hz2⟩ := info_parts Try.info84
  obtain ⟨w2, hrun, hown, hgr⟩ := run_makeSlice_full (P := Try.prog) (w := w) w.heap.size 75 84 i0 (.agg #[.bool false, .int .i64 0]) 2 Try.underlying75 hi hz0 hz1 .i64 .i64 n (by omega) (by rw [hz2]; omega) (by unfold maxLen; omega) (Nat.le_refl _)
  have hb : Below w.heap.size w w2 := (Below.refl _ w).grown hgr (Nat.le_refl _) (fun k e => by cases e)
  have hT : IsT (w2.alloc (.cells #[.slice (some ⟨w.heap.size, 0, none⟩) n n] 77)) w2.heap.size w.heap.size (List.replicate n s00) := by
    refine ⟨_, n, by rw [List.length_replicate]; exact block_new _ _, fun hne => ?_⟩
    have h0 : 0 < n := by
      rcases Nat.eq_zero_or_pos n with e | e
      · subst e; simp at hne
      · exact e
    rcases hown.2 with ⟨e, _⟩ | ⟨g', c', cur, e, _, hg, _, _, hcs, htk⟩
    · cases e
    · injection e with e e6 e7
      injection e with e
      injection e with e _
      subst e
      refine ⟨rfl, by have := block_lt hg; omega, cur, block_alloc hg _, fun j hj => ?_⟩
      rw [List.length_replicate] at hj
      obtain ⟨f1, f2⟩ := flat_rep n
      obtain ⟨d0, d1⟩ := f2 j hj
      rw [← Array.getElem?_toList, ← htk, List.getElem?_take, if_pos (by omega), Array.getElem?_toList] at d0 d1
      have e0 : (List.replicate n s00).getD j s00 = s00 := by rw [List.getD_eq_getElem?_getD, List.getElem?_replicate]; split <;> rfl
      rw [e0]
      exact ⟨d0, d1⟩
  have hgp : w.heap.size < w2.heap.size := by
    rcases hown.2 with ⟨e, _⟩ | ⟨g', c', cur, e, _, hg, _⟩
    · cases e
    · injection e with e e6 e7
      injection e with e
      injection e with e _
      subst e
      exact block_lt hg
  have H := Lib.hid (And.intro hT (And.intro hgp (hb.alloc hb.size (.cells #[.slice (some ⟨w.heap.size, 0, none⟩) n n] 77))))
  have n1 : ¬ (n : Int) < 0 := by omega
  have n2 : ¬ (8 : Int) < (n : Int) := by omega
  clear hown hgr hb hT hgp hi hz0 hz1 hz2
  go_enter Try.func19, Try.ntmps19
  go_wp2
  go_ret2
  exact ⟨_, _, rfl, H.out.1, Nat.le_of_lt H.out.2.1, Nat.le_refl _, H.out.2.1, H.out.2.2⟩
end Go.Proofs.Ytgbmddjpaibcfaa
