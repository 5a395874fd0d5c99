/- The document's table, and what its calls return. Conditions: at most 8 partitions, numbers that a machine holds. -/
import Derived.Test.YtgbmddjpaibcfaaTbn
namespace Go.Proofs.Ytgbmddjpaibcfaa
open Go.RowKit Go.Maps
set_option linter.unusedVariables false
set_option linter.unusedSimpArgs false

/-- the document's table at q, its rows r and s -/
structure IsR (w : World) (q r s : Nat) (ss : List Stt) : Prop where
  blk : ∃ c1 c2, w.heap[q]? = some (.cells #[.slice (some ⟨r, 0, none⟩) ss.length c1, .slice (some ⟨s, 0, none⟩) ss.length c2] 81 (0, 0))
  run : ∃ cur : Array Value, w.heap[r]? = some (.cells cur 4 (0, 0)) ∧ ∀ j, j < ss.length → cur[j]? = some (.bool (ss.getD j s00).1)
  sta : ∃ cur : Array Value, w.heap[s]? = some (.cells cur 3 (0, 0)) ∧ ∀ j, j < ss.length → cur[j]? = some (.int .i64 ((ss.getD j s00).2 : Int))
theorem IsR.of_heap {w w' : World} {q r s : Nat} {ss : List Stt} (h : IsR w q r s ss) (e1 : w'.heap[q]? = w.heap[q]?) (e2 : w'.heap[r]? = w.heap[r]?) (e3 : w'.heap[s]? = w.heap[s]?) : IsR w' q r s ss :=
  ⟨by rw [e1]; exact h.blk, by rw [e2]; exact h.run, by rw [e3]; exact h.sta⟩
theorem IsR.lt {w : World} {q r s : Nat} {ss : List Stt} (h : IsR w q r s ss) : q < w.heap.size ∧ r < w.heap.size ∧ s < w.heap.size := by
  obtain ⟨_, _, a⟩ := h.blk
  obtain ⟨_, b, _⟩ := h.run
  obtain ⟨_, c, _⟩ := h.sta
  exact ⟨block_lt a, block_lt b, block_lt c⟩
theorem IsR.below {w w' : World} {q r s : Nat} {ss : List Stt} (h : IsR w q r s ss) (hb : Below w.heap.size w w') : IsR w' q r s ss := h.of_heap (hb.block _ h.lt.1) (hb.block _ h.lt.2.1) (hb.block _ h.lt.2.2)
theorem IsR.ne {w : World} {q r s : Nat} {ss : List Stt} (h : IsR w q r s ss) : q ≠ r ∧ q ≠ s ∧ r ≠ s := by
  obtain ⟨_, _, a⟩ := h.blk
  obtain ⟨_, b, _⟩ := h.run
  obtain ⟨_, c, _⟩ := h.sta
  refine ⟨fun e => ?_, fun e => ?_, fun e => ?_⟩
  · subst e; rw [a] at b; cases b
  · subst e; rw [a] at c; cases c
  · subst e; rw [b] at c; cases c
theorem IsR.setB {w : World} {q r s : Nat} {ss : List Stt} (h : IsR w q r s ss) {i : Nat} (hi : i < ss.length) (b : Bool) : IsR (w.setCell ⟨r, i, none⟩ (.bool b)) q r s (ss.set i (b, (ss.getD i s00).2)) := by
  obtain ⟨n1, n2, n3⟩ := h.ne
  obtain ⟨c1, c2, a⟩ := h.blk
  obtain ⟨cur, b1, b2⟩ := h.run
  obtain ⟨cur2, d1, d2⟩ := h.sta
  refine ⟨⟨c1, c2, by rw [block_setCell_other n1, List.length_set]; exact a⟩, ⟨_, block_setCell b1, fun j hj => ?_⟩, ⟨cur2, by rw [block_setCell_other (Ne.symm n3)]; exact d1, fun j hj => ?_⟩⟩
  · rw [List.length_set] at hj
    have hlt := (Array.getElem?_eq_some_iff.1 (b2 j hj)).1
    rw [getD_set _ _ _ _ hi, Array.getElem?_setIfInBounds]
    by_cases e : i = j
    · subst e; rw [if_pos rfl, if_pos hlt, if_pos rfl]
    · rw [if_neg e, if_neg e]; exact b2 j hj
  · rw [List.length_set] at hj
    rw [getD_set _ _ _ _ hi, d2 j hj]
    by_cases e : i = j
    · subst e; rw [if_pos rfl]
    · rw [if_neg e]
theorem IsR.setN {w : World} {q r s : Nat} {ss : List Stt} (h : IsR w q r s ss) {i : Nat} (hi : i < ss.length) (n : Nat) : IsR (w.setCell ⟨s, i, none⟩ (.int .i64 (n : Int))) q r s (ss.set i ((ss.getD i s00).1, n)) := by
  obtain ⟨n1, n2, n3⟩ := h.ne
  obtain ⟨c1, c2, a⟩ := h.blk
  obtain ⟨cur, b1, b2⟩ := h.run
  obtain ⟨cur2, d1, d2⟩ := h.sta
  refine ⟨⟨c1, c2, by rw [block_setCell_other n2, List.length_set]; exact a⟩, ⟨cur, by rw [block_setCell_other n3]; exact b1, fun j hj => ?_⟩, ⟨_, block_setCell d1, fun j hj => ?_⟩⟩
  · rw [List.length_set] at hj
    rw [getD_set _ _ _ _ hi, b2 j hj]
    by_cases e : i = j
    · subst e; rw [if_pos rfl]
    · rw [if_neg e]
  · rw [List.length_set] at hj
    have hlt := (Array.getElem?_eq_some_iff.1 (d2 j hj)).1
    rw [getD_set _ _ _ _ hi, Array.getElem?_setIfInBounds]
    by_cases e : i = j
    · subst e; rw [if_pos rfl, if_pos hlt, if_pos rfl]
    · rw [if_neg e, if_neg e]; exact d2 j hj
theorem IsR.cells {w : World} {q r s : Nat} {ss : List Stt} (h : IsR w q r s ss) : ∃ c1 c2, w.cell? ⟨q, 0, none⟩ = some (.slice (some ⟨r, 0, none⟩) ss.length c1) ∧ w.cell? ⟨q, 1, none⟩ = some (.slice (some ⟨s, 0, none⟩) ss.length c2) := by
  obtain ⟨c1, c2, a⟩ := h.blk
  exact ⟨c1, c2, by rw [cell_of_row _ _ _ _ _ _ a]; rfl, by rw [cell_of_row _ _ _ _ _ _ a]; rfl⟩
theorem IsR.at {w : World} {q r s : Nat} {ss : List Stt} (h : IsR w q r s ss) {i : Nat} (hi : i < ss.length) : w.cell? ⟨r, i, none⟩ = some (.bool (ss.getD i s00).1) ∧ w.cell? ⟨s, i, none⟩ = some (.int .i64 ((ss.getD i s00).2 : Int)) ∧ w.frozen? ⟨r, i, none⟩ = false ∧ w.frozen? ⟨s, i, none⟩ = false := by
  obtain ⟨cur, b1, b2⟩ := h.run
  obtain ⟨cur2, d1, d2⟩ := h.sta
  exact ⟨by rw [cell_of_row _ _ _ _ _ _ b1]; exact b2 i hi, by rw [cell_of_row _ _ _ _ _ _ d1]; exact d2 i hi, block_free b1, block_free d1⟩
set_option maxHeartbeats 1000000 in
theorem rhas_any (w : World) (q r s : Nat) (ss : List Stt) (h : IsR w q r s ss) (i : Int) :
    Calls Try.prog 42 #[.pointer (some ⟨q, 0, none⟩), .int .i64 i] w fun e w' => e = .returned (.bool (hasI ss i)) ∧ w = w' := by
  obtain ⟨c1, c2, c0, _⟩ := h.cells
  unfold hasI
  generalize ss.length = n at *
  clear h
  by_cases a : 0 ≤ i
  · by_cases b : i < (n : Int)
    · rw [decide_eq_true (show 0 ≤ i ∧ i < (n : Int) from ⟨a, b⟩)]
      go_enter Try.func42, Try.ntmps42
      go_wp2
      go_ret
      exact ⟨by simp, rfl⟩
    · rw [decide_eq_false (fun q : 0 ≤ i ∧ i < (n : Int) => b q.2)]
      go_enter Try.func42, Try.ntmps42
      go_wp2
      go_ret
      exact ⟨ret_bool (by first | rfl | simp; omega), rfl⟩
  · rw [decide_eq_false (fun q : 0 ≤ i ∧ i < (n : Int) => a q.1)]
    go_enter Try.func42, Try.ntmps42
    go_wp2
    go_ret
    exact ⟨by first | rfl | simp, rfl⟩
set_option maxHeartbeats 1000000 in
theorem rruns_any (w : World) (q r s : Nat) (ss : List Stt) (h : IsR w q r s ss) (i : Int) :
    Calls Try.prog 29 #[.pointer (some ⟨q, 0, none⟩), .int .i64 i] w fun e w' => e = .returned (.bool (runV ss i)) ∧ w = w' := by
  have k := rhas_any w q r s ss h i
  unfold runV
  cases hh : hasI ss i with
  | false =>
    rw [hh] at k
    rw [Bool.false_and]
    clear h hh
    go_enter Try.func29, Try.ntmps29
    go_wp2_with (go_at_call 42; refine k.mono ?_; rintro e _ ⟨rfl, rfl⟩)
    go_ret
    exact ⟨rfl, rfl⟩
  | true =>
    rw [hh] at k
    rw [Bool.true_and]
    obtain ⟨n, rfl, hn⟩ := hasI_nat hh
    obtain ⟨c1, c2, c0, _⟩ := h.cells
    obtain ⟨d1, _, _, _⟩ := h.at hn
    have nI : (n : Int) < (ss.length : Int) := by omega
    rw [show ((n : Int)).toNat = n from rfl]
    generalize (ss.getD n s00).1 = b at *
    generalize ss.length = N at *
    clear h hh hn
    go_enter Try.func29, Try.ntmps29
    go_wp2_with (go_at_call 42; refine k.mono ?_; rintro e _ ⟨rfl, rfl⟩)
    go_ret
    exact ⟨rfl, rfl⟩
set_option maxHeartbeats 1000000 in
theorem rstarts_any (w : World) (q r s : Nat) (ss : List Stt) (h : IsR w q r s ss) (i : Int) :
    Calls Try.prog 31 #[.pointer (some ⟨q, 0, none⟩), .int .i64 i] w fun e w' => e = .returned (.int .i64 (staV ss i)) ∧ w = w' := by
  have k := rhas_any w q r s ss h i
  unfold staV
  cases hh : hasI ss i with
  | false =>
    rw [hh] at k
    rw [if_neg (by simp)]
    clear h hh
    go_enter Try.func31, Try.ntmps31
    go_wp2_with (go_at_call 42; refine k.mono ?_; rintro e _ ⟨rfl, rfl⟩)
    go_ret
    exact ⟨rfl, rfl⟩
  | true =>
    rw [hh] at k
    rw [if_pos rfl]
    obtain ⟨n, rfl, hn⟩ := hasI_nat hh
    obtain ⟨c1, c2, _, c0⟩ := h.cells
    obtain ⟨_, d1, _, _⟩ := h.at hn
    have nI : (n : Int) < (ss.length : Int) := by omega
    rw [show ((n : Int)).toNat = n from rfl]
    generalize ((ss.getD n s00).2 : Int) = b at *
    generalize ss.length = N at *
    clear h hh hn
    go_enter Try.func31, Try.ntmps31
    go_wp2_with (go_at_call 42; refine k.mono ?_; rintro e _ ⟨rfl, rfl⟩)
    go_ret
    exact ⟨rfl, rfl⟩
def onR (r s : Nat) : Nat → Prop := fun k => k = r ∨ k = s
set_option maxHeartbeats 1000000 in
theorem rtrap_any (w : World) (q r s : Nat) (ss : List Stt) (h : IsR w q r s ss) (i : Int) :
    Calls Try.prog 25 #[.pointer (some ⟨q, 0, none⟩), .int .i64 i] w fun e w' => e = .returned (.int .i64 (hasE ss i)) ∧ IsR w' q r s (trpS ss i) ∧ Ch (onR r s) w w' := by
  have k := rhas_any w q r s ss h i
  unfold hasE trpS
  cases hh : hasI ss i with
  | false =>
    rw [hh] at k
    rw [if_neg (by simp), if_neg (by simp)]
    have H := Lib.hid h
    clear h hh
    go_enter Try.func25, Try.ntmps25
    go_wp2_with (go_at_call 42; refine k.mono ?_; rintro e _ ⟨rfl, rfl⟩)
    go_ret
    exact ⟨rfl, H.out, Ch.refl _ _⟩
  | true =>
    rw [hh] at k
    rw [if_pos rfl, if_pos rfl]
    obtain ⟨n, rfl, hn⟩ := hasI_nat hh
    obtain ⟨c1, c2, c0, _⟩ := h.cells
    obtain ⟨d1, _, f1, _⟩ := h.at hn
    have nI : (n : Int) < (ss.length : Int) := by omega
    have H := Lib.hid (h.setB hn false)
    rw [show ((n : Int)).toNat = n from rfl]
    clear h hh hn
    generalize (ss.getD n s00).1 = b at *
    go_enter Try.func25, Try.ntmps25
    go_wp2_with (go_at_call 42; refine k.mono ?_; rintro e _ ⟨rfl, rfl⟩)
    go_ret
    exact ⟨rfl, H.out, (Ch.refl (onR r s) _).setCell (p := r) (.inl rfl) _ _⟩
set_option maxHeartbeats 1000000 in
theorem renter_any (w : World) (q r s : Nat) (ss : List Stt) (h : IsR w q r s ss) (i : Int) (hb : ∀ n : Nat, n < ss.length → (ss.getD n s00).2 < 4611686018427387904) :
    Calls Try.prog 23 #[.pointer (some ⟨q, 0, none⟩), .int .i64 i] w fun e w' => e = .returned (.tuple #[.bool (entB ss i), .int .i64 (hasE ss i)]) ∧ IsR w' q r s (entS ss i) ∧ Ch (onR r s) w w' := by
  have k := rhas_any w q r s ss h i
  unfold hasE entS entB
  cases hh : hasI ss i with
  | false =>
    rw [hh] at k
    rw [if_neg (by simp), if_neg (by simp), Bool.false_and]
    have H := Lib.hid h
    clear h hh
    go_enter Try.func23, Try.ntmps23
    go_wp2_with (go_at_call 42; refine k.mono ?_; rintro e _ ⟨rfl, rfl⟩)
    go_ret2
    exact ⟨rfl, H.out, Ch.refl _ _⟩
  | true =>
    rw [hh] at k
    rw [if_pos rfl, Bool.true_and]
    obtain ⟨n, rfl, hn⟩ := hasI_nat hh
    obtain ⟨n1, n2, n3⟩ := h.ne
    obtain ⟨c1, c2, c0, c9⟩ := h.cells
    obtain ⟨d1, d2, f1, f2⟩ := h.at hn
    have nI : (n : Int) < (ss.length : Int) := by omega
    rw [show ((n : Int)).toNat = n from rfl]
    cases hr : (ss.getD n s00).1 with
    | true =>
      rw [hr] at d1
      rw [if_neg (by simp)]
      have H := Lib.hid h
      clear h hh hn hb hr d2 f1 f2 n1 n2 n3
      go_enter Try.func23, Try.ntmps23
      go_wp2_with (go_at_call 42; refine k.mono ?_; rintro e _ ⟨rfl, rfl⟩)
      go_ret2
      exact ⟨rfl, H.out, Ch.refl _ _⟩
    | false =>
      rw [hr] at d1
      rw [if_pos (by simp)]
      have hx := hb n hn
      obtain ⟨m, hm⟩ : ∃ m, m = (ss.getD n s00).2 := ⟨_, rfl⟩
      rw [← hm] at d2 hx
      have hI : IsR ((w.setCell ⟨r, n, none⟩ (.bool true)).setCell ⟨s, n, none⟩ (.int .i64 ((m + 1 : Nat) : Int))) q r s (ss.set n (true, (ss.getD n s00).2 + 1)) := by
        have h2 := (h.setB hn true).setN (i := n) (by rw [List.length_set]; exact hn) (m + 1)
        rw [getD_set _ _ _ _ hn, if_pos rfl, List.set_set] at h2
        rw [← hm]; exact h2
      have q1 : IntKind.i64.wrap ((m : Int) + 1) = (m : Int) + 1 := IntWalk.i64_in _ (by omega)
      have q2 : wrap64 ((m : Int) + 1) = (m : Int) + 1 := w64 (by omega)
      have H := Lib.hid hI
      have m1 : q ≠ r := n1
      have m3 : s ≠ r := Ne.symm n3
      clear h hh hn hb hr hI hx hm n2
      go_enter Try.func23, Try.ntmps23
      go_wp2_with (go_at_call 42; refine k.mono ?_; rintro e _ ⟨rfl, rfl⟩)
      go_ret2
      exact ⟨rfl, H.out, ((Ch.refl (onR r s) _).setCell (p := r) (.inl rfl) _ _).setCell (p := s) (.inr rfl) _ _⟩
end Go.Proofs.Ytgbmddjpaibcfaa
