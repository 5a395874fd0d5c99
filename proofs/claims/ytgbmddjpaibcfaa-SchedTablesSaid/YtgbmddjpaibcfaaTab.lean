/- A table of partitions in memory, and what its calls return. Conditions: at most 8 partitions, numbers that a machine holds. -/
import Derived.Test.YtgbmddjpaibcfaaFxd
import Derived.Shelf.Strconv.Clone
namespace Go.Proofs.Ytgbmddjpaibcfaa
open Go.RowKit Go.Maps
set_option linter.unusedVariables false
set_option linter.unusedSimpArgs false

/-- does it run, how often was it started -/
abbrev Stt := Bool × Nat
abbrev s00 : Stt := (false, 0)
/-- a table at p, its states the row g -/
def IsT (w : World) (p g : Nat) (ss : List Stt) : Prop :=
  ∃ q cap, w.heap[p]? = some (.cells #[.slice q ss.length cap] 77 (0, 0)) ∧ (ss ≠ [] → q = some ⟨g, 0, none⟩ ∧ p ≠ g ∧ ∃ cur : Array Value, w.heap[g]? = some (.cells cur 84 (0, 0)) ∧
    ∀ j, j < ss.length → cur[j * 2]? = some (.bool (ss.getD j s00).1) ∧ cur[j * 2 + 1]? = some (.int .i64 ((ss.getD j s00).2 : Int)))
theorem IsT.of_heap {w w' : World} {p g : Nat} {ss : List Stt} (h : IsT w p g ss) (e1 : w'.heap[p]? = w.heap[p]?) (e2 : w'.heap[g]? = w.heap[g]?) : IsT w' p g ss := by
  obtain ⟨q, cap, h1, h2⟩ := h
  exact ⟨q, cap, by rw [e1]; exact h1, fun hne => by
    obtain ⟨a, b, cur, c, d⟩ := h2 hne
    exact ⟨a, b, cur, by rw [e2]; exact c, d⟩⟩
theorem IsT.ltp {w : World} {p g : Nat} {ss : List Stt} (h : IsT w p g ss) : p < w.heap.size := by
  obtain ⟨q, cap, h1, _⟩ := h
  exact block_lt h1
theorem IsT.keep {w w' : World} {p g : Nat} {ss : List Stt} (h : IsT w p g ss) (e1 : w'.heap[p]? = w.heap[p]?) (e2 : g < w.heap.size → w'.heap[g]? = w.heap[g]?) : IsT w' p g ss := by
  obtain ⟨q, cap, h1, h2⟩ := h
  exact ⟨q, cap, by rw [e1]; exact h1, fun hne => by
    obtain ⟨a, b, cur, c, d⟩ := h2 hne
    exact ⟨a, b, cur, by rw [e2 (block_lt c)]; exact c, d⟩⟩
theorem IsT.below {w w' : World} {p g : Nat} {ss : List Stt} (h : IsT w p g ss) (hb : Below w.heap.size w w') : IsT w' p g ss := h.keep (hb.block p h.ltp) fun hg => hb.block g hg
theorem getD_set (ss : List Stt) (i j : Nat) (v : Stt) (hi : i < ss.length) : (ss.set i v).getD j s00 = if i = j then v else ss.getD j s00 := by
  rw [List.getD_eq_getElem?_getD, List.getElem?_set]
  by_cases e : i = j
  · rw [if_pos e, if_pos e, if_pos hi]; rfl
  · rw [if_neg e, if_neg e, List.getD_eq_getElem?_getD]
theorem IsT.setB {w : World} {p g : Nat} {ss : List Stt} (h : IsT w p g ss) {i : Nat} (hi : i < ss.length) (b : Bool) : IsT (w.setCell ⟨g, i * 2, none⟩ (.bool b)) p g (ss.set i (b, (ss.getD i s00).2)) := by
  obtain ⟨q, cap, h1, h2⟩ := h
  obtain ⟨a, hpg, cur, c, d⟩ := h2 (fun e => by rw [e] at hi; simp at hi)
  refine ⟨q, cap, by rw [block_setCell_other hpg, List.length_set]; exact h1, fun _ => ⟨a, hpg, _, block_setCell c, fun j hj => ?_⟩⟩
  rw [List.length_set] at hj
  obtain ⟨d0, d1⟩ := d j hj
  rw [getD_set _ _ _ _ hi, Array.getElem?_setIfInBounds, Array.getElem?_setIfInBounds, if_neg (show ¬ i * 2 = j * 2 + 1 by omega)]
  have hlt : j * 2 < cur.size := (Array.getElem?_eq_some_iff.1 d0).1
  by_cases e : i = j
  · subst e
    rw [if_pos rfl, if_pos hlt, if_pos rfl]
    exact ⟨rfl, d1⟩
  · rw [if_neg (show ¬ i * 2 = j * 2 by omega), if_neg e]
    exact ⟨d0, d1⟩
theorem IsT.setN {w : World} {p g : Nat} {ss : List Stt} (h : IsT w p g ss) {i : Nat} (hi : i < ss.length) (n : Nat) : IsT (w.setCell ⟨g, i * 2 + 1, none⟩ (.int .i64 (n : Int))) p g (ss.set i ((ss.getD i s00).1, n)) := by
  obtain ⟨q, cap, h1, h2⟩ := h
  obtain ⟨a, hpg, cur, c, d⟩ := h2 (fun e => by rw [e] at hi; simp at hi)
  refine ⟨q, cap, by rw [block_setCell_other hpg, List.length_set]; exact h1, fun _ => ⟨a, hpg, _, block_setCell c, fun j hj => ?_⟩⟩
  rw [List.length_set] at hj
  obtain ⟨d0, d1⟩ := d j hj
  rw [getD_set _ _ _ _ hi, Array.getElem?_setIfInBounds, Array.getElem?_setIfInBounds, if_neg (show ¬ i * 2 + 1 = j * 2 by omega)]
  have hlt : j * 2 + 1 < cur.size := (Array.getElem?_eq_some_iff.1 d1).1
  by_cases e : i = j
  · subst e
    rw [if_pos rfl, if_pos hlt, if_pos rfl]
    exact ⟨d0, rfl⟩
  · rw [if_neg (show ¬ i * 2 + 1 = j * 2 + 1 by omega), if_neg e]
    exact ⟨d0, d1⟩
def hasI (ss : List Stt) (i : Int) : Bool := decide (0 ≤ i ∧ i < ss.length)
def runV (ss : List Stt) (i : Int) : Bool := hasI ss i && (ss.getD i.toNat s00).1
def staV (ss : List Stt) (i : Int) : Int := if hasI ss i = true then ((ss.getD i.toNat s00).2 : Int) else 0
def entS (ss : List Stt) (i : Int) : List Stt := if hasI ss i = true ∧ (ss.getD i.toNat s00).1 = false then ss.set i.toNat (true, (ss.getD i.toNat s00).2 + 1) else ss
def entB (ss : List Stt) (i : Int) : Bool := hasI ss i && !(ss.getD i.toNat s00).1
def hasE (ss : List Stt) (i : Int) : Int := if hasI ss i = true then 0 else 1
def trpS (ss : List Stt) (i : Int) : List Stt := if hasI ss i = true then ss.set i.toNat (false, (ss.getD i.toNat s00).2) else ss
theorem entS_len (ss : List Stt) (i : Int) : (entS ss i).length = ss.length := by unfold entS; split <;> simp
theorem trpS_len (ss : List Stt) (i : Int) : (trpS ss i).length = ss.length := by unfold trpS; split <;> simp
/-- the table's two cells for a partition that is there -/
theorem IsT.cells {w : World} {p g : Nat} {ss : List Stt} (h : IsT w p g ss) {i : Nat} (hi : i < ss.length) : ∃ cap, w.cell? ⟨p, 0, none⟩ = some (.slice (some ⟨g, 0, none⟩) ss.length cap) ∧ w.cell? ⟨g, i * 2, none⟩ = some (.bool (ss.getD i s00).1) ∧ w.cell? ⟨g, i * 2 + 1, none⟩ = some (.int .i64 ((ss.getD i s00).2 : Int)) ∧
    w.frozen? ⟨g, i * 2, none⟩ = false ∧ w.frozen? ⟨g, i * 2 + 1, none⟩ = false ∧ p ≠ g := by
  obtain ⟨q, cap, h1, h2⟩ := h
  obtain ⟨rfl, hpg, cur, c, d⟩ := h2 (fun e => by rw [e] at hi; simp at hi)
  obtain ⟨d0, d1⟩ := d i hi
  exact ⟨cap, by rw [cell_of_row _ _ _ _ _ _ h1]; rfl, by rw [cell_of_row _ _ _ _ _ _ c]; exact d0, by rw [cell_of_row _ _ _ _ _ _ c]; exact d1, block_free c, block_free c, hpg⟩
set_option maxHeartbeats 1000000 in
theorem has_any (w : World) (p g : Nat) (ss : List Stt) (h : IsT w p g ss) (i : Int) :
    Calls Try.prog 41 #[.pointer (some ⟨p, 0, none⟩), .int .i64 i] w fun e w' => e = .returned (.bool (hasI ss i)) ∧ w = w' := by
  obtain ⟨q, cap, h1, _⟩ := h
  have c0 : w.cell? ⟨p, 0, none⟩ = some (.slice q ss.length cap) := by rw [cell_of_row _ _ _ _ _ _ h1]; rfl
  unfold hasI
  generalize ss.length = n at *
  clear h1
  by_cases a : 0 ≤ i
  · by_cases b : i < (n : Int)
    · rw [decide_eq_true (show 0 ≤ i ∧ i < (n : Int) from ⟨a, b⟩)]
      go_enter Try.func41, Try.ntmps41
      go_wp2
      go_ret
      exact ⟨by simp, rfl⟩
    · rw [decide_eq_false (fun q : 0 ≤ i ∧ i < (n : Int) => b q.2)]
      go_enter Try.func41, Try.ntmps41
      go_wp2
      go_ret
      exact ⟨ret_bool (by first | rfl | simp; omega), rfl⟩
  · rw [decide_eq_false (fun q : 0 ≤ i ∧ i < (n : Int) => a q.1)]
    go_enter Try.func41, Try.ntmps41
    go_wp2
    go_ret
    exact ⟨by first | rfl | simp, rfl⟩
theorem hasI_nat {ss : List Stt} {i : Int} (h : hasI ss i = true) : ∃ n : Nat, i = (n : Int) ∧ n < ss.length := by
  unfold hasI at h
  rw [decide_eq_true_eq] at h
  exact ⟨i.toNat, by omega, by omega⟩
set_option maxHeartbeats 1000000 in
theorem runs_any (w : World) (p g : Nat) (ss : List Stt) (h : IsT w p g ss) (i : Int) :
    Calls Try.prog 28 #[.pointer (some ⟨p, 0, none⟩), .int .i64 i] w fun e w' => e = .returned (.bool (runV ss i)) ∧ w = w' := by
  have k := has_any w p g ss h i
  unfold runV
  cases hh : hasI ss i with
  | false =>
    rw [hh] at k
    rw [Bool.false_and]
    clear h hh
    go_enter Try.func28, Try.ntmps28
    go_wp2_with (go_at_call 41; refine k.mono ?_; rintro e _ ⟨rfl, rfl⟩)
    go_ret
    exact ⟨rfl, rfl⟩
  | true =>
    rw [hh] at k
    rw [Bool.true_and]
    obtain ⟨n, rfl, hn⟩ := hasI_nat hh
    obtain ⟨cap, c0, c1, c2, _, _, _⟩ := h.cells hn
    have nI : (n : Int) < (ss.length : Int) := by omega
    rw [show ((n : Int)).toNat = n from rfl]
    generalize (ss.getD n s00).1 = r at *
    generalize ss.length = N at *
    clear h hh hn c2
    go_enter Try.func28, Try.ntmps28
    go_wp2_with (go_at_call 41; refine k.mono ?_; rintro e _ ⟨rfl, rfl⟩)
    go_ret
    exact ⟨rfl, rfl⟩
set_option maxHeartbeats 1000000 in
theorem starts_any (w : World) (p g : Nat) (ss : List Stt) (h : IsT w p g ss) (i : Int) :
    Calls Try.prog 30 #[.pointer (some ⟨p, 0, none⟩), .int .i64 i] w fun e w' => e = .returned (.int .i64 (staV ss i)) ∧ w = w' := by
  have k := has_any w p g ss h i
  unfold staV
  cases hh : hasI ss i with
  | false =>
    rw [hh] at k
    rw [if_neg (by simp)]
    clear h hh
    go_enter Try.func30, Try.ntmps30
    go_wp2_with (go_at_call 41; refine k.mono ?_; rintro e _ ⟨rfl, rfl⟩)
    go_ret
    exact ⟨rfl, rfl⟩
  | true =>
    rw [hh] at k
    rw [if_pos rfl]
    obtain ⟨n, rfl, hn⟩ := hasI_nat hh
    obtain ⟨cap, c0, c1, c2, _, _, _⟩ := h.cells hn
    have nI : (n : Int) < (ss.length : Int) := by omega
    rw [show ((n : Int)).toNat = n from rfl]
    generalize ((ss.getD n s00).2 : Int) = r at *
    generalize ss.length = N at *
    clear h hh hn c1
    go_enter Try.func30, Try.ntmps30
    go_wp2_with (go_at_call 41; refine k.mono ?_; rintro e _ ⟨rfl, rfl⟩)
    go_ret
    exact ⟨rfl, rfl⟩
set_option maxHeartbeats 1000000 in
theorem trap_any (w : World) (p g : Nat) (ss : List Stt) (h : IsT w p g ss) (i : Int) :
    Calls Try.prog 24 #[.pointer (some ⟨p, 0, none⟩), .int .i64 i] w fun e w' => e = .returned (.int .i64 (hasE ss i)) ∧ IsT w' p g (trpS ss i) ∧ Ch (onB g) w w' := by
  have k := has_any w p g ss h i
  unfold hasE trpS
  cases hh : hasI ss i with
  | false =>
    rw [hh] at k
    rw [if_neg (by simp), if_neg (by simp)]
    have H := Lib.hid h
    clear h hh
    go_enter Try.func24, Try.ntmps24
    go_wp2_with (go_at_call 41; refine k.mono ?_; rintro e _ ⟨rfl, rfl⟩)
    go_ret
    exact ⟨rfl, H.out, Ch.refl _ _⟩
  | true =>
    rw [hh] at k
    rw [if_pos rfl, if_pos rfl]
    obtain ⟨n, rfl, hn⟩ := hasI_nat hh
    obtain ⟨cap, c0, c1, c2, f1, f2, _⟩ := h.cells hn
    have nI : (n : Int) < (ss.length : Int) := by omega
    have H := Lib.hid (h.setB hn false)
    rw [show ((n : Int)).toNat = n from rfl]
    clear h hh hn c2 f2
    generalize (ss.getD n s00).1 = r at *
    go_enter Try.func24, Try.ntmps24
    go_wp2_with (go_at_call 41; refine k.mono ?_; rintro e _ ⟨rfl, rfl⟩)
    go_ret
    exact ⟨rfl, H.out, (Ch.refl (onB g) _).setCell (p := g) rfl _ _⟩
set_option maxHeartbeats 1000000 in
theorem enter_any (w : World) (p g : Nat) (ss : List Stt) (h : IsT w p g ss) (i : Int) (hb : ∀ n : Nat, n < ss.length → (ss.getD n s00).2 < 4611686018427387904) :
    Calls Try.prog 22 #[.pointer (some ⟨p, 0, none⟩), .int .i64 i] w fun e w' => e = .returned (.tuple #[.bool (entB ss i), .int .i64 (hasE ss i)]) ∧ IsT w' p g (entS ss i) ∧ Ch (onB g) w w' := by
  have k := has_any w p g ss h i
  unfold hasE entS entB
  cases hh : hasI ss i with
  | false =>
    rw [hh] at k
    rw [if_neg (by simp), if_neg (by simp), Bool.false_and]
    have H := Lib.hid h
    clear h hh
    go_enter Try.func22, Try.ntmps22
    go_wp2_with (go_at_call 41; refine k.mono ?_; rintro e _ ⟨rfl, rfl⟩)
    go_ret2
    exact ⟨rfl, H.out, Ch.refl _ _⟩
  | true =>
    rw [hh] at k
    rw [if_pos rfl, Bool.true_and]
    obtain ⟨n, rfl, hn⟩ := hasI_nat hh
    obtain ⟨cap, c0, c1, c2, f1, f2, hpg⟩ := h.cells hn
    have nI : (n : Int) < (ss.length : Int) := by omega
    rw [show ((n : Int)).toNat = n from rfl]
    cases hr : (ss.getD n s00).1 with
    | true =>
      rw [hr] at c1
      rw [if_neg (by simp)]
      have H := Lib.hid h
      clear h hh hn c2 f2 f1 hb hr
      go_enter Try.func22, Try.ntmps22
      go_wp2_with (go_at_call 41; refine k.mono ?_; rintro e _ ⟨rfl, rfl⟩)
      go_ret2
      exact ⟨rfl, H.out, Ch.refl _ _⟩
    | false =>
      rw [hr] at c1
      rw [if_pos (by simp)]
      have hx := hb n hn
      obtain ⟨m, hm⟩ : ∃ m, m = (ss.getD n s00).2 := ⟨_, rfl⟩
      rw [← hm] at c2 hx
      have hI : IsT ((w.setCell ⟨g, n * 2, none⟩ (.bool true)).setCell ⟨g, n * 2 + 1, none⟩ (.int .i64 ((m + 1 : Nat) : Int))) p g (ss.set n (true, (ss.getD n s00).2 + 1)) := by
        have h2 := (h.setB hn true).setN (i := n) (by rw [List.length_set]; exact hn) (m + 1)
        rw [getD_set _ _ _ _ hn, if_pos rfl, List.set_set] at h2
        rw [← hm]; exact h2
      have q1 : IntKind.i64.wrap ((m : Int) + 1) = (m : Int) + 1 := IntWalk.i64_in _ (by omega)
      have q2 : wrap64 ((m : Int) + 1) = (m : Int) + 1 := w64 (by omega)
      have H := Lib.hid hI
      clear h hh hn hb hr hI hx hm
      go_enter Try.func22, Try.ntmps22
      go_wp2_with (go_at_call 41; refine k.mono ?_; rintro e _ ⟨rfl, rfl⟩)
      go_ret2
      exact ⟨rfl, H.out, ((Ch.refl (onB g) _).setCell (p := g) rfl _ _).setCell (p := g) rfl _ _⟩
end Go.Proofs.Ytgbmddjpaibcfaa
