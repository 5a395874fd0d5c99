/- A table whose row is there even if it has no partition: calls and clones. Conditions: at most 8 partitions. -/
import Derived.Test.YtgbmddjpaibcfaaTbc
namespace Go.Proofs.Ytgbmddjpaibcfaa
open Go.RowKit Go.Maps
set_option linter.unusedVariables false
set_option linter.unusedSimpArgs false

/-- a table at p with its row g -/
structure IsU (w : World) (p g : Nat) (ss : List Stt) : Prop where
  blk : ∃ cap, w.heap[p]? = some (.cells #[.slice (some ⟨g, 0, none⟩) ss.length cap] 77 (0, 0))
  row : ∃ cur : Array Value, w.heap[g]? = some (.cells cur 84 (0, 0)) ∧ ∀ j, j < ss.length → cur[j * 2]? = some (.bool (ss.getD j s00).1) ∧ cur[j * 2 + 1]? = some (.int .i64 ((ss.getD j s00).2 : Int))
theorem IsU.of_heap {w w' : World} {p g : Nat} {ss : List Stt} (h : IsU w p g ss) (e1 : w'.heap[p]? = w.heap[p]?) (e2 : w'.heap[g]? = w.heap[g]?) : IsU w' p g ss := ⟨by rw [e1]; exact h.blk, by rw [e2]; exact h.row⟩
theorem IsU.lt {w : World} {p g : Nat} {ss : List Stt} (h : IsU w p g ss) : p < w.heap.size ∧ g < w.heap.size := by
  obtain ⟨_, a⟩ := h.blk
  obtain ⟨_, b, _⟩ := h.row
  exact ⟨block_lt a, block_lt b⟩
theorem IsU.below {w w' : World} {p g : Nat} {ss : List Stt} (h : IsU w p g ss) (hb : Below w.heap.size w w') : IsU w' p g ss := h.of_heap (hb.block _ h.lt.1) (hb.block _ h.lt.2)
theorem IsU.ne {w : World} {p g : Nat} {ss : List Stt} (h : IsU w p g ss) : p ≠ g := by
  obtain ⟨_, a⟩ := h.blk
  obtain ⟨_, b, _⟩ := h.row
  intro e; subst e; rw [a] at b; cases b
theorem IsU.isT {w : World} {p g : Nat} {ss : List Stt} (h : IsU w p g ss) : IsT w p g ss := by
  obtain ⟨cap, a⟩ := h.blk
  exact ⟨_, cap, a, fun _ => ⟨rfl, h.ne, h.row⟩⟩
theorem IsT.isU {w : World} {p g : Nat} {ss : List Stt} (h : IsT w p g ss) (hne : ss ≠ []) : IsU w p g ss := by
  obtain ⟨q, cap, a, b⟩ := h
  obtain ⟨rfl, _, c⟩ := b hne
  exact ⟨⟨cap, a⟩, c⟩
theorem has_ne {ss : List Stt} {i : Int} (h : hasI ss i = true) : ss ≠ [] := by
  obtain ⟨n, _, hn⟩ := hasI_nat h
  intro e; rw [e] at hn; simp at hn
set_option maxHeartbeats 1000000 in
theorem trapU_any (w : World) (p g : Nat) (ss : List Stt) (h : IsU w p g ss) (i : Int) :
    Calls Try.prog 24 #[.pointer (some ⟨p, 0, none⟩), .int .i64 i] w fun e w' => e = .returned (.int .i64 (hasE ss i)) ∧ IsU w' p g (trpS ss i) ∧ Ch (onB g) w w' := by
  cases hh : hasI ss i with
  | true => exact (trap_any w p g ss h.isT i).mono fun e w' ⟨a, b, c⟩ => ⟨a, b.isU (fun e => has_ne hh (by have := congrArg List.length e; rw [trpS_len] at this; exact List.eq_nil_of_length_eq_zero this)), c⟩
  | false =>
    have k := has_any w p g ss h.isT i
    unfold hasE trpS
    rw [hh] at k
    rw [hh, if_neg (by simp), if_neg (by simp)]
    have H := Lib.hid h
    clear h hh
    go_enter Try.func24, Try.ntmps24
    go_wp2_with (go_at_call 41; refine k.mono ?_; rintro e _ ⟨rfl, rfl⟩)
    go_ret
    exact ⟨rfl, H.out, Ch.refl _ _⟩
set_option maxHeartbeats 1000000 in
theorem enterU_any (w : World) (p g : Nat) (ss : List Stt) (h : IsU w p g ss) (i : Int) (hb : ∀ n : Nat, n < ss.length → (ss.getD n s00).2 < 4611686018427387904) :
    Calls Try.prog 22 #[.pointer (some ⟨p, 0, none⟩), .int .i64 i] w fun e w' => e = .returned (.tuple #[.bool (entB ss i), .int .i64 (hasE ss i)]) ∧ IsU w' p g (entS ss i) ∧ Ch (onB g) w w' := by
  cases hh : hasI ss i with
  | true => exact (enter_any w p g ss h.isT i hb).mono fun e w' ⟨a, b, c⟩ => ⟨a, b.isU (fun e => has_ne hh (by have := congrArg List.length e; rw [entS_len] at this; exact List.eq_nil_of_length_eq_zero this)), c⟩
  | false =>
    have k := has_any w p g ss h.isT i
    unfold hasE entS entB
    rw [hh] at k
    rw [hh, if_neg (by simp), if_neg (by simp), Bool.false_and]
    have H := Lib.hid h
    clear h hh hb
    go_enter Try.func22, Try.ntmps22
    go_wp2_with (go_at_call 41; refine k.mono ?_; rintro e _ ⟨rfl, rfl⟩)
    go_ret2
    exact ⟨rfl, H.out, Ch.refl _ _⟩
def tC (ss : List Stt) : List Value := ss.flatMap fun s => [.bool s.1, .int .i64 (s.2 : Int)]
theorem tC_len (ss : List Stt) : (tC ss).length = ss.length * 2 := by
  induction ss with
  | nil => rfl
  | cons x xs ih => rw [show tC (x :: xs) = [.bool x.1, .int .i64 (x.2 : Int)] ++ tC xs from rfl, List.length_append, ih, List.length_cons]; simp; omega
theorem tC_get : ∀ (ss : List Stt) (j : Nat), j < ss.length → (tC ss)[j * 2]? = some (.bool (ss.getD j s00).1) ∧ (tC ss)[j * 2 + 1]? = some (.int .i64 ((ss.getD j s00).2 : Int))
  | [], j, h => by simp at h
  | x :: xs, 0, h => ⟨rfl, rfl⟩
  | x :: xs, j + 1, h => by
    have ih := tC_get xs j (by simpa using h)
    rw [show tC (x :: xs) = .bool x.1 :: .int .i64 (x.2 : Int) :: tC xs from rfl, show (j + 1) * 2 = j * 2 + 1 + 1 by omega, show j * 2 + 1 + 1 + 1 = (j * 2 + 1) + 1 + 1 by omega]
    simpa using ih
theorem IsU.src {w : World} {p g : Nat} {ss : List Stt} (h : IsU w p g ss) : ∀ j u, (tC ss)[j]? = some u → w.cell? ((⟨g, 0, none⟩ : Addr).add j) = some u := by
  intro j u hu
  have hj : j < ss.length * 2 := by
    rcases Nat.lt_or_ge j (ss.length * 2) with h | h
    · exact h
    · rw [List.getElem?_eq_none (by rw [tC_len]; exact h)] at hu; cases hu
  obtain ⟨cur, a, b⟩ := h.row
  obtain ⟨f0, f1⟩ := tC_get ss (j / 2) (by omega)
  obtain ⟨d0, d1⟩ := b (j / 2) (by omega)
  rw [addr_at, Nat.zero_add, cell_of_row _ _ _ _ _ _ a]
  by_cases e : j % 2 = 0
  · rw [show j / 2 * 2 = j by omega] at f0 d0
    rw [d0, ← f0]; exact hu
  · rw [show j / 2 * 2 + 1 = j by omega] at f1 d1
    rw [d1, ← f1]; exact hu
/-- what a clone leaves -/
def ClP (w : World) (ss : List Stt) (e : Ending) (w' : World) : Prop := ∃ p g, e = .returned (.pointer (some ⟨p, 0, none⟩)) ∧ IsU w' p g ss ∧ w.heap.size ≤ p ∧ w.heap.size ≤ g ∧ Below w.heap.size w w'
def SlP (w : World) (ss : List Stt) (e : Ending) (w' : World) : Prop := ∃ g c, e = .returned (.slice (some ⟨g, 0, none⟩) ss.length c) ∧ (∃ cur : Array Value, w'.heap[g]? = some (.cells cur 84 (0, 0)) ∧ ∀ (j : Nat) (u : Value), (tC ss)[j]? = some u → cur[j]? = some u) ∧ w.heap.size ≤ g ∧ Below w.heap.size w w'
set_option maxRecDepth 20000 in
set_option maxHeartbeats 2000000 in
theorem slclone_any (w : World) (p g cap : Nat) (ss : List Stt) (h : IsU w p g ss) (h8 : ss.length ≤ 8) : Calls Try.prog 43 #[.slice (some ⟨g, 0, none⟩) ss.length cap] w (SlP w ss) := by
  obtain ⟨i0, hi, hz0, hz1, hz2⟩ := info_parts Try.info84
  have hnil := Lib.run_eql_slice_nil w 75 84 (some ⟨g, 0, none⟩) ss.length cap 0 0 Try.underlying75
  obtain ⟨w1, hw1⟩ : ∃ w1, w1 = w.alloc (.cells #[] 84) := ⟨_, rfl⟩
  have hb1 : Below w.heap.size w w1 := by rw [hw1]; exact (Below.refl _ w).alloc (Nat.le_refl _) _
  obtain ⟨r, c, w2, hrun, hrow, hgr, hbr⟩ := app_new (W := w1) (base := w.heap.size) (b := w.heap.size) 75 84 i0 (.agg #[.bool false, .int .i64 0]) 2 16 Try.underlying75 hi hz0 hz1 hz2 rfl (by decide) (by rw [hw1]; exact block_new w _) (Nat.le_refl _) ⟨g, 0, none⟩ ss.length cap (tC ss) (tC_len ss) (h.below hb1).src (by
    intro u hu
    unfold tC at hu
    simp only [List.mem_flatMap, List.mem_cons, List.not_mem_nil, or_false] at hu
    obtain ⟨x, _, rfl | rfl⟩ := hu <;> rfl) h8 (by decide)
  have hb2 : Below w.heap.size w w2 := hb1.grown hgr hb1.size (fun k e => by injection e with e; omega)
  have H : Hid (SlP w ss (.returned (.slice (some ⟨r, 0, none⟩) ss.length c)) w2) := Lib.hid ⟨r, c, rfl, hrow, hbr, hb2⟩
  rw [hw1] at hrun
  generalize hN : ss.length = n at hrun hnil ⊢
  rw [hN] at H
  clear h h8 hi hz0 hz1 hz2 hw1 hb1 hrow hgr hbr hb2 hN
  go_enter Try.func43, Try.ntmps43
  go_wp2_with (at_builtin; refine wpList_app rfl (.tmp 5) (.tmp 6) 75 rfl _ _ _ _ rfl rfl hrun ?_)
  go_ret
  exact H.out
set_option maxRecDepth 20000 in
set_option maxHeartbeats 2000000 in
theorem clone_any (w : World) (p g : Nat) (ss : List Stt) (h : IsU w p g ss) (h8 : ss.length ≤ 8) : Calls Try.prog 26 #[.pointer (some ⟨p, 0, none⟩)] w (ClP w ss) := by
  obtain ⟨cap, hblk⟩ := h.blk
  have c0 : w.cell? ⟨p, 0, none⟩ = some (.slice (some ⟨g, 0, none⟩) ss.length cap) := by rw [cell_of_row _ _ _ _ _ _ hblk]; rfl
  have k := slclone_any w p g cap ss h h8
  have HE : Hid (∀ (g' c' : Nat) (w2 : World), (∃ cur : Array Value, w2.heap[g']? = some (.cells cur 84 (0, 0)) ∧ ∀ (j : Nat) (u : Value), (tC ss)[j]? = some u → cur[j]? = some u) → w.heap.size ≤ g' → Below w.heap.size w w2 →
      ClP w ss (.returned (.pointer (some ⟨w2.heap.size, 0, none⟩))) (w2.alloc (.cells #[.slice (some ⟨g', 0, none⟩) ss.length c'] 77))) := Lib.hid fun g' c' w2 hr hg hb => by
    obtain ⟨cur, a, b⟩ := hr
    exact ⟨_, g', rfl, ⟨⟨c', block_new _ _⟩, ⟨cur, block_alloc a _, fun j hj => ⟨b _ _ (tC_get ss j hj).1, b _ _ (tC_get ss j hj).2⟩⟩⟩, hb.size, hg, hb.alloc hb.size _⟩
  unfold SlP at k
  have K := Lib.hid k
  generalize ss.length = n at *
  clear h h8 hblk k
  go_enter Try.func26, Try.ntmps26
  go_wp2_with (go_at_call 43; refine K.out.mono ?_; rintro e w2 ⟨g', c', rfl, hr, hg, hb⟩; have HF := HE.out g' c' w2 hr hg hb; have HF := Lib.hid HF; clear hr hg hb)
  go_ret
  exact HF.out
/-- what a new table's call leaves, the row always there -/
def NuP (w : World) (ss : List Stt) (e : Ending) (w' : World) : Prop := ∃ p g, e = .returned (.tuple #[.pointer (some ⟨p, 0, none⟩), .int .i64 0]) ∧ IsU w' p g ss ∧ w.heap.size ≤ p ∧ w.heap.size ≤ g ∧ Below w.heap.size w w'
set_option maxRecDepth 20000 in
set_option maxHeartbeats 1000000 in
theorem ntabU_any (w : World) (n : Nat) (hn : n ≤ 8) : Calls Try.prog 19 #[.int .i64 (n : Int)] w (NuP w (List.replicate n s00)) := by
  obtain ⟨i0, hi, hz0, hz1, hz2⟩ := info_parts Try.info84
  obtain ⟨w2, hrun, hown, hgr⟩ := run_makeSlice_full (P := Try.prog) (w := w) w.heap.size 75 84 i0 (.agg #[.bool false, .int .i64 0]) 2 Try.underlying75 hi hz0 hz1 .i64 .i64 n (by omega) (by rw [hz2]; omega) (by unfold maxLen; omega) (Nat.le_refl _)
  have hb : Below w.heap.size w w2 := (Below.refl _ w).grown hgr (Nat.le_refl _) (fun k e => by cases e)
  have hT : IsU (w2.alloc (.cells #[.slice (some ⟨w.heap.size, 0, none⟩) n n] 77)) w2.heap.size w.heap.size (List.replicate n s00) := by
    refine ⟨⟨n, by rw [List.length_replicate]; exact block_new _ _⟩, ?_⟩
    rcases hown.2 with ⟨e, _⟩ | ⟨g', c', cur, e, _, hg, _, _, hcs, htk⟩
    · cases e
    · injection e with e e6 e7
      injection e with e
      injection e with e _
      subst e
      refine ⟨cur, block_alloc hg _, fun j hj => ?_⟩
      rw [List.length_replicate] at hj
      obtain ⟨f1, f2⟩ := flat_rep n
      obtain ⟨d0, d1⟩ := f2 j hj
      rw [← Array.getElem?_toList, ← htk, List.getElem?_take, if_pos (by omega), Array.getElem?_toList] at d0 d1
      have e0 : (List.replicate n s00).getD j s00 = s00 := by rw [List.getD_eq_getElem?_getD, List.getElem?_replicate]; split <;> rfl
      rw [e0]
      exact ⟨d0, d1⟩
  have H := Lib.hid (And.intro hT (And.intro hb.size (hb.alloc hb.size (.cells #[.slice (some ⟨w.heap.size, 0, none⟩) n n] 77))))
  have n1 : ¬ (n : Int) < 0 := by omega
  have n2 : ¬ (8 : Int) < (n : Int) := by omega
  clear hown hgr hb hT hi hz0 hz1 hz2
  go_enter Try.func19, Try.ntmps19
  go_wp2
  go_ret2
  exact ⟨_, _, rfl, H.out.1, H.out.2.1, Nat.le_refl _, H.out.2.2⟩
end Go.Proofs.Ytgbmddjpaibcfaa
