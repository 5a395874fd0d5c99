/- The reader's pure functions go forward: plain facts. -/
import Derived.Test.YtdmajbdgjjmlkaaRow
import Derived.Test.YtdmajbdgjjmlkaaByt
namespace Go.Proofs.Ytdmajbdgjjmlkaa
open Go.RowKit
set_option linter.unusedVariables false

theorem tail_lt {c : UInt8} {l : Bs} (h : isNext c l = true) : l.tail.length < l.length := by
  cases l with
  | nil => cases h
  | cons x l => simp
theorem rowsP_lt : ∀ (f : Nat) (s s' : S4) (l l1 : Bs), rowsP f s l = some (s', l1) → l1.length < l.length
  | 0, _, _, _, _, h => by cases h
  | f + 1, s, s', l, l1, h => by
    unfold rowsP at h
    cases h1 : spanP l with
    | none => rw [h1] at h; cases h
    | some p =>
      obtain ⟨lo, hi, l2⟩ := p
      rw [h1] at h
      have a := spanP_le h1
      dsimp only at h
      split at h
      · simp only [Option.some.injEq, Prod.mk.injEq] at h
        have := tail_le l2
        rw [← h.2]; omega
      · have := rowsP_lt f _ _ _ _ h
        omega
theorem setP_lt {l l1 : Bs} {s : S4} (h : setP l = some (s, l1)) : l1.length < l.length := by
  have key : ∀ (n : Bool) (l0 : Bs), l0.length ≤ l.length → endS n (rowsS S4.zero l0) = some (s, l1) → l1.length < l.length := fun n l0 h0 he => by
    unfold rowsS at he
    cases hr : rowsP (l0.length + 1) S4.zero l0 with
    | none => rw [hr] at he; cases he
    | some p =>
      obtain ⟨s2, l2⟩ := p
      rw [hr] at he
      have a := rowsP_lt _ _ _ _ _ hr
      unfold endS at he
      dsimp only at he
      by_cases hz : (if n then s2.others else s2) = S4.zero
      · rw [if_pos hz] at he; cases he
      · rw [if_neg hz] at he
        simp only [Option.some.injEq, Prod.mk.injEq] at he
        rw [← he.2]; omega
  rw [setP_eq] at h
  split at h
  · exact key _ _ (tail_le l) h
  · exact key _ _ (Nat.le_refl _) h
theorem digitP_lt {l l1 : Bs} {n : Nat} (h : digitP l = some (n, l1)) : l1.length < l.length := by
  cases l with
  | nil => cases h
  | cons c l =>
    rw [digitP_cons] at h
    split at h
    · simp only [Option.some.injEq, Prod.mk.injEq] at h
      rw [← h.2]; simp
    · cases h
theorem numberP_lt {l l1 : Bs} {n : Nat} (h : numberP l = some (n, l1)) : l1.length < l.length := by
  unfold numberP at h
  cases hd : digitP l with
  | none => rw [hd] at h; cases h
  | some p =>
    obtain ⟨m, l2⟩ := p
    rw [hd] at h
    have a := digitP_lt hd
    have aux : ∀ (q : Nat × Bs), q.2.length < l.length → (if q.1 > 15 then none else some (q.1, q.2)) = some (n, l1) → l1.length < l.length := fun q hq he => by
      by_cases h15 : q.1 > 15
      · rw [if_pos h15] at he; cases he
      · rw [if_neg h15] at he
        simp only [Option.some.injEq, Prod.mk.injEq] at he
        rw [← he.2]; exact hq
    cases l2 with
    | nil => exact aux (m, []) a h
    | cons c l2 =>
      simp only [List.length_cons] at a
      have hif : (if (decide (m > 0) && isDig c) = true then (10 * m + (c.toNat - 48), l2) else (m, c :: l2)).2.length < l.length := by
        by_cases hq : (decide (m > 0) && isDig c) = true
        · rw [if_pos hq]; dsimp only; omega
        · rw [if_neg hq]; simp only [List.length_cons]; omega
      exact aux _ hif h
theorem wantP_lt {c : UInt8} {l l1 : Bs} (h : wantP c l = some l1) : l1.length < l.length := by
  rw [wantP_eq] at h
  split at h
  · rename_i q
    simp only [Option.some.injEq] at h
    rw [← h]; exact tail_lt q
  · cases h
theorem timesP_lt {l l1 : Bs} {a b : Int} (h : timesP l = some (a, b, l1)) : l1.length < l.length := by
  unfold timesP at h
  cases h1 : numberP l with
  | none => rw [h1] at h; cases h
  | some p =>
    obtain ⟨n, l2⟩ := p
    rw [h1] at h
    have g1 := numberP_lt h1
    dsimp only at h
    split at h
    · simp only [Option.some.injEq, Prod.mk.injEq] at h
      have := tail_le l2
      rw [← h.2.2]; omega
    · cases h2 : wantP 44 l2 with
      | none => rw [h2] at h; cases h
      | some l3 =>
        rw [h2] at h
        have g2 := wantP_lt h2
        dsimp only at h
        split at h
        · simp only [Option.some.injEq, Prod.mk.injEq] at h
          have := tail_le l3
          rw [← h.2.2]; omega
        · cases h3 : numberP l3 with
          | none => rw [h3] at h; cases h
          | some p3 =>
            obtain ⟨m, l4⟩ := p3
            rw [h3] at h
            have g3 := numberP_lt h3
            dsimp only at h
            cases h4 : wantP 125 l4 with
            | none => rw [h4] at h; cases h
            | some l5 =>
              rw [h4] at h
              have g4 := wantP_lt h4
              dsimp only at h
              split at h
              · simp only [Option.some.injEq, Prod.mk.injEq] at h
                rw [← h.2.2]; omega
              · cases h
theorem atomP_lt {alt : Bs → Option (Rx × Bs)} {l l1 : Bs} {t : Rx} (hA : ∀ t2 l2, alt l.tail = some (t2, l2) → l2.length ≤ l.tail.length) (h : atomP alt l = some (t, l1)) : l1.length < l.length := by
  unfold atomP at h
  split at h
  · rename_i q
    have := tail_lt q
    cases ha : alt l.tail with
    | none => rw [ha] at h; cases h
    | some p =>
      obtain ⟨t2, l2⟩ := p
      rw [ha] at h
      have g := hA _ _ ha
      dsimp only at h
      cases h4 : wantP 41 l2 with
      | none => rw [h4] at h; cases h
      | some l5 =>
        rw [h4] at h
        have g4 := wantP_lt h4
        simp only [Option.some.injEq, Prod.mk.injEq] at h
        rw [← h.2]; omega
  · split at h
    · rename_i q
      have := tail_lt q
      cases hs : setP l.tail with
      | none => rw [hs] at h; cases h
      | some p =>
        obtain ⟨s, l2⟩ := p
        rw [hs] at h
        have g := setP_lt hs
        simp only [Option.some.injEq, Prod.mk.injEq] at h
        rw [← h.2]; omega
    · split at h
      · rename_i q
        simp only [Option.some.injEq, Prod.mk.injEq] at h
        rw [← h.2]; exact tail_lt q
      · cases hb : byteP rowBar l with
        | none => rw [hb] at h; cases h
        | some p =>
          obtain ⟨n, l2⟩ := p
          rw [hb] at h
          have g := byteP_le hb
          simp only [Option.some.injEq, Prod.mk.injEq] at h
          rw [← h.2]; exact g.2
theorem pieceP_lt {alt : Bs → Option (Rx × Bs)} {l l1 : Bs} {t : Rx} (hA : ∀ t2 l2, alt l.tail = some (t2, l2) → l2.length ≤ l.tail.length) (h : pieceP alt l = some (t, l1)) : l1.length < l.length := by
  unfold pieceP at h
  cases ha : atomP alt l with
  | none => rw [ha] at h; cases h
  | some p =>
    obtain ⟨t2, l2⟩ := p
    rw [ha] at h
    have g := atomP_lt hA ha
    have := tail_le l2
    dsimp only at h
    split at h
    · simp only [Option.some.injEq, Prod.mk.injEq] at h
      rw [← h.2]; omega
    · split at h
      · simp only [Option.some.injEq, Prod.mk.injEq] at h
        rw [← h.2]; omega
      · split at h
        · simp only [Option.some.injEq, Prod.mk.injEq] at h
          rw [← h.2]; omega
        · split at h
          · cases ht : timesP l2.tail with
            | none => rw [ht] at h; cases h
            | some q =>
              obtain ⟨x, y, l3⟩ := q
              rw [ht] at h
              have g2 := timesP_lt ht
              simp only [Option.some.injEq, Prod.mk.injEq] at h
              rw [← h.2]; omega
          · simp only [Option.some.injEq, Prod.mk.injEq] at h
            rw [← h.2]; exact g
theorem altP_le : ∀ (f : Nat) (rows row : List Rx) (l l1 : Bs) (t : Rx), altP f rows row l = some (t, l1) → l1.length ≤ l.length
  | 0, _, _, _, _, _, h => by cases h
  | f + 1, rows, row, l, l1, t, h => by
    unfold altP at h
    split at h
    · simp only [Option.some.injEq, Prod.mk.injEq] at h
      rw [← h.2]; exact Nat.le_refl _
    · split at h
      · have := altP_le f _ _ _ _ _ h
        have := tail_le l
        omega
      · cases hp : pieceP (altP f [] []) l with
        | none => rw [hp] at h; cases h
        | some p =>
          obtain ⟨x, l2⟩ := p
          rw [hp] at h
          have g := pieceP_lt (fun t2 l3 h3 => altP_le f _ _ _ _ _ h3) hp
          have := altP_le f _ _ _ _ _ h
          omega
theorem piece_lt (f : Nat) {l l1 : Bs} {t : Rx} (h : pieceP (altP f [] []) l = some (t, l1)) : l1.length < l.length := pieceP_lt (fun _ _ h3 => altP_le f _ _ _ _ _ h3) h
/-- one step of the reader of rows -/
theorem altP_end {f : Nat} {rows row : List Rx} {l : Bs} (h : l.isEmpty = true ∨ isNext 41 l = true) : altP (f + 1) rows row l = some (togR 2 (rows ++ [togR 1 row]), l) := by
  rw [altP, if_pos (by rcases h with h | h <;> simp [h])]
theorem altP_bar {f : Nat} {rows row : List Rx} {l : Bs} (h : isNext 124 l = true) : altP (f + 1) rows row l = altP f (rows ++ [togR 1 row]) [] l.tail := by
  rw [altP]
  cases l with
  | nil => cases h
  | cons x l =>
    simp [isNext] at h
    subst h
    rfl
theorem altP_piece {f : Nat} {rows row : List Rx} {l : Bs} (h0 : l.isEmpty = false) (h1 : isNext 41 l = false) (h2 : isNext 124 l = false) :
    altP (f + 1) rows row l = match pieceP (altP f [] []) l with | none => none | some (x, l1) => altP f rows (row ++ [x]) l1 := by
  rw [altP, h0, h1, h2]
  rfl
end Go.Proofs.Ytdmajbdgjjmlkaa
