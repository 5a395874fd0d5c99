/- What a pattern is read as may be; an expression's pattern is read as it: plain facts. No conditions. -/
import Derived.Test.YthejkelnjimogaaDoorPmp
import Derived.Test.YthejkelnjimogaaDoorPri
namespace Go.Proofs.YthejkelnjimogaaDoor
open Go.RowKit
set_option linter.unusedVariables false

theorem sizeL_pos (m : Nat) : ∀ (l : List Rx) (acc : Nat), acc ≠ 0 → (∀ x ∈ l, sizeR x ≠ 0) → sizeL m l acc ≠ 0
  | [], acc, h, _ => by rw [sizeL]; exact h
  | x :: l, acc, h, hx => by
    rw [sizeL, if_neg (hx x (by simp))]
    exact sizeL_pos m l _ (by omega) (fun y hy => hx y (by simp [hy]))
theorem okL_mk : ∀ (l : List Rx), (∀ x ∈ l, okR x) → okL l
  | [], _ => by simp [okL]
  | x :: l, h => by rw [okL]; exact ⟨h x (by simp), okL_mk l (fun y hy => h y (by simp [hy]))⟩
theorem may_mk {k mn mx : Int} {l : List Rx} (hf : formF k mn mx 0 0 0 0 l.length = true) (h : ∀ x ∈ l, may x) : may (.mk k mn mx 0 0 0 0 l) := by
  refine ⟨?_, ?_⟩
  · rw [sizeR, if_pos hf]
    exact sizeL_pos _ l 1 (by omega) (fun x hx => (h x hx).1)
  · rw [okR]
    exact ⟨by simp, okL_mk l (fun x hx => (h x hx).2)⟩
theorem may_set {s : S4} (hs : s.ok) (hz : s ≠ S4.zero) : may (anyR s) := by
  obtain ⟨a, b, c, d⟩ := s
  obtain ⟨h1, h2, h3, h4⟩ := hs
  dsimp only at h1 h2 h3 h4
  unfold anyR
  dsimp only
  have hn : noS (a : Int) (b : Int) (c : Int) (d : Int) = false := by
    cases hh : noS (a : Int) (b : Int) (c : Int) (d : Int) with
    | false => rfl
    | true =>
      exfalso
      apply hz
      simp [noS] at hh
      simp [S4.zero, hh]
  refine ⟨?_, ?_⟩
  · rw [sizeR, if_pos (by simp [formF, hn]), sizeL]; omega
  · rw [okR]; exact ⟨by omega, by simp [okL]⟩
theorem may_tog (k : Int) (hk : k = 1 ∨ k = 2) (l : List Rx) (hl : k = 2 → l ≠ []) (h : ∀ x ∈ l, may x) : may (togR k l) := by
  by_cases h1 : l.length = 1
  · obtain ⟨x, rfl⟩ := List.length_eq_one_iff.1 h1
    exact h x (by simp)
  · rw [tog_many k l h1]
    refine may_mk ?_ h
    rcases hk with rfl | rfl
    · simp [formF, noS, h1]
    · have : l.length ≠ 0 := fun e => hl rfl (List.length_eq_zero_iff.1 e)
      simp [formF, noS]; omega
theorem may_rep {y : Rx} (h : may y) {mn mx : Int} (hat : areT mn mx = true) : may (repR y mn mx) :=
  may_mk (by simp [formF, noS, hat]) (fun x hx => by simp at hx; subst hx; exact h)
theorem rowsP_ok : ∀ (f : Nat) (T s : S4) (l l1 : Bs), T.ok → rowsP f T l = some (s, l1) → s.ok
  | 0, _, _, _, _, _, h => by cases h
  | f + 1, T, s, l, l1, hT, h => by
    unfold rowsP at h
    cases h1 : spanP l with
    | none => rw [h1] at h; cases h
    | some p =>
      obtain ⟨lo, hi, l2⟩ := p
      rw [h1] at h
      dsimp only at h
      split at h
      · simp only [Option.some.injEq, Prod.mk.injEq] at h
        rw [← h.1]; exact hT.with' lo hi
      · exact rowsP_ok f _ s l2 l1 (hT.with' lo hi) h
theorem setP_ok {l l1 : Bs} {s : S4} (h : setP l = some (s, l1)) : s.ok ∧ s ≠ S4.zero := by
  have key : ∀ (n : Bool) (l0 : Bs), endS n (rowsS S4.zero l0) = some (s, l1) → s.ok ∧ s ≠ S4.zero := fun n l0 he => by
    unfold rowsS at he
    cases hr : rowsP (l0.length + 1) S4.zero l0 with
    | none => rw [hr] at he; cases he
    | some p =>
      obtain ⟨s2, l2⟩ := p
      rw [hr] at he
      have a := rowsP_ok _ _ _ _ _ zero_ok hr
      unfold endS at he
      dsimp only at he
      by_cases hz : (if n then s2.others else s2) = S4.zero
      · rw [if_pos hz] at he; cases he
      · rw [if_neg hz] at he
        simp only [Option.some.injEq, Prod.mk.injEq] at he
        rw [← he.1]
        refine ⟨?_, hz⟩
        cases n
        · exact a
        · exact a.others'
  rw [setP_eq] at h
  split at h
  · exact key _ _ h
  · exact key _ _ h
theorem byte_ne (b : Nat) (hb : b ≤ 255) : S4.zero.with b b ≠ S4.zero := fun h => by
  have := S4.has_with S4.zero b b b (Nat.le_refl _) hb hb
  rw [h, S4.zero_has] at this
  simp at this
theorem atomP_may {alt : Bs → Option (Rx × Bs)} (hA : ∀ l t l1, alt l = some (t, l1) → may t) {l l1 : Bs} {t : Rx} (h : atomP alt l = some (t, l1)) : may t := by
  unfold atomP at h
  split at h
  · cases ha : alt l.tail with
    | none => rw [ha] at h; cases h
    | some p =>
      obtain ⟨t2, l2⟩ := p
      rw [ha] at h
      dsimp only at h
      cases h4 : wantP 41 l2 with
      | none => rw [h4] at h; cases h
      | some l5 =>
        rw [h4] at h
        simp only [Option.some.injEq, Prod.mk.injEq] at h
        rw [← h.1]; exact hA _ _ _ ha
  · split at h
    · cases hs : setP l.tail with
      | none => rw [hs] at h; cases h
      | some p =>
        obtain ⟨s, l2⟩ := p
        rw [hs] at h
        simp only [Option.some.injEq, Prod.mk.injEq] at h
        rw [← h.1]
        exact may_set (setP_ok hs).1 (setP_ok hs).2
    · split at h
      · simp only [Option.some.injEq, Prod.mk.injEq] at h
        rw [← h.1]; exact may_set S4.full_ok (by decide)
      · cases hb : byteP rowBar l with
        | none => rw [hb] at h; cases h
        | some p =>
          obtain ⟨n, l2⟩ := p
          rw [hb] at h
          simp only [Option.some.injEq, Prod.mk.injEq] at h
          rw [← h.1]
          exact may_set (zero_ok.with' n n) (byte_ne n (byteP_le hb).1)
theorem timesP_at {l l1 : Bs} {a b : Int} (h : timesP l = some (a, b, l1)) : areT a b = true := by
  unfold timesP at h
  cases h1 : numberP l with
  | none => rw [h1] at h; cases h
  | some p =>
    obtain ⟨n, l2⟩ := p
    rw [h1] at h
    have g1 := numberP_le h1
    dsimp only at h
    split at h
    · simp only [Option.some.injEq, Prod.mk.injEq] at h
      rw [← h.1, ← h.2.1, areT_iff]; omega
    · cases h2 : wantP 44 l2 with
      | none => rw [h2] at h; cases h
      | some l3 =>
        rw [h2] at h
        dsimp only at h
        split at h
        · simp only [Option.some.injEq, Prod.mk.injEq] at h
          rw [← h.1, ← h.2.1, areT_iff]; omega
        · cases h3 : numberP l3 with
          | none => rw [h3] at h; cases h
          | some p3 =>
            obtain ⟨m, l4⟩ := p3
            rw [h3] at h
            dsimp only at h
            cases h4 : wantP 125 l4 with
            | none => rw [h4] at h; cases h
            | some l5 =>
              rw [h4] at h
              dsimp only at h
              split at h
              · rename_i hq
                simp only [Option.some.injEq, Prod.mk.injEq] at h
                rw [← h.1, ← h.2.1]; exact hq
              · cases h
theorem pieceP_may {alt : Bs → Option (Rx × Bs)} (hA : ∀ l t l1, alt l = some (t, l1) → may t) {l l1 : Bs} {t : Rx} (h : pieceP alt l = some (t, l1)) : may t := by
  unfold pieceP at h
  cases ha : atomP alt l with
  | none => rw [ha] at h; cases h
  | some p =>
    obtain ⟨t2, l2⟩ := p
    rw [ha] at h
    have g := atomP_may hA ha
    dsimp only at h
    split at h
    · simp only [Option.some.injEq, Prod.mk.injEq] at h
      rw [← h.1]; exact may_rep g (by decide)
    · split at h
      · simp only [Option.some.injEq, Prod.mk.injEq] at h
        rw [← h.1]; exact may_rep g (by decide)
      · split at h
        · simp only [Option.some.injEq, Prod.mk.injEq] at h
          rw [← h.1]; exact may_rep g (by decide)
        · split at h
          · cases ht : timesP l2.tail with
            | none => rw [ht] at h; cases h
            | some q =>
              obtain ⟨x, y, l3⟩ := q
              rw [ht] at h
              simp only [Option.some.injEq, Prod.mk.injEq] at h
              rw [← h.1]; exact may_rep g (timesP_at ht)
          · simp only [Option.some.injEq, Prod.mk.injEq] at h
            rw [← h.1]; exact g
theorem altP_may : ∀ (f : Nat) (rows row : List Rx) (l l1 : Bs) (t : Rx), (∀ x ∈ rows, may x) → (∀ x ∈ row, may x) → altP f rows row l = some (t, l1) → may t
  | 0, _, _, _, _, _, _, _, h => by cases h
  | f + 1, rows, row, l, l1, t, hrs, hr, h => by
    have h1 : may (togR 1 row) := may_tog 1 (.inl rfl) row (fun e => by cases e) hr
    have hrs2 : ∀ x ∈ rows ++ [togR 1 row], may x := fun x hx => by
      rcases List.mem_append.1 hx with hx | hx
      · exact hrs x hx
      · simp at hx; subst hx; exact h1
    unfold altP at h
    split at h
    · simp only [Option.some.injEq, Prod.mk.injEq] at h
      rw [← h.1]
      exact may_tog 2 (.inr rfl) _ (fun _ => by simp) hrs2
    · split at h
      · exact altP_may f _ _ _ _ _ hrs2 (fun x hx => by cases hx) h
      · cases hp : pieceP (altP f [] []) l with
        | none => rw [hp] at h; cases h
        | some p =>
          obtain ⟨x, l2⟩ := p
          rw [hp] at h
          have g := pieceP_may (fun l t l1 => altP_may f [] [] l l1 t (fun x hx => by cases hx) (fun x hx => by cases hx)) hp
          exact altP_may f _ _ _ _ _ hrs (fun y hy => by
            rcases List.mem_append.1 hy with hy | hy
            · exact hr y hy
            · simp at hy; subst hy; exact g) h
/-- what a pattern is read as may be -/
theorem parse_may {l : Bs} {t : Rx} {n : Int} (h : parseS l = (some t, n)) : n = 0 ∧ may t ∧ sizeR t ≠ 257 := by
  unfold parseS at h
  split at h
  · cases h
  · cases ha : altP (l.length + 1) [] [] l with
    | none => rw [ha] at h; cases h
    | some p =>
      obtain ⟨e, l1⟩ := p
      rw [ha] at h
      dsimp only at h
      split at h
      · cases h
      · split at h
        · cases h
        · simp only [Prod.mk.injEq, Option.some.injEq] at h
          obtain ⟨rfl, rfl⟩ := h
          exact ⟨rfl, altP_may _ _ _ _ _ _ (fun x hx => by cases hx) (fun x hx => by cases hx) ha, by assumption⟩
theorem parse_err {l : Bs} {n : Int} (h : parseS l = (none, n)) : n = 50 ∨ n = 51 := by
  unfold parseS at h
  split at h
  · simp at h; omega
  · cases ha : altP (l.length + 1) [] [] l with
    | none => rw [ha] at h; simp at h; omega
    | some p =>
      obtain ⟨e, l1⟩ := p
      rw [ha] at h
      dsimp only at h
      split at h
      · simp at h; omega
      · split at h
        · simp at h; omega
        · simp at h
/-- a text that is read to its end as an expression -/
theorem parse_of {l : Bs} {t : Rx} (h : altP (l.length + 1) [] [] l = some (t, [])) : parseS l = if 128 < l.length then (none, 51) else if sizeR t = 257 then (none, 51) else (some t, 0) := by
  unfold parseS
  split
  · rfl
  · rw [h]
    rfl
theorem parse_back {t : Rx} (h : may t) : parseS (patR t) = if 128 < (patR t).length then (none, 51) else if sizeR t = 257 then (none, 51) else (some t, 0) := by
  have := (back_all t h).1 ((patR t).length + 1) [] (.inl rfl) (by simp)
  rw [List.append_nil] at this
  exact parse_of this
theorem check_zero {t : Rx} (h : may t) (h2 : sizeR t ≠ 257) : checkR t = 0 := by unfold checkR; rw [if_neg h.1, if_neg h2]
/-- what is printed is read back -/
theorem print_back {t : Rx} (ho : okR t) (h : (printS t).2 = 0) : checkR t = 0 ∧ may t ∧ parseS (printS t).1 = (some t, 0) ∧ (printS t).1 = patR t ∧ (patR t).length ≤ 128 := by
  unfold printS at h ⊢
  by_cases hc : checkR t = 0
  · rw [if_neg (by simp [hc])] at h ⊢
    by_cases hl : 128 < (patR t).length
    · rw [if_pos hl] at h; cases h
    · rw [if_neg hl] at h ⊢
      have hg := check_good hc ho
      have hm : may t := ⟨hg.1, ho⟩
      refine ⟨hc, hm, ?_, rfl, by omega⟩
      rw [parse_back hm, if_neg hl, if_neg hg.2.1]
  · rw [if_pos hc] at h
    exact absurd h hc
theorem print_long {t : Rx} (h : may t) (h2 : sizeR t ≠ 257) : printS t = (patR t, 0) ∨ printS t = ([], 51) := by
  unfold printS
  rw [if_neg (by simp [check_zero h h2])]
  split
  · exact .inr rfl
  · exact .inl rfl
theorem print_kinds (t : Rx) : (printS t).2 = 0 ∨ (printS t).2 = 51 ∨ (printS t).2 = 52 := by
  unfold printS
  by_cases hc : checkR t = 0
  · rw [if_neg (by simp [hc])]
    split
    · right; left; rfl
    · left; rfl
  · rw [if_pos hc]
    show checkR t = 0 ∨ checkR t = 51 ∨ checkR t = 52
    unfold checkR
    split
    · right; right; rfl
    · split
      · right; left; rfl
      · left; rfl
end Go.Proofs.YthejkelnjimogaaDoor
