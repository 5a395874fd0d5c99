/- Patterns in brackets, put together, are read as the expressions put together: plain facts. No conditions. -/
import Derived.Test.YthejkelnjimogaaDoorPrm
namespace Go.Proofs.YthejkelnjimogaaDoor
open Go.RowKit
set_option linter.unusedVariables false

/-- an expression in brackets -/
def inB2 (l : Bs) : Bs := 40 :: (l ++ [41])
theorem inB2_at (l rest : Bs) : inB2 l ++ rest = 40 :: (l ++ 41 :: rest) := by simp [inB2]
/-- reading a text as an expression, whatever stands behind it that ends it -/
def Mp (l : Bs) (t : Rx) : Prop := ∀ f rest, brk rest → (l ++ rest).length < f → altP f [] [] (l ++ rest) = some (t, rest)
theorem Mp_of {t : Rx} (h : may t) : Mp (patR t) t := (back_all t h).1
theorem Mp_at {l : Bs} {t : Rx} (h : Mp l t) : altP (l.length + 1) [] [] l = some (t, []) := by
  have := h (l.length + 1) [] (.inl rfl) (by simp)
  simpa using this
theorem atom_in {l : Bs} {t : Rx} (h : Mp l t) (f : Nat) (rest : Bs) (hf : (inB2 l ++ rest).length ≤ f) : atomP (altP f [] []) (inB2 l ++ rest) = some (t, rest) := by
  rw [inB2_at] at hf ⊢
  have hm := h f (41 :: rest) (.inr rfl) (by simp at hf ⊢; omega)
  unfold atomP
  rw [if_pos (by rfl)]
  simp only [List.tail_cons]
  rw [hm]
  rfl
/-- a text read as a piece -/
def Pp (l : Bs) (t : Rx) : Prop := (∃ tl, l = 40 :: tl) ∧ ∀ f rest, nosign rest → (l ++ rest).length ≤ f → pieceP (altP f [] []) (l ++ rest) = some (t, rest)
theorem Pp_in {l : Bs} {t : Rx} (h : Mp l t) : Pp (inB2 l) t :=
  ⟨⟨_, rfl⟩, fun f rest hr hf => piece_plain _ _ _ _ hr (atom_in h f rest hf)⟩
theorem Pp_sign {l : Bs} {t : Rx} (h : Mp l t) (mn mx : Int) (hat : areT mn mx = true) : Pp (inB2 l ++ signS mn mx) (repR t mn mx) :=
  ⟨⟨_, rfl⟩, fun f rest hr hf => piece_sign _ _ _ _ _ hat rest (by rw [List.append_assoc] at hf ⊢; exact atom_in h f _ hf)⟩
/-- a piece with times in braces -/
theorem Pp_times {l q : Bs} {t : Rx} (h : Mp l t) {a b : Int} (hq : ∀ rest, timesP (q ++ rest) = some (a, b, rest)) : Pp (inB2 l ++ 123 :: q) (repR t a b) :=
  ⟨⟨_, rfl⟩, fun f rest hr hf => by
    rw [List.append_assoc] at hf ⊢
    have ha := atom_in h f (123 :: q ++ rest) hf
    unfold pieceP
    rw [ha]
    dsimp only
    rw [show isNext 42 (123 :: q ++ rest) = false from rfl, show isNext 43 (123 :: q ++ rest) = false from rfl, show isNext 63 (123 :: q ++ rest) = false from rfl, show isNext 123 (123 :: q ++ rest) = true from rfl]
    simp only [Bool.false_eq_true, if_false, if_true, List.tail_cons, List.cons_append]
    rw [hq]⟩
/-- one piece more -/
theorem step_piece {l : Bs} {t : Rx} (h : Pp l t) (f : Nat) (rows row : List Rx) (rest : Bs) (hr : nosign rest) (hf : (l ++ rest).length < f) : ∃ g, rest.length < g ∧ altP f rows row (l ++ rest) = altP g rows (row ++ [t]) rest := by
  obtain ⟨⟨tl, rfl⟩, h2⟩ := h
  cases f with
  | zero => omega
  | succ f =>
    have hp := h2 f rest hr (by omega)
    rw [altP_piece (by rfl) (by rfl) (by rfl), hp]
    refine ⟨f, ?_, rfl⟩
    simp at hf; omega
theorem Mp_one {l : Bs} {t : Rx} (h : Pp l t) : Mp l t := fun f rest hr hf => by
  obtain ⟨g, hg, he⟩ := step_piece h f [] [] rest (nosign_brk hr) hf
  rw [he, altP_brk hr hg]
  rfl
theorem nosign_in (l rest : Bs) : nosign (inB2 l ++ rest) := nosign_good rfl
theorem Mp_row {l m : Bs} {t u : Rx} (h : Pp l t) (k : Pp m u) : Mp (l ++ m) (.mk 1 0 0 0 0 0 0 [t, u]) := fun f rest hr hf => by
  obtain ⟨⟨tl, hm⟩, k2⟩ := k
  have hn : nosign (m ++ rest) := by rw [hm]; exact nosign_good rfl
  rw [List.append_assoc] at hf ⊢
  obtain ⟨g, hg, he⟩ := step_piece h f [] [] (m ++ rest) hn hf
  obtain ⟨g2, hg2, he2⟩ := step_piece ⟨⟨tl, hm⟩, k2⟩ g [] ([] ++ [t]) rest (nosign_brk hr) hg
  rw [he, he2, altP_brk hr hg2]
  rfl
theorem bar_step {g : Nat} {rows row : List Rx} {rest : Bs} (hg : (124 :: rest).length < g) : ∃ g2, rest.length < g2 ∧ altP g rows row (124 :: rest) = altP g2 (rows ++ [togR 1 row]) [] rest := by
  cases g with
  | zero => omega
  | succ g => exact ⟨g, by simp at hg; omega, by rw [altP_bar rfl]; rfl⟩
/-- two rows at the end -/
theorem two_rows {l m : Bs} {t u : Rx} (h : Pp l t) (k : Pp m u) (f : Nat) (rows : List Rx) (rest : Bs) (hr : brk rest) (hf : (l ++ 124 :: (m ++ rest)).length < f) : altP f rows [] (l ++ 124 :: (m ++ rest)) = some (togR 2 (rows ++ [t, u]), rest) := by
  obtain ⟨g, hg, he⟩ := step_piece h f rows [] (124 :: (m ++ rest)) ⟨rfl, rfl, rfl, rfl⟩ hf
  obtain ⟨g2, hg2, he2⟩ := bar_step (rows := rows) (row := [] ++ [t]) hg
  obtain ⟨g3, hg3, he3⟩ := step_piece k g2 (rows ++ [togR 1 ([] ++ [t])]) [] rest (nosign_brk hr) hg2
  rw [he, he2, he3, altP_brk hr hg3]
  simp [tog_one]
theorem Mp_two {l m : Bs} {t u : Rx} (h : Pp l t) (k : Pp m u) : Mp (l ++ 124 :: m) (.mk 2 0 0 0 0 0 0 [t, u]) := fun f rest hr hf => by
  rw [show l ++ 124 :: m ++ rest = l ++ 124 :: (m ++ rest) by simp] at hf ⊢
  rw [two_rows h k f [] rest hr hf]
  rfl
/-- the rows of an alternative, or the expression as one row -/
def rowsR (t : Rx) : List Rx := if t.kind = 2 then t.list else [t]
theorem alts_bar : ∀ (l : List Rx), l ≠ [] → (∀ x ∈ l, may x) → (∀ x ∈ l, Qt x) → (∀ x ∈ l, ∀ y ∈ x.list, Qt y) → ∀ (f : Nat) (rows : List Rx) (rest : Bs), (Lib.join (l.map (patE 2)) [124] ++ 124 :: rest).length < f →
    ∃ g, rest.length < g ∧ altP f rows [] (Lib.join (l.map (patE 2)) [124] ++ 124 :: rest) = altP g (rows ++ l) [] rest
  | [], h, _, _, _, _, _, _, _ => absurd rfl h
  | [x], _, hm, hQ, hQs, f, rows, rest, hf => by
    obtain ⟨r, e1, e2, e3, e4⟩ := seg x (hm x (by simp)) (hQ x (by simp)) (hQs x (by simp))
    rw [List.map_cons, List.map_nil, Lib.join_one, e1] at hf ⊢
    obtain ⟨g, hg, he⟩ := row_parse r e3 e4 f rows [] (124 :: rest) (.inr rfl) hf
    obtain ⟨g2, hg2, he2⟩ := bar_step (rows := rows) (row := [] ++ r) hg
    exact ⟨g2, hg2, by rw [he, he2, List.nil_append, e2]⟩
  | x :: y :: l, _, hm, hQ, hQs, f, rows, rest, hf => by
    obtain ⟨r, e1, e2, e3, e4⟩ := seg x (hm x (by simp)) (hQ x (by simp)) (hQs x (by simp))
    have ej : Lib.join ((x :: y :: l).map (patE 2)) [124] ++ 124 :: rest = cat r ++ (124 :: (Lib.join ((y :: l).map (patE 2)) [124] ++ 124 :: rest)) := by
      rw [List.map_cons, Lib.join_cons, e1, List.map_cons, Lib.join_cons]
      simp [Lib.joinTail]
    rw [ej] at hf ⊢
    obtain ⟨g, hg, he⟩ := row_parse r e3 e4 f rows [] (124 :: (Lib.join ((y :: l).map (patE 2)) [124] ++ 124 :: rest)) (.inr rfl) hf
    obtain ⟨g2, hg2, he2⟩ := bar_step (rows := rows) (row := [] ++ r) hg
    obtain ⟨g3, hg3, he3⟩ := alts_bar (y :: l) (by simp) (fun z hz => hm z (by simp [hz])) (fun z hz => hQ z (by simp [hz])) (fun z hz => hQs z (by simp [hz])) g2 (rows ++ [x]) rest hg2
    exact ⟨g3, hg3, by rw [he, he2, List.nil_append, e2, he3]; simp⟩
theorem rows_bar {t : Rx} (h : may t) (f : Nat) (rest : Bs) (hf : (patR t ++ 124 :: rest).length < f) : ∃ g, rest.length < g ∧ altP f [] [] (patR t ++ 124 :: rest) = altP g (rowsR t) [] rest := by
  have B := back_all t h
  by_cases hk : t.kind = 2
  · obtain ⟨k, mn, mx, s0, s1, s2, s3, l⟩ := t
    have hk' : k = 2 := hk
    subst hk'
    have hp : patR (.mk 2 mn mx s0 s1 s2 s3 l) = Lib.join (l.map (patE 2)) [124] := by
      rw [patR, if_neg (by decide), if_pos rfl, patL_map]
    have hl : l ≠ [] := by
      rcases h.kinds with ⟨h0, _⟩ | ⟨h0, _⟩ | ⟨_, _, _, _, _, _, _, hl⟩ | ⟨h0, _⟩
      · cases h0
      · cases h0
      · intro e; subst e; simp at hl
      · cases h0
    rw [hp] at hf ⊢
    obtain ⟨g, hg, he⟩ := alts_bar l hl h.each (fun x hx => (back_all x (h.each x hx)).2.1) (fun x hx => (back_all x (h.each x hx)).2.2) f [] rest hf
    exact ⟨g, hg, by rw [he]; simp [rowsR, Rx.kind, Rx.list]⟩
  · obtain ⟨r, e1, e2, e3, e4⟩ := seg t h B.2.1 B.2.2
    have hp : patR t = cat r := by
      rw [← e1]; unfold patE
      rw [if_neg]
      unfold needR
      simp [hk]
    rw [hp] at hf ⊢
    obtain ⟨g, hg, he⟩ := row_parse r e3 e4 f [] [] (124 :: rest) (.inr rfl) hf
    obtain ⟨g2, hg2, he2⟩ := bar_step (rows := []) (row := [] ++ r) hg
    exact ⟨g2, hg2, by rw [he, he2]; simp only [List.nil_append]; rw [e2]; simp [rowsR, hk]⟩
theorem Mp_rows {a b : Rx} (ha : may a) (hb : may b) : Mp (patR a ++ 124 :: (inB2 (patR a) ++ 124 :: inB2 (patR b))) (.mk 2 0 0 0 0 0 0 (rowsR a ++ [a, b])) := fun f rest hr hf => by
  rw [show patR a ++ 124 :: (inB2 (patR a) ++ 124 :: inB2 (patR b)) ++ rest = patR a ++ 124 :: (inB2 (patR a) ++ 124 :: (inB2 (patR b) ++ rest)) by simp] at hf ⊢
  obtain ⟨g, hg, he⟩ := rows_bar ha f _ hf
  rw [he, two_rows (Pp_in (Mp_of ha)) (Pp_in (Mp_of hb)) g (rowsR a) rest hr hg, tog_many]
  simp
theorem may_two {k : Int} (hk : k = 1 ∨ k = 2) {l : List Rx} (hl : 2 ≤ l.length) (h : ∀ x ∈ l, may x) : may (.mk k 0 0 0 0 0 0 l) := by
  rw [← tog_many k l (by omega)]
  exact may_tog k hk l (fun _ e => by rw [e] at hl; simp at hl) h
theorem may_rowsR {a b : Rx} (ha : may a) (hb : may b) : ∀ x ∈ rowsR a ++ [a, b], may x := by
  intro x hx
  simp only [List.mem_append, List.mem_cons, List.not_mem_nil, or_false] at hx
  rcases hx with hx | rfl | rfl
  · unfold rowsR at hx
    split at hx
    · obtain ⟨k, mn, mx, s0, s1, s2, s3, l⟩ := a
      exact ha.each x hx
    · simp at hx; subst hx; exact ha
  · exact ha
  · exact hb
end Go.Proofs.YthejkelnjimogaaDoor
