/- A text behind another: its lines, and what is put behind what. No conditions. -/
import Derived.Test.YtmclcobklcjmnaaDoorBac
namespace Go.Proofs.YtmclcobklcjmnaaDoor
open Go.RowKit Go.Maps
set_option linter.unusedVariables false
set_option linter.unusedSimpArgs false
theorem adds_cons (S : St) (n : Nat) (l : Bs) (r : List Bs) : addsP S n (l :: r) = match addP S l ((n : Int) + 1) with
    | .inl c => .inl (c, (n : Int) + 1)
    | .inr S' => addsP S' (n + 1) r := rfl
theorem adds_append : ∀ (a b : List Bs) (S : St) (n : Nat), addsP S n (a ++ b) = match addsP S n a with
    | .inl c => .inl c
    | .inr S' => addsP S' (n + a.length) b
  | [], b, S, n => by simp [addsP]
  | l :: a, b, S, n => by
    rw [List.cons_append, adds_cons, adds_cons]
    cases h : addP S l ((n : Int) + 1) with
    | inl c => rfl
    | inr S' =>
      dsimp only
      rw [adds_append a b S' (n + 1), List.length_cons, show n + 1 + a.length = n + (a.length + 1) from by omega]
/-- does a line begin behind it? -/
def freshB : Bs → Bool
  | [] => true
  | [x] => x == 10
  | _ :: y :: l => freshB (y :: l)
theorem lines_ne (x : UInt8) (l : Bs) : linesB (x :: l) ≠ [] := by
  rw [lines_cut (x :: l) (by simp)]; simp
/-- The lines of two texts with a line feed between: those of the one, an empty one where the first ends a line itself, those of the other. -/
theorem lines_glue : ∀ (a b : Bs), linesB (a ++ 10 :: b) = linesB a ++ ((if freshB a = true then [[]] else []) ++ linesB b)
  | [], b => rfl
  | [x], b => by
    by_cases h : x = 10
    · subst h; rfl
    · rw [show [x] ++ (10 :: b) = x :: 10 :: b from rfl, lines_in h, lines_in h, lines_end]
      have : freshB [x] = false := by unfold freshB; simpa using h
      rw [this]
      simp [linesB]
  | x :: y :: l, b => by
    have ih := lines_glue (y :: l) b
    rw [show freshB (x :: y :: l) = freshB (y :: l) from rfl, List.cons_append]
    by_cases h : x = 10
    · subst h
      rw [lines_end, lines_end, ih]; rfl
    · rw [lines_in h, lines_in h, ih]
      cases hl : linesB (y :: l) with
      | nil => exact absurd hl (lines_ne y l)
      | cons z r => rfl
/-- an empty line puts nothing -/
theorem add_empty (S : St) (num : Int) : addP S [] num = .inr S := if_pos rfl
theorem adds_empty (S : St) (n : Nat) (b : List Bs) : addsP S n ([] :: b) = addsP S (n + 1) b := by
  rw [adds_cons, add_empty]
/-- Two texts, one behind the other: the second's lines are put behind the first's state, their numbers further on. -/
theorem adds_glue (a b : Bs) (S : St) (n : Nat) : addsP S n (linesB (a ++ 10 :: b)) = match addsP S n (linesB a) with
    | .inl c => .inl c
    | .inr S' => addsP S' (n + (linesB a).length + (if freshB a = true then 1 else 0)) (linesB b) := by
  rw [lines_glue, adds_append]
  cases addsP S n (linesB a) with
  | inl c => rfl
  | inr S' =>
    dsimp only
    cases freshB a with
    | true => exact adds_empty S' _ _
    | false => rfl
end Go.Proofs.YtmclcobklcjmnaaDoor
