/- The lines of a text, without their ends, as a pure function. No conditions but those that each theorem names. -/
import Derived.Test.YtmclcobklcjmnaaDoorApl
import Derived.Test.YtmclcobklcjmnaaDoorLst
namespace Go.Proofs.YtmclcobklcjmnaaDoor
open Go.RowKit Go.Maps
set_option linter.unusedVariables false
set_option linter.unusedSimpArgs false

def linesB : Bs → List Bs
  | [] => []
  | x :: l => if x = 10 then [] :: linesB l else match linesB l with
    | [] => [[x]]
    | y :: r => (x :: y) :: r
theorem lines_end (l : Bs) : linesB (10 :: l) = [] :: linesB l := rfl
theorem lines_in {x : UInt8} (h : x ≠ 10) (l : Bs) : linesB (x :: l) = match linesB l with
    | [] => [[x]]
    | y :: r => (x :: y) :: r := if_neg h
theorem cut_end (c : UInt8) (l : Bs) : cutB c (c :: l) = ([], l, true) := if_pos rfl
theorem cut_in {c x : UInt8} (h : x ≠ c) (l : Bs) : cutB c (x :: l) = (x :: (cutB c l).1, (cutB c l).2.1, (cutB c l).2.2) := if_neg h
theorem lines_cut : ∀ (l : Bs), l ≠ [] → linesB l = (cutB 10 l).1 :: linesB (cutB 10 l).2.1
  | [], h => absurd rfl h
  | x :: l, _ => by
    by_cases h : x = 10
    · subst h
      rw [lines_end, cut_end]
    · rw [lines_in h, cut_in h]
      cases l with
      | nil => rfl
      | cons y l =>
        rw [lines_cut (y :: l) (by simp)]
theorem cut_rest_lt : ∀ (c : UInt8) (l : Bs), l ≠ [] → (cutB c l).2.1.length < l.length
  | c, [], h => absurd rfl h
  | c, x :: l, _ => by
    unfold cutB
    split
    · exact Nat.lt_succ_self _
    · cases l with
      | nil => simp [cutB]
      | cons y l => have := cut_rest_lt c (y :: l) (by simp); simp at this ⊢; omega
theorem cut_fst_len (c : UInt8) : ∀ (l : Bs), (cutB c l).1.length ≤ l.length
  | [] => Nat.le_refl _
  | x :: l => by
    unfold cutB
    split
    · exact Nat.zero_le _
    · have := cut_fst_len c l; simp; exact this
theorem lines_app : ∀ (a l : Bs), (10 : UInt8) ∉ a → linesB (a ++ 10 :: l) = a :: linesB l
  | [], l, _ => by simp [linesB]
  | x :: a, l, h => by
    have hx : x ≠ 10 := fun e => h (by simp [e])
    have ha := lines_app a l (fun e => h (by simp [e]))
    rw [List.cons_append, lines_in hx, ha]
/-- A text in two pieces, the first of whole lines: its lines are those of the one, then those of the other. -/
theorem lines_join : ∀ (ls : List Bs) (l : Bs), (∀ a ∈ ls, (10 : UInt8) ∉ a) → linesB (ls.flatMap (fun a => a ++ [10]) ++ l) = ls ++ linesB l
  | [], l, _ => rfl
  | a :: r, l, h => by
    rw [List.flatMap_cons, List.append_assoc, List.append_assoc, List.singleton_append, lines_app a _ (h a (by simp)), lines_join r l (fun b hb => h b (by simp [hb]))]
    rfl
theorem lines_count (l : Bs) : (linesB l).length ≤ l.length := by
  induction l with
  | nil => exact Nat.le_refl _
  | cons x l ih =>
    unfold linesB
    split
    · simp; exact ih
    · split
      · simp
      · rename_i h
        rw [h] at ih
        simp at ih ⊢
        omega
theorem lines_len : ∀ (l a : Bs), a ∈ linesB l → a.length ≤ l.length
  | [], a, h => by cases h
  | x :: l, a, h => by
    rw [lines_cut (x :: l) (by simp)] at h
    rcases List.mem_cons.1 h with rfl | h
    · exact cut_fst_len 10 (x :: l)
    · have h1 := cut_rest_lt 10 (x :: l) (by simp)
      have h2 := lines_len _ a h
      omega
  termination_by l => l.length
  decreasing_by exact cut_rest_lt 10 (x :: l) (by simp)
/-- What a program's words are, four bytes each. -/
def wordsB : Bs → List Bs
  | b0 :: b1 :: b2 :: b3 :: r => [b0, b1, b2, b3] :: wordsB r
  | _ => []
theorem lis_lines : ∀ (l : Bs), lisP l = ((wordsB l).map linS).flatMap (fun a => a ++ [10])
  | b0 :: b1 :: b2 :: b3 :: r => by
    unfold lisP wordsB
    rw [List.map_cons, List.flatMap_cons, lis_lines r, List.append_assoc]
    rfl
  | [] => rfl
  | [_] => rfl
  | [_, _] => rfl
  | [_, _, _] => rfl
theorem words_join : ∀ (l : Bs), l.length % 4 = 0 → (wordsB l).flatten = l
  | b0 :: b1 :: b2 :: b3 :: r, h => by
    unfold wordsB
    rw [List.flatten_cons, words_join r (by simp at h; omega)]
    rfl
  | [], _ => rfl
  | [_], h => by simp at h
  | [_, _], h => by simp at h
  | [_, _, _], h => by simp at h
theorem words_four : ∀ (l q : Bs), q ∈ wordsB l → q.length = 4
  | b0 :: b1 :: b2 :: b3 :: r, q, h => by
    unfold wordsB at h
    rcases List.mem_cons.1 h with rfl | h
    · rfl
    · exact words_four r q h
  | [], _, h => by cases h
  | [_], _, h => by cases h
  | [_, _], _, h => by cases h
  | [_, _, _], _, h => by cases h
end Go.Proofs.YtmclcobklcjmnaaDoor
