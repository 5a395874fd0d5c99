/- Numbers and texts that are laid one behind the other: plain facts, and how they lie in memory. No conditions. -/
import Derived.Test.YtjehjkibgaeibaaOnw
import Derived.Lib.AppendStr
namespace Go.Proofs.Ytjehjkibgaeibaa
open Go.RowKit
set_option linter.unusedVariables false

/-- a number in w bytes, or, with a width that is none, a text -/
structure Thg where
  n : Int
  w : Int
  s : ByteArray
/-- may it be laid? -/
def Thg.good (x : Thg) : Bool := isW x.w || decide (x.s.size ≤ 1024)
def Thg.form (x : Thg) : List UInt8 := if isW x.w = true then putS x.n x.w.toNat else textS x.s.data.toList
def goods (l : List Thg) : List Thg := l.filter Thg.good
def laid (l : List Thg) : List UInt8 := l.flatMap Thg.form
def Thg.cells (x : Thg) : List Value := [.int .i64 x.n, .int .i64 x.w, .string x.s]
def rows (l : List Thg) : List Value := l.flatMap Thg.cells

theorem goods_yes {l : List Thg} {x : Thg} (h : x.good = true) : goods (l ++ [x]) = goods l ++ [x] := by
  unfold goods; rw [List.filter_append, List.filter_cons_of_pos h]; rfl
theorem goods_no {l : List Thg} {x : Thg} (h : x.good = false) : goods (l ++ [x]) = goods l := by
  unfold goods; rw [List.filter_append, List.filter_cons_of_neg (by simp [h])]; simp
theorem laid_snoc (l : List Thg) (x : Thg) : laid (l ++ [x]) = laid l ++ x.form := by unfold laid; simp
theorem rows_snoc (l : List Thg) (x : Thg) : rows (l ++ [x]) = rows l ++ x.cells := by unfold rows; simp
theorem rows_length (l : List Thg) : (rows l).length = l.length * 3 := by
  induction l with
  | nil => rfl
  | cons x l ih => show (x.cells ++ rows l).length = _; rw [List.length_append, ih, List.length_cons]; show 3 + l.length * 3 = _; omega
theorem rows_at (l : List Thg) (i : Nat) (h : i < l.length) : (rows l)[3 * i]? = some (.int .i64 l[i].n) ∧ (rows l)[3 * i + 1]? = some (.int .i64 l[i].w) ∧ (rows l)[3 * i + 2]? = some (.string l[i].s) := by
  induction l generalizing i with
  | nil => simp at h
  | cons x l ih =>
    cases i with
    | zero => exact ⟨rfl, rfl, rfl⟩
    | succ i =>
      have hl : x.cells.length = 3 := rfl
      have := ih i (by simpa using h)
      have e : rows (x :: l) = x.cells ++ rows l := rfl
      rw [e, List.getElem?_append_right (by omega), List.getElem?_append_right (by omega), List.getElem?_append_right (by omega), hl, show 3 * (i + 1) - 3 = 3 * i by omega, show 3 * (i + 1) + 1 - 3 = 3 * i + 1 by omega, show 3 * (i + 1) + 2 - 3 = 3 * i + 2 by omega]
      exact this
theorem form_ne (x : Thg) : x.form ≠ [] := by
  unfold Thg.form
  split
  · rename_i h
    unfold isW at h
    have h := of_decide_eq_true h
    intro e
    have := congrArg List.length e
    rw [putS_length] at this
    simp at this; omega
  · unfold textS
    intro e
    have := congrArg List.length e
    rw [List.length_append, putS_length] at this
    simp at this
theorem form_le (x : Thg) : x.form.length ≤ x.s.size + 8 := by
  unfold Thg.form
  split
  · rename_i h
    unfold isW at h
    have h := of_decide_eq_true h
    rw [putS_length]; omega
  · unfold textS
    rw [List.length_append, putS_length]
    have : x.s.data.toList.length = x.s.size := by simp
    omega
/-- how much they are at the most -/
def bulk (l : List Thg) : Nat := (l.map fun x => x.s.size + 8).sum
theorem laid_le (l : List Thg) : (laid (goods l)).length ≤ bulk l := by
  induction l with
  | nil => exact Nat.le_refl _
  | cons x l ih =>
    have hb : bulk (x :: l) = x.s.size + 8 + bulk l := by unfold bulk; simp
    have hf := form_le x
    rw [hb]
    by_cases hx : x.good = true
    · have e : goods (x :: l) = x :: goods l := List.filter_cons_of_pos hx
      have e2 : laid (x :: goods l) = x.form ++ laid (goods l) := rfl
      rw [e, e2, List.length_append]; omega
    · have e : goods (x :: l) = goods l := List.filter_cons_of_neg hx
      rw [e]; omega
theorem bulk_append (l m : List Thg) : bulk (l ++ m) = bulk l + bulk m := by unfold bulk; simp
theorem goods_length (l : List Thg) : (goods l).length ≤ l.length := List.length_filter_le _ _
theorem bulk_take (l : List Thg) (k : Nat) : bulk (l.take k) ≤ bulk l := by
  have h := bulk_append (l.take k) (l.drop k)
  rw [List.take_append_drop] at h
  omega

/-- things that came in, as they lie in memory -/
def ThgAt (w : World) (ao : Option Addr) (l : List Thg) : Prop :=
  ∀ i (h : i < l.length), ∃ b off, ao = some ⟨b, off, none⟩ ∧ w.cell? ⟨b, off + i * 3, none⟩ = some (.int .i64 l[i].n) ∧ w.cell? ⟨b, off + i * 3 + 1, none⟩ = some (.int .i64 l[i].w) ∧ w.cell? ⟨b, off + i * 3 + 2, none⟩ = some (.string l[i].s) ∧ b < w.heap.size
theorem owns_two {w : World} {B C : Nat} {e f : TypeId} {p q : Nat} {u v : Value} {m n : Nat} {xs ys : List Value} (h : w.ownsRow B e p u m xs) (k : w.ownsRow C f q v n ys) (hef : e ≠ f) (hv : v ≠ .slice none 0 0) : u.ownBlock = none ∨ u.ownBlock ≠ v.ownBlock := by
  obtain ⟨_, h2⟩ := h
  obtain ⟨_, k2⟩ := k
  rcases h2 with ⟨rfl, _⟩ | ⟨g, cap, cur, rfl, _, hg, _⟩
  · exact .inl rfl
  · rcases k2 with ⟨rfl, _⟩ | ⟨g', cap', cur', rfl, _, hg', _⟩
    · exact absurd rfl hv
    · right
      intro e
      simp only [Value.ownBlock, Option.some.injEq] at e
      subst e
      rw [hg] at hg'
      simp only [Option.some.injEq, Obj.cells.injEq] at hg'
      exact hef hg'.2.1
theorem owns_shape {w : World} {B : Nat} {e : TypeId} {p : Nat} {u : Value} {m : Nat} {xs : List Value} (h : w.ownsRow B e p u m xs) (hu : u ≠ .slice none 0 0) : ∃ g cap, u = .slice (some ⟨g, 0, none⟩) m cap ∧ B ≤ g := by
  obtain ⟨_, h2⟩ := h
  rcases h2 with ⟨rfl, _⟩ | ⟨g, cap, cur, rfl, hb, _⟩
  · exact absurd rfl hu
  · exact ⟨g, cap, rfl, hb⟩
end Go.Proofs.Ytjehjkibgaeibaa
