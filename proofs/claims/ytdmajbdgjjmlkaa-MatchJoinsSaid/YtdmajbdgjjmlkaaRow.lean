/- Rows of bytes in a set as the reader's pure function tells them: plain facts. -/
import Derived.Test.YtdmajbdgjjmlkaaHex
namespace Go.Proofs.Ytdmajbdgjjmlkaa
open Go.RowKit
set_option linter.unusedVariables false

theorem hexP_le {l l1 : Bs} {n : Nat} (h : hexP l = some (n, l1)) : n < 16 ∧ l1.length < l.length := by
  refine ⟨hexP_lt h, ?_⟩
  cases l with
  | nil => cases h
  | cons c l =>
    simp only [hexP] at h
    split at h
    · simp only [Option.some.injEq, Prod.mk.injEq] at h
      rw [← h.2]; simp
    · cases h
theorem escP_le {l l1 : Bs} {n : Nat} (h : escP l = some (n, l1)) : n ≤ 255 ∧ l1.length < l.length := by
  cases l with
  | nil => cases h
  | cons c l =>
    simp only [escP] at h
    split at h
    · cases h1 : hexP l with
      | none => rw [h1] at h; cases h
      | some p =>
        obtain ⟨u, l2⟩ := p
        rw [h1] at h
        dsimp only at h
        cases h2 : hexP l2 with
        | none => rw [h2] at h; cases h
        | some p2 =>
          obtain ⟨v, l3⟩ := p2
          rw [h2] at h
          simp only [Option.some.injEq, Prod.mk.injEq] at h
          have a := hexP_le h1
          have b := hexP_le h2
          rw [← h.2]
          simp only [List.length_cons]
          omega
    · split at h
      · simp only [Option.some.injEq, Prod.mk.injEq] at h
        have := c.toNat_lt
        rw [← h.2]
        simp only [List.length_cons]
        omega
      · cases h
theorem byteP_le {bar l l1 : Bs} {n : Nat} (h : byteP bar l = some (n, l1)) : n ≤ 255 ∧ l1.length < l.length := by
  cases l with
  | nil => cases h
  | cons c l =>
    simp only [byteP] at h
    split at h
    · have := escP_le h
      simp only [List.length_cons]
      omega
    · split at h
      · cases h
      · simp only [Option.some.injEq, Prod.mk.injEq] at h
        have := c.toNat_lt
        rw [← h.2]
        simp only [List.length_cons]
        omega
theorem tail_le (l : Bs) : l.tail.length ≤ l.length := by simp
theorem spanP_le {l l1 : Bs} {lo hi : Nat} (h : spanP l = some (lo, hi, l1)) : lo ≤ 255 ∧ hi ≤ 255 ∧ l1.length < l.length := by
  unfold spanP at h
  cases h1 : byteP setBar l with
  | none => rw [h1] at h; cases h
  | some p =>
    obtain ⟨u, l2⟩ := p
    rw [h1] at h
    dsimp only at h
    have a := byteP_le h1
    split at h
    · cases h2 : byteP setBar l2.tail with
      | none => rw [h2] at h; cases h
      | some p2 =>
        obtain ⟨v, l3⟩ := p2
        rw [h2] at h
        dsimp only at h
        have b := byteP_le h2
        have c := tail_le l2
        split at h
        · cases h
        · simp only [Option.some.injEq, Prod.mk.injEq] at h
          obtain ⟨rfl, rfl, rfl⟩ := h
          omega
    · simp only [Option.some.injEq, Prod.mk.injEq] at h
      obtain ⟨rfl, rfl, rfl⟩ := h
      omega
theorem rowsP_fuel : ∀ (f g : Nat) (s : S4) (l : Bs), l.length < f → l.length < g → rowsP f s l = rowsP g s l
  | 0, _, _, _, h, _ => absurd h (by omega)
  | _ + 1, 0, _, _, _, h => absurd h (by omega)
  | f + 1, g + 1, s, l, hf, hg => by
    unfold rowsP
    cases h : spanP l with
    | none => rfl
    | some p =>
      obtain ⟨lo, hi, l1⟩ := p
      have := spanP_le h
      dsimp only
      rw [rowsP_fuel f g _ l1 (by omega) (by omega)]
/-- the rows up to the ], behind those of s -/
def rowsS (s : S4) (l : Bs) : Option (S4 × Bs) := rowsP (l.length + 1) s l
theorem rowsS_eq (s : S4) (l : Bs) : rowsS s l = match spanP l with
    | none => none
    | some (lo, hi, l1) => if isNext 93 l1 then some (s.with lo hi, l1.tail) else rowsS (s.with lo hi) l1 := by
  unfold rowsS
  conv => lhs; unfold rowsP
  cases h : spanP l with
  | none => rfl
  | some p =>
    obtain ⟨lo, hi, l1⟩ := p
    have := spanP_le h
    dsimp only
    rw [rowsP_fuel l.length (l1.length + 1) _ l1 (by omega) (by omega)]
/-- what stands of a set behind its ] -/
def endS (not : Bool) (r : Option (S4 × Bs)) : Option (S4 × Bs) :=
  match r with
  | none => none
  | some (s, l) => if (if not then s.others else s) = S4.zero then none else some (if not then s.others else s, l)
theorem setP_eq (l : Bs) : setP l = if isNext 94 l then endS true (rowsS S4.zero l.tail) else endS false (rowsS S4.zero l) := by
  unfold setP
  by_cases h : isNext 94 l = true
  · rw [if_pos h, if_pos h]
    rfl
  · rw [if_neg h, if_neg h]
    rfl
end Go.Proofs.Ytdmajbdgjjmlkaa
