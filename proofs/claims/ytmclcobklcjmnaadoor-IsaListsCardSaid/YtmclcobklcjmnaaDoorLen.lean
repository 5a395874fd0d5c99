/- A listing's lines are short enough for a listing to be a text. No conditions but those that each theorem names. -/
import Derived.Test.YtmclcobklcjmnaaDoorLbl
namespace Go.Proofs.YtmclcobklcjmnaaDoor
open Go.RowKit Go.Maps
set_option linter.unusedVariables false
set_option linter.unusedSimpArgs false

theorem dig_le : ∀ (k u : Nat), u < 10 ^ (k + 1) → Lib.nDigits u ≤ k + 1
  | 0, u, h => by rw [Lib.nDigits_small (by simpa using h)]; exact Nat.le_refl _
  | k + 1, u, h => by
    by_cases hu : u < 10
    · rw [Lib.nDigits_small hu]; omega
    · rw [Lib.nDigits_big hu]
      have := dig_le k (u / 10) (by rw [Nat.pow_succ] at h; omega)
      omega
theorem itoa_short (n : Int) (h0 : -100000 < n) (h1 : n < 100000) : (Lib.itoa n).length ≤ 6 := by
  have h : ∀ u : Nat, u < 100000 → (Lib.decDigits u).length ≤ 5 := fun u hu => by rw [Lib.decDigits_length]; exact dig_le 4 u (by omega)
  unfold Lib.itoa
  split
  · rw [List.length_cons]; have := h n.natAbs (by omega); omega
  · have := h n.toNat (by omega); omega
theorem nam_short : ∀ l ∈ nams, l.length ≤ 5 := by decide
theorem prn_short (i : In) (h : okI i = true) : (prnI i).length ≤ 28 := by
  rw [okI_iff] at h
  have hi := imm_range h.2
  have hf := (fits_iff _ _).1 h.2
  have ra := mayN_range hf.1
  have rb := mayN_range hf.2.1
  have lA := itoa_short i.a (by omega) (by omega)
  have lB := itoa_short i.b (by omega) (by omega)
  have lC := itoa_short i.imm (by omega) (by omega)
  have lN : (nam i.op).length ≤ 5 := by
    unfold nam
    rw [List.getD_eq_getElem?_getD]
    cases e : nams[i.op.toNat]? with
    | none => exact Nat.zero_le _
    | some l => exact nam_short l (List.mem_of_getElem? e)
  unfold prnI regS
  simp only [List.length_append]
  split <;> split <;> split <;> simp <;> omega
theorem lin_short (q : Bs) (h : q.length = 4) : (linS q).length ≤ 28 := by
  unfold linS
  cases hd : decS q with
  | some i => exact prn_short i (dec_some hd).1
  | none =>
    have := valB_lt q 4 (by omega)
    rw [List.take_of_length_le (by omega)] at this
    have h2 : (Lib.decDigits (valB q)).length ≤ 10 := by rw [Lib.decDigits_length]; exact dig_le 9 _ (by omega)
    simp [wordL]
    omega
theorem lis_short : ∀ (k : Nat) (l : Bs), l.length = 4 * k → (lisP l).length ≤ 29 * k
  | 0, l, h => by
    obtain rfl : l = [] := List.eq_nil_of_length_eq_zero (by omega)
    simp [lisP]
  | k + 1, l, h => by
    match l, h with
    | a :: b :: c :: d :: r, h =>
      have h1 := lis_short k r (by simp at h; omega)
      have h2 := lin_short [a, b, c, d] rfl
      simp only [lisP, List.length_append, List.length_cons]
      omega
/-- What Assemble answers. -/
def asmR (l : Bs) : Bs × Int × Int := if 32768 < l.length then ([], 0, 94) else match asmP (linesB l) with
  | .inl c => ([], c.2, c.1)
  | .inr p => (p, 0, 0)
theorem asmR_lis (l : Bs) (h : l.length % 4 = 0) (hl : l.length ≤ 4096) : asmR (lisP l) = (l, 0, 0) := by
  have := lis_short (l.length / 4) l (by omega)
  unfold asmR
  rw [if_neg (by omega), asm_lis l h hl]
end Go.Proofs.YtmclcobklcjmnaaDoor
