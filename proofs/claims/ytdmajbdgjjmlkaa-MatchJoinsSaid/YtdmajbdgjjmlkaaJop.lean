/- Expressions joined: their languages, by their machines: nothing of the program. No conditions. -/
import Derived.Test.YtdmajbdgjjmlkaaCnw
namespace Go.Proofs.Ytdmajbdgjjmlkaa
set_option linter.unusedVariables false

def rowT (a b : Rx) : Rx := .mk 1 0 0 0 0 0 0 [a, b]
def altT (a b : Rx) : Rx := .mk 2 0 0 0 0 0 0 [a, b]
def manyT (a : Rx) : Rx := .mk 3 0 (-1) 0 0 0 0 [a]
theorem lang_row (a b : Rx) (s : Bs) : Lang (rowT a b) s ↔ Cat (Lang a) (Lang b) s := by
  show Cat (Lang a) (Cat (Lang b) (fun s => s = [])) s ↔ _
  constructor
  · rintro ⟨u, v, rfl, hu, x, y, rfl, hx, rfl⟩
    exact ⟨u, x, by simp, hu, hx⟩
  · rintro ⟨u, v, rfl, hu, hv⟩
    exact ⟨u, v, rfl, hu, v, [], by simp, hv, rfl⟩
theorem lang_alt (a b : Rx) (s : Bs) : Lang (altT a b) s ↔ Lang a s ∨ Lang b s := by
  show (Lang a s ∨ (Lang b s ∨ False)) ↔ _
  simp
theorem lang_many (a : Rx) (s : Bs) : Lang (manyT a) s ↔ ∃ j : Nat, Pow (Lang a) j s := by
  show (∃ j : Nat, 0 ≤ (j : Int) ∧ ((-1 : Int) = -1 ∨ (j : Int) ≤ -1) ∧ Pow (Lang a) j s) ↔ _
  constructor
  · rintro ⟨j, _, _, h⟩; exact ⟨j, h⟩
  · rintro ⟨j, h⟩; exact ⟨j, by omega, .inl rfl, h⟩
/-- a text any number of times: the empty one, or a first part that is not empty, and the rest again -/
theorem many_step (A : Bs → Prop) (s : Bs) : (∃ j, Pow A j s) ↔ s = [] ∨ ∃ i, 0 < i ∧ i ≤ s.length ∧ A (s.take i) ∧ ∃ j, Pow A j (s.drop i) := by
  constructor
  · rintro ⟨j, h⟩
    induction j generalizing s with
    | zero => exact .inl h
    | succ n ih =>
      obtain ⟨u, v, rfl, hu, hv⟩ := h
      by_cases e : u = []
      · subst e
        rw [List.nil_append]
        exact ih v hv
      · refine .inr ⟨u.length, List.length_pos_iff.2 e, by simp, ?_, n, ?_⟩
        · rw [List.take_left]; exact hu
        · rw [List.drop_left]; exact hv
  · rintro (rfl | ⟨i, h0, hi, hu, j, hv⟩)
    · exact ⟨0, rfl⟩
    · exact ⟨j + 1, s.take i, s.drop i, (List.take_append_drop i s).symm, hu, hv⟩
/-- is there a cut among the first n places? -/
def cutF (X Y : Bs → Bool) (s : Bs) : Nat → Bool
  | 0 => false
  | n + 1 => cutF X Y s n || (X (s.take n) && Y (s.drop n))
def againF (X M : Bs → Bool) (s : Bs) : Nat → Bool
  | 0 => decide (s = [])
  | n + 1 => if 0 < n then againF X M s n || (X (s.take n) && M (s.drop n)) else againF X M s n
theorem cutF_iff (X Y : Bs → Bool) (s : Bs) : ∀ n, cutF X Y s n = true ↔ ∃ i, i < n ∧ X (s.take i) = true ∧ Y (s.drop i) = true
  | 0 => by simp [cutF]
  | n + 1 => by
    rw [cutF, Bool.or_eq_true, Bool.and_eq_true, cutF_iff X Y s n]
    constructor
    · rintro (⟨i, a, b, c⟩ | ⟨b, c⟩)
      · exact ⟨i, by omega, b, c⟩
      · exact ⟨n, by omega, b, c⟩
    · rintro ⟨i, a, b, c⟩
      by_cases e : i = n
      · subst e; exact .inr ⟨b, c⟩
      · exact .inl ⟨i, by omega, b, c⟩
theorem againF_iff (X M : Bs → Bool) (s : Bs) : ∀ n, againF X M s n = true ↔ s = [] ∨ ∃ i, 0 < i ∧ i < n ∧ X (s.take i) = true ∧ M (s.drop i) = true
  | 0 => by simp [againF]
  | n + 1 => by
    unfold againF
    by_cases h : 0 < n
    · rw [if_pos h, Bool.or_eq_true, Bool.and_eq_true, againF_iff X M s n]
      constructor
      · rintro ((a | ⟨i, a0, a, b, c⟩) | ⟨b, c⟩)
        · exact .inl a
        · exact .inr ⟨i, a0, by omega, b, c⟩
        · exact .inr ⟨n, h, by omega, b, c⟩
      · rintro (a | ⟨i, a0, a, b, c⟩)
        · exact .inl (.inl a)
        · by_cases e : i = n
          · subst e; exact .inr ⟨b, c⟩
          · exact .inl (.inr ⟨i, a0, by omega, b, c⟩)
    · rw [if_neg h, againF_iff X M s n]
      constructor
      · rintro (a | ⟨i, a0, a, b, c⟩)
        · exact .inl a
        · omega
      · rintro (a | ⟨i, a0, a, b, c⟩)
        · exact .inl a
        · omega
theorem bool_eq {a b : Bool} (h : a = true ↔ b = true) : a = b := by cases a <;> cases b <;> simp_all
theorem row_same {a b : Rx} {s : Bs} (hs : s.length ≤ 24) (ha : checkR a = 0) (hb : checkR b = 0) (hr : checkR (rowT a b) = 0) : (macR (rowT a b)).inB s = cutF (macR a).inB (macR b).inB s (s.length + 1) := by
  apply bool_eq
  rw [inB_iff hr, lang_row, cutF_iff]
  constructor
  · rintro ⟨_, u, v, rfl, hu, hv⟩
    refine ⟨u.length, by simp; omega, ?_, ?_⟩
    · rw [List.take_left, inB_iff ha]; exact ⟨by simp at hs; omega, hu⟩
    · rw [List.drop_left, inB_iff hb]; exact ⟨by simp at hs; omega, hv⟩
  · rintro ⟨i, hi, hu, hv⟩
    rw [inB_iff ha] at hu
    rw [inB_iff hb] at hv
    exact ⟨by omega, s.take i, s.drop i, (List.take_append_drop i s).symm, hu.2, hv.2⟩
theorem alt_same {a b : Rx} {s : Bs} (hs : s.length ≤ 24) (ha : checkR a = 0) (hb : checkR b = 0) (hr : checkR (altT a b) = 0) : (macR (altT a b)).inB s = ((macR a).inB s || (macR b).inB s) := by
  apply bool_eq
  rw [inB_iff hr, lang_alt, Bool.or_eq_true, inB_iff ha, inB_iff hb]
  constructor
  · rintro ⟨h, a | a⟩
    · exact .inl ⟨h, a⟩
    · exact .inr ⟨h, a⟩
  · rintro (⟨h, a⟩ | ⟨h, a⟩)
    · exact ⟨h, .inl a⟩
    · exact ⟨h, .inr a⟩
theorem many_same {a : Rx} {s : Bs} (hs : s.length ≤ 24) (ha : checkR a = 0) (hr : checkR (manyT a) = 0) : (macR (manyT a)).inB s = againF (macR a).inB (macR (manyT a)).inB s (s.length + 1) := by
  apply bool_eq
  rw [inB_iff hr, lang_many, againF_iff, many_step]
  constructor
  · rintro ⟨_, h | ⟨i, h0, hi, hu, hv⟩⟩
    · exact .inl h
    · refine .inr ⟨i, h0, by omega, ?_, ?_⟩
      · rw [inB_iff ha]; exact ⟨by simp; omega, hu⟩
      · rw [inB_iff hr, lang_many]; exact ⟨by simp; omega, hv⟩
  · rintro (h | ⟨i, h0, hi, hu, hv⟩)
    · exact ⟨by omega, .inl h⟩
    · rw [inB_iff ha] at hu
      rw [inB_iff hr, lang_many] at hv
      exact ⟨by omega, .inr ⟨i, h0, by omega, hu.2, hv.2⟩⟩
theorem row_okR {a b : Rx} (ha : okR a) (hb : okR b) : okR (rowT a b) := by
  unfold rowT; rw [okR, okL, okL, okL]; exact ⟨by simp, ha, hb, trivial⟩
theorem alt_okR {a b : Rx} (ha : okR a) (hb : okR b) : okR (altT a b) := by
  unfold altT; rw [okR, okL, okL, okL]; exact ⟨by simp, ha, hb, trivial⟩
theorem many_okR {a : Rx} (ha : okR a) : okR (manyT a) := by
  unfold manyT; rw [okR, okL, okL]; exact ⟨by simp, ha, trivial⟩
end Go.Proofs.Ytdmajbdgjjmlkaa
