/- The pattern of an expression, as a pure function; how long it is. No conditions. -/
import Derived.Test.YthejkelnjimogaaDoorStp
import Derived.Lib.Join
namespace Go.Proofs.YthejkelnjimogaaDoor
open Go.RowKit
set_option linter.unusedVariables false

def Rx.kind : Rx → Int
  | .mk k _ _ _ _ _ _ _ => k
def S4.ofI (s0 s1 s2 s3 : Int) : S4 := ⟨s0.toNat, s1.toNat, s2.toNat, s3.toNat⟩
mutual
/-- the pattern of an expression that may be -/
def patR : Rx → Bs
  | .mk k mn mx s0 s1 s2 s3 l => if k = 0 then setS (S4.ofI s0 s1 s2 s3) else if k = 2 then Lib.join (patL k l) [124] else if k = 3 then (patL k l).headD [] ++ signS mn mx else Lib.join (patL k l) []
def patL (k : Int) : List Rx → List Bs
  | [] => []
  | x :: l => (if needR k x.kind then [40] ++ patR x ++ [41] else patR x) :: patL k l
end
def patE (k : Int) (x : Rx) : Bs := if needR k x.kind then [40] ++ patR x ++ [41] else patR x
theorem patL_map (k : Int) : ∀ l : List Rx, patL k l = l.map (patE k)
  | [] => by rw [patL]; rfl
  | x :: l => by rw [patL, patL_map k l]; rfl
mutual
/-- the sets are of a machine's numbers -/
def okR : Rx → Prop
  | .mk k mn mx s0 s1 s2 s3 l => ((0 ≤ s0 ∧ s0 < 18446744073709551616) ∧ (0 ≤ s1 ∧ s1 < 18446744073709551616) ∧ (0 ≤ s2 ∧ s2 < 18446744073709551616) ∧ (0 ≤ s3 ∧ s3 < 18446744073709551616)) ∧ okL l
def okL : List Rx → Prop
  | [] => True
  | x :: l => okR x ∧ okL l
end
theorem okL_at : ∀ (l : List Rx), okL l → ∀ (i : Nat) (h : i < l.length), okR l[i]
  | [], _, i, h => absurd h (by simp)
  | x :: l, h, 0, _ => by rw [okL] at h; exact h.1
  | x :: l, h, i + 1, hi => by rw [okL] at h; exact okL_at l h.2 i (by simpa using hi)
/-- it may be, is not too big, and its numbers are a machine's -/
def goodR (t : Rx) : Prop := sizeR t ≠ 0 ∧ sizeR t ≠ 257 ∧ okR t
theorem sizeL_all (m : Nat) (hm : 1 ≤ m) : ∀ (l : List Rx) (acc : Nat), sizeL m l acc ≠ 0 → sizeL m l acc < 257 →
    acc + (l.map sizeR).sum ≤ sizeL m l acc ∧ acc + l.length ≤ sizeL m l acc ∧ ∀ (i : Nat) (h : i < l.length), sizeR l[i] ≠ 0 ∧ sizeR l[i] < 257
  | [], acc, h0, h1 => by rw [sizeL]; exact ⟨by simp, by simp, fun i h => absurd h (by simp)⟩
  | x :: l, acc, h0, h1 => by
    rw [sizeL] at h0 h1 ⊢
    by_cases hx : sizeR x = 0
    · rw [if_pos hx] at h0; exact absurd rfl h0
    · rw [if_neg hx] at h0 h1 ⊢
      obtain ⟨a, b, c⟩ := sizeL_all m hm l _ h0 h1
      have hmul : sizeR x ≤ sizeR x * m := Nat.le_mul_of_pos_right _ hm
      have hmin : min (acc + sizeR x * m) 257 < 257 := by omega
      have e : min (acc + sizeR x * m) 257 = acc + sizeR x * m := by omega
      rw [e] at a b ⊢
      rw [e] at h0 h1
      refine ⟨by simp only [List.map_cons, List.sum_cons]; omega, by simp only [List.length_cons]; omega, fun i hi => ?_⟩
      cases i with
      | zero => exact ⟨hx, by show sizeR x < 257; omega⟩
      | succ i =>
        exact c i (by simpa using hi)
theorem timesF_pos (mn mx : Int) : 1 ≤ timesF mn mx := by unfold timesF; omega
theorem goodR.form {k mn mx s0 s1 s2 s3 : Int} {l : List Rx} (h : goodR (.mk k mn mx s0 s1 s2 s3 l)) : formF k mn mx s0 s1 s2 s3 l.length = true := by
  have h1 := h.1
  rw [sizeR] at h1
  split at h1
  · assumption
  · exact absurd rfl h1
theorem goodR.sizes {k mn mx s0 s1 s2 s3 : Int} {l : List Rx} (h : goodR (.mk k mn mx s0 s1 s2 s3 l)) :
    1 + (l.map sizeR).sum ≤ sizeR (.mk k mn mx s0 s1 s2 s3 l) ∧ 1 + l.length ≤ sizeR (.mk k mn mx s0 s1 s2 s3 l) ∧ ∀ (i : Nat) (hi : i < l.length), goodR l[i] := by
  have hf := h.form
  have h0 := h.1
  have h1 := h.2.1
  have hle := sizeR_le (.mk k mn mx s0 s1 s2 s3 l)
  have hok := h.2.2
  rw [okR] at hok
  rw [sizeR, if_pos hf] at h0 h1 hle ⊢
  obtain ⟨a, b, c⟩ := sizeL_all _ (timesF_pos mn mx) l 1 h0 (by omega)
  exact ⟨a, b, fun i hi => ⟨(c i hi).1, by have := (c i hi).2; omega, okL_at l hok.2 i hi⟩⟩
theorem formF_kind {k mn mx s0 s1 s2 s3 : Int} {n : Nat} (h : formF k mn mx s0 s1 s2 s3 n = true) : k = 0 ∧ n = 0 ∨ k = 1 ∨ k = 2 ∨ k = 3 ∧ n = 1 ∧ areT mn mx = true := by
  unfold formF at h
  split at h
  · simp at h; left; exact ⟨by assumption, h.2⟩
  · split at h
    · right; left; assumption
    · split at h
      · right; right; left; assumption
      · split at h
        · right; right; right
          simp at h
          exact ⟨by assumption, h.2, h.1.2⟩
        · cases h
theorem join_len (sep : Bs) (hs : sep.length ≤ 1) : ∀ l : List Bs, (Lib.join l sep).length ≤ (l.map List.length).sum + l.length
  | [] => by simp [Lib.join_nil]
  | x :: l => by
    rw [Lib.join_cons, List.length_append]
    have key : ∀ l : List Bs, (Lib.joinTail sep l).length ≤ (l.map List.length).sum + l.length := by
      intro l
      induction l with
      | nil => simp [Lib.joinTail]
      | cons y l ih =>
        have e : Lib.joinTail sep (y :: l) = sep ++ y ++ Lib.joinTail sep l := by simp [Lib.joinTail]
        rw [e]
        simp only [List.length_append, List.map_cons, List.sum_cons, List.length_cons]
        omega
    have := key l
    simp only [List.map_cons, List.sum_cons, List.length_cons]
    omega
theorem sum_le_sum {α : Type} (f g : α → Nat) : ∀ (l : List α), (∀ x ∈ l, f x ≤ g x) → (l.map f).sum ≤ (l.map g).sum
  | [], _ => by simp
  | x :: l, h => by
    have := sum_le_sum f g l (fun y hy => h y (by simp [hy]))
    have := h x (by simp)
    simp only [List.map_cons, List.sum_cons]
    omega
theorem sum_mul (c : Nat) : ∀ (l : List Nat), (l.map (c * ·)).sum = c * l.sum
  | [] => by simp
  | x :: l => by simp only [List.map_cons, List.sum_cons, sum_mul c l, Nat.mul_add]
theorem patE_len (k : Int) (x : Rx) : (patE k x).length ≤ (patR x).length + 2 := by
  unfold patE
  split
  · simp
  · omega
mutual
theorem patR_len : ∀ t : Rx, goodR t → (patR t).length ≤ 3100 * sizeR t
  | .mk k mn mx s0 s1 s2 s3 l, h => by
    have hz := h.sizes
    have hl := patL_len k l hz.2.2
    have hle := sizeR_le (.mk k mn mx s0 s1 s2 s3 l)
    generalize hS : sizeR (.mk k mn mx s0 s1 s2 s3 l) = S at *
    have hsum : ((patL k l).map List.length).sum ≤ 3100 * (l.map sizeR).sum + 2 * l.length := hl
    have hlen : (patL k l).length = l.length := by rw [patL_map]; simp
    rw [patR]
    split
    · have := setS_len (S4.ofI s0 s1 s2 s3)
      omega
    · split
      · have := join_len [124] (by simp) (patL k l)
        omega
      · split
        · have hk := formF_kind h.form
          have ha : areT mn mx = true := by
            rcases hk with hk | hk | hk | hk
            · omega
            · omega
            · omega
            · exact hk.2.2
          have := signS_len mn mx ha
          have hh : ((patL k l).headD []).length ≤ ((patL k l).map List.length).sum := by
            cases patL k l with
            | nil => simp
            | cons y r => simp
          rw [List.length_append]
          omega
        · have := join_len [] (by simp) (patL k l)
          omega
theorem patL_len (k : Int) : ∀ l : List Rx, (∀ (i : Nat) (hi : i < l.length), goodR l[i]) → ((patL k l).map List.length).sum ≤ 3100 * (l.map sizeR).sum + 2 * l.length
  | [], _ => by rw [patL]; simp
  | x :: l, h => by
    have hx := patR_len x (h 0 (by simp))
    have hl := patL_len k l (fun i hi => h (i + 1) (by simpa using hi))
    have he := patE_len k x
    rw [patL]
    simp only [List.map_cons, List.sum_cons, List.length_cons]
    have e : (if needR k x.kind = true then [40] ++ patR x ++ [41] else patR x) = patE k x := rfl
    rw [e]
    omega
end
theorem good_len {t : Rx} (h : goodR t) : (patR t).length ≤ 800000 := by
  have := patR_len t h
  have := sizeR_le t
  omega
theorem good_few {k mn mx s0 s1 s2 s3 : Int} {l : List Rx} (h : goodR (.mk k mn mx s0 s1 s2 s3 l)) : l.length ≤ 256 := by
  have := h.sizes.2.1
  have := sizeR_le (.mk k mn mx s0 s1 s2 s3 l)
  omega
end Go.Proofs.YthejkelnjimogaaDoor
