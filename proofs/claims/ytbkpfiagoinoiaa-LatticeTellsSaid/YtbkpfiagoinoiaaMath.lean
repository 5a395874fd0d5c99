/- Plain facts on what flows among eight levels: sets of levels, the closure that goes level by level, least bounds, pairs that tell it all: nothing of the program. No conditions. -/
import Derived.RowKit
namespace Go.Proofs.Ytbkpfiagoinoiaa
set_option linter.unusedVariables false

abbrev Row := Nat → Bool
abbrev Flw := Nat → Nat → Bool
def orR (s t : Row) : Row := fun i => s i || t i
def andR (s t : Row) : Row := fun i => s i && t i
def setR (F : Flw) (a : Nat) (r : Row) : Flw := fun i j => if i = a then r j else F i j
def setF (F : Flw) (a b : Nat) (v : Bool) : Flw := fun i j => if i = a ∧ j = b then v else F i j
def turn (F : Flw) : Flw := fun i j => F j i
theorem turn_at (F : Flw) (i j : Nat) : turn F i j = F j i := rfl
def diag (F : Flw) (n : Nat) : Flw := fun i j => (decide (i = j) && decide (i < n)) || F i j
def stepF (F : Flw) (k a : Nat) : Flw := if F a k then setR F a (orR (F a) (F k)) else F
def inn (F : Flw) (k : Nat) : Nat → Flw
  | 0 => F
  | n + 1 => stepF (inn F k n) k n
def outF (F : Flw) : Nat → Flw
  | 0 => diag F 8
  | k + 1 => inn (outF F k) k 8
def clo (F : Flw) : Flw := outF F 8

theorem diag_zero (F : Flw) : diag F 0 = F := by funext i j; simp [diag]
theorem diag_succ (F : Flw) (n : Nat) : diag F (n + 1) = setF (diag F n) n n true := by
  funext i j
  simp only [diag, setF]
  by_cases h : i = n ∧ j = n
  · obtain ⟨rfl, rfl⟩ := h; simp
  · rw [if_neg h]
    by_cases e : i = j
    · subst e
      have : i ≠ n := fun q => h ⟨q, q⟩
      have e2 : decide (i < n + 1) = decide (i < n) := by rw [decide_eq_decide]; omega
      rw [e2]
    · simp [e]
theorem inn_eq (F : Flw) (k : Nat) (hk : F k k = true) : ∀ n i j, inn F k n i j = (F i j || (decide (i < n) && F i k && F k j))
  | 0, i, j => by simp [inn]
  | n + 1, i, j => by
    have ih := inn_eq F k hk n
    show stepF (inn F k n) k n i j = _
    unfold stepF
    have h1 : inn F k n n k = F n k := by rw [ih]; simp
    have h2 : ∀ j, inn F k n k j = F k j := by intro j; rw [ih, hk]; cases F k j <;> simp
    rw [h1]
    by_cases hi : i = n
    · subst hi
      cases h : F i k
      · simp [ih, h]
      · simp only [if_true, setR, orR, ih, hk]
        cases F i j <;> cases F k j <;> simp
    · have e : decide (i < n + 1) = decide (i < n) := by rw [decide_eq_decide]; omega
      rw [e]
      cases F n k
      · simp [ih]
      · simp [setR, hi, ih]
theorem outF_diag (F : Flw) : ∀ k, k ≤ 8 → ∀ i, i < 8 → outF F k i i = true
  | 0, _, i, hi => by simp [outF, diag, hi]
  | k + 1, hk, i, hi => by
    have ih := outF_diag F k (by omega)
    show inn (outF F k) k 8 i i = true
    rw [inn_eq _ _ (ih k (by omega)), ih i hi]; rfl
theorem outF_succ (F : Flw) (k : Nat) (hk : k < 8) (i j : Nat) (hi : i < 8) : outF F (k + 1) i j = (outF F k i j || (outF F k i k && outF F k k j)) := by
  show inn (outF F k) k 8 i j = _
  rw [inn_eq _ _ (outF_diag F k (by omega) k hk)]
  simp [hi]
theorem outF_of (F : Flw) (i j : Nat) (hi : i < 8) (h : F i j = true) : ∀ k, k ≤ 8 → outF F k i j = true
  | 0, _ => by simp [outF, diag, h]
  | k + 1, hk => by rw [outF_succ F k (by omega) i j hi, outF_of F i j hi h k (by omega)]; rfl
theorem outF_trans (F : Flw) : ∀ k, k ≤ 8 → ∀ m, m < k → ∀ i j, i < 8 → outF F k i m = true → outF F k m j = true → outF F k i j = true
  | 0, _, m, hm, _, _, _, _, _ => absurd hm (by omega)
  | k + 1, hk, m, hm, i, j, hi, h1, h2 => by
    have ih := outF_trans F k (by omega)
    have hkk := outF_diag F k (by omega) k (by omega)
    rw [outF_succ F k (by omega) i m hi] at h1
    rw [outF_succ F k (by omega) m j (by omega)] at h2
    rw [outF_succ F k (by omega) i j hi]
    by_cases e : m = k
    · subst e
      rw [hkk] at h1 h2
      simp at h1 h2
      simp [h1, h2]
    · have hmk : m < k := by omega
      simp only [Bool.or_eq_true, Bool.and_eq_true] at h1 h2 ⊢
      rcases h1 with h1 | ⟨h1, h1'⟩ <;> rcases h2 with h2 | ⟨h2, h2'⟩
      · exact .inl (ih m hmk i j hi h1 h2)
      · exact .inr ⟨ih m hmk i k hi h1 h2, h2'⟩
      · exact .inr ⟨h1, ih m hmk k j (by omega) h1' h2⟩
      · exact .inr ⟨h1, h2'⟩
/-- reflexive and transitive, among eight -/
structure Pre (R : Flw) : Prop where
  refl : ∀ a, a < 8 → R a a = true
  trans : ∀ a b c, a < 8 → b < 8 → c < 8 → R a b = true → R b c = true → R a c = true
theorem outF_min (F R : Flw) (hR : Pre R) (hF : ∀ i j, i < 8 → j < 8 → F i j = true → R i j = true) : ∀ k, k ≤ 8 → ∀ i j, i < 8 → j < 8 → outF F k i j = true → R i j = true
  | 0, _, i, j, hi, hj, h => by
    simp only [outF, diag, Bool.or_eq_true, Bool.and_eq_true, decide_eq_true_eq] at h
    rcases h with ⟨rfl, _⟩ | h
    · exact hR.refl i hi
    · exact hF i j hi hj h
  | k + 1, hk, i, j, hi, hj, h => by
    have ih := outF_min F R hR hF k (by omega)
    rw [outF_succ F k (by omega) i j hi] at h
    simp only [Bool.or_eq_true, Bool.and_eq_true] at h
    rcases h with h | ⟨h1, h2⟩
    · exact ih i j hi hj h
    · exact hR.trans i k j hi (by omega) hj (ih i k hi (by omega) h1) (ih k j (by omega) hj h2)
theorem clo_pre (F : Flw) : Pre (clo F) := ⟨fun a h => outF_diag F 8 (by omega) a h, fun a b c ha hb hc h1 h2 => outF_trans F 8 (by omega) b hb a c ha h1 h2⟩
theorem clo_of (F : Flw) (i j : Nat) (hi : i < 8) (h : F i j = true) : clo F i j = true := outF_of F i j hi h 8 (by omega)
theorem clo_min (F R : Flw) (hR : Pre R) (hF : ∀ i j, i < 8 → j < 8 → F i j = true → R i j = true) (i j : Nat) (hi : i < 8) (hj : j < 8) (h : clo F i j = true) : R i j = true :=
  outF_min F R hR hF 8 (by omega) i j hi hj h
theorem bool_iff {a b : Bool} (h1 : a = true → b = true) (h2 : b = true → a = true) : a = b := by cases a <;> cases b <;> simp_all
/-- the closure of two that say the same of eight, is the same -/
theorem clo_same {F H : Flw} (h : ∀ i j, i < 8 → j < 8 → F i j = H i j) (i j : Nat) (hi : i < 8) (hj : j < 8) : clo F i j = clo H i j :=
  bool_iff (clo_min F _ (clo_pre H) (fun i j hi hj q => clo_of H i j hi (by rw [← h i j hi hj]; exact q)) i j hi hj)
    (clo_min H _ (clo_pre F) (fun i j hi hj q => clo_of F i j hi (by rw [h i j hi hj]; exact q)) i j hi hj)
theorem clo_self {R : Flw} (hR : Pre R) (i j : Nat) (hi : i < 8) (hj : j < 8) : clo R i j = R i j :=
  bool_iff (clo_min R R hR (fun _ _ _ _ q => q) i j hi hj) (clo_of R i j hi)
theorem turn_pre {R : Flw} (h : Pre R) : Pre (turn R) := ⟨fun a ha => h.refl a ha, fun a b c ha hb hc h1 h2 => h.trans c b a hc hb ha h2 h1⟩
theorem clo_turn (F : Flw) (i j : Nat) (hi : i < 8) (hj : j < 8) : clo (turn F) i j = turn (clo F) i j :=
  bool_iff (clo_min _ (turn (clo F)) (turn_pre (clo_pre F)) (fun a b ha hb q => by rw [turn_at] at q ⊢; exact clo_of F b a hb q) i j hi hj)
    (fun h => by rw [turn_at] at h; have := clo_min F (turn (clo (turn F))) (turn_pre (clo_pre _)) (fun a b ha hb q => by rw [turn_at]; exact clo_of (turn F) b a hb q) j i hj hi h; rwa [turn_at] at this)

/-! ### least bounds -/
def rowEq (r s : Row) : Bool := (List.range 8).all fun i => r i == s i
theorem rowEq_iff (r s : Row) : rowEq r s = true ↔ ∀ i, i < 8 → r i = s i := by simp [rowEq]
def flwEq (F G : Flw) : Bool := (List.range 64).all fun i => F (i / 8) (i % 8) == G (i / 8) (i % 8)
theorem flwEq_iff (F G : Flw) : flwEq F G = true ↔ ∀ i j, i < 8 → j < 8 → F i j = G i j := by
  simp only [flwEq, List.all_eq_true, List.mem_range, beq_iff_eq]
  constructor
  · intro h i j hi hj
    have := h (i * 8 + j) (by omega)
    rw [show (i * 8 + j) / 8 = i by omega, show (i * 8 + j) % 8 = j by omega] at this
    exact this
  · intro h x hx; exact h _ _ (by omega) (by omega)
def lst (f : Flw) (n a b : Nat) : Option Nat := (List.range n).find? fun c => rowEq (f c) (andR (f a) (f b))
theorem lst_some {f : Flw} {n a b c : Nat} (h : lst f n a b = some c) : c < n ∧ ∀ j, j < 8 → f c j = (f a j && f b j) := by
  have h1 := List.find?_some h
  have h2 := List.mem_of_find?_eq_some h
  exact ⟨by simpa using h2, (rowEq_iff _ _).1 h1⟩
theorem lst_none {f : Flw} {n a b : Nat} (h : lst f n a b = none) (c : Nat) (hc : c < n) : rowEq (f c) (andR (f a) (f b)) = false := by
  have := List.find?_eq_none.1 h c (by simpa using hc)
  simpa using this
theorem lst_first {f : Flw} {n a b c : Nat} (hc : c < n) (h : rowEq (f c) (andR (f a) (f b)) = true) (hb : ∀ d, d < c → rowEq (f d) (andR (f a) (f b)) = false) : lst f n a b = some c := by
  unfold lst
  rw [List.find?_range_eq_some]
  refine ⟨h, by simpa using hc, fun d hd => by simp [hb d hd]⟩
theorem lst_not {f : Flw} {n a b : Nat} (hb : ∀ d, d < n → rowEq (f d) (andR (f a) (f b)) = false) : lst f n a b = none := by
  unfold lst
  rw [List.find?_eq_none]
  intro x hx
  simp [hb x (by simpa using hx)]
theorem lst_comm (f : Flw) (n a b : Nat) : lst f n a b = lst f n b a := by
  unfold lst
  congr 1
  funext c
  congr 1
  funext i
  simp [andR, Bool.and_comm]
theorem lst_same {f g : Flw} {n a b : Nat} (hn : n ≤ 8) (ha : a < n) (hb : b < n) (h : ∀ i j, i < 8 → j < 8 → f i j = g i j) : lst f n a b = lst g n a b := by
  have e : ∀ c, c < n → rowEq (f c) (andR (f a) (f b)) = rowEq (g c) (andR (g a) (g b)) := by
    intro c hc
    unfold rowEq
    rw [Bool.eq_iff_iff]
    simp only [List.all_eq_true, List.mem_range, andR]
    constructor
    · intro q i hi; rw [← h c i (by omega) hi, ← h a i (by omega) hi, ← h b i (by omega) hi]; exact q i hi
    · intro q i hi; rw [h c i (by omega) hi, h a i (by omega) hi, h b i (by omega) hi]; exact q i hi
  cases hg : lst g n a b with
  | none => exact lst_not fun d hd => by rw [e d hd]; exact lst_none hg d hd
  | some c =>
    have hc := lst_some hg
    refine lst_first hc.1 (by rw [e c hc.1, rowEq_iff]; exact hc.2) fun d hd => ?_
    rw [e d (by omega)]
    have := hg
    unfold lst at this
    rw [List.find?_range_eq_some] at this
    simpa using this.2.2 d hd
/-- what is told of any numbers -/
def lstI (f : Flw) (n : Nat) (a b : Int) : Int := if (0 ≤ a ∧ a < n) ∧ (0 ≤ b ∧ b < n) then (match lst f n a.toNat b.toNat with | some c => (c : Int) | none => -1) else -1
def flowsI (f : Flw) (n : Nat) (a b : Int) : Bool := decide ((0 ≤ a ∧ a < n) ∧ (0 ≤ b ∧ b < n)) && f a.toNat b.toNat

/-! ### a lattice -/
structure Lat (n : Nat) (G : Flw) : Prop where
  n1 : 1 ≤ n
  n8 : n ≤ 8
  pre : Pre G
  anti : ∀ a b, a < n → b < n → G a b = true → G b a = true → a = b
  off : ∀ a b, a < 8 → b < 8 → (n ≤ a ∨ n ≤ b) → G a b = true → a = b
  join : ∀ a b, a < n → b < n → ∃ c, lst G n a b = some c
  meet : ∀ a b, a < n → b < n → ∃ c, lst (turn G) n a b = some c
theorem Lat.turned {n : Nat} {G : Flw} (h : Lat n G) : Lat n (turn G) :=
  ⟨h.n1, h.n8, turn_pre h.pre, fun a b ha hb h1 h2 => h.anti a b ha hb h2 h1, fun a b ha hb q g => (h.off b a hb ha (q.symm) g).symm, h.meet, h.join⟩
section
variable {n : Nat} {G : Flw} (L : Lat n G)
include L
/-- the least bound: bounds of it are just those of both -/
theorem Lat.lub {a b : Nat} (ha : a < n) (hb : b < n) : ∃ c, lst G n a b = some c ∧ c < n ∧ ∀ j, j < 8 → G c j = (G a j && G b j) := by
  obtain ⟨c, hc⟩ := L.join a b ha hb
  exact ⟨c, hc, lst_some hc⟩
theorem Lat.uniq {c d : Nat} (hc : c < n) (hd : d < n) (h : ∀ j, j < n → G c j = G d j) : c = d := by
  have n8 := L.n8
  refine L.anti c d hc hd ?_ ?_
  · rw [h d hd]; exact L.pre.refl d (by omega)
  · rw [← h c hc]; exact L.pre.refl c (by omega)
theorem Lat.is {a b c : Nat} (ha : a < n) (hb : b < n) (hc : c < n) (h : ∀ j, j < n → G c j = (G a j && G b j)) : lst G n a b = some c := by
  obtain ⟨d, e, hd, q⟩ := L.lub ha hb
  have n8 := L.n8
  rw [e, L.uniq hc hd (fun j hj => by rw [h j hj, q j (by omega)])]
end
end Go.Proofs.Ytbkpfiagoinoiaa
