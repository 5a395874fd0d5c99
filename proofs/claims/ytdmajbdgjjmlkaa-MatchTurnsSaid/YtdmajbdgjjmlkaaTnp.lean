/- An expression turned end for end: its language, its size: nothing of the program. No conditions. -/
import Derived.Test.YtdmajbdgjjmlkaaCnp
namespace Go.Proofs.Ytdmajbdgjjmlkaa
set_option linter.unusedVariables false

mutual
def turnR : Rx → Rx
  | .mk k mn mx s0 s1 s2 s3 l => .mk k mn mx s0 s1 s2 s3 (if k = 1 then (turnL l).reverse else turnL l)
def turnL : List Rx → List Rx
  | [] => []
  | x :: l => turnR x :: turnL l
end
theorem turnL_map : ∀ l : List Rx, turnL l = l.map turnR
  | [] => rfl
  | x :: l => by rw [turnL, turnL_map l]; rfl
theorem turnL_len (l : List Rx) : (turnL l).length = l.length := by rw [turnL_map, List.length_map]
theorem turn_list (k mn mx s0 s1 s2 s3 : Int) (l : List Rx) : turnR (.mk k mn mx s0 s1 s2 s3 l) = .mk k mn mx s0 s1 s2 s3 (if k = 1 then (l.map turnR).reverse else l.map turnR) := by
  rw [turnR, turnL_map]
theorem sumR_append : ∀ (l m : List Rx), sumR (l ++ m) = sumR l + sumR m
  | [], m => by simp [sumR]
  | x :: l, m => by rw [List.cons_append, sumR, sumR_append l m, sumR]; omega
theorem sumR_reverse : ∀ l : List Rx, sumR l.reverse = sumR l
  | [] => rfl
  | x :: l => by rw [List.reverse_cons, sumR_append, sumR_reverse l, sumR, sumR, sumR]; omega
theorem sizeL_zero (m : Nat) : ∀ (l : List Rx) (acc : Nat), (∃ x ∈ l, sizeR x = 0) → sizeL m l acc = 0
  | [], acc, ⟨x, hx, _⟩ => by cases hx
  | y :: l, acc, ⟨x, hx, h0⟩ => by
    rw [sizeL]
    by_cases hy : sizeR y = 0
    · rw [if_pos hy]
    · rw [if_neg hy]
      rcases List.mem_cons.1 hx with rfl | hx
      · exact absurd h0 hy
      · exact sizeL_zero m l _ ⟨x, hx, h0⟩
/-- the size hangs on the elements' sizes, in any order -/
theorem sizeR_same {k mn mx s0 s1 s2 s3 : Int} {l l' : List Rx} (hlen : l'.length = l.length) (hsum : sumR l' = sumR l) (hz : (∃ x ∈ l', sizeR x = 0) ↔ (∃ x ∈ l, sizeR x = 0)) : sizeR (.mk k mn mx s0 s1 s2 s3 l') = sizeR (.mk k mn mx s0 s1 s2 s3 l) := by
  rw [sizeR, sizeR, hlen]
  by_cases hf : formF k mn mx s0 s1 s2 s3 l.length = true
  · rw [if_pos hf, if_pos hf]
    by_cases h : ∃ x ∈ l, sizeR x = 0
    · rw [sizeL_zero _ _ _ h, sizeL_zero _ _ _ (hz.2 h)]
    · have h' : ¬ ∃ x ∈ l', sizeR x = 0 := fun q => h (hz.1 q)
      rw [sizeL_sum _ _ _ (by omega) (by omega) (fun x hx e => h ⟨x, hx, e⟩), sizeL_sum _ _ _ (by omega) (by omega) (fun x hx e => h' ⟨x, hx, e⟩), hsum]
  · rw [if_neg hf, if_neg hf]
theorem turn_size : ∀ t : Rx, sizeR (turnR t) = sizeR t := by
  intro t
  refine Rx.ind (P := fun t => sizeR (turnR t) = sizeR t) ?_ t
  intro k mn mx s0 s1 s2 s3 l ih
  rw [turn_list]
  have hs : sumR (l.map turnR) = sumR l := by
    clear k mn mx
    induction l with
    | nil => rfl
    | cons x l ihl =>
      rw [List.map_cons, sumR, sumR, ih x (by simp), ihl (fun y hy => ih y (by simp [hy]))]
  have hz : (∃ x ∈ l.map turnR, sizeR x = 0) ↔ (∃ x ∈ l, sizeR x = 0) := by
    constructor
    · rintro ⟨x, hx, h0⟩
      obtain ⟨y, hy, rfl⟩ := List.mem_map.1 hx
      exact ⟨y, hy, by rw [← ih y hy]; exact h0⟩
    · rintro ⟨y, hy, h0⟩
      exact ⟨turnR y, List.mem_map.2 ⟨y, hy, rfl⟩, by rw [ih y hy]; exact h0⟩
  split
  · refine sizeR_same (by simp) (by rw [sumR_reverse, hs]) ?_
    rw [← hz]
    constructor
    · rintro ⟨x, hx, h0⟩; exact ⟨x, List.mem_reverse.1 hx, h0⟩
    · rintro ⟨x, hx, h0⟩; exact ⟨x, List.mem_reverse.2 hx, h0⟩
  · exact sizeR_same (by simp) hs hz
theorem okL_mk' : ∀ (l : List Rx), (∀ x ∈ l, okR x) → okL l
  | [], _ => by rw [okL]; trivial
  | x :: l, h => by rw [okL]; exact ⟨h x (by simp), okL_mk' l fun y hy => h y (by simp [hy])⟩
theorem turn_okR : ∀ t : Rx, okR t → okR (turnR t) := by
  intro t
  refine Rx.ind (P := fun t => okR t → okR (turnR t)) ?_ t
  intro k mn mx s0 s1 s2 s3 l ih h
  rw [okR] at h
  have hm := okL_mem l h.2
  rw [turn_list, okR]
  refine ⟨h.1, okL_mk' _ fun x hx => ?_⟩
  have : x ∈ l.map turnR := by
    split at hx
    · exact List.mem_reverse.1 hx
    · exact hx
  obtain ⟨y, hy, rfl⟩ := List.mem_map.1 this
  exact ih y hy (hm y hy)
theorem Cat_rev {A B A' B' : Bs → Prop} (ha : ∀ s, A' s ↔ A s.reverse) (hb : ∀ s, B' s ↔ B s.reverse) (s : Bs) : Cat B' A' s ↔ Cat A B s.reverse := by
  constructor
  · rintro ⟨u, v, rfl, hu, hv⟩
    exact ⟨v.reverse, u.reverse, by rw [List.reverse_append], (ha v).1 hv, (hb u).1 hu⟩
  · rintro ⟨u, v, h, hu, hv⟩
    refine ⟨v.reverse, u.reverse, ?_, (hb _).2 (by rw [List.reverse_reverse]; exact hv), (ha _).2 (by rw [List.reverse_reverse]; exact hu)⟩
    rw [← List.reverse_append, ← h, List.reverse_reverse]
theorem Pow_rev {A A' : Bs → Prop} (ha : ∀ s, A' s ↔ A s.reverse) : ∀ (n : Nat) (s : Bs), Pow A' n s ↔ Pow A n s.reverse
  | 0, s => by
    show s = [] ↔ s.reverse = []
    rw [List.reverse_eq_nil_iff]
  | n + 1, s => by
    rw [Pow_succ' n s]
    exact Cat_rev ha (Pow_rev ha n) s
theorem LangS_snoc : ∀ (l : List Rx) (x : Rx) (s : Bs), LangS (l ++ [x]) s ↔ Cat (LangS l) (Lang x) s
  | [], x, s => by
    constructor
    · rintro ⟨u, v, rfl, hu, hv⟩
      have hv' : v = [] := hv
      subst hv'
      exact ⟨[], u, by simp, rfl, hu⟩
    · rintro ⟨u, v, rfl, hu, hv⟩
      have hu' : u = [] := hu
      subst hu'
      exact ⟨v, [], by simp, hv, rfl⟩
  | y :: l, x, s => by
    constructor
    · rintro ⟨u, v, rfl, hu, hv⟩
      obtain ⟨a, b, rfl, ha, hb⟩ := (LangS_snoc l x v).1 hv
      exact ⟨u ++ a, b, by simp, ⟨u, a, rfl, hu, ha⟩, hb⟩
    · rintro ⟨u, v, rfl, ⟨a, b, rfl, ha, hb⟩, hv⟩
      exact ⟨a, b ++ v, by simp, ha, (LangS_snoc l x (b ++ v)).2 ⟨b, v, rfl, hb, hv⟩⟩
/-- the language of what is turned is the texts turned -/
theorem turn_lang : ∀ t : Rx, sizeR t ≠ 0 → ∀ s : Bs, Lang (turnR t) s ↔ Lang t s.reverse := by
  intro t
  refine Rx.ind (P := fun t => sizeR t ≠ 0 → ∀ s : Bs, Lang (turnR t) s ↔ Lang t s.reverse) ?_ t
  intro k mn mx s0 s1 s2 s3 l ih hz s
  obtain ⟨hf, hx0⟩ := sizeR_form hz
  have ih' : ∀ x ∈ l, ∀ s : Bs, Lang (turnR x) s ↔ Lang x s.reverse := fun x hx => ih x hx (hx0 x hx)
  clear ih
  rw [turn_list]
  by_cases k0 : k = 0
  · subst k0
    show (∃ b, s = [b] ∧ hasB s0 s1 s2 s3 b = true) ↔ (∃ b, s.reverse = [b] ∧ hasB s0 s1 s2 s3 b = true)
    constructor
    · rintro ⟨b, rfl, h⟩; exact ⟨b, rfl, h⟩
    · rintro ⟨b, h1, h⟩
      exact ⟨b, by have := congrArg List.reverse h1; simpa using this, h⟩
  · by_cases k2 : k = 2
    · subst k2
      show LangA (l.map turnR) s ↔ LangA l s.reverse
      clear hz hf hx0
      induction l with
      | nil => exact Iff.rfl
      | cons x l ihl =>
        show (Lang (turnR x) s ∨ LangA (l.map turnR) s) ↔ (Lang x s.reverse ∨ LangA l s.reverse)
        rw [ih' x (by simp), ihl (fun y hy => ih' y (by simp [hy]))]
    · by_cases k3 : k = 3
      · subst k3
        obtain ⟨_, _, _, hl⟩ := form3_parts hf
        obtain ⟨x, rfl⟩ := List.length_eq_one_iff.1 hl
        show (∃ j : Nat, mn ≤ (j : Int) ∧ (mx = -1 ∨ (j : Int) ≤ mx) ∧ Pow (Lang (turnR x)) j s) ↔ (∃ j : Nat, mn ≤ (j : Int) ∧ (mx = -1 ∨ (j : Int) ≤ mx) ∧ Pow (Lang x) j s.reverse)
        have hp := fun j => Pow_rev (ih' x (by simp)) j s
        constructor
        · rintro ⟨j, a, b, c⟩; exact ⟨j, a, b, (hp j).1 c⟩
        · rintro ⟨j, a, b, c⟩; exact ⟨j, a, b, (hp j).2 c⟩
      · have hk1 : k = 1 := by
          unfold formF at hf
          rw [if_neg k0] at hf
          by_cases k1 : k = 1
          · exact k1
          · rw [if_neg k1, if_neg k2, if_neg k3] at hf; cases hf
        subst hk1
        show LangS (l.map turnR).reverse s ↔ LangS l s.reverse
        clear hz hf hx0 k0 k2 k3
        induction l generalizing s with
        | nil =>
          show s = [] ↔ s.reverse = []
          rw [List.reverse_eq_nil_iff]
        | cons x l ihl =>
          rw [List.map_cons, List.reverse_cons, LangS_snoc]
          exact Cat_rev (ih' x (by simp)) (fun s => ihl s (fun y hy => ih' y (by simp [hy]))) s
theorem turn_check (t : Rx) : checkR (turnR t) = checkR t := by unfold checkR; rw [turn_size]
theorem turn_is {t : Rx} (hc : checkR t = 0) (s : Bs) : (macR (turnR t)).is s.reverse = (macR t).is s := by
  have h := check_zero.1 hc
  have a := mac_is (t := turnR t) (by rw [turn_size]; exact h.1) (by rw [turn_size]; exact h.2) s.reverse
  have b := mac_is h.1 h.2 s
  rw [turn_lang t h.1, List.reverse_reverse] at a
  cases x : (macR (turnR t)).is s.reverse <;> cases y : (macR t).is s
  · rfl
  · rw [a.2 (b.1 y)] at x; cases x
  · rw [b.2 (a.1 x)] at y; cases y
  · rfl
end Go.Proofs.Ytdmajbdgjjmlkaa
