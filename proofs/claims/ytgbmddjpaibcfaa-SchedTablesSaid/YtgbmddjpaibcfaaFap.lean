/- Ticks add up, each row as long as a major frame has its windows' ticks; what comes next. No memory. Conditions: windows that may be. -/
import Derived.Test.YtgbmddjpaibcfaaLie
namespace Go.Proofs.Ytgbmddjpaibcfaa
open Go.RowKit Go.Maps
set_option linter.unusedVariables false

def own1 (ws : List Wn) (kd ix : Int) (i : Nat) : Int := if isB (ws.getD i w0).1 (ws.getD i w0).2.1 kd ix = true then (ws.getD i w0).2.2 else 0
def ownS (ws : List Wn) (kd ix : Int) (k : Nat) : Int := ((List.range k).map (own1 ws kd ix)).sum
def anyS (ws : List Wn) (kd ix : Int) (k : Nat) : Bool := (List.range k).any fun i => isB (ws.getD i w0).1 (ws.getD i w0).2.1 kd ix
theorem ownS_succ (ws : List Wn) (kd ix : Int) (k : Nat) : ownS ws kd ix (k + 1) = ownS ws kd ix k + own1 ws kd ix k := by
  unfold ownS; rw [List.range_succ]; simp
theorem anyS_succ (ws : List Wn) (kd ix : Int) (k : Nat) : anyS ws kd ix (k + 1) = (anyS ws kd ix k || isB (ws.getD k w0).1 (ws.getD k w0).2.1 kd ix) := by
  unfold anyS; rw [List.range_succ, List.any_append]; simp
theorem ownS_le {ws : List Wn} (hok : okL ws) (kd ix : Int) : ∀ k, k ≤ ws.length → 0 ≤ ownS ws kd ix k ∧ ownS ws kd ix k ≤ 255 * k
  | 0, _ => by simp [ownS]
  | k + 1, h => by
    have ih := ownS_le hok kd ix k (by omega)
    rw [ownS_succ]
    obtain ⟨h1, h2, h3⟩ := tks_get hok k (by omega)
    unfold own1
    rw [h1]
    split <;> omega
theorem sum_congr {f g : Nat → Int} : ∀ (l : List Nat), (∀ i ∈ l, f i = g i) → (l.map f).sum = (l.map g).sum
  | [], _ => rfl
  | i :: l, h => by
    rw [List.map_cons, List.map_cons, List.sum_cons, List.sum_cons, h i List.mem_cons_self, sum_congr l (fun j hj => h j (List.mem_cons_of_mem _ hj))]
theorem sum_add (f g : Nat → Int) : ∀ l : List Nat, (l.map fun i => f i + g i).sum = (l.map f).sum + (l.map g).sum
  | [] => by simp
  | i :: l => by
    rw [List.map_cons, List.map_cons, List.map_cons, List.sum_cons, List.sum_cons, List.sum_cons, sum_add f g l]; omega
theorem tk_add (ws : List Wn) (kd ix : Int) (F T U : Nat) : tkN ws kd ix F U = tkN ws kd ix F T + tkN ws kd ix T U := by
  unfold tkN
  rw [← sum_add]
  refine sum_congr _ fun i _ => ?_
  unfold ctb
  split <;> omega
theorem tk_frame {ws : List Wn} (hok : okL ws) (kd ix : Int) (F : Nat) : tkN ws kd ix F (F + lenN ws) = ownS ws kd ix ws.length := by
  have hL := lenN_ok hok
  unfold tkN ownS
  refine sum_congr _ fun i hi => ?_
  have hi := List.mem_range.1 hi
  obtain ⟨h1, h2, h3⟩ := tks_get hok i hi
  have e : (tks ws).getD i 0 = (tks ws)[i]'(by rw [tks_len]; exact hi) := by rw [List.getD_eq_getElem?_getD, List.getElem?_eq_getElem (by rw [tks_len]; exact hi)]; rfl
  unfold ctb own1
  rw [h1, e]
  generalize (tks ws)[i]'(by rw [tks_len]; exact hi) = m
  have a1 : (F + lenN ws) / lenN ws = F / lenN ws + 1 := Nat.add_div_right _ (by omega)
  have a2 : (F + lenN ws) % lenN ws = F % lenN ws := Nat.add_mod_right _ _
  unfold ahd
  rw [a1, a2, Nat.add_mul, Nat.one_mul]
  split <;> omega
theorem bnd_lt {ws : List Wn} (hok : okL ws) {i j : Nat} (h : i < j) (hj : j ≤ ws.length) : bnd (tks ws) i < bnd (tks ws) j := by
  have h1 : i < (tks ws).length := by rw [tks_len]; omega
  have h2 := bnd_succ (tks ws) i h1
  have h3 := (tks_le hok _ (List.getElem_mem h1)).1
  have h4 := bnd_mono (tks ws) (i := i + 1) (j := j) (by omega)
  omega
theorem bnd_L {ws : List Wn} (hok : okL ws) {i : Nat} (h : i < ws.length) : bnd (tks ws) i < lenN ws := by
  have := bnd_lt hok h (Nat.le_refl _)
  rw [show bnd (tks ws) ws.length = lenN ws by rw [← tks_len ws, bnd_all]; rfl] at this
  exact this
/-- where the beginning of a window lies -/
theorem at_begin {ws : List Wn} (hok : okL ws) {q i : Nat} (h : i < ws.length) (hx : q * lenN ws + bnd (tks ws) i ≤ 1099511627776) :
    atV ws ((q * lenN ws + bnd (tks ws) i : Nat) : Int) = ((q : Int), (i : Int), 0, 0) ∧ (q * lenN ws + bnd (tks ws) i) % lenN ws = bnd (tks ws) i := by
  have hL := lenN_ok hok
  have hb := bnd_L hok h
  have hu := (Nat.div_mod_unique (show 0 < lenN ws by omega)).2 (⟨by rw [Nat.mul_comm]; omega, hb⟩ : bnd (tks ws) i + lenN ws * q = q * lenN ws + bnd (tks ws) i ∧ bnd (tks ws) i < lenN ws)
  have hi : i < (tks ws).length := by rw [tks_len]; exact h
  have hs := bnd_succ (tks ws) i hi
  have hp := (tks_le hok _ (List.getElem_mem hi)).1
  have hl := loc_is (tks ws) (bnd (tks ws) i) i hi (Nat.le_refl _) (by omega)
  refine ⟨?_, hu.2⟩
  unfold atV
  rw [if_pos hok, if_pos (show isT _ from ⟨by omega, by omega⟩), show (((q * lenN ws + bnd (tks ws) i : Nat) : Int)).toNat = q * lenN ws + bnd (tks ws) i from rfl, hu.1, hu.2, hl, Nat.sub_self]
  rfl
theorem find_first {n : Nat} {p : Nat → Bool} {i : Nat} (hi : i < n) (hp : p i = true) (hno : ∀ j, j < i → p j = false) : (List.range n).find? p = some i := by
  rw [List.find?_range_eq_some]
  exact ⟨hp, List.mem_range.2 hi, fun j hj => by simp [hno j hj]⟩
/-- asked at a window's beginning itself -/
theorem nx_self {ws : List Wn} (hok : okL ws) {q i : Nat} {kd ix : Int} (h : i < ws.length) (hb : isB (ws.getD i w0).1 (ws.getD i w0).2.1 kd ix = true) (hx : q * lenN ws + bnd (tks ws) i ≤ 1099511627776) :
    nextN ws kd ix (q * lenN ws + bnd (tks ws) i) = (((q * lenN ws + bnd (tks ws) i : Nat) : Int), 0) := by
  have h2 := (at_begin hok h hx).2
  unfold nextN
  rw [h2, show q * lenN ws + bnd (tks ws) i - bnd (tks ws) i = q * lenN ws by omega]
  rw [find_first h (p := hitB ws kd ix (q * lenN ws + bnd (tks ws) i) (q * lenN ws)) (by unfold hitB; rw [hb, decide_eq_true (Nat.le_refl _)]; rfl) (fun j hj => by
    unfold hitB
    rw [decide_eq_false (by have := bnd_lt hok hj (Nat.le_of_lt h); omega), Bool.and_false])]
theorem nx_none {ws : List Wn} {kd ix : Int} (h : anyS ws kd ix ws.length = false) (F : Nat) : nextN ws kd ix F = (0, 130) := by
  have hn : ∀ b, (List.range ws.length).find? (hitB ws kd ix F b) = none := fun b => by
    rw [List.find?_eq_none]
    intro i hi
    unfold anyS at h
    rw [List.any_eq_false] at h
    have := h i hi
    unfold hitB
    simp only [Bool.not_eq_true] at this ⊢
    rw [this, Bool.false_and]
  unfold nextN
  rw [hn, hn]
theorem nx_some {ws : List Wn} (hok : okL ws) {kd ix : Int} (h : anyS ws kd ix ws.length = true) (F : Nat) (hF : F ≤ 1000000000) :
    ∃ q i : Nat, i < ws.length ∧ isB (ws.getD i w0).1 (ws.getD i w0).2.1 kd ix = true ∧ F ≤ q * lenN ws + bnd (tks ws) i ∧ q * lenN ws + bnd (tks ws) i < F + lenN ws ∧ nextN ws kd ix F = (((q * lenN ws + bnd (tks ws) i : Nat) : Int), 0) := by
  have hL := lenN_ok hok
  have hdm := Nat.div_add_mod F (lenN ws)
  have hb : F - F % lenN ws = F / lenN ws * lenN ws := by rw [Nat.mul_comm]; omega
  have hm := Nat.mod_lt F (show 0 < lenN ws by omega)
  cases h1 : (List.range ws.length).find? (hitB ws kd ix F (F - F % lenN ws)) with
  | some i =>
    have h2 := h1
    rw [List.find?_range_eq_some] at h2
    obtain ⟨h3, h4, _⟩ := h2
    have h4 := List.mem_range.1 h4
    unfold hitB at h3
    rw [Bool.and_eq_true, decide_eq_true_eq] at h3
    have hbl := bnd_L hok h4
    refine ⟨F / lenN ws, i, h4, h3.1, by rw [← hb]; exact h3.2, by rw [← hb]; omega, ?_⟩
    unfold nextN
    rw [h1, ← hb]
  | none =>
    have h2 : ∃ i, (List.range ws.length).find? (hitB ws kd ix F (F - F % lenN ws + lenN ws)) = some i := by
      unfold anyS at h
      rw [List.any_eq_true] at h
      obtain ⟨j, hj, hjb⟩ := h
      cases h5 : (List.range ws.length).find? (hitB ws kd ix F (F - F % lenN ws + lenN ws)) with
      | some i => exact ⟨i, rfl⟩
      | none =>
        rw [List.find?_eq_none] at h5
        refine absurd ?_ (h5 j hj)
        unfold hitB
        rw [hjb, decide_eq_true (by omega)]; rfl
    obtain ⟨i, h2⟩ := h2
    have h3 := h2
    rw [List.find?_range_eq_some] at h3
    obtain ⟨h3, h4, _⟩ := h3
    have h4 := List.mem_range.1 h4
    unfold hitB at h3
    rw [Bool.and_eq_true, decide_eq_true_eq] at h3
    rw [List.find?_eq_none] at h1
    have h5 := h1 i (List.mem_range.2 h4)
    unfold hitB at h5
    rw [h3.1, Bool.true_and, decide_eq_true_eq] at h5
    have hb2 : F - F % lenN ws + lenN ws = (F / lenN ws + 1) * lenN ws := by rw [Nat.add_mul, Nat.one_mul, ← hb]
    refine ⟨F / lenN ws + 1, i, h4, h3.1, by rw [← hb2]; exact h3.2, by rw [← hb2]; omega, ?_⟩
    unfold nextN
    cases h6 : (List.range ws.length).find? (hitB ws kd ix F (F - F % lenN ws)) with
    | some z =>
      rw [List.find?_range_eq_some] at h6
      exact absurd h6.1 (h1 z h6.2.1)
    | none =>
      show (match (List.range ws.length).find? (hitB ws kd ix F (F - F % lenN ws + lenN ws)) with | some i => _ | none => _) = _
      rw [h2, ← hb2]
end Go.Proofs.Ytgbmddjpaibcfaa
