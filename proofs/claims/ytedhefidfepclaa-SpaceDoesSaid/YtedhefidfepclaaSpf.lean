/- Which pages go to which part, one after another; what the row of bounds is behind them. No conditions. -/
import Derived.Test.YtedhefidfepclaaSpe
namespace Go.Proofs.Ytedhefidfepclaa
open Go.RowKit Go.Maps
set_option linter.unusedVariables false

/-- the first t pages of part i, whose first page is s -/
def rowD (i s t : Nat) : List (Nat × Nat) := (List.range t).map fun u => (i, s + u)
theorem rowD_zero (i s : Nat) : rowD i s 0 = [] := rfl
theorem rowD_succ (i s t : Nat) : rowD i s (t + 1) = rowD i s t ++ [(i, s + t)] := by unfold rowD; rw [List.range_succ, List.map_append]; rfl
theorem rowD_len (i s t : Nat) : (rowD i s t).length = t := by simp [rowD]
/-- the pages of the first k parts -/
def dlt (ns : List Nat) : Nat → List (Nat × Nat)
  | 0 => []
  | k + 1 => dlt ns k ++ rowD k (bnd ns k) (ns.getD k 0)
theorem dlt_len (ns : List Nat) : ∀ k, k ≤ ns.length → (dlt ns k).length = bnd ns k
  | 0, _ => rfl
  | k + 1, h => by
    rw [dlt, List.length_append, rowD_len, dlt_len ns k (by omega), bnd_succ ns k h, List.getD_eq_getElem?_getD, List.getElem?_eq_getElem h]
    rfl
theorem dlt_mem (ns : List Nat) (x : Nat × Nat) : ∀ k, x ∈ dlt ns k → x.1 < k ∧ bnd ns x.1 ≤ x.2 ∧ x.2 < bnd ns x.1 + ns.getD x.1 0
  | 0, h => by simp [dlt] at h
  | k + 1, h => by
    rw [dlt, List.mem_append] at h
    rcases h with h | h
    · obtain ⟨a, b⟩ := dlt_mem ns x k h
      exact ⟨by omega, b⟩
    · unfold rowD at h
      obtain ⟨u, hu, rfl⟩ := List.mem_map.1 h
      have := List.mem_range.1 hu
      exact ⟨Nat.lt_succ_self _, Nat.le_add_right _ _, by show bnd ns k + u < bnd ns k + ns.getD k 0; omega⟩
theorem dlt_in (ns : List Nat) (k t : Nat) (ht : t < ns.getD k 0) : (k, bnd ns k + t) ∈ dlt ns (k + 1) := by
  rw [dlt, List.mem_append]
  exact .inr (List.mem_map.2 ⟨t, List.mem_range.2 ht, rfl⟩)
theorem dlt_sub (ns : List Nat) (x : Nat × Nat) (k : Nat) (h : x ∈ dlt ns k) : ∀ m, k ≤ m → x ∈ dlt ns m := by
  intro m hm
  obtain ⟨d, rfl⟩ : ∃ d, m = k + d := ⟨m - k, by omega⟩
  clear hm
  induction d with
  | zero => exact h
  | succ d ih => rw [← Nat.add_assoc, dlt, List.mem_append]; exact .inl ih
/-- the row of bounds behind the pages that were dealt, which had z noughts -/
def bdsD (z : Nat) (xs : List (Nat × Nat)) : List Nat := (xs.foldl (fun (c : List Nat × Nat) x => (c.1.set (x.1 + 1) (c.2 + 1), c.2 + 1)) (List.replicate z 0, 0)).1
theorem bdsD_cnt (z : Nat) (xs : List (Nat × Nat)) : ∀ c : List Nat × Nat, (xs.foldl (fun (c : List Nat × Nat) x => (c.1.set (x.1 + 1) (c.2 + 1), c.2 + 1)) c).2 = c.2 + xs.length := by
  induction xs with
  | nil => intro c; rfl
  | cons x xs ih => intro c; rw [List.foldl_cons, ih, List.length_cons]; show c.2 + 1 + _ = _; omega
theorem bdsD_snoc (z : Nat) (xs : List (Nat × Nat)) (x : Nat × Nat) : bdsD z (xs ++ [x]) = (bdsD z xs).set (x.1 + 1) (xs.length + 1) := by
  unfold bdsD
  rw [List.foldl_append, List.foldl_cons, List.foldl_nil]
  show List.set _ _ _ = _
  rw [bdsD_cnt z, Nat.zero_add]
theorem bdsD_len (z : Nat) (xs : List (Nat × Nat)) : (bdsD z xs).length = z := by
  have : ∀ c : List Nat × Nat, (xs.foldl (fun (c : List Nat × Nat) x => (c.1.set (x.1 + 1) (c.2 + 1), c.2 + 1)) c).1.length = c.1.length := by
    induction xs with
    | nil => intro c; rfl
    | cons x xs ih => intro c; rw [List.foldl_cons, ih, List.length_set]
  unfold bdsD
  rw [this, List.length_replicate]
/-- behind all parts' pages the row of bounds says where each begins -/
theorem bdsD_row (z : Nat) (ns : List Nat) (k : Nat) (hk : k < ns.length) (xs : List (Nat × Nat)) (hx : xs.length = bnd ns k) (hz : ns.length + 1 ≤ z) : ∀ t, ∀ j, (bdsD z (xs ++ rowD k (bnd ns k) t)).getD j 0 = if j = k + 1 ∧ 0 < t then bnd ns k + t else (bdsD z xs).getD j 0
  | 0, j => by rw [rowD_zero, List.append_nil, if_neg (by omega)]
  | t + 1, j => by
    rw [rowD_succ, ← List.append_assoc, bdsD_snoc, List.length_append, rowD_len, hx, List.getD_eq_getElem?_getD, List.getElem?_set]
    by_cases e : k + 1 = j
    · rw [if_pos e, if_pos (by rw [bdsD_len]; omega), if_pos ⟨by omega, by omega⟩]; rfl
    · rw [if_neg e, ← List.getD_eq_getElem?_getD, bdsD_row z ns k hk xs hx hz t j, if_neg (by omega), if_neg (by omega)]
theorem bdsD_dlt (z : Nat) (ns : List Nat) (hz : ns.length + 1 ≤ z) (h1 : ∀ n ∈ ns, 1 ≤ n) : ∀ k, k ≤ ns.length → ∀ j, (bdsD z (dlt ns k)).getD j 0 = if j ≤ k then bnd ns j else 0
  | 0, _, j => by
    have e : bdsD z (dlt ns 0) = List.replicate z 0 := rfl
    rw [e, List.getD_eq_getElem?_getD, List.getElem?_replicate]
    by_cases c : j ≤ 0
    · obtain rfl : j = 0 := by omega
      rw [if_pos (by omega), if_pos c]; rfl
    · rw [if_neg c]; split <;> rfl
  | k + 1, hk, j => by
    have hn : ns.getD k 0 = ns[k] := by rw [List.getD_eq_getElem?_getD, List.getElem?_eq_getElem hk]; rfl
    have h2 := h1 _ (List.getElem_mem hk)
    rw [dlt, bdsD_row z ns k hk _ (dlt_len ns k (by omega)) hz, bdsD_dlt z ns hz h1 k (by omega) j, hn, ← bnd_succ ns k hk]
    by_cases e : j = k + 1
    · rw [if_pos ⟨e, by omega⟩, if_pos (by omega), e]
    · rw [if_neg (by omega)]
      by_cases c : j ≤ k
      · rw [if_pos c, if_pos (by omega)]
      · rw [if_neg c, if_neg (by omega)]
end Go.Proofs.Ytedhefidfepclaa
