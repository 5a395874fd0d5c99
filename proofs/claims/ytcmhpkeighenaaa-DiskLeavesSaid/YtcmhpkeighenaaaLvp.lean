/- What is left of each sector: nothing of the program but strings. No conditions. -/
import Derived.Test.YtcmhpkeighenaaaFls
namespace Go.Proofs.Ytcmhpkeighenaaa
open Go.RowKit Go.Maps
set_option linter.unusedVariables false

/-- how many sectors below i are unsafe -/
def unsafeN (S : St) (i : Nat) : Nat := ((List.range i).filter fun j => (S.wr j).isSome).length
theorem unsafeN_zero (S : St) : unsafeN S 0 = 0 := rfl
theorem unsafeN_succ (S : St) (i : Nat) : unsafeN S (i + 1) = unsafeN S i + if (S.wr i).isSome = true then 1 else 0 := by
  unfold unsafeN
  rw [List.range_succ, List.filter_append, List.length_append]
  congr 1
  by_cases h : (S.wr i).isSome = true
  · rw [if_pos h]; simp [h]
  · rw [if_neg h]; simp [h]
theorem unsafeN_all (S : St) : unsafeN S S.count = S.waitI.length := by unfold unsafeN St.waitI St.waiting; rw [List.length_map]
theorem range_split (i c : Nat) (h : i ≤ c) : List.range c = List.range i ++ (List.range (c - i)).map (i + ·) := by
  apply List.ext_getElem?
  intro j
  by_cases hj : j < i
  · rw [List.getElem?_append_left (by simpa using hj), List.getElem?_range (by omega), List.getElem?_range hj]
  · rw [List.getElem?_append_right (by simp; omega), List.length_range, List.getElem?_map]
    by_cases hc : j < c
    · rw [List.getElem?_range hc, List.getElem?_range (by omega)]
      simp; omega
    · rw [List.getElem?_eq_none (by simp; omega), List.getElem?_eq_none (by simp; omega)]; rfl
/-- the next unsafe one that waits -/
theorem wait_split (S : St) (i : Nat) (hi : i ≤ S.count) : S.waiting = ((List.range i).filter fun j => (S.wr j).isSome) ++ (((List.range (S.count - i)).map (i + ·)).filter fun j => (S.wr j).isSome) := by
  unfold St.waiting
  rw [range_split i S.count hi, List.filter_append]
theorem wait_at (S : St) (i : Nat) (hi : i < S.count) (hs : (S.wr i).isSome = true) : unsafeN S i < S.waitI.length ∧ S.waitI[unsafeN S i]? = some (i : Int) := by
  have e := wait_split S i (by omega)
  have e2 : S.count - i = (S.count - i - 1) + 1 := by omega
  have e3 : ((List.range (S.count - i)).map (i + ·)).filter (fun j => (S.wr j).isSome) = i :: ((((List.range (S.count - i - 1)).map Nat.succ).map (i + ·)).filter fun j => (S.wr j).isSome) := by
    rw [e2, List.range_succ_eq_map, List.map_cons, List.filter_cons, if_pos (by simpa using hs)]
    simp
  rw [e3] at e
  have hg : S.waiting[unsafeN S i]? = some i := by
    rw [e, List.getElem?_append_right (by show unsafeN S i ≤ unsafeN S i; exact Nat.le_refl _)]
    show (_ :: _)[unsafeN S i - unsafeN S i]? = _
    rw [Nat.sub_self]; rfl
  have hg2 : S.waitI[unsafeN S i]? = some (i : Int) := by unfold St.waitI; rw [List.getElem?_map, hg]; rfl
  exact ⟨(List.getElem?_eq_some_iff.1 hg2).1, hg2⟩
theorem wait_not (S : St) (i : Nat) (hi : i < S.count) (hs : ¬ (S.wr i).isSome = true) (h : unsafeN S i < S.waitI.length) : ∃ x : Nat, S.waitI[unsafeN S i]? = some (x : Int) ∧ x ≠ i := by
  obtain ⟨y, hy⟩ : ∃ y, S.waitI[unsafeN S i]? = some y := ⟨_, List.getElem?_eq_getElem h⟩
  have hm := List.mem_of_getElem? hy
  obtain ⟨j, hj, hw, e⟩ := (waitI_mem S y).1 hm
  subst e
  exact ⟨j, hy, fun e => hs (by rw [← e]; exact hw)⟩
/-- the three strings of a sector -/
theorem tri_len {S : St} (h : S.ok) (f : Nat → Nat) (hf : ∀ i, f i ≤ 128) (i : Nat) (hi : i < S.count) : (sec S.safe i).length = 128 ∧ (S.one full i).length = 128 ∧ (S.one f i).length = 128 :=
  ⟨by have := h.len; exact sec_len (by omega), S.one_len h full full_le i hi, S.one_len h f hf i hi⟩
theorem got_before {S : St} (h : S.ok) (f : Nat → Nat) (hf : ∀ i, f i ≤ 128) (i : Nat) (hi : i < S.count) (j : Nat) (hj : j < f i) : (S.one f i)[j]? = (S.one full i)[j]? := by
  cases hw : S.wr i with
  | none => rw [one_none hw, one_none hw]
  | some s =>
    have hs := (h.wr i s hw).2
    have := hf i
    rw [one_full_some h hw hi, one_some hw, List.getElem?_append_left (by simp; omega), List.getElem?_take, if_pos hj]
theorem got_behind {S : St} (h : S.ok) (f : Nat → Nat) (hf : ∀ i, f i ≤ 128) (i : Nat) (hi : i < S.count) (j : Nat) (hj : f i ≤ j) : (S.one f i)[j]? = (sec S.safe i)[j]? := by
  cases hw : S.wr i with
  | none => rw [one_none hw]
  | some s =>
    have hs := (h.wr i s hw).2
    have := hf i
    rw [one_some hw, List.getElem?_append_right (by simp; omega), List.getElem?_drop]
    congr 1
    simp; omega
theorem got_none {S : St} (f : Nat → Nat) {i : Nat} (hs : ¬ (S.wr i).isSome = true) : S.one full i = sec S.safe i ∧ S.one f i = sec S.safe i := by
  have hw : S.wr i = none := by cases h : S.wr i with | none => rfl | some s => rw [h] at hs; exact absurd rfl hs
  exact ⟨one_none hw, one_none hw⟩
/-- where the loop ends: from there on it is as it was -/
theorem got_drop {S : St} (h : S.ok) (f : Nat → Nat) (hf : ∀ i, f i ≤ 128) (i : Nat) (hi : i < S.count) (t : Nat) (ht : t = 128 ∨ (S.one f i)[t]? ≠ (S.one full i)[t]?) (h128 : t ≤ 128) : (S.one f i).drop t = (sec S.safe i).drop t := by
  obtain ⟨l1, l2, l3⟩ := tri_len h f hf i hi
  rcases ht with ht | ht
  · rw [List.drop_of_length_le (by omega), List.drop_of_length_le (by omega)]
  · have hft : f i ≤ t := Nat.le_of_not_lt fun q => ht (got_before h f hf i hi t q)
    apply List.ext_getElem?
    intro j
    rw [List.getElem?_drop, List.getElem?_drop]
    exact got_behind h f hf i hi (t + j) (by omega)
/-- the last byte tells -/
theorem got_last {S : St} (h : S.ok) (f : Nat → Nat) (hf : ∀ i, f i ≤ 128) (i : Nat) (hi : i < S.count) (h1 : (S.one f i)[127]? = (S.one full i)[127]?) (h2 : (sec S.safe i)[127]? ≠ (S.one full i)[127]?) : S.one f i = S.one full i := by
  obtain ⟨l1, l2, l3⟩ := tri_len h f hf i hi
  have hf128 : f i = 128 := by
    have := hf i
    by_cases q : f i ≤ 127
    · exact absurd ((got_behind h f hf i hi 127 q).symm.trans h1) h2
    · omega
  apply List.ext_getElem?
  intro j
  by_cases hj : j < 128
  · exact got_before h f hf i hi j (by omega)
  · rw [List.getElem?_eq_none (by omega), List.getElem?_eq_none (by omega)]
end Go.Proofs.Ytcmhpkeighenaaa
