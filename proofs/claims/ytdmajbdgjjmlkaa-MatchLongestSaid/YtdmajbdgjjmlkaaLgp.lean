/- No text of the language is longer than a hit, or begins ahead of it: nothing of the program. No conditions. -/
import Derived.Test.YtdmajbdgjjmlkaaOff
namespace Go.Proofs.Ytdmajbdgjjmlkaa
open Go.RowKit
set_option linter.unusedVariables false
set_option linter.unusedSimpArgs false

theorem stepS_zero (b : UInt8) : ∀ (r : List Sta) (i : Nat), stepS 0 b r i 0 = 0
  | [], i => rfl
  | x :: r, i => by rw [stepS, Nat.zero_testBit, Bool.false_and]; exact stepS_zero b r (i + 1)
theorem Mac.run_zero (M : Mac) : ∀ s : Bs, M.run 0 s = 0
  | [] => rfl
  | b :: s => by
    rw [Mac.run, show M.step 0 b = 0 from stepS_zero b _ _]
    exact M.run_zero s
theorem Mac.lon_ge (M : Mac) : ∀ (s : Bs) (i past now : Nat), past ≤ i → past ≤ M.lon s i past now
  | [], i, past, now, h => Nat.le_refl _
  | b :: s, i, past, now, h => by
    rw [Mac.lon]
    split
    · exact Nat.le_refl _
    · split
      · exact Nat.le_trans (by omega) (M.lon_ge s (i + 1) (i + 1) _ (Nat.le_refl _))
      · exact M.lon_ge s (i + 1) past _ (by omega)
/-- no text that is taken is longer -/
theorem Mac.lon_most (M : Mac) : ∀ (s : Bs) (i past now k : Nat), past ≤ i → k < s.length → (M.run now (s.take (k + 1))).testBit 0 = true → i + k + 1 ≤ M.lon s i past now
  | [], i, past, now, k, h, hk, _ => absurd hk (by simp)
  | b :: s, i, past, now, k, h, hk, hr => by
    rw [List.take_succ_cons, Mac.run] at hr
    rw [Mac.lon]
    by_cases h0 : now = 0
    · subst h0
      rw [show M.step 0 b = 0 from stepS_zero b _ _, M.run_zero] at hr
      simp at hr
    · rw [if_neg h0]
      cases k with
      | zero =>
        rw [List.take_zero, Mac.run] at hr
        rw [if_pos hr]
        exact M.lon_ge s (i + 1) (i + 1) _ (Nat.le_refl _)
      | succ k =>
        have := M.lon_most s (i + 1) (if (M.step now b).testBit 0 = true then i + 1 else past) (M.step now b) k (by split <;> omega) (by simpa using hk) hr
        omega
/-- it is taken -/
theorem Mac.lon_is (M : Mac) : ∀ (s : Bs) (i past now : Nat), M.lon s i past now = past ∨ ∃ k, k < s.length ∧ M.lon s i past now = i + k + 1 ∧ (M.run now (s.take (k + 1))).testBit 0 = true
  | [], i, past, now => .inl rfl
  | b :: s, i, past, now => by
    rw [Mac.lon]
    by_cases h0 : now = 0
    · rw [if_pos h0]; exact .inl rfl
    · rw [if_neg h0]
      rcases M.lon_is s (i + 1) (if (M.step now b).testBit 0 = true then i + 1 else past) (M.step now b) with h | ⟨k, h1, h2, h3⟩
      · rw [h]
        split
        · next hb => exact .inr ⟨0, by simp, rfl, by rw [List.take_succ_cons, List.take_zero, Mac.run, Mac.run]; exact hb⟩
        · exact .inl rfl
      · exact .inr ⟨k + 1, by simpa using h1, by rw [h2]; omega, by rw [List.take_succ_cons, Mac.run]; exact h3⟩
theorem Mac.hit_is (M : Mac) : ∀ (s : Bs) (i : Nat), match M.hit s i with
    | none => ∀ k, k < s.length → M.lon (s.drop k) (i + k) (i + k) M.beg ≤ i + k
    | some p => ∃ k, k < s.length ∧ p.1 = i + k ∧ p.2 = M.lon (s.drop k) (i + k) (i + k) M.beg ∧ ∀ j, j < k → M.lon (s.drop j) (i + j) (i + j) M.beg ≤ i + j
  | [], i => fun k hk => absurd hk (by simp)
  | b :: s, i => by
    rw [Mac.hit]
    by_cases h : i < M.lon (b :: s) i i M.beg
    · rw [if_pos h]
      exact ⟨0, by simp, rfl, rfl, fun j hj => by omega⟩
    · rw [if_neg h]
      have ih := M.hit_is s (i + 1)
      have step : ∀ k, (∀ j, j < k → M.lon (s.drop j) (i + 1 + j) (i + 1 + j) M.beg ≤ i + 1 + j) → ∀ j, j < k + 1 → M.lon ((b :: s).drop j) (i + j) (i + j) M.beg ≤ i + j := fun k hk j hj => by
        cases j with
        | zero => simpa using h
        | succ j => rw [List.drop_succ_cons, show i + (j + 1) = i + 1 + j by omega]; exact hk j (by omega)
      cases hh : M.hit s (i + 1) with
      | none =>
        rw [hh] at ih
        exact step s.length ih
      | some p =>
        rw [hh] at ih
        obtain ⟨k, h1, h2, h3, h4⟩ := ih
        exact ⟨k + 1, by simpa using h1, by omega, by rw [h3, List.drop_succ_cons, show i + (k + 1) = i + 1 + k by omega], step k h4⟩
/-- is the text from a to b in the language? -/
def Mac.bIn (M : Mac) (s : Bs) (a b : Nat) : Bool := M.inB ((s.drop a).take (b - a))
theorem Mac.bIn_run {M : Mac} {s : Bs} {a b : Nat} (hs : s.length ≤ 256) : M.bIn s a b = (M.run M.beg ((s.drop a).take (b - a))).testBit 0 := by
  unfold Mac.bIn Mac.inB Mac.is
  rw [decide_eq_true (by rw [List.length_take, List.length_drop]; omega), Bool.true_and]
theorem Mac.bIn_lon {M : Mac} {s : Bs} {a b : Nat} (hs : s.length ≤ 256) (h1 : a < b) (h2 : b ≤ s.length) (h : M.bIn s a b = true) : b ≤ M.lon (s.drop a) a a M.beg := by
  rw [Mac.bIn_run hs] at h
  have := M.lon_most (s.drop a) a a M.beg (b - a - 1) (Nat.le_refl _) (by rw [List.length_drop]; omega) (by rw [show b - a - 1 + 1 = b - a by omega]; exact h)
  omega
/-- of a hit -/
theorem Mac.hit_long {M : Mac} {s : Bs} {i : Nat} {p : Nat × Nat} (h : M.hitI s (i : Nat) = some p) :
    M.bIn s p.1 p.2 = true ∧ ∀ a b, i ≤ a → a ≤ p.1 → a < b → b ≤ s.length → M.bIn s a b = true → a = p.1 ∧ b ≤ p.2 := by
  obtain ⟨g1, g2, g3, g4⟩ := Mac.hitI_some h
  unfold Mac.hitI at h
  split at h
  · cases h
  · rw [Int.toNat_natCast] at h
    have hh := M.hit_is (s.drop i) i
    unfold Mac.hitF at h
    rw [h] at hh
    obtain ⟨k, k1, k2, k3, k4⟩ := hh
    simp only [List.drop_drop] at k3 k4
    rw [← k2] at k3
    have e1 : i + k = p.1 := k2.symm
    refine ⟨?_, fun a b ha hap hab hb hin => ?_⟩
    · rcases M.lon_is (s.drop p.1) p.1 p.1 M.beg with q | ⟨j, q1, q2, q3⟩
      · omega
      · rw [Mac.bIn_run g4]
        rw [show p.2 - p.1 = j + 1 by omega]
        exact q3
    · have hl := Mac.bIn_lon g4 hab hb hin
      by_cases e : a = p.1
      · subst e
        exact ⟨rfl, by omega⟩
      · have := k4 (a - i) (by omega)
        rw [show i + (a - i) = a by omega] at this
        omega
theorem Mac.hit_not {M : Mac} {s : Bs} {i : Nat} (h : M.hitI s (i : Nat) = none) (hs : s.length ≤ 256) : ∀ a b, i ≤ a → a < b → b ≤ s.length → M.bIn s a b = false := by
  intro a b ha hab hb
  unfold Mac.hitI at h
  rw [if_neg (by omega), Int.toNat_natCast] at h
  have hh := M.hit_is (s.drop i) i
  unfold Mac.hitF at h
  rw [h] at hh
  cases hc : M.bIn s a b
  · rfl
  · have hl := Mac.bIn_lon hs hab hb hc
    have := hh (a - i) (by rw [List.length_drop]; omega)
    simp only [List.drop_drop] at this
    rw [show i + (a - i) = a by omega] at this
    omega
theorem extract_list (s : ByteArray) (a b : Nat) : (s.extract a b).data.toList = (s.data.toList.drop a).take (b - a) := by
  rw [ByteArray.data_extract, Array.toList_extract]

end Go.Proofs.Ytdmajbdgjjmlkaa
