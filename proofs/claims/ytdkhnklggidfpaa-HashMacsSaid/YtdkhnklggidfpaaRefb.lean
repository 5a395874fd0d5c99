/- The document's question whether a number in digits is above another: what the call returns; the world stays. Conditions: at most 64 digits, the place is 2 or 3. -/
import Derived.Test.YtdkhnklggidfpaaRefa
namespace Go.Proofs.Ytdkhnklggidfpaa
open Go.RowKit
set_option linter.unusedVariables false

theorem ret_bool {a b : Bool} (h : a = b) : Ending.returned (.bool a) = .returned (.bool b) := by rw [h]
set_option maxRecDepth 100000 in
set_option maxHeartbeats 2000000 in
theorem above_any (g cap : Nat) (a : List Nat) (p n : Nat) (w : World) (ha : RowU w g a) (la : a.length ≤ 64) (hn : n ≤ 16) :
    Calls Try.prog 46 #[.slice (some ⟨g, 0, none⟩) a.length cap, .int .u64 (p : Nat), .int .i64 (n : Nat)] w fun e w' => e = .returned (.bool (aboveL a p n)) ∧ w = w' := by
  have HA := Lib.hid ha.2
  clear ha
  go_enter Try.func46, Try.ntmps46
  go_wp2
  go_loop [7, 8] (fun i _ => ∃ m : Int, -1 ≤ m ∧ m < a.length ∧ i = .int .i64 m ∧ Hid (aboveL a p n = abv a p n (m + 1).toNat)) (fun i _ => (intOf i + 1).toNat)
  case atStart => exact ⟨(a.length : Int) - 1, by omega, by omega, rfl, by unfold Hid aboveL; congr 1; omega⟩
  case round =>
    obtain ⟨m0, hm1, hm2, rfl, HV⟩ := hrel
    by_cases h0 : 0 ≤ m0
    · obtain ⟨m, rfl⟩ := Int.eq_ofNat_of_zero_le h0
      have hml : m < a.length := by omega
      have hc := HA.out m hml
      have HV2 : Hid (aboveL a p n = if a.getD m 0 = (if m = 2 * n then p else 0) then abv a p n m else decide ((if m = 2 * n then p else 0) < a.getD m 0)) := by
        unfold Hid; rw [HV.out, show ((m : Int) + 1).toNat = m + 1 by omega]; rfl
      clear HV
      generalize a.getD m 0 = x at *
      obtain ⟨t, ht⟩ : ∃ t, t = 2 * n := ⟨_, rfl⟩
      have f1 : 2 * (n : Int) = (t : Int) := by omega
      rw [← ht] at HV2
      clear ht
      by_cases hmn : m = t
      · rw [if_pos hmn] at HV2
        subst hmn
        by_cases hxp : x = p
        · rw [if_pos hxp] at HV2
          subst hxp
          go_wp2
          go_round
          case rel => exact ⟨(m : Int) - 1, by omega, by omega, rfl, by unfold Hid; rw [HV2.out]; congr 1; omega⟩
          case measure => first | (simp [intOf]; done) | (simp [intOf]; omega)
        · rw [if_neg hxp] at HV2
          have hxp' : ¬ (x : Int) = (p : Int) := by omega
          go_wp2
          go_ret
          exact ⟨ret_bool (by rw [HV2.out]), rfl⟩
      · rw [if_neg hmn] at HV2
        by_cases hxp : x = 0
        · rw [if_pos hxp] at HV2
          subst hxp
          go_wp2
          go_round
          case rel => exact ⟨(m : Int) - 1, by omega, by omega, rfl, by unfold Hid; rw [HV2.out]; congr 1; omega⟩
          case measure => first | (simp [intOf]; done) | (simp [intOf]; omega)
        · rw [if_neg hxp] at HV2
          have hxp' : ¬ (x : Int) = 0 := by omega
          go_wp2
          go_ret
          exact ⟨ret_bool (by rw [HV2.out]), rfl⟩
    · have hm : m0 = -1 := by omega
      subst hm
      go_wp2
      go_ret
      exact ⟨ret_bool (by rw [HV.out]; rfl), rfl⟩
end Go.Proofs.Ytdkhnklggidfpaa
