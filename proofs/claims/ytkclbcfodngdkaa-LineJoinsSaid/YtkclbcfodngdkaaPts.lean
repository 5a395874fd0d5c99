/- A point's parts, and whether two parts are the same: what the calls return; the world stays. Conditions: the numbers of bits are those that the calls are given. -/
import Derived.Test.YtkclbcfodngdkaaRows
import Derived.WalkKit
import Derived.WalkSpells
import Derived.WalkLawsBesides
import Derived.Lib.Hide
import Derived.RowKit
namespace Go.Proofs.Ytkclbcfodngdkaa
open Go.RowKit
set_option linter.unusedVariables false

/-- the part of two bits, as a float's bits -/
def pf (k : Nat) : Nat := floatOfInt FloatKind.f64 (2 * (k : Int) - 3)
/-- the point of four bits -/
def pt (n : Nat) : Value := .complex .f64 (pf (n / 4 % 4)) (pf (n % 4))
theorem ret_float {a b : Nat} (h : a = b) : Ending.returned (.float .f64 a) = .returned (.float .f64 b) := by rw [h]
set_option maxHeartbeats 400000 in
theorem part_any (n : Nat) (hn : n < 256) (w : World) :
    Calls Try.prog 16 #[.int .u8 (n : Nat)] w fun e w' => e = .returned (.float .f64 (pf (n % 4))) ∧ w = w' := by
  go_enter Try.func16, Try.ntmps16
  go_wp2
  go_ret
  exact ⟨ret_float (by unfold pf; simp), rfl⟩
set_option maxHeartbeats 400000 in
theorem point_any (n : Nat) (hn : n < 256) (w : World) :
    Calls Try.prog 9 #[.int .u8 (n : Nat)] w fun e w' => e = .returned (pt n) ∧ w = w' := by
  obtain ⟨m, hm⟩ : ∃ m, m = n / 4 := ⟨_, rfl⟩
  have e : (n : Int) / 4 = (m : Int) := by omega
  have P1 := Lib.hid (fun w => part_any m (by omega) w)
  have P2 := Lib.hid (fun w => part_any n hn w)
  unfold pt
  rw [← hm]
  clear hm
  generalize pf (m % 4) = a at *
  generalize pf (n % 4) = b at *
  go_enter Try.func9, Try.ntmps9
  go_wp2_with fail
  refine (P1.out _).mono ?_
  rintro e w1 ⟨rfl, rfl⟩
  go_wp2_with fail
  refine (P2.out _).mono ?_
  rintro e w1 ⟨rfl, rfl⟩
  go_wp2_with fail
  go_ret
  exact ⟨rfl, rfl⟩
set_option maxHeartbeats 400000 in
theorem rPart_any (k : Nat) (hk : k < 4) (w : World) :
    Calls Try.prog 17 #[.int .i64 (k : Nat)] w fun e w' => e = .returned (.float .f64 (pf k)) ∧ w = w' := by
  go_enter Try.func17, Try.ntmps17
  go_wp2
  go_ret
  exact ⟨ret_float rfl, rfl⟩
set_option maxHeartbeats 400000 in
theorem rPoint_any (n : Nat) (hn : n < 16) (w : World) :
    Calls Try.prog 10 #[.int .i64 (n : Nat)] w fun e w' => e = .returned (pt n) ∧ w = w' := by
  obtain ⟨m, hm⟩ : ∃ m, m = n / 4 := ⟨_, rfl⟩
  obtain ⟨r, hr⟩ : ∃ r, r = n % 4 := ⟨_, rfl⟩
  have e1 : (n : Int) / 4 = (m : Int) := by omega
  have e2 : (n : Int) % 4 = (r : Int) := by omega
  have P1 := Lib.hid (fun w => rPart_any m (by omega) w)
  have P2 := Lib.hid (fun w => rPart_any r (by omega) w)
  unfold pt
  rw [show n / 4 % 4 = m by omega, ← hr]
  clear hm hr
  generalize pf m = a at *
  generalize pf r = b at *
  go_enter Try.func10, Try.ntmps10
  go_wp2_with fail
  refine (P1.out _).mono ?_
  rintro e w1 ⟨rfl, rfl⟩
  go_wp2_with fail
  refine (P2.out _).mono ?_
  rintro e w1 ⟨rfl, rfl⟩
  go_wp2_with fail
  go_ret
  exact ⟨rfl, rfl⟩
theorem ret_bool {a b : Bool} (h : a = b) : Ending.returned (.bool a) = .returned (.bool b) := by rw [h]
set_option maxHeartbeats 400000 in
theorem same_part (x : Nat) (w : World) :
    Calls Try.prog 11 #[.float .f64 x, .float .f64 x] w fun e w' => e = .returned (.bool true) ∧ w = w' := by
  go_enter Try.func11, Try.ntmps11
  go_wp2
  · go_ret
    exact ⟨rfl, rfl⟩
  · go_ret
    refine ⟨ret_bool ?_, rfl⟩
    generalize FloatKind.f64.format.order x x = b
    by_cases hb : b = some Ordering.eq
    · subst hb; rfl
    · simp [hb]
end Go.Proofs.Ytkclbcfodngdkaa
