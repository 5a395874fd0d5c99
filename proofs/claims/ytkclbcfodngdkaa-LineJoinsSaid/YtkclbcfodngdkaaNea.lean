/- Parts that are near, what they are taken as, points turned by quarters: what the calls return; the world stays. No conditions but the numbers of quarters. -/
import Derived.Test.YtkclbcfodngdkaaSnd
import Derived.Laws.FloatArith
import Derived.Laws.ComplexArith
namespace Go.Proofs.Ytkclbcfodngdkaa
open Go.RowKit
set_option linter.unusedVariables false

def ordF (x y : Nat) : Option Ordering := FloatKind.f64.format.order x y
def nearB (x : Nat) : Bool := (ordF 13839561654909534208 x == some Ordering.lt || ordF 13839561654909534208 x == some Ordering.eq) && (ordF x 4616189618054758400 == some Ordering.lt || ordF x 4616189618054758400 == some Ordering.eq)
def takB (x : Nat) : Nat := if ordF x 13835058055282163712 == some Ordering.lt then 0 else if ordF x 0 == some Ordering.lt then 1 else if ordF x 4611686018427387904 == some Ordering.lt then 2 else 3
theorem ret_u8 {a b : Int} (h : a = b) : Ending.returned (.int .u8 a) = .returned (.int .u8 b) := by rw [h]
set_option maxHeartbeats 400000 in
theorem near_any (x : Nat) (w : World) :
    Calls Try.prog 21 #[.float .f64 x] w fun e w' => e = .returned (.bool (nearB x)) ∧ w = w' := by
  obtain ⟨r, hr⟩ : ∃ r, r = nearB x := ⟨_, rfl⟩
  rw [← hr]
  have HR := Lib.hid hr
  clear hr
  go_enter Try.func21, Try.ntmps21
  go_wp2
  · go_ret
    exact ⟨ret_bool (by rw [HR.out]; rfl), rfl⟩
  · have h : ¬ (ordF 13839561654909534208 x = some Ordering.lt ∨ ordF 13839561654909534208 x = some Ordering.eq) := by assumption
    go_ret
    refine ⟨ret_bool ?_, rfl⟩
    rw [HR.out]
    unfold nearB
    cases h1 : (ordF 13839561654909534208 x == some Ordering.lt || ordF 13839561654909534208 x == some Ordering.eq) with
    | false => rfl
    | true => exact absurd (by simpa using h1) h
set_option maxHeartbeats 400000 in
theorem taken_any (x : Nat) (w : World) :
    Calls Try.prog 22 #[.float .f64 x] w fun e w' => e = .returned (.int .u8 (takB x : Nat)) ∧ w = w' := by
  obtain ⟨r, hr⟩ : ∃ r, r = takB x := ⟨_, rfl⟩
  rw [← hr]
  have HR := Lib.hid hr
  clear hr
  go_enter Try.func22, Try.ntmps22
  go_wp2
  · have h1 : (ordF x 13835058055282163712 == some Ordering.lt) = true := by assumption
    go_ret
    exact ⟨ret_u8 (by rw [HR.out]; unfold takB; rw [h1]; rfl), rfl⟩
  · have h1 : (ordF x 13835058055282163712 == some Ordering.lt) = false := by assumption
    have h2 : (ordF x 0 == some Ordering.lt) = true := by assumption
    go_ret
    exact ⟨ret_u8 (by rw [HR.out]; unfold takB; rw [h1, h2]; rfl), rfl⟩
  · have h1 : (ordF x 13835058055282163712 == some Ordering.lt) = false := by assumption
    have h2 : (ordF x 0 == some Ordering.lt) = false := by assumption
    have h3 : (ordF x 4611686018427387904 == some Ordering.lt) = true := by assumption
    go_ret
    exact ⟨ret_u8 (by rw [HR.out]; unfold takB; rw [h1, h2, h3]; rfl), rfl⟩
  · have h1 : (ordF x 13835058055282163712 == some Ordering.lt) = false := by assumption
    have h2 : (ordF x 0 == some Ordering.lt) = false := by assumption
    have h3 : (ordF x 4611686018427387904 == some Ordering.lt) = false := by assumption
    go_ret
    exact ⟨ret_u8 (by rw [HR.out]; unfold takB; rw [h1, h2, h3]; rfl), rfl⟩
theorem takB_lt (x : Nat) : takB x < 4 := by
  unfold takB
  split
  · decide
  · split
    · decide
    · split <;> decide
def okB (x y : Nat) : Bool := nearB x && nearB y
def bitB (x y : Nat) : Nat := 4 * takB x + takB y
set_option maxHeartbeats 1000000 in
theorem bits_yes (x y : Nat) (w : World) (h : okB x y = true) :
    Calls Try.prog 19 #[.complex .f64 x y] w fun e w' => e = .returned (.tuple #[.int .u8 (bitB x y : Nat), .bool true]) ∧ w = w' := by
  have A1 := Lib.hid (near_any x)
  have A2 := Lib.hid (near_any y)
  have T1 := Lib.hid (taken_any x)
  have T2 := Lib.hid (taken_any y)
  have h1 := takB_lt x
  have h2 := takB_lt y
  have hx : nearB x = true := by unfold okB at h; simp at h; exact h.1
  have hy : nearB y = true := by unfold okB at h; simp at h; exact h.2
  rw [hx] at A1
  rw [hy] at A2
  have HB := Lib.hid (show bitB x y = 4 * takB x + takB y from rfl)
  generalize bitB x y = r at *
  generalize takB x = a at *
  generalize takB y = b at *
  clear hx hy h
  have ha : a = 0 ∨ a = 1 ∨ a = 2 ∨ a = 3 := by omega
  have hb : b = 0 ∨ b = 1 ∨ b = 2 ∨ b = 3 := by omega
  clear h1 h2
  rcases ha with rfl | rfl | rfl | rfl <;> rcases hb with rfl | rfl | rfl | rfl
  all_goals
    go_enter Try.func19, Try.ntmps19
    go_wp2_with fail
    (with_reducible refine (A1.out _).mono ?_)
    rintro e w1 ⟨rfl, rfl⟩
    go_wp2_with fail
    (with_reducible refine (A2.out _).mono ?_)
    rintro e w1 ⟨rfl, rfl⟩
    go_wp2_with fail
    (with_reducible refine (T1.out _).mono ?_)
    rintro e w1 ⟨rfl, rfl⟩
    go_wp2_with fail
    (with_reducible refine (T2.out _).mono ?_)
    rintro e w1 ⟨rfl, rfl⟩
    go_wp2_with fail
    go_ret2
    exact ⟨by rw [HB.out]; rfl, rfl⟩
set_option maxHeartbeats 400000 in
theorem bits_no (x y : Nat) (w : World) (h : okB x y = false) :
    Calls Try.prog 19 #[.complex .f64 x y] w fun e w' => e = .returned (.tuple #[.int .u8 0, .bool false]) ∧ w = w' := by
  have A1 := Lib.hid (near_any x)
  have A2 := Lib.hid (near_any y)
  unfold okB at h
  generalize nearB x = a at *
  generalize nearB y = b at *
  cases a with
  | false =>
    clear h
    go_enter Try.func19, Try.ntmps19
    go_wp2_with fail
    (with_reducible refine (A1.out _).mono ?_)
    rintro e w1 ⟨rfl, rfl⟩
    go_wp2_with fail
    go_ret2
    exact ⟨rfl, rfl⟩
  | true =>
    have hb : b = false := by simpa using h
    subst hb
    clear h
    go_enter Try.func19, Try.ntmps19
    go_wp2_with fail
    (with_reducible refine (A1.out _).mono ?_)
    rintro e w1 ⟨rfl, rfl⟩
    go_wp2_with fail
    (with_reducible refine (A2.out _).mono ?_)
    rintro e w1 ⟨rfl, rfl⟩
    go_wp2_with fail
    go_ret2
    exact ⟨rfl, rfl⟩
theorem unary_negF (k : FloatKind) (b : Nat) : Op.unary .neg (.float k b) = pure (.float k (Op.negFloat k b)) := rfl
def rotN : Nat → Nat × Nat → Nat × Nat
  | 0, p => p
  | j + 1, p => (Op.negFloat .f64 (rotN j p).2, (rotN j p).1)
theorem ret_cpl {a b c d : Nat} (h : a = c) (h2 : b = d) : Ending.returned (.complex .f64 a b) = .returned (.complex .f64 c d) := by rw [h, h2]
attribute [local go_sem] unary_negF
set_option maxHeartbeats 400000 in
theorem turned0 (x y : Nat) (w : World) :
    Calls Try.prog 20 #[.complex .f64 x y, .int .i64 0] w fun e w' => e = .returned (.complex .f64 (rotN 0 (x, y)).1 (rotN 0 (x, y)).2) ∧ w = w' := by
  obtain ⟨F, hF⟩ : ∃ F : Nat → Nat × Nat, F = fun j => rotN j (x, y) := ⟨_, rfl⟩
  have h0 : Hid ((F 0) = (x, y)) := by rw [hF]; rfl
  have hs : Hid (∀ j, F (j + 1) = (Op.negFloat .f64 (F j).2, (F j).1)) := by rw [hF]; exact fun j => rfl
  have e : rotN 0 (x, y) = F 0 := by rw [hF]
  rw [e]
  clear hF e
  go_enter Try.func20, Try.ntmps20
  go_wp2
  go_loop [0, 9] (fun z i => ∃ j u v : Nat, j ≤ 0 ∧ i = .int .i64 j ∧ z = .complex .f64 u v ∧ Hid (F j = (u, v))) (fun _ i => 0 - (intOf i).toNat)
  case atStart => exact ⟨0, x, y, by omega, rfl, rfl, h0⟩
  case round =>
    obtain ⟨j, u, v, hj, rfl, rfl, hq⟩ := hrel
    by_cases hlt : j < 0
    · have hji : (j : Int) < 0 := by omega
      have hn : Hid (F (j + 1) = (Op.negFloat .f64 v, u)) := by have := hs.out j; rw [hq.out] at this; exact this
      go_wp2
      first
        | exact ⟨⟨j + 1, _, _, by omega, by go_num, rfl, hn⟩, by simp [intOf]; omega⟩
        | (refine ⟨?_, by simp [intOf]; omega⟩; repeat apply Exists.intro; exact ⟨⟨j + 1, _, _, by omega, by go_num, rfl, hn⟩, rfl⟩)
    · have hjm : j = 0 := by omega
      subst hjm
      have hd : decide (((0 : Nat) : Int) < 0) = false := by decide
      go_wp2
      go_ret
      exact ⟨ret_cpl (by rw [hq.out]) (by rw [hq.out]), rfl⟩
set_option maxHeartbeats 400000 in
theorem turned1 (x y : Nat) (w : World) :
    Calls Try.prog 20 #[.complex .f64 x y, .int .i64 1] w fun e w' => e = .returned (.complex .f64 (rotN 1 (x, y)).1 (rotN 1 (x, y)).2) ∧ w = w' := by
  obtain ⟨F, hF⟩ : ∃ F : Nat → Nat × Nat, F = fun j => rotN j (x, y) := ⟨_, rfl⟩
  have h0 : Hid ((F 0) = (x, y)) := by rw [hF]; rfl
  have hs : Hid (∀ j, F (j + 1) = (Op.negFloat .f64 (F j).2, (F j).1)) := by rw [hF]; exact fun j => rfl
  have e : rotN 1 (x, y) = F 1 := by rw [hF]
  rw [e]
  clear hF e
  go_enter Try.func20, Try.ntmps20
  go_wp2
  go_loop [0, 9] (fun z i => ∃ j u v : Nat, j ≤ 1 ∧ i = .int .i64 j ∧ z = .complex .f64 u v ∧ Hid (F j = (u, v))) (fun _ i => 1 - (intOf i).toNat)
  case atStart => exact ⟨0, x, y, by omega, rfl, rfl, h0⟩
  case round =>
    obtain ⟨j, u, v, hj, rfl, rfl, hq⟩ := hrel
    by_cases hlt : j < 1
    · have hji : (j : Int) < 1 := by omega
      have hn : Hid (F (j + 1) = (Op.negFloat .f64 v, u)) := by have := hs.out j; rw [hq.out] at this; exact this
      go_wp2
      first
        | exact ⟨⟨j + 1, _, _, by omega, by go_num, rfl, hn⟩, by simp [intOf]; omega⟩
        | (refine ⟨?_, by simp [intOf]; omega⟩; repeat apply Exists.intro; exact ⟨⟨j + 1, _, _, by omega, by go_num, rfl, hn⟩, rfl⟩)
    · have hjm : j = 1 := by omega
      subst hjm
      have hd : decide (((1 : Nat) : Int) < 1) = false := by decide
      go_wp2
      go_ret
      exact ⟨ret_cpl (by rw [hq.out]) (by rw [hq.out]), rfl⟩
set_option maxHeartbeats 400000 in
theorem turned3 (x y : Nat) (w : World) :
    Calls Try.prog 20 #[.complex .f64 x y, .int .i64 (-1)] w fun e w' => e = .returned (.complex .f64 (rotN 3 (x, y)).1 (rotN 3 (x, y)).2) ∧ w = w' := by
  obtain ⟨F, hF⟩ : ∃ F : Nat → Nat × Nat, F = fun j => rotN j (x, y) := ⟨_, rfl⟩
  have h0 : Hid ((F 0) = (x, y)) := by rw [hF]; rfl
  have hs : Hid (∀ j, F (j + 1) = (Op.negFloat .f64 (F j).2, (F j).1)) := by rw [hF]; exact fun j => rfl
  have e : rotN 3 (x, y) = F 3 := by rw [hF]
  rw [e]
  clear hF e
  go_enter Try.func20, Try.ntmps20
  go_wp2
  go_loop [0, 9] (fun z i => ∃ j u v : Nat, j ≤ 3 ∧ i = .int .i64 j ∧ z = .complex .f64 u v ∧ Hid (F j = (u, v))) (fun _ i => 3 - (intOf i).toNat)
  case atStart => exact ⟨0, x, y, by omega, rfl, rfl, h0⟩
  case round =>
    obtain ⟨j, u, v, hj, rfl, rfl, hq⟩ := hrel
    by_cases hlt : j < 3
    · have hji : (j : Int) < 3 := by omega
      have hn : Hid (F (j + 1) = (Op.negFloat .f64 v, u)) := by have := hs.out j; rw [hq.out] at this; exact this
      go_wp2
      first
        | exact ⟨⟨j + 1, _, _, by omega, by go_num, rfl, hn⟩, by simp [intOf]; omega⟩
        | (refine ⟨?_, by simp [intOf]; omega⟩; repeat apply Exists.intro; exact ⟨⟨j + 1, _, _, by omega, by go_num, rfl, hn⟩, rfl⟩)
    · have hjm : j = 3 := by omega
      subst hjm
      have hd : decide (((3 : Nat) : Int) < 3) = false := by decide
      go_wp2
      go_ret
      exact ⟨ret_cpl (by rw [hq.out]) (by rw [hq.out]), rfl⟩
end Go.Proofs.Ytkclbcfodngdkaa
