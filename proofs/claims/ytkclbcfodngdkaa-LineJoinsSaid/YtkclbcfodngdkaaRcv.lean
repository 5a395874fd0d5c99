/- A near point, the quarters that a row was turned by, the bytes of four rows: what the calls return; nothing that was there turns. Conditions: the rows are those that the law asks. -/
import Derived.Test.YtkclbcfodngdkaaNea
namespace Go.Proofs.Ytkclbcfodngdkaa
open Go.RowKit
set_option linter.unusedVariables false

set_option maxHeartbeats 400000 in
theorem Near_yes (x y u v : Nat) (w : World) (h : okB x y = true) (hp : pt (bitB x y) = .complex .f64 u v) :
    Calls Try.prog 13 #[.complex .f64 x y] w fun e w' => e = .returned (.tuple #[.complex .f64 u v, .bool true]) ∧ w = w' := by
  have A := Lib.hid (fun w => bits_yes x y w h)
  have hlt : bitB x y < 256 := by have := takB_lt x; have := takB_lt y; unfold bitB; omega
  have B := Lib.hid (fun w => point_any (bitB x y) hlt w)
  rw [hp] at B
  generalize bitB x y = r at *
  clear h hp hlt
  go_enter Try.func13, Try.ntmps13
  go_wp2_with fail
  (with_reducible refine (A.out _).mono ?_)
  rintro e w1 ⟨rfl, rfl⟩
  go_wp2_with fail
  (with_reducible refine (B.out _).mono ?_)
  rintro e w1 ⟨rfl, rfl⟩
  go_wp2_with fail
  go_ret2
  exact ⟨rfl, rfl⟩
set_option maxHeartbeats 400000 in
theorem Near_no (x y : Nat) (w : World) (h : okB x y = false) :
    Calls Try.prog 13 #[.complex .f64 x y] w fun e w' => e = .returned (.tuple #[.complex .f64 0 0, .bool false]) ∧ w = w' := by
  have A := Lib.hid (fun w => bits_no x y w h)
  clear h
  go_enter Try.func13, Try.ntmps13
  go_wp2_with fail
  (with_reducible refine (A.out _).mono ?_)
  rintro e w1 ⟨rfl, rfl⟩
  go_wp2_with fail
  go_ret2
  exact ⟨rfl, rfl⟩

/-! the numbers that the law asks of -/
theorem ok33 : okB 4613937818241073152 4613937818241073152 = true := by decide +kernel
theorem pt33 : pt (bitB 4613937818241073152 4613937818241073152) = .complex .f64 4613937818241073152 4613937818241073152 := by kernel_rfl
theorem okm3 : okB 13837309855095848960 4613937818241073152 = true := by decide +kernel
theorem ptm3 : pt (bitB 13837309855095848960 4613937818241073152) = .complex .f64 13837309855095848960 4613937818241073152 := by kernel_rfl
theorem pt15 : pt 15 = .complex .f64 4613937818241073152 4613937818241073152 := by kernel_rfl
theorem rot1 : rotN 1 (4613937818241073152, 4613937818241073152) = (13837309855095848960, 4613937818241073152) := by decide +kernel
set_option maxHeartbeats 400000 in
theorem turnOf_nil (w : World) : Calls Try.prog 18 #[.slice none 0 0] w fun e w' => e = .returned (.tuple #[.int .i64 0, .bool false]) ∧ w = w' := by
  go_enter Try.func18, Try.ntmps18
  go_wp2
  go_ret2
  exact ⟨rfl, rfl⟩
set_option maxHeartbeats 1000000 in
theorem turnOf_0 (b n cap : Nat) (hn : 0 < n) (w : World) (hc : w.cell? ⟨b, 0, none⟩ = some (.complex .f64 4613937818241073152 4613937818241073152)) :
    Calls Try.prog 18 #[.slice (some ⟨b, 0, none⟩) n cap] w fun e w' => e = .returned (.tuple #[.int .i64 0, .bool true]) ∧ w = w' := by
  have A := Lib.hid (fun w => Near_yes _ _ _ _ w ok33 pt33)
  have B : Hid (∀ w, Calls Try.prog 9 #[.int .u8 15] w fun e w' => e = .returned (.complex .f64 4613937818241073152 4613937818241073152) ∧ w = w') := fun w => by
    have := point_any 15 (by decide) w
    rw [pt15] at this
    exact this
  have C := Lib.hid (fun w => turned0 4613937818241073152 4613937818241073152 w)
  have o : FloatKind.f64.format.order 4613937818241073152 4613937818241073152 = some Ordering.eq := by decide +kernel
  have e0 : ((n : Int) == 0) = false := by simp; omega
  have hn0 : (0 : Int) < (n : Int) := by omega
  go_enter Try.func18, Try.ntmps18
  go_wp2_with fail
  (with_reducible refine (A.out _).mono ?_)
  rintro e w1 ⟨rfl, rfl⟩
  go_wp2_with fail
  go_loop [19] (fun i => i = .int .i64 0) (fun _ => 0)
  case atStart => rfl
  case round =>
    subst hrel
    go_wp2_with fail
    (with_reducible refine (B.out _).mono ?_)
    rintro e w1 ⟨rfl, rfl⟩
    go_wp2_with fail
    (with_reducible refine (C.out _).mono ?_)
    rintro e w1 ⟨rfl, rfl⟩
    go_wp2_with fail
    go_ret2
    exact ⟨rfl, rfl⟩
set_option maxHeartbeats 1000000 in
theorem turnOf_1 (b n cap : Nat) (hn : 0 < n) (w : World) (hc : w.cell? ⟨b, 0, none⟩ = some (.complex .f64 13837309855095848960 4613937818241073152)) :
    Calls Try.prog 18 #[.slice (some ⟨b, 0, none⟩) n cap] w fun e w' => e = .returned (.tuple #[.int .i64 1, .bool true]) ∧ w = w' := by
  have A := Lib.hid (fun w => Near_yes _ _ _ _ w okm3 ptm3)
  have B : Hid (∀ w, Calls Try.prog 9 #[.int .u8 15] w fun e w' => e = .returned (.complex .f64 4613937818241073152 4613937818241073152) ∧ w = w') := fun w => by
    have := point_any 15 (by decide) w
    rw [pt15] at this
    exact this
  have C := Lib.hid (fun w => turned0 4613937818241073152 4613937818241073152 w)
  have D := Lib.hid (fun w => turned1 4613937818241073152 4613937818241073152 w)
  rw [rot1] at D
  have o : FloatKind.f64.format.order 4613937818241073152 4613937818241073152 = some Ordering.eq := by decide +kernel
  have o2 : FloatKind.f64.format.order 13837309855095848960 13837309855095848960 = some Ordering.eq := by decide +kernel
  have o3 : FloatKind.f64.format.order 4613937818241073152 13837309855095848960 = some Ordering.gt := by decide +kernel
  have e0 : ((n : Int) == 0) = false := by simp; omega
  have hn0 : (0 : Int) < (n : Int) := by omega
  go_enter Try.func18, Try.ntmps18
  go_wp2_with fail
  (with_reducible refine (A.out _).mono ?_)
  rintro e w1 ⟨rfl, rfl⟩
  go_wp2_with fail
  go_loop [19] (fun i => ∃ j : Nat, j ≤ 1 ∧ i = .int .i64 j) (fun i => 1 - (intOf i).toNat)
  case atStart => exact ⟨0, by omega, rfl⟩
  case round =>
    obtain ⟨j, hj, rfl⟩ := hrel
    have hj2 : j = 0 ∨ j = 1 := by omega
    clear hj
    rcases hj2 with rfl | rfl
    · go_wp2_with fail
      (with_reducible refine (B.out _).mono ?_)
      rintro e w1 ⟨rfl, rfl⟩
      go_wp2_with fail
      (with_reducible refine (C.out _).mono ?_)
      rintro e w1 ⟨rfl, rfl⟩
      go_wp2_with fail
      first
        | exact ⟨⟨1, by omega, by go_num⟩, by simp [intOf]⟩
        | (refine ⟨?_, by simp [intOf]⟩; repeat apply Exists.intro; exact ⟨⟨1, by omega, by go_num⟩, rfl⟩)
    · go_wp2_with fail
      (with_reducible refine (B.out _).mono ?_)
      rintro e w1 ⟨rfl, rfl⟩
      go_wp2_with fail
      (with_reducible refine (D.out _).mono ?_)
      rintro e w1 ⟨rfl, rfl⟩
      go_wp2_with fail
      go_ret2
      exact ⟨rfl, rfl⟩
set_option maxRecDepth 100000 in
set_option maxHeartbeats 1000000 in
theorem receive_nil (w : World) : Calls Try.prog 12 #[.slice none 0 0] w fun e w' => e = .returned (.tuple #[.string ⟨#[]⟩, .int .i64 32]) ∧ w = w' := by
  have A := Lib.hid turnOf_nil
  go_enter Try.func12, Try.ntmps12
  go_wp2_with fail
  refine wp_scope_once 0 rfl ?_
  go_wp2_with fail
  (with_reducible refine (A.out _).mono ?_)
  rintro e w1 ⟨rfl, rfl⟩
  go_wp2_with fail
  go_step3
  refine ⟨rfl, ?_⟩
  go_wp2
  rw [Exit.noGoto_ret]
  go_ret2
  exact ⟨rfl, rfl⟩
set_option maxRecDepth 100000 in
set_option maxHeartbeats 1000000 in
theorem receive_even (b cap : Nat) (w : World) (hc : w.cell? ⟨b, 0, none⟩ = some (.complex .f64 4613937818241073152 4613937818241073152)) :
    Calls Try.prog 12 #[.slice (some ⟨b, 0, none⟩) 2 cap] w fun e w' => e = .returned (.tuple #[.string ⟨#[]⟩, .int .i64 30]) ∧ w = w' := by
  have A := Lib.hid (turnOf_0 b 2 cap (by omega) w hc)
  go_enter Try.func12, Try.ntmps12
  go_wp2_with fail
  refine wp_scope_once 0 rfl ?_
  go_wp2_with fail
  (with_reducible refine (A.out).mono ?_)
  rintro e w1 ⟨rfl, rfl⟩
  go_wp2_with fail
  go_step3
  refine ⟨rfl, ?_⟩
  go_wp2
  rw [Exit.noGoto_ret]
  go_ret2
  exact ⟨rfl, rfl⟩
theorem ok10 : okB 4607182418800017408 0 = true := by decide +kernel
theorem ok5 : okB 4617315517961601024 0 = false := by decide +kernel
theorem rot0 (p : Nat × Nat) : rotN 0 p = p := rfl
theorem bit10 : bitB 4607182418800017408 0 = 10 := by decide +kernel
set_option maxRecDepth 100000 in
set_option maxHeartbeats 1000000 in
theorem receive_point (b cap : Nat) (w : World) (hc : w.cell? ⟨b, 0, none⟩ = some (.complex .f64 4613937818241073152 4613937818241073152))
    (hc1 : w.cell? ⟨b, 1, none⟩ = some (.complex .f64 4607182418800017408 0)) (hc2 : w.cell? ⟨b, 2, none⟩ = some (.complex .f64 4617315517961601024 0)) :
    Calls Try.prog 12 #[.slice (some ⟨b, 0, none⟩) 3 cap] w fun e w' => e = .returned (.tuple #[.string ⟨#[]⟩, .int .i64 31]) ∧ w = w' := by
  have A := Lib.hid (turnOf_0 b 3 cap (by omega) w hc)
  have T1 := Lib.hid (fun w => turned0 4607182418800017408 0 w)
  have T2 := Lib.hid (fun w => turned0 4617315517961601024 0 w)
  have B1 := Lib.hid (fun w => bits_yes 4607182418800017408 0 w ok10)
  have B2 := Lib.hid (fun w => bits_no 4617315517961601024 0 w ok5)
  rw [rot0] at T1 T2
  rw [bit10] at B1
  go_enter Try.func12, Try.ntmps12
  go_wp2_with fail
  refine wp_scope_once 0 rfl ?_
  go_wp2_with fail
  (with_reducible refine (A.out).mono ?_)
  rintro e w1 ⟨rfl, rfl⟩
  go_wp2_with fail
  go_loop [7] (fun i => i = .int .i64 1) (fun _ => 0)
  case atStart => rfl
  case round =>
    subst hrel
    go_wp2_with fail
    (with_reducible refine (T1.out _).mono ?_)
    rintro e w1 ⟨rfl, rfl⟩
    go_wp2_with fail
    (with_reducible refine (B1.out _).mono ?_)
    rintro e w1 ⟨rfl, rfl⟩
    go_wp2_with fail
    (with_reducible refine (T2.out _).mono ?_)
    rintro e w1 ⟨rfl, rfl⟩
    go_wp2_with fail
    (with_reducible refine (B2.out _).mono ?_)
    rintro e w1 ⟨rfl, rfl⟩
    go_wp2_with fail
    go_step3
    refine ⟨rfl, ?_⟩
    go_wp2
    rw [Exit.noGoto_ret]
    go_ret2
    exact ⟨rfl, rfl⟩
end Go.Proofs.Ytkclbcfodngdkaa
