/- The table of operations, and what a form says. No conditions. -/
import Derived.Test.YtmclcobklcjmnaaDoorRows
import Derived.Test.YtmclcobklcjmnaaDoorTxt
import Derived.WalkKit
import Derived.WalkSpells
import Derived.WalkLawsBesides
import Derived.Lib.Hide
import Derived.Maps.AppendAt
import Derived.Laws.IdiomStrings
import Derived.Laws.CopyRow
import Derived.Laws.MakeOwn
import Derived.Deep.QuietTactic
import Derived.Deep.RegionHeld3
import Derived.StillTailTactics
import Derived.BigQuiet
import Derived.Deep.MidRow
import Derived.Deep.WholeRow
import Derived.Deep.Cut
namespace Go.Proofs.YtmclcobklcjmnaaDoor
open Go.RowKit Go.Maps
set_option linter.unusedVariables false
set_option linter.unusedSimpArgs false

theorem ret_bool {a b : Bool} (h : a = b) : Ending.returned (.bool a) = .returned (.bool b) := by rw [h]
theorem ret_str {a b : ByteArray} (h : a = b) : Ending.returned (.string a) = .returned (.string b) := by rw [h]
theorem has_eq : ∀ f : Fin 16, ∀ p : Fin 16, (!(bits .and .i64 ((f.val : Nat) : Int) ((p.val : Nat) : Int) == 0)) = hasF f.val p.val := by decide +kernel
set_option maxHeartbeats 1000000 in
theorem has_any (f p : Nat) (hf : f < 16) (hp : p < 16) (w : World) : Calls Tryd.prog 40 #[.int .i64 (f : Int), .int .i64 (p : Int)] w fun e w' => e = .returned (.bool (hasF f p)) ∧ w' = w := by
  have H := has_eq ⟨f, hf⟩ ⟨p, hp⟩
  dsimp only at H
  obtain ⟨x, hx⟩ : ∃ x, x = bits .and .i64 (f : Int) (p : Int) := ⟨_, rfl⟩
  rw [← hx] at H
  have HX := Lib.hid hx
  go_enter Tryd.func40, Tryd.ntmps40
  go_wp2
  go_ret
  exact ⟨ret_bool (by rw [← H, hx]; rfl), rfl⟩
set_option maxHeartbeats 1000000 in
theorem may_any (f p : Nat) (hf : f < 16) (hp : p < 16) (n : Int) (w : World) : Calls Tryd.prog 57 #[.int .i64 (f : Int), .int .i64 (p : Int), .int .i64 n] w fun e w' => e = .returned (.bool (mayN f p n)) ∧ w' = w := by
  have K := Lib.hid (has_any f p hf hp)
  unfold mayN
  generalize hasF f p = t at *
  cases t
  · go_enter Tryd.func57, Tryd.ntmps57
    go_wp2_with (go_at_call 40; (with_reducible refine (K.out _).mono ?_); rintro e w' ⟨rfl, rfl⟩)
    go_ret
    exact ⟨ret_bool (by first | rfl | (simp; done) | (simp; omega)), rfl⟩
  · by_cases h0 : 0 ≤ n
    · by_cases h1 : n < 16
      · go_enter Tryd.func57, Tryd.ntmps57
        go_wp2_with (go_at_call 40; (with_reducible refine (K.out _).mono ?_); rintro e w' ⟨rfl, rfl⟩)
        go_ret
        exact ⟨ret_bool (by first | rfl | (simp [h0, h1]; done) | (simp [h0, h1]; omega)), rfl⟩
      · go_enter Tryd.func57, Tryd.ntmps57
        go_wp2_with (go_at_call 40; (with_reducible refine (K.out _).mono ?_); rintro e w' ⟨rfl, rfl⟩)
        go_ret
        exact ⟨ret_bool (by first | rfl | (simp [h0, h1]; done) | (simp [h0, h1]; omega)), rfl⟩
    · go_enter Tryd.func57, Tryd.ntmps57
      go_wp2_with (go_at_call 40; (with_reducible refine (K.out _).mono ?_); rintro e w' ⟨rfl, rfl⟩)
      go_ret
      exact ⟨ret_bool (by first | (simp [h0]; done) | (simp; omega)), rfl⟩
set_option maxHeartbeats 1000000 in
theorem numbers_any (f : Nat) (hf : f < 16) (w : World) : Calls Tryd.prog 56 #[.int .i64 (f : Int)] w fun e w' => e = .returned (.tuple #[.int .i64 (leastF f), .int .i64 (mostF f)]) ∧ w' = w := by
  have K4 : Hid (∀ w, Calls Tryd.prog 40 #[.int .i64 (f : Int), .int .i64 4] w fun e w' => e = .returned (.bool (hasF f 4)) ∧ w' = w) := Lib.hid (has_any f 4 hf (by decide))
  have K8 : Hid (∀ w, Calls Tryd.prog 40 #[.int .i64 (f : Int), .int .i64 8] w fun e w' => e = .returned (.bool (hasF f 8)) ∧ w' = w) := Lib.hid (has_any f 8 hf (by decide))
  unfold leastF mostF
  generalize hasF f 4 = t4 at *
  generalize hasF f 8 = t8 at *
  cases t4 <;> cases t8
  all_goals
    go_enter Tryd.func56, Tryd.ntmps56
    go_wp2_with (go_at_call 40; first | ((with_reducible refine (K4.out _).mono ?_); rintro e w' ⟨rfl, rfl⟩) | ((with_reducible refine (K8.out _).mono ?_); rintro e w' ⟨rfl, rfl⟩))
    go_ret2
    exact ⟨rfl, rfl⟩
def inV (i : In) : Value := .agg #[.int .i64 i.op, .int .i64 i.a, .int .i64 i.b, .int .i64 i.imm]
set_option maxHeartbeats 2000000 in
theorem fits_any (f : Nat) (hf : f < 16) (i : In) (w : World) : Calls Tryd.prog 39 #[.int .i64 (f : Int), inV i] w fun e w' => e = .returned (.bool (fitsF f i)) ∧ Below w.heap.size w w' := by
  have K1 : Hid (∀ w, Calls Tryd.prog 57 #[.int .i64 (f : Int), .int .i64 1, .int .i64 i.a] w fun e w' => e = .returned (.bool (mayN f 1 i.a)) ∧ w' = w) := Lib.hid (may_any f 1 hf (by decide) i.a)
  have K2 : Hid (∀ w, Calls Tryd.prog 57 #[.int .i64 (f : Int), .int .i64 2, .int .i64 i.b] w fun e w' => e = .returned (.bool (mayN f 2 i.b)) ∧ w' = w) := Lib.hid (may_any f 2 hf (by decide) i.b)
  have K3 := Lib.hid (numbers_any f hf)
  unfold inV fitsF
  obtain ⟨op, a, b, imm⟩ := i
  dsimp only at *
  generalize mayN f 1 a = m1 at *
  generalize mayN f 2 b = m2 at *
  generalize leastF f = lo at *
  generalize mostF f = hi at *
  by_cases h3 : lo ≤ imm
  · by_cases h4 : imm ≤ hi
    · cases m1 <;> cases m2
      all_goals
        go_enter Tryd.func39, Tryd.ntmps39
        go_wp2_with (first | (go_at_call 56; (with_reducible refine (K3.out _).mono ?_); rintro e w' ⟨rfl, rfl⟩) | (go_at_call 57; first | ((with_reducible refine (K1.out _).mono ?_); rintro e w' ⟨rfl, rfl⟩) | ((with_reducible refine (K2.out _).mono ?_); rintro e w' ⟨rfl, rfl⟩)))
        go_ret
        exact ⟨ret_bool (by first | (simp [h3, h4]; done) | (simp; omega)), (Below.refl _ w).alloc (Nat.le_refl _) _⟩
    · cases m1 <;> cases m2
      all_goals
        go_enter Tryd.func39, Tryd.ntmps39
        go_wp2_with (first | (go_at_call 56; (with_reducible refine (K3.out _).mono ?_); rintro e w' ⟨rfl, rfl⟩) | (go_at_call 57; first | ((with_reducible refine (K1.out _).mono ?_); rintro e w' ⟨rfl, rfl⟩) | ((with_reducible refine (K2.out _).mono ?_); rintro e w' ⟨rfl, rfl⟩)))
        go_ret
        exact ⟨ret_bool (by first | (simp [h3, h4]; done) | (simp; omega)), (Below.refl _ w).alloc (Nat.le_refl _) _⟩
  · cases m1 <;> cases m2
    all_goals
      go_enter Tryd.func39, Tryd.ntmps39
      go_wp2_with (first | (go_at_call 56; (with_reducible refine (K3.out _).mono ?_); rintro e w' ⟨rfl, rfl⟩) | (go_at_call 57; first | ((with_reducible refine (K1.out _).mono ?_); rintro e w' ⟨rfl, rfl⟩) | ((with_reducible refine (K2.out _).mono ?_); rintro e w' ⟨rfl, rfl⟩)))
      go_ret
      exact ⟨ret_bool (by first | (simp [h3]; done) | (simp; omega)), (Below.refl _ w).alloc (Nat.le_refl _) _⟩
end Go.Proofs.YtmclcobklcjmnaaDoor
