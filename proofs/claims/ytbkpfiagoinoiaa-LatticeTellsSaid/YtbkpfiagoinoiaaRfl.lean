/- The other text's lattice in memory: a row of rows; is it a level, what flows to what: what the calls return; nothing turns. No conditions. -/
import Derived.Test.YtbkpfiagoinoiaaRfm
import Derived.Deep.RegionWith
namespace Go.Proofs.Ytbkpfiagoinoiaa
open Go.RowKit
set_option linter.unusedVariables false

/-- block L is the other text's lattice of n levels, in which F flows; its row of rows lies in block R, row i in block B i -/
structure IsR (w : World) (L R cap : Nat) (B : Nat → Nat) (n : Nat) (F : Flw) : Prop where
  count : w.cell? ⟨L, 0, none⟩ = some (.int .i64 (n : Int))
  rows : w.cell? ⟨L, 1, none⟩ = some (.slice (some ⟨R, 0, none⟩) n cap)
  row : ∀ i, i < n → w.cell? ⟨R, i, none⟩ = some (.slice (some ⟨B i, 0, none⟩) n n)
  cell : ∀ i j, i < n → j < n → w.cell? ⟨B i, j, none⟩ = some (.bool (F i j))

set_option maxHeartbeats 400000 in
theorem level_any (L n : Nat) (a : Int) (w : World) (hc : w.cell? ⟨L, 0, none⟩ = some (.int .i64 (n : Int))) :
    Calls Try.prog 36 #[.pointer (some ⟨L, 0, none⟩), .int .i64 a] w fun e w' => e = .returned (.bool (hasB n a)) ∧ w = w' := by
  obtain ⟨r, hr⟩ : ∃ r, r = hasB n a := ⟨_, rfl⟩
  rw [← hr]
  by_cases h0 : 0 ≤ a
  · by_cases h1 : a < (n : Int)
    · have e : r = true := by rw [hr, hasB_iff]; exact ⟨h0, h1⟩
      subst e
      clear hr
      go_enter Try.func36, Try.ntmps36
      go_wp2
      go_ret
      exact ⟨rfl, rfl⟩
    · have e : r = false := by rw [hr]; simp [hasB]; omega
      have h1' : decide (a < (n : Int)) = false := by simp; omega
      subst e
      clear hr
      go_enter Try.func36, Try.ntmps36
      go_wp2
      go_ret
      exact ⟨rfl, rfl⟩
  · have e : r = false := by rw [hr]; simp [hasB]; omega
    have h0' : decide (0 ≤ a) = false := by simp; omega
    subst e
    clear hr
    go_enter Try.func36, Try.ntmps36
    go_wp2
    go_ret
    exact ⟨rfl, rfl⟩

set_option maxHeartbeats 1000000 in
theorem rflows_any (L R cap : Nat) (B : Nat → Nat) (n : Nat) (F : Flw) (x y : Int) (w : World) (h : IsR w L R cap B n F) :
    Calls Try.prog 15 #[.pointer (some ⟨L, 0, none⟩), .int .i64 x, .int .i64 y] w fun e w' => e = .returned (.bool (flB n F x y)) ∧ w = w' := by
  have A := fun z => level_any L n z w h.count
  obtain ⟨r, hr⟩ : ∃ r, r = flB n F x y := ⟨_, rfl⟩
  rw [← hr]
  unfold flB at hr
  cases h1 : hasB n x with
  | false =>
    rw [h1] at hr
    have e : r = false := by simpa using hr
    subst e
    have A1 := Lib.hid (A x)
    have H := Lib.hid h
    clear hr A h
    go_enter Try.func15, Try.ntmps15
    go_wp2_with (go_at_call 36; (with_reducible refine (A1.out).mono ?_); rintro e w' ⟨rfl, rfl⟩)
    go_ret
    exact ⟨rfl, rfl⟩
  | true =>
    cases h2 : hasB n y with
    | false =>
      rw [h1, h2] at hr
      have e : r = false := by simpa using hr
      subst e
      have A1 := Lib.hid (A x)
      have A2 := Lib.hid (A y)
      have H := Lib.hid h
      clear hr A h
      go_enter Try.func15, Try.ntmps15
      go_wp2_with (first
        | (go_at_call 36; (with_reducible refine (A1.out).mono ?_); rintro e w' ⟨rfl, rfl⟩)
        | (go_at_call 36; (with_reducible refine (A2.out).mono ?_); rintro e w' ⟨rfl, rfl⟩))
      go_ret
      exact ⟨rfl, rfl⟩
    | true =>
      rw [h1, h2] at hr
      obtain ⟨a, rfl, ha⟩ := hasB_nat h1
      obtain ⟨c, rfl, hc⟩ := hasB_nat h2
      have e : r = F a c := by simpa using hr
      have A1 := Lib.hid (A a)
      have A2 := Lib.hid (A c)
      have hq0 := h.rows
      have hq1 := h.row a ha
      have hq2 := h.cell a c ha hc
      rw [← e] at hq2
      generalize B a = Ba at *
      have hai : (a : Int) < (n : Int) := by omega
      have hci : (c : Int) < (n : Int) := by omega
      have H := Lib.hid h
      clear hr A h e
      go_enter Try.func15, Try.ntmps15
      go_wp2_with (first
        | (go_at_call 36; (with_reducible refine (A1.out).mono ?_); rintro e w' ⟨rfl, rfl⟩)
        | (go_at_call 36; (with_reducible refine (A2.out).mono ?_); rintro e w' ⟨rfl, rfl⟩))
      go_ret
      exact ⟨rfl, rfl⟩
end Go.Proofs.Ytbkpfiagoinoiaa
