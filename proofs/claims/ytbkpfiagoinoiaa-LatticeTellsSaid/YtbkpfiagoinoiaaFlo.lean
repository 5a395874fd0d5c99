/- What flows to what, and the least bound: what the calls return; nothing that was there turns. Conditions: there are at most eight levels. -/
import Derived.Test.YtbkpfiagoinoiaaLis
import Derived.Deep.RegionWith
namespace Go.Proofs.Ytbkpfiagoinoiaa
open Go.RowKit
set_option linter.unusedVariables false
attribute [local go_sem ↓] load47_pre store47_pre load49_pre store49_pre
attribute [local go_sem] load47_run store47_run load49_run store49_run rowOr_some putOr_true heap_drew

def flB (n : Nat) (G : Flw) (x y : Int) : Bool := hasB n x && hasB n y && G x.toNat y.toNat
theorem flB_nat (n : Nat) (G : Flw) (a c : Nat) (ha : a < n) (hc : c < n) : flB n G a c = G a c := by
  have h1 : hasB n (a : Int) = true := by rw [hasB_iff]; omega
  have h2 : hasB n (c : Int) = true := by rw [hasB_iff]; omega
  simp [flB, h1, h2]
theorem hasB_nat {n : Nat} {x : Int} (h : hasB n x = true) : ∃ a : Nat, x = (a : Int) ∧ a < n := by
  rw [hasB_iff] at h
  exact ⟨x.toNat, by omega, by omega⟩

set_option maxHeartbeats 1000000 in
theorem flows_any (b n : Nat) (G : Flw) (x y : Int) (w : World) (hn : n ≤ 8) (h : IsL w b n G) :
    Calls Try.prog 14 #[.pointer (some ⟨b, 0, none⟩), .int .i64 x, .int .i64 y] w fun e w' => e = .returned (.bool (flB n G x y)) ∧ w = w' := by
  have A := fun z => has_any b n G z w h
  obtain ⟨r, hr⟩ : ∃ r, r = flB n G x y := ⟨_, rfl⟩
  rw [← hr]
  unfold flB at hr
  cases h1 : hasB n x with
  | false =>
    rw [h1] at hr
    have e : r = false := by simpa using hr
    subst e
    have A1 := Lib.hid (A x)
    have H := Lib.hid h
    clear hr A h
    go_enter Try.func14, Try.ntmps14
    go_wp2_with (go_at_call 32; (with_reducible refine (A1.out).mono ?_); rintro e w' ⟨rfl, rfl⟩)
    go_ret
    exact ⟨rfl, rfl⟩
  | true =>
    cases h2 : hasB n y with
    | false =>
      rw [h1, h2] at hr
      have e : r = false := by simpa using hr
      subst e
      have A1 := Lib.hid (A x)
      have A2 := Lib.hid (A y)
      have H := Lib.hid h
      clear hr A h
      go_enter Try.func14, Try.ntmps14
      go_wp2_with (first
        | (go_at_call 32; (with_reducible refine (A1.out).mono ?_); rintro e w' ⟨rfl, rfl⟩)
        | (go_at_call 32; (with_reducible refine (A2.out).mono ?_); rintro e w' ⟨rfl, rfl⟩))
      go_ret
      exact ⟨rfl, rfl⟩
    | true =>
      rw [h1, h2] at hr
      obtain ⟨a, rfl, ha⟩ := hasB_nat h1
      obtain ⟨c, rfl, hc⟩ := hasB_nat h2
      have e : r = G a c := by simpa using hr
      have A1 := Lib.hid (A a)
      have A2 := Lib.hid (A c)
      have hcell := h.at a c (by omega) (by omega)
      rw [← e] at hcell
      have hai : (a : Int) < 8 := by omega
      have hci : (c : Int) < 8 := by omega
      have hi1 := index49 b 1 a (by omega)
      have hi2 := index47 b (1 + a * 8) c (by omega)
      have H := Lib.hid h
      clear hr A h e
      go_enter Try.func14, Try.ntmps14
      go_wp2_with (first
        | (go_at_call 32; (with_reducible refine (A1.out).mono ?_); rintro e w' ⟨rfl, rfl⟩)
        | (go_at_call 32; (with_reducible refine (A2.out).mono ?_); rintro e w' ⟨rfl, rfl⟩))
      go_ret
      exact ⟨rfl, rfl⟩
end Go.Proofs.Ytbkpfiagoinoiaa
