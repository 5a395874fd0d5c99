/- The calls whose answers the document fixes: they answer so. No conditions. -/
import Derived.Test.YtdkhnklggidfpaaMac
namespace Go.Proofs.Ytdkhnklggidfpaa
open Go.RowKit
set_option linter.unusedVariables false

def abcSum : ByteArray := ⟨#[186, 120, 22, 191, 143, 1, 207, 234, 65, 65, 64, 222, 93, 174, 34, 35, 176, 3, 97, 163, 150, 23, 122, 156, 180, 16, 255, 97, 242, 0, 21, 173]⟩
def jefeMac : ByteArray := ⟨#[91, 220, 193, 70, 191, 96, 117, 78, 106, 4, 36, 38, 8, 149, 117, 199, 90, 0, 63, 8, 157, 39, 57, 131, 157, 236, 88, 185, 100, 236, 56, 67]⟩
theorem sum_abc_any (w : World) : Calls Try.prog 12 #[.string ⟨#[97, 98, 99]⟩] w fun e w' => e = .returned (.string abcSum) ∧ Below w.heap.size w w' :=
  (sum_any ⟨#[97, 98, 99]⟩ w (by decide)).mono fun e w' h => by
    rw [show (⟨#[97, 98, 99]⟩ : ByteArray).data.toList = [97, 98, 99] from rfl, sum_abc] at h
    exact h
theorem mac_jefe_any (w : World) : Calls Try.prog 14 #[.string ⟨#[74, 101, 102, 101]⟩, .string ⟨#[119, 104, 97, 116, 32, 100, 111, 32, 121, 97, 32, 119, 97, 110, 116, 32, 102, 111, 114, 32, 110, 111, 116, 104, 105, 110, 103, 63]⟩] w fun e w' => e = .returned (.string jefeMac) ∧ Below w.heap.size w w' :=
  (mac_any ⟨#[74, 101, 102, 101]⟩ ⟨#[119, 104, 97, 116, 32, 100, 111, 32, 121, 97, 32, 119, 97, 110, 116, 32, 102, 111, 114, 32, 110, 111, 116, 104, 105, 110, 103, 63]⟩ w (by decide) (by decide)).mono fun e w' h => by
    rw [show (⟨#[74, 101, 102, 101]⟩ : ByteArray).data.toList = [74, 101, 102, 101] from rfl, show (⟨#[119, 104, 97, 116, 32, 100, 111, 32, 121, 97, 32, 119, 97, 110, 116, 32, 102, 111, 114, 32, 110, 111, 116, 104, 105, 110, 103, 63]⟩ : ByteArray).data.toList = [119, 104, 97, 116, 32, 100, 111, 32, 121, 97, 32, 119, 97, 110, 116, 32, 102, 111, 114, 32, 110, 111, 116, 104, 105, 110, 103, 63] from rfl, mac_jefe] at h
    exact h
theorem hsum_abc_any (b : Nat) (w : World) (h : IsH w b ([97] ++ [98, 99])) : Calls Try.prog 23 #[.pointer (some ⟨b, 0, none⟩)] w fun e w' => e = .returned (.string abcSum) ∧ Below w.heap.size w w' :=
  (hsum_any b _ w h (by decide)).mono fun e w' h => by
    rw [show ([97] ++ [98, 99] : List UInt8) = [97, 98, 99] from rfl, sum_abc] at h
    exact h
theorem hsize_abc_any (b : Nat) (w : World) (h : IsH w b ([97] ++ [98, 99])) : Calls Try.prog 24 #[.pointer (some ⟨b, 0, none⟩)] w fun e w' => e = .returned (.int .i64 3) ∧ w = w' :=
  size_any b _ w h
theorem chain_none_any (w : World) : Calls Try.prog 16 #[.string ⟨#[120]⟩, .slice none 0 0] w fun e w' => e = .returned (.string ⟨#[120]⟩) ∧ Below w.heap.size w w' :=
  chain_any ⟨#[120]⟩ none 0 [] w (by decide) (by simp) (by decide) (fun i h => absurd h (by simp))
def xSum : ByteArray := ⟨(sumL [120, 0, 0, 0, 0, 0, 0, 0, 0]).toArray⟩
theorem link_x_any (w : World) : Calls Try.prog 18 #[.string ⟨#[120]⟩, .string ⟨#[]⟩] w fun e w' => e = .returned (.string xSum) ∧ Below w.heap.size w w' :=
  link_any ⟨#[120]⟩ ⟨#[]⟩ w (by decide) (by decide)
theorem sum_x_any (w : World) : Calls Try.prog 12 #[.string ⟨#[120, 0, 0, 0, 0, 0, 0, 0, 0]⟩] w fun e w' => e = .returned (.string xSum) ∧ Below w.heap.size w w' :=
  sum_any ⟨#[120, 0, 0, 0, 0, 0, 0, 0, 0]⟩ w (by decide)

set_option maxRecDepth 100000 in
set_option maxHeartbeats 2000000 in
theorem fixed_any (w : World) : Calls Try.prog 11 #[] w fun e w' => e = .returned (.bool true) ∧ Below w.heap.size w w' := by
  have B0 := Below.refl w.heap.size w
  have s1 : abcSum.size = 32 := rfl
  have s2 : jefeMac.size = 32 := rfl
  have t1 : abcSum.extract 0 4 = ⟨#[186, 120, 22, 191]⟩ := by decide +kernel
  have t2 : abcSum.extract 28 32 = ⟨#[242, 0, 21, 173]⟩ := by decide +kernel
  have t3 : jefeMac.extract 0 4 = ⟨#[91, 220, 193, 70]⟩ := by decide +kernel
  have A1 := sum_abc_any
  have A2 := mac_jefe_any
  have A3 := hsum_abc_any
  have A4 := link_x_any
  have A5 := sum_x_any
  generalize abcSum = X at *
  generalize jefeMac = Y at *
  generalize xSum = Z at *
  go_enter Try.func11, Try.ntmps11
  go_wp2_with fail
  refine (A1 _).mono ?_
  rintro e w1 ⟨rfl, b1⟩
  have B1 := B0.trans (b1.mono B0.size)
  go_wp2_with fail
  refine (A2 _).mono ?_
  rintro e w2 ⟨rfl, b2⟩
  have B2 := B1.trans (b2.mono B1.size)
  go_wp2_with fail
  refine (new_any _).mono ?_
  rintro e w3 ⟨i, rfl, hi, hh, b3⟩
  have B3 := B2.trans (b3.mono B2.size)
  have i0 : w.heap.size ≤ i := Nat.le_trans B2.size hi
  go_wp2_with fail
  refine (write_any i [] _ _ hh (by decide) (by decide)).mono ?_
  rintro e w4 ⟨rfl, ha4, k4⟩
  have B4 := Keeps.to_below B3 k4 i0 B3.size
  go_wp2_with fail
  refine (write_any i _ _ _ ha4 (by decide) (by decide)).mono ?_
  rintro e w5 ⟨rfl, ha5, k5⟩
  have B5 := Keeps.to_below B4 k5 i0 B4.size
  go_wp2_with fail
  refine (A3 i _ ha5).mono ?_
  rintro e w6 ⟨rfl, b6⟩
  have B6 := B5.trans (b6.mono B5.size)
  have ha6 := ha5.below b6 ha5.lt
  go_wp2_with fail
  refine (hsize_abc_any i _ ha6).mono ?_
  rintro e w7 ⟨rfl, rfl⟩
  go_wp2_with fail
  refine (chain_none_any _).mono ?_
  rintro e w8 ⟨rfl, b8⟩
  have B8 := B6.trans (b8.mono B6.size)
  go_wp2_with fail
  refine (A4 _).mono ?_
  rintro e w9 ⟨rfl, b9⟩
  have B9 := B8.trans (b9.mono B8.size)
  go_wp2_with fail
  refine (A5 _).mono ?_
  rintro e w10 ⟨rfl, b10⟩
  have B10 := B9.trans (b10.mono B9.size)
  go_wp2_with fail
  go_ret
  exact ⟨rfl, B10⟩
end Go.Proofs.Ytdkhnklggidfpaa
