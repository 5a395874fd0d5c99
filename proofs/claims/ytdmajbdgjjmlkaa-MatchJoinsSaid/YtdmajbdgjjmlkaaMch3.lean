/- Does a state read a byte, is its step an empty one: what the calls return. Conditions: the state lies in memory. -/
import Derived.Test.YtdmajbdgjjmlkaaMch2
namespace Go.Proofs.Ytdmajbdgjjmlkaa
open Go.RowKit
set_option linter.unusedVariables false
set_option linter.unusedSimpArgs false

/-- its set's numbers are of 64 bits -/
def Sta.ok (x : Sta) : Prop := (0 ≤ x.s0 ∧ x.s0 < 18446744073709551616) ∧ (0 ≤ x.s1 ∧ x.s1 < 18446744073709551616) ∧ (0 ≤ x.s2 ∧ x.s2 < 18446744073709551616) ∧ (0 ≤ x.s3 ∧ x.s3 < 18446744073709551616)
/-- the state lies there -/
def StaAt (w : World) (g o : Nat) (x : Sta) : Prop := ∀ j u, (staV x)[j]? = some u → w.cell? ⟨g, o + j, none⟩ = some u
theorem bit_fin' {a : Int} (h : 0 ≤ a ∧ a < 18446744073709551616) (m : Nat) : (bits .and .u64 (a / 2 ^ m) 1 == 1) = a.toNat.testBit m := by
  obtain ⟨n, rfl⟩ := Int.eq_ofNat_of_zero_le h.1
  exact bit_fin (by omega)
set_option maxRecDepth 20000 in
set_option maxHeartbeats 4000000 in
theorem reads_any (w : World) (g o : Nat) (x : Sta) (b : UInt8) (hok : x.ok) (h : StaAt w g o x) : Calls Try.prog 48 #[.pointer (some ⟨g, o, none⟩), .int .u8 (b.toNat : Nat)] w fun e w' => e = .returned (.bool (x.reads b)) ∧ w' = w := by
  have c0 : w.cell? ⟨g, o, none⟩ = some (.int .u64 x.s0) := h 0 _ rfl
  have c1 : w.cell? ⟨g, o + 1, none⟩ = some (.int .u64 x.s1) := h 1 _ rfl
  have c2 : w.cell? ⟨g, o + 2, none⟩ = some (.int .u64 x.s2) := h 2 _ rfl
  have c3 : w.cell? ⟨g, o + 3, none⟩ = some (.int .u64 x.s3) := h 3 _ rfl
  obtain ⟨k0, k1, k2, k3⟩ := hok
  unfold Sta.reads hasB
  obtain ⟨s0, s1, s2, s3, nx⟩ := x
  dsimp only at *
  have hb : b.toNat < 256 := b.toNat_lt
  generalize b.toNat = n at *
  have hq : n / 64 = 0 ∨ n / 64 = 1 ∨ n / 64 = 2 ∨ n / 64 = 3 := by omega
  have t1 : (n : Int).tdiv 64 = ((n / 64 : Nat) : Int) := by rw [Int.tdiv_eq_ediv_of_nonneg (by omega)]; omega
  have t2 : (n : Int).tmod 64 = ((n % 64 : Nat) : Int) := by rw [Int.tmod_eq_emod_of_nonneg (by omega)]; omega
  obtain ⟨m, hm⟩ : ∃ m, m = n % 64 := ⟨_, rfl⟩
  rw [← hm] at t2 ⊢
  have m1 : (0 : Int) ≤ (m : Int) := by omega
  have m2 : (m : Int) < 64 := by omega
  have t3 : IntKind.u8.wrap (m : Int) = (m : Int) := by unfold IntKind.wrap; simp only [IntKind.bits, IntKind.signed]; simp; omega
  have hbi : (n : Int) < 256 := by omega
  have hb0 : (0 : Int) ≤ (n : Int) := by omega
  have HK := Lib.hid (And.intro k0 (And.intro k1 (And.intro k2 k3)))
  rcases hq with hq | hq | hq | hq
  · obtain ⟨r, hr⟩ : ∃ r, r = (if n / 64 = 0 then s0 else if n / 64 = 1 then s1 else if n / 64 = 2 then s2 else s3).toNat.testBit m := ⟨_, rfl⟩
    rw [← hr]
    rw [hq] at t1 hr
    rw [show ((0 : Nat) : Int) = 0 from rfl] at t1
    have t4 : IntKind.u8.wrap 0 = 0 := by decide
    have HR : Hid (r = s0.toNat.testBit m) := Lib.hid hr
    clear hm hq hr k0 k1 k2 k3 hb
    go_enter Try.func48, Try.ntmps48
    go_wp2
    go_ret
    exact ⟨ret_bool (by rw [HR.out]; exact bit_fin' HK.out.1 m), rfl⟩
  · obtain ⟨r, hr⟩ : ∃ r, r = (if n / 64 = 0 then s0 else if n / 64 = 1 then s1 else if n / 64 = 2 then s2 else s3).toNat.testBit m := ⟨_, rfl⟩
    rw [← hr]
    rw [hq] at t1 hr
    rw [show ((1 : Nat) : Int) = 1 from rfl] at t1
    have t4 : IntKind.u8.wrap 1 = 1 := by decide
    have HR : Hid (r = s1.toNat.testBit m) := Lib.hid hr
    clear hm hq hr k0 k1 k2 k3 hb
    go_enter Try.func48, Try.ntmps48
    go_wp2
    go_ret
    exact ⟨ret_bool (by rw [HR.out]; exact bit_fin' HK.out.2.1 m), rfl⟩
  · obtain ⟨r, hr⟩ : ∃ r, r = (if n / 64 = 0 then s0 else if n / 64 = 1 then s1 else if n / 64 = 2 then s2 else s3).toNat.testBit m := ⟨_, rfl⟩
    rw [← hr]
    rw [hq] at t1 hr
    rw [show ((2 : Nat) : Int) = 2 from rfl] at t1
    have t4 : IntKind.u8.wrap 2 = 2 := by decide
    have HR : Hid (r = s2.toNat.testBit m) := Lib.hid hr
    clear hm hq hr k0 k1 k2 k3 hb
    go_enter Try.func48, Try.ntmps48
    go_wp2
    go_ret
    exact ⟨ret_bool (by rw [HR.out]; exact bit_fin' HK.out.2.2.1 m), rfl⟩
  · obtain ⟨r, hr⟩ : ∃ r, r = (if n / 64 = 0 then s0 else if n / 64 = 1 then s1 else if n / 64 = 2 then s2 else s3).toNat.testBit m := ⟨_, rfl⟩
    rw [← hr]
    rw [hq] at t1 hr
    rw [show ((3 : Nat) : Int) = 3 from rfl] at t1
    have t4 : IntKind.u8.wrap 3 = 3 := by decide
    have HR : Hid (r = s3.toNat.testBit m) := Lib.hid hr
    clear hm hq hr k0 k1 k2 k3 hb
    go_enter Try.func48, Try.ntmps48
    go_wp2
    go_ret
    exact ⟨ret_bool (by rw [HR.out]; exact bit_fin' HK.out.2.2.2 m), rfl⟩
attribute [local go_sem ↓] eql23_pre
attribute [local go_sem] eql23_run
set_option maxHeartbeats 4000000 in
theorem isEmpty_any (w : World) (g o : Nat) (x : Sta) (h : StaAt w g o x) : Calls Try.prog 60 #[.pointer (some ⟨g, o, none⟩)] w fun e w' => e = .returned (.bool x.empty) ∧ w' = w := by
  have c0 : w.cell? ⟨g, o, none⟩ = some (.int .u64 x.s0) := h 0 _ rfl
  have c1 : w.cell? ⟨g, o + 1, none⟩ = some (.int .u64 x.s1) := h 1 _ rfl
  have c2 : w.cell? ⟨g, o + 2, none⟩ = some (.int .u64 x.s2) := h 2 _ rfl
  have c3 : w.cell? ⟨g, o + 3, none⟩ = some (.int .u64 x.s3) := h 3 _ rfl
  unfold Sta.empty
  obtain ⟨s0, s1, s2, s3, nx⟩ := x
  dsimp only at *
  clear h
  go_enter Try.func60, Try.ntmps60
  go_wp2
  go_ret
  exact ⟨rfl, rfl⟩
end Go.Proofs.Ytdmajbdgjjmlkaa
