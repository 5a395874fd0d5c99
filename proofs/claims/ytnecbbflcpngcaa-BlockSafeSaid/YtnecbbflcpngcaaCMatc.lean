/- Plain facts: the sum of bytes turns with each single bit, and with each two bits within 32 of one another. No conditions. -/
import Derived.Test.YtnecbbflcpngcaaCMatb
namespace Go.Proofs.Ytnecbbflcpngcaa.Cd
open Go.RowKit
set_option maxRecDepth 20000

theorem crcReg_two (l : List UInt8) : ∀ x y : Nat, crcReg l x ^^^ crcReg l y = stepIter (8 * l.length) (x ^^^ y) := by
  induction l with
  | nil => intro x y; rfl
  | cons a t ih =>
    intro x y
    show crcReg t (byteStep x a.toNat) ^^^ crcReg t (byteStep y a.toNat) = _
    rw [ih, ← byteStep_xor, Nat.xor_self]
    unfold byteStep
    rw [Nat.xor_zero, ← stepIter_add, List.length_cons]
    congr 1
    omega
theorem crcReg_set (l : List UInt8) (c : UInt8) : ∀ (i r : Nat) (h : i < l.length), crcReg (l.set i c) r ^^^ crcReg l r = stepIter (8 * (l.length - i)) (c.toNat ^^^ (l[i]).toNat) := by
  induction l with
  | nil => intro i r h; simp at h
  | cons a t ih =>
    intro i r h
    cases i with
    | zero =>
      show crcReg t (byteStep r c.toNat) ^^^ crcReg t (byteStep r a.toNat) = _
      rw [crcReg_two, ← byteStep_xor, Nat.xor_self]
      unfold byteStep
      rw [Nat.zero_xor, ← stepIter_add, List.length_cons]
      congr 1
      omega
    | succ i =>
      show crcReg (t.set i c) (byteStep r a.toNat) ^^^ crcReg t (byteStep r a.toNat) = _
      rw [ih i _ (by simpa using h)]
      simp only [List.getElem_cons_succ, List.length_cons]
      congr 1
      omega
/-- a bit turned -/
def flip (l : List UInt8) (k : Nat) : List UInt8 := l.set (k / 8) (UInt8.ofNat ((l.getD (k / 8) 0).toNat ^^^ 2 ^ (k % 8)))
theorem flip_length (l : List UInt8) (k : Nat) : (flip l k).length = l.length := by unfold flip; simp
theorem pow_lt (k : Nat) : 2 ^ (k % 8) < 256 := by
  have : 2 ^ (k % 8) ≤ 2 ^ 7 := Nat.pow_le_pow_right (by decide) (by omega)
  omega
theorem xor_lt (a : UInt8) (k : Nat) : a.toNat ^^^ 2 ^ (k % 8) < 256 := Nat.xor_lt_two_pow (n := 8) a.toNat_lt (pow_lt k)
theorem stepIter_pow : ∀ b, stepIter b (2 ^ b) = 1
  | 0 => rfl
  | b + 1 => by
    rw [show b + 1 = 1 + b by omega, stepIter_add, show 2 ^ (1 + b) = 2 * 2 ^ b by rw [Nat.pow_add]]
    show stepIter b (stp (2 * 2 ^ b)) = 1
    rw [stp_even, stepIter_pow b]
theorem crcReg_flip (l : List UInt8) (k r : Nat) (h : k < 8 * l.length) : crcReg (flip l k) r ^^^ crcReg l r = stepIter (8 * l.length - k) 1 := by
  have hi : k / 8 < l.length := by omega
  unfold flip
  rw [crcReg_set l _ _ _ hi, UInt8.toNat_ofNat', Nat.mod_eq_of_lt (xor_lt _ _)]
  have e : (l.getD (k / 8) 0) = l[k / 8] := by simp [List.getD, List.getElem?_eq_getElem hi]
  rw [e, Nat.xor_comm, ← Nat.xor_assoc, Nat.xor_self, Nat.zero_xor]
  rw [show 8 * (l.length - k / 8) = k % 8 + (8 * l.length - k) by omega, stepIter_add, stepIter_pow]
theorem xor_eq_zero {a b : Nat} (h : a = b) : a ^^^ b = 0 := by rw [h, Nat.xor_self]
theorem crc_ne {l m : List UInt8} (h : crcReg l 4294967295 ^^^ crcReg m 4294967295 ≠ 0) : crc l ≠ crc m := by
  intro e
  apply h
  apply xor_eq_zero
  unfold crc at e
  have h1 : 4294967295 ^^^ (4294967295 ^^^ crcReg l 4294967295) = 4294967295 ^^^ (4294967295 ^^^ crcReg m 4294967295) := by rw [e]
  rwa [← Nat.xor_assoc, ← Nat.xor_assoc, Nat.xor_self, Nat.zero_xor, Nat.zero_xor] at h1
theorem crc_flip (l : List UInt8) (k : Nat) (h : k < 8 * l.length) : crc (flip l k) ≠ crc l :=
  crc_ne (by rw [crcReg_flip l k _ h]; exact stepIter_ne (by decide) (by decide))
theorem steps_no : ∀ n : Nat, n < 31 → stepIter (n + 1) 1 ≠ 1 := by decide +kernel
theorem crc_flip2 (l : List UInt8) (k n : Nat) (h0 : 0 < n) (hn : n ≤ 31) (h : k + n < 8 * l.length) : crc (flip (flip l k) (k + n)) ≠ crc l := by
  apply crc_ne
  have h1 := crcReg_flip l k 4294967295 (by omega)
  have h2 := crcReg_flip (flip l k) (k + n) 4294967295 (by rw [flip_length]; omega)
  rw [flip_length] at h2
  have e : crcReg (flip (flip l k) (k + n)) 4294967295 ^^^ crcReg l 4294967295 = stepIter (8 * l.length - (k + n)) 1 ^^^ stepIter (8 * l.length - k) 1 := by
    rw [← h1, ← h2, Nat.xor_assoc, ← Nat.xor_assoc (crcReg (flip l k) _), Nat.xor_self, Nat.zero_xor]
  rw [e, show 8 * l.length - k = n + (8 * l.length - (k + n)) by omega, stepIter_add, ← stepIter_xor]
  have hs := steps_no (n - 1) (by omega)
  rw [show n - 1 + 1 = n by omega] at hs
  apply stepIter_ne
  · exact Nat.xor_lt_two_pow (n := 32) (by decide) (stepIter_lt (by decide))
  · intro hx
    apply hs
    have : 1 ^^^ (1 ^^^ stepIter n 1) = 1 ^^^ 0 := by rw [hx]
    rwa [← Nat.xor_assoc, Nat.xor_self, Nat.zero_xor, Nat.xor_zero] at this
end Go.Proofs.Ytnecbbflcpngcaa.Cd
