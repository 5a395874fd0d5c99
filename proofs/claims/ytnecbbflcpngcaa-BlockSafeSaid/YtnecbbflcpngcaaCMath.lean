/- Plain facts on the sum of bytes (the register of 32 bits), on the forms of numbers, and on lists: nothing of the program. No conditions. -/
import Derived.Laws.BitsAllLaws
import Derived.Laws.BitsLemmas
import Derived.RowKit
namespace Go.Proofs.Ytnecbbflcpngcaa.Cd
open Go.RowKit
set_option maxRecDepth 20000

def poly : Nat := 3988292384
/-- one step of the register -/
def stp (a : Nat) : Nat := if a % 2 = 1 then (a / 2) ^^^ poly else a / 2
/-- some steps -/
def stepIter : Nat → Nat → Nat
  | 0, a => a
  | k + 1, a => stp (stepIter k a)
/-- a byte -/
def byteStep (r b : Nat) : Nat := stepIter 8 (r ^^^ b)
def crcReg (l : List UInt8) (r : Nat) : Nat := l.foldl (fun r b => byteStep r b.toNat) r
def crc (l : List UInt8) : Nat := 4294967295 ^^^ crcReg l 4294967295

theorem xor_mod2 (a b : Nat) : (a ^^^ b) % 2 = (a % 2 + b % 2) % 2 := by
  have h := Nat.xor_mod_two_pow (a := a) (b := b) (n := 1)
  rw [Nat.pow_one] at h
  rw [h]
  rcases Nat.mod_two_eq_zero_or_one a with h1 | h1 <;> rcases Nat.mod_two_eq_zero_or_one b with h2 | h2 <;> rw [h1, h2] <;> rfl
theorem xor_div2 (a b : Nat) : (a ^^^ b) / 2 = (a / 2) ^^^ (b / 2) := by
  have h := Nat.shiftRight_xor_distrib (a := a) (b := b) (i := 1)
  simpa [Nat.shiftRight_succ] using h

theorem xor_swap (a b c d : Nat) : (a ^^^ b) ^^^ (c ^^^ d) = (a ^^^ c) ^^^ (b ^^^ d) := by
  rw [Nat.xor_assoc, Nat.xor_assoc, ← Nat.xor_assoc b c d, Nat.xor_comm b c, Nat.xor_assoc]
theorem stp_zero : stp 0 = 0 := rfl
theorem stp_xor (a b : Nat) : stp (a ^^^ b) = stp a ^^^ stp b := by
  unfold stp
  rw [xor_mod2, xor_div2]
  rcases Nat.mod_two_eq_zero_or_one a with h1 | h1 <;> rcases Nat.mod_two_eq_zero_or_one b with h2 | h2 <;> rw [h1, h2]
  · rfl
  · simp only [Nat.zero_add, Nat.one_mod, if_true, show (0 : Nat) = 1 ↔ False from by decide, if_false]; rw [Nat.xor_assoc]
  · simp only [Nat.add_zero, Nat.one_mod, if_true, show (0 : Nat) = 1 ↔ False from by decide, if_false]
    rw [Nat.xor_assoc, Nat.xor_assoc, Nat.xor_comm poly]
  · simp only [show (1 + 1) % 2 = 0 from rfl, if_true, show (0 : Nat) = 1 ↔ False from by decide, if_false]
    rw [xor_swap, Nat.xor_self, Nat.xor_zero]
theorem stp_lt {a : Nat} (h : a < 4294967296) : stp a < 4294967296 := by
  unfold stp
  split
  · exact Nat.xor_lt_two_pow (n := 32) (by omega) (by decide)
  · omega
theorem stp_ne {a : Nat} (h : a < 4294967296) (h0 : a ≠ 0) : stp a ≠ 0 := by
  unfold stp
  split
  · intro hx
    have h1 : (a / 2) ^^^ poly ^^^ poly = 0 ^^^ poly := by rw [hx]
    rw [Nat.xor_assoc, Nat.xor_self, Nat.xor_zero, Nat.zero_xor] at h1
    unfold poly at h1
    omega
  · omega
theorem stepIter_xor (k a b : Nat) : stepIter k (a ^^^ b) = stepIter k a ^^^ stepIter k b := by
  induction k with
  | zero => rfl
  | succ k ih => simp only [stepIter]; rw [ih, stp_xor]
theorem stepIter_zero (k : Nat) : stepIter k 0 = 0 := by
  induction k with
  | zero => rfl
  | succ k ih => simp only [stepIter]; rw [ih, stp_zero]
theorem stepIter_lt {k a : Nat} (h : a < 4294967296) : stepIter k a < 4294967296 := by
  induction k with
  | zero => exact h
  | succ k ih => exact stp_lt ih
theorem stepIter_ne {k a : Nat} (h : a < 4294967296) (h0 : a ≠ 0) : stepIter k a ≠ 0 := by
  induction k with
  | zero => exact h0
  | succ k ih => exact stp_ne (stepIter_lt h) ih
theorem stepIter_add (j k a : Nat) : stepIter (j + k) a = stepIter k (stepIter j a) := by
  induction k with
  | zero => rfl
  | succ k ih => show stp (stepIter (j + k) a) = _; rw [ih]; rfl
theorem byteStep_xor (r s b c : Nat) : byteStep (r ^^^ s) (b ^^^ c) = byteStep r b ^^^ byteStep s c := by
  unfold byteStep; rw [xor_swap, stepIter_xor]
theorem byteStep_lt {r b : Nat} (h : r < 4294967296) (hb : b < 256) : byteStep r b < 4294967296 :=
  stepIter_lt (Nat.xor_lt_two_pow (n := 32) h (by omega))

theorem crcReg_lt (l : List UInt8) : ∀ {r : Nat}, r < 4294967296 → crcReg l r < 4294967296 := by
  induction l with
  | nil => intro r h; exact h
  | cons b l ih => intro r h; exact ih (byteStep_lt h b.toNat_lt)
theorem crcReg_append (l m : List UInt8) (r : Nat) : crcReg (l ++ m) r = crcReg m (crcReg l r) := by
  unfold crcReg; rw [List.foldl_append]
theorem crcReg_snoc (l : List UInt8) (b : UInt8) (r : Nat) : crcReg (l ++ [b]) r = byteStep (crcReg l r) b.toNat := by
  rw [crcReg_append]; rfl
theorem crc_lt (l : List UInt8) : crc l < 4294967296 :=
  Nat.xor_lt_two_pow (n := 32) (by decide) (crcReg_lt l (by decide))
theorem compl_xor {a : Nat} (h : a < 4294967296) : 4294967295 ^^^ a = 4294967295 - a := by
  apply Nat.eq_of_testBit_eq
  intro i
  have e : 4294967295 - a = 2 ^ 32 - (a + 1) := by omega
  rw [e, Nat.testBit_two_pow_sub_succ (by omega), Nat.testBit_xor]
  have e2 : (4294967295 : Nat) = 2 ^ 32 - 1 := rfl
  rw [e2, Nat.testBit_two_pow_sub_one]
  by_cases hi : i < 32
  · simp [hi]
  · have : a.testBit i = false := Nat.testBit_lt_two_pow (Nat.lt_of_lt_of_le (show a < 2 ^ 32 from h) (Nat.pow_le_pow_right (by decide) (by omega)))
    simp [hi, this]

/-! the document's register, a bit at a time -/
def bitStep (r bit : Nat) : Nat := if r % 2 ≠ bit then (r / 2) ^^^ poly else r / 2
theorem bitStep_eq {r bit : Nat} (hb : bit < 2) : bitStep r bit = stp (r ^^^ bit) := by
  unfold bitStep stp
  rw [xor_mod2, xor_div2]
  have hb0 : bit / 2 = 0 := by omega
  have hb1 : bit % 2 = bit := by omega
  rw [hb0, hb1, Nat.xor_zero]
  have : bit = 0 ∨ bit = 1 := by omega
  rcases this with rfl | rfl <;> rcases Nat.mod_two_eq_zero_or_one r with h | h <;> rw [h] <;> simp
/-- behind k bits of byte b -/
def bitIter (b : Nat) : Nat → Nat → Nat
  | 0, r => r
  | k + 1, r => bitStep (bitIter b k r) (b / 2 ^ k % 2)
theorem split_low (x : Nat) : x = (x % 2) ^^^ (2 * (x / 2)) := by
  apply Nat.eq_of_testBit_eq
  intro i
  rw [Nat.testBit_xor]
  cases i with
  | zero =>
    rcases Nat.mod_two_eq_zero_or_one x with h | h <;> simp [Nat.testBit_zero, h]
  | succ i =>
    simp only [Nat.testBit_succ]
    rw [show 2 * (x / 2) / 2 = x / 2 by omega, show x % 2 / 2 = 0 by omega]
    simp
theorem stp_even (x : Nat) : stp (2 * x) = x := by
  unfold stp
  rw [if_neg (by omega)]; omega
theorem bitIter_eq (b r : Nat) : ∀ k, stepIter k (r ^^^ b) = bitIter b k r ^^^ (b / 2 ^ k)
  | 0 => by simp [stepIter, bitIter]
  | k + 1 => by
    show stp (stepIter k (r ^^^ b)) = bitStep (bitIter b k r) (b / 2 ^ k % 2) ^^^ _
    rw [bitIter_eq b r k, bitStep_eq (Nat.mod_lt _ (by decide)), split_low (b / 2 ^ k), ← Nat.xor_assoc, stp_xor, stp_even, ← split_low]
    rw [Nat.pow_succ, Nat.div_div_eq_div_mul]
theorem bitIter_byte (b r : Nat) (hb : b < 256) : bitIter b 8 r = byteStep r b := by
  have h := bitIter_eq b r 8
  rw [show b / 2 ^ 8 = 0 from by rw [Nat.div_eq_of_lt]; omega, Nat.xor_zero] at h
  exact h.symm

end Go.Proofs.Ytnecbbflcpngcaa.Cd
