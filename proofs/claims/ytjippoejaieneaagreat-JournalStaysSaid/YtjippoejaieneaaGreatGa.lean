/- Ga: CMath CMatb CMatc CLeaf CPut CRead CRdWa CRdWc CMeth in one text. What each asks of its input stands at its head. -/
import Derived.Laws.BitsAllLaws
import Derived.Laws.BitsLemmas
import Derived.RowKit
import Derived.IntWalk
import Derived.Test.YtjippoejaieneaaGreatRows
import Derived.WalkKit
import Derived.WalkSpells
import Derived.WalkLawsBesides
import Derived.Lib.Hide
import Derived.Laws.IdiomStrings
import Derived.WalkSmall
import Derived.RegionTactic
import Derived.ChangeAlike
import Derived.BigRegion
import Derived.Deep.QuietTactic
import Derived.BigQuiet
import Derived.StillTailTactics
import Derived.Lib.BufferWrite
import Derived.Lib.UnsafeStr
import Derived.WalkMore
import Derived.ScopeJumps

/- Plain facts on the sum of bytes (the register of 32 bits), on the forms of numbers, and on lists: nothing of the program. No conditions. -/
namespace Go.Proofs.YtjippoejaieneaaGreat.Cd
open Go.RowKit
set_option maxRecDepth 20000

def poly : Nat := 3988292384
/-- one step of the register -/
def stp (a : Nat) : Nat := if a % 2 = 1 then (a / 2) ^^^ poly else a / 2
/-- some steps -/
def stepIter : Nat → Nat → Nat
  | 0, a => a
  | k + 1, a => stp (stepIter k a)
/-- a byte -/
def byteStep (r b : Nat) : Nat := stepIter 8 (r ^^^ b)
def crcReg (l : List UInt8) (r : Nat) : Nat := l.foldl (fun r b => byteStep r b.toNat) r
def crc (l : List UInt8) : Nat := 4294967295 ^^^ crcReg l 4294967295

theorem xor_mod2 (a b : Nat) : (a ^^^ b) % 2 = (a % 2 + b % 2) % 2 := by
  have h := Nat.xor_mod_two_pow (a := a) (b := b) (n := 1)
  rw [Nat.pow_one] at h
  rw [h]
  rcases Nat.mod_two_eq_zero_or_one a with h1 | h1 <;> rcases Nat.mod_two_eq_zero_or_one b with h2 | h2 <;> rw [h1, h2] <;> rfl
theorem xor_div2 (a b : Nat) : (a ^^^ b) / 2 = (a / 2) ^^^ (b / 2) := by
  have h := Nat.shiftRight_xor_distrib (a := a) (b := b) (i := 1)
  simpa [Nat.shiftRight_succ] using h

theorem xor_swap (a b c d : Nat) : (a ^^^ b) ^^^ (c ^^^ d) = (a ^^^ c) ^^^ (b ^^^ d) := by
  rw [Nat.xor_assoc, Nat.xor_assoc, ← Nat.xor_assoc b c d, Nat.xor_comm b c, Nat.xor_assoc]
theorem stp_zero : stp 0 = 0 := rfl
theorem stp_xor (a b : Nat) : stp (a ^^^ b) = stp a ^^^ stp b := by
  unfold stp
  rw [xor_mod2, xor_div2]
  rcases Nat.mod_two_eq_zero_or_one a with h1 | h1 <;> rcases Nat.mod_two_eq_zero_or_one b with h2 | h2 <;> rw [h1, h2]
  · rfl
  · simp only [Nat.zero_add, Nat.one_mod, if_true, show (0 : Nat) = 1 ↔ False from by decide, if_false]; rw [Nat.xor_assoc]
  · simp only [Nat.add_zero, Nat.one_mod, if_true, show (0 : Nat) = 1 ↔ False from by decide, if_false]
    rw [Nat.xor_assoc, Nat.xor_assoc, Nat.xor_comm poly]
  · simp only [show (1 + 1) % 2 = 0 from rfl, if_true, show (0 : Nat) = 1 ↔ False from by decide, if_false]
    rw [xor_swap, Nat.xor_self, Nat.xor_zero]
theorem stp_lt {a : Nat} (h : a < 4294967296) : stp a < 4294967296 := by
  unfold stp
  split
  · exact Nat.xor_lt_two_pow (n := 32) (by omega) (by decide)
  · omega
theorem stp_ne {a : Nat} (h : a < 4294967296) (h0 : a ≠ 0) : stp a ≠ 0 := by
  unfold stp
  split
  · intro hx
    have h1 : (a / 2) ^^^ poly ^^^ poly = 0 ^^^ poly := by rw [hx]
    rw [Nat.xor_assoc, Nat.xor_self, Nat.xor_zero, Nat.zero_xor] at h1
    unfold poly at h1
    omega
  · omega
theorem stepIter_xor (k a b : Nat) : stepIter k (a ^^^ b) = stepIter k a ^^^ stepIter k b := by
  induction k with
  | zero => rfl
  | succ k ih => simp only [stepIter]; rw [ih, stp_xor]
theorem stepIter_zero (k : Nat) : stepIter k 0 = 0 := by
  induction k with
  | zero => rfl
  | succ k ih => simp only [stepIter]; rw [ih, stp_zero]
theorem stepIter_lt {k a : Nat} (h : a < 4294967296) : stepIter k a < 4294967296 := by
  induction k with
  | zero => exact h
  | succ k ih => exact stp_lt ih
theorem stepIter_ne {k a : Nat} (h : a < 4294967296) (h0 : a ≠ 0) : stepIter k a ≠ 0 := by
  induction k with
  | zero => exact h0
  | succ k ih => exact stp_ne (stepIter_lt h) ih
theorem stepIter_add (j k a : Nat) : stepIter (j + k) a = stepIter k (stepIter j a) := by
  induction k with
  | zero => rfl
  | succ k ih => show stp (stepIter (j + k) a) = _; rw [ih]; rfl
theorem byteStep_xor (r s b c : Nat) : byteStep (r ^^^ s) (b ^^^ c) = byteStep r b ^^^ byteStep s c := by
  unfold byteStep; rw [xor_swap, stepIter_xor]
theorem byteStep_lt {r b : Nat} (h : r < 4294967296) (hb : b < 256) : byteStep r b < 4294967296 :=
  stepIter_lt (Nat.xor_lt_two_pow (n := 32) h (by omega))

theorem crcReg_lt (l : List UInt8) : ∀ {r : Nat}, r < 4294967296 → crcReg l r < 4294967296 := by
  induction l with
  | nil => intro r h; exact h
  | cons b l ih => intro r h; exact ih (byteStep_lt h b.toNat_lt)
theorem crcReg_append (l m : List UInt8) (r : Nat) : crcReg (l ++ m) r = crcReg m (crcReg l r) := by
  unfold crcReg; rw [List.foldl_append]
theorem crcReg_snoc (l : List UInt8) (b : UInt8) (r : Nat) : crcReg (l ++ [b]) r = byteStep (crcReg l r) b.toNat := by
  rw [crcReg_append]; rfl
theorem crc_lt (l : List UInt8) : crc l < 4294967296 :=
  Nat.xor_lt_two_pow (n := 32) (by decide) (crcReg_lt l (by decide))
theorem compl_xor {a : Nat} (h : a < 4294967296) : 4294967295 ^^^ a = 4294967295 - a := by
  apply Nat.eq_of_testBit_eq
  intro i
  have e : 4294967295 - a = 2 ^ 32 - (a + 1) := by omega
  rw [e, Nat.testBit_two_pow_sub_succ (by omega), Nat.testBit_xor]
  have e2 : (4294967295 : Nat) = 2 ^ 32 - 1 := rfl
  rw [e2, Nat.testBit_two_pow_sub_one]
  by_cases hi : i < 32
  · simp [hi]
  · have : a.testBit i = false := Nat.testBit_lt_two_pow (Nat.lt_of_lt_of_le (show a < 2 ^ 32 from h) (Nat.pow_le_pow_right (by decide) (by omega)))
    simp [hi, this]

/-! the document's register, a bit at a time -/
def bitStep (r bit : Nat) : Nat := if r % 2 ≠ bit then (r / 2) ^^^ poly else r / 2
theorem bitStep_eq {r bit : Nat} (hb : bit < 2) : bitStep r bit = stp (r ^^^ bit) := by
  unfold bitStep stp
  rw [xor_mod2, xor_div2]
  have hb0 : bit / 2 = 0 := by omega
  have hb1 : bit % 2 = bit := by omega
  rw [hb0, hb1, Nat.xor_zero]
  have : bit = 0 ∨ bit = 1 := by omega
  rcases this with rfl | rfl <;> rcases Nat.mod_two_eq_zero_or_one r with h | h <;> rw [h] <;> simp
/-- behind k bits of byte b -/
def bitIter (b : Nat) : Nat → Nat → Nat
  | 0, r => r
  | k + 1, r => bitStep (bitIter b k r) (b / 2 ^ k % 2)
theorem split_low (x : Nat) : x = (x % 2) ^^^ (2 * (x / 2)) := by
  apply Nat.eq_of_testBit_eq
  intro i
  rw [Nat.testBit_xor]
  cases i with
  | zero =>
    rcases Nat.mod_two_eq_zero_or_one x with h | h <;> simp [Nat.testBit_zero, h]
  | succ i =>
    simp only [Nat.testBit_succ]
    rw [show 2 * (x / 2) / 2 = x / 2 by omega, show x % 2 / 2 = 0 by omega]
    simp
theorem stp_even (x : Nat) : stp (2 * x) = x := by
  unfold stp
  rw [if_neg (by omega)]; omega
theorem bitIter_eq (b r : Nat) : ∀ k, stepIter k (r ^^^ b) = bitIter b k r ^^^ (b / 2 ^ k)
  | 0 => by simp [stepIter, bitIter]
  | k + 1 => by
    show stp (stepIter k (r ^^^ b)) = bitStep (bitIter b k r) (b / 2 ^ k % 2) ^^^ _
    rw [bitIter_eq b r k, bitStep_eq (Nat.mod_lt _ (by decide)), split_low (b / 2 ^ k), ← Nat.xor_assoc, stp_xor, stp_even, ← split_low]
    rw [Nat.pow_succ, Nat.div_div_eq_div_mul]
theorem bitIter_byte (b r : Nat) (hb : b < 256) : bitIter b 8 r = byteStep r b := by
  have h := bitIter_eq b r 8
  rw [show b / 2 ^ 8 = 0 from by rw [Nat.div_eq_of_lt]; omega, Nat.xor_zero] at h
  exact h.symm

end Go.Proofs.YtjippoejaieneaaGreat.Cd

/- Plain facts on numbers of 64 bits and their forms in bytes: nothing of the program. No conditions. -/
namespace Go.Proofs.YtjippoejaieneaaGreat.Cd
open Go.RowKit
set_option maxRecDepth 20000

theorem toNat_ofInt64 (a : Int) : (BitVec.ofInt 64 a).toNat = (a % 18446744073709551616).toNat := BitVec.toNat_ofInt ..
theorem or_low (q c : Nat) (hc : c < 256) : 256 * q ||| c = 256 * q + c := by
  have h := Nat.two_pow_add_eq_or_of_lt (i := 8) (b := c) hc q
  exact h.symm
theorem or64 (r : Int) (c : Nat) (hc : c < 256) : bits BinOp.or IntKind.i64 (wrap64 (r * 256)) (wrap64 (c : Int)) = wrap64 (r * 256 + c) := by
  show IntKind.i64.wrap ((BitVec.ofInt 64 (wrap64 (r * 256)) ||| BitVec.ofInt 64 (wrap64 (c : Int))).toNat : Int) = _
  rw [BitVec.toNat_or, toNat_ofInt64, toNat_ofInt64]
  have e1 : (wrap64 (c : Int) % 18446744073709551616).toNat = c := by unfold wrap64; omega
  have e2 : (wrap64 (r * 256) % 18446744073709551616).toNat = 256 * ((r * 256 % 18446744073709551616).toNat / 256) := by unfold wrap64; omega
  rw [e1, e2, or_low _ _ hc, IntKind.wrap_i64]
  unfold wrap64
  omega
theorem orU64 (r : Int) (c : Nat) (hc : c < 256) : bits BinOp.or IntKind.u64 (IntKind.u64.wrap (r * 256)) (IntKind.u64.wrap (c : Int)) = IntKind.u64.wrap (r * 256 + c) := by
  show IntKind.u64.wrap ((BitVec.ofInt 64 (IntKind.u64.wrap (r * 256)) ||| BitVec.ofInt 64 (IntKind.u64.wrap (c : Int))).toNat : Int) = _
  rw [BitVec.toNat_or, toNat_ofInt64, toNat_ofInt64]
  have w64 : ∀ n, IntKind.u64.wrap n = n % 18446744073709551616 := fun n => by simp [IntKind.wrap, IntKind.bits, IntKind.signed]
  simp only [w64]
  have e1 : ((c : Int) % 18446744073709551616 % 18446744073709551616).toNat = c := by omega
  have e2 : ((r * 256) % 18446744073709551616 % 18446744073709551616).toNat = 256 * ((r * 256 % 18446744073709551616).toNat / 256) := by omega
  rw [e1, e2, or_low _ _ hc]
  omega
theorem wrap_mul (r s : Int) : wrap64 (wrap64 r * 256 + s) = wrap64 (r * 256 + s) := by unfold wrap64; omega
theorem wrapU_mul (r s : Int) : IntKind.u64.wrap (IntKind.u64.wrap r * 256 + s) = IntKind.u64.wrap (r * 256 + s) := by
  have w64 : ∀ n, IntKind.u64.wrap n = n % 18446744073709551616 := fun n => by simp [IntKind.wrap, IntKind.bits, IntKind.signed]
  simp only [w64]; omega
theorem wrap_wrapU (r : Int) : wrap64 (IntKind.u64.wrap r) = wrap64 r := by
  have w64 : ∀ n, IntKind.u64.wrap n = n % 18446744073709551616 := fun n => by simp [IntKind.wrap, IntKind.bits, IntKind.signed]
  simp only [w64]; unfold wrap64; omega

/-- bytes as a number, the highest first -/
def be (l : List UInt8) : Nat := l.foldl (fun n b => n * 256 + b.toNat) 0
theorem be_snoc (l : List UInt8) (b : UInt8) : be (l ++ [b]) = be l * 256 + b.toNat := by
  unfold be; rw [List.foldl_append]; rfl
/-- what a reader makes of them -/
def numS (l : List UInt8) : Int := wrap64 (be l)

/-- the byte of a number -/
def byteOf (n : Int) : UInt8 := UInt8.ofNat (n % 256).toNat
theorem byteOf_toNat (n : Int) : ((byteOf n).toNat : Int) = n % 256 := by
  unfold byteOf
  rw [UInt8.toNat_ofNat']
  omega
/-- the form of a number in so many bytes -/
def putS (n : Int) : Nat → List UInt8
  | 0 => []
  | j + 1 => byteOf (n / 256 ^ j) :: putS n j
theorem putS_length (n : Int) : ∀ j, (putS n j).length = j
  | 0 => rfl
  | j + 1 => by show (putS n j).length + 1 = _; rw [putS_length n j]

theorem foldl_be (l : List UInt8) : ∀ (m : Nat), l.foldl (fun n b => n * 256 + b.toNat) m = m * 256 ^ l.length + be l := by
  induction l with
  | nil => intro m; simp [be]
  | cons b l ih =>
    intro m
    show l.foldl _ (m * 256 + b.toNat) = _
    rw [ih]
    have : be (b :: l) = b.toNat * 256 ^ l.length + be l := by
      show l.foldl _ (0 * 256 + b.toNat) = _
      rw [ih]; simp
    rw [this, List.length_cons, Nat.pow_succ, Nat.add_mul]
    rw [Nat.mul_assoc, Nat.mul_comm 256, Nat.add_assoc]
theorem be_cons (b : UInt8) (l : List UInt8) : be (b :: l) = b.toNat * 256 ^ l.length + be l := by
  show l.foldl _ (0 * 256 + b.toNat) = _
  rw [foldl_be]; simp
theorem be_lt : ∀ l : List UInt8, be l < 256 ^ l.length
  | [] => by simp [be]
  | b :: l => by
    rw [be_cons, List.length_cons, Nat.pow_succ]
    have h := be_lt l
    have hb := b.toNat_lt
    have : b.toNat * 256 ^ l.length ≤ 255 * 256 ^ l.length := Nat.mul_le_mul_right _ (by omega)
    omega
theorem be_putS (n : Int) : ∀ j, (be (putS n j) : Int) = n % 256 ^ j
  | 0 => by simp [be, putS]
  | j + 1 => by
    show ((be (byteOf (n / 256 ^ j) :: putS n j) : Nat) : Int) = _
    rw [be_cons, putS_length, Int.natCast_add, be_putS n j, Int.natCast_mul, byteOf_toNat, Int.natCast_pow]
    have hp : (0 : Int) < 256 ^ j := Int.pow_pos (by decide)
    rw [Int.pow_succ]
    show n / 256 ^ j % 256 * 256 ^ j + n % 256 ^ j = _
    generalize (256 : Int) ^ j = p at *
    have h1 := Int.emod_def n (p * 256)
    have h2 := Int.emod_def n p
    have h3 := Int.emod_def (n / p) 256
    have h4 : n / (p * 256) = n / p / 256 := (Int.ediv_ediv_of_nonneg (by omega)).symm
    rw [h4] at h1
    rw [h1, h2, h3, Int.sub_mul, Int.mul_comm (n / p) p, Int.mul_assoc p 256, Int.mul_comm p (256 * (n / p / 256))]
    omega
/-- a number that is read back -/
theorem num_back (n : Int) (j : Nat) (hj : j < 8) : numS (putS n j) = n % 256 ^ j := by
  unfold numS
  rw [be_putS]
  have hp : (0 : Int) < 256 ^ j := Int.pow_pos (by decide)
  have h1 := Int.emod_nonneg n (b := 256 ^ j) (by omega)
  have h2 := Int.emod_lt_of_pos n hp
  have h3 : (256 : Int) ^ j ≤ 256 ^ 7 := by
    have : (256 : Nat) ^ j ≤ 256 ^ 7 := Nat.pow_le_pow_right (by decide) (by omega)
    have := Int.ofNat_le.2 this
    simpa using this
  have h4 : (256 : Int) ^ 7 = 72057594037927936 := by decide
  unfold wrap64
  omega
theorem num_back8 (n : Int) (h1 : -9223372036854775808 ≤ n) (h2 : n ≤ 9223372036854775807) : numS (putS n 8) = n := by
  unfold numS
  rw [be_putS]
  have h4 : (256 : Int) ^ 8 = 18446744073709551616 := by decide
  rw [h4]
  unfold wrap64
  omega
theorem u8_ext {a b : UInt8} (h : (a.toNat : Int) = b.toNat) : a = b := UInt8.toNat_inj.1 (by omega)
/-- bytes that are laid again -/
theorem putS_mod (n : Int) (j k : Nat) (h : j ≤ k) : putS (n % 256 ^ k) j = putS n j := by
  induction j with
  | zero => rfl
  | succ j ih =>
    show byteOf _ :: _ = byteOf _ :: _
    rw [ih (by omega)]
    congr 1
    apply u8_ext
    rw [byteOf_toNat, byteOf_toNat]
    obtain ⟨d, rfl⟩ : ∃ d, k = j + 1 + d := ⟨k - (j + 1), by omega⟩
    have hp : (0 : Int) < 256 ^ j := Int.pow_pos (by decide)
    have hq : (0 : Int) < 256 ^ d := Int.pow_pos (by decide)
    have e : (256 : Int) ^ (j + 1 + d) = 256 ^ j * (256 * 256 ^ d) := by rw [Int.pow_add, Int.pow_add, Int.pow_succ, Int.pow_zero, Int.one_mul, Int.mul_assoc]
    rw [e]
    generalize (256 : Int) ^ j = p at *
    generalize (256 : Int) ^ d = q at *
    rw [Int.emod_def n, ← Int.ediv_ediv_of_nonneg (show (0 : Int) ≤ p by omega)]
    rw [show n - p * (256 * q) * (n / p / (256 * q)) = n + p * (-(256 * q * (n / p / (256 * q)))) by rw [Int.mul_neg, Int.mul_assoc]; omega]
    rw [Int.add_mul_ediv_left _ _ (by omega)]
    rw [Int.mul_assoc 256]
    omega
theorem putS_be (l : List UInt8) : putS (be l) l.length = l := by
  induction l with
  | nil => rfl
  | cons b l ih =>
    have hb := be_lt l
    show byteOf _ :: putS _ _ = _
    have e1 : putS ((be (b :: l) : Nat) : Int) l.length = l := by
      rw [← putS_mod _ l.length l.length (Nat.le_refl _)]
      have : ((be (b :: l) : Nat) : Int) % 256 ^ l.length = (be l : Nat) := by
        rw [be_cons]
        have : ((b.toNat * 256 ^ l.length + be l : Nat) : Int) % ((256 ^ l.length : Nat) : Int) = ((be l : Nat) : Int) := by
          rw [← Int.natCast_emod]
          congr 1
          rw [Nat.mul_comm, Nat.mul_add_mod]
          exact Nat.mod_eq_of_lt hb
        simpa using this
      rw [this, ih]
    rw [e1]
    congr 1
    apply u8_ext
    rw [byteOf_toNat, be_cons]
    have : (((b.toNat * 256 ^ l.length + be l : Nat) : Int) / ((256 ^ l.length : Nat) : Int)) = (b.toNat : Nat) := by
      rw [← Int.natCast_ediv]
      congr 1
      rw [Nat.mul_comm, Nat.mul_add_div (by exact Nat.lt_of_le_of_lt (Nat.zero_le _) hb), Nat.div_eq_of_lt hb]
      rfl
    have h2 : ((256 ^ l.length : Nat) : Int) = (256 : Int) ^ l.length := by simp
    rw [h2] at this
    rw [this]
    have := b.toNat_lt
    omega
theorem putS_wrap (n : Int) (j : Nat) (h : j ≤ 8) : putS (wrap64 n) j = putS n j := by
  rw [← putS_mod (wrap64 n) j 8 h, ← putS_mod n j 8 h]
  congr 1
  have h4 : (256 : Int) ^ 8 = 18446744073709551616 := by decide
  rw [h4]; unfold wrap64; omega
theorem putS_num (l : List UInt8) (h : l.length ≤ 8) : putS (numS l) l.length = l := by
  unfold numS; rw [putS_wrap _ _ h, putS_be]
end Go.Proofs.YtjippoejaieneaaGreat.Cd

/- Plain facts: the sum of bytes turns with each single bit, and with each two bits within 32 of one another. No conditions. -/
namespace Go.Proofs.YtjippoejaieneaaGreat.Cd
open Go.RowKit
set_option maxRecDepth 20000

theorem crcReg_two (l : List UInt8) : ∀ x y : Nat, crcReg l x ^^^ crcReg l y = stepIter (8 * l.length) (x ^^^ y) := by
  induction l with
  | nil => intro x y; rfl
  | cons a t ih =>
    intro x y
    show crcReg t (byteStep x a.toNat) ^^^ crcReg t (byteStep y a.toNat) = _
    rw [ih, ← byteStep_xor, Nat.xor_self]
    unfold byteStep
    rw [Nat.xor_zero, ← stepIter_add, List.length_cons]
    congr 1
    omega
theorem crcReg_set (l : List UInt8) (c : UInt8) : ∀ (i r : Nat) (h : i < l.length), crcReg (l.set i c) r ^^^ crcReg l r = stepIter (8 * (l.length - i)) (c.toNat ^^^ (l[i]).toNat) := by
  induction l with
  | nil => intro i r h; simp at h
  | cons a t ih =>
    intro i r h
    cases i with
    | zero =>
      show crcReg t (byteStep r c.toNat) ^^^ crcReg t (byteStep r a.toNat) = _
      rw [crcReg_two, ← byteStep_xor, Nat.xor_self]
      unfold byteStep
      rw [Nat.zero_xor, ← stepIter_add, List.length_cons]
      congr 1
      omega
    | succ i =>
      show crcReg (t.set i c) (byteStep r a.toNat) ^^^ crcReg t (byteStep r a.toNat) = _
      rw [ih i _ (by simpa using h)]
      simp only [List.getElem_cons_succ, List.length_cons]
      congr 1
      omega
/-- a bit turned -/
def flip (l : List UInt8) (k : Nat) : List UInt8 := l.set (k / 8) (UInt8.ofNat ((l.getD (k / 8) 0).toNat ^^^ 2 ^ (k % 8)))
theorem flip_length (l : List UInt8) (k : Nat) : (flip l k).length = l.length := by unfold flip; simp
theorem pow_lt (k : Nat) : 2 ^ (k % 8) < 256 := by
  have : 2 ^ (k % 8) ≤ 2 ^ 7 := Nat.pow_le_pow_right (by decide) (by omega)
  omega
theorem xor_lt (a : UInt8) (k : Nat) : a.toNat ^^^ 2 ^ (k % 8) < 256 := Nat.xor_lt_two_pow (n := 8) a.toNat_lt (pow_lt k)
theorem stepIter_pow : ∀ b, stepIter b (2 ^ b) = 1
  | 0 => rfl
  | b + 1 => by
    rw [show b + 1 = 1 + b by omega, stepIter_add, show 2 ^ (1 + b) = 2 * 2 ^ b by rw [Nat.pow_add]]
    show stepIter b (stp (2 * 2 ^ b)) = 1
    rw [stp_even, stepIter_pow b]
theorem crcReg_flip (l : List UInt8) (k r : Nat) (h : k < 8 * l.length) : crcReg (flip l k) r ^^^ crcReg l r = stepIter (8 * l.length - k) 1 := by
  have hi : k / 8 < l.length := by omega
  unfold flip
  rw [crcReg_set l _ _ _ hi, UInt8.toNat_ofNat', Nat.mod_eq_of_lt (xor_lt _ _)]
  have e : (l.getD (k / 8) 0) = l[k / 8] := by simp [List.getD, List.getElem?_eq_getElem hi]
  rw [e, Nat.xor_comm, ← Nat.xor_assoc, Nat.xor_self, Nat.zero_xor]
  rw [show 8 * (l.length - k / 8) = k % 8 + (8 * l.length - k) by omega, stepIter_add, stepIter_pow]
theorem xor_eq_zero {a b : Nat} (h : a = b) : a ^^^ b = 0 := by rw [h, Nat.xor_self]
theorem crc_ne {l m : List UInt8} (h : crcReg l 4294967295 ^^^ crcReg m 4294967295 ≠ 0) : crc l ≠ crc m := by
  intro e
  apply h
  apply xor_eq_zero
  unfold crc at e
  have h1 : 4294967295 ^^^ (4294967295 ^^^ crcReg l 4294967295) = 4294967295 ^^^ (4294967295 ^^^ crcReg m 4294967295) := by rw [e]
  rwa [← Nat.xor_assoc, ← Nat.xor_assoc, Nat.xor_self, Nat.zero_xor, Nat.zero_xor] at h1
theorem crc_flip (l : List UInt8) (k : Nat) (h : k < 8 * l.length) : crc (flip l k) ≠ crc l :=
  crc_ne (by rw [crcReg_flip l k _ h]; exact stepIter_ne (by decide) (by decide))
theorem steps_no : ∀ n : Nat, n < 31 → stepIter (n + 1) 1 ≠ 1 := by decide +kernel
theorem crc_flip2 (l : List UInt8) (k n : Nat) (h0 : 0 < n) (hn : n ≤ 31) (h : k + n < 8 * l.length) : crc (flip (flip l k) (k + n)) ≠ crc l := by
  apply crc_ne
  have h1 := crcReg_flip l k 4294967295 (by omega)
  have h2 := crcReg_flip (flip l k) (k + n) 4294967295 (by rw [flip_length]; omega)
  rw [flip_length] at h2
  have e : crcReg (flip (flip l k) (k + n)) 4294967295 ^^^ crcReg l 4294967295 = stepIter (8 * l.length - (k + n)) 1 ^^^ stepIter (8 * l.length - k) 1 := by
    rw [← h1, ← h2, Nat.xor_assoc, ← Nat.xor_assoc (crcReg (flip l k) _), Nat.xor_self, Nat.zero_xor]
  rw [e, show 8 * l.length - k = n + (8 * l.length - (k + n)) by omega, stepIter_add, ← stepIter_xor]
  have hs := steps_no (n - 1) (by omega)
  rw [show n - 1 + 1 = n by omega] at hs
  apply stepIter_ne
  · exact Nat.xor_lt_two_pow (n := 32) (by decide) (stepIter_lt (by decide))
  · intro hx
    apply hs
    have : 1 ^^^ (1 ^^^ stepIter n 1) = 1 ^^^ 0 := by rw [hx]
    rwa [← Nat.xor_assoc, Nat.xor_self, Nat.zero_xor, Nat.xor_zero] at this
end Go.Proofs.YtjippoejaieneaaGreat.Cd

/- The small functions of the code and of the document's answer: a step of the register, a width, the sum of bytes (both), the number of bytes (both), a new reader: what each call returns; the world stays. Conditions: a string's bytes are at most maxLen. -/
namespace Go.Proofs.YtjippoejaieneaaGreat.Cd
open Go.RowKit
set_option maxRecDepth 20000

theorem ret_int {k : IntKind} {a b : Int} (h : a = b) : Ending.returned (.int k a) = .returned (.int k b) := by rw [h]

theorem and1 (a : Nat) (h : a < 4294967296) : bits BinOp.and IntKind.u32 (a : Int) 1 = ((a % 2 : Nat) : Int) := by
  have := u32_and_nat a 1 h (by decide)
  rw [Nat.and_one_is_mod] at this
  exact this
theorem xorN (a b : Nat) (h : a < 4294967296) (hb : b < 4294967296) : bits BinOp.xor IntKind.u32 (a : Int) (b : Int) = ((a ^^^ b : Nat) : Int) := u32_xor_nat a b h hb

set_option maxHeartbeats 400000 in
theorem step_any (n : Int) (h0 : 0 ≤ n) (h1 : n ≤ 4294967295) (w : World) :
    Calls Tryz.prog 173 #[.int .u32 n] w fun e w' => e = .returned (.int .u32 (stp n.toNat : Nat)) ∧ w = w' := by
  obtain ⟨a, rfl⟩ := Int.eq_ofNat_of_zero_le h0
  have ha : a < 4294967296 := by omega
  have e1 : (((a : Int) / 2 : Int)) = ((a / 2 : Nat) : Int) := by omega
  have e2 : bits BinOp.xor IntKind.u32 ((a : Int) / 2) 3988292384 = (((a / 2) ^^^ poly : Nat) : Int) := by
    rw [e1]; exact xorN _ _ (by omega) (by decide)
  have E1 : Hid _ := e1
  have E2 : Hid _ := e2
  clear e1 e2
  rw [Int.toNat_natCast]
  by_cases hb : a % 2 = 1
  · have hc : (bits BinOp.and IntKind.u32 (a : Int) 1 == 1) = true := by rw [and1 a ha, hb]; rfl
    have F : Hid (stp a = a / 2 ^^^ poly) := by unfold stp Hid; rw [if_pos hb]
    clear hb
    go_enter Tryz.func173, Tryz.ntmps173
    go_wp2
    go_ret
    exact ⟨ret_int (by rw [F.out]; exact E2.out), rfl⟩
  · have hc : (bits BinOp.and IntKind.u32 (a : Int) 1 == 1) = false := by rw [and1 a ha, show a % 2 = 0 by omega]; rfl
    have F : Hid (stp a = a / 2) := by unfold stp Hid; rw [if_neg hb]
    clear hb
    go_enter Tryz.func173, Tryz.ntmps173
    go_wp2
    go_ret
    exact ⟨ret_int (by rw [F.out]; exact E1.out), rfl⟩

def isW (n : Int) : Bool := decide (1 ≤ n ∧ n ≤ 8)
theorem isW_yes {n : Int} (h : 1 ≤ n) (h8 : n ≤ 8) : isW n = true := decide_eq_true ⟨h, h8⟩
theorem isW_no {n : Int} (h : ¬ (1 ≤ n ∧ n ≤ 8)) : isW n = false := decide_eq_false h
theorem ret_bool {a b : Bool} (h : a = b) : Ending.returned (.bool a) = .returned (.bool b) := by rw [h]
set_option maxHeartbeats 400000 in
theorem isWidth_any (n : Int)  (w : World) :
    Calls Tryz.prog 127 #[.int .i64 n] w fun e w' => e = .returned (.bool (isW n)) ∧ w = w' := by
  by_cases h : 1 ≤ n
  · by_cases h8 : n ≤ 8
    · have H := Lib.hid (isW_yes h h8)
      go_enter Tryz.func127, Tryz.ntmps127
      go_wp2
      go_ret
      exact ⟨by rw [H.out]; rfl, rfl⟩
    · have H := Lib.hid (isW_no (n := n) (fun x => h8 x.2))
      go_enter Tryz.func127, Tryz.ntmps127
      go_wp2
      go_ret
      exact ⟨by rw [H.out]; rfl, rfl⟩
  · have H := Lib.hid (isW_no (n := n) (fun x => h x.1))
    go_enter Tryz.func127, Tryz.ntmps127
    go_wp2
    go_ret
    exact ⟨by rw [H.out]; rfl, rfl⟩

theorem xorByte (r : Nat) (c : UInt8) (h : r < 4294967296) : bits BinOp.xor IntKind.u32 (r : Int) ((c.toNat : Int) % 4294967296) = ((r ^^^ c.toNat : Nat) : Int) := by
  have hc := c.toNat_lt
  rw [show ((c.toNat : Int) % 4294967296) = ((c.toNat : Nat) : Int) from by omega]
  exact xorN _ _ h (by omega)

theorem crc_end {s : ByteArray} {k r : Nat} (h : r = crcReg (s.data.toList.take k) 4294967295) (hk : k ≤ s.size) (hlt : ¬ k < s.size) : 4294967295 ^^^ r = crc s.data.toList := by
  rw [h, List.take_of_length_le (by simp; omega)]; rfl
theorem xorMax {s : ByteArray} {k r : Nat} (h : r = crcReg (s.data.toList.take k) 4294967295) (hr : r < 4294967296) (hk : k ≤ s.size) (hlt : ¬ k < s.size) :
    bits BinOp.xor IntKind.u32 IntKind.u32.max (r : Int) = (crc s.data.toList : Nat) := by
  have e : IntKind.u32.max = ((4294967295 : Nat) : Int) := by decide
  rw [e, xorN _ _ (by decide) hr, crc_end h hk hlt]
set_option maxHeartbeats 400000 in
theorem sum32_any (s : ByteArray) (w : World) (hs : s.size ≤ maxLen) :
    Calls Tryz.prog 159 #[.string s] w fun e w' => e = .returned (.int .u32 (crc s.data.toList : Nat)) ∧ w = w' := by
  unfold maxLen at hs
  go_enter Tryz.func159, Tryz.ntmps159
  go_wp2
  go_loop [3, 4, 7] (fun n _ i => ∃ k r : Nat, k ≤ s.size ∧ i = .int .i64 k ∧ n = .int .u32 (r : Nat) ∧ r < 4294967296 ∧ Hid (r = crcReg (s.data.toList.take k) 4294967295)) (fun _ _ i => s.size - (intOf i).toNat)
  case atStart => exact ⟨0, 4294967295, Nat.zero_le _, rfl, rfl, by decide, rfl⟩
  case round =>
    obtain ⟨k, r, hk, rfl, rfl, hr, HR⟩ := hrel
    by_cases hlt : k < s.size
    · obtain ⟨c, hc⟩ : ∃ c, c = s[k] := ⟨_, rfl⟩
      have hx := xorByte r s[k] hr
      rw [← hc] at hx
      have HX := Lib.hid hx
      have HT : Hid (crcReg (s.data.toList.take (k + 1)) 4294967295 = byteStep r c.toNat) := by
        have := List.take_succ_eq_append_getElem (l := s.data.toList) (i := k) (by simpa using hlt)
        unfold Hid
        rw [this, crcReg_snoc, HR.out, hc]; rfl
      clear hx
      have HC := Lib.hid hc
      clear hc
      go_wp2
      rw [← HC.out]
      go_loop [3, 16] (fun n i => ∃ j x : Nat, j ≤ 8 ∧ i = .int .i64 j ∧ n = .int .u32 (x : Nat) ∧ x < 4294967296 ∧ Hid (x = stepIter j (r ^^^ c.toNat))) (fun _ i => 8 - (intOf i).toNat)
      case atStart =>
        exact ⟨0, r ^^^ c.toNat, by omega, rfl, by rw [HX.out], Nat.xor_lt_two_pow (n := 32) hr (by have := c.toNat_lt; omega), rfl⟩
      case round =>
        obtain ⟨j, x, hj, rfl, rfl, hx, HXX⟩ := hrel
        by_cases hj8 : j < 8
        · go_wp2_with (go_at_call 173; refine (step_any _ (by omega) (by omega) _).mono ?_; rintro e w' ⟨rfl, rfl⟩)
          go_round
          case rel => exact ⟨j + 1, stp x, by omega, by go_num, by rfl, stp_lt hx, by rw [HXX.out]; rfl⟩
          case measure => simp [intOf]; omega
        · go_wp2
          go_round
          case rel => exact ⟨k + 1, x, by omega, by go_num, rfl, hx, by rw [HT.out, HXX.out, show j = 8 by omega]; rfl⟩
          case measure => simp [intOf]; omega
    · go_wp2
      go_ret
      exact ⟨ret_int (xorMax HR.out hr hk hlt), rfl⟩


theorem andShift (c : UInt8) (j : Nat) : bits BinOp.and IntKind.u32 ((c.toNat : Int) / 2 ^ j % 4294967296) 1 = ((c.toNat / 2 ^ j % 2 : Nat) : Int) := by
  have hc := c.toNat_lt
  have hle : c.toNat / 2 ^ j ≤ c.toNat := Nat.div_le_self _ _
  have e : ((c.toNat : Int) / 2 ^ j % 4294967296) = ((c.toNat / 2 ^ j : Nat) : Int) := by
    have h2 : ((c.toNat / 2 ^ j : Nat) : Int) = (c.toNat : Int) / 2 ^ j := by simp
    rw [← h2]
    generalize c.toNat / 2 ^ j = y at *
    omega
  rw [e]
  generalize c.toNat / 2 ^ j = y at *
  exact and1 _ (by omega)
theorem bitTest_yes {x j : Nat} {c : UInt8} (hx : x < 4294967296) (h : x % 2 ≠ c.toNat / 2 ^ j % 2) :
    (bits BinOp.and IntKind.u32 (x : Int) 1 != bits BinOp.and IntKind.u32 ((c.toNat : Int) / 2 ^ j % 4294967296) 1) = true := by
  rw [andShift, and1 x hx, bne_iff_ne]
  intro h2
  exact h (Int.ofNat_inj.1 h2)
theorem bitTest_no {x j : Nat} {c : UInt8} (hx : x < 4294967296) (h : x % 2 = c.toNat / 2 ^ j % 2) :
    (bits BinOp.and IntKind.u32 (x : Int) 1 != bits BinOp.and IntKind.u32 ((c.toNat : Int) / 2 ^ j % 4294967296) 1) = false := by
  rw [andShift, and1 x hx, h]; simp
theorem bit_end {s : ByteArray} {k r x j : Nat} (hlt : k < s.size) (HT : crcReg (s.data.toList.take (k + 1)) 4294967295 = byteStep r s[k].toNat) (hx : x = bitIter s[k].toNat j r) (hj : j ≤ 8) (hj8 : ¬ j < 8) :
    x = crcReg (s.data.toList.take (k + 1)) 4294967295 := by
  have h8 : j = 8 := by omega
  rw [HT, hx, h8, bitIter_byte _ _ (UInt8.toNat_lt _)]
theorem crc_out {s : ByteArray} {k r : Nat} (h : r = crcReg (s.data.toList.take k) 4294967295) (hr : r < 4294967296) (hk : k ≤ s.size) (hlt : ¬ k < s.size) :
    bits BinOp.xor IntKind.u32 4294967295 (r : Int) = (crc s.data.toList : Nat) := by
  rw [← crc_end h hk hlt]; exact xorN 4294967295 r (by decide) hr
theorem bitIter_lt {b : Nat} {r : Nat} (h : r < 4294967296) : ∀ k, bitIter b k r < 4294967296
  | 0 => h
  | k + 1 => by
    show bitStep _ _ < _
    rw [bitStep_eq (Nat.mod_lt _ (by decide))]
    exact stp_lt (Nat.xor_lt_two_pow (n := 32) (bitIter_lt h k) (by have := Nat.mod_lt (b / 2 ^ k) (show 0 < 2 by decide); omega))

set_option maxHeartbeats 800000 in
theorem rsum32_any (s : ByteArray) (w : World) (hs : s.size ≤ maxLen) :
    Calls Tryz.prog 114 #[.string s] w fun e w' => e = .returned (.int .u32 (crc s.data.toList : Nat)) ∧ w = w' := by
  unfold maxLen at hs
  go_enter Tryz.func114, Tryz.ntmps114
  go_wp2
  go_loop [3, 4, 5, 6] (fun n i _ _ => ∃ k r : Nat, k ≤ s.size ∧ i = .int .i64 k ∧ n = .int .u32 (r : Nat) ∧ r < 4294967296 ∧ Hid (r = crcReg (s.data.toList.take k) 4294967295)) (fun _ i _ _ => s.size - (intOf i).toNat)
  case atStart => exact ⟨0, 4294967295, Nat.zero_le _, rfl, rfl, by decide, rfl⟩
  case round =>
    obtain ⟨k, r, hk, rfl, rfl, hr, HR⟩ := hrel
    by_cases hlt : k < s.size
    · have HT : Hid (crcReg (s.data.toList.take (k + 1)) 4294967295 = byteStep r s[k].toNat) := by
        have := List.take_succ_eq_append_getElem (l := s.data.toList) (i := k) (by simpa using hlt)
        unfold Hid
        rw [this, crcReg_snoc, HR.out]; rfl
      go_wp2
      go_loop [3, 5, 6] (fun n i _ => ∃ j x : Nat, j ≤ 8 ∧ i = .int .i64 j ∧ n = .int .u32 (x : Nat) ∧ x < 4294967296 ∧ Hid (x = bitIter s[k].toNat j r)) (fun _ i _ => 8 - (intOf i).toNat)
      case atStart =>
        exact ⟨0, r, by omega, rfl, rfl, hr, rfl⟩
      case round =>
        obtain ⟨j, x, hj, rfl, rfl, hx, HXX⟩ := hrel
        by_cases hj8 : j < 8
        · by_cases hb : x % 2 = s[k].toNat / 2 ^ j % 2
          · have hno := bitTest_no hx hb
            have HE : Hid ((x : Int) / 2 = ((bitIter s[k].toNat (j + 1) r : Nat) : Int)) := by
              show _ = ((bitStep _ _ : Nat) : Int)
              rw [← HXX.out]; unfold bitStep; rw [if_neg (by omega)]; omega
            have HL : bitIter s[k].toNat (j + 1) r < 4294967296 := bitIter_lt hr _
            clear hb
            go_wp2
            go_round
            case rel => exact ⟨j + 1, _, by omega, by go_num, by rw [HE.out], HL, rfl⟩
            case measure => simp [intOf]; omega
          · have hyes := bitTest_yes hx hb
            have HE : Hid (bits BinOp.xor IntKind.u32 ((x : Int) / 2) 3988292384 = ((bitIter s[k].toNat (j + 1) r : Nat) : Int)) := by
              show _ = ((bitStep _ _ : Nat) : Int)
              rw [← HXX.out]; unfold bitStep; rw [if_pos (by omega)]
              rw [show ((x : Int) / 2) = ((x / 2 : Nat) : Int) from by omega]; exact xorN _ _ (by omega) (by decide)
            have HL : bitIter s[k].toNat (j + 1) r < 4294967296 := bitIter_lt hr _
            clear hb
            go_wp2
            go_round
            case rel => exact ⟨j + 1, _, by omega, by go_num, by rw [HE.out], HL, rfl⟩
            case measure => simp [intOf]; omega
        · go_wp2
          go_round
          case rel => exact ⟨k + 1, x, by omega, by go_num, rfl, hx, bit_end hlt HT.out HXX.out hj hj8⟩
          case measure => simp [intOf]; omega
    · go_wp2
      go_ret
      exact ⟨ret_int (crc_out HR.out hr hk hlt), rfl⟩

theorem numS_nil : (0 : Int) = numS [] := by simp [numS, be, wrap64]
theorem num_step {s : ByteArray} {k : Nat} (hlt : k < s.size) : numS (s.data.toList.take (k + 1)) = wrap64 (numS (s.data.toList.take k) * 256 + (s[k].toNat : Nat)) := by
  have h := List.take_succ_eq_append_getElem (l := s.data.toList) (i := k) (by simpa using hlt)
  unfold numS
  rw [h, be_snoc, wrap_mul, Int.natCast_add, Int.natCast_mul]; rfl
theorem num_end {s : ByteArray} {k : Nat} (hk : k ≤ s.size) (hlt : ¬ k < s.size) : s.data.toList.take k = s.data.toList := List.take_of_length_le (by simp; omega)

set_option maxHeartbeats 400000 in
theorem number_any (s : ByteArray) (w : World) (hs : s.size ≤ maxLen) :
    Calls Tryz.prog 128 #[.string s] w fun e w' => e = .returned (.int .i64 (numS s.data.toList)) ∧ w = w' := by
  unfold maxLen at hs
  go_enter Tryz.func128, Tryz.ntmps128
  go_wp2
  go_loop [3, 4, 7] (fun n _ i => ∃ (k : Nat) (r : Int), k ≤ s.size ∧ i = .int .i64 k ∧ n = .int .i64 r ∧ Hid (r = numS (s.data.toList.take k))) (fun _ _ i => s.size - (intOf i).toNat)
  case atStart => exact ⟨0, 0, Nat.zero_le _, rfl, rfl, numS_nil⟩
  case round =>
    obtain ⟨k, r, hk, rfl, rfl, HR⟩ := hrel
    by_cases hlt : k < s.size
    · have HE : Hid (bits BinOp.or IntKind.i64 (wrap64 (r * 256)) (wrap64 (s[k].toNat : Int)) = numS (s.data.toList.take (k + 1))) := by
        unfold Hid; rw [or64 _ _ (UInt8.toNat_lt _), num_step hlt, HR.out]
      go_wp2
      go_round
      case rel => exact ⟨k + 1, _, by omega, by go_num, by rw [HE.out], rfl⟩
      case measure => simp [intOf]; omega
    · go_wp2
      go_ret
      exact ⟨ret_int (by rw [HR.out, num_end hk hlt]), rfl⟩

theorem new_any (s : ByteArray) (w : World) :
    Calls Tryz.prog 101 #[.string s] w fun e w' => e = .returned (.pointer (some ⟨w.heap.size, 0, none⟩)) ∧ w' = w.alloc (.cells #[.string s, .int .i64 0, .int .i64 0] 167) := by
  go_enter Tryz.func101, Tryz.ntmps101
  go_wp2
  go_ret
  exact ⟨rfl, rfl⟩

end Go.Proofs.YtjippoejaieneaaGreat.Cd

/- The forms of numbers and texts, by the code and by the document's answer: what each call returns; nothing that was there turns. Conditions: an int is within 64 bits, a string's bytes are at most maxLen. -/
namespace Go.Proofs.YtjippoejaieneaaGreat.Cd
open Go.RowKit
set_option maxRecDepth 20000

theorem Tryz.info5 : (Tryz.prog.info? 5).map (fun i => (i.zero, i.size, i.bytes)) = some (some (.int .u8 0), 1, 1) := by kernel_rfl

theorem block_lt {w : World} {b : Nat} {o : Obj} (h : w.heap[b]? = some o) : b < w.heap.size := by
  rcases Nat.lt_or_ge b w.heap.size with h' | h'
  · exact h'
  · simp [Array.getElem?_eq_none h'] at h
theorem block_setCell {w : World} {b o : Nat} {C : Array Value} {t : TypeId} {fr : Nat × Nat} {u : Value} (h : w.heap[b]? = some (.cells C t fr)) :
    (w.setCell ⟨b, o, none⟩ u).heap[b]? = some (.cells (C.setIfInBounds o u) t fr) := by
  have hlt := block_lt h
  have h' : w.heap[b] = .cells C t fr := by simpa [Array.getElem?_eq_getElem hlt] using h
  show (w.heap.modify b _)[b]? = _
  rw [Array.getElem?_eq_getElem (by simpa using hlt), Array.getElem_modify_self, h']
  rfl
theorem block_free {w : World} {b o : Nat} {C : Array Value} {t : TypeId} (h : w.heap[b]? = some (.cells C t (0, 0))) : w.frozen? ⟨b, o, none⟩ = false := by simp [World.frozen?, h]
theorem addr_add (b i : Nat) : (⟨b, 0, none⟩ : Addr).add i = ⟨b, i, none⟩ := by unfold Addr.add; split <;> simp_all
theorem block_new (w : World) (o : Obj) : (w.alloc o).heap[w.heap.size]? = some o := by
  show (w.heap.push o)[w.heap.size]? = _
  simp

def cellU (b : UInt8) : Value := .int .u8 (b.toNat : Int)
/-- what stands in the new row when d bytes are still to come -/
def rowC (n : Int) (d j : Nat) : Array Value := ((List.replicate d (0 : UInt8) ++ putS n j).map cellU).toArray
theorem rowC_at (n : Int) (d j : Nat) : (rowC n (d + 1) j)[d]? = some (.int .u8 0) := by
  unfold rowC
  rw [List.getElem?_toArray, List.getElem?_map, List.getElem?_append_left (by simp), List.getElem?_replicate, if_pos (by omega)]; rfl
theorem rowC_set (n : Int) (d j : Nat) : (rowC n (d + 1) j).setIfInBounds d (cellU (byteOf (n / 256 ^ j))) = rowC n d (j + 1) := by
  unfold rowC
  rw [List.setIfInBounds_toArray]
  congr 1
  rw [← List.map_set]
  congr 1
  rw [List.set_append_left _ _ (by simp), show d + 1 = d + 1 from rfl, List.replicate_succ', List.set_append_right _ _ (by simp)]
  simp [putS]
theorem rowC_made (n : Int) (m : Nat) : madeCells (Value.int .u8 0).cells (m * 1) = rowC n m 0 := by
  unfold rowC madeCells
  simp only [putS, List.append_nil, List.map_replicate]
  apply Array.ext
  · simp
  · intro i h1 h2
    simp [cellU, Value.cells, Nat.mod_one]
theorem rowC_done (n : Int) (m i : Nat) (h : i < m) : (rowC n 0 m)[i]? = some (.int .u8 (((putS n m)[i]'(by rw [putS_length]; exact h)).toNat : Int)) := by
  unfold rowC
  have hl : i < (putS n m).length := by rw [putS_length]; exact h
  simp [List.getElem?_eq_getElem hl, cellU]

theorem div_step (n : Int) (j : Nat) : n / 256 ^ j / 256 = n / 256 ^ (j + 1) := by
  have hp : (0 : Int) < 256 ^ j := Int.pow_pos (by decide)
  rw [Int.pow_succ, Int.ediv_ediv_of_nonneg (by omega)]
theorem ret_str {a b : List UInt8} (h : a = b) : Ending.returned (.string ⟨a.toArray⟩) = .returned (.string ⟨b.toArray⟩) := by rw [h]

set_option maxHeartbeats 400000 in
theorem put_any (n : Int) (m : Nat) (w : World) (hm : 1 ≤ m) (hm8 : m ≤ 8) :
    Calls Tryz.prog 121 #[.int .i64 n, .int .i64 (m : Int)] w fun e w' => e = .returned (.string ⟨(putS n m).toArray⟩) ∧ Below w.heap.size w w' := by
  have hw := isW_yes (n := m) (by omega) (by omega)
  obtain ⟨i0, hi, hz0, hz1, hz2⟩ := info_parts Tryz.info5
  have hmk := run_make (P := Tryz.prog) w 77 5 i0 _ Tryz.underlying77 hi hz0 .i64 .i64 (m : Int) (m : Int) (by omega) (by omega) (by rw [hz2]; omega) (by omega)
  rw [hz1, Int.toNat_natCast, rowC_made n] at hmk
  obtain ⟨B, hB⟩ : ∃ B, B = w.heap.size := ⟨_, rfl⟩
  have HB := Lib.hid hB
  clear hi hz0 hz1 hz2 hB
  go_enter Tryz.func121, Tryz.ntmps121
  go_wp2_with (go_at_call 127; refine (isWidth_any _ _).mono ?_; rintro e w' ⟨rfl, rfl⟩)
  rw [← HB.out]
  go_loopw [0, 6] (fun x i wr => ∃ (d j : Nat) (y : Int), j + d = m ∧ i = .int .i64 ((d : Int) - 1) ∧ x = .int .i64 y ∧ Hid (y = n / 256 ^ j) ∧ wr.heap[B]? = some (.cells (rowC n d j) 5 (0, 0)) ∧ Below B w wr) (fun _ i _ => (intOf i + 1).toNat)
  case atStart => exact ⟨m, 0, n, by omega, rfl, rfl, by unfold Hid; simp, by rw [HB.out]; exact block_new _ _, by rw [HB.out]; exact (Below.refl _ _).alloc (Nat.le_refl _) _⟩
  case round =>
    obtain ⟨d, j, y, hdj, rfl, rfl, HY, hrow, hbel⟩ := hrel
    by_cases hd : 1 ≤ d
    · have hcell : wr.cell? ⟨B, d - 1, none⟩ = some (.int .u8 0) := by
        rw [cell_of_row wr B (d - 1) _ _ _ hrow]
        have := rowC_at n (d - 1) j
        rwa [show d - 1 + 1 = d by omega] at this
      have hfree : wr.frozen? ⟨B, d - 1, none⟩ = false := block_free hrow
      have HR := Lib.hid hrow
      clear hrow
      go_wp2
      go_roundw
      case rel =>
        refine ⟨d - 1, j + 1, _, by omega, by go_num, rfl, ?_, ?_, ?_⟩
        · rw [HY.out]; exact div_step n j
        · rw [block_setCell HR.out]
          have := rowC_set n (d - 1) j
          rw [show d - 1 + 1 = d by omega] at this
          rw [← this, cellU, byteOf_toNat, HY.out]
        · exact hbel.setCell (by rw [HB.out]; exact Nat.le_refl _) _
      case measure => simp [intOf]; omega
    · have hj : j = m := by omega
      have hd0 : d = 0 := by omega
      subst hd0
      have hcv := run_convert_bytes_back (P := Tryz.prog) wr 77 9 5 ⟨B, 0, none⟩ m (putS n m) Tryz.underlying77 Tryz.underlying5 Tryz.underlying9 (fun i hi => by
        rw [putS_length] at hi
        rw [addr_add, cell_of_row wr B i _ _ _ hrow, hj]
        exact rowC_done n m i hi)
      rw [putS_length] at hcv
      clear hrow hdj
      have HJ := Lib.hid hj
      clear hj
      go_wp2
      go_ret
      exact ⟨rfl, by rw [← HB.out]; exact hbel⟩

theorem put_none (n m : Int) (w : World) (hm : ¬ (1 ≤ m ∧ m ≤ 8)) :
    Calls Tryz.prog 121 #[.int .i64 n, .int .i64 m] w fun e w' => e = .returned (.string ⟨#[]⟩) ∧ w = w' := by
  have hw := isW_no hm
  go_enter Tryz.func121, Tryz.ntmps121
  go_wp2_with (go_at_call 127; refine (isWidth_any _ _).mono ?_; rintro e w' ⟨rfl, rfl⟩)
  go_ret
  exact ⟨rfl, rfl⟩

theorem put_int (n m : Int) (w : World) (hm : 1 ≤ m) (hm8 : m ≤ 8) :
    Calls Tryz.prog 121 #[.int .i64 n, .int .i64 m] w fun e w' => e = .returned (.string ⟨(putS n m.toNat).toArray⟩) ∧ Below w.heap.size w w' := by
  obtain ⟨k, rfl⟩ := Int.eq_ofNat_of_zero_le (show 0 ≤ m by omega)
  exact put_any n k w (by omega) (by omega)
end Go.Proofs.YtjippoejaieneaaGreat.Cd

/- A reader of the code in memory, and what its one generic function does, at numbers and at texts: what is answered, where the reader then stands, its fault; of all else that was there nothing turns. Conditions: it stands within its bytes, which are at most maxLen. -/
namespace Go.Proofs.YtjippoejaieneaaGreat.Cd
open Go.RowKit
set_option maxRecDepth 20000

/-- a scope whose gotos go forward to one label, behind which none stands -/
theorem wp_scope_once {P : Program} {a : Act} {w : World} {Q : Exit → Act → World → Prop} {c rest : Code} (l : Nat) (hf : findLabel c l = some rest)
    (h : c.wp P (Exit.jump l (fun a w => rest.wp P (Exit.noGoto Q) a w) Q) a w) : (Code.scope c).wp P Q a w :=
  wp_scope_jumps l _ (fun _ _ => 0) hf h fun _ _ hJ => wp_mono hJ fun e _ _ hq => by
    cases e with
    | goto l' => exact hq.elim
    | _ => exact hq

/-- a reader in memory: its bytes, its place, its fault -/
def Rdr (w : World) (b : Nat) (s : ByteArray) (p : Nat) (e : Int) : Prop := w.heap[b]? = some (.cells #[.string s, .int .i64 (p : Int), .int .i64 e] 167 (0, 0))

theorem Rdr.c0 {w : World} {b : Nat} {s : ByteArray} {p : Nat} {e : Int} (h : Rdr w b s p e) : w.cell? ⟨b, 0, none⟩ = some (.string s) := by rw [cell_of_row w b 0 _ _ _ h]; rfl
theorem Rdr.c1 {w : World} {b : Nat} {s : ByteArray} {p : Nat} {e : Int} (h : Rdr w b s p e) : w.cell? ⟨b, 1, none⟩ = some (.int .i64 (p : Int)) := by rw [cell_of_row w b 1 _ _ _ h]; rfl
theorem Rdr.c2 {w : World} {b : Nat} {s : ByteArray} {p : Nat} {e : Int} (h : Rdr w b s p e) : w.cell? ⟨b, 2, none⟩ = some (.int .i64 e) := by rw [cell_of_row w b 2 _ _ _ h]; rfl
theorem Rdr.f1 {w : World} {b : Nat} {s : ByteArray} {p : Nat} {e : Int} (h : Rdr w b s p e) : w.frozen? ⟨b, 1, none⟩ = false := block_free h
theorem Rdr.f2 {w : World} {b : Nat} {s : ByteArray} {p : Nat} {e : Int} (h : Rdr w b s p e) : w.frozen? ⟨b, 2, none⟩ = false := block_free h
theorem Rdr.lt {w : World} {b : Nat} {s : ByteArray} {p : Nat} {e : Int} (h : Rdr w b s p e) : b < w.heap.size := block_lt h


theorem Rdr.alloc {w : World} {b : Nat} {s : ByteArray} {p : Nat} {e : Int} (h : Rdr w b s p e) (o : Obj) : Rdr (w.alloc o) b s p e := by
  unfold Rdr
  rw [Below.heap_alloc _ _ _ h.lt]; exact h
theorem Rdr.drewN {w : World} {b : Nat} {s : ByteArray} {p : Nat} {e : Int} (h : Rdr w b s p e) (n : Nat) : Rdr (w.drewN n) b s p e := h
theorem Rdr.set1 {w : World} {b : Nat} {s : ByteArray} {p : Nat} {e : Int} (h : Rdr w b s p e) (q : Nat) : Rdr (w.setCell ⟨b, 1, none⟩ (.int .i64 (q : Int))) b s q e := by
  unfold Rdr; rw [block_setCell h]; rfl
theorem Rdr.set2 {w : World} {b : Nat} {s : ByteArray} {p : Nat} {e : Int} (h : Rdr w b s p e) (x : Int) : Rdr (w.setCell ⟨b, 2, none⟩ (.int .i64 x)) b s p x := by
  unfold Rdr; rw [block_setCell h]; rfl
theorem Rdr.kept {w w' : World} {b : Nat} {s : ByteArray} {p : Nat} {e : Int} (h : Rdr w b s p e) {row : Option Nat} (hg : w.grownBy w' row) (hb : some b ≠ row) : Rdr w' b s p e := by
  unfold Rdr
  rw [hg.block b h.lt hb]; exact h
theorem Rdr.below {w w' : World} {b : Nat} {s : ByteArray} {p : Nat} {e : Int} (h : Rdr w b s p e) (hb : Below w.heap.size w w') : Rdr w' b s p e := by
  unfold Rdr
  rw [hb.block b h.lt]; exact h

theorem gr_refl (w : World) (row : Option Nat) : w.grownBy w row := ⟨rfl, rfl, rfl, Nat.le_refl _, fun _ _ _ => rfl⟩
theorem gr_trans {a b c : World} {row : Option Nat} (h : a.grownBy b row) (k : b.grownBy c row) : a.grownBy c row :=
  ⟨k.os.trans h.os, k.tape.trans h.tape, k.output.trans h.output, Nat.le_trans h.size k.size, fun i hi hn => (k.block i (Nat.lt_of_lt_of_le hi h.size) hn).trans (h.block i hi hn)⟩
theorem gr_drewN {a w : World} {row : Option Nat} (h : a.grownBy w row) (n : Nat) : a.grownBy (w.drewN n) row := ⟨h.os, h.tape, h.output, h.size, h.block⟩
theorem gr_drew {a w : World} {row : Option Nat} (h : a.grownBy w row) : a.grownBy w.drew row := ⟨h.os, h.tape, h.output, h.size, h.block⟩
theorem gr_alloc {a w : World} {row : Option Nat} (h : a.grownBy w row) (o : Obj) : a.grownBy (w.alloc o) row := gr_trans h (World.grownBy_alloc w o row)
theorem gr_set {a w : World} {g : Nat} (h : a.grownBy w (some g)) (o : Nat) (u : Value) : a.grownBy (w.setCell ⟨g, o, none⟩ u) (some g) :=
  gr_trans h ⟨rfl, rfl, rfl, by simp [World.setCell], fun i _ hn => Below.heap_setCell w _ u i (fun e => hn (by rw [e]))⟩
theorem gr_below {a w : World} (h : Below a.heap.size a w) (row : Option Nat) : a.grownBy w row := ⟨h.os, h.tape, h.output, h.size, fun i hi _ => h.block i hi⟩


theorem ext_ext (s : ByteArray) (p a c : Nat) (_hc : c ≤ s.size - p) (hp : p ≤ s.size) : (s.extract p s.size).extract a c = s.extract (p + a) (p + c) := by
  rw [ByteArray.extract_extract]
  congr 1
  omega
theorem ext_size (s : ByteArray) (a c : Nat) (h : c ≤ s.size) : (s.extract a c).size = c - a := by
  rw [ByteArray.size_extract]; omega
theorem ext_list (s : ByteArray) (p m : Nat) : (s.extract p (p + m)).data.toList = (s.data.toList.drop p).take m := by
  simp [ByteArray.data_extract]

theorem sclone_any (s : ByteArray) (w : World) (hlim : s.size ≤ 281474976710656) :
    Calls Tryz.prog 160 #[.string s] w fun e w' => e = .returned (.string s) ∧ Below w.heap.size w w' := by
  by_cases h0 : s.size = 0
  · have hs : s = ⟨#[]⟩ := ByteArray.ext (Array.eq_empty_of_size_eq_zero h0)
    subst hs
    go_enter Tryz.func160, Tryz.ntmps160
    go_wp2
    go_ret
    exact ⟨rfl, Below.refl _ _⟩
  · obtain ⟨i0, hi, hz0, hz1, hz2⟩ := info_parts Tryz.info5
    have hinfo : (Tryz.prog.info? 5).map (·.size) = some 1 := by rw [hi]; simp [hz1]
    have hco : Tryz.prog.cellsOf 5 = 1 := by kernel_rfl
    obtain ⟨M, hM⟩ : ∃ M, M = madeCells (Value.int .u8 0).cells (((s.size : Nat) : Int).toNat * i0.size) := ⟨_, rfl⟩
    have hMs : M.size = s.size := by rw [hM, size_madeCells, hz1]; simp
    have hmk := run_make (P := Tryz.prog) w 77 5 i0 _ Tryz.underlying77 hi hz0 .i64 .i64 (s.size : Int) (s.size : Int) (by omega) (by omega) (by rw [hz2]; omega) (by omega)
    rw [← hM] at hmk
    simp only [Int.toNat_natCast] at hmk
    clear hM
    have hcp := Lib.run_copy_row_string (P := Tryz.prog) (w.alloc (.cells M 5)) 77 9 3 5 w.heap.size 0 s.size s.size s M 5 Tryz.underlying77 hinfo (block_new w _) (Nat.le_refl _) (by omega)
    obtain ⟨Y, hY⟩ : ∃ Y, Y = (M.toList.take 0 ++ Lib.byteCells s.data.toList ++ M.toList.drop (0 + s.size)).toArray := ⟨_, rfl⟩
    rw [← hY] at hcp
    have hYl : Y.toList = Lib.byteCells s.data.toList := by
      rw [hY, List.toList_toArray, List.take_zero, List.nil_append, List.drop_of_length_le (by rw [Array.length_toList]; omega), List.append_nil]
    have hYs : Y.size = s.size := by rw [← Array.length_toList, hYl, Lib.byteCells_length, ← Lib.size_eq]
    have hgY : ((w.alloc (.cells M 5)).setRow w.heap.size Y).heap[w.heap.size]? = some (.cells Y 5 (0, 0)) := setRow_heap _ _ M _ 5 (0, 0) (block_new w _)
    have hne : s.data.toList ≠ [] := fun e => h0 (by rw [Lib.size_eq, e]; rfl)
    have hUS := Lib.run_unsafeString_row (P := Tryz.prog) ((w.alloc (.cells M 5)).setRow w.heap.size Y) 200 3 9 5 Tryz.underlying200 hco w.heap.size Y.size (by unfold World.shape?; rw [hgY]) s.data.toList hne (by rw [← Lib.size_eq]; omega) (by rw [← Lib.size_eq]; omega)
      (fun j x hx => Lib.cells_of_row hgY Y.size j _ (by rw [List.take_of_length_le (by rw [Array.length_toList]; exact Nat.le_refl _), hYl]; simp [Lib.byteCells, hx]))
    rw [← Lib.size_eq] at hUS
    clear hY
    go_enter Tryz.func160, Tryz.ntmps160
    go_wp2
    go_ret
    have hb1 : Below w.heap.size w (w.alloc (.cells M 5)) := (Below.refl _ w).alloc (Nat.le_refl _) _
    have hb2 : Below w.heap.size (w.alloc (.cells M 5)) ((w.alloc (.cells M 5)).setRow w.heap.size Y) := ⟨rfl, rfl, rfl, by simp, fun k hk => setRow_other _ _ _ _ (by omega)⟩
    exact ⟨rfl, Lib.below_freeze (hb1.trans hb2) (p := ⟨w.heap.size, 0, none⟩) (Nat.le_refl _) _⟩

theorem clone_str (s : ByteArray) (w : World) (hlim : s.size ≤ 281474976710656) :
    Calls Tryz.prog 153 #[.string s] w fun e w' => e = .returned (.string s) ∧ Below w.heap.size w w' := by
  go_enter Tryz.func153, Tryz.ntmps153
  go_wp2_with (go_at_call 160; refine (sclone_any _ _ hlim).mono ?_; rintro e w1 ⟨rfl, hb⟩)
  go_ret
  exact ⟨rfl, hb⟩


end Go.Proofs.YtjippoejaieneaaGreat.Cd

/- What the code's one generic reading function does, at numbers and at texts, way by way: what is answered, where the reader then stands, its fault; of all else that was there nothing turns. Conditions: it stands within its bytes, which are at most 2^48. -/
namespace Go.Proofs.YtjippoejaieneaaGreat.Cd
open Go.RowKit
set_option maxRecDepth 20000
set_option linter.unusedVariables false

set_option maxHeartbeats 800000 in
theorem readn_was (w : World) (b : Nat) (s : ByteArray) (p : Nat) (e hd most : Int) (wide : Bool) (f : Value) (he : (e != 0) = true) (h : Rdr w b s p e) (hp : p ≤ s.size) (hs : s.size ≤ 281474976710656) :
    Calls Tryz.prog 126 #[.pointer (some ⟨b, 0, none⟩), .agg #[.int .i64 hd, .int .i64 most, .bool wide], f] w fun x w' => x = .returned (.int .i64 0) ∧ Rdr w' b s p e ∧ w.grownBy w' (some b) := by
  have h0 := h.c0
  have h1 := h.c1
  have h2 := h.c2
  have f1 := h.f1
  have f2 := h.f2
  have hlt := h.lt
  have H := Lib.hid h
  clear h
  go_enter Tryz.func126, Tryz.ntmps126
  go_wp2_with fail
  refine wp_scope_once 0 rfl ?_
  go_wp2_with fail
  go_quiet (fail)
  go_wp2
  go_step3
  refine ⟨rfl, ?_⟩
  go_wp2
  rw [Exit.noGoto_ret]
  go_ret
  exact ⟨rfl, ((H.out.alloc _).drewN _).set2 _, gr_set (gr_drewN (gr_alloc (gr_refl _ _) _) _) _ _⟩

set_option maxHeartbeats 800000 in
theorem readn_wide (w : World) (b : Nat) (s : ByteArray) (p : Nat) (hd most : Int) (f : Value) (h : Rdr w b s p 0) (hp : p ≤ s.size) (hs : s.size ≤ 281474976710656) :
    Calls Tryz.prog 126 #[.pointer (some ⟨b, 0, none⟩), .agg #[.int .i64 hd, .int .i64 most, .bool true], f] w fun x w' => x = .returned (.int .i64 0) ∧ Rdr w' b s p 13 ∧ w.grownBy w' (some b) := by
  have h0 := h.c0
  have h1 := h.c1
  have h2 := h.c2
  have f1 := h.f1
  have f2 := h.f2
  have hlt := h.lt
  have H := Lib.hid h
  clear h
  go_enter Tryz.func126, Tryz.ntmps126
  go_wp2_with fail
  refine wp_scope_once 0 rfl ?_
  go_wp2_with fail
  go_quiet (fail)
  go_wp2
  go_step3
  refine ⟨rfl, ?_⟩
  go_wp2
  rw [Exit.noGoto_ret]
  go_ret
  exact ⟨rfl, ((H.out.alloc _).drewN _).set2 _, gr_set (gr_drewN (gr_alloc (gr_refl _ _) _) _) _ _⟩

set_option maxHeartbeats 800000 in
theorem readn_end (w : World) (b : Nat) (s : ByteArray) (p : Nat) (most : Int) (f : Value) (hm : ((s.size - p : Nat) : Int) < most) (h : Rdr w b s p 0) (hp : p ≤ s.size) (hs : s.size ≤ 281474976710656) :
    Calls Tryz.prog 126 #[.pointer (some ⟨b, 0, none⟩), .agg #[.int .i64 0, .int .i64 most, .bool false], f] w fun x w' => x = .returned (.int .i64 0) ∧ Rdr w' b s p 10 ∧ w.grownBy w' (some b) := by
  have h0 := h.c0
  have h1 := h.c1
  have h2 := h.c2
  have f1 := h.f1
  have f2 := h.f2
  have hlt := h.lt
  have H := Lib.hid h
  clear h
  go_enter Tryz.func126, Tryz.ntmps126
  go_wp2_with fail
  refine wp_scope_once 0 rfl ?_
  go_wp2_with fail
  go_quiet (fail)
  go_wp2
  go_step3
  refine ⟨rfl, ?_⟩
  go_wp2
  rw [Exit.noGoto_ret]
  go_ret
  exact ⟨rfl, ((H.out.alloc _).drewN _).set2 _, gr_set (gr_drewN (gr_alloc (gr_refl _ _) _) _) _ _⟩

set_option maxHeartbeats 800000 in
theorem readn_ok (w : World) (b : Nat) (s : ByteArray) (p : Nat) (m : Nat) (hm : m ≤ s.size - p) (h : Rdr w b s p 0) (hp : p ≤ s.size) (hs : s.size ≤ 281474976710656) :
    Calls Tryz.prog 126 #[.pointer (some ⟨b, 0, none⟩), .agg #[.int .i64 0, .int .i64 (m : Int), .bool false], .func (.func 128) #[] #[]] w fun x w' => x = .returned (.int .i64 (numS ((s.data.toList.drop p).take m))) ∧ Rdr w' b s (p + m : Nat) 0 ∧ w.grownBy w' (some b) := by
  have h0 := h.c0
  have h1 := h.c1
  have h2 := h.c2
  have f1 := h.f1
  have f2 := h.f2
  have hlt := h.lt
  have H := Lib.hid h
  have HX := Lib.hid (ext_ext s p 0 m hm hp)
  have HL := Lib.hid (ext_list s p m)
  have HS : Hid ((s.extract p (p + m)).size ≤ maxLen) := by
    unfold Hid; rw [ext_size _ _ _ (by omega)]; unfold maxLen; omega
  clear h
  go_enter Tryz.func126, Tryz.ntmps126
  go_wp2_with fail
  refine wp_scope_once 0 rfl ?_
  go_wp2_with fail
  go_quiet (fail)
  go_wp2_with (go_at_call 128; rw [HX.out, Nat.add_zero]; refine (number_any _ _ HS.out).mono ?_; rintro e w' ⟨rfl, rfl⟩)
  go_region
  go_wp2
  go_step3
  go_wp2
  simp only [Exit.jump]
  go_ret
  exact ⟨by rw [← HL.out]; rfl, (((H.out.alloc _).drewN _).set1 (p + m)).set2 _, gr_set (gr_set (gr_drewN (gr_alloc (gr_refl _ _) _) _) _ _) _ _⟩

set_option maxHeartbeats 800000 in
theorem reads_was (w : World) (b : Nat) (s : ByteArray) (p : Nat) (e hd most : Int) (wide : Bool) (f : Value) (he : (e != 0) = true) (h : Rdr w b s p e) (hp : p ≤ s.size) (hs : s.size ≤ 281474976710656) :
    Calls Tryz.prog 158 #[.pointer (some ⟨b, 0, none⟩), .agg #[.int .i64 hd, .int .i64 most, .bool wide], f] w fun x w' => x = .returned (.string ⟨#[]⟩) ∧ Rdr w' b s p e ∧ w.grownBy w' (some b) := by
  have h0 := h.c0
  have h1 := h.c1
  have h2 := h.c2
  have f1 := h.f1
  have f2 := h.f2
  have hlt := h.lt
  have H := Lib.hid h
  clear h
  go_enter Tryz.func158, Tryz.ntmps158
  go_wp2_with fail
  refine wp_scope_once 0 rfl ?_
  go_wp2_with fail
  go_quiet (fail)
  go_wp2
  go_step3
  refine ⟨rfl, ?_⟩
  go_wp2
  rw [Exit.noGoto_ret]
  go_ret
  exact ⟨rfl, ((H.out.alloc _).drewN _).set2 _, gr_set (gr_drewN (gr_alloc (gr_refl _ _) _) _) _ _⟩

set_option maxHeartbeats 800000 in
theorem reads_wide (w : World) (b : Nat) (s : ByteArray) (p : Nat) (hd most : Int) (f : Value) (h : Rdr w b s p 0) (hp : p ≤ s.size) (hs : s.size ≤ 281474976710656) :
    Calls Tryz.prog 158 #[.pointer (some ⟨b, 0, none⟩), .agg #[.int .i64 hd, .int .i64 most, .bool true], f] w fun x w' => x = .returned (.string ⟨#[]⟩) ∧ Rdr w' b s p 13 ∧ w.grownBy w' (some b) := by
  have h0 := h.c0
  have h1 := h.c1
  have h2 := h.c2
  have f1 := h.f1
  have f2 := h.f2
  have hlt := h.lt
  have H := Lib.hid h
  clear h
  go_enter Tryz.func158, Tryz.ntmps158
  go_wp2_with fail
  refine wp_scope_once 0 rfl ?_
  go_wp2_with fail
  go_quiet (fail)
  go_wp2
  go_step3
  refine ⟨rfl, ?_⟩
  go_wp2
  rw [Exit.noGoto_ret]
  go_ret
  exact ⟨rfl, ((H.out.alloc _).drewN _).set2 _, gr_set (gr_drewN (gr_alloc (gr_refl _ _) _) _) _ _⟩

set_option maxHeartbeats 800000 in
theorem reads_end (w : World) (b : Nat) (s : ByteArray) (p : Nat) (most : Int) (f : Value) (hm : ((s.size - p : Nat) : Int) < most) (h : Rdr w b s p 0) (hp : p ≤ s.size) (hs : s.size ≤ 281474976710656) :
    Calls Tryz.prog 158 #[.pointer (some ⟨b, 0, none⟩), .agg #[.int .i64 0, .int .i64 most, .bool false], f] w fun x w' => x = .returned (.string ⟨#[]⟩) ∧ Rdr w' b s p 10 ∧ w.grownBy w' (some b) := by
  have h0 := h.c0
  have h1 := h.c1
  have h2 := h.c2
  have f1 := h.f1
  have f2 := h.f2
  have hlt := h.lt
  have H := Lib.hid h
  clear h
  go_enter Tryz.func158, Tryz.ntmps158
  go_wp2_with fail
  refine wp_scope_once 0 rfl ?_
  go_wp2_with fail
  go_quiet (fail)
  go_wp2
  go_step3
  refine ⟨rfl, ?_⟩
  go_wp2
  rw [Exit.noGoto_ret]
  go_ret
  exact ⟨rfl, ((H.out.alloc _).drewN _).set2 _, gr_set (gr_drewN (gr_alloc (gr_refl _ _) _) _) _ _⟩

set_option maxHeartbeats 800000 in
theorem reads_end2 (w : World) (b : Nat) (s : ByteArray) (p : Nat) (most : Int) (f : Value) (hm : s.size - p < 2) (h : Rdr w b s p 0) (hp : p ≤ s.size) (hs : s.size ≤ 281474976710656) :
    Calls Tryz.prog 158 #[.pointer (some ⟨b, 0, none⟩), .agg #[.int .i64 2, .int .i64 most, .bool false], f] w fun x w' => x = .returned (.string ⟨#[]⟩) ∧ Rdr w' b s p 10 ∧ w.grownBy w' (some b) := by
  have h0 := h.c0
  have h1 := h.c1
  have h2 := h.c2
  have f1 := h.f1
  have f2 := h.f2
  have hlt := h.lt
  have H := Lib.hid h
  clear h
  go_enter Tryz.func158, Tryz.ntmps158
  go_wp2_with fail
  refine wp_scope_once 0 rfl ?_
  go_wp2_with fail
  go_quiet (fail)
  go_wp2
  go_step3
  refine ⟨rfl, ?_⟩
  go_wp2
  rw [Exit.noGoto_ret]
  go_ret
  exact ⟨rfl, ((H.out.alloc _).drewN _).set2 _, gr_set (gr_drewN (gr_alloc (gr_refl _ _) _) _) _ _⟩

end Go.Proofs.YtjippoejaieneaaGreat.Cd

/- What the code's one generic reading function does, at numbers and at texts, way by way: what is answered, where the reader then stands, its fault; of all else that was there nothing turns. Conditions: it stands within its bytes, which are at most 2^48. -/
namespace Go.Proofs.YtjippoejaieneaaGreat.Cd
open Go.RowKit
set_option maxRecDepth 20000
set_option linter.unusedVariables false

set_option maxHeartbeats 800000 in
theorem bytes_ok (w : World) (b : Nat) (s : ByteArray) (p : Nat) (m : Nat) (hm : m ≤ s.size - p) (h : Rdr w b s p 0) (hp : p ≤ s.size) (hs : s.size ≤ 281474976710656) :
    Calls Tryz.prog 158 #[.pointer (some ⟨b, 0, none⟩), .agg #[.int .i64 0, .int .i64 (m : Int), .bool false], .func (.func 153) #[] #[]] w fun x w' => x = .returned (.string (s.extract p (p + m))) ∧ Rdr w' b s (p + m : Nat) 0 ∧ w.grownBy w' (some b) := by
  have h0 := h.c0
  have h1 := h.c1
  have h2 := h.c2
  have f1 := h.f1
  have f2 := h.f2
  have hlt := h.lt
  have H := Lib.hid h
  have HY := Lib.hid (ext_ext s p 0 m hm hp)
  have HZ : Hid ((s.extract (p + 0) (p + m)).size ≤ 281474976710656) := by
    unfold Hid; rw [ext_size _ _ _ (by omega)]; omega
  clear h
  go_enter Tryz.func158, Tryz.ntmps158
  go_wp2_with fail
  refine wp_scope_once 0 rfl ?_
  go_wp2_with fail
  go_quiet (fail)
  go_wp2_with (go_at_call 153; rw [HY.out]; refine (clone_str _ _ HZ.out).mono ?_; rintro e w1 ⟨rfl, hb⟩)
  have hb' : Below (w.heap.size + 1) ((w.alloc (.cells #[.int .i64 0, .int .i64 (m : Int), .bool false] 170)).drewN nq) w1 := by simpa using hb
  have g0 : w1.cell? ⟨w.heap.size, 0, none⟩ = some (.int .i64 0) := (hb'.cell (p := ⟨w.heap.size, 0, none⟩) (by simp)).trans (World.cell?_alloc_new w _ _ 0)
  have R1 : Rdr w1 b s p 0 := ((H.out.alloc (.cells #[.int .i64 0, .int .i64 (m : Int), .bool false] 170)).drewN nq).below hb
  have i1 := R1.c1
  have i2 := R1.c2
  have j1 := R1.f1
  have j2 := R1.f2
  have HR := Lib.hid R1
  have HB := Lib.hid hb
  clear hb hb' R1
  go_region
  go_wp2
  go_step3
  go_wp2
  simp only [Exit.jump]
  go_ret
  exact ⟨rfl, (((HR.out.drewN _).set1 _).set2 _), gr_set (gr_set (gr_drewN (gr_trans (gr_drewN (gr_alloc (gr_refl _ _) _) _) (gr_below HB.out _)) _) _ _) _ _⟩

end Go.Proofs.YtjippoejaieneaaGreat.Cd

/- The code's reader, call by call, in every state: what each call answers, where the reader then stands, its fault; of all else that was there nothing turns. Conditions: it stands within its bytes, which are at most 2^48. -/
namespace Go.Proofs.YtjippoejaieneaaGreat.Cd
open Go.RowKit
set_option maxRecDepth 20000
set_option linter.unusedVariables false

/-- what a number that is read is; where the reader then stands; its fault -/
def numR (s : ByteArray) (p : Nat) (e n : Int) : Int × Nat × Int :=
  if e ≠ 0 then (0, p, e) else if ¬ (1 ≤ n ∧ n ≤ 8) then (0, p, 13) else if ((s.size - p : Nat) : Int) < n then (0, p, 10)
  else (numS ((s.data.toList.drop p).take n.toNat), p + n.toNat, 0)
def bytesR (s : ByteArray) (p : Nat) (e n : Int) : ByteArray × Nat × Int :=
  if e ≠ 0 then (⟨#[]⟩, p, e) else if n < 0 then (⟨#[]⟩, p, 13) else if ((s.size - p : Nat) : Int) < n then (⟨#[]⟩, p, 10)
  else (s.extract p (p + n.toNat), p + n.toNat, 0)
theorem ret_i {a b : Int} (h : a = b) : Ending.returned (.int .i64 a) = .returned (.int .i64 b) := by rw [h]

def Reads (w : World) (b : Nat) (s : ByteArray) (v : Value) (p : Nat) (e : Int) (x : Ending) (w' : World) : Prop := x = .returned v ∧ Rdr w' b s p e ∧ w.grownBy w' (some b)

theorem num_any (w : World) (b : Nat) (s : ByteArray) (p : Nat) (e n : Int) (h : Rdr w b s p e) (hp : p ≤ s.size) (hs : s.size ≤ 281474976710656) :
    Calls Tryz.prog 102 #[.pointer (some ⟨b, 0, none⟩), .int .i64 n] w (Reads w b s (.int .i64 (numR s p e n).1) (numR s p e n).2.1 (numR s p e n).2.2) := by
  by_cases he : e ≠ 0
  · have hv : numR s p e n = (0, p, e) := if_pos he
    rw [hv]
    have HE := Lib.hid (bne_iff_ne.2 he)
    clear hv he
    go_enter Tryz.func102, Tryz.ntmps102
    go_wp2_with (first | (go_at_call 127; refine (isWidth_any _ _).mono ?_; rintro e w' ⟨rfl, rfl⟩) | (go_at_call 126; refine (readn_was _ _ _ _ _ _ _ _ _ HE.out h hp hs).mono ?_; rintro e w1 ⟨rfl, hr, hg⟩))
    go_ret
    exact ⟨rfl, hr, hg⟩
  · have he' : e = 0 := by omega
    subst he'
    by_cases hw : 1 ≤ n ∧ n ≤ 8
    · have hw2 := isW_yes hw.1 hw.2
      by_cases hm : ((s.size - p : Nat) : Int) < n
      · have hv : numR s p 0 n = (0, p, 10) := by unfold numR; rw [if_neg he, if_neg (by omega), if_pos hm]
        rw [hv]
        clear hv
        go_enter Tryz.func102, Tryz.ntmps102
        go_wp2_with (first | (go_at_call 127; refine (isWidth_any _ _).mono ?_; rintro e w' ⟨rfl, rfl⟩) | (go_at_call 126; refine (readn_end _ _ _ _ _ _ hm h hp hs).mono ?_; rintro e w1 ⟨rfl, hr, hg⟩))
        go_ret
        exact ⟨rfl, hr, hg⟩
      · have hv : numR s p 0 n = (numS ((s.data.toList.drop p).take n.toNat), p + n.toNat, 0) := by unfold numR; rw [if_neg he, if_neg (by omega), if_neg hm]
        rw [hv]
        clear hv
        obtain ⟨m, rfl⟩ := Int.eq_ofNat_of_zero_le (show 0 ≤ n by omega)
        rw [Int.toNat_natCast]
        go_enter Tryz.func102, Tryz.ntmps102
        go_wp2_with (first | (go_at_call 127; refine (isWidth_any _ _).mono ?_; rintro e w' ⟨rfl, rfl⟩) | (go_at_call 126; refine (readn_ok _ _ _ _ _ (by omega) h hp hs).mono ?_; rintro e w1 ⟨rfl, hr, hg⟩))
        go_ret
        exact ⟨rfl, hr, hg⟩
    · have hw2 := isW_no hw
      have hv : numR s p 0 n = (0, p, 13) := by unfold numR; rw [if_neg he, if_pos hw]
      rw [hv]
      clear hv
      go_enter Tryz.func102, Tryz.ntmps102
      go_wp2_with (first | (go_at_call 127; refine (isWidth_any _ _).mono ?_; rintro e w' ⟨rfl, rfl⟩) | (go_at_call 126; refine (readn_wide _ _ _ _ _ _ _ h hp hs).mono ?_; rintro e w1 ⟨rfl, hr, hg⟩))
      go_ret
      exact ⟨rfl, hr, hg⟩

theorem bytes_any (w : World) (b : Nat) (s : ByteArray) (p : Nat) (e n : Int) (h : Rdr w b s p e) (hp : p ≤ s.size) (hs : s.size ≤ 281474976710656) :
    Calls Tryz.prog 150 #[.pointer (some ⟨b, 0, none⟩), .int .i64 n] w (Reads w b s (.string (bytesR s p e n).1) (bytesR s p e n).2.1 (bytesR s p e n).2.2) := by
  by_cases he : e ≠ 0
  · have hv : bytesR s p e n = (⟨#[]⟩, p, e) := if_pos he
    rw [hv]
    have HE := Lib.hid (bne_iff_ne.2 he)
    clear hv he
    go_enter Tryz.func150, Tryz.ntmps150
    go_wp2_with (go_at_call 158; refine (reads_was _ _ _ _ _ _ _ _ _ HE.out h hp hs).mono ?_; rintro e w1 ⟨rfl, hr, hg⟩)
    go_ret
    exact ⟨rfl, hr, hg⟩
  · have he' : e = 0 := by omega
    subst he'
    by_cases hw : n < 0
    · have hd : decide (n < 0) = true := decide_eq_true hw
      have hv : bytesR s p 0 n = (⟨#[]⟩, p, 13) := by unfold bytesR; rw [if_neg he, if_pos hw]
      rw [hv]
      clear hv
      go_enter Tryz.func150, Tryz.ntmps150
      go_wp2_with (go_at_call 158; refine (reads_wide _ _ _ _ _ _ _ h hp hs).mono ?_; rintro e w1 ⟨rfl, hr, hg⟩)
      go_ret
      exact ⟨rfl, hr, hg⟩
    · have hd : decide (n < 0) = false := decide_eq_false hw
      by_cases hm : ((s.size - p : Nat) : Int) < n
      · have hv : bytesR s p 0 n = (⟨#[]⟩, p, 10) := by unfold bytesR; rw [if_neg he, if_neg hw, if_pos hm]
        rw [hv]
        clear hv
        go_enter Tryz.func150, Tryz.ntmps150
        go_wp2_with (go_at_call 158; refine (reads_end _ _ _ _ _ _ hm h hp hs).mono ?_; rintro e w1 ⟨rfl, hr, hg⟩)
        go_ret
        exact ⟨rfl, hr, hg⟩
      · have hv : bytesR s p 0 n = (s.extract p (p + n.toNat), p + n.toNat, 0) := by unfold bytesR; rw [if_neg he, if_neg hw, if_neg hm]
        rw [hv]
        clear hv
        obtain ⟨m, rfl⟩ := Int.eq_ofNat_of_zero_le (show 0 ≤ n by omega)
        rw [Int.toNat_natCast]
        go_enter Tryz.func150, Tryz.ntmps150
        go_wp2_with (go_at_call 158; refine (bytes_ok _ _ _ _ _ (by omega) h hp hs).mono ?_; rintro e w1 ⟨rfl, hr, hg⟩)
        go_ret
        exact ⟨rfl, hr, hg⟩

end Go.Proofs.YtjippoejaieneaaGreat.Cd
