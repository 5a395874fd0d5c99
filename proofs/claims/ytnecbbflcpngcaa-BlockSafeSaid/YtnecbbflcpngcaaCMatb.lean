/- Plain facts on numbers of 64 bits and their forms in bytes: nothing of the program. No conditions. -/
import Derived.Test.YtnecbbflcpngcaaCMath
import Derived.IntWalk
namespace Go.Proofs.Ytnecbbflcpngcaa.Cd
open Go.RowKit
set_option maxRecDepth 20000

theorem toNat_ofInt64 (a : Int) : (BitVec.ofInt 64 a).toNat = (a % 18446744073709551616).toNat := BitVec.toNat_ofInt ..
theorem or_low (q c : Nat) (hc : c < 256) : 256 * q ||| c = 256 * q + c := by
  have h := Nat.two_pow_add_eq_or_of_lt (i := 8) (b := c) hc q
  exact h.symm
theorem or64 (r : Int) (c : Nat) (hc : c < 256) : bits BinOp.or IntKind.i64 (wrap64 (r * 256)) (wrap64 (c : Int)) = wrap64 (r * 256 + c) := by
  show IntKind.i64.wrap ((BitVec.ofInt 64 (wrap64 (r * 256)) ||| BitVec.ofInt 64 (wrap64 (c : Int))).toNat : Int) = _
  rw [BitVec.toNat_or, toNat_ofInt64, toNat_ofInt64]
  have e1 : (wrap64 (c : Int) % 18446744073709551616).toNat = c := by unfold wrap64; omega
  have e2 : (wrap64 (r * 256) % 18446744073709551616).toNat = 256 * ((r * 256 % 18446744073709551616).toNat / 256) := by unfold wrap64; omega
  rw [e1, e2, or_low _ _ hc, IntKind.wrap_i64]
  unfold wrap64
  omega
theorem orU64 (r : Int) (c : Nat) (hc : c < 256) : bits BinOp.or IntKind.u64 (IntKind.u64.wrap (r * 256)) (IntKind.u64.wrap (c : Int)) = IntKind.u64.wrap (r * 256 + c) := by
  show IntKind.u64.wrap ((BitVec.ofInt 64 (IntKind.u64.wrap (r * 256)) ||| BitVec.ofInt 64 (IntKind.u64.wrap (c : Int))).toNat : Int) = _
  rw [BitVec.toNat_or, toNat_ofInt64, toNat_ofInt64]
  have w64 : ∀ n, IntKind.u64.wrap n = n % 18446744073709551616 := fun n => by simp [IntKind.wrap, IntKind.bits, IntKind.signed]
  simp only [w64]
  have e1 : ((c : Int) % 18446744073709551616 % 18446744073709551616).toNat = c := by omega
  have e2 : ((r * 256) % 18446744073709551616 % 18446744073709551616).toNat = 256 * ((r * 256 % 18446744073709551616).toNat / 256) := by omega
  rw [e1, e2, or_low _ _ hc]
  omega
theorem wrap_mul (r s : Int) : wrap64 (wrap64 r * 256 + s) = wrap64 (r * 256 + s) := by unfold wrap64; omega
theorem wrapU_mul (r s : Int) : IntKind.u64.wrap (IntKind.u64.wrap r * 256 + s) = IntKind.u64.wrap (r * 256 + s) := by
  have w64 : ∀ n, IntKind.u64.wrap n = n % 18446744073709551616 := fun n => by simp [IntKind.wrap, IntKind.bits, IntKind.signed]
  simp only [w64]; omega
theorem wrap_wrapU (r : Int) : wrap64 (IntKind.u64.wrap r) = wrap64 r := by
  have w64 : ∀ n, IntKind.u64.wrap n = n % 18446744073709551616 := fun n => by simp [IntKind.wrap, IntKind.bits, IntKind.signed]
  simp only [w64]; unfold wrap64; omega

/-- bytes as a number, the highest first -/
def be (l : List UInt8) : Nat := l.foldl (fun n b => n * 256 + b.toNat) 0
theorem be_snoc (l : List UInt8) (b : UInt8) : be (l ++ [b]) = be l * 256 + b.toNat := by
  unfold be; rw [List.foldl_append]; rfl
/-- what a reader makes of them -/
def numS (l : List UInt8) : Int := wrap64 (be l)

/-- the byte of a number -/
def byteOf (n : Int) : UInt8 := UInt8.ofNat (n % 256).toNat
theorem byteOf_toNat (n : Int) : ((byteOf n).toNat : Int) = n % 256 := by
  unfold byteOf
  rw [UInt8.toNat_ofNat']
  omega
/-- the form of a number in so many bytes -/
def putS (n : Int) : Nat → List UInt8
  | 0 => []
  | j + 1 => byteOf (n / 256 ^ j) :: putS n j
theorem putS_length (n : Int) : ∀ j, (putS n j).length = j
  | 0 => rfl
  | j + 1 => by show (putS n j).length + 1 = _; rw [putS_length n j]

theorem foldl_be (l : List UInt8) : ∀ (m : Nat), l.foldl (fun n b => n * 256 + b.toNat) m = m * 256 ^ l.length + be l := by
  induction l with
  | nil => intro m; simp [be]
  | cons b l ih =>
    intro m
    show l.foldl _ (m * 256 + b.toNat) = _
    rw [ih]
    have : be (b :: l) = b.toNat * 256 ^ l.length + be l := by
      show l.foldl _ (0 * 256 + b.toNat) = _
      rw [ih]; simp
    rw [this, List.length_cons, Nat.pow_succ, Nat.add_mul]
    rw [Nat.mul_assoc, Nat.mul_comm 256, Nat.add_assoc]
theorem be_cons (b : UInt8) (l : List UInt8) : be (b :: l) = b.toNat * 256 ^ l.length + be l := by
  show l.foldl _ (0 * 256 + b.toNat) = _
  rw [foldl_be]; simp
theorem be_lt : ∀ l : List UInt8, be l < 256 ^ l.length
  | [] => by simp [be]
  | b :: l => by
    rw [be_cons, List.length_cons, Nat.pow_succ]
    have h := be_lt l
    have hb := b.toNat_lt
    have : b.toNat * 256 ^ l.length ≤ 255 * 256 ^ l.length := Nat.mul_le_mul_right _ (by omega)
    omega
theorem be_putS (n : Int) : ∀ j, (be (putS n j) : Int) = n % 256 ^ j
  | 0 => by simp [be, putS]
  | j + 1 => by
    show ((be (byteOf (n / 256 ^ j) :: putS n j) : Nat) : Int) = _
    rw [be_cons, putS_length, Int.natCast_add, be_putS n j, Int.natCast_mul, byteOf_toNat, Int.natCast_pow]
    have hp : (0 : Int) < 256 ^ j := Int.pow_pos (by decide)
    rw [Int.pow_succ]
    show n / 256 ^ j % 256 * 256 ^ j + n % 256 ^ j = _
    generalize (256 : Int) ^ j = p at *
    have h1 := Int.emod_def n (p * 256)
    have h2 := Int.emod_def n p
    have h3 := Int.emod_def (n / p) 256
    have h4 : n / (p * 256) = n / p / 256 := (Int.ediv_ediv_of_nonneg (by omega)).symm
    rw [h4] at h1
    rw [h1, h2, h3, Int.sub_mul, Int.mul_comm (n / p) p, Int.mul_assoc p 256, Int.mul_comm p (256 * (n / p / 256))]
    omega
/-- a number that is read back -/
theorem num_back (n : Int) (j : Nat) (hj : j < 8) : numS (putS n j) = n % 256 ^ j := by
  unfold numS
  rw [be_putS]
  have hp : (0 : Int) < 256 ^ j := Int.pow_pos (by decide)
  have h1 := Int.emod_nonneg n (b := 256 ^ j) (by omega)
  have h2 := Int.emod_lt_of_pos n hp
  have h3 : (256 : Int) ^ j ≤ 256 ^ 7 := by
    have : (256 : Nat) ^ j ≤ 256 ^ 7 := Nat.pow_le_pow_right (by decide) (by omega)
    have := Int.ofNat_le.2 this
    simpa using this
  have h4 : (256 : Int) ^ 7 = 72057594037927936 := by decide
  unfold wrap64
  omega
theorem num_back8 (n : Int) (h1 : -9223372036854775808 ≤ n) (h2 : n ≤ 9223372036854775807) : numS (putS n 8) = n := by
  unfold numS
  rw [be_putS]
  have h4 : (256 : Int) ^ 8 = 18446744073709551616 := by decide
  rw [h4]
  unfold wrap64
  omega
theorem u8_ext {a b : UInt8} (h : (a.toNat : Int) = b.toNat) : a = b := UInt8.toNat_inj.1 (by omega)
/-- bytes that are laid again -/
theorem putS_mod (n : Int) (j k : Nat) (h : j ≤ k) : putS (n % 256 ^ k) j = putS n j := by
  induction j with
  | zero => rfl
  | succ j ih =>
    show byteOf _ :: _ = byteOf _ :: _
    rw [ih (by omega)]
    congr 1
    apply u8_ext
    rw [byteOf_toNat, byteOf_toNat]
    obtain ⟨d, rfl⟩ : ∃ d, k = j + 1 + d := ⟨k - (j + 1), by omega⟩
    have hp : (0 : Int) < 256 ^ j := Int.pow_pos (by decide)
    have hq : (0 : Int) < 256 ^ d := Int.pow_pos (by decide)
    have e : (256 : Int) ^ (j + 1 + d) = 256 ^ j * (256 * 256 ^ d) := by rw [Int.pow_add, Int.pow_add, Int.pow_succ, Int.pow_zero, Int.one_mul, Int.mul_assoc]
    rw [e]
    generalize (256 : Int) ^ j = p at *
    generalize (256 : Int) ^ d = q at *
    rw [Int.emod_def n, ← Int.ediv_ediv_of_nonneg (show (0 : Int) ≤ p by omega)]
    rw [show n - p * (256 * q) * (n / p / (256 * q)) = n + p * (-(256 * q * (n / p / (256 * q)))) by rw [Int.mul_neg, Int.mul_assoc]; omega]
    rw [Int.add_mul_ediv_left _ _ (by omega)]
    rw [Int.mul_assoc 256]
    omega
theorem putS_be (l : List UInt8) : putS (be l) l.length = l := by
  induction l with
  | nil => rfl
  | cons b l ih =>
    have hb := be_lt l
    show byteOf _ :: putS _ _ = _
    have e1 : putS ((be (b :: l) : Nat) : Int) l.length = l := by
      rw [← putS_mod _ l.length l.length (Nat.le_refl _)]
      have : ((be (b :: l) : Nat) : Int) % 256 ^ l.length = (be l : Nat) := by
        rw [be_cons]
        have : ((b.toNat * 256 ^ l.length + be l : Nat) : Int) % ((256 ^ l.length : Nat) : Int) = ((be l : Nat) : Int) := by
          rw [← Int.natCast_emod]
          congr 1
          rw [Nat.mul_comm, Nat.mul_add_mod]
          exact Nat.mod_eq_of_lt hb
        simpa using this
      rw [this, ih]
    rw [e1]
    congr 1
    apply u8_ext
    rw [byteOf_toNat, be_cons]
    have : (((b.toNat * 256 ^ l.length + be l : Nat) : Int) / ((256 ^ l.length : Nat) : Int)) = (b.toNat : Nat) := by
      rw [← Int.natCast_ediv]
      congr 1
      rw [Nat.mul_comm, Nat.mul_add_div (by exact Nat.lt_of_le_of_lt (Nat.zero_le _) hb), Nat.div_eq_of_lt hb]
      rfl
    have h2 : ((256 ^ l.length : Nat) : Int) = (256 : Int) ^ l.length := by simp
    rw [h2] at this
    rw [this]
    have := b.toNat_lt
    omega
theorem putS_wrap (n : Int) (j : Nat) (h : j ≤ 8) : putS (wrap64 n) j = putS n j := by
  rw [← putS_mod (wrap64 n) j 8 h, ← putS_mod n j 8 h]
  congr 1
  have h4 : (256 : Int) ^ 8 = 18446744073709551616 := by decide
  rw [h4]; unfold wrap64; omega
theorem putS_num (l : List UInt8) (h : l.length ≤ 8) : putS (numS l) l.length = l := by
  unfold numS; rw [putS_wrap _ _ h, putS_be]
end Go.Proofs.Ytnecbbflcpngcaa.Cd
