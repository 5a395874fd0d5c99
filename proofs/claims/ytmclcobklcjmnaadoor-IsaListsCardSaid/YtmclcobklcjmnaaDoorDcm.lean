/- The instruction of four bytes: what it wants of numbers. No conditions. -/
import Derived.Test.YtmclcobklcjmnaaDoorEnc
namespace Go.Proofs.YtmclcobklcjmnaaDoor
open Go.RowKit Go.Maps
set_option linter.unusedVariables false
set_option linter.unusedSimpArgs false

def decE (s : Bs) : Int := match decS s with | some _ => 0 | none => 91
def decV (s : Bs) : In := match decS s with | some i => i | none => zeroI
theorem bytes4 (s : ByteArray) (h : s.size = 4) : ∃ b0 b1 b2 b3 : UInt8, s = ⟨#[b0, b1, b2, b3]⟩ := by
  obtain ⟨⟨l⟩⟩ := s
  match l, h with
  | [a, b, c, d], _ => exact ⟨a, b, c, d, rfl⟩
theorem opV_nat (n : Nat) : opV (n : Int) = .agg #[.string (str (nam n)), .int .i64 (frm n : Nat)] := by
  unfold opV
  by_cases h : n < 30
  · rw [if_pos (by simp [isOp]; omega)]
  · rw [if_neg (by simp [isOp]; omega)]
    have e1 : nam (n : Int) = [] := by
      unfold nam
      rw [List.getD_eq_getElem?_getD, List.getElem?_eq_none (by simp [nams]; omega)]
      rfl
    have e2 : frm (n : Int) = 0 := by
      unfold frm
      rw [List.getD_eq_getElem?_getD, List.getElem?_eq_none (by simp [frms]; omega)]
      rfl
    rw [e1, e2]
    rfl
theorem or_add (a b : Nat) (ha : a < 256) (hb : b < 256) : bits .or .i64 (((a : Nat) : Int) * 256) ((b : Nat) : Int) = ((256 * a + b : Nat) : Int) := by
  have h := (by decide +kernel : ∀ a : Fin 256, ∀ b : Fin 256, bits .or .i64 (((a.val : Nat) : Int) * 256) ((b.val : Nat) : Int) = ((256 * a.val + b.val : Nat) : Int))
  exact h ⟨a, ha⟩ ⟨b, hb⟩
def i16 (m : Nat) : Int := if 32768 ≤ m then (m : Int) - 65536 else m
theorem w16 (m : Nat) (h : m < 65536) : IntKind.i16.wrap (m : Int) = i16 m := by
  unfold IntKind.wrap i16
  have e : (m : Int) % (2 ^ IntKind.i16.bits : Int) = m := Int.emod_eq_of_lt (by omega) (by show (m : Int) < 65536; omega)
  dsimp only
  by_cases h2 : 32768 ≤ m
  · rw [if_pos h2, if_pos (by rw [e]; show (true && decide ((m : Int) ≥ 32768)) = true; simp; omega), e]
    rfl
  · rw [if_neg h2, if_neg (by rw [e]; show ¬ (true && decide ((m : Int) ≥ 32768)) = true; simp; omega), e]
theorem dec_eq (b0 b1 b2 b3 : UInt8) (I : In) (h : I = rawI b0.toNat b1.toNat b2.toNat b3.toNat) : decE [b0, b1, b2, b3] = (if okI I then 0 else 91) ∧ decV [b0, b1, b2, b3] = (if okI I then I else zeroI) := by
  unfold decE decV decS decI
  dsimp only
  rw [← h]
  by_cases h : okI I = true
  · rw [if_pos h, if_pos h, if_pos h]; exact ⟨rfl, rfl⟩
  · rw [if_neg h, if_neg h, if_neg h]; exact ⟨rfl, rfl⟩
end Go.Proofs.YtmclcobklcjmnaaDoor
