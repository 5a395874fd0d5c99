/- Expressions as trees: which may be, how big they are: nothing of the program. No conditions. -/
import Derived.RowKit
namespace Go.Proofs.Ytdmajbdgjjmlkaa
set_option linter.unusedVariables false

inductive Rx where
  | mk (k mn mx s0 s1 s2 s3 : Int) (l : List Rx)
def Rx.list : Rx → List Rx
  | .mk _ _ _ _ _ _ _ l => l
def areT (mn mx : Int) : Bool := decide (0 ≤ mn) && decide (mn ≤ 15) && (decide (mx = -1) || (decide (mn ≤ mx) && decide (mx ≤ 15)))
def noS (s0 s1 s2 s3 : Int) : Bool := decide (s0 = 0) && decide (s1 = 0) && decide (s2 = 0) && decide (s3 = 0)
/-- may it be, but for its elements? -/
def formF (k mn mx s0 s1 s2 s3 : Int) (n : Nat) : Bool :=
  if k = 0 then !noS s0 s1 s2 s3 && (decide (mn = 0) && decide (mx = 0)) && decide (n = 0)
  else if k = 1 then noS s0 s1 s2 s3 && (decide (mn = 0) && decide (mx = 0)) && decide (n ≠ 1)
  else if k = 2 then noS s0 s1 s2 s3 && (decide (mn = 0) && decide (mx = 0)) && decide (2 ≤ n)
  else if k = 3 then noS s0 s1 s2 s3 && areT mn mx && decide (n = 1)
  else false
def timesF (mn mx : Int) : Nat := (max 1 (max mn mx)).toNat
mutual
/-- how big: 0 of what may not be, 257 of all above 256 -/
def sizeR : Rx → Nat
  | .mk k mn mx s0 s1 s2 s3 l => if formF k mn mx s0 s1 s2 s3 l.length then sizeL (timesF mn mx) l 1 else 0
def sizeL (m : Nat) : List Rx → Nat → Nat
  | [], acc => acc
  | x :: l, acc => if sizeR x = 0 then 0 else sizeL m l (min (acc + sizeR x * m) 257)
end
/-- the last step of the loop -/
theorem sizeL_le (m : Nat) : ∀ (l : List Rx) (acc : Nat), acc ≤ 257 → sizeL m l acc ≤ 257
  | [], acc, h => by rw [sizeL]; exact h
  | x :: l, acc, h => by
    rw [sizeL]
    split
    · omega
    · exact sizeL_le m l _ (Nat.min_le_right _ _)
theorem sizeR_le : ∀ t : Rx, sizeR t ≤ 257
  | .mk k mn mx s0 s1 s2 s3 l => by
    rw [sizeR]
    split
    · exact sizeL_le _ l 1 (by omega)
    · omega
end Go.Proofs.Ytdmajbdgjjmlkaa
