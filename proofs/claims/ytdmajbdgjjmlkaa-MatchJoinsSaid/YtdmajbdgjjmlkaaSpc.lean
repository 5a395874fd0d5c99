/- What is read as a pattern, step by step, over plain lists of bytes: nothing of the program. No conditions. -/
import Derived.Test.YtdmajbdgjjmlkaaMat
import Derived.Lib.Bytealg
namespace Go.Proofs.Ytdmajbdgjjmlkaa
set_option linter.unusedVariables false

abbrev Bs := List UInt8
/-- a set: four numbers -/
structure S4 where
  a : Nat
  b : Nat
  c : Nat
  d : Nat
deriving DecidableEq
def S4.zero : S4 := ⟨0, 0, 0, 0⟩
def S4.put (s : S4) (b : Nat) : S4 :=
  if b / 64 = 0 then { s with a := s.a ||| 2 ^ (b % 64) } else if b / 64 = 1 then { s with b := s.b ||| 2 ^ (b % 64) } else if b / 64 = 2 then { s with c := s.c ||| 2 ^ (b % 64) } else { s with d := s.d ||| 2 ^ (b % 64) }
/-- the bytes from lo, n of them -/
def S4.withN (s : S4) (lo : Nat) : Nat → S4
  | 0 => s
  | n + 1 => (s.withN lo n).put (lo + n)
/-- the bytes from lo to hi -/
def S4.with (s : S4) (lo hi : Nat) : S4 := s.withN lo (hi + 1 - lo)
def S4.others (s : S4) : S4 := ⟨18446744073709551615 - s.a, 18446744073709551615 - s.b, 18446744073709551615 - s.c, 18446744073709551615 - s.d⟩
def S4.full : S4 := S4.zero.others
def anyR (s : S4) : Rx := .mk 0 0 0 s.a s.b s.c s.d []
def repR (e : Rx) (least most : Int) : Rx := .mk 3 least most 0 0 0 0 [e]
def togR (kind : Int) : List Rx → Rx
  | [x] => x
  | l => .mk kind 0 0 0 0 0 0 l

def rowBar : Bs := [92, 46, 91, 93, 40, 41, 124, 42, 43, 63, 123, 125]
def setBar : Bs := [92, 93, 94, 45]
def letBar : Bs := rowBar ++ [94, 45]
def hexDig : Bs := [48, 49, 50, 51, 52, 53, 54, 55, 56, 57, 97, 98, 99, 100, 101, 102]
def isDig (b : UInt8) : Bool := decide (48 ≤ b.toNat) && decide (b.toNat ≤ 57)

def takeP : Bs → Option (UInt8 × Bs)
  | [] => none
  | c :: l => some (c, l)
def isNext (c : UInt8) : Bs → Bool
  | [] => false
  | x :: _ => x == c
def wantP (c : UInt8) : Bs → Option Bs
  | [] => none
  | x :: l => if x == c then some l else none
def digitP : Bs → Option (Nat × Bs)
  | [] => none
  | c :: l => if isDig c then some (c.toNat - 48, l) else none
def numberP (l : Bs) : Option (Nat × Bs) :=
  match digitP l with
  | none => none
  | some (n, l1) =>
    match (match l1 with | c :: l2 => if n > 0 && isDig c then (10 * n + (c.toNat - 48), l2) else (n, l1) | [] => (n, l1)) with
    | (m, l3) => if m > 15 then none else some (m, l3)
def timesP (l : Bs) : Option (Int × Int × Bs) :=
  match numberP l with
  | none => none
  | some (least, l1) =>
    if isNext 125 l1 then some (least, least, l1.tail)
    else match wantP 44 l1 with
    | none => none
    | some l2 =>
      if isNext 125 l2 then some (least, -1, l2.tail)
      else match numberP l2 with
      | none => none
      | some (most, l3) =>
        match wantP 125 l3 with
        | none => none
        | some l4 => if areT least most then some (least, most, l4) else none
/-- is it one of them? -/
def inB (l : Bs) (c : UInt8) : Bool := decide (0 ≤ Lib.indexByte l c)
def lowHex (b : UInt8) : UInt8 := if 65 ≤ b.toNat ∧ b.toNat ≤ 70 then b + 32 else b
def hexP : Bs → Option (Nat × Bs)
  | [] => none
  | c :: l => if inB hexDig (lowHex c) then some ((Lib.indexByte hexDig (lowHex c)).toNat, l) else none
def escP : Bs → Option (Nat × Bs)
  | [] => none
  | c :: l => if c == 120 then
      match hexP l with
      | none => none
      | some (u, l1) => match hexP l1 with | none => none | some (v, l2) => some (16 * u + v, l2)
    else if inB letBar c then some (c.toNat, l) else none
def byteP (barred : Bs) : Bs → Option (Nat × Bs)
  | [] => none
  | c :: l => if c == 92 then escP l else if inB barred c then none else some (c.toNat, l)
/-- a row of a set: its first byte, its last -/
def spanP (l : Bs) : Option (Nat × Nat × Bs) :=
  match byteP setBar l with
  | none => none
  | some (lo, l1) =>
    if isNext 45 l1 then match byteP setBar l1.tail with | none => none | some (hi, l2) => if hi < lo then none else some (lo, hi, l2)
    else some (lo, lo, l1)
def rowsP : Nat → S4 → Bs → Option (S4 × Bs)
  | 0, _, _ => none
  | f + 1, s, l => match spanP l with
    | none => none
    | some (lo, hi, l1) => if isNext 93 l1 then some (s.with lo hi, l1.tail) else rowsP f (s.with lo hi) l1
def setP (l : Bs) : Option (S4 × Bs) :=
  match (if isNext 94 l then (true, l.tail) else (false, l)) with
  | (not, l1) => match rowsP (l1.length + 1) S4.zero l1 with
    | none => none
    | some (s, l2) => let t := if not then s.others else s; if t = S4.zero then none else some (t, l2)
def atomP (alt : Bs → Option (Rx × Bs)) (l : Bs) : Option (Rx × Bs) :=
  if isNext 40 l then match alt l.tail with | none => none | some (e, l1) => match wantP 41 l1 with | none => none | some l2 => some (e, l2)
  else if isNext 91 l then match setP l.tail with | none => none | some (s, l1) => some (anyR s, l1)
  else if isNext 46 l then some (anyR S4.full, l.tail)
  else match byteP rowBar l with | none => none | some (b, l1) => some (anyR (S4.zero.with b b), l1)
def pieceP (alt : Bs → Option (Rx × Bs)) (l : Bs) : Option (Rx × Bs) :=
  match atomP alt l with
  | none => none
  | some (a, l1) =>
    if isNext 42 l1 then some (repR a 0 (-1), l1.tail)
    else if isNext 43 l1 then some (repR a 1 (-1), l1.tail)
    else if isNext 63 l1 then some (repR a 0 1, l1.tail)
    else if isNext 123 l1 then match timesP l1.tail with | none => none | some (least, most, l2) => some (repR a least most, l2)
    else some (a, l1)
def altP : Nat → List Rx → List Rx → Bs → Option (Rx × Bs)
  | 0, _, _, _ => none
  | f + 1, rows, row, l =>
    if l.isEmpty || isNext 41 l then some (togR 2 (rows ++ [togR 1 row]), l)
    else if isNext 124 l then altP f (rows ++ [togR 1 row]) [] l.tail
    else match pieceP (altP f [] []) l with | none => none | some (x, l1) => altP f rows (row ++ [x]) l1
/-- the expression of a pattern; the error's number -/
def parseS (l : Bs) : Option Rx × Int :=
  if 128 < l.length then (none, 51)
  else match altP (l.length + 1) [] [] l with
  | none => (none, 50)
  | some (e, l1) => if !l1.isEmpty then (none, 50) else if sizeR e = 257 then (none, 51) else (some e, 0)
end Go.Proofs.Ytdmajbdgjjmlkaa
