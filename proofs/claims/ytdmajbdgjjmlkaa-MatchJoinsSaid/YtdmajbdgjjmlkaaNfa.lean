/- Machines of expressions as lists of states, and what they take: nothing of the program. No conditions. -/
import Derived.Test.YtdmajbdgjjmlkaaSpc
namespace Go.Proofs.Ytdmajbdgjjmlkaa
set_option linter.unusedVariables false

/-! The language of an expression. -/
def hasB (s0 s1 s2 s3 : Int) (b : UInt8) : Bool :=
  (if b.toNat / 64 = 0 then s0 else if b.toNat / 64 = 1 then s1 else if b.toNat / 64 = 2 then s2 else s3).toNat.testBit (b.toNat % 64)
/-- a text of one language and a text of another one behind it -/
def Cat (A B : Bs → Prop) (s : Bs) : Prop := ∃ u v, s = u ++ v ∧ A u ∧ B v
def Pow (A : Bs → Prop) : Nat → Bs → Prop
  | 0, s => s = []
  | n + 1, s => Cat A (Pow A n) s
mutual
def Lang : Rx → Bs → Prop
  | .mk k mn mx s0 s1 s2 s3 l => fun s =>
    if k = 0 then ∃ b, s = [b] ∧ hasB s0 s1 s2 s3 b = true
    else if k = 2 then LangA l s
    else if k = 3 then ∃ j : Nat, mn ≤ (j : Int) ∧ (mx = -1 ∨ (j : Int) ≤ mx) ∧ Pow (LangH l) j s
    else LangS l s
def LangH : List Rx → Bs → Prop
  | [] => fun s => s = []
  | x :: _ => Lang x
def LangS : List Rx → Bs → Prop
  | [] => fun s => s = []
  | x :: l => Cat (Lang x) (LangS l)
def LangA : List Rx → Bs → Prop
  | [] => fun _ => False
  | x :: l => fun s => Lang x s ∨ LangA l s
end

/-! States, and how they are laid. -/
structure Sta where
  s0 : Int
  s1 : Int
  s2 : Int
  s3 : Int
  nx : Nat
deriving DecidableEq
def Sta.empty (x : Sta) : Bool := x.s0 == 0 && x.s1 == 0 && x.s2 == 0 && x.s3 == 0
def Sta.reads (x : Sta) (b : UInt8) : Bool := hasB x.s0 x.s1 x.s2 x.s3 b
def bitN (i : Nat) : Nat := 2 ^ i
/-- an expression in a row: entered where so many are left -/
def layT (f : Nat → List Sta → Nat × List Sta) (least : Int) : Nat → Nat → Nat → Nat → List Sta → Nat × List Sta
  | 0, _, nx, bs, L => (bs, L)
  | c + 1, left, nx, bs, L =>
    let r := if 0 < left then f nx L else (nx, L)
    layT f least c (left + 1) r.1 (if least ≤ (left : Int) then bs ||| bitN r.1 else bs) r.2
def layN (f : Nat → List Sta → Nat × List Sta) : Nat → Nat → List Sta → Nat × List Sta
  | 0, b, L => (b, L)
  | c + 1, b, L => layN f c (f b L).1 (f b L).2
def setNx (L : List Sta) (i nx : Nat) : List Sta := L.modify i (fun x => { x with nx := nx })
mutual
def layR : Rx → Nat → List Sta → Nat × List Sta
  | .mk k mn mx s0 s1 s2 s3 l => fun nx L =>
    if k = 0 then (L.length, L ++ [⟨s0, s1, s2, s3, bitN nx⟩])
    else if k = 2 then
      let r := layA l nx 0 L
      (r.2.length, r.2 ++ [⟨0, 0, 0, 0, r.1⟩])
    else if k = 3 then
      if mx = -1 then
        let r := layH l L.length (L ++ [⟨0, 0, 0, 0, 0⟩])
        let L2 := setNx r.2 L.length (bitN nx ||| bitN r.1)
        if mn = 0 then (L.length, L2) else layN (layH l) (mn - 1).toNat r.1 L2
      else
        let r := layT (layH l) mn (mx + 1).toNat 0 nx 0 L
        (r.2.length, r.2 ++ [⟨0, 0, 0, 0, r.1⟩])
    else layS l nx L
def layH : List Rx → Nat → List Sta → Nat × List Sta
  | [] => fun nx L => (nx, L)
  | x :: _ => layR x
def layS : List Rx → Nat → List Sta → Nat × List Sta
  | [] => fun nx L => (nx, L)
  | x :: l => fun nx L => layR x (layS l nx L).1 (layS l nx L).2
def layA : List Rx → Nat → Nat → List Sta → Nat × List Sta
  | [] => fun nx bs L => (bs, L)
  | x :: l => fun nx bs L => layA l nx (bs ||| bitN (layR x nx L).1) (layR x nx L).2
end

/-! What is taken from a state on, in so many steps. -/
inductive Acc (L : List Sta) : Nat → Nat → Bs → Prop
  | fin : Acc L 0 0 []
  | eps (n p q : Nat) (x : Sta) (s : Bs) (hx : L[p]? = some x) (he : x.empty = true) (hq : x.nx.testBit q = true) (h : Acc L n q s) : Acc L (n + 1) p s
  | byte (n p q : Nat) (x : Sta) (b : UInt8) (s : Bs) (hx : L[p]? = some x) (hb : x.reads b = true) (hq : x.nx.testBit q = true) (h : Acc L n q s) : Acc L (n + 1) p (b :: s)
def Takes (L : List Sta) (p : Nat) (s : Bs) : Prop := ∃ n, Acc L n p s
end Go.Proofs.Ytdmajbdgjjmlkaa
