/- One pass of the other text's search for what more flows: what is known at a triple. Conditions: none. -/
import Derived.Test.YtbkpfiagoinoiaaRmm
namespace Go.Proofs.Ytbkpfiagoinoiaa
open Go.RowKit
set_option linter.unusedVariables false

/-- the triples ahead of x, y, z -/
def Ahead (x y z x' y' z' : Nat) : Prop := x' < x ∨ (x' = x ∧ (y' < y ∨ (y' = y ∧ z' < z)))
/-- F0 flows through at all triples ahead -/
def Thru (n : Nat) (F0 : Flw) (x y z : Nat) : Prop := ∀ x' y' z', x' < n → y' < n → z' < n → Ahead x y z x' y' z' → F0 x' y' = true → F0 y' z' = true → F0 x' z' = true
/-- a pass that began with F0 stands at x, y, z with F, and has found more (m) or not -/
structure Pass (n : Nat) (F0 F : Flw) (m : Bool) (x y z : Nat) : Prop where
  no : m = false → F = F0 ∧ Thru n F0 x y z
  yes : m = true → lacks n F < lacks n F0
theorem Pass.begin (n : Nat) (F : Flw) : Pass n F F false 0 0 0 := ⟨fun _ => ⟨rfl, fun x' y' z' _ _ _ q => by unfold Ahead at q; omega⟩, fun h => by cases h⟩
theorem Thru.mono {n : Nat} {F0 : Flw} {x y z x2 y2 z2 : Nat} (h : Thru n F0 x y z) (q : ∀ x' y' z', x' < n → y' < n → z' < n → Ahead x2 y2 z2 x' y' z' → Ahead x y z x' y' z') : Thru n F0 x2 y2 z2 :=
  fun x' y' z' hx hy hz e => h x' y' z' hx hy hz (q x' y' z' hx hy hz e)
theorem Pass.upY {n : Nat} {F0 F : Flw} {m : Bool} {x y z : Nat} (h : Pass n F0 F m x y z) (hz : n ≤ z) : Pass n F0 F m x (y + 1) 0 :=
  ⟨fun e => ⟨(h.no e).1, (h.no e).2.mono fun x' y' z' _ _ _ q => by unfold Ahead at q ⊢; omega⟩, h.yes⟩
theorem Pass.upX {n : Nat} {F0 F : Flw} {m : Bool} {x y z : Nat} (h : Pass n F0 F m x y z) (hy : n ≤ y) : Pass n F0 F m (x + 1) 0 0 :=
  ⟨fun e => ⟨(h.no e).1, (h.no e).2.mono fun x' y' z' _ _ _ q => by unfold Ahead at q ⊢; omega⟩, h.yes⟩
theorem Pass.done {n : Nat} {F0 F : Flw} {x y z : Nat} (h : Pass n F0 F false x y z) (hx : n ≤ x) : ∀ a b c, a < n → b < n → c < n → F a b = true → F b c = true → F a c = true := fun a b c ha hb hc h1 h2 => by
  obtain ⟨rfl, q⟩ := h.no rfl
  exact q a b c ha hb hc (by unfold Ahead; omega) h1 h2
/-- nothing found at x, y, z -/
theorem Pass.next {n : Nat} {F0 F : Flw} {m : Bool} {x y z : Nat} (h : Pass n F0 F m x y z) (q : (F x y && F y z && !F x z) = false) : Pass n F0 F m x y (z + 1) :=
  ⟨fun e => ⟨(h.no e).1, fun x' y' z' hx hy hz e2 h1 h2 => by
    by_cases t : x' = x ∧ y' = y ∧ z' = z
    · obtain ⟨rfl, rfl, rfl⟩ := t
      rw [(h.no e).1, h1, h2] at q
      simpa using q
    · exact (h.no e).2 x' y' z' hx hy hz (by unfold Ahead at e2 ⊢; omega) h1 h2⟩, h.yes⟩
/-- one found -/
theorem Pass.found {n : Nat} {F0 F : Flw} {m : Bool} {x y z : Nat} (h : Pass n F0 F m x y z) (hx : x < n) (hz : z < n) (q : F x z = false) : Pass n F0 (setF F x z true) true x y (z + 1) :=
  ⟨fun e => by (cases e), fun _ => by
    have := lacks_step hx hz q
    cases m with
    | true => exact Nat.lt_trans this (h.yes rfl)
    | false => rw [(h.no rfl).1] at this ⊢; exact this⟩
/-- what the cells of the rows say -/
def seenF (w : World) (B : Nat → Nat) : Flw := fun i j => match w.cell? ⟨B i, j, none⟩ with | some (.bool b) => b | _ => false
theorem lacks_same {n : Nat} {F G : Flw} (h : ∀ i j, i < n → j < n → F i j = G i j) : lacks n F = lacks n G := by
  unfold lacks
  congr 1
  refine List.filter_congr fun x hx => ?_
  have hx : x < n * n := by simpa using hx
  have hn : 0 < n := Nat.pos_of_ne_zero fun e => by subst e; omega
  rw [h _ _ (Nat.div_lt_of_lt_mul hx) (Nat.mod_lt _ hn)]
theorem Owns.seen {w : World} {D L R cap n : Nat} {B : Nat → Nat} {F : Flw} (h : Owns w D L R cap B n F) : lacks n (seenF w B) = lacks n F :=
  lacks_same fun i j hi hj => by unfold seenF; rw [h.is.cell i j hi hj]
end Go.Proofs.Ytbkpfiagoinoiaa
