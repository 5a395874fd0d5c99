/- The document's own names, forms and what a form says. Conditions: an operation that is one. -/
import Derived.Test.YtmclcobklcjmnaaDoorFxd
namespace Go.Proofs.YtmclcobklcjmnaaDoor
open Go.RowKit Go.Maps
set_option linter.unusedVariables false
set_option linter.unusedSimpArgs false

def formT (f : Nat) : Bs := (if hasF f 1 then [97] else []) ++ (if hasF f 2 then [98] else []) ++ (if hasF f 4 then [117] else []) ++ (if hasF f 8 then [115] else [])
theorem case30 {p : Int → Prop} (h : ∀ k : Nat, k < 30 → p (k : Int)) (op : Int) (h0 : 0 ≤ op) (h1 : op < 30) : p op := by
  have := h op.toNat (by omega)
  rwa [show ((op.toNat : Nat) : Int) = op from by omega] at this
set_option maxRecDepth 20000 in
set_option maxHeartbeats 4000000 in
theorem rform_any (w : World) : ∀ op : Int, 0 ≤ op → op < 30 → Calls Tryd.prog 51 #[.int .i64 op] w fun e w' => e = .returned (.string (str (formT (frm op)))) ∧ w' = w := by
  refine case30 fun k hk => ?_
  have : k = 0 ∨ k = 1 ∨ k = 2 ∨ k = 3 ∨ k = 4 ∨ k = 5 ∨ k = 6 ∨ k = 7 ∨ k = 8 ∨ k = 9 ∨ k = 10 ∨ k = 11 ∨ k = 12 ∨ k = 13 ∨ k = 14 ∨ k = 15 ∨ k = 16 ∨ k = 17 ∨ k = 18 ∨ k = 19 ∨ k = 20 ∨ k = 21 ∨ k = 22 ∨ k = 23 ∨ k = 24 ∨ k = 25 ∨ k = 26 ∨ k = 27 ∨ k = 28 ∨ k = 29 := by omega
  rcases this with rfl | rfl | rfl | rfl | rfl | rfl | rfl | rfl | rfl | rfl | rfl | rfl | rfl | rfl | rfl | rfl | rfl | rfl | rfl | rfl | rfl | rfl | rfl | rfl | rfl | rfl | rfl | rfl | rfl | rfl <;>
  · go_enter Tryd.func51, Tryd.ntmps51
    go_wp2
    go_ret
    exact ⟨rfl, rfl⟩
set_option maxRecDepth 20000 in
set_option maxHeartbeats 4000000 in
theorem rname_in (w : World) : ∀ op : Int, 0 ≤ op → op < 30 → Calls Tryd.prog 50 #[.int .i64 op] w fun e w' => e = .returned (.string (str (nam op))) ∧ Below w.heap.size w w' := by
  refine case30 fun k hk => ?_
  have : k = 0 ∨ k = 1 ∨ k = 2 ∨ k = 3 ∨ k = 4 ∨ k = 5 ∨ k = 6 ∨ k = 7 ∨ k = 8 ∨ k = 9 ∨ k = 10 ∨ k = 11 ∨ k = 12 ∨ k = 13 ∨ k = 14 ∨ k = 15 ∨ k = 16 ∨ k = 17 ∨ k = 18 ∨ k = 19 ∨ k = 20 ∨ k = 21 ∨ k = 22 ∨ k = 23 ∨ k = 24 ∨ k = 25 ∨ k = 26 ∨ k = 27 ∨ k = 28 ∨ k = 29 := by omega
  rcases this with rfl | rfl | rfl | rfl | rfl | rfl | rfl | rfl | rfl | rfl | rfl | rfl | rfl | rfl | rfl | rfl | rfl | rfl | rfl | rfl | rfl | rfl | rfl | rfl | rfl | rfl | rfl | rfl | rfl | rfl <;>
  · go_enter Tryd.func50, Tryd.ntmps50
    go_wp2
    go_ret
    exact ⟨rfl, (Below.refl _ w).alloc (Nat.le_refl _) _⟩
set_option maxRecDepth 20000 in
set_option maxHeartbeats 4000000 in
theorem rname_out (w : World) (op : Int) (h : op < 0 ∨ 30 ≤ op) : Calls Tryd.prog 50 #[.int .i64 op] w fun e w' => e = .returned (.string (str [])) ∧ Below w.heap.size w w' := by
  by_cases h0 : op < 0
  · go_enter Tryd.func50, Tryd.ntmps50
    go_wp2
    go_ret
    exact ⟨rfl, (Below.refl _ w).alloc (Nat.le_refl _) _⟩
  · have h1 : (30 : Int) ≤ op := by omega
    go_enter Tryd.func50, Tryd.ntmps50
    go_wp2
    go_ret
    exact ⟨rfl, (Below.refl _ w).alloc (Nat.le_refl _) _⟩
end Go.Proofs.YtmclcobklcjmnaaDoor
