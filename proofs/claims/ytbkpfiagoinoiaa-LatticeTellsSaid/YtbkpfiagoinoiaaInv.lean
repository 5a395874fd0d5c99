/- Lattices among calls that leave whatever holds of the blocks that are there; what New says of pairs turned about. Conditions: there are at most eight levels. -/
import Derived.Test.YtbkpfiagoinoiaaApp
namespace Go.Proofs.Ytbkpfiagoinoiaa
open Go.RowKit
set_option linter.unusedVariables false

/-- it holds on, whatever is made behind what is there -/
def Stays (I : World → Prop) : Prop := ∀ w1 w2, I w1 → Below w1.heap.size w1 w2 → I w2
section
variable {I : World → Prop} {b n : Nat} {G : Flw} (hk : Stays I) (hL : ∀ w1, I w1 → IsL w1 b n G) (n8 : n ≤ 8)
include hk hL n8
theorem inv_flows (x y : Int) (w1 : World) (h : I w1) :
    Calls Try.prog 14 #[.pointer (some ⟨b, 0, none⟩), .int .i64 x, .int .i64 y] w1 fun e w' => e = .returned (.bool (flB n G x y)) ∧ I w' :=
  (flows_any b n G x y w1 n8 (hL w1 h)).mono fun e w' ⟨h1, h2⟩ => ⟨h1, hk w1 w' h (by rw [← h2]; exact Below.refl _ _)⟩
theorem inv_join (x y : Int) (w1 : World) (h : I w1) :
    Calls Try.prog 16 #[.pointer (some ⟨b, 0, none⟩), .int .i64 x, .int .i64 y] w1 fun e w' => e = .returned (.int .i64 (lstI G n x y)) ∧ I w' :=
  (join_any b n G x y w1 n8 (hL w1 h)).mono fun e w' ⟨h1, h2⟩ => ⟨h1, hk w1 w' h h2⟩
theorem inv_meet (x y : Int) (w1 : World) (h : I w1) :
    Calls Try.prog 18 #[.pointer (some ⟨b, 0, none⟩), .int .i64 x, .int .i64 y] w1 fun e w' => e = .returned (.int .i64 (lstI (turn G) n x y)) ∧ I w' :=
  (meet_any b n G x y w1 n8 (hL w1 h)).mono fun e w' ⟨h1, h2⟩ => ⟨h1, hk w1 w' h h2⟩
theorem inv_top (w1 : World) (h : I w1) :
    Calls Try.prog 26 #[.pointer (some ⟨b, 0, none⟩)] w1 fun e w' => e = .returned (.int .i64 (topI (lstI G n) n)) ∧ I w' :=
  (top_any b n G w1 n8 (hL w1 h)).mono fun e w' ⟨h1, h2⟩ => ⟨h1, hk w1 w' h h2⟩
theorem inv_bottom (w1 : World) (h : I w1) :
    Calls Try.prog 28 #[.pointer (some ⟨b, 0, none⟩)] w1 fun e w' => e = .returned (.int .i64 (topI (lstI (turn G) n) n)) ∧ I w' :=
  (bottom_any b n G w1 n8 (hL w1 h)).mono fun e w' ⟨h1, h2⟩ => ⟨h1, hk w1 w' h h2⟩
theorem inv_above (x : Int) (w1 : World) (h : I w1) :
    Calls Try.prog 20 #[.pointer (some ⟨b, 0, none⟩), .int .i64 x] w1 fun e w' => ∃ ao cap, e = .returned (.slice ao (lvlL n G x).length cap) ∧ LiesI w' ao (lvlL n G x) ∧ I w' ∧ Below w1.heap.size w1 w' :=
  (above_any b n G x w1 n8 (hL w1 h)).mono fun e w' ⟨v, h1, h2, h3⟩ => by
    obtain ⟨ao, cap, rfl, hl⟩ := own_ints h2
    exact ⟨ao, cap, h1, hl, hk w1 w' h h3, h3⟩
theorem inv_under (x : Int) (w1 : World) (h : I w1) :
    Calls Try.prog 21 #[.pointer (some ⟨b, 0, none⟩), .int .i64 x] w1 fun e w' => ∃ ao cap, e = .returned (.slice ao (lvlL n (turn G) x).length cap) ∧ LiesI w' ao (lvlL n (turn G) x) ∧ I w' ∧ Below w1.heap.size w1 w' :=
  (under_any b n G x w1 n8 (hL w1 h)).mono fun e w' ⟨v, h1, h2, h3⟩ => by
    obtain ⟨ao, cap, rfl, hl⟩ := own_ints h2
    exact ⟨ao, cap, h1, hl, hk w1 w' h h3, h3⟩
theorem inv_pairs (w1 : World) (h : I w1) :
    Calls Try.prog 30 #[.pointer (some ⟨b, 0, none⟩)] w1 fun e w' => ∃ ao cap, e = .returned (.slice ao (prsL n G n).length cap) ∧ LiesP w' ao (natP (prsL n G n)) ∧ (ao = none → cap = 0) ∧ I w' ∧ Below w1.heap.size w1 w' :=
  (pairs_any b n G w1 n8 (hL w1 h)).mono fun e w' ⟨v, h1, h2, h3⟩ => by
    have e2 : (natP (prsL n G n)).length = (prsL n G n).length := by simp [natP]
    rw [flat_nat, ← e2] at h2
    obtain ⟨ao, cap, rfl, hl, hc⟩ := own_pairsI h2
    rw [e2] at h1
    exact ⟨ao, cap, h1, hl, hc, hk w1 w' h h3, h3⟩
end
section
variable {I : World → Prop} {b n : Nat} {G : Flw} (hk : Stays I) (hL : ∀ w1, I w1 → IsL w1 b n G)
include hk hL
theorem inv_levels (w1 : World) (h : I w1) :
    Calls Try.prog 25 #[.pointer (some ⟨b, 0, none⟩)] w1 fun e w' => e = .returned (.int .i64 (n : Int)) ∧ I w' :=
  (levels_any b n G w1 (hL w1 h)).mono fun e w' ⟨h1, h2⟩ => ⟨h1, hk w1 w' h (by rw [← h2]; exact Below.refl _ _)⟩
end
theorem inv_fixed {I : World → Prop} (hk : Stays I) (w1 : World) (h : I w1) : Calls Try.prog 12 #[] w1 fun e w' => e = .returned (.bool true) ∧ I w' :=
  (fixed_any w1).mono fun e w' ⟨h1, h2⟩ => ⟨h1, hk w1 w' h h2⟩
/-- what New makes, beside whatever stays -/
theorem inv_new {I : World → Prop} (hk : Stays I) (n : Int) (ao : Option Addr) (cap : Nat) (ps : List (Int × Int)) (hl : ps.length ≤ 140737488355328) (w1 : World) (h : I w1) (hP : LiesP w1 ao ps) (he : newE n ps = 0) :
    Calls Try.prog 10 #[.int .i64 n, .slice ao ps.length cap] w1 fun e w' => ∃ b, e = .returned (.tuple #[.pointer (some ⟨b, 0, none⟩), .int .i64 0]) ∧ I w' ∧ IsL w' b n.toNat (newG ps) ∧ Below w1.heap.size w1 w' :=
  (new_any n ao cap ps w1 hl hP).mono fun e w' hp => by
    obtain ⟨hb, h1 | h1⟩ := hp
    · obtain ⟨_, b, _, q, hi⟩ := h1
      exact ⟨b, q, hk w1 w' h hb, hi, hb⟩
    · exact absurd he h1.1
theorem inv_newNo {I : World → Prop} (hk : Stays I) (n : Int) (ao : Option Addr) (cap : Nat) (ps : List (Int × Int)) (hl : ps.length ≤ 140737488355328) (w1 : World) (h : I w1) (hP : LiesP w1 ao ps) (he : newE n ps ≠ 0) :
    Calls Try.prog 10 #[.int .i64 n, .slice ao ps.length cap] w1 fun e w' => e = .returned (.tuple #[.pointer none, .int .i64 (newE n ps)]) ∧ I w' ∧ Below w1.heap.size w1 w' :=
  (new_any n ao cap ps w1 hl hP).mono fun e w' hp => by
    obtain ⟨hb, h1 | h1⟩ := hp
    · exact absurd h1.1 he
    · exact ⟨h1.2, hk w1 w' h hb, hb⟩
theorem stays_below (w : World) : Stays (Below w.heap.size w) := fun w1 w2 h k => below_trans h k
theorem stays_isL {I : World → Prop} (hk : Stays I) (b n : Nat) (G : Flw) : Stays fun w1 => I w1 ∧ IsL w1 b n G := fun w1 w2 h k => ⟨hk w1 w2 h.1 k, h.2.below k h.2.lt⟩
theorem stays_lies {I : World → Prop} (hk : Stays I) (ao : Option Addr) (ps : List (Int × Int)) : Stays fun w1 => I w1 ∧ LiesP w1 ao ps := fun w1 w2 h k => ⟨hk w1 w2 h.1 k, h.2.below k (Nat.le_refl _)⟩

/-! ### pairs turned about -/
def swP (ps : List (Int × Int)) : List (Int × Int) := ps.map fun p => (p.2, p.1)
theorem swP_len (ps : List (Int × Int)) : (swP ps).length = ps.length := by simp [swP]
theorem swP_ok (n : Nat) (ps : List (Int × Int)) : (swP ps).all (okP n) = ps.all (okP n) := by
  unfold swP
  rw [List.all_map]
  congr 1
  funext p
  simp [okP, Bool.and_comm]
theorem swP_F (ps : List (Int × Int)) (i j : Nat) : newF (swP ps) i j = turn (newF ps) i j := by
  rw [turn_at, newF_at, newF_at]
  unfold swP
  rw [List.any_map]
  congr 1
  funext p
  simp [Bool.and_comm]
theorem swP_G (ps : List (Int × Int)) : Alike (newG (swP ps)) (turn (newG ps)) := fun i j hi hj => by
  unfold newG
  rw [clo_same (fun i j _ _ => swP_F ps i j) i j hi hj, clo_turn _ i j hi hj]
theorem loopB_turn (n : Nat) (G : Flw) : loopB n (turn G) = loopB n G := by
  unfold loopB turn
  congr 1
  funext a
  congr 1
  funext b
  rw [Bool.and_comm]
theorem joinB_turn (n : Nat) (G : Flw) : joinB n (turn G) = joinB n G := by
  unfold joinB
  congr 1
  funext a
  congr 1
  funext b
  rw [Bool.and_comm]
  rfl
theorem swP_E (n : Int) (ps : List (Int × Int)) : newE n (swP ps) = newE n ps := by
  unfold newE
  rw [swP_len, swP_ok]
  by_cases h : n < 1 ∨ 8 < n ∨ 64 < ps.length
  · rw [if_pos h, if_pos h]
  · rw [if_neg h, if_neg h, loopB_same (by omega) (swP_G ps), joinB_same (by omega) (swP_G ps), loopB_turn, joinB_turn]
theorem flB_turn (n : Nat) (G : Flw) (x y : Int) : flB n (turn G) y x = flB n G x y := by
  unfold flB turn
  rw [Bool.and_comm (hasB n y)]
end Go.Proofs.Ytbkpfiagoinoiaa
