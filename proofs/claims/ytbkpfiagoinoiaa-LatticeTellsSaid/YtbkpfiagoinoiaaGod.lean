/- A lattice among the calls that ask it: each call leaves it as it was; joins, meets, top and bottom as numbers, and their plain laws. Conditions: it is a lattice. -/
import Derived.Test.YtbkpfiagoinoiaaFix
namespace Go.Proofs.Ytbkpfiagoinoiaa
open Go.RowKit
set_option linter.unusedVariables false

/-! ### plain laws -/
def jn (n : Nat) (G : Flw) (a c : Nat) : Nat := (lst G n a c).getD 0
theorem jn_comm (n : Nat) (G : Flw) (a c : Nat) : jn n G a c = jn n G c a := by unfold jn; rw [lst_comm]
section
variable {n : Nat} {G : Flw} (L : Lat n G)
include L
theorem Lat.jn_lst {a c : Nat} (ha : a < n) (hc : c < n) : lst G n a c = some (jn n G a c) := by
  obtain ⟨d, h⟩ := L.join a c ha hc
  unfold jn; rw [h]; rfl
theorem Lat.jn_lt {a c : Nat} (ha : a < n) (hc : c < n) : jn n G a c < n := (lst_some (L.jn_lst ha hc)).1
theorem Lat.jn_at {a c : Nat} (ha : a < n) (hc : c < n) (j : Nat) (hj : j < 8) : G (jn n G a c) j = (G a j && G c j) := (lst_some (L.jn_lst ha hc)).2 j hj
theorem Lat.jn_I {a c : Nat} (ha : a < n) (hc : c < n) : lstI G n a c = (jn n G a c : Nat) := lstI_some ha hc (L.jn_lst ha hc)
theorem Lat.jn_of {a c d : Nat} (ha : a < n) (hc : c < n) (hd : d < n) (h : ∀ j, j < n → G d j = (G a j && G c j)) : jn n G a c = d := by
  have := L.is ha hc hd h
  rw [L.jn_lst ha hc] at this
  exact Option.some.inj this
theorem Lat.jn_up {a c : Nat} (ha : a < n) (hc : c < n) : G a (jn n G a c) = true ∧ G c (jn n G a c) = true := by
  have n8 := L.n8
  have hj := L.jn_lt ha hc
  have h := L.jn_at ha hc (jn n G a c) (by omega)
  rw [L.pre.refl _ (by omega)] at h
  have h2 := h.symm
  rw [Bool.and_eq_true] at h2
  exact h2
theorem Lat.flows_jn {a c : Nat} (ha : a < n) (hc : c < n) : G a c = true ↔ jn n G a c = c := by
  have n8 := L.n8
  constructor
  · intro h
    refine L.jn_of ha hc hc fun j hj => ?_
    cases hcj : G c j with
    | false => simp
    | true => rw [L.pre.trans a c j (by omega) (by omega) (by omega) h hcj]; rfl
  · intro h
    have := (L.jn_up ha hc).1
    rwa [h] at this
theorem Lat.absorb {a c : Nat} (ha : a < n) (hc : c < n) : jn n G a (jn n (turn G) a c) = a := by
  have n8 := L.n8
  have h1 := L.turned.jn_lt ha hc
  have h2 : G (jn n (turn G) a c) a = true := (L.turned.jn_up ha hc).1
  rw [jn_comm n G a]
  exact (L.flows_jn h1 ha).1 h2
theorem Lat.assoc {a c d : Nat} (ha : a < n) (hc : c < n) (hd : d < n) : jn n G a (jn n G c d) = jn n G (jn n G a c) d := by
  have n8 := L.n8
  have h1 := L.jn_lt ha hc
  have h2 := L.jn_lt hc hd
  refine L.jn_of ha h2 (L.jn_lt h1 hd) fun j hj => ?_
  rw [L.jn_at h1 hd j (by omega), L.jn_at ha hc j (by omega), L.jn_at hc hd j (by omega), Bool.and_assoc]
theorem Lat.topI_top : ∀ k, k ≤ n → 1 ≤ k → ∃ t : Nat, topI (lstI G n) k = (t : Int) ∧ t < n ∧ ∀ a, a < k → G a t = true
  | 0, _, h => absurd h (by omega)
  | 1, hk, _ => by
    have h0 : 0 < n := by omega
    refine ⟨jn n G 0 0, ?_, L.jn_lt h0 h0, fun a ha => ?_⟩
    · show lstI G n ((0 : Nat) : Int) ((0 : Nat) : Int) = _
      rw [L.jn_I h0 h0]
    · have : a = 0 := by omega
      subst this
      exact (L.jn_up h0 h0).1
  | k + 2, hk, _ => by
    have n8 := L.n8
    obtain ⟨t, e, ht, h⟩ := Lat.topI_top (k + 1) (by omega) (by omega)
    have hk1 : k + 1 < n := by omega
    refine ⟨jn n G t (k + 1), ?_, L.jn_lt ht hk1, fun a ha => ?_⟩
    · show lstI G n (topI (lstI G n) (k + 1)) ((k + 1 : Nat) : Int) = _
      rw [e, L.jn_I ht hk1]
    · have hu := L.jn_up ht hk1
      have hl := L.jn_lt ht hk1
      rcases Nat.lt_or_ge a (k + 1) with q | q
      · exact L.pre.trans a t _ (by omega) (by omega) (by omega) (h a q) hu.1
      · have : a = k + 1 := by omega
        subst this; exact hu.2
end

/-! ### among calls -/
/-- behind world w nothing that was there has turned, and block b is the lattice -/
def Good (w : World) (b n : Nat) (G : Flw) (w1 : World) : Prop := Below w.heap.size w w1 ∧ IsL w1 b n G
theorem Good.next {w w1 w2 : World} {b n : Nat} {G : Flw} (h : Good w b n G w1) (k : Below w1.heap.size w1 w2) : Good w b n G w2 :=
  ⟨below_trans h.1 k, h.2.below k h.2.lt⟩
theorem Good.drew {w w1 : World} {b n : Nat} {G : Flw} (h : Good w b n G w1) : Good w b n G w1.drew := ⟨h.1.drew, h.2⟩
section
variable {n : Nat} {G : Flw} {w : World} {b : Nat}
theorem god_flows (n8 : n ≤ 8) {a c : Nat} (ha : a < n) (hc : c < n) (w1 : World) (h : Good w b n G w1) :
    Calls Try.prog 14 #[.pointer (some ⟨b, 0, none⟩), .int .i64 (a : Int), .int .i64 (c : Int)] w1 fun e w' => e = .returned (.bool (G a c)) ∧ Good w b n G w' :=
  (flows_any b n G a c w1 n8 h.2).mono fun e w' ⟨h1, h2⟩ => ⟨by rw [h1, flB_nat n G a c ha hc], by rw [← h2]; exact h⟩
theorem god_flowsI (n8 : n ≤ 8) (x y : Int) (w1 : World) (h : Good w b n G w1) :
    Calls Try.prog 14 #[.pointer (some ⟨b, 0, none⟩), .int .i64 x, .int .i64 y] w1 fun e w' => e = .returned (.bool (flB n G x y)) ∧ Good w b n G w' :=
  (flows_any b n G x y w1 n8 h.2).mono fun e w' ⟨h1, h2⟩ => ⟨h1, by rw [← h2]; exact h⟩
theorem god_join (L : Lat n G) {a c : Nat} (ha : a < n) (hc : c < n) (w1 : World) (h : Good w b n G w1) :
    Calls Try.prog 16 #[.pointer (some ⟨b, 0, none⟩), .int .i64 (a : Int), .int .i64 (c : Int)] w1 fun e w' => e = .returned (.int .i64 (jn n G a c : Nat)) ∧ Good w b n G w' :=
  (join_any b n G a c w1 L.n8 h.2).mono fun e w' ⟨h1, h2⟩ => ⟨by rw [h1, L.jn_I ha hc], h.next h2⟩
theorem god_meet (L : Lat n G) {a c : Nat} (ha : a < n) (hc : c < n) (w1 : World) (h : Good w b n G w1) :
    Calls Try.prog 18 #[.pointer (some ⟨b, 0, none⟩), .int .i64 (a : Int), .int .i64 (c : Int)] w1 fun e w' => e = .returned (.int .i64 (jn n (turn G) a c : Nat)) ∧ Good w b n G w' :=
  (meet_any b n G a c w1 L.n8 h.2).mono fun e w' ⟨h1, h2⟩ => ⟨by rw [h1, L.turned.jn_I ha hc], h.next h2⟩
theorem god_joinI (n8 : n ≤ 8) (x y : Int) (w1 : World) (h : Good w b n G w1) :
    Calls Try.prog 16 #[.pointer (some ⟨b, 0, none⟩), .int .i64 x, .int .i64 y] w1 fun e w' => e = .returned (.int .i64 (lstI G n x y)) ∧ Good w b n G w' :=
  (join_any b n G x y w1 n8 h.2).mono fun e w' ⟨h1, h2⟩ => ⟨h1, h.next h2⟩
theorem god_meetI (n8 : n ≤ 8) (x y : Int) (w1 : World) (h : Good w b n G w1) :
    Calls Try.prog 18 #[.pointer (some ⟨b, 0, none⟩), .int .i64 x, .int .i64 y] w1 fun e w' => e = .returned (.int .i64 (lstI (turn G) n x y)) ∧ Good w b n G w' :=
  (meet_any b n G x y w1 n8 h.2).mono fun e w' ⟨h1, h2⟩ => ⟨h1, h.next h2⟩
theorem god_top (n8 : n ≤ 8) (w1 : World) (h : Good w b n G w1) :
    Calls Try.prog 26 #[.pointer (some ⟨b, 0, none⟩)] w1 fun e w' => e = .returned (.int .i64 (topI (lstI G n) n)) ∧ Good w b n G w' :=
  (top_any b n G w1 n8 h.2).mono fun e w' ⟨h1, h2⟩ => ⟨h1, h.next h2⟩
theorem god_bottom (n8 : n ≤ 8) (w1 : World) (h : Good w b n G w1) :
    Calls Try.prog 28 #[.pointer (some ⟨b, 0, none⟩)] w1 fun e w' => e = .returned (.int .i64 (topI (lstI (turn G) n) n)) ∧ Good w b n G w' :=
  (bottom_any b n G w1 n8 h.2).mono fun e w' ⟨h1, h2⟩ => ⟨h1, h.next h2⟩
end
/-- New in full -/
theorem new_any (n : Int) (ao : Option Addr) (cap : Nat) (ps : List (Int × Int)) (w : World) (hl : ps.length ≤ 140737488355328) (hP : LiesP w ao ps) :
    Calls Try.prog 10 #[.int .i64 n, .slice ao ps.length cap] w (NewPost n ps w) := by
  by_cases h : n < 1 ∨ 8 < n ∨ 64 < ps.length
  · exact new_size n ao cap ps w hl h
  · obtain ⟨m, rfl⟩ : ∃ m : Nat, n = (m : Int) := ⟨n.toNat, by omega⟩
    exact new_main m ao cap ps w (by omega) (by omega) (by omega) hP
end Go.Proofs.Ytbkpfiagoinoiaa
