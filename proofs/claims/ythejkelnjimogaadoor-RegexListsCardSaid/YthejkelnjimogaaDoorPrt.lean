/- Which expressions may be; bytes of a set: what the calls return. Conditions: the expression lies in memory; the byte is one. -/
import Derived.Test.YthejkelnjimogaaDoorPrs
namespace Go.Proofs.YthejkelnjimogaaDoor
open Go.RowKit
set_option linter.unusedVariables false

def checkR (t : Rx) : Int := if sizeR t = 0 then 52 else if sizeR t = 257 then 51 else 0
set_option maxHeartbeats 1000000 in
/-- may an expression be? -/
theorem check_any {ok : Nat → Prop} (w : World) (v : Value) (t : Rx) (h : LiesL ok w v t.list) : Calls Tryd.prog 12 #[t.val v] w fun e w' => e = .returned (.int .i64 (checkR t)) ∧ Below w.heap.size w w' := by
  obtain ⟨ao, cap, rfl⟩ := h.value
  have S := fun o => size_any (w.alloc o) (.slice ao t.list.length cap) t (h.stay (below_new w o))
  have bel : Hid (∀ o w2, Below (w.alloc o).heap.size (w.alloc o) w2 → Below w.heap.size w w2) := fun o w2 g => below_trans (below_new w o) g
  obtain ⟨k, mn, mx, x0, x1, x2, x3, ls⟩ := t
  unfold checkR
  unfold Rx.val
  dsimp only [Rx.cells, cellsX, Rx.list] at S ⊢
  generalize sizeR (.mk k mn mx x0 x1 x2 x3 ls) = n at *
  have S2 := Lib.hid S
  clear S h
  by_cases h0 : n = 0
  · subst h0
    go_enter Tryd.func12, Tryd.ntmps12
    go_wp2_with (go_at_call 14; (with_reducible refine (S2.out _).mono ?_); rintro e w1 ⟨rfl, g1⟩)
    go_ret
    exact ⟨rfl, bel.out _ _ g1⟩
  · have e0 : ((n : Int) == 0) = false := by simp; omega
    rw [if_neg h0]
    by_cases h1 : n = 257
    · subst h1
      go_enter Tryd.func12, Tryd.ntmps12
      go_wp2_with (go_at_call 14; (with_reducible refine (S2.out _).mono ?_); rintro e w1 ⟨rfl, g1⟩)
      go_ret
      exact ⟨rfl, bel.out _ _ g1⟩
    · have e1 : ((n : Int) == 257) = false := by simp; omega
      rw [if_neg h1]
      clear h0 h1
      go_enter Tryd.func12, Tryd.ntmps12
      go_wp2_with (go_at_call 14; (with_reducible refine (S2.out _).mono ?_); rintro e w1 ⟨rfl, g1⟩)
      go_ret
      exact ⟨rfl, bel.out _ _ g1⟩
def needR (of el : Int) : Bool := if of = 3 then decide (el ≠ 0) else if of = 1 then decide (el = 2) || decide (el = 1) else decide (el = 2)
set_option maxHeartbeats 1000000 in
theorem need_any (of el : Int) (w : World) : Calls Tryd.prog 31 #[.int .i64 of, .int .i64 el] w fun e w' => e = .returned (.bool (needR of el)) ∧ w = w' := by
  unfold needR
  by_cases h3 : of = 3
  · subst h3
    go_enter Tryd.func31, Tryd.ntmps31
    go_wp2
    all_goals
      go_ret
      exact ⟨ret_bool (by first | rfl | (rw [show (el == 2) = false by simpa using (by assumption : ¬ el = 2)]; rfl) | simp [*] | simp), rfl⟩
  · by_cases h1 : of = 1
    · subst h1
      go_enter Tryd.func31, Tryd.ntmps31
      go_wp2
      all_goals
        go_ret
        exact ⟨ret_bool (by first | rfl | (rw [show (el == 2) = false by simpa using (by assumption : ¬ el = 2)]; rfl) | simp [*] | simp), rfl⟩
    · rw [if_neg h3, if_neg h1]
      go_enter Tryd.func31, Tryd.ntmps31
      go_wp2
      all_goals
        go_ret
        exact ⟨ret_bool (by first | rfl | (rw [show (el == 2) = false by simpa using (by assumption : ¬ el = 2)]; rfl) | simp [*] | simp), rfl⟩
def S4.word (s : S4) (q : Nat) : Nat := if q = 0 then s.a else if q = 1 then s.b else if q = 2 then s.c else s.d
def S4.has (s : S4) (b : Nat) : Bool := (s.word (b / 64)).testBit (b % 64)
theorem bits_and1 {a : Nat} (ha : a < 18446744073709551616) : (bits .and .u64 (a : Int) 1 == 1) = decide (a % 2 = 1) := by
  have h : bits .and .u64 (a : Int) 1 = ((a % 2 : Nat) : Int) := by
    show IntKind.u64.wrap ((BitVec.ofInt 64 (a : Int) &&& BitVec.ofInt 64 1).toNat : Int) = _
    rw [BitVec.ofInt_natCast, show BitVec.ofInt 64 1 = 1#64 by decide]
    have e : (BitVec.ofNat 64 a &&& 1#64).toNat = a % 2 := by
      rw [BitVec.toNat_and, BitVec.toNat_ofNat, Nat.mod_eq_of_lt (by omega), show (1#64).toNat = 1 from rfl, Nat.and_one_is_mod]
    rw [e]
    unfold IntKind.wrap
    simp only [IntKind.bits, IntKind.signed]
    simp
    omega
  rw [h]
  rcases Nat.mod_two_eq_zero_or_one a with h | h <;> rw [h] <;> rfl
set_option maxRecDepth 20000 in
set_option maxHeartbeats 4000000 in
theorem has_any (s : S4) (b : Nat) (w : World) (hs : s.ok) (hb : b ≤ 255) : Calls Tryd.prog 44 #[s.val, .int .i64 (b : Nat)] w fun e w' => e = .returned (.bool (s.has b)) ∧ Below w.heap.size w w' := by
  have bel : Hid (∀ o, Below w.heap.size w (w.alloc o)) := fun o => below_new w o
  have hq : b / 64 = 0 ∨ b / 64 = 1 ∨ b / 64 = 2 ∨ b / 64 = 3 := by omega
  have t1 : (b : Int).tdiv 64 = ((b / 64 : Nat) : Int) := by rw [Int.tdiv_eq_ediv_of_nonneg (by omega)]; omega
  have t2 : (b : Int).tmod 64 = ((b % 64 : Nat) : Int) := by rw [Int.tmod_eq_emod_of_nonneg (by omega)]; omega
  obtain ⟨a0, a1, a2, a3⟩ := s
  obtain ⟨o0, o1, o2, o3⟩ := hs
  dsimp only at o0 o1 o2 o3
  unfold S4.val S4.has S4.word
  dsimp only
  obtain ⟨m, hm⟩ : ∃ m, m = b % 64 := ⟨_, rfl⟩
  rw [← hm] at t2 ⊢
  have m1 : (0 : Int) ≤ (m : Int) := by omega
  have m2 : (m : Int) < 64 := by omega
  have hm2 := Lib.hid hm
  have hbi : (b : Int) ≤ 255 := by omega
  have hb0 : (0 : Int) ≤ (b : Int) := by omega
  have fin : Hid (∀ a : Nat, a < 18446744073709551616 → (bits .and .u64 ((a : Int) / 2 ^ m) 1 == 1) = a.testBit m) := fun a ha => by
    have e : ((a : Int) / 2 ^ m) = ((a / 2 ^ m : Nat) : Int) := by simp
    rw [e, bits_and1 (Nat.lt_of_le_of_lt (Nat.div_le_self _ _) ha), Nat.testBit_eq_decide_div_mod_eq]
  rcases hq with hq | hq | hq | hq
  · rw [hq] at t1 ⊢
    rw [show ((0 : Nat) : Int) = 0 from rfl] at t1
    clear hm hb hq
    go_enter Tryd.func44, Tryd.ntmps44
    go_wp2
    go_ret
    exact ⟨ret_bool (fin.out _ o0), bel.out _⟩
  · rw [hq] at t1 ⊢
    rw [show ((1 : Nat) : Int) = 1 from rfl] at t1
    clear hm hb hq
    go_enter Tryd.func44, Tryd.ntmps44
    go_wp2
    go_ret
    exact ⟨ret_bool (fin.out _ o1), bel.out _⟩
  · rw [hq] at t1 ⊢
    rw [show ((2 : Nat) : Int) = 2 from rfl] at t1
    clear hm hb hq
    go_enter Tryd.func44, Tryd.ntmps44
    go_wp2
    go_ret
    exact ⟨ret_bool (fin.out _ o2), bel.out _⟩
  · rw [hq] at t1 ⊢
    rw [show ((3 : Nat) : Int) = 3 from rfl] at t1
    clear hm hb hq
    go_enter Tryd.func44, Tryd.ntmps44
    go_wp2
    go_ret
    exact ⟨ret_bool (fin.out _ o3), bel.out _⟩
end Go.Proofs.YthejkelnjimogaaDoor
