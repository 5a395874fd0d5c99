/- Sets of states as five numbers: is one in, one more, two together, are two the same: what the calls return; nothing that was there turns. Conditions: the number of the state is one. -/
import Derived.Test.YtdmajbdgjjmlkaaWit
import Derived.Test.YtdmajbdgjjmlkaaNfa3
import Derived.Laws.ResultCell
import Derived.ChangeKeysEq
import Derived.Deep.Cut
namespace Go.Proofs.Ytdmajbdgjjmlkaa
open Go.RowKit
set_option linter.unusedVariables false

def pw (P q : Nat) : Nat := (P >>> (64 * q)) % 18446744073709551616
theorem pw_lt (P q : Nat) : pw P q < 18446744073709551616 := Nat.mod_lt _ (by decide)
theorem pw_bit (P q j : Nat) (h : j < 64) : (pw P q).testBit j = P.testBit (64 * q + j) := by
  unfold pw
  rw [show (18446744073709551616 : Nat) = 2 ^ 64 from rfl, Nat.testBit_mod_two_pow, Nat.testBit_shiftRight, decide_eq_true h, Bool.true_and]
theorem pw_high (P q j : Nat) (h : 64 ≤ j) : (pw P q).testBit j = false := by
  refine Nat.testBit_lt_two_pow (Nat.lt_of_lt_of_le (pw_lt P q) ?_)
  exact Nat.pow_le_pow_right (n := 2) (by decide) h
theorem pw_or (P Q q : Nat) : pw (P ||| Q) q = pw P q ||| pw Q q := by
  refine Nat.eq_of_testBit_eq fun j => ?_
  by_cases h : j < 64
  · rw [pw_bit _ _ _ h, or_bit, or_bit, pw_bit _ _ _ h, pw_bit _ _ _ h]
  · rw [or_bit, pw_high _ _ _ (by omega), pw_high _ _ _ (by omega), pw_high _ _ _ (by omega)]; rfl
theorem pw_bitN (i q : Nat) : pw (bitN i) q = if i / 64 = q then 2 ^ (i % 64) else 0 := by
  refine Nat.eq_of_testBit_eq fun j => ?_
  by_cases h : j < 64
  · rw [pw_bit _ _ _ h, bitN_bit]
    by_cases c : i / 64 = q
    · rw [if_pos c, Nat.testBit_two_pow, decide_eq_decide]; omega
    · rw [if_neg c, Nat.zero_testBit, decide_eq_false_iff_not]; omega
  · rw [pw_high _ _ _ (by omega)]
    by_cases c : i / 64 = q
    · rw [if_pos c, Nat.testBit_two_pow]; symm; rw [decide_eq_false_iff_not]; omega
    · rw [if_neg c, Nat.zero_testBit]
theorem pw_zero (q : Nat) : pw 0 q = 0 := by unfold pw; rw [Nat.zero_shiftRight]
/-- the five numbers of a set -/
def plc (P : Nat) : Array Value := #[.int .u64 (pw P 0 : Nat), .int .u64 (pw P 1 : Nat), .int .u64 (pw P 2 : Nat), .int .u64 (pw P 3 : Nat), .int .u64 (pw P 4 : Nat)]
theorem plc_ext {P Q : Nat} (hP : P < topN) (hQ : Q < topN) (h0 : pw P 0 = pw Q 0) (h1 : pw P 1 = pw Q 1) (h2 : pw P 2 = pw Q 2) (h3 : pw P 3 = pw Q 3) (h4 : pw P 4 = pw Q 4) : P = Q := by
  refine Nat.eq_of_testBit_eq fun i => ?_
  by_cases c : i < 320
  · have e : i = 64 * (i / 64) + i % 64 := by omega
    have hm : i % 64 < 64 := by omega
    have hq : i / 64 = 0 ∨ i / 64 = 1 ∨ i / 64 = 2 ∨ i / 64 = 3 ∨ i / 64 = 4 := by omega
    rw [e, ← pw_bit P _ _ hm, ← pw_bit Q _ _ hm]
    rcases hq with q | q | q | q | q <;> rw [q]
    · rw [h0]
    · rw [h1]
    · rw [h2]
    · rw [h3]
    · rw [h4]
  · have a : P.testBit i = false := by
      cases hb : P.testBit i
      · rfl
      · exact absurd (topN_bit hP hb) c
    have b : Q.testBit i = false := by
      cases hb : Q.testBit i
      · rfl
      · exact absurd (topN_bit hQ hb) c
    rw [a, b]
theorem plc_zero : plc 0 = #[.int .u64 0, .int .u64 0, .int .u64 0, .int .u64 0, .int .u64 0] := by
  unfold plc
  rw [pw_zero, pw_zero, pw_zero, pw_zero, pw_zero]
  rfl
theorem bits_and1 {a : Nat} (ha : a < 18446744073709551616) : (bits .and .u64 (a : Int) 1 == 1) = decide (a % 2 = 1) := by
  have h : bits .and .u64 (a : Int) 1 = ((a % 2 : Nat) : Int) := by
    show IntKind.u64.wrap ((BitVec.ofInt 64 (a : Int) &&& BitVec.ofInt 64 1).toNat : Int) = _
    rw [BitVec.ofInt_natCast, show BitVec.ofInt 64 1 = 1#64 by decide]
    have e : (BitVec.ofNat 64 a &&& 1#64).toNat = a % 2 := by
      rw [BitVec.toNat_and, BitVec.toNat_ofNat, Nat.mod_eq_of_lt (by omega), show (1#64).toNat = 1 from rfl, Nat.and_one_is_mod]
    rw [e]
    unfold IntKind.wrap
    simp only [IntKind.bits, IntKind.signed]
    simp
    omega
  rw [h]
  rcases Nat.mod_two_eq_zero_or_one a with h | h <;> rw [h] <;> rfl
theorem bit_fin {a m : Nat} (ha : a < 18446744073709551616) : (bits .and .u64 ((a : Int) / 2 ^ m) 1 == 1) = a.testBit m := by
  have e : ((a : Int) / 2 ^ m) = ((a / 2 ^ m : Nat) : Int) := by simp
  rw [e, bits_and1 (Nat.lt_of_le_of_lt (Nat.div_le_self _ _) ha), Nat.testBit_eq_decide_div_mod_eq]

set_option maxRecDepth 20000 in
set_option maxHeartbeats 4000000 in
theorem has5 (a0 a1 a2 a3 a4 i : Nat) (h0 : a0 < 18446744073709551616) (h1 : a1 < 18446744073709551616) (h2 : a2 < 18446744073709551616) (h3 : a3 < 18446744073709551616) (h4 : a4 < 18446744073709551616) (hi : i < 320) (w : World) (r : Bool) (hr0 : i / 64 = 0 → r = a0.testBit (i % 64)) (hr1 : i / 64 = 1 → r = a1.testBit (i % 64)) (hr2 : i / 64 = 2 → r = a2.testBit (i % 64)) (hr3 : i / 64 = 3 → r = a3.testBit (i % 64)) (hr4 : i / 64 = 4 → r = a4.testBit (i % 64)) :
    Calls Try.prog 35 #[.agg #[.int .u64 (a0 : Nat), .int .u64 (a1 : Nat), .int .u64 (a2 : Nat), .int .u64 (a3 : Nat), .int .u64 (a4 : Nat)], .int .i64 (i : Nat)] w fun e w' => e = .returned (.bool r) ∧ Below w.heap.size w w' := by
  have bel : Hid (∀ o, Below w.heap.size w (w.alloc o)) := Lib.hid fun o => below_new w o
  have hq : i / 64 = 0 ∨ i / 64 = 1 ∨ i / 64 = 2 ∨ i / 64 = 3 ∨ i / 64 = 4 := by omega
  have t1 : (i : Int).tdiv 64 = ((i / 64 : Nat) : Int) := by rw [Int.tdiv_eq_ediv_of_nonneg (by omega)]; omega
  have t2 : (i : Int).tmod 64 = ((i % 64 : Nat) : Int) := by rw [Int.tmod_eq_emod_of_nonneg (by omega)]; omega
  obtain ⟨m, hm⟩ : ∃ m, m = i % 64 := ⟨_, rfl⟩
  rw [← hm] at t2 hr0 hr1 hr2 hr3 hr4
  have m1 : (0 : Int) ≤ (m : Int) := by omega
  have m2 : (m : Int) < 64 := by omega
  have hbi : (i : Int) < 320 := by omega
  have hb0 : (0 : Int) ≤ (i : Int) := by omega
  rcases hq with hq | hq | hq | hq | hq
  · have HR : Hid (r = a0.testBit m) := Lib.hid (hr0 hq)
    have HA := Lib.hid h0
    rw [hq] at t1
    rw [show ((0 : Nat) : Int) = 0 from rfl] at t1
    clear hm hi hq hr0 hr1 hr2 hr3 hr4 h0 h1 h2 h3 h4
    go_enter Try.func35, Try.ntmps35
    go_wp2
    go_ret
    exact ⟨ret_bool (by rw [HR.out]; exact bit_fin HA.out), bel.out _⟩
  · have HR : Hid (r = a1.testBit m) := Lib.hid (hr1 hq)
    have HA := Lib.hid h1
    rw [hq] at t1
    rw [show ((1 : Nat) : Int) = 1 from rfl] at t1
    clear hm hi hq hr0 hr1 hr2 hr3 hr4 h0 h1 h2 h3 h4
    go_enter Try.func35, Try.ntmps35
    go_wp2
    go_ret
    exact ⟨ret_bool (by rw [HR.out]; exact bit_fin HA.out), bel.out _⟩
  · have HR : Hid (r = a2.testBit m) := Lib.hid (hr2 hq)
    have HA := Lib.hid h2
    rw [hq] at t1
    rw [show ((2 : Nat) : Int) = 2 from rfl] at t1
    clear hm hi hq hr0 hr1 hr2 hr3 hr4 h0 h1 h2 h3 h4
    go_enter Try.func35, Try.ntmps35
    go_wp2
    go_ret
    exact ⟨ret_bool (by rw [HR.out]; exact bit_fin HA.out), bel.out _⟩
  · have HR : Hid (r = a3.testBit m) := Lib.hid (hr3 hq)
    have HA := Lib.hid h3
    rw [hq] at t1
    rw [show ((3 : Nat) : Int) = 3 from rfl] at t1
    clear hm hi hq hr0 hr1 hr2 hr3 hr4 h0 h1 h2 h3 h4
    go_enter Try.func35, Try.ntmps35
    go_wp2
    go_ret
    exact ⟨ret_bool (by rw [HR.out]; exact bit_fin HA.out), bel.out _⟩
  · have HR : Hid (r = a4.testBit m) := Lib.hid (hr4 hq)
    have HA := Lib.hid h4
    rw [hq] at t1
    rw [show ((4 : Nat) : Int) = 4 from rfl] at t1
    clear hm hi hq hr0 hr1 hr2 hr3 hr4 h0 h1 h2 h3 h4
    go_enter Try.func35, Try.ntmps35
    go_wp2
    go_ret
    exact ⟨ret_bool (by rw [HR.out]; exact bit_fin HA.out), bel.out _⟩
/-- is a state in a set? -/
theorem phas_any (P i : Nat) (hi : i < 320) (w : World) : Calls Try.prog 35 #[.agg (plc P), .int .i64 (i : Nat)] w fun e w' => e = .returned (.bool (P.testBit i)) ∧ Below w.heap.size w w' := by
  have key : ∀ q, i / 64 = q → P.testBit i = (pw P q).testBit (i % 64) := fun q hq => by
    rw [pw_bit _ _ _ (by omega), show 64 * q + i % 64 = i by omega]
  exact has5 _ _ _ _ _ i (pw_lt _ _) (pw_lt _ _) (pw_lt _ _) (pw_lt _ _) (pw_lt _ _) hi w _ (key 0) (key 1) (key 2) (key 3) (key 4)
theorem set5 {w : World} {g : Nat} {x0 x1 x2 x3 x4 : Value} {t : TypeId} {fr : Nat × Nat} (h : w.heap[g]? = some (.cells #[x0, x1, x2, x3, x4] t fr)) (v0 v1 v2 v3 v4 : Value) :
    (((((w.setCell ⟨g, 0, none⟩ v0).setCell ⟨g, 1, none⟩ v1).setCell ⟨g, 2, none⟩ v2).setCell ⟨g, 3, none⟩ v3).setCell ⟨g, 4, none⟩ v4).heap[g]? = some (.cells #[v0, v1, v2, v3, v4] t fr) := by
  have s1 : ∀ {w : World} {i : Nat} {cs : Array Value} (h : w.heap[g]? = some (.cells cs t fr)) (v : Value), (w.setCell ⟨g, i, none⟩ v).heap[g]? = some (.cells (cs.setIfInBounds i v) t fr) := by
    intro w i cs h v
    show (w.heap.modify g _)[g]? = _
    rw [Array.getElem?_modify, if_pos rfl, h]
    rfl
  exact s1 (s1 (s1 (s1 (s1 h v0) v1) v2) v3) v4
theorem below5 {n : Nat} {w0 w : World} {g : Nat} (h : Below n w0 w) (hg : n ≤ g) (v0 v1 v2 v3 v4 : Value) : Below n w0 (((((w.setCell ⟨g, 0, none⟩ v0).setCell ⟨g, 1, none⟩ v1).setCell ⟨g, 2, none⟩ v2).setCell ⟨g, 3, none⟩ v3).setCell ⟨g, 4, none⟩ v4) :=
  ((((h.setCell hg _).setCell hg _).setCell hg _).setCell hg _).setCell hg _

set_option maxRecDepth 20000 in
set_option maxHeartbeats 4000000 in
theorem with5 (a0 a1 a2 a3 a4 i : Nat) (h0 : a0 < 18446744073709551616) (h1 : a1 < 18446744073709551616) (h2 : a2 < 18446744073709551616) (h3 : a3 < 18446744073709551616) (h4 : a4 < 18446744073709551616) (hi : i < 320) (w : World) (r : Array Value) (V : Nat) (hr0 : i / 64 = 0 → r = #[.int .u64 (V : Nat), .int .u64 (a1 : Nat), .int .u64 (a2 : Nat), .int .u64 (a3 : Nat), .int .u64 (a4 : Nat)] ∧ V = a0 ||| 2 ^ (i % 64)) (hr1 : i / 64 = 1 → r = #[.int .u64 (a0 : Nat), .int .u64 (V : Nat), .int .u64 (a2 : Nat), .int .u64 (a3 : Nat), .int .u64 (a4 : Nat)] ∧ V = a1 ||| 2 ^ (i % 64)) (hr2 : i / 64 = 2 → r = #[.int .u64 (a0 : Nat), .int .u64 (a1 : Nat), .int .u64 (V : Nat), .int .u64 (a3 : Nat), .int .u64 (a4 : Nat)] ∧ V = a2 ||| 2 ^ (i % 64)) (hr3 : i / 64 = 3 → r = #[.int .u64 (a0 : Nat), .int .u64 (a1 : Nat), .int .u64 (a2 : Nat), .int .u64 (V : Nat), .int .u64 (a4 : Nat)] ∧ V = a3 ||| 2 ^ (i % 64)) (hr4 : i / 64 = 4 → r = #[.int .u64 (a0 : Nat), .int .u64 (a1 : Nat), .int .u64 (a2 : Nat), .int .u64 (a3 : Nat), .int .u64 (V : Nat)] ∧ V = a4 ||| 2 ^ (i % 64)) :
    Calls Try.prog 29 #[.agg #[.int .u64 (a0 : Nat), .int .u64 (a1 : Nat), .int .u64 (a2 : Nat), .int .u64 (a3 : Nat), .int .u64 (a4 : Nat)], .int .i64 (i : Nat)] w fun e w' => e = .returned (.agg r) ∧ Below w.heap.size w w' := by
  obtain ⟨X, hX⟩ : ∃ X, X = w.heap.size := ⟨_, rfl⟩
  have hzz : w.heap.size = X := hX.symm
  have h00 : ∀ o2, ((w.alloc (.cells #[.int .u64 (a0 : Nat), .int .u64 (a1 : Nat), .int .u64 (a2 : Nat), .int .u64 (a3 : Nat), .int .u64 (a4 : Nat)] 57)).alloc o2).heap[X]? = some (.cells #[.int .u64 (a0 : Nat), .int .u64 (a1 : Nat), .int .u64 (a2 : Nat), .int .u64 (a3 : Nat), .int .u64 (a4 : Nat)] 57 (0, 0)) := fun o2 => by
    rw [Below.heap_alloc _ o2 X (by rw [hX]; simp), hX]; exact heap_alloc_new w _
  have hR : ∀ o2, ((w.alloc (.cells #[.int .u64 (a0 : Nat), .int .u64 (a1 : Nat), .int .u64 (a2 : Nat), .int .u64 (a3 : Nat), .int .u64 (a4 : Nat)] 57)).alloc o2).heap[X + 1]? = some o2 := fun o2 => by
    have := heap_alloc_new (w.alloc (.cells #[.int .u64 (a0 : Nat), .int .u64 (a1 : Nat), .int .u64 (a2 : Nat), .int .u64 (a3 : Nat), .int .u64 (a4 : Nat)] 57)) o2
    rw [hX]; simpa using this
  have hb0 : ∀ o2, Below X w ((w.alloc (.cells #[.int .u64 (a0 : Nat), .int .u64 (a1 : Nat), .int .u64 (a2 : Nat), .int .u64 (a3 : Nat), .int .u64 (a4 : Nat)] 57)).alloc o2) := fun o2 => by rw [hX]; exact below_trans (below_new w _) (below_new _ o2)
  have H0 := Lib.hid h00
  have HR := Lib.hid hR
  have HB := Lib.hid hb0
  rw [hzz]
  have hq : i / 64 = 0 ∨ i / 64 = 1 ∨ i / 64 = 2 ∨ i / 64 = 3 ∨ i / 64 = 4 := by omega
  have t1 : (i : Int).tdiv 64 = ((i / 64 : Nat) : Int) := by rw [Int.tdiv_eq_ediv_of_nonneg (by omega)]; omega
  have t2 : (i : Int).tmod 64 = ((i % 64 : Nat) : Int) := by rw [Int.tmod_eq_emod_of_nonneg (by omega)]; omega
  obtain ⟨m, hm⟩ : ∃ m, m = i % 64 := ⟨_, rfl⟩
  rw [← hm] at t2 hr0 hr1 hr2 hr3 hr4
  have hm2 : m < 64 := by omega
  have m1 : (0 : Int) ≤ (m : Int) := by omega
  have m2 : (m : Int) ≤ 64 := by omega
  have m3 : (m : Int) < 64 := by omega
  have t3 : IntKind.i64.wrap (m : Int) = (m : Int) := IntWalk.i64_in _ (by omega)
  obtain ⟨P, hP⟩ : ∃ P : Nat, P = 2 ^ m := ⟨_, rfl⟩
  have hP64 : P < 18446744073709551616 := by rw [hP]; exact Nat.pow_lt_pow_right (m := m) (n := 64) (by decide) hm2
  have t5 : IntKind.u64.wrap ((2 : Int) ^ m) = (P : Int) := by
    rw [show ((2 : Int) ^ m) = (P : Int) by rw [hP]; simp]
    unfold IntKind.wrap
    simp only [IntKind.bits, IntKind.signed]
    simp
    omega
  have HP64 := Lib.hid hP64
  rw [← hP] at hr0 hr1 hr2 hr3 hr4
  clear hP hP64 hX h00 hR hb0
  rcases hq with hq | hq | hq | hq | hq
  · obtain ⟨rfl, hV⟩ := hr0 hq
    rw [hq] at t1
    have t4 : IntKind.i64.wrap 0 = 0 := by decide
    rw [show ((0 : Nat) : Int) = 0 from rfl] at t1
    have t6 : bits .or .u64 (a0 : Int) (P : Int) = (V : Int) := by rw [hV]; exact bits_or64 h0 HP64.out
    clear hm hi hq hr0 hr1 hr2 hr3 hr4 h0 h1 h2 h3 h4 hm2 hV
    go_enter Try.func29, Try.ntmps29
    go_wp2
    have hx0 := H0.out (.cells #[.int .u64 0, .int .u64 0, .int .u64 0, .int .u64 0, .int .u64 0] 57)
    have hx1 := HR.out (.cells #[.int .u64 0, .int .u64 0, .int .u64 0, .int .u64 0, .int .u64 0] 57)
    have hbl := HB.out (.cells #[.int .u64 0, .int .u64 0, .int .u64 0, .int .u64 0, .int .u64 0] 57)
    generalize ((w.alloc (.cells #[.int .u64 (a0 : Nat), .int .u64 (a1 : Nat), .int .u64 (a2 : Nat), .int .u64 (a3 : Nat), .int .u64 (a4 : Nat)] 57)).alloc (.cells #[.int .u64 0, .int .u64 0, .int .u64 0, .int .u64 0, .int .u64 0] 57)) = wr at *
    have c0 : wr.cell? ⟨X, 0, none⟩ = some (.int .u64 (a0 : Nat)) := cell_at hx0 rfl
    have f0 := free_at (o := 0) hx0
    have c1 : wr.drew.cell? ⟨X, 0, none⟩ = some (.int .u64 (a0 : Nat)) := c0
    have f1 : wr.drew.frozen? ⟨X, 0, none⟩ = false := f0
    have HD1 : Hid (wr.drew.heap[X]? = some (.cells #[.int .u64 (a0 : Nat), .int .u64 (a1 : Nat), .int .u64 (a2 : Nat), .int .u64 (a3 : Nat), .int .u64 (a4 : Nat)] 57 (0, 0))) := Lib.hid hx0
    have HD2 : Hid (wr.drew.heap[X + 1]? = some (.cells #[.int .u64 0, .int .u64 0, .int .u64 0, .int .u64 0, .int .u64 0] 57 (0, 0))) := Lib.hid hx1
    have HD3 : Hid (Below X w wr.drew) := Lib.hid hbl.drew
    clear hx0 hx1 hbl
    go_still_tail 9, (by kernel_rfl)
    change wpList _ _ _ _ _ wr.drew
    generalize wr.drew = w5 at *
    have k1 : w5.cell? ⟨X, 1, none⟩ = some (.int .u64 (a1 : Nat)) := cell_at HD1.out rfl
    have k2 : w5.cell? ⟨X, 2, none⟩ = some (.int .u64 (a2 : Nat)) := cell_at HD1.out rfl
    have k3 : w5.cell? ⟨X, 3, none⟩ = some (.int .u64 (a3 : Nat)) := cell_at HD1.out rfl
    have k4 : w5.cell? ⟨X, 4, none⟩ = some (.int .u64 (a4 : Nat)) := cell_at HD1.out rfl
    have r0 : w5.cell? ⟨X + 1, 0, none⟩ = some (.int .u64 0) := cell_at HD2.out rfl
    have r1 : w5.cell? ⟨X + 1, 1, none⟩ = some (.int .u64 0) := cell_at HD2.out rfl
    have r2 : w5.cell? ⟨X + 1, 2, none⟩ = some (.int .u64 0) := cell_at HD2.out rfl
    have r3 : w5.cell? ⟨X + 1, 3, none⟩ = some (.int .u64 0) := cell_at HD2.out rfl
    have r4 : w5.cell? ⟨X + 1, 4, none⟩ = some (.int .u64 0) := cell_at HD2.out rfl
    have z0 : ∀ o, w5.frozen? ⟨X + 1, o, none⟩ = false := fun o => free_at HD2.out
    go_wp2
    refine bodyPost_ret (v := .agg #[.int .u64 (V : Nat), .int .u64 (a1 : Nat), .int .u64 (a2 : Nat), .int .u64 (a3 : Nat), .int .u64 (a4 : Nat)]) (by simp [results, Try.results29, go_sem, r0, r1, r2, r3, r4]) rfl ⟨rfl, ?_⟩
    exact below5 (HD3.out.setCell (by exact Nat.le_refl _) _) (by omega) _ _ _ _ _
  · obtain ⟨rfl, hV⟩ := hr1 hq
    rw [hq] at t1
    have t4 : IntKind.i64.wrap 1 = 1 := by decide
    rw [show ((1 : Nat) : Int) = 1 from rfl] at t1
    have t6 : bits .or .u64 (a1 : Int) (P : Int) = (V : Int) := by rw [hV]; exact bits_or64 h1 HP64.out
    clear hm hi hq hr0 hr1 hr2 hr3 hr4 h0 h1 h2 h3 h4 hm2 hV
    go_enter Try.func29, Try.ntmps29
    go_wp2
    have hx0 := H0.out (.cells #[.int .u64 0, .int .u64 0, .int .u64 0, .int .u64 0, .int .u64 0] 57)
    have hx1 := HR.out (.cells #[.int .u64 0, .int .u64 0, .int .u64 0, .int .u64 0, .int .u64 0] 57)
    have hbl := HB.out (.cells #[.int .u64 0, .int .u64 0, .int .u64 0, .int .u64 0, .int .u64 0] 57)
    generalize ((w.alloc (.cells #[.int .u64 (a0 : Nat), .int .u64 (a1 : Nat), .int .u64 (a2 : Nat), .int .u64 (a3 : Nat), .int .u64 (a4 : Nat)] 57)).alloc (.cells #[.int .u64 0, .int .u64 0, .int .u64 0, .int .u64 0, .int .u64 0] 57)) = wr at *
    have c0 : wr.cell? ⟨X, 1, none⟩ = some (.int .u64 (a1 : Nat)) := cell_at hx0 rfl
    have f0 := free_at (o := 1) hx0
    have c1 : wr.drew.cell? ⟨X, 1, none⟩ = some (.int .u64 (a1 : Nat)) := c0
    have f1 : wr.drew.frozen? ⟨X, 1, none⟩ = false := f0
    have HD1 : Hid (wr.drew.heap[X]? = some (.cells #[.int .u64 (a0 : Nat), .int .u64 (a1 : Nat), .int .u64 (a2 : Nat), .int .u64 (a3 : Nat), .int .u64 (a4 : Nat)] 57 (0, 0))) := Lib.hid hx0
    have HD2 : Hid (wr.drew.heap[X + 1]? = some (.cells #[.int .u64 0, .int .u64 0, .int .u64 0, .int .u64 0, .int .u64 0] 57 (0, 0))) := Lib.hid hx1
    have HD3 : Hid (Below X w wr.drew) := Lib.hid hbl.drew
    clear hx0 hx1 hbl
    go_still_tail 9, (by kernel_rfl)
    change wpList _ _ _ _ _ wr.drew
    generalize wr.drew = w5 at *
    have k0 : w5.cell? ⟨X, 0, none⟩ = some (.int .u64 (a0 : Nat)) := cell_at HD1.out rfl
    have k2 : w5.cell? ⟨X, 2, none⟩ = some (.int .u64 (a2 : Nat)) := cell_at HD1.out rfl
    have k3 : w5.cell? ⟨X, 3, none⟩ = some (.int .u64 (a3 : Nat)) := cell_at HD1.out rfl
    have k4 : w5.cell? ⟨X, 4, none⟩ = some (.int .u64 (a4 : Nat)) := cell_at HD1.out rfl
    have r0 : w5.cell? ⟨X + 1, 0, none⟩ = some (.int .u64 0) := cell_at HD2.out rfl
    have r1 : w5.cell? ⟨X + 1, 1, none⟩ = some (.int .u64 0) := cell_at HD2.out rfl
    have r2 : w5.cell? ⟨X + 1, 2, none⟩ = some (.int .u64 0) := cell_at HD2.out rfl
    have r3 : w5.cell? ⟨X + 1, 3, none⟩ = some (.int .u64 0) := cell_at HD2.out rfl
    have r4 : w5.cell? ⟨X + 1, 4, none⟩ = some (.int .u64 0) := cell_at HD2.out rfl
    have z0 : ∀ o, w5.frozen? ⟨X + 1, o, none⟩ = false := fun o => free_at HD2.out
    go_wp2
    refine bodyPost_ret (v := .agg #[.int .u64 (a0 : Nat), .int .u64 (V : Nat), .int .u64 (a2 : Nat), .int .u64 (a3 : Nat), .int .u64 (a4 : Nat)]) (by simp [results, Try.results29, go_sem, r0, r1, r2, r3, r4]) rfl ⟨rfl, ?_⟩
    exact below5 (HD3.out.setCell (by exact Nat.le_refl _) _) (by omega) _ _ _ _ _
  · obtain ⟨rfl, hV⟩ := hr2 hq
    rw [hq] at t1
    have t4 : IntKind.i64.wrap 2 = 2 := by decide
    rw [show ((2 : Nat) : Int) = 2 from rfl] at t1
    have t6 : bits .or .u64 (a2 : Int) (P : Int) = (V : Int) := by rw [hV]; exact bits_or64 h2 HP64.out
    clear hm hi hq hr0 hr1 hr2 hr3 hr4 h0 h1 h2 h3 h4 hm2 hV
    go_enter Try.func29, Try.ntmps29
    go_wp2
    have hx0 := H0.out (.cells #[.int .u64 0, .int .u64 0, .int .u64 0, .int .u64 0, .int .u64 0] 57)
    have hx1 := HR.out (.cells #[.int .u64 0, .int .u64 0, .int .u64 0, .int .u64 0, .int .u64 0] 57)
    have hbl := HB.out (.cells #[.int .u64 0, .int .u64 0, .int .u64 0, .int .u64 0, .int .u64 0] 57)
    generalize ((w.alloc (.cells #[.int .u64 (a0 : Nat), .int .u64 (a1 : Nat), .int .u64 (a2 : Nat), .int .u64 (a3 : Nat), .int .u64 (a4 : Nat)] 57)).alloc (.cells #[.int .u64 0, .int .u64 0, .int .u64 0, .int .u64 0, .int .u64 0] 57)) = wr at *
    have c0 : wr.cell? ⟨X, 2, none⟩ = some (.int .u64 (a2 : Nat)) := cell_at hx0 rfl
    have f0 := free_at (o := 2) hx0
    have c1 : wr.drew.cell? ⟨X, 2, none⟩ = some (.int .u64 (a2 : Nat)) := c0
    have f1 : wr.drew.frozen? ⟨X, 2, none⟩ = false := f0
    have HD1 : Hid (wr.drew.heap[X]? = some (.cells #[.int .u64 (a0 : Nat), .int .u64 (a1 : Nat), .int .u64 (a2 : Nat), .int .u64 (a3 : Nat), .int .u64 (a4 : Nat)] 57 (0, 0))) := Lib.hid hx0
    have HD2 : Hid (wr.drew.heap[X + 1]? = some (.cells #[.int .u64 0, .int .u64 0, .int .u64 0, .int .u64 0, .int .u64 0] 57 (0, 0))) := Lib.hid hx1
    have HD3 : Hid (Below X w wr.drew) := Lib.hid hbl.drew
    clear hx0 hx1 hbl
    go_still_tail 9, (by kernel_rfl)
    change wpList _ _ _ _ _ wr.drew
    generalize wr.drew = w5 at *
    have k0 : w5.cell? ⟨X, 0, none⟩ = some (.int .u64 (a0 : Nat)) := cell_at HD1.out rfl
    have k1 : w5.cell? ⟨X, 1, none⟩ = some (.int .u64 (a1 : Nat)) := cell_at HD1.out rfl
    have k3 : w5.cell? ⟨X, 3, none⟩ = some (.int .u64 (a3 : Nat)) := cell_at HD1.out rfl
    have k4 : w5.cell? ⟨X, 4, none⟩ = some (.int .u64 (a4 : Nat)) := cell_at HD1.out rfl
    have r0 : w5.cell? ⟨X + 1, 0, none⟩ = some (.int .u64 0) := cell_at HD2.out rfl
    have r1 : w5.cell? ⟨X + 1, 1, none⟩ = some (.int .u64 0) := cell_at HD2.out rfl
    have r2 : w5.cell? ⟨X + 1, 2, none⟩ = some (.int .u64 0) := cell_at HD2.out rfl
    have r3 : w5.cell? ⟨X + 1, 3, none⟩ = some (.int .u64 0) := cell_at HD2.out rfl
    have r4 : w5.cell? ⟨X + 1, 4, none⟩ = some (.int .u64 0) := cell_at HD2.out rfl
    have z0 : ∀ o, w5.frozen? ⟨X + 1, o, none⟩ = false := fun o => free_at HD2.out
    go_wp2
    refine bodyPost_ret (v := .agg #[.int .u64 (a0 : Nat), .int .u64 (a1 : Nat), .int .u64 (V : Nat), .int .u64 (a3 : Nat), .int .u64 (a4 : Nat)]) (by simp [results, Try.results29, go_sem, r0, r1, r2, r3, r4]) rfl ⟨rfl, ?_⟩
    exact below5 (HD3.out.setCell (by exact Nat.le_refl _) _) (by omega) _ _ _ _ _
  · obtain ⟨rfl, hV⟩ := hr3 hq
    rw [hq] at t1
    have t4 : IntKind.i64.wrap 3 = 3 := by decide
    rw [show ((3 : Nat) : Int) = 3 from rfl] at t1
    have t6 : bits .or .u64 (a3 : Int) (P : Int) = (V : Int) := by rw [hV]; exact bits_or64 h3 HP64.out
    clear hm hi hq hr0 hr1 hr2 hr3 hr4 h0 h1 h2 h3 h4 hm2 hV
    go_enter Try.func29, Try.ntmps29
    go_wp2
    have hx0 := H0.out (.cells #[.int .u64 0, .int .u64 0, .int .u64 0, .int .u64 0, .int .u64 0] 57)
    have hx1 := HR.out (.cells #[.int .u64 0, .int .u64 0, .int .u64 0, .int .u64 0, .int .u64 0] 57)
    have hbl := HB.out (.cells #[.int .u64 0, .int .u64 0, .int .u64 0, .int .u64 0, .int .u64 0] 57)
    generalize ((w.alloc (.cells #[.int .u64 (a0 : Nat), .int .u64 (a1 : Nat), .int .u64 (a2 : Nat), .int .u64 (a3 : Nat), .int .u64 (a4 : Nat)] 57)).alloc (.cells #[.int .u64 0, .int .u64 0, .int .u64 0, .int .u64 0, .int .u64 0] 57)) = wr at *
    have c0 : wr.cell? ⟨X, 3, none⟩ = some (.int .u64 (a3 : Nat)) := cell_at hx0 rfl
    have f0 := free_at (o := 3) hx0
    have c1 : wr.drew.cell? ⟨X, 3, none⟩ = some (.int .u64 (a3 : Nat)) := c0
    have f1 : wr.drew.frozen? ⟨X, 3, none⟩ = false := f0
    have HD1 : Hid (wr.drew.heap[X]? = some (.cells #[.int .u64 (a0 : Nat), .int .u64 (a1 : Nat), .int .u64 (a2 : Nat), .int .u64 (a3 : Nat), .int .u64 (a4 : Nat)] 57 (0, 0))) := Lib.hid hx0
    have HD2 : Hid (wr.drew.heap[X + 1]? = some (.cells #[.int .u64 0, .int .u64 0, .int .u64 0, .int .u64 0, .int .u64 0] 57 (0, 0))) := Lib.hid hx1
    have HD3 : Hid (Below X w wr.drew) := Lib.hid hbl.drew
    clear hx0 hx1 hbl
    go_still_tail 9, (by kernel_rfl)
    change wpList _ _ _ _ _ wr.drew
    generalize wr.drew = w5 at *
    have k0 : w5.cell? ⟨X, 0, none⟩ = some (.int .u64 (a0 : Nat)) := cell_at HD1.out rfl
    have k1 : w5.cell? ⟨X, 1, none⟩ = some (.int .u64 (a1 : Nat)) := cell_at HD1.out rfl
    have k2 : w5.cell? ⟨X, 2, none⟩ = some (.int .u64 (a2 : Nat)) := cell_at HD1.out rfl
    have k4 : w5.cell? ⟨X, 4, none⟩ = some (.int .u64 (a4 : Nat)) := cell_at HD1.out rfl
    have r0 : w5.cell? ⟨X + 1, 0, none⟩ = some (.int .u64 0) := cell_at HD2.out rfl
    have r1 : w5.cell? ⟨X + 1, 1, none⟩ = some (.int .u64 0) := cell_at HD2.out rfl
    have r2 : w5.cell? ⟨X + 1, 2, none⟩ = some (.int .u64 0) := cell_at HD2.out rfl
    have r3 : w5.cell? ⟨X + 1, 3, none⟩ = some (.int .u64 0) := cell_at HD2.out rfl
    have r4 : w5.cell? ⟨X + 1, 4, none⟩ = some (.int .u64 0) := cell_at HD2.out rfl
    have z0 : ∀ o, w5.frozen? ⟨X + 1, o, none⟩ = false := fun o => free_at HD2.out
    go_wp2
    refine bodyPost_ret (v := .agg #[.int .u64 (a0 : Nat), .int .u64 (a1 : Nat), .int .u64 (a2 : Nat), .int .u64 (V : Nat), .int .u64 (a4 : Nat)]) (by simp [results, Try.results29, go_sem, r0, r1, r2, r3, r4]) rfl ⟨rfl, ?_⟩
    exact below5 (HD3.out.setCell (by exact Nat.le_refl _) _) (by omega) _ _ _ _ _
  · obtain ⟨rfl, hV⟩ := hr4 hq
    rw [hq] at t1
    have t4 : IntKind.i64.wrap 4 = 4 := by decide
    rw [show ((4 : Nat) : Int) = 4 from rfl] at t1
    have t6 : bits .or .u64 (a4 : Int) (P : Int) = (V : Int) := by rw [hV]; exact bits_or64 h4 HP64.out
    clear hm hi hq hr0 hr1 hr2 hr3 hr4 h0 h1 h2 h3 h4 hm2 hV
    go_enter Try.func29, Try.ntmps29
    go_wp2
    have hx0 := H0.out (.cells #[.int .u64 0, .int .u64 0, .int .u64 0, .int .u64 0, .int .u64 0] 57)
    have hx1 := HR.out (.cells #[.int .u64 0, .int .u64 0, .int .u64 0, .int .u64 0, .int .u64 0] 57)
    have hbl := HB.out (.cells #[.int .u64 0, .int .u64 0, .int .u64 0, .int .u64 0, .int .u64 0] 57)
    generalize ((w.alloc (.cells #[.int .u64 (a0 : Nat), .int .u64 (a1 : Nat), .int .u64 (a2 : Nat), .int .u64 (a3 : Nat), .int .u64 (a4 : Nat)] 57)).alloc (.cells #[.int .u64 0, .int .u64 0, .int .u64 0, .int .u64 0, .int .u64 0] 57)) = wr at *
    have c0 : wr.cell? ⟨X, 4, none⟩ = some (.int .u64 (a4 : Nat)) := cell_at hx0 rfl
    have f0 := free_at (o := 4) hx0
    have c1 : wr.drew.cell? ⟨X, 4, none⟩ = some (.int .u64 (a4 : Nat)) := c0
    have f1 : wr.drew.frozen? ⟨X, 4, none⟩ = false := f0
    have HD1 : Hid (wr.drew.heap[X]? = some (.cells #[.int .u64 (a0 : Nat), .int .u64 (a1 : Nat), .int .u64 (a2 : Nat), .int .u64 (a3 : Nat), .int .u64 (a4 : Nat)] 57 (0, 0))) := Lib.hid hx0
    have HD2 : Hid (wr.drew.heap[X + 1]? = some (.cells #[.int .u64 0, .int .u64 0, .int .u64 0, .int .u64 0, .int .u64 0] 57 (0, 0))) := Lib.hid hx1
    have HD3 : Hid (Below X w wr.drew) := Lib.hid hbl.drew
    clear hx0 hx1 hbl
    go_still_tail 9, (by kernel_rfl)
    change wpList _ _ _ _ _ wr.drew
    generalize wr.drew = w5 at *
    have k0 : w5.cell? ⟨X, 0, none⟩ = some (.int .u64 (a0 : Nat)) := cell_at HD1.out rfl
    have k1 : w5.cell? ⟨X, 1, none⟩ = some (.int .u64 (a1 : Nat)) := cell_at HD1.out rfl
    have k2 : w5.cell? ⟨X, 2, none⟩ = some (.int .u64 (a2 : Nat)) := cell_at HD1.out rfl
    have k3 : w5.cell? ⟨X, 3, none⟩ = some (.int .u64 (a3 : Nat)) := cell_at HD1.out rfl
    have r0 : w5.cell? ⟨X + 1, 0, none⟩ = some (.int .u64 0) := cell_at HD2.out rfl
    have r1 : w5.cell? ⟨X + 1, 1, none⟩ = some (.int .u64 0) := cell_at HD2.out rfl
    have r2 : w5.cell? ⟨X + 1, 2, none⟩ = some (.int .u64 0) := cell_at HD2.out rfl
    have r3 : w5.cell? ⟨X + 1, 3, none⟩ = some (.int .u64 0) := cell_at HD2.out rfl
    have r4 : w5.cell? ⟨X + 1, 4, none⟩ = some (.int .u64 0) := cell_at HD2.out rfl
    have z0 : ∀ o, w5.frozen? ⟨X + 1, o, none⟩ = false := fun o => free_at HD2.out
    go_wp2
    refine bodyPost_ret (v := .agg #[.int .u64 (a0 : Nat), .int .u64 (a1 : Nat), .int .u64 (a2 : Nat), .int .u64 (a3 : Nat), .int .u64 (V : Nat)]) (by simp [results, Try.results29, go_sem, r0, r1, r2, r3, r4]) rfl ⟨rfl, ?_⟩
    exact below5 (HD3.out.setCell (by exact Nat.le_refl _) _) (by omega) _ _ _ _ _
theorem pwith_any (P i : Nat) (hi : i < 320) (w : World) : Calls Try.prog 29 #[.agg (plc P), .int .i64 (i : Nat)] w fun e w' => e = .returned (.agg (plc (P ||| bitN i))) ∧ Below w.heap.size w w' := by
  have key : ∀ q, pw (P ||| bitN i) q = if i / 64 = q then pw P q ||| 2 ^ (i % 64) else pw P q := fun q => by
    rw [pw_or, pw_bitN]
    split
    · rfl
    · rw [Nat.or_zero]
  refine with5 _ _ _ _ _ i (pw_lt _ _) (pw_lt _ _) (pw_lt _ _) (pw_lt _ _) (pw_lt _ _) hi w _ (pw P (i / 64) ||| 2 ^ (i % 64)) ?_ ?_ ?_ ?_ ?_ <;>
    (intro hq; unfold plc; rw [key, key, key, key, key, hq]; exact ⟨rfl, rfl⟩)
def orC (a0 a1 a2 a3 a4 b0 b1 b2 b3 b4 : Nat) : Nat → Array Value
  | 0 => #[.int .u64 (a0 : Nat), .int .u64 (a1 : Nat), .int .u64 (a2 : Nat), .int .u64 (a3 : Nat), .int .u64 (a4 : Nat)]
  | 1 => #[.int .u64 (a0 ||| b0 : Nat), .int .u64 (a1 : Nat), .int .u64 (a2 : Nat), .int .u64 (a3 : Nat), .int .u64 (a4 : Nat)]
  | 2 => #[.int .u64 (a0 ||| b0 : Nat), .int .u64 (a1 ||| b1 : Nat), .int .u64 (a2 : Nat), .int .u64 (a3 : Nat), .int .u64 (a4 : Nat)]
  | 3 => #[.int .u64 (a0 ||| b0 : Nat), .int .u64 (a1 ||| b1 : Nat), .int .u64 (a2 ||| b2 : Nat), .int .u64 (a3 : Nat), .int .u64 (a4 : Nat)]
  | 4 => #[.int .u64 (a0 ||| b0 : Nat), .int .u64 (a1 ||| b1 : Nat), .int .u64 (a2 ||| b2 : Nat), .int .u64 (a3 ||| b3 : Nat), .int .u64 (a4 : Nat)]
  | _ => #[.int .u64 (a0 ||| b0 : Nat), .int .u64 (a1 ||| b1 : Nat), .int .u64 (a2 ||| b2 : Nat), .int .u64 (a3 ||| b3 : Nat), .int .u64 (a4 ||| b4 : Nat)]
set_option maxRecDepth 20000 in
set_option maxHeartbeats 4000000 in
theorem or5 (a0 a1 a2 a3 a4 b0 b1 b2 b3 b4 : Nat) (h0 : a0 < 18446744073709551616) (h1 : a1 < 18446744073709551616) (h2 : a2 < 18446744073709551616) (h3 : a3 < 18446744073709551616) (h4 : a4 < 18446744073709551616) (g0 : b0 < 18446744073709551616) (g1 : b1 < 18446744073709551616) (g2 : b2 < 18446744073709551616) (g3 : b3 < 18446744073709551616) (g4 : b4 < 18446744073709551616) (w : World) :
    Calls Try.prog 49 #[.agg #[.int .u64 (a0 : Nat), .int .u64 (a1 : Nat), .int .u64 (a2 : Nat), .int .u64 (a3 : Nat), .int .u64 (a4 : Nat)], .agg #[.int .u64 (b0 : Nat), .int .u64 (b1 : Nat), .int .u64 (b2 : Nat), .int .u64 (b3 : Nat), .int .u64 (b4 : Nat)]] w fun e w' => e = .returned (.agg #[.int .u64 (a0 ||| b0 : Nat), .int .u64 (a1 ||| b1 : Nat), .int .u64 (a2 ||| b2 : Nat), .int .u64 (a3 ||| b3 : Nat), .int .u64 (a4 ||| b4 : Nat)]) ∧ Below w.heap.size w w' := by
  obtain ⟨X, hX⟩ : ∃ X, X = w.heap.size := ⟨_, rfl⟩
  have hzz : w.heap.size = X := hX.symm
  have st : ∀ o2, (((w.alloc (.cells #[.int .u64 (a0 : Nat), .int .u64 (a1 : Nat), .int .u64 (a2 : Nat), .int .u64 (a3 : Nat), .int .u64 (a4 : Nat)] 57)).alloc (.cells #[.int .u64 (b0 : Nat), .int .u64 (b1 : Nat), .int .u64 (b2 : Nat), .int .u64 (b3 : Nat), .int .u64 (b4 : Nat)] 57)).alloc o2).heap[X]? = some (.cells #[.int .u64 (a0 : Nat), .int .u64 (a1 : Nat), .int .u64 (a2 : Nat), .int .u64 (a3 : Nat), .int .u64 (a4 : Nat)] 57 (0, 0)) ∧ (((w.alloc (.cells #[.int .u64 (a0 : Nat), .int .u64 (a1 : Nat), .int .u64 (a2 : Nat), .int .u64 (a3 : Nat), .int .u64 (a4 : Nat)] 57)).alloc (.cells #[.int .u64 (b0 : Nat), .int .u64 (b1 : Nat), .int .u64 (b2 : Nat), .int .u64 (b3 : Nat), .int .u64 (b4 : Nat)] 57)).alloc o2).heap[X + 1]? = some (.cells #[.int .u64 (b0 : Nat), .int .u64 (b1 : Nat), .int .u64 (b2 : Nat), .int .u64 (b3 : Nat), .int .u64 (b4 : Nat)] 57 (0, 0)) ∧ (((w.alloc (.cells #[.int .u64 (a0 : Nat), .int .u64 (a1 : Nat), .int .u64 (a2 : Nat), .int .u64 (a3 : Nat), .int .u64 (a4 : Nat)] 57)).alloc (.cells #[.int .u64 (b0 : Nat), .int .u64 (b1 : Nat), .int .u64 (b2 : Nat), .int .u64 (b3 : Nat), .int .u64 (b4 : Nat)] 57)).alloc o2).heap[X + 2]? = some o2 ∧ Below X w (((w.alloc (.cells #[.int .u64 (a0 : Nat), .int .u64 (a1 : Nat), .int .u64 (a2 : Nat), .int .u64 (a3 : Nat), .int .u64 (a4 : Nat)] 57)).alloc (.cells #[.int .u64 (b0 : Nat), .int .u64 (b1 : Nat), .int .u64 (b2 : Nat), .int .u64 (b3 : Nat), .int .u64 (b4 : Nat)] 57)).alloc o2) := fun o2 => by
    have e1 := heap_alloc_new w (.cells #[.int .u64 (a0 : Nat), .int .u64 (a1 : Nat), .int .u64 (a2 : Nat), .int .u64 (a3 : Nat), .int .u64 (a4 : Nat)] 57)
    have e2 := heap_alloc_new (w.alloc (.cells #[.int .u64 (a0 : Nat), .int .u64 (a1 : Nat), .int .u64 (a2 : Nat), .int .u64 (a3 : Nat), .int .u64 (a4 : Nat)] 57)) (.cells #[.int .u64 (b0 : Nat), .int .u64 (b1 : Nat), .int .u64 (b2 : Nat), .int .u64 (b3 : Nat), .int .u64 (b4 : Nat)] 57)
    have e3 := heap_alloc_new ((w.alloc (.cells #[.int .u64 (a0 : Nat), .int .u64 (a1 : Nat), .int .u64 (a2 : Nat), .int .u64 (a3 : Nat), .int .u64 (a4 : Nat)] 57)).alloc (.cells #[.int .u64 (b0 : Nat), .int .u64 (b1 : Nat), .int .u64 (b2 : Nat), .int .u64 (b3 : Nat), .int .u64 (b4 : Nat)] 57)) o2
    have s2 : (w.alloc (.cells #[.int .u64 (a0 : Nat), .int .u64 (a1 : Nat), .int .u64 (a2 : Nat), .int .u64 (a3 : Nat), .int .u64 (a4 : Nat)] 57)).heap.size = X + 1 := by rw [hX]; simp
    have s3 : ((w.alloc (.cells #[.int .u64 (a0 : Nat), .int .u64 (a1 : Nat), .int .u64 (a2 : Nat), .int .u64 (a3 : Nat), .int .u64 (a4 : Nat)] 57)).alloc (.cells #[.int .u64 (b0 : Nat), .int .u64 (b1 : Nat), .int .u64 (b2 : Nat), .int .u64 (b3 : Nat), .int .u64 (b4 : Nat)] 57)).heap.size = X + 2 := by rw [hX]; simp
    rw [s2] at e2
    rw [s3] at e3
    refine ⟨?_, ?_, e3, ?_⟩
    · rw [Below.heap_alloc _ o2 X (by rw [s3]; omega), Below.heap_alloc _ _ X (by rw [s2]; omega), hX]; exact e1
    · rw [Below.heap_alloc _ o2 (X + 1) (by rw [s3]; omega)]; exact e2
    · rw [hX]; exact below_trans (below_new w _) (below_trans (below_new _ _) (below_new _ o2))
  have HS := Lib.hid st
  rw [hzz]
  clear hX st
  have HG0 := Lib.hid (And.intro h0 g0)
  have HG1 := Lib.hid (And.intro h1 g1)
  have HG2 := Lib.hid (And.intro h2 g2)
  have HG3 := Lib.hid (And.intro h3 g3)
  have HG4 := Lib.hid (And.intro h4 g4)
  clear h0 h1 h2 h3 h4 g0 g1 g2 g3 g4
  go_enter Try.func49, Try.ntmps49
  go_wp2
  go_loopw [6] (fun i wr => ∃ j : Nat, j ≤ 5 ∧ i = .int .i64 (j : Nat) ∧ wr.heap[X]? = some (.cells (orC a0 a1 a2 a3 a4 b0 b1 b2 b3 b4 j) 57 (0, 0)) ∧ wr.heap[X + 1]? = some (.cells #[.int .u64 (b0 : Nat), .int .u64 (b1 : Nat), .int .u64 (b2 : Nat), .int .u64 (b3 : Nat), .int .u64 (b4 : Nat)] 57 (0, 0)) ∧ wr.heap[X + 2]? = some (.cells #[.int .u64 0, .int .u64 0, .int .u64 0, .int .u64 0, .int .u64 0] 57 (0, 0)) ∧ Below X w wr) (fun i _ => 5 - (intOf i).toNat)
  case atStart => exact ⟨0, by omega, rfl, (HS.out _).1, (HS.out _).2.1, (HS.out _).2.2.1, (HS.out _).2.2.2⟩
  case round =>
    obtain ⟨j, hj, rfl, hx, hy, hz, hbl⟩ := hrel
    have hjc : j = 0 ∨ j = 1 ∨ j = 2 ∨ j = 3 ∨ j = 4 ∨ j = 5 := by omega
    clear hj
    rcases hjc with rfl | rfl | rfl | rfl | rfl | rfl
    · have hx2 : wr.heap[X]? = some (.cells #[.int .u64 (a0 : Nat), .int .u64 (a1 : Nat), .int .u64 (a2 : Nat), .int .u64 (a3 : Nat), .int .u64 (a4 : Nat)] 57 (0, 0)) := hx
      have c0 : wr.drew.cell? ⟨X, 0, none⟩ = some (.int .u64 (a0 : Nat)) := cell_at (w := wr.drew) hx2 rfl
      have f0 : wr.drew.frozen? ⟨X, 0, none⟩ = false := free_at (w := wr.drew) (o := 0) hx2
      have d0 : wr.drew.cell? ⟨X + 1, 0, none⟩ = some (.int .u64 (b0 : Nat)) := cell_at (w := wr.drew) hy rfl
      have d1 : wr.cell? ⟨X + 1, 0, none⟩ = some (.int .u64 (b0 : Nat)) := cell_at hy rfl
      have c1 : wr.cell? ⟨X, 0, none⟩ = some (.int .u64 (a0 : Nat)) := cell_at hx2 rfl
      obtain ⟨V, hV⟩ : ∃ V : Nat, V = a0 ||| b0 := ⟨_, rfl⟩
      have t6 : bits .or .u64 (a0 : Int) (b0 : Int) = (V : Int) := by rw [hV]; exact bits_or64 HG0.out.1 HG0.out.2
      have HX : Hid (wr.drew.heap[X]? = some (.cells #[.int .u64 (a0 : Nat), .int .u64 (a1 : Nat), .int .u64 (a2 : Nat), .int .u64 (a3 : Nat), .int .u64 (a4 : Nat)] 57 (0, 0))) := Lib.hid hx2
      have HY : Hid (wr.drew.heap[X + 1]? = some (.cells #[.int .u64 (b0 : Nat), .int .u64 (b1 : Nat), .int .u64 (b2 : Nat), .int .u64 (b3 : Nat), .int .u64 (b4 : Nat)] 57 (0, 0))) := Lib.hid hy
      have HZ : Hid (wr.drew.heap[X + 2]? = some (.cells #[.int .u64 0, .int .u64 0, .int .u64 0, .int .u64 0, .int .u64 0] 57 (0, 0))) := Lib.hid hz
      have HB : Hid (Below X w wr.drew) := Lib.hid hbl.drew
      have t4 : IntKind.i64.wrap 0 = 0 := by decide
      have HV := Lib.hid hV
      clear hx hx2 hy hz hbl hV
      go_wp2
      go_still_tail 8, (by kernel_rfl)
      change wpList _ _ _ _ _ wr.drew
      generalize wr.drew = w5 at *
      go_wp2
      have fin : (∃ j' : Nat, j' ≤ 5 ∧ (Value.int .i64 1) = .int .i64 (j' : Nat) ∧ (w5.setCell ⟨X, 0, none⟩ (.int .u64 (V : Int))).heap[X]? = some (.cells (orC a0 a1 a2 a3 a4 b0 b1 b2 b3 b4 j') 57 (0, 0)) ∧ (w5.setCell ⟨X, 0, none⟩ (.int .u64 (V : Int))).heap[X + 1]? = some (.cells #[.int .u64 (b0 : Nat), .int .u64 (b1 : Nat), .int .u64 (b2 : Nat), .int .u64 (b3 : Nat), .int .u64 (b4 : Nat)] 57 (0, 0)) ∧ (w5.setCell ⟨X, 0, none⟩ (.int .u64 (V : Int))).heap[X + 2]? = some (.cells #[.int .u64 0, .int .u64 0, .int .u64 0, .int .u64 0, .int .u64 0] 57 (0, 0)) ∧ Below X w (w5.setCell ⟨X, 0, none⟩ (.int .u64 (V : Int)))) := by
        refine ⟨1, by omega, rfl, ?_, (heap_setCell_other _ _ _ _ (by show X + 1 ≠ X; omega)).trans HY.out, (heap_setCell_other _ _ _ _ (by show X + 2 ≠ X; omega)).trans HZ.out, HB.out.setCell (by exact Nat.le_refl _) _⟩
        rw [HV.out]
        exact block_setCell HX.out
      first
        | exact ⟨fin, by simp [intOf]⟩
        | (refine ⟨?_, by simp [intOf]⟩; (repeat apply Exists.intro); exact ⟨fin, rfl⟩)
    · have hx2 : wr.heap[X]? = some (.cells #[.int .u64 (a0 ||| b0 : Nat), .int .u64 (a1 : Nat), .int .u64 (a2 : Nat), .int .u64 (a3 : Nat), .int .u64 (a4 : Nat)] 57 (0, 0)) := hx
      have c0 : wr.drew.cell? ⟨X, 1, none⟩ = some (.int .u64 (a1 : Nat)) := cell_at (w := wr.drew) hx2 rfl
      have f0 : wr.drew.frozen? ⟨X, 1, none⟩ = false := free_at (w := wr.drew) (o := 1) hx2
      have d0 : wr.drew.cell? ⟨X + 1, 1, none⟩ = some (.int .u64 (b1 : Nat)) := cell_at (w := wr.drew) hy rfl
      have d1 : wr.cell? ⟨X + 1, 1, none⟩ = some (.int .u64 (b1 : Nat)) := cell_at hy rfl
      have c1 : wr.cell? ⟨X, 1, none⟩ = some (.int .u64 (a1 : Nat)) := cell_at hx2 rfl
      obtain ⟨V, hV⟩ : ∃ V : Nat, V = a1 ||| b1 := ⟨_, rfl⟩
      have t6 : bits .or .u64 (a1 : Int) (b1 : Int) = (V : Int) := by rw [hV]; exact bits_or64 HG1.out.1 HG1.out.2
      have HX : Hid (wr.drew.heap[X]? = some (.cells #[.int .u64 (a0 ||| b0 : Nat), .int .u64 (a1 : Nat), .int .u64 (a2 : Nat), .int .u64 (a3 : Nat), .int .u64 (a4 : Nat)] 57 (0, 0))) := Lib.hid hx2
      have HY : Hid (wr.drew.heap[X + 1]? = some (.cells #[.int .u64 (b0 : Nat), .int .u64 (b1 : Nat), .int .u64 (b2 : Nat), .int .u64 (b3 : Nat), .int .u64 (b4 : Nat)] 57 (0, 0))) := Lib.hid hy
      have HZ : Hid (wr.drew.heap[X + 2]? = some (.cells #[.int .u64 0, .int .u64 0, .int .u64 0, .int .u64 0, .int .u64 0] 57 (0, 0))) := Lib.hid hz
      have HB : Hid (Below X w wr.drew) := Lib.hid hbl.drew
      have t4 : IntKind.i64.wrap 1 = 1 := by decide
      have HV := Lib.hid hV
      clear hx hx2 hy hz hbl hV
      go_wp2
      go_still_tail 8, (by kernel_rfl)
      change wpList _ _ _ _ _ wr.drew
      generalize wr.drew = w5 at *
      go_wp2
      have fin : (∃ j' : Nat, j' ≤ 5 ∧ (Value.int .i64 2) = .int .i64 (j' : Nat) ∧ (w5.setCell ⟨X, 1, none⟩ (.int .u64 (V : Int))).heap[X]? = some (.cells (orC a0 a1 a2 a3 a4 b0 b1 b2 b3 b4 j') 57 (0, 0)) ∧ (w5.setCell ⟨X, 1, none⟩ (.int .u64 (V : Int))).heap[X + 1]? = some (.cells #[.int .u64 (b0 : Nat), .int .u64 (b1 : Nat), .int .u64 (b2 : Nat), .int .u64 (b3 : Nat), .int .u64 (b4 : Nat)] 57 (0, 0)) ∧ (w5.setCell ⟨X, 1, none⟩ (.int .u64 (V : Int))).heap[X + 2]? = some (.cells #[.int .u64 0, .int .u64 0, .int .u64 0, .int .u64 0, .int .u64 0] 57 (0, 0)) ∧ Below X w (w5.setCell ⟨X, 1, none⟩ (.int .u64 (V : Int)))) := by
        refine ⟨2, by omega, rfl, ?_, (heap_setCell_other _ _ _ _ (by show X + 1 ≠ X; omega)).trans HY.out, (heap_setCell_other _ _ _ _ (by show X + 2 ≠ X; omega)).trans HZ.out, HB.out.setCell (by exact Nat.le_refl _) _⟩
        rw [HV.out]
        exact block_setCell HX.out
      first
        | exact ⟨fin, by simp [intOf]⟩
        | (refine ⟨?_, by simp [intOf]⟩; (repeat apply Exists.intro); exact ⟨fin, rfl⟩)
    · have hx2 : wr.heap[X]? = some (.cells #[.int .u64 (a0 ||| b0 : Nat), .int .u64 (a1 ||| b1 : Nat), .int .u64 (a2 : Nat), .int .u64 (a3 : Nat), .int .u64 (a4 : Nat)] 57 (0, 0)) := hx
      have c0 : wr.drew.cell? ⟨X, 2, none⟩ = some (.int .u64 (a2 : Nat)) := cell_at (w := wr.drew) hx2 rfl
      have f0 : wr.drew.frozen? ⟨X, 2, none⟩ = false := free_at (w := wr.drew) (o := 2) hx2
      have d0 : wr.drew.cell? ⟨X + 1, 2, none⟩ = some (.int .u64 (b2 : Nat)) := cell_at (w := wr.drew) hy rfl
      have d1 : wr.cell? ⟨X + 1, 2, none⟩ = some (.int .u64 (b2 : Nat)) := cell_at hy rfl
      have c1 : wr.cell? ⟨X, 2, none⟩ = some (.int .u64 (a2 : Nat)) := cell_at hx2 rfl
      obtain ⟨V, hV⟩ : ∃ V : Nat, V = a2 ||| b2 := ⟨_, rfl⟩
      have t6 : bits .or .u64 (a2 : Int) (b2 : Int) = (V : Int) := by rw [hV]; exact bits_or64 HG2.out.1 HG2.out.2
      have HX : Hid (wr.drew.heap[X]? = some (.cells #[.int .u64 (a0 ||| b0 : Nat), .int .u64 (a1 ||| b1 : Nat), .int .u64 (a2 : Nat), .int .u64 (a3 : Nat), .int .u64 (a4 : Nat)] 57 (0, 0))) := Lib.hid hx2
      have HY : Hid (wr.drew.heap[X + 1]? = some (.cells #[.int .u64 (b0 : Nat), .int .u64 (b1 : Nat), .int .u64 (b2 : Nat), .int .u64 (b3 : Nat), .int .u64 (b4 : Nat)] 57 (0, 0))) := Lib.hid hy
      have HZ : Hid (wr.drew.heap[X + 2]? = some (.cells #[.int .u64 0, .int .u64 0, .int .u64 0, .int .u64 0, .int .u64 0] 57 (0, 0))) := Lib.hid hz
      have HB : Hid (Below X w wr.drew) := Lib.hid hbl.drew
      have t4 : IntKind.i64.wrap 2 = 2 := by decide
      have HV := Lib.hid hV
      clear hx hx2 hy hz hbl hV
      go_wp2
      go_still_tail 8, (by kernel_rfl)
      change wpList _ _ _ _ _ wr.drew
      generalize wr.drew = w5 at *
      go_wp2
      have fin : (∃ j' : Nat, j' ≤ 5 ∧ (Value.int .i64 3) = .int .i64 (j' : Nat) ∧ (w5.setCell ⟨X, 2, none⟩ (.int .u64 (V : Int))).heap[X]? = some (.cells (orC a0 a1 a2 a3 a4 b0 b1 b2 b3 b4 j') 57 (0, 0)) ∧ (w5.setCell ⟨X, 2, none⟩ (.int .u64 (V : Int))).heap[X + 1]? = some (.cells #[.int .u64 (b0 : Nat), .int .u64 (b1 : Nat), .int .u64 (b2 : Nat), .int .u64 (b3 : Nat), .int .u64 (b4 : Nat)] 57 (0, 0)) ∧ (w5.setCell ⟨X, 2, none⟩ (.int .u64 (V : Int))).heap[X + 2]? = some (.cells #[.int .u64 0, .int .u64 0, .int .u64 0, .int .u64 0, .int .u64 0] 57 (0, 0)) ∧ Below X w (w5.setCell ⟨X, 2, none⟩ (.int .u64 (V : Int)))) := by
        refine ⟨3, by omega, rfl, ?_, (heap_setCell_other _ _ _ _ (by show X + 1 ≠ X; omega)).trans HY.out, (heap_setCell_other _ _ _ _ (by show X + 2 ≠ X; omega)).trans HZ.out, HB.out.setCell (by exact Nat.le_refl _) _⟩
        rw [HV.out]
        exact block_setCell HX.out
      first
        | exact ⟨fin, by simp [intOf]⟩
        | (refine ⟨?_, by simp [intOf]⟩; (repeat apply Exists.intro); exact ⟨fin, rfl⟩)
    · have hx2 : wr.heap[X]? = some (.cells #[.int .u64 (a0 ||| b0 : Nat), .int .u64 (a1 ||| b1 : Nat), .int .u64 (a2 ||| b2 : Nat), .int .u64 (a3 : Nat), .int .u64 (a4 : Nat)] 57 (0, 0)) := hx
      have c0 : wr.drew.cell? ⟨X, 3, none⟩ = some (.int .u64 (a3 : Nat)) := cell_at (w := wr.drew) hx2 rfl
      have f0 : wr.drew.frozen? ⟨X, 3, none⟩ = false := free_at (w := wr.drew) (o := 3) hx2
      have d0 : wr.drew.cell? ⟨X + 1, 3, none⟩ = some (.int .u64 (b3 : Nat)) := cell_at (w := wr.drew) hy rfl
      have d1 : wr.cell? ⟨X + 1, 3, none⟩ = some (.int .u64 (b3 : Nat)) := cell_at hy rfl
      have c1 : wr.cell? ⟨X, 3, none⟩ = some (.int .u64 (a3 : Nat)) := cell_at hx2 rfl
      obtain ⟨V, hV⟩ : ∃ V : Nat, V = a3 ||| b3 := ⟨_, rfl⟩
      have t6 : bits .or .u64 (a3 : Int) (b3 : Int) = (V : Int) := by rw [hV]; exact bits_or64 HG3.out.1 HG3.out.2
      have HX : Hid (wr.drew.heap[X]? = some (.cells #[.int .u64 (a0 ||| b0 : Nat), .int .u64 (a1 ||| b1 : Nat), .int .u64 (a2 ||| b2 : Nat), .int .u64 (a3 : Nat), .int .u64 (a4 : Nat)] 57 (0, 0))) := Lib.hid hx2
      have HY : Hid (wr.drew.heap[X + 1]? = some (.cells #[.int .u64 (b0 : Nat), .int .u64 (b1 : Nat), .int .u64 (b2 : Nat), .int .u64 (b3 : Nat), .int .u64 (b4 : Nat)] 57 (0, 0))) := Lib.hid hy
      have HZ : Hid (wr.drew.heap[X + 2]? = some (.cells #[.int .u64 0, .int .u64 0, .int .u64 0, .int .u64 0, .int .u64 0] 57 (0, 0))) := Lib.hid hz
      have HB : Hid (Below X w wr.drew) := Lib.hid hbl.drew
      have t4 : IntKind.i64.wrap 3 = 3 := by decide
      have HV := Lib.hid hV
      clear hx hx2 hy hz hbl hV
      go_wp2
      go_still_tail 8, (by kernel_rfl)
      change wpList _ _ _ _ _ wr.drew
      generalize wr.drew = w5 at *
      go_wp2
      have fin : (∃ j' : Nat, j' ≤ 5 ∧ (Value.int .i64 4) = .int .i64 (j' : Nat) ∧ (w5.setCell ⟨X, 3, none⟩ (.int .u64 (V : Int))).heap[X]? = some (.cells (orC a0 a1 a2 a3 a4 b0 b1 b2 b3 b4 j') 57 (0, 0)) ∧ (w5.setCell ⟨X, 3, none⟩ (.int .u64 (V : Int))).heap[X + 1]? = some (.cells #[.int .u64 (b0 : Nat), .int .u64 (b1 : Nat), .int .u64 (b2 : Nat), .int .u64 (b3 : Nat), .int .u64 (b4 : Nat)] 57 (0, 0)) ∧ (w5.setCell ⟨X, 3, none⟩ (.int .u64 (V : Int))).heap[X + 2]? = some (.cells #[.int .u64 0, .int .u64 0, .int .u64 0, .int .u64 0, .int .u64 0] 57 (0, 0)) ∧ Below X w (w5.setCell ⟨X, 3, none⟩ (.int .u64 (V : Int)))) := by
        refine ⟨4, by omega, rfl, ?_, (heap_setCell_other _ _ _ _ (by show X + 1 ≠ X; omega)).trans HY.out, (heap_setCell_other _ _ _ _ (by show X + 2 ≠ X; omega)).trans HZ.out, HB.out.setCell (by exact Nat.le_refl _) _⟩
        rw [HV.out]
        exact block_setCell HX.out
      first
        | exact ⟨fin, by simp [intOf]⟩
        | (refine ⟨?_, by simp [intOf]⟩; (repeat apply Exists.intro); exact ⟨fin, rfl⟩)
    · have hx2 : wr.heap[X]? = some (.cells #[.int .u64 (a0 ||| b0 : Nat), .int .u64 (a1 ||| b1 : Nat), .int .u64 (a2 ||| b2 : Nat), .int .u64 (a3 ||| b3 : Nat), .int .u64 (a4 : Nat)] 57 (0, 0)) := hx
      have c0 : wr.drew.cell? ⟨X, 4, none⟩ = some (.int .u64 (a4 : Nat)) := cell_at (w := wr.drew) hx2 rfl
      have f0 : wr.drew.frozen? ⟨X, 4, none⟩ = false := free_at (w := wr.drew) (o := 4) hx2
      have d0 : wr.drew.cell? ⟨X + 1, 4, none⟩ = some (.int .u64 (b4 : Nat)) := cell_at (w := wr.drew) hy rfl
      have d1 : wr.cell? ⟨X + 1, 4, none⟩ = some (.int .u64 (b4 : Nat)) := cell_at hy rfl
      have c1 : wr.cell? ⟨X, 4, none⟩ = some (.int .u64 (a4 : Nat)) := cell_at hx2 rfl
      obtain ⟨V, hV⟩ : ∃ V : Nat, V = a4 ||| b4 := ⟨_, rfl⟩
      have t6 : bits .or .u64 (a4 : Int) (b4 : Int) = (V : Int) := by rw [hV]; exact bits_or64 HG4.out.1 HG4.out.2
      have HX : Hid (wr.drew.heap[X]? = some (.cells #[.int .u64 (a0 ||| b0 : Nat), .int .u64 (a1 ||| b1 : Nat), .int .u64 (a2 ||| b2 : Nat), .int .u64 (a3 ||| b3 : Nat), .int .u64 (a4 : Nat)] 57 (0, 0))) := Lib.hid hx2
      have HY : Hid (wr.drew.heap[X + 1]? = some (.cells #[.int .u64 (b0 : Nat), .int .u64 (b1 : Nat), .int .u64 (b2 : Nat), .int .u64 (b3 : Nat), .int .u64 (b4 : Nat)] 57 (0, 0))) := Lib.hid hy
      have HZ : Hid (wr.drew.heap[X + 2]? = some (.cells #[.int .u64 0, .int .u64 0, .int .u64 0, .int .u64 0, .int .u64 0] 57 (0, 0))) := Lib.hid hz
      have HB : Hid (Below X w wr.drew) := Lib.hid hbl.drew
      have t4 : IntKind.i64.wrap 4 = 4 := by decide
      have HV := Lib.hid hV
      clear hx hx2 hy hz hbl hV
      go_wp2
      go_still_tail 8, (by kernel_rfl)
      change wpList _ _ _ _ _ wr.drew
      generalize wr.drew = w5 at *
      go_wp2
      have fin : (∃ j' : Nat, j' ≤ 5 ∧ (Value.int .i64 5) = .int .i64 (j' : Nat) ∧ (w5.setCell ⟨X, 4, none⟩ (.int .u64 (V : Int))).heap[X]? = some (.cells (orC a0 a1 a2 a3 a4 b0 b1 b2 b3 b4 j') 57 (0, 0)) ∧ (w5.setCell ⟨X, 4, none⟩ (.int .u64 (V : Int))).heap[X + 1]? = some (.cells #[.int .u64 (b0 : Nat), .int .u64 (b1 : Nat), .int .u64 (b2 : Nat), .int .u64 (b3 : Nat), .int .u64 (b4 : Nat)] 57 (0, 0)) ∧ (w5.setCell ⟨X, 4, none⟩ (.int .u64 (V : Int))).heap[X + 2]? = some (.cells #[.int .u64 0, .int .u64 0, .int .u64 0, .int .u64 0, .int .u64 0] 57 (0, 0)) ∧ Below X w (w5.setCell ⟨X, 4, none⟩ (.int .u64 (V : Int)))) := by
        refine ⟨5, by omega, rfl, ?_, (heap_setCell_other _ _ _ _ (by show X + 1 ≠ X; omega)).trans HY.out, (heap_setCell_other _ _ _ _ (by show X + 2 ≠ X; omega)).trans HZ.out, HB.out.setCell (by exact Nat.le_refl _) _⟩
        rw [HV.out]
        exact block_setCell HX.out
      first
        | exact ⟨fin, by simp [intOf]⟩
        | (refine ⟨?_, by simp [intOf]⟩; (repeat apply Exists.intro); exact ⟨fin, rfl⟩)
    · have hx2 : wr.heap[X]? = some (.cells #[.int .u64 (a0 ||| b0 : Nat), .int .u64 (a1 ||| b1 : Nat), .int .u64 (a2 ||| b2 : Nat), .int .u64 (a3 ||| b3 : Nat), .int .u64 (a4 ||| b4 : Nat)] 57 (0, 0)) := hx
      have k0 : wr.cell? ⟨X, 0, none⟩ = some (.int .u64 (a0 ||| b0 : Nat)) := cell_at hx2 rfl
      have k1 : wr.cell? ⟨X, 1, none⟩ = some (.int .u64 (a1 ||| b1 : Nat)) := cell_at hx2 rfl
      have k2 : wr.cell? ⟨X, 2, none⟩ = some (.int .u64 (a2 ||| b2 : Nat)) := cell_at hx2 rfl
      have k3 : wr.cell? ⟨X, 3, none⟩ = some (.int .u64 (a3 ||| b3 : Nat)) := cell_at hx2 rfl
      have k4 : wr.cell? ⟨X, 4, none⟩ = some (.int .u64 (a4 ||| b4 : Nat)) := cell_at hx2 rfl
      have r0 : wr.cell? ⟨X + 2, 0, none⟩ = some (.int .u64 0) := cell_at hz rfl
      have r1 : wr.cell? ⟨X + 2, 1, none⟩ = some (.int .u64 0) := cell_at hz rfl
      have r2 : wr.cell? ⟨X + 2, 2, none⟩ = some (.int .u64 0) := cell_at hz rfl
      have r3 : wr.cell? ⟨X + 2, 3, none⟩ = some (.int .u64 0) := cell_at hz rfl
      have r4 : wr.cell? ⟨X + 2, 4, none⟩ = some (.int .u64 0) := cell_at hz rfl
      have z0 : ∀ o, wr.frozen? ⟨X + 2, o, none⟩ = false := fun o => free_at hz
      clear hx hx2 hy hz
      go_wp2
      refine bodyPost_ret (v := .agg #[.int .u64 (a0 ||| b0 : Nat), .int .u64 (a1 ||| b1 : Nat), .int .u64 (a2 ||| b2 : Nat), .int .u64 (a3 ||| b3 : Nat), .int .u64 (a4 ||| b4 : Nat)]) (by simp [results, Try.results49, go_sem, r0, r1, r2, r3, r4]) rfl ⟨rfl, ?_⟩
      exact below5 hbl (by omega) _ _ _ _ _
theorem por_any (P Q : Nat) (w : World) : Calls Try.prog 49 #[.agg (plc P), .agg (plc Q)] w fun e w' => e = .returned (.agg (plc (P ||| Q))) ∧ Below w.heap.size w w' := by
  have := or5 _ _ _ _ _ _ _ _ _ _ (pw_lt P 0) (pw_lt P 1) (pw_lt P 2) (pw_lt P 3) (pw_lt P 4) (pw_lt Q 0) (pw_lt Q 1) (pw_lt Q 2) (pw_lt Q 3) (pw_lt Q 4) w
  rw [← pw_or, ← pw_or, ← pw_or, ← pw_or, ← pw_or] at this
  exact this
theorem eq57 (a0 a1 a2 a3 a4 b0 b1 b2 b3 b4 : Int) (n : Nat) (w : World) :
    (Op.equalIn (n + 2) 57 (.agg #[.int .u64 a0, .int .u64 a1, .int .u64 a2, .int .u64 a3, .int .u64 a4]) (.agg #[.int .u64 b0, .int .u64 b1, .int .u64 b2, .int .u64 b3, .int .u64 b4])).run Try.prog w = .ok (a0 == b0 && a1 == b1 && a2 == b2 && a3 == b3 && a4 == b4) w := by
  have hi : ∃ i0, Try.prog.info? 22 = some i0 := Option.isSome_iff_exists.1 (by kernel_rfl)
  obtain ⟨i0, hi⟩ := hi
  have c22 : Try.prog.cellsOf 22 = 1 := by kernel_rfl
  have hagg : (isAgg 22).run Try.prog w = .ok false w := by simp
  rw [run_equalIn_array w (n + 1) _ _ Try.underlying57 hi, c22, items_all (n + 1) 22 1 _ _ (fun i => if i = 0 then a0 == b0 else if i = 1 then a1 == b1 else if i = 2 then a2 == b2 else if i = 3 then a3 == b3 else a4 == b4) w _ ?_]
  · simp [List.range, List.range.loop, Bool.and_assoc]
  · intro i hi
    have : i = 0 ∨ i = 1 ∨ i = 2 ∨ i = 3 ∨ i = 4 := by have := List.mem_range.1 hi; omega
    rcases this with rfl | rfl | rfl | rfl | rfl
    · exact ⟨.int .u64 a0, .int .u64 b0, by simp [part, hagg], by simp [part, hagg], by simpa using run_equalIn_int w n 22 .u64 .u64 a0 b0 Try.underlying22⟩
    · exact ⟨.int .u64 a1, .int .u64 b1, by simp [part, hagg], by simp [part, hagg], by simpa using run_equalIn_int w n 22 .u64 .u64 a1 b1 Try.underlying22⟩
    · exact ⟨.int .u64 a2, .int .u64 b2, by simp [part, hagg], by simp [part, hagg], by simpa using run_equalIn_int w n 22 .u64 .u64 a2 b2 Try.underlying22⟩
    · exact ⟨.int .u64 a3, .int .u64 b3, by simp [part, hagg], by simp [part, hagg], by simpa using run_equalIn_int w n 22 .u64 .u64 a3 b3 Try.underlying22⟩
    · exact ⟨.int .u64 a4, .int .u64 b4, by simp [part, hagg], by simp [part, hagg], by simpa using run_equalIn_int w n 22 .u64 .u64 a4 b4 Try.underlying22⟩
theorem plc_beq {P Q : Nat} (hP : P < topN) (hQ : Q < topN) : (((pw P 0 : Nat) : Int) == ((pw Q 0 : Nat) : Int) && ((pw P 1 : Nat) : Int) == ((pw Q 1 : Nat) : Int) && ((pw P 2 : Nat) : Int) == ((pw Q 2 : Nat) : Int) && ((pw P 3 : Nat) : Int) == ((pw Q 3 : Nat) : Int) && ((pw P 4 : Nat) : Int) == ((pw Q 4 : Nat) : Int)) = decide (P = Q) := by
  by_cases c : P = Q
  · subst c; simp
  · rw [decide_eq_false c]
    cases hb : (((pw P 0 : Nat) : Int) == ((pw Q 0 : Nat) : Int) && ((pw P 1 : Nat) : Int) == ((pw Q 1 : Nat) : Int) && ((pw P 2 : Nat) : Int) == ((pw Q 2 : Nat) : Int) && ((pw P 3 : Nat) : Int) == ((pw Q 3 : Nat) : Int) && ((pw P 4 : Nat) : Int) == ((pw Q 4 : Nat) : Int))
    · rfl
    · simp only [Bool.and_eq_true, beq_iff_eq] at hb
      exact absurd (plc_ext hP hQ (by omega) (by omega) (by omega) (by omega) (by omega)) c
theorem run_neq57 {P Q : Nat} (hP : P < topN) (hQ : Q < topN) (w : World) : (binOp .neq 57 (.agg (plc P)) (.agg (plc Q))).run Try.prog w = .ok (.bool (!decide (P = Q))) w := by
  have h := eq57 (pw P 0 : Nat) (pw P 1 : Nat) (pw P 2 : Nat) (pw P 3 : Nat) (pw P 4 : Nat) (pw Q 0 : Nat) (pw Q 1 : Nat) (pw Q 2 : Nat) (pw Q 3 : Nat) (pw Q 4 : Nat) 9998 w
  rw [plc_beq hP hQ] at h
  unfold plc
  rw [run_neq_struct, h, Result.andThen_ok]

end Go.Proofs.Ytdmajbdgjjmlkaa
