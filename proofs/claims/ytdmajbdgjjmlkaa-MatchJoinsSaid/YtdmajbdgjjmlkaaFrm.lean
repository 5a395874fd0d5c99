/- May an expression be, but for its elements: what the calls return; nothing that was there turns. No conditions. -/
import Derived.Test.YtdmajbdgjjmlkaaMat
import Derived.Test.YtdmajbdgjjmlkaaRows
import Derived.WalkKit
import Derived.WalkSpells
import Derived.WalkLawsBesides
import Derived.Lib.Hide
import Derived.Deep.QuietTactic
import Derived.BigQuiet
import Derived.ChangeKeysEq
namespace Go.Proofs.Ytdmajbdgjjmlkaa
open Go.RowKit
set_option linter.unusedVariables false

theorem items_all (d : Nat) (e : TypeId) (c : Nat) (xs ys : Array Value) (g : Nat → Bool) (w : World) : ∀ (is : List Nat),
    (∀ i ∈ is, ∃ a b, (part e xs (i * c)).run Try.prog w = .ok a w ∧ (part e ys (i * c)).run Try.prog w = .ok b w ∧ (Op.equalIn d e a b).run Try.prog w = .ok (g i) w) →
    (Op.eqItems d e c xs ys is).run Try.prog w = .ok (is.all g) w
  | [], _ => by simp [Op.eqItems]
  | i :: is, h => by
    obtain ⟨a, b, p1, p2, p3⟩ := h i (by simp)
    have ih := items_all d e c xs ys g w is (fun j hj => h j (by simp [hj]))
    simp only [Op.eqItems, Sem.run_bind, p1, p2, p3, Result.andThen_ok]
    cases hg : g i
    · simp [hg]
    · simp [hg, ih]
/-- two sets, as arrays of four numbers -/
def set4 (s0 s1 s2 s3 : Int) : Array Value := #[.int .u64 s0, .int .u64 s1, .int .u64 s2, .int .u64 s3]
theorem eq23 (a b c d a' b' c' d' : Int) (n : Nat) (w : World) (t : TypeId) (ht : Try.prog.underlying t = some (.array 4 22)) :
    (Op.equalIn (n + 2) t (.agg (set4 a b c d)) (.agg (set4 a' b' c' d'))).run Try.prog w = .ok (a == a' && b == b' && c == c' && d == d') w := by
  have hi : ∃ i0, Try.prog.info? 22 = some i0 := Option.isSome_iff_exists.1 (by kernel_rfl)
  obtain ⟨i0, hi⟩ := hi
  have c22 : Try.prog.cellsOf 22 = 1 := by kernel_rfl
  have hagg : (isAgg 22).run Try.prog w = .ok false w := by simp
  rw [run_equalIn_array w (n + 1) _ _ ht hi, c22, items_all (n + 1) 22 1 _ _ (fun i => if i = 0 then a == a' else if i = 1 then b == b' else if i = 2 then c == c' else d == d') w _ ?_]
  · simp [List.range, List.range.loop, Bool.and_assoc]
  · intro i hi
    have : i = 0 ∨ i = 1 ∨ i = 2 ∨ i = 3 := by have := List.mem_range.1 hi; omega
    rcases this with rfl | rfl | rfl | rfl
    · exact ⟨.int .u64 a, .int .u64 a', by simp [part, hagg, set4], by simp [part, hagg, set4], by simpa using run_equalIn_int w n 22 .u64 .u64 a a' Try.underlying22⟩
    · exact ⟨.int .u64 b, .int .u64 b', by simp [part, hagg, set4], by simp [part, hagg, set4], by simpa using run_equalIn_int w n 22 .u64 .u64 b b' Try.underlying22⟩
    · exact ⟨.int .u64 c, .int .u64 c', by simp [part, hagg, set4], by simp [part, hagg, set4], by simpa using run_equalIn_int w n 22 .u64 .u64 c c' Try.underlying22⟩
    · exact ⟨.int .u64 d, .int .u64 d', by simp [part, hagg, set4], by simp [part, hagg, set4], by simpa using run_equalIn_int w n 22 .u64 .u64 d d' Try.underlying22⟩
noncomputable def eql23 (x y : Value) : Sem Value := binOp .eql 23 x y
theorem eql23_pre (x y : Value) : binOp .eql 23 x y = eql23 x y := rfl
theorem eql23_run (a b c d a' b' c' d' : Int) (w : World) : (eql23 (.agg #[.int .u64 a, .int .u64 b, .int .u64 c, .int .u64 d]) (.agg #[.int .u64 a', .int .u64 b', .int .u64 c', .int .u64 d'])).run Try.prog w = .ok (.bool (a == a' && b == b' && c == c' && d == d')) w := by
  show (binOp .eql 23 (.agg (set4 a b c d)) (.agg (set4 a' b' c' d'))).run Try.prog w = _
  rw [run_eql_struct, eq23 a b c d a' b' c' d' 9998 w 23 Try.underlying23, Result.andThen_ok]
attribute [local go_sem ↓] eql23_pre
attribute [local go_sem] eql23_run

theorem ret_bool {a b : Bool} (h : a = b) : Ending.returned (.bool a) = .returned (.bool b) := by rw [h]
set_option maxHeartbeats 400000 in
theorem areT_any (mn mx : Int) (w : World) :
    Calls Try.prog 66 #[.int .i64 mn, .int .i64 mx] w fun e w' => e = .returned (.bool (areT mn mx)) ∧ w = w' := by
  obtain ⟨r, hr⟩ : ∃ r, r = areT mn mx := ⟨_, rfl⟩
  rw [← hr]
  unfold areT at hr
  have HR := Lib.hid hr
  clear hr
  go_enter Try.func66, Try.ntmps66
  go_wp2
  · go_ret
    exact ⟨ret_bool (by rw [HR.out]; simp [*]), rfl⟩
  · go_ret
    exact ⟨ret_bool (by rw [HR.out]; simp [*]), rfl⟩
  · have h : mx < mn := by assumption
    go_ret
    exact ⟨ret_bool (by rw [HR.out]; simp [*, show ¬ mn ≤ mx by omega]), rfl⟩
  · have h : 15 < mn := by assumption
    go_ret
    exact ⟨ret_bool (by rw [HR.out]; simp [show ¬ mn ≤ 15 by omega]), rfl⟩
  · have h : mn < 0 := by assumption
    go_ret
    exact ⟨ret_bool (by rw [HR.out]; simp [show ¬ 0 ≤ mn by omega]), rfl⟩
def cellsX (k mn mx s0 s1 s2 s3 : Int) (sl : Value) : Array Value := #[.int .i64 k, .int .i64 mn, .int .i64 mx, .int .u64 s0, .int .u64 s1, .int .u64 s2, .int .u64 s3, sl]
theorem below_drewN {B : Nat} {a w : World} (h : Below B a w) (n : Nat) : Below B a (w.drewN n) := ⟨h.os, h.tape, h.output, h.size, h.block⟩
theorem below_new (w : World) (o : Obj) : Below w.heap.size w (w.alloc o) := (Below.refl _ w).alloc (Nat.le_refl _) o
theorem below_trans {w w1 w2 : World} (h : Below w.heap.size w w1) (k : Below w1.heap.size w1 w2) : Below w.heap.size w w2 := h.trans (k.mono h.size)
theorem form_cases (k mn mx s0 s1 s2 s3 : Int) (n : Nat) (r Z M B N0 N1 N2 : Bool) (h : r = formF k mn mx s0 s1 s2 s3 n) (hZ : Z = noS s0 s1 s2 s3) (hM : M = (mx == 0)) (hB : B = (mn == 0)) (h0 : N0 = ((n : Int) == 0)) (h1 : N1 = ((n : Int) == 1)) (h2 : N2 = decide (2 ≤ (n : Int))) :
    (k = 0 → r = (!Z && (B && M) && N0)) ∧ (k = 1 → r = (Z && (B && M) && !N1)) ∧ (k = 2 → r = (Z && (B && M) && N2)) ∧ (k = 3 → r = (Z && areT mn mx && N1)) ∧ (k ≠ 0 → k ≠ 1 → k ≠ 2 → k ≠ 3 → r = false) := by
  have e0 : N0 = decide (n = 0) := by rw [h0]; show decide _ = _; rw [decide_eq_decide]; omega
  have e1 : N1 = decide (n = 1) := by rw [h1]; show decide _ = _; rw [decide_eq_decide]; omega
  have e2 : N2 = decide (2 ≤ n) := by rw [h2]; rw [decide_eq_decide]; omega
  have eM : M = decide (mx = 0) := hM
  have eB : B = decide (mn = 0) := hB
  rw [e0, e1, e2, eM, eB, hZ]
  subst h
  unfold formF
  refine ⟨fun e => by subst e; rfl, fun e => by subst e; simp, fun e => by subst e; rfl, fun e => by subst e; rfl, fun e0 e1 e2 e3 => by simp [e0, e1, e2, e3]⟩
theorem noS_eq (s0 s1 s2 s3 : Int) : (s0 == 0 && s1 == 0 && s2 == 0 && s3 == 0) = noS s0 s1 s2 s3 := by
  show (decide (s0 = 0) && decide (s1 = 0) && decide (s2 = 0) && decide (s3 = 0)) = _; rfl
set_option maxHeartbeats 4000000 in
theorem form0 (mn mx s0 s1 s2 s3 : Int) (ao : Option Addr) (n cap : Nat) (w : World) :
    Calls Try.prog 59 #[.agg (cellsX 0 mn mx s0 s1 s2 s3 (.slice ao n cap))] w fun e w' => e = .returned (.bool (formF 0 mn mx s0 s1 s2 s3 n)) ∧ Below w.heap.size w w' := by
  unfold cellsX
  obtain ⟨r, hr⟩ : ∃ r, r = formF 0 mn mx s0 s1 s2 s3 n := ⟨_, rfl⟩
  rw [← hr]
  have HH := form_cases 0 mn mx s0 s1 s2 s3 n r _ _ _ _ _ _ hr rfl rfl rfl rfl rfl rfl
  have hR := HH.1 rfl
  have AT := Lib.hid (areT_any mn mx)
  have bel : Hid (∀ o nq, Below w.heap.size w ((w.alloc o).drewN nq)) := fun o nq => below_drewN (below_new w o) nq
  have HZ := Lib.hid (noS_eq s0 s1 s2 s3)
  clear hr HH
  generalize areT mn mx = T at *
  cases d0 : (mn == 0) with
  | true =>
    try rw [d0] at hR
    have HR := Lib.hid hR
    clear hR
    go_enter Try.func59, Try.ntmps59
    go_wp2
    go_quiet (fail)
    rw [HZ.out]
    generalize noS s0 s1 s2 s3 = Z at *
    generalize (mx == 0) = M at *
    have hbn : ((n : Int) != 1) = !((n : Int) == 1) := rfl
    clear d0
    go_wp2_with (go_at_call 66; (with_reducible refine (AT.out _).mono ?_); rintro e w' ⟨rfl, rfl⟩)
    all_goals
      go_ret
      exact ⟨ret_bool (by rw [HR.out]; try simp [*]), bel.out _ _⟩
  | false =>
    try rw [d0] at hR
    have HR := Lib.hid hR
    clear hR
    go_enter Try.func59, Try.ntmps59
    go_wp2
    go_quiet (fail)
    rw [HZ.out]
    generalize noS s0 s1 s2 s3 = Z at *
    have hbn : ((n : Int) != 1) = !((n : Int) == 1) := rfl
    clear d0
    go_wp2_with (go_at_call 66; (with_reducible refine (AT.out _).mono ?_); rintro e w' ⟨rfl, rfl⟩)
    all_goals
      go_ret
      exact ⟨ret_bool (by rw [HR.out]; try simp [*]), bel.out _ _⟩
set_option maxHeartbeats 4000000 in
theorem form1 (mn mx s0 s1 s2 s3 : Int) (ao : Option Addr) (n cap : Nat) (w : World) :
    Calls Try.prog 59 #[.agg (cellsX 1 mn mx s0 s1 s2 s3 (.slice ao n cap))] w fun e w' => e = .returned (.bool (formF 1 mn mx s0 s1 s2 s3 n)) ∧ Below w.heap.size w w' := by
  unfold cellsX
  obtain ⟨r, hr⟩ : ∃ r, r = formF 1 mn mx s0 s1 s2 s3 n := ⟨_, rfl⟩
  rw [← hr]
  have HH := form_cases 1 mn mx s0 s1 s2 s3 n r _ _ _ _ _ _ hr rfl rfl rfl rfl rfl rfl
  have hR := HH.2.1 rfl
  have AT := Lib.hid (areT_any mn mx)
  have bel : Hid (∀ o nq, Below w.heap.size w ((w.alloc o).drewN nq)) := fun o nq => below_drewN (below_new w o) nq
  have HZ := Lib.hid (noS_eq s0 s1 s2 s3)
  clear hr HH
  generalize areT mn mx = T at *
  cases d0 : (mn == 0) with
  | true =>
    try rw [d0] at hR
    have HR := Lib.hid hR
    clear hR
    go_enter Try.func59, Try.ntmps59
    go_wp2
    go_quiet (fail)
    rw [HZ.out]
    generalize noS s0 s1 s2 s3 = Z at *
    generalize (mx == 0) = M at *
    have hbn : ((n : Int) != 1) = !((n : Int) == 1) := rfl
    clear d0
    go_wp2_with (go_at_call 66; (with_reducible refine (AT.out _).mono ?_); rintro e w' ⟨rfl, rfl⟩)
    all_goals
      go_ret
      exact ⟨ret_bool (by rw [HR.out]; try simp [*]), bel.out _ _⟩
  | false =>
    try rw [d0] at hR
    have HR := Lib.hid hR
    clear hR
    go_enter Try.func59, Try.ntmps59
    go_wp2
    go_quiet (fail)
    rw [HZ.out]
    generalize noS s0 s1 s2 s3 = Z at *
    have hbn : ((n : Int) != 1) = !((n : Int) == 1) := rfl
    clear d0
    go_wp2_with (go_at_call 66; (with_reducible refine (AT.out _).mono ?_); rintro e w' ⟨rfl, rfl⟩)
    all_goals
      go_ret
      exact ⟨ret_bool (by rw [HR.out]; try simp [*]), bel.out _ _⟩
set_option maxHeartbeats 4000000 in
theorem form2 (mn mx s0 s1 s2 s3 : Int) (ao : Option Addr) (n cap : Nat) (w : World) :
    Calls Try.prog 59 #[.agg (cellsX 2 mn mx s0 s1 s2 s3 (.slice ao n cap))] w fun e w' => e = .returned (.bool (formF 2 mn mx s0 s1 s2 s3 n)) ∧ Below w.heap.size w w' := by
  unfold cellsX
  obtain ⟨r, hr⟩ : ∃ r, r = formF 2 mn mx s0 s1 s2 s3 n := ⟨_, rfl⟩
  rw [← hr]
  have HH := form_cases 2 mn mx s0 s1 s2 s3 n r _ _ _ _ _ _ hr rfl rfl rfl rfl rfl rfl
  have hR := HH.2.2.1 rfl
  have AT := Lib.hid (areT_any mn mx)
  have bel : Hid (∀ o nq, Below w.heap.size w ((w.alloc o).drewN nq)) := fun o nq => below_drewN (below_new w o) nq
  have HZ := Lib.hid (noS_eq s0 s1 s2 s3)
  clear hr HH
  generalize areT mn mx = T at *
  cases d0 : (mn == 0) with
  | true =>
    try rw [d0] at hR
    have HR := Lib.hid hR
    clear hR
    go_enter Try.func59, Try.ntmps59
    go_wp2
    go_quiet (fail)
    rw [HZ.out]
    generalize noS s0 s1 s2 s3 = Z at *
    generalize (mx == 0) = M at *
    have hbn : ((n : Int) != 1) = !((n : Int) == 1) := rfl
    clear d0
    go_wp2_with (go_at_call 66; (with_reducible refine (AT.out _).mono ?_); rintro e w' ⟨rfl, rfl⟩)
    all_goals
      go_ret
      exact ⟨ret_bool (by rw [HR.out]; try simp [*]), bel.out _ _⟩
  | false =>
    try rw [d0] at hR
    have HR := Lib.hid hR
    clear hR
    go_enter Try.func59, Try.ntmps59
    go_wp2
    go_quiet (fail)
    rw [HZ.out]
    generalize noS s0 s1 s2 s3 = Z at *
    have hbn : ((n : Int) != 1) = !((n : Int) == 1) := rfl
    clear d0
    go_wp2_with (go_at_call 66; (with_reducible refine (AT.out _).mono ?_); rintro e w' ⟨rfl, rfl⟩)
    all_goals
      go_ret
      exact ⟨ret_bool (by rw [HR.out]; try simp [*]), bel.out _ _⟩
set_option maxHeartbeats 4000000 in
theorem form3 (mn mx s0 s1 s2 s3 : Int) (ao : Option Addr) (n cap : Nat) (w : World) :
    Calls Try.prog 59 #[.agg (cellsX 3 mn mx s0 s1 s2 s3 (.slice ao n cap))] w fun e w' => e = .returned (.bool (formF 3 mn mx s0 s1 s2 s3 n)) ∧ Below w.heap.size w w' := by
  unfold cellsX
  obtain ⟨r, hr⟩ : ∃ r, r = formF 3 mn mx s0 s1 s2 s3 n := ⟨_, rfl⟩
  rw [← hr]
  have HH := form_cases 3 mn mx s0 s1 s2 s3 n r _ _ _ _ _ _ hr rfl rfl rfl rfl rfl rfl
  have hR := HH.2.2.2.1 rfl
  have AT := Lib.hid (areT_any mn mx)
  have bel : Hid (∀ o nq, Below w.heap.size w ((w.alloc o).drewN nq)) := fun o nq => below_drewN (below_new w o) nq
  have HZ := Lib.hid (noS_eq s0 s1 s2 s3)
  clear hr HH
  generalize areT mn mx = T at *
  cases d0 : (mn == 0) with
  | true =>
    try rw [d0] at hR
    have HR := Lib.hid hR
    clear hR
    go_enter Try.func59, Try.ntmps59
    go_wp2
    go_quiet (fail)
    rw [HZ.out]
    generalize noS s0 s1 s2 s3 = Z at *
    generalize (mx == 0) = M at *
    have hbn : ((n : Int) != 1) = !((n : Int) == 1) := rfl
    clear d0
    go_wp2_with (go_at_call 66; (with_reducible refine (AT.out _).mono ?_); rintro e w' ⟨rfl, rfl⟩)
    all_goals
      go_ret
      exact ⟨ret_bool (by rw [HR.out]; try simp [*]), bel.out _ _⟩
  | false =>
    try rw [d0] at hR
    have HR := Lib.hid hR
    clear hR
    go_enter Try.func59, Try.ntmps59
    go_wp2
    go_quiet (fail)
    rw [HZ.out]
    generalize noS s0 s1 s2 s3 = Z at *
    have hbn : ((n : Int) != 1) = !((n : Int) == 1) := rfl
    clear d0
    go_wp2_with (go_at_call 66; (with_reducible refine (AT.out _).mono ?_); rintro e w' ⟨rfl, rfl⟩)
    all_goals
      go_ret
      exact ⟨ret_bool (by rw [HR.out]; try simp [*]), bel.out _ _⟩
set_option maxHeartbeats 4000000 in
theorem formX (mn mx s0 s1 s2 s3 : Int) (k : Int) (k0 : k ≠ 0) (k1 : k ≠ 1) (k2 : k ≠ 2) (k3 : k ≠ 3) (ao : Option Addr) (n cap : Nat) (w : World) :
    Calls Try.prog 59 #[.agg (cellsX k mn mx s0 s1 s2 s3 (.slice ao n cap))] w fun e w' => e = .returned (.bool (formF k mn mx s0 s1 s2 s3 n)) ∧ Below w.heap.size w w' := by
  unfold cellsX
  obtain ⟨r, hr⟩ : ∃ r, r = formF k mn mx s0 s1 s2 s3 n := ⟨_, rfl⟩
  rw [← hr]
  have HH := form_cases k mn mx s0 s1 s2 s3 n r _ _ _ _ _ _ hr rfl rfl rfl rfl rfl rfl
  have hR := HH.2.2.2.2 k0 k1 k2 k3
  have AT := Lib.hid (areT_any mn mx)
  have bel : Hid (∀ o nq, Below w.heap.size w ((w.alloc o).drewN nq)) := fun o nq => below_drewN (below_new w o) nq
  have HZ := Lib.hid (noS_eq s0 s1 s2 s3)
  have e0 : (k == 0) = false := by simpa using k0
  have e1 : (k == 1) = false := by simpa using k1
  have e2 : (k == 2) = false := by simpa using k2
  have e3 : (k == 3) = false := by simpa using k3
  clear k0 k1 k2 k3
  clear hr HH
  generalize areT mn mx = T at *
  cases d0 : (mn == 0) with
  | true =>
    try rw [d0] at hR
    have HR := Lib.hid hR
    clear hR
    go_enter Try.func59, Try.ntmps59
    go_wp2
    go_quiet (fail)
    rw [HZ.out]
    generalize noS s0 s1 s2 s3 = Z at *
    generalize (mx == 0) = M at *
    have hbn : ((n : Int) != 1) = !((n : Int) == 1) := rfl
    clear d0
    go_wp2_with (go_at_call 66; (with_reducible refine (AT.out _).mono ?_); rintro e w' ⟨rfl, rfl⟩)
    all_goals
      go_ret
      exact ⟨ret_bool (by rw [HR.out]; try simp [*]), bel.out _ _⟩
  | false =>
    try rw [d0] at hR
    have HR := Lib.hid hR
    clear hR
    go_enter Try.func59, Try.ntmps59
    go_wp2
    go_quiet (fail)
    rw [HZ.out]
    generalize noS s0 s1 s2 s3 = Z at *
    have hbn : ((n : Int) != 1) = !((n : Int) == 1) := rfl
    clear d0
    go_wp2_with (go_at_call 66; (with_reducible refine (AT.out _).mono ?_); rintro e w' ⟨rfl, rfl⟩)
    all_goals
      go_ret
      exact ⟨ret_bool (by rw [HR.out]; try simp [*]), bel.out _ _⟩
theorem form_any (k mn mx s0 s1 s2 s3 : Int) (ao : Option Addr) (n cap : Nat) (w : World) :
    Calls Try.prog 59 #[.agg (cellsX k mn mx s0 s1 s2 s3 (.slice ao n cap))] w fun e w' => e = .returned (.bool (formF k mn mx s0 s1 s2 s3 n)) ∧ Below w.heap.size w w' := by
  by_cases k0 : k = 0
  · subst k0; exact form0 mn mx s0 s1 s2 s3 ao n cap w
  · by_cases k1 : k = 1
    · subst k1; exact form1 mn mx s0 s1 s2 s3 ao n cap w
    · by_cases k2 : k = 2
      · subst k2; exact form2 mn mx s0 s1 s2 s3 ao n cap w
      · by_cases k3 : k = 3
        · subst k3; exact form3 mn mx s0 s1 s2 s3 ao n cap w
        · exact formX mn mx s0 s1 s2 s3 k k0 k1 k2 k3 ao n cap w
end Go.Proofs.Ytdmajbdgjjmlkaa
