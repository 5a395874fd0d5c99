/- A span's two calls: whose it is, and how many of its ticks lie ahead of one. Conditions: numbers that a machine holds. -/
import Derived.BigRegion
import Derived.Test.YtgbmddjpaibcfaaLen
namespace Go.Proofs.Ytgbmddjpaibcfaa
open Go.RowKit Go.Maps
set_option linter.unusedVariables false

def sag (f r t a b : Int) : Value := .agg #[.int .i64 f, .int .i64 r, .int .i64 t, .int .i64 a, .int .i64 b]
def isB (f r kd ix : Int) : Bool := decide (f = kd ∧ r = ix)
set_option maxHeartbeats 1000000 in
theorem is_any (w : World) (f r t a b kd ix : Int) :
    Calls Try.prog 38 #[.agg #[.int .i64 f, .int .i64 r, .int .i64 t, .int .i64 a, .int .i64 b], .int .i64 kd, .int .i64 ix] w fun e w' => e = .returned (.bool (isB f r kd ix)) ∧ Below w.heap.size w w' := by
  have hb : Below w.heap.size w (w.alloc (.cells #[.int .i64 f, .int .i64 r, .int .i64 t, .int .i64 a, .int .i64 b] 67)) := (Below.refl _ w).alloc (Nat.le_refl _) _
  have HB := Lib.hid hb
  clear hb
  by_cases c : f = kd
  · have e : isB f r kd ix = (r == ix) := by unfold isB; simp [c]; exact (Bool.eq_iff_iff).2 (by simp)
    rw [e]; clear e
    subst c
    go_enter Try.func38, Try.ntmps38
    go_wp2
    go_ret
    exact ⟨by simp, HB.out⟩
  · have e : isB f r kd ix = false := by unfold isB; simp [c]
    have c2 : (f == kd) = false := by simpa using c
    rw [e]; clear e
    go_enter Try.func38, Try.ntmps38
    go_wp2
    go_ret
    exact ⟨rfl, HB.out⟩
/-- how many ticks of a window lie ahead of one -/
def ahd (st t L tick : Nat) : Nat := tick / L * t + min (tick % L - st) t
theorem w64 {x : Int} (h : -9223372036854775808 ≤ x ∧ x ≤ 9223372036854775807) : wrap64 x = x := by unfold wrap64; omega
theorem ahd_val (t a L tick : Nat) (ht : t ≤ 255) (ha : a ≤ 16320) (hL : 1 ≤ L) (hL2 : L ≤ 16320) (hk : tick ≤ 2199023255552) :
    wrap64 (wrap64 (wrap64 ((tick : Int) / (L : Int)) * (t : Int)) + if (t : Int) < (if wrap64 ((tick : Int) % (L : Int) - (a : Int)) < 0 then 0 else wrap64 ((tick : Int) % (L : Int) - (a : Int))) then (t : Int) else if wrap64 ((tick : Int) % (L : Int) - (a : Int)) < 0 then 0 else wrap64 ((tick : Int) % (L : Int) - (a : Int))) = ((ahd a t L tick : Nat) : Int) := by
  unfold ahd
  obtain ⟨Q, hQ⟩ : ∃ Q, Q = tick / L := ⟨_, rfl⟩
  obtain ⟨M, hM⟩ : ∃ M, M = tick % L := ⟨_, rfl⟩
  have hQ2 : Q ≤ 2199023255552 := by rw [hQ]; exact Nat.le_trans (Nat.div_le_self _ _) hk
  have hM2 : M ≤ 16320 := by rw [hM]; have := Nat.mod_lt tick (show 0 < L by omega); omega
  rw [← Int.natCast_ediv, ← Int.natCast_emod, ← hQ, ← hM]
  clear hQ hM
  have hQt : Q * t ≤ 2199023255552 * 255 := Nat.mul_le_mul hQ2 ht
  rw [w64 (x := (Q : Int)) (by omega), ← Int.natCast_mul]
  generalize Q * t = P at *
  rw [w64 (x := (P : Int)) (by omega), w64 (x := (M : Int) - (a : Int)) (by omega)]
  by_cases c : (M : Int) - (a : Int) < 0
  · rw [if_pos c, if_neg (by omega), w64 (by omega)]; omega
  · rw [if_neg c]
    by_cases d : (t : Int) < (M : Int) - (a : Int)
    · rw [if_pos d, w64 (by omega)]; omega
    · rw [if_neg d, w64 (by omega)]; omega
set_option maxHeartbeats 4000000 in
theorem ahead_any (w : World) (f r : Int) (t a L tick : Nat) (b : Int) (ht : t ≤ 255) (ha : a ≤ 16320) (hL : 1 ≤ L) (hL2 : L ≤ 16320) (hk : tick ≤ 2199023255552) :
    Calls Try.prog 39 #[.agg #[.int .i64 f, .int .i64 r, .int .i64 (t : Int), .int .i64 (a : Int), .int .i64 b], .int .i64 (tick : Int), .int .i64 (L : Int)] w fun e w' => e = .returned (.int .i64 (ahd a t L tick : Nat)) ∧ Below w.heap.size w w' := by
  have hb : Below w.heap.size w (w.alloc (.cells #[.int .i64 f, .int .i64 r, .int .i64 (t : Int), .int .i64 (a : Int), .int .i64 b] 67)) := (Below.refl _ w).alloc (Nat.le_refl _) _
  have HB := Lib.hid hb
  clear hb
  have HE := Lib.hid (ahd_val t a L tick ht ha hL hL2 hk)
  have n0 : ¬ (L : Int) = 0 := by omega
  have n1 : ((L : Int) == 0) = false := by simpa using n0
  go_enter Try.func39, Try.ntmps39
  go_wp2
  go_quiet (fail)
  rw [HE.out]
  go_wp2
  all_goals (go_ret; exact ⟨rfl, below_drewN HB.out nq⟩)
end Go.Proofs.Ytgbmddjpaibcfaa
