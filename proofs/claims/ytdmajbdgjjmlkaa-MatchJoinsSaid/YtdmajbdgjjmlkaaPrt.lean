/- Which expressions may be; bytes of a set: what the calls return. Conditions: the expression lies in memory; the byte is one. -/
import Derived.Test.YtdmajbdgjjmlkaaPrs
namespace Go.Proofs.Ytdmajbdgjjmlkaa
open Go.RowKit
set_option linter.unusedVariables false

def checkR (t : Rx) : Int := if sizeR t = 0 then 52 else if sizeR t = 257 then 51 else 0
set_option maxHeartbeats 1000000 in
/-- may an expression be? -/
theorem check_any {ok : Nat → Prop} (w : World) (v : Value) (t : Rx) (h : LiesL ok w v t.list) : Calls Try.prog 28 #[t.val v] w fun e w' => e = .returned (.int .i64 (checkR t)) ∧ Below w.heap.size w w' := by
  obtain ⟨ao, cap, rfl⟩ := h.value
  have S := fun o => size_any (w.alloc o) (.slice ao t.list.length cap) t (h.stay (below_new w o))
  have bel : Hid (∀ o w2, Below (w.alloc o).heap.size (w.alloc o) w2 → Below w.heap.size w w2) := fun o w2 g => below_trans (below_new w o) g
  obtain ⟨k, mn, mx, x0, x1, x2, x3, ls⟩ := t
  unfold checkR
  unfold Rx.val
  dsimp only [Rx.cells, cellsX, Rx.list] at S ⊢
  generalize sizeR (.mk k mn mx x0 x1 x2 x3 ls) = n at *
  have S2 := Lib.hid S
  clear S h
  by_cases h0 : n = 0
  · subst h0
    go_enter Try.func28, Try.ntmps28
    go_wp2_with (go_at_call 42; (with_reducible refine (S2.out _).mono ?_); rintro e w1 ⟨rfl, g1⟩)
    go_ret
    exact ⟨rfl, bel.out _ _ g1⟩
  · have e0 : ((n : Int) == 0) = false := by simp; omega
    rw [if_neg h0]
    by_cases h1 : n = 257
    · subst h1
      go_enter Try.func28, Try.ntmps28
      go_wp2_with (go_at_call 42; (with_reducible refine (S2.out _).mono ?_); rintro e w1 ⟨rfl, g1⟩)
      go_ret
      exact ⟨rfl, bel.out _ _ g1⟩
    · have e1 : ((n : Int) == 257) = false := by simp; omega
      rw [if_neg h1]
      clear h0 h1
      go_enter Try.func28, Try.ntmps28
      go_wp2_with (go_at_call 42; (with_reducible refine (S2.out _).mono ?_); rintro e w1 ⟨rfl, g1⟩)
      go_ret
      exact ⟨rfl, bel.out _ _ g1⟩
end Go.Proofs.Ytdmajbdgjjmlkaa
