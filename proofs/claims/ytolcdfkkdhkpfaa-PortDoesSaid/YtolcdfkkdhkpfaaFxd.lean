/- The document's examples. No conditions. -/
import Derived.Test.YtolcdfkkdhkpfaaOwn
namespace Go.Proofs.Ytolcdfkkdhkpfaa
open Go.RowKit Go.Maps Go.Sort Go.Lib
set_option linter.unusedVariables false
set_option linter.unusedSimpArgs false

set_option maxRecDepth 100000 in
set_option maxHeartbeats 4000000 in
theorem fixed_any (w : World) : Calls Try.prog 10 #[] w fun e w' => e = .returned (.bool true) ∧ Below w.heap.size w w' := by
  have KA : Hid (Calls Try.prog 7 #[.agg #[.int .i64 1, .int .i64 0, .int .i64 1, .int .i64 2, .int .i64 2]] w fun e w' => ∃ p, e = .returned (.tuple #[.pointer (some ⟨p, 0, none⟩), .int .i64 0]) ∧ Hid (Own w 0 w' p (newS cA))) := Lib.hid ((own_new cA (by decide) (Below.refl _ w)).mono fun e w' ⟨p, x, y⟩ => ⟨p, x, Lib.hid y⟩)
  have KB : Hid (∀ W, Below w.heap.size w W → Calls Try.prog 7 #[.agg #[.int .i64 0, .int .i64 0, .int .i64 1, .int .i64 2, .int .i64 1]] W fun e w' => ∃ p, e = .returned (.tuple #[.pointer (some ⟨p, 0, none⟩), .int .i64 0]) ∧ Hid (Own w 0 w' p (newS cB))) := Lib.hid fun W hW => (own_new cB (by decide) hW).mono fun e w' ⟨p, x, y⟩ => ⟨p, x, Lib.hid y⟩
  have KC : Hid (∀ W, Calls Try.prog 9 #[.agg #[.int .i64 0, .int .i64 0, .int .i64 0, .int .i64 0, .int .i64 0]] W fun e w' => e = .returned (.int .i64 140) ∧ Below W.heap.size W w') := Lib.hid fun W => check_any W ⟨0, 0, 0, 0, 0⟩
  have K1 : Hid (∀ W p, Own w 0 W p (newS cA) → Calls Try.prog 12 #[.pointer (some ⟨p, 0, none⟩), .string ⟨#[97]⟩, .int .i64 0] W fun e w' => e = .returned (.int .i64 0) ∧ Hid (Own w 1 w' p sA1)) := Lib.hid fun W p h => by
    have := h.send (by decide) bA 0
    rw [fx1] at this
    exact this.mono fun e w' ⟨x, y⟩ => ⟨x, Lib.hid y⟩
  have K2 : Hid (∀ W p, Own w 1 W p (sA1) → Calls Try.prog 12 #[.pointer (some ⟨p, 0, none⟩), .string ⟨#[98, 99, 100]⟩, .int .i64 0] W fun e w' => e = .returned (.int .i64 141) ∧ Hid (Own w 2 w' p sA2)) := Lib.hid fun W p h => by
    have := h.send (by decide) bBCD 0
    rw [fx2] at this
    exact this.mono fun e w' ⟨x, y⟩ => ⟨x, Lib.hid y⟩
  have K3 : Hid (∀ W p, Own w 2 W p (sA2) → Calls Try.prog 12 #[.pointer (some ⟨p, 0, none⟩), .string ⟨#[98]⟩, .int .i64 0] W fun e w' => e = .returned (.int .i64 0) ∧ Hid (Own w 3 w' p sA3)) := Lib.hid fun W p h => by
    have := h.send (by decide) bB 0
    rw [fx3] at this
    exact this.mono fun e w' ⟨x, y⟩ => ⟨x, Lib.hid y⟩
  have K4 : Hid (∀ W p, Own w 3 W p (sA3) → Calls Try.prog 12 #[.pointer (some ⟨p, 0, none⟩), .string ⟨#[99]⟩, .int .i64 0] W fun e w' => e = .returned (.int .i64 0) ∧ Hid (Own w 4 w' p sA4)) := Lib.hid fun W p h => by
    have := h.send (by decide) bC 0
    rw [fx4] at this
    exact this.mono fun e w' ⟨x, y⟩ => ⟨x, Lib.hid y⟩
  have K5 : Hid (∀ W p, Own w 4 W p sA4 → Calls Try.prog 20 #[.pointer (some ⟨p, 0, none⟩)] W fun e w' => e = .returned (.int .i64 2) ∧ W = w') := Lib.hid fun W p h => by
    have := h.len
    rw [fx5] at this
    exact this
  have K6 : Hid (∀ W p, Own w 4 W p sA4 → Calls Try.prog 14 #[.pointer (some ⟨p, 0, none⟩), .int .i64 0] W fun e w' => e = .returned (.tuple #[.string ⟨#[97]⟩, .int .i64 1, .int .i64 0]) ∧ Hid (Own w 4 w' p sA5)) := Lib.hid fun W p h => by
    have := h.recv 0
    rw [fx6] at this
    exact this.mono fun e w' ⟨x, y⟩ => ⟨x, Lib.hid y⟩
  have K7 : Hid (∀ W p, Own w 4 W p sA5 → Calls Try.prog 14 #[.pointer (some ⟨p, 0, none⟩), .int .i64 0] W fun e w' => e = .returned (.tuple #[.string ⟨#[98]⟩, .int .i64 0, .int .i64 0]) ∧ Hid (Own w 4 w' p sA6)) := Lib.hid fun W p h => by
    have := h.recv 0
    rw [fx7] at this
    exact this.mono fun e w' ⟨x, y⟩ => ⟨x, Lib.hid y⟩
  have K8 : Hid (∀ W p, Own w 4 W p sA6 → Calls Try.prog 14 #[.pointer (some ⟨p, 0, none⟩), .int .i64 0] W fun e w' => e = .returned (.tuple #[.string ByteArray.empty, .int .i64 0, .int .i64 142]) ∧ Hid (Own w 4 w' p (recvS sA6 0))) := Lib.hid fun W p h => by
    have := h.recv 0
    rw [fx8] at this
    exact this.mono fun e w' ⟨x, y⟩ => ⟨x, Lib.hid y⟩
  have K10 : Hid (∀ W p, Own w 1 W p sB1 → Calls Try.prog 14 #[.pointer (some ⟨p, 0, none⟩), .int .i64 5] W fun e w' => e = .returned (.tuple #[.string ⟨#[120]⟩, .int .i64 2, .int .i64 0]) ∧ Hid (Own w 1 w' p (recvS sB1 5))) := Lib.hid fun W p h => by
    have := h.recv 5
    rw [fx10] at this
    exact this.mono fun e w' ⟨x, y⟩ => ⟨x, Lib.hid y⟩
  have K9 : Hid (∀ W p, Own w 0 W p (newS cB) → Calls Try.prog 12 #[.pointer (some ⟨p, 0, none⟩), .string ⟨#[120]⟩, .int .i64 3] W fun e w' => e = .returned (.int .i64 0) ∧ Hid (Own w 1 w' p sB1)) := Lib.hid fun W p h => by
    have := h.send (by decide) bX 3
    rw [fx9] at this
    exact this.mono fun e w' ⟨x, y⟩ => ⟨x, Lib.hid y⟩
  have K11 : Hid (∀ W p, Own w 1 W p (recvS sB1 5) → Calls Try.prog 20 #[.pointer (some ⟨p, 0, none⟩)] W fun e w' => e = .returned (.int .i64 1) ∧ W = w') := Lib.hid fun W p h => by
    have := h.len
    rw [fx11] at this
    exact this
  go_enter Try.func10, Try.ntmps10
  go_wp2_with (first
    | (go_at_call 7; (with_reducible refine KA.out.mono ?_); rintro e w1 ⟨p, rfl, H0⟩)
    | (go_at_call 12; (with_reducible refine (K1.out _ _ H0.out).mono ?_); rintro e w2 ⟨rfl, H1⟩)
    | (go_at_call 12; (with_reducible refine (K2.out _ _ H1.out).mono ?_); rintro e w3 ⟨rfl, H2⟩)
    | (go_at_call 12; (with_reducible refine (K3.out _ _ H2.out).mono ?_); rintro e w4 ⟨rfl, H3⟩)
    | (go_at_call 12; (with_reducible refine (K4.out _ _ H3.out).mono ?_); rintro e w5 ⟨rfl, H4⟩)
    | (go_at_call 20; (with_reducible refine (K5.out _ _ H4.out).mono ?_); rintro e _ ⟨rfl, rfl⟩)
    | (go_at_call 14; (with_reducible refine (K6.out w5 _ H4.out).mono ?_); rintro e w6 ⟨rfl, H5⟩)
    | (go_at_call 14; (with_reducible refine (K7.out w6 _ H5.out).mono ?_); rintro e w7 ⟨rfl, H6⟩)
    | (go_at_call 14; (with_reducible refine (K8.out w7 _ H6.out).mono ?_); rintro e w8 ⟨rfl, H7⟩)
    | (go_at_call 7; (with_reducible refine (KB.out _ H7.out.bel).mono ?_); rintro e w9 ⟨p2, rfl, G0⟩)
    | (go_at_call 12; (with_reducible refine (K9.out _ _ G0.out).mono ?_); rintro e w10 ⟨rfl, G1⟩)
    | (go_at_call 14; (with_reducible refine (K10.out w10 _ G1.out).mono ?_); rintro e w11 ⟨rfl, G2⟩)
    | (go_at_call 20; (with_reducible refine (K11.out _ _ G2.out).mono ?_); rintro e _ ⟨rfl, rfl⟩)
    | (go_at_call 9; (with_reducible refine (KC.out _).mono ?_); rintro e w12 ⟨rfl, hb⟩; have HE := Lib.hid (G2.out.bel.trans (hb.mono G2.out.bel.size)); clear hb))
  go_ret
  exact ⟨rfl, HE.out⟩
end Go.Proofs.Ytolcdfkkdhkpfaa
