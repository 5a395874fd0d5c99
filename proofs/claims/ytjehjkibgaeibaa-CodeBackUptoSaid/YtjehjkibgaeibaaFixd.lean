/- The calls whose answers the document fixes: they answer so; nothing that was there turns. No conditions. -/
import Derived.Test.YtjehjkibgaeibaaAsk
namespace Go.Proofs.Ytjehjkibgaeibaa
open Go.RowKit
set_option linter.unusedVariables false

def b123 : ByteArray := ⟨#[1, 2, 3]⟩
theorem n1 : numR b123 0 0 2 = (258, 2, 0) := by decide +kernel
theorem n2 : numR b123 2 0 2 = (0, 2, 10) := by decide +kernel
theorem n3 : numR b123 2 10 1 = (0, 2, 10) := by decide +kernel
theorem n4 : doneV b123 2 10 = .tuple #[.int .i64 10, .int .i64 2] := rfl
theorem n5 : textS [97, 98] = [0, 2, 97, 98] := by decide +kernel
theorem n6 : putS (-1) 3 = [255, 255, 255] := by decide +kernel
theorem n7 : crc [49, 50, 51, 52, 53, 54, 55, 56, 57] = 3421780262 := by decide +kernel

theorem newR {W : World} {s : ByteArray} : Rdr (W.alloc (.cells #[.string s, .int .i64 0, .int .i64 0] 58)) W.heap.size s 0 0 := block_new _ _
theorem newG (W : World) {s : ByteArray} : Below W.heap.size W (W.alloc (.cells #[.string s, .int .i64 0, .int .i64 0] 58)) := (Below.refl _ _).alloc (Nat.le_refl _) _
theorem below_grown {w w1 w2 : World} {b : Nat} (h : Below w.heap.size w w1) (hb : w.heap.size ≤ b) (hg : w1.grownBy w2 (some b)) : Below w.heap.size w w2 :=
  h.grown hg h.size (fun k hk => by cases hk; exact hb)
theorem below_drewN {B : Nat} {a w : World} (h : Below B a w) (n : Nat) : Below B a (w.drewN n) := ⟨h.os, h.tape, h.output, h.size, h.block⟩
theorem below_trans {w w1 w2 : World} (h : Below w.heap.size w w1) (k : Below w1.heap.size w1 w2) : Below w.heap.size w w2 := h.trans (k.mono h.size)

set_option maxHeartbeats 1000000 in
theorem fixed_any (w : World) : Calls Try.prog 12 #[] w fun x w' => x = .returned (.bool true) ∧ Below w.heap.size w w' := by
  obtain ⟨B, hB⟩ : ∃ B, B = w.heap.size := ⟨_, rfl⟩
  have HB := Lib.hid hB
  clear hB
  have e1 : (⟨#[1, 2, 3]⟩ : ByteArray) = b123 := rfl
  go_enter Try.func12, Try.ntmps12
  go_wp2_with fail
  refine (new_any _ _).mono ?_
  rintro x w1 ⟨rfl, rfl⟩
  rw [← HB.out]
  have R1 : Rdr (w.alloc (.cells #[.string b123, .int .i64 0, .int .i64 0] 58)) B b123 0 0 := by rw [HB.out]; exact newR
  have G1 : Below w.heap.size w (w.alloc (.cells #[.string b123, .int .i64 0, .int .i64 0] 58)) := newG w
  generalize w.alloc (.cells #[.string b123, .int .i64 0, .int .i64 0] 58) = w1 at *
  have hB : w.heap.size ≤ B := by rw [HB.out]; exact Nat.le_refl _
  clear e1
  go_wp2_with fail
  refine (num_any _ _ _ _ _ _ R1 (by decide) (by decide)).mono ?_
  rintro x w2 ⟨rfl, R2, g2⟩
  rw [n1] at R2 ⊢
  have R2 : Rdr w2 B b123 2 0 := R2
  go_wp2_with fail
  refine (left_any _ _ _ _ _ R2 (by decide) (by decide)).mono ?_
  rintro x w3 ⟨rfl, m3, rfl⟩
  rw [show ((b123.size - 2 : Nat) : Int) = 1 from rfl]
  go_wp2_with fail
  refine (num_any _ _ _ _ _ _ (R2.drewN m3) (by decide) (by decide)).mono ?_
  rintro x w3 ⟨rfl, R3, g3⟩
  rw [n2] at R3 ⊢
  have R3 : Rdr w3 B b123 2 10 := R3
  go_wp2_with fail
  refine (num_any _ _ _ _ _ _ R3 (by decide) (by decide)).mono ?_
  rintro x w4 ⟨rfl, R4, g4⟩
  rw [n3] at R4 ⊢
  have R4 : Rdr w4 B b123 2 10 := R4
  go_wp2_with fail
  refine (at_any _ _ _ _ _ R4).mono ?_
  rintro x w5 ⟨rfl, rfl⟩
  go_wp2_with fail
  refine (done_any _ _ _ _ _ R4 (by decide) (by decide)).mono ?_
  rintro x w5 ⟨rfl, m5, rfl⟩
  rw [n4]
  go_wp2_with fail
  refine (puttext_any _ _ (by decide)).mono ?_
  rintro x w6 ⟨rfl, b6⟩
  rw [n5]
  go_wp2_with fail
  refine (put_int _ _ _ (by decide) (by decide)).mono ?_
  rintro x w7 ⟨rfl, b7⟩
  rw [show ((3 : Int).toNat) = 3 from rfl, n6]
  go_wp2_with fail
  refine (sum32_any _ _ (by decide)).mono ?_
  rintro x w8 ⟨rfl, rfl⟩
  rw [n7]
  go_wp2_with fail
  go_ret
  have G2 := below_grown G1 hB g2
  have G3 := below_grown (below_drewN G2 m3) hB g3
  have G4 := below_drewN (below_grown G3 hB g4) m5
  exact ⟨rfl, below_trans (below_trans G4 b6) b7⟩

end Go.Proofs.Ytjehjkibgaeibaa
