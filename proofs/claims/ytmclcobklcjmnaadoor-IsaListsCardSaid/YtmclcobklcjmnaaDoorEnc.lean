/- An instruction's bytes. No conditions. -/
import Derived.Test.YtmclcobklcjmnaaDoorOpn
namespace Go.Proofs.YtmclcobklcjmnaaDoor
open Go.RowKit Go.Maps
set_option linter.unusedVariables false
set_option linter.unusedSimpArgs false

theorem cell_last (w : World) (cs : Array Value) (t : TypeId) (fr : Nat × Nat) (i : Nat) : (w.alloc (.cells cs t fr)).cell? ⟨w.heap.size, i, none⟩ = cs[i]? := by unfold World.cell?; dsimp only; rw [heap_alloc_last]; rfl
def encS (i : In) : Bs := if okI i then encI i else []
set_option maxRecDepth 20000 in
set_option maxHeartbeats 4000000 in
theorem enc_any (i : In) (w : World) : Calls Tryd.prog 15 #[inV i] w fun e w' => e = .returned (.tuple #[.string (str (encS i)), .int .i64 (ckE i)]) ∧ Below w.heap.size w w' := by
  have K := Lib.hid (check_any i)
  unfold encS ckE at *
  by_cases h : okI i = true
  · have hb := (okI_iff i).1 h
    have hi := imm_range hb.2
    have hf := (fits_iff _ _).1 hb.2
    have ra := mayN_range hf.1
    have rb := mayN_range hf.2.1
    rw [if_pos h] at K
    rw [if_pos h, if_pos h]
    have hbf := hb
    clear hf hb h
    unfold encI
    unfold inV at *
    obtain ⟨op, a, b, imm⟩ := i
    dsimp only at *
    obtain ⟨hb, hf⟩ := hbf
    obtain ⟨a0, a1⟩ := ra
    obtain ⟨b0, b1⟩ := rb
    obtain ⟨i0, i1⟩ := hi
    obtain ⟨o0, o1⟩ := hb
    clear hf
    obtain ⟨c0, e0⟩ : ∃ c0 : UInt8, c0 = UInt8.ofNat op.toNat := ⟨_, rfl⟩
    obtain ⟨c1, e1⟩ : ∃ c1 : UInt8, c1 = UInt8.ofNat (16 * a + b).toNat := ⟨_, rfl⟩
    obtain ⟨c2, e2⟩ : ∃ c2 : UInt8, c2 = UInt8.ofNat (imm % 65536 / 256).toNat := ⟨_, rfl⟩
    obtain ⟨c3, e3⟩ : ∃ c3 : UInt8, c3 = UInt8.ofNat (imm % 256).toNat := ⟨_, rfl⟩
    have g0 : op % 256 = (c0.toNat : Int) := by rw [e0]; simp; omega
    have g1 : (16 * a + b) % 256 = (c1.toNat : Int) := by rw [e1]; simp; omega
    have g2 : (imm / 256) % 256 = (c2.toNat : Int) := by rw [e2]; simp; omega
    have g3 : imm % 256 = (c3.toNat : Int) := by rw [e3]; simp; omega
    rw [← e0, ← e1, ← e2, ← e3]
    have W8 : ∀ x : Int, IntKind.u8.wrap x = x % 256 := fun x => by
      unfold IntKind.wrap
      simp only [IntKind.bits, IntKind.signed]
      simp only [Bool.false_and, Bool.false_eq_true, if_false]
      rfl
    have G0 := (W8 op).trans g0
    have G1 := (W8 (16 * a + b)).trans g1
    have G2 := (W8 (imm / 256)).trans g2
    have G3 := (W8 imm).trans g3
    have S : Hid (str [c0, c1, c2, c3] = ⟨#[c0, c1, c2, c3]⟩) := rfl
    rw [S.out]
    have cv : Hid (∀ w1 : World, (convert 37 9 (.slice (some ⟨w1.heap.size, 0, none⟩) 4 4)).run Tryd.prog (w1.alloc (.cells #[.int .u8 (c0.toNat : Nat), .int .u8 (c1.toNat : Nat), .int .u8 (c2.toNat : Nat), .int .u8 (c3.toNat : Nat)] 5)) = .ok (.string ⟨#[c0, c1, c2, c3]⟩) (w1.alloc (.cells #[.int .u8 (c0.toNat : Nat), .int .u8 (c1.toNat : Nat), .int .u8 (c2.toNat : Nat), .int .u8 (c3.toNat : Nat)] 5))) := fun w1 => by
      refine run_convert_bytes_back (P := Tryd.prog) _ 37 9 5 ⟨w1.heap.size, 0, none⟩ 4 [c0, c1, c2, c3] Tryd.underlying37 Tryd.underlying5 Tryd.underlying9 (fun i hi => ?_)
      rw [show (⟨w1.heap.size, 0, none⟩ : Addr).add i = ⟨w1.heap.size, i, none⟩ by simp [Addr.add]; intro h; exact h.symm]
      have : i = 0 ∨ i = 1 ∨ i = 2 ∨ i = 3 := by simp at hi; omega
      rcases this with rfl | rfl | rfl | rfl <;> (rw [cell_last]; rfl)
    clear g0 g1 g2 g3 W8 e0 e1 e2 e3
    go_enter Tryd.func15, Tryd.ntmps15
    go_wp2_with (go_at_call 17; (with_reducible refine (K.out _).mono ?_); rintro e w' ⟨rfl, hb⟩; obtain ⟨hc, hf⟩ := bcell hb; have hz : w.heap.size < w'.heap.size := (by have := hb.size; simp at this; omega); have HB := Lib.hid hb; clear hb; have cw := cv.out w')
    go_ret2
    exact ⟨rfl, (((Below.refl _ _).alloc (Nat.le_refl _) _).trans (HB.out.mono (by simp))).alloc (by omega) _⟩
  · rw [if_neg h] at K
    rw [if_neg h, if_neg h]
    clear h
    unfold inV at *
    obtain ⟨op, a, b, imm⟩ := i
    dsimp only at *
    go_enter Tryd.func15, Tryd.ntmps15
    go_wp2_with (go_at_call 17; (with_reducible refine (K.out _).mono ?_); rintro e w' ⟨rfl, hb⟩; obtain ⟨hc, hf⟩ := bcell hb; have hz : w.heap.size < w'.heap.size := (by have := hb.size; simp at this; omega); have HB := Lib.hid hb; clear hb)
    go_ret2
    exact ⟨rfl, (((Below.refl _ _).alloc (Nat.le_refl _) _).trans (HB.out.mono (by simp)))⟩
end Go.Proofs.YtmclcobklcjmnaaDoor
