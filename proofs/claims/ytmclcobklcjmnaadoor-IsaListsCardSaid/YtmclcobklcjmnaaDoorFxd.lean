/- The document's examples come out. No conditions. -/
import Derived.Test.YtmclcobklcjmnaaDoorAsb
import Derived.Test.YtmclcobklcjmnaaDoorDec
namespace Go.Proofs.YtmclcobklcjmnaaDoor
open Go.RowKit Go.Maps
set_option linter.unusedVariables false
set_option linter.unusedSimpArgs false

def prgF : Bs := [97, 58, 10, 112, 108, 117, 115, 32, 114, 49, 32, 45, 49, 10, 115, 111, 109, 101, 32, 114, 49, 32, 64, 97, 10, 106, 117, 109, 112, 32, 64, 98, 10, 119, 111, 114, 100, 32, 55, 10, 98, 58, 10, 115, 116, 111, 112, 10]
theorem fx_asm : asmR prgF = ([19, 16, 255, 255, 26, 16, 255, 254, 24, 0, 0, 1, 0, 0, 0, 7, 1, 0, 0, 0], 0, 0) := by kernel_rfl
theorem fx_asm2 : asmR [97, 58, 10, 97, 58, 10] = ([], 2, 93) := by kernel_rfl
theorem fx_lis : lisS [1, 0, 0, 0, 255, 0, 0, 1] = [115, 116, 111, 112, 10, 119, 111, 114, 100, 32, 52, 50, 55, 56, 49, 57, 48, 48, 56, 49, 10] := by kernel_rfl
theorem fx_enc : encS ⟨21, 1, 2, 300⟩ = [21, 18, 1, 44] ∧ ckE ⟨21, 1, 2, 300⟩ = 0 := ⟨by kernel_rfl, by kernel_rfl⟩
theorem fx_dec : decV [24, 0, 255, 254] = ⟨24, 0, 0, -2⟩ ∧ decE [24, 0, 255, 254] = 0 ∧ decE [0, 0, 0, 1] = 91 := ⟨by kernel_rfl, by kernel_rfl, by kernel_rfl⟩
theorem fx_par : parV [103, 101, 116, 52, 32, 114, 49, 32, 114, 50, 32, 51, 48, 48] = ⟨21, 1, 2, 300⟩ ∧ parE [103, 101, 116, 52, 32, 114, 49, 32, 114, 50, 32, 51, 48, 48] = 0 ∧ parV [106, 117, 109, 112, 32, 45, 48] = ⟨0, 0, 0, 0⟩ ∧ parE [106, 117, 109, 112, 32, 45, 48] = 92 := ⟨by kernel_rfl, by kernel_rfl, by kernel_rfl, by kernel_rfl⟩
theorem fx_prn : ckE ⟨30, 0, 0, 0⟩ = 90 := by kernel_rfl
set_option maxRecDepth 20000 in
set_option maxHeartbeats 4000000 in
theorem fixed_any (w : World) (hL : LaidV w) : Calls Tryd.prog 12 #[] w fun e w' => e = .returned (.bool true) ∧ Below w.heap.size w w' := by
  have K0 : Hid (∀ W, Calls Tryd.prog 15 #[.agg #[.int .i64 21, .int .i64 1, .int .i64 2, .int .i64 300]] W fun e w' => e = .returned (.tuple #[.string ⟨#[21, 18, 1, 44]⟩, .int .i64 0]) ∧ Below W.heap.size W w') := Lib.hid fun W => by have := enc_any ⟨21, 1, 2, 300⟩ W; rw [fx_enc.1, fx_enc.2] at this; exact this
  have K1 : Hid (∀ W, Calls Tryd.prog 18 #[.string ⟨#[24, 0, 255, 254]⟩] W fun e w' => e = .returned (.tuple #[.agg #[.int .i64 24, .int .i64 0, .int .i64 0, .int .i64 (-2)], .int .i64 0]) ∧ Below W.heap.size W w') := Lib.hid fun W => by have := dec_any ⟨#[24, 0, 255, 254]⟩ W; rw [show (⟨#[24, 0, 255, 254]⟩ : ByteArray).data.toList = [24, 0, 255, 254] from rfl, fx_dec.1, fx_dec.2.1] at this; exact this
  have K2 : Hid (∀ W, Calls Tryd.prog 18 #[.string ⟨#[0, 0, 0, 1]⟩] W fun e w' => e = .returned (.tuple #[.agg #[.int .i64 0, .int .i64 0, .int .i64 0, .int .i64 0], .int .i64 91]) ∧ Below W.heap.size W w') := Lib.hid fun W => by have := dec_any ⟨#[0, 0, 0, 1]⟩ W; rw [show (⟨#[0, 0, 0, 1]⟩ : ByteArray).data.toList = [0, 0, 0, 1] from rfl, fx_dec.2.2] at this; exact this
  have K3 : Hid (∀ W, LaidV W → Calls Tryd.prog 19 #[.string ⟨#[103, 101, 116, 52, 32, 114, 49, 32, 114, 50, 32, 51, 48, 48]⟩] W fun e w' => e = .returned (.tuple #[.agg #[.int .i64 21, .int .i64 1, .int .i64 2, .int .i64 300], .int .i64 0]) ∧ Below W.heap.size W w') := Lib.hid fun W hW => by have := par_any ⟨#[103, 101, 116, 52, 32, 114, 49, 32, 114, 50, 32, 51, 48, 48]⟩ (by decide) W hW; rw [show (⟨#[103, 101, 116, 52, 32, 114, 49, 32, 114, 50, 32, 51, 48, 48]⟩ : ByteArray).data.toList = [103, 101, 116, 52, 32, 114, 49, 32, 114, 50, 32, 51, 48, 48] from rfl, fx_par.1, fx_par.2.1] at this; exact this
  have K4 : Hid (∀ W, LaidV W → Calls Tryd.prog 19 #[.string ⟨#[106, 117, 109, 112, 32, 45, 48]⟩] W fun e w' => e = .returned (.tuple #[.agg #[.int .i64 0, .int .i64 0, .int .i64 0, .int .i64 0], .int .i64 92]) ∧ Below W.heap.size W w') := Lib.hid fun W hW => by have := par_any ⟨#[106, 117, 109, 112, 32, 45, 48]⟩ (by decide) W hW; rw [show (⟨#[106, 117, 109, 112, 32, 45, 48]⟩ : ByteArray).data.toList = [106, 117, 109, 112, 32, 45, 48] from rfl, fx_par.2.2.1, fx_par.2.2.2] at this; exact this
  have K5 : Hid (∀ W, LaidV W → Calls Tryd.prog 10 #[.string ⟨#[97, 58, 10, 112, 108, 117, 115, 32, 114, 49, 32, 45, 49, 10, 115, 111, 109, 101, 32, 114, 49, 32, 64, 97, 10, 106, 117, 109, 112, 32, 64, 98, 10, 119, 111, 114, 100, 32, 55, 10, 98, 58, 10, 115, 116, 111, 112, 10]⟩] W fun e w' => e = .returned (.tuple #[.string ⟨#[19, 16, 255, 255, 26, 16, 255, 254, 24, 0, 0, 1, 0, 0, 0, 7, 1, 0, 0, 0]⟩, .int .i64 0, .int .i64 0]) ∧ Below W.heap.size W w') := Lib.hid fun W hW => by have := asm_any ⟨#[97, 58, 10, 112, 108, 117, 115, 32, 114, 49, 32, 45, 49, 10, 115, 111, 109, 101, 32, 114, 49, 32, 64, 97, 10, 106, 117, 109, 112, 32, 64, 98, 10, 119, 111, 114, 100, 32, 55, 10, 98, 58, 10, 115, 116, 111, 112, 10]⟩ W hW; rw [show (⟨#[97, 58, 10, 112, 108, 117, 115, 32, 114, 49, 32, 45, 49, 10, 115, 111, 109, 101, 32, 114, 49, 32, 64, 97, 10, 106, 117, 109, 112, 32, 64, 98, 10, 119, 111, 114, 100, 32, 55, 10, 98, 58, 10, 115, 116, 111, 112, 10]⟩ : ByteArray).data.toList = prgF from rfl, fx_asm] at this; exact this
  have K6 : Hid (∀ W, LaidV W → Calls Tryd.prog 10 #[.string ⟨#[97, 58, 10, 97, 58, 10]⟩] W fun e w' => e = .returned (.tuple #[.string ⟨#[]⟩, .int .i64 2, .int .i64 93]) ∧ Below W.heap.size W w') := Lib.hid fun W hW => by have := asm_any ⟨#[97, 58, 10, 97, 58, 10]⟩ W hW; rw [show (⟨#[97, 58, 10, 97, 58, 10]⟩ : ByteArray).data.toList = [97, 58, 10, 97, 58, 10] from rfl, fx_asm2] at this; exact this
  have K7 : Hid (∀ W, LaidV W → Calls Tryd.prog 13 #[.string ⟨#[1, 0, 0, 0, 255, 0, 0, 1]⟩] W fun e w' => e = .returned (.tuple #[.string ⟨#[115, 116, 111, 112, 10, 119, 111, 114, 100, 32, 52, 50, 55, 56, 49, 57, 48, 48, 56, 49, 10]⟩, .int .i64 0]) ∧ Below W.heap.size W w') := Lib.hid fun W hW => by have := list_any ⟨#[1, 0, 0, 0, 255, 0, 0, 1]⟩ W hW; rw [show (⟨#[1, 0, 0, 0, 255, 0, 0, 1]⟩ : ByteArray).data.toList = [1, 0, 0, 0, 255, 0, 0, 1] from rfl, fx_lis] at this; exact this
  have K8 : Hid (∀ W, LaidV W → Calls Tryd.prog 16 #[.agg #[.int .i64 30, .int .i64 0, .int .i64 0, .int .i64 0]] W fun e w' => e = .returned (.tuple #[.string ⟨#[]⟩, .int .i64 90]) ∧ Below W.heap.size W w') := Lib.hid fun W hW => by have := prn_any ⟨30, 0, 0, 0⟩ W hW; rw [fx_prn] at this; exact this
  have K9 : Hid (∀ W, Calls Tryd.prog 17 #[.agg #[.int .i64 21, .int .i64 1, .int .i64 2, .int .i64 300]] W fun e w' => e = .returned (.int .i64 0) ∧ Below W.heap.size W w') := Lib.hid fun W => by have := check_any ⟨21, 1, 2, 300⟩ W; rw [fx_enc.2] at this; exact this
  have H0 : Hid (Below w.heap.size w w) := Lib.hid (Below.refl _ w)
  have HL := Lib.hid hL
  clear hL
  go_enter Tryd.func12, Tryd.ntmps12
  go_wp2_with (fail)
  refine (K0.out _ ).mono ?_
  rintro e w0 ⟨rfl, hb0⟩
  have H1 : Hid (Below w.heap.size w w0) := Lib.hid (H0.out.trans (hb0.mono H0.out.size))
  clear hb0
  go_wp2_with (fail)
  refine (K1.out _ ).mono ?_
  rintro e w1 ⟨rfl, hb1⟩
  have H2 : Hid (Below w.heap.size w w1) := Lib.hid (H1.out.trans (hb1.mono H1.out.size))
  clear hb1
  go_wp2_with (fail)
  obtain ⟨U2, hU2⟩ : ∃ U, U = w1.alloc (.cells #[.int .i64 24, .int .i64 0, .int .i64 0, .int .i64 (-2)] 30) := ⟨_, rfl⟩
  rw [← hU2]
  have HU2 : Hid (Below w.heap.size w U2) := Lib.hid (by rw [hU2]; exact H2.out.alloc H2.out.size _)
  have C2 : Hid (U2.heap[w1.heap.size]? = some (.cells #[.int .i64 24, .int .i64 0, .int .i64 0, .int .i64 (-2)] 30)) := Lib.hid (by rw [hU2]; exact heap_alloc_last w1 _)
  clear hU2
  obtain ⟨X2, hX2⟩ : ∃ X, X = w1.heap.size := ⟨_, rfl⟩
  rw [← hX2] at C2 ⊢
  clear hX2
  refine (K2.out _ ).mono ?_
  rintro e w2 ⟨rfl, hb2⟩
  have H3 : Hid (Below w.heap.size w w2) := Lib.hid (HU2.out.trans (hb2.mono HU2.out.size))
  have D2 : Hid (w2.heap[X2]? = some _) := Lib.hid ((hb2.block _ (block_lt C2.out)).trans C2.out)
  clear C2
  have C2 := D2
  clear D2
  clear hb2
  go_wp2_with (fail)
  obtain ⟨U3, hU3⟩ : ∃ U, U = w2.alloc (.cells #[.int .i64 0, .int .i64 0, .int .i64 0, .int .i64 0] 30) := ⟨_, rfl⟩
  rw [← hU3]
  have HU3 : Hid (Below w.heap.size w U3) := Lib.hid (by rw [hU3]; exact H3.out.alloc H3.out.size _)
  have C3 : Hid (U3.heap[w2.heap.size]? = some (.cells #[.int .i64 0, .int .i64 0, .int .i64 0, .int .i64 0] 30)) := Lib.hid (by rw [hU3]; exact heap_alloc_last w2 _)
  have D2 : Hid (U3.heap[X2]? = some _) := Lib.hid (by rw [hU3]; exact (Below.heap_alloc _ _ _ (block_lt C2.out)).trans C2.out)
  clear C2
  have C2 := D2
  clear D2
  clear hU3
  obtain ⟨X3, hX3⟩ : ∃ X, X = w2.heap.size := ⟨_, rfl⟩
  rw [← hX3] at C3 ⊢
  clear hX3
  refine (K3.out _ (HL.out.below HU3.out)).mono ?_
  rintro e w3 ⟨rfl, hb3⟩
  have H4 : Hid (Below w.heap.size w w3) := Lib.hid (HU3.out.trans (hb3.mono HU3.out.size))
  have D2 : Hid (w3.heap[X2]? = some _) := Lib.hid ((hb3.block _ (block_lt C2.out)).trans C2.out)
  clear C2
  have C2 := D2
  clear D2
  clear hb3
  go_wp2_with (fail)
  obtain ⟨U4, hU4⟩ : ∃ U, U = w3.alloc (.cells #[.int .i64 21, .int .i64 1, .int .i64 2, .int .i64 300] 30) := ⟨_, rfl⟩
  rw [← hU4]
  have HU4 : Hid (Below w.heap.size w U4) := Lib.hid (by rw [hU4]; exact H4.out.alloc H4.out.size _)
  have C4 : Hid (U4.heap[w3.heap.size]? = some (.cells #[.int .i64 21, .int .i64 1, .int .i64 2, .int .i64 300] 30)) := Lib.hid (by rw [hU4]; exact heap_alloc_last w3 _)
  have D2 : Hid (U4.heap[X2]? = some _) := Lib.hid (by rw [hU4]; exact (Below.heap_alloc _ _ _ (block_lt C2.out)).trans C2.out)
  clear C2
  have C2 := D2
  clear D2
  clear hU4
  obtain ⟨X4, hX4⟩ : ∃ X, X = w3.heap.size := ⟨_, rfl⟩
  rw [← hX4] at C4 ⊢
  clear hX4
  refine (K4.out _ (HL.out.below HU4.out)).mono ?_
  rintro e w4 ⟨rfl, hb4⟩
  have H5 : Hid (Below w.heap.size w w4) := Lib.hid (HU4.out.trans (hb4.mono HU4.out.size))
  have D2 : Hid (w4.heap[X2]? = some _) := Lib.hid ((hb4.block _ (block_lt C2.out)).trans C2.out)
  clear C2
  have C2 := D2
  clear D2
  have D4 : Hid (w4.heap[X4]? = some _) := Lib.hid ((hb4.block _ (block_lt C4.out)).trans C4.out)
  clear C4
  have C4 := D4
  clear D4
  clear hb4
  go_wp2_with (fail)
  obtain ⟨U5, hU5⟩ : ∃ U, U = w4.alloc (.cells #[.int .i64 0, .int .i64 0, .int .i64 0, .int .i64 0] 30) := ⟨_, rfl⟩
  rw [← hU5]
  have HU5 : Hid (Below w.heap.size w U5) := Lib.hid (by rw [hU5]; exact H5.out.alloc H5.out.size _)
  have C5 : Hid (U5.heap[w4.heap.size]? = some (.cells #[.int .i64 0, .int .i64 0, .int .i64 0, .int .i64 0] 30)) := Lib.hid (by rw [hU5]; exact heap_alloc_last w4 _)
  have D2 : Hid (U5.heap[X2]? = some _) := Lib.hid (by rw [hU5]; exact (Below.heap_alloc _ _ _ (block_lt C2.out)).trans C2.out)
  clear C2
  have C2 := D2
  clear D2
  have D4 : Hid (U5.heap[X4]? = some _) := Lib.hid (by rw [hU5]; exact (Below.heap_alloc _ _ _ (block_lt C4.out)).trans C4.out)
  clear C4
  have C4 := D4
  clear D4
  clear hU5
  obtain ⟨X5, hX5⟩ : ∃ X, X = w4.heap.size := ⟨_, rfl⟩
  rw [← hX5] at C5 ⊢
  clear hX5
  refine (K5.out _ (HL.out.below HU5.out)).mono ?_
  rintro e w5 ⟨rfl, hb5⟩
  have H6 : Hid (Below w.heap.size w w5) := Lib.hid (HU5.out.trans (hb5.mono HU5.out.size))
  have D2 : Hid (w5.heap[X2]? = some _) := Lib.hid ((hb5.block _ (block_lt C2.out)).trans C2.out)
  clear C2
  have C2 := D2
  clear D2
  have D4 : Hid (w5.heap[X4]? = some _) := Lib.hid ((hb5.block _ (block_lt C4.out)).trans C4.out)
  clear C4
  have C4 := D4
  clear D4
  clear hb5
  go_wp2_with (fail)
  refine (K6.out _ (HL.out.below H6.out)).mono ?_
  rintro e w6 ⟨rfl, hb6⟩
  have H7 : Hid (Below w.heap.size w w6) := Lib.hid (H6.out.trans (hb6.mono H6.out.size))
  have D2 : Hid (w6.heap[X2]? = some _) := Lib.hid ((hb6.block _ (block_lt C2.out)).trans C2.out)
  clear C2
  have C2 := D2
  clear D2
  have D4 : Hid (w6.heap[X4]? = some _) := Lib.hid ((hb6.block _ (block_lt C4.out)).trans C4.out)
  clear C4
  have C4 := D4
  clear D4
  clear hb6
  go_wp2_with (fail)
  refine (K7.out _ (HL.out.below H7.out)).mono ?_
  rintro e w7 ⟨rfl, hb7⟩
  have H8 : Hid (Below w.heap.size w w7) := Lib.hid (H7.out.trans (hb7.mono H7.out.size))
  have D2 : Hid (w7.heap[X2]? = some _) := Lib.hid ((hb7.block _ (block_lt C2.out)).trans C2.out)
  clear C2
  have C2 := D2
  clear D2
  have D4 : Hid (w7.heap[X4]? = some _) := Lib.hid ((hb7.block _ (block_lt C4.out)).trans C4.out)
  clear C4
  have C4 := D4
  clear D4
  clear hb7
  go_wp2_with (fail)
  refine (K8.out _ (HL.out.below H8.out)).mono ?_
  rintro e w8 ⟨rfl, hb8⟩
  have H9 : Hid (Below w.heap.size w w8) := Lib.hid (H8.out.trans (hb8.mono H8.out.size))
  have D2 : Hid (w8.heap[X2]? = some _) := Lib.hid ((hb8.block _ (block_lt C2.out)).trans C2.out)
  clear C2
  have C2 := D2
  clear D2
  have D4 : Hid (w8.heap[X4]? = some _) := Lib.hid ((hb8.block _ (block_lt C4.out)).trans C4.out)
  clear C4
  have C4 := D4
  clear D4
  clear hb8
  have x20 := cell_of_row _ X2 0 _ _ _ C2.out
  have x21 := cell_of_row _ X2 1 _ _ _ C2.out
  have x22 := cell_of_row _ X2 2 _ _ _ C2.out
  have x23 := cell_of_row _ X2 3 _ _ _ C2.out
  have x40 := cell_of_row _ X4 0 _ _ _ C4.out
  have x41 := cell_of_row _ X4 1 _ _ _ C4.out
  have x42 := cell_of_row _ X4 2 _ _ _ C4.out
  have x43 := cell_of_row _ X4 3 _ _ _ C4.out
  go_wp2_with (fail)
  refine (K9.out _ ).mono ?_
  rintro e w9 ⟨rfl, hb9⟩
  have H10 : Hid (Below w.heap.size w w9) := Lib.hid (H9.out.trans (hb9.mono H9.out.size))
  have D2 : Hid (w9.heap[X2]? = some _) := Lib.hid ((hb9.block _ (block_lt C2.out)).trans C2.out)
  clear C2
  have C2 := D2
  clear D2
  have D4 : Hid (w9.heap[X4]? = some _) := Lib.hid ((hb9.block _ (block_lt C4.out)).trans C4.out)
  clear C4
  have C4 := D4
  clear D4
  clear hb9
  go_wp2
  go_ret
  exact ⟨rfl, H10.out⟩
end Go.Proofs.YtmclcobklcjmnaaDoor
