/- The instruction of four bytes. No conditions. -/
import Derived.Test.YtmclcobklcjmnaaDoorDk1
import Derived.Test.YtmclcobklcjmnaaDoorDk2
import Derived.Test.YtmclcobklcjmnaaDoorDk3
import Derived.Test.YtmclcobklcjmnaaDoorDk4
import Derived.Test.YtmclcobklcjmnaaDoorDk5
import Derived.Test.YtmclcobklcjmnaaDoorDk6
namespace Go.Proofs.YtmclcobklcjmnaaDoor
open Go.RowKit Go.Maps
set_option linter.unusedVariables false
set_option linter.unusedSimpArgs false

set_option maxRecDepth 100000 in
set_option maxHeartbeats 4000000 in
theorem dec_any (s : ByteArray) (w : World) : Calls Tryd.prog 18 #[.string s] w fun e w' => e = .returned (.tuple #[inV (decV s.data.toList), .int .i64 (decE s.data.toList)]) ∧ Below w.heap.size w w' := by
  by_cases hs : s.size = 4
  · obtain ⟨b0, b1, b2, b3, rfl⟩ := bytes4 s hs
    cases h8 : hasF (frm (b0.toNat : Int)) 8 <;> cases ho : isOp (b0.toNat : Int) <;> cases hf : fitsF (frm (b0.toNat : Int)) (rawI b0.toNat b1.toNat b2.toNat b3.toNat)
    · exact dec00x b0 b1 b2 b3 w h8 ho
    · exact dec00x b0 b1 b2 b3 w h8 ho
    · exact dec010 b0 b1 b2 b3 w h8 ho hf
    · exact dec011 b0 b1 b2 b3 w h8 ho hf
    · exact dec10x b0 b1 b2 b3 w h8 ho
    · exact dec10x b0 b1 b2 b3 w h8 ho
    · exact dec110 b0 b1 b2 b3 w h8 ho hf
    · exact dec111 b0 b1 b2 b3 w h8 ho hf
  · have hn : decS s.data.toList = none := by
      cases h : decS s.data.toList with
      | none => rfl
      | some i => exact absurd (dec_len h) (by rw [show s.data.toList.length = s.size from Array.length_toList]; exact hs)
    unfold decE decV
    rw [hn]
    unfold inV zeroI
    dsimp only
    have hs' : ((s.size : Int) == 4) = false := by simp; omega
    clear hn
    go_enter Tryd.func18, Tryd.ntmps18
    go_wp2
    exact bodyPost_ret_by (results_ct rfl _ _ w.heap.size 30 _ (0, 0) _ _ rfl rfl (heap_alloc_last w _) Tryd.underlying30 rfl (by kernel_rfl)) rfl ⟨rfl, (Below.refl _ w).alloc (Nat.le_refl _) _⟩
end Go.Proofs.YtmclcobklcjmnaaDoor
