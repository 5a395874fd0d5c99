/- The document's examples. No conditions. -/
import Derived.Test.YtgbmddjpaibcfaaTic
import Derived.Test.YtgbmddjpaibcfaaNxt
namespace Go.Proofs.Ytgbmddjpaibcfaa
open Go.RowKit Go.Maps
set_option linter.unusedVariables false

def wsF : List Wn := [(1, 0, 2), (0, 0, 1), (1, 0, 1), (2, 1, 3)]
def wsC : Array Value := #[.int .i64 1, .int .i64 0, .int .i64 2, .int .i64 0, .int .i64 0, .int .i64 1, .int .i64 1, .int .i64 0, .int .i64 1, .int .i64 2, .int .i64 1, .int .i64 3]
theorem fx_len : lenV wsF = 7 := by kernel_rfl
theorem fx_chk : chkE wsF = 0 := by kernel_rfl
theorem fx_chk0 : chkE [] = 130 := by kernel_rfl
theorem fx_at : atV wsF 13 = (1, 3, 2, 0) := by kernel_rfl
theorem fx_tk : tickV wsF 1 0 1 9 = (4, 0) := by kernel_rfl
theorem fx_n1 : nextV wsF 1 0 4 = (7, 0) := by kernel_rfl
theorem fx_n2 : nextV wsF 3 0 0 = (0, 130) := by kernel_rfl
theorem winF {w : World} {g : Nat} {t : TypeId} {fr : Nat × Nat} (h : w.heap[g]? = some (.cells wsC t fr)) : WinV (fun _ => True) w (.slice (some ⟨g, 0, none⟩) 4 4) wsF := by
  refine ⟨_, 4, rfl, Nat.le_refl _, fun _ => ⟨g, 0, rfl, trivial, block_lt h, fun j hj => ?_⟩⟩
  have hj4 : j = 0 ∨ j = 1 ∨ j = 2 ∨ j = 3 := by simp [wsF] at hj; omega
  rcases hj4 with rfl | rfl | rfl | rfl <;> (simp only [cell_of_row _ _ _ _ _ _ h]; exact ⟨rfl, rfl, rfl⟩)
set_option maxRecDepth 100000 in
set_option maxHeartbeats 4000000 in
theorem fixed_any (w : World) : Calls Try.prog 18 #[] w fun e w' => e = .returned (.bool true) ∧ Below w.heap.size w w' := by
  obtain ⟨w1, hw1⟩ : ∃ w1, w1 = w.alloc (.cells wsC 40) := ⟨_, rfl⟩
  have hrow : w1.heap[w.heap.size]? = some (.cells wsC 40 (0, 0)) := by rw [hw1]; exact block_new w _
  have hb1 : Below w.heap.size w w1 := by rw [hw1]; exact (Below.refl _ w).alloc (Nat.le_refl _) _
  have HW : Hid (∀ W, Below w1.heap.size w1 W → WinV (fun _ => True) W (.slice (some ⟨w.heap.size, 0, none⟩) 4 4) wsF) := Lib.hid fun W hW => (winF hrow).below hW
  have H0 : Hid (Below w1.heap.size w1 w1) := Lib.hid (Below.refl _ _)
  have HB := Lib.hid hb1
  have HE : Hid (w1 = w.alloc (.cells wsC 40)) := Lib.hid hw1
  clear hrow hb1
  have k1 := len_any w1 _ _ _ (HW.out w1 H0.out)
  rw [fx_len, fx_chk, hw1] at k1
  unfold wsC at k1
  clear hw1
  have KA : Hid (∀ W, Below w1.heap.size w1 W → Calls Try.prog 12 #[.slice (some ⟨w.heap.size, 0, none⟩) 4 4, .int .i64 13] W fun e w' => e = .returned (.tuple #[.agg #[.int .i64 1, .int .i64 3, .int .i64 2], .int .i64 0]) ∧ Below W.heap.size W w') := Lib.hid fun W hW => by
    have := at_any W _ _ _ (HW.out W hW) 13
    rw [fx_at] at this; exact this
  have KT : Hid (∀ W, Below w1.heap.size w1 W → Calls Try.prog 14 #[.slice (some ⟨w.heap.size, 0, none⟩) 4 4, .int .i64 1, .int .i64 0, .int .i64 1, .int .i64 9] W fun e w' => e = .returned (.tuple #[.int .i64 4, .int .i64 0]) ∧ Below W.heap.size W w') := Lib.hid fun W hW => by
    have := tic_any W _ _ _ (HW.out W hW) 1 0 1 9
    rw [fx_tk] at this; exact this
  have KN : Hid (∀ W, Below w1.heap.size w1 W → Calls Try.prog 16 #[.slice (some ⟨w.heap.size, 0, none⟩) 4 4, .int .i64 1, .int .i64 0, .int .i64 4] W fun e w' => e = .returned (.tuple #[.int .i64 7, .int .i64 0]) ∧ Below W.heap.size W w') := Lib.hid fun W hW => by
    have := nx_any W _ _ _ (HW.out W hW) 1 0 4
    rw [fx_n1] at this; exact this
  have KM : Hid (∀ W, Below w1.heap.size w1 W → Calls Try.prog 16 #[.slice (some ⟨w.heap.size, 0, none⟩) 4 4, .int .i64 3, .int .i64 0, .int .i64 0] W fun e w' => e = .returned (.tuple #[.int .i64 0, .int .i64 130]) ∧ Below W.heap.size W w') := Lib.hid fun W hW => by
    have := nx_any W _ _ _ (HW.out W hW) 3 0 0
    rw [fx_n2] at this; exact this
  have KC : Hid (∀ W, Calls Try.prog 10 #[.slice none 0 0] W fun e w' => e = .returned (.int .i64 130) ∧ Below W.heap.size W w') := Lib.hid fun W => by
    have := check_any W (fun _ => True) _ _ (WinV.nil _ W)
    rw [fx_chk0] at this; exact this
  have HB2 : Hid (∀ w2, Below (w.alloc (.cells wsC 40)).heap.size (w.alloc (.cells wsC 40)) w2 → Below w1.heap.size w1 w2) := Lib.hid fun w2 h => by rw [HE.out]; exact h
  unfold wsC at HB2
  go_enter Try.func18, Try.ntmps18
  go_wp2_with (first
    | (go_at_call 8; refine k1.mono ?_; rintro e w2 ⟨rfl, hb⟩; have H2 := Lib.hid (HB2.out _ hb); clear hb)
    | (go_at_call 12; refine (KA.out _ H2.out).mono ?_; rintro e w3 ⟨rfl, hb⟩; have h3 := H2.out.trans (hb.mono H2.out.size); have H3 := Lib.hid (h3.alloc h3.size (.cells #[.int .i64 1, .int .i64 3, .int .i64 2] 30)); have HP := Lib.hid (block_new w3 (.cells #[.int .i64 1, .int .i64 3, .int .i64 2] 30)); clear hb h3)
    | (go_at_call 14; refine (KT.out _ H3.out).mono ?_; rintro e w4 ⟨rfl, hb⟩; have H4 := Lib.hid (H3.out.trans (hb.mono H3.out.size)); have HP4 := Lib.hid ((hb.block _ (block_lt HP.out)).trans HP.out); clear hb)
    | (go_at_call 16; (with_reducible refine (KN.out _ H4.out).mono ?_); rintro e w5 ⟨rfl, hb⟩; have H5 := Lib.hid (H4.out.trans (hb.mono H4.out.size)); have HP5 := Lib.hid ((hb.block _ (block_lt HP4.out)).trans HP4.out); clear hb)
    | (go_at_call 16; (with_reducible refine (KM.out _ H5.out).mono ?_); rintro e w6 ⟨rfl, hb⟩; have H6 := Lib.hid (H5.out.trans (hb.mono H5.out.size)); have hp := (hb.block _ (block_lt HP5.out)).trans HP5.out
       have p0 : w6.cell? ⟨w3.heap.size, 0, none⟩ = some (.int .i64 1) := by rw [cell_of_row _ _ _ _ _ _ hp]; rfl
       have p1 : w6.cell? ⟨w3.heap.size, 1, none⟩ = some (.int .i64 3) := by rw [cell_of_row _ _ _ _ _ _ hp]; rfl
       have p2 : w6.cell? ⟨w3.heap.size, 2, none⟩ = some (.int .i64 2) := by rw [cell_of_row _ _ _ _ _ _ hp]; rfl
       clear hb hp)
    | (go_at_call 10; refine (KC.out _).mono ?_; rintro e w7 ⟨rfl, hb⟩; have H7 := Lib.hid (H6.out.trans (hb.mono H6.out.size)); clear hb))
  go_ret
  exact ⟨rfl, HB.out.trans (H7.out.mono HB.out.size)⟩
end Go.Proofs.Ytgbmddjpaibcfaa
