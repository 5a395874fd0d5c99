/- What the law holds for fixed: the calls at the document's own numbers. No conditions. -/
import Derived.Test.YtkclbcfodngdkaaSme
namespace Go.Proofs.Ytkclbcfodngdkaa
open Go.RowKit
set_option linter.unusedVariables false

def Stays (I : World → Prop) : Prop := ∀ w1 w2, I w1 → Below w1.heap.size w1 w2 → I w2
theorem pt1 : pt 1 = .complex .f64 13837309855095848960 13830554455654793216 := by kernel_rfl
theorem pt27 : pt 27 = .complex .f64 4607182418800017408 4613937818241073152 := by kernel_rfl
def r27 : List Value := [.complex .f64 4613937818241073152 4613937818241073152, .complex .f64 13837309855095848960 13830554455654793216, .complex .f64 4607182418800017408 4613937818241073152]
theorem row27 : rowP [27] = r27 := by
  show [pt 15, pt 1, pt 27] = _
  rw [pt15, pt1, pt27]; rfl
theorem cpl27 : Cpl r27 := by rw [← row27]; exact cpl_row _
/-- a row that was just laid -/
theorem laid_lies (w : World) (cs : Array Value) (l : List Value) (h : cs = l.toArray) (hl : 0 < l.length) : LiesV (w.alloc (.cells cs 27)) (some ⟨w.heap.size, 0, none⟩) l := fun i v hi => by
  refine ⟨_, rfl, ?_, by simp⟩
  rw [Addr.add_mid, Nat.zero_add, cell_of_row _ _ _ _ _ _ (heap_alloc_new w (.cells cs 27)), h]
  simpa using hi
theorem near25 : okB 13835058055282163712 13836183955189006336 = true := by decide +kernel
theorem pt25 : pt (bitB 13835058055282163712 13836183955189006336) = .complex .f64 13830554455654793216 13837309855095848960 := by kernel_rfl
theorem near45 : okB 4616752568008179712 0 = false := by decide +kernel
theorem below_new (w : World) (o : Obj) : Below w.heap.size w (w.alloc o) := (Below.refl _ w).alloc (Nat.le_refl _) o
theorem below_trans {w w1 w2 : World} (h : Below w.heap.size w w1) (k : Below w1.heap.size w1 w2) : Below w.heap.size w w2 := h.trans (k.mono h.size)
section
variable {I : World → Prop} (st : Stays I)
include st
theorem f12ok (wx : World) (h : I wx) : Calls Try.prog 12 #[.slice (some ⟨wx.heap.size, 0, none⟩) 3 3] (wx.alloc (.cells #[.complex .f64 13837309855095848960 4613937818241073152, .complex .f64 4607182418800017408 13837309855095848960, .complex .f64 13837309855095848960 4607182418800017408] 27)) fun e w' => e = .returned (.tuple #[.string ⟨#[27]⟩, .int .i64 0]) ∧ I w' :=
  (receive_ok wx.heap.size 3 _ (by simp) (by simp) (by simp)).mono fun e w' ⟨h1, h2⟩ => ⟨h1, st wx w' h (below_trans (below_new wx _) h2)⟩
omit st in
theorem f12nil (wx : World) (h : I wx) : Calls Try.prog 12 #[.slice none 0 0] wx fun e w' => e = .returned (.tuple #[.string ⟨#[]⟩, .int .i64 32]) ∧ I w' :=
  (receive_nil wx).mono fun e w' ⟨h1, h2⟩ => ⟨h1, by rw [← h2]; exact h⟩
theorem f12even (wx : World) (h : I wx) : Calls Try.prog 12 #[.slice (some ⟨wx.heap.size, 0, none⟩) 2 2] (wx.alloc (.cells #[.complex .f64 4613937818241073152 4613937818241073152, .complex .f64 4607182418800017408 0] 27)) fun e w' => e = .returned (.tuple #[.string ⟨#[]⟩, .int .i64 30]) ∧ I w' :=
  (receive_even wx.heap.size 2 _ (by simp)).mono fun e w' ⟨h1, h2⟩ => ⟨h1, by rw [← h2]; exact st wx _ h (below_new wx _)⟩
theorem f12pt (wx : World) (h : I wx) : Calls Try.prog 12 #[.slice (some ⟨wx.heap.size, 0, none⟩) 3 3] (wx.alloc (.cells #[.complex .f64 4613937818241073152 4613937818241073152, .complex .f64 4607182418800017408 0, .complex .f64 4617315517961601024 0] 27)) fun e w' => e = .returned (.tuple #[.string ⟨#[]⟩, .int .i64 31]) ∧ I w' :=
  (receive_point wx.heap.size 3 _ (by simp) (by simp) (by simp)).mono fun e w' ⟨h1, h2⟩ => ⟨h1, by rw [← h2]; exact st wx _ h (below_new wx _)⟩
omit st in
theorem f13a (wx : World) (h : I wx) : Calls Try.prog 13 #[.complex .f64 13835058055282163712 13836183955189006336] wx fun e w' => e = .returned (.tuple #[.complex .f64 13830554455654793216 13837309855095848960, .bool true]) ∧ I w' :=
  (Near_yes _ _ _ _ wx near25 pt25).mono fun e w' ⟨h1, h2⟩ => ⟨h1, by rw [← h2]; exact h⟩
omit st in
theorem f13b (wx : World) (h : I wx) : Calls Try.prog 13 #[.complex .f64 4616752568008179712 0] wx fun e w' => e = .returned (.tuple #[.complex .f64 0 0, .bool false]) ∧ I w' :=
  (Near_no _ _ wx near45).mono fun e w' ⟨h1, h2⟩ => ⟨h1, by rw [← h2]; exact h⟩
theorem f7a (ao : Option Addr) (cap : Nat) (wx : World) (h : I wx) (hl : LiesV wx ao r27) : Calls Try.prog 7 #[.slice ao 3 cap, .slice (some ⟨wx.heap.size, 0, none⟩) 3 3] (wx.alloc (.cells #[.complex .f64 4613937818241073152 4613937818241073152, .complex .f64 13837309855095848960 13830554455654793216, .complex .f64 4607182418800017408 4613937818241073152] 27)) fun e w' => e = .returned (.bool true) ∧ I w' :=
  (samec_any ao _ cap 3 r27 _ (by decide) cpl27 (hl.below (below_new wx _) (Nat.le_refl _)) (laid_lies wx _ r27 rfl (by decide))).mono fun e w' ⟨h1, k, h2⟩ => ⟨h1, st wx w' h (by rw [h2]; exact below_drewN (below_new wx _) k)⟩
theorem f14 (wx : World) (h : I wx) : Calls Try.prog 14 #[.slice (some ⟨wx.heap.size, 0, none⟩) 1 1, .int .i64 (-1)] (wx.alloc (.cells #[.complex .f64 4607182418800017408 4611686018427387904] 27)) fun e w' => ∃ g, e = .returned (.slice (some ⟨g, 0, none⟩) 1 1) ∧ I w' ∧ w'.cell? ⟨g, 0, none⟩ = some (.complex .f64 4611686018427387904 13830554455654793216) :=
  (turn_one wx.heap.size _ (by simp)).mono fun e w' ⟨h1, h2, h3⟩ => ⟨_, h1, st wx w' h (below_trans (below_new wx _) h2), h3⟩
theorem f7b (g : Nat) (wx : World) (h : I wx) (hc : wx.cell? ⟨g, 0, none⟩ = some (.complex .f64 4611686018427387904 13830554455654793216)) : Calls Try.prog 7 #[.slice (some ⟨g, 0, none⟩) 1 1, .slice (some ⟨wx.heap.size, 0, none⟩) 1 1] (wx.alloc (.cells #[.complex .f64 4611686018427387904 13830554455654793216] 27)) fun e w' => e = .returned (.bool true) ∧ I w' := by
  have hL : LiesV wx (some ⟨g, 0, none⟩) [.complex .f64 4611686018427387904 13830554455654793216] := fun i v hi => by
    match i, hi with
    | 0, hi => simp at hi; subst hi; exact ⟨_, rfl, by simpa [Addr.add] using hc, World.block_lt_of_cell? _ _ hc⟩
  exact (samec_any _ _ 1 1 [.complex .f64 4611686018427387904 13830554455654793216] _ (by decide) (fun v hv => by simp at hv; subst hv; exact ⟨_, _, rfl⟩) (hL.below (below_new wx _) (Nat.le_refl _)) (laid_lies wx _ _ rfl (by decide))).mono fun e w' ⟨h1, k, h2⟩ => ⟨h1, st wx w' h (by rw [h2]; exact below_drewN (below_new wx _) k)⟩
theorem f15 (wx : World) (h : I wx) : Calls Try.prog 15 #[.slice (some ⟨wx.heap.size, 0, none⟩) 1 1, .slice none 0 0] (wx.alloc (.cells #[.complex .f64 4607182418800017408 0] 27)) fun e w' => ∃ g, e = .returned (.slice (some ⟨g, 0, none⟩) 1 1) ∧ I w' :=
  (add_one wx.heap.size _ (by simp)).mono fun e w' ⟨h1, h2⟩ => ⟨_, h1, st wx w' h (below_trans (below_new wx _) h2)⟩
end
set_option maxRecDepth 100000 in
set_option maxHeartbeats 4000000 in
theorem fixed_any (w : World) : Calls Try.prog 8 #[] w fun e w' => e = .returned (.bool true) ∧ Below w.heap.size w w' := by
  have F5 : Hid (∀ w1, Calls Try.prog 5 #[.string ⟨#[27]⟩] w1 fun e w' => ∃ ao cap, e = .returned (.tuple #[.slice ao 3 cap, .int .i64 0]) ∧ LiesV w' ao r27 ∧ Below w1.heap.size w1 w') := fun w1 =>
    (send_any ⟨#[27]⟩ w1 (by decide)).mono fun e w' ⟨v, h1, h2, h3⟩ => by
      have ho := h2.1
      have hr : rowP (ByteArray.mk #[27]).data.toList = r27 := row27
      rw [hr] at ho
      obtain ⟨ao, cap, rfl, hl, _⟩ := own_lies ho
      exact ⟨ao, cap, h1, hl, h3⟩
  go_enter Try.func8, Try.ntmps8
  go_wp2_with fail
  (with_reducible refine (F5.out _).mono ?_)
  rintro e w1 ⟨ao, cap, rfl, hl, hb⟩
  obtain ⟨I, hI⟩ : ∃ I : World → Prop, I = fun w1 => Below w.heap.size w w1 ∧ LiesV w1 ao r27 := ⟨_, rfl⟩
  have st : Stays I := by rw [hI]; exact fun w1 w2 h k => ⟨below_trans h.1 k, h.2.below k (Nat.le_refl _)⟩
  have g1 : I w1 := by rw [hI]; exact ⟨hb, hl⟩
  have hfin : Hid (∀ w1, I w1 → Below w.heap.size w w1) := by rw [hI]; exact fun w1 h => h.1
  have hlie : Hid (∀ w1, I w1 → LiesV w1 ao r27) := by rw [hI]; exact fun w1 h => h.2
  have K1 := Lib.hid (f12ok st)
  have K2 := Lib.hid (f12nil (I := I))
  have K3 := Lib.hid (f12even st)
  have K4 := Lib.hid (f12pt st)
  have K5 := Lib.hid (f13a (I := I))
  have K6 := Lib.hid (f13b (I := I))
  have K7 : Hid (∀ wx, I wx → Calls Try.prog 7 #[.slice ao 3 cap, .slice (some ⟨wx.heap.size, 0, none⟩) 3 3] (wx.alloc (.cells #[.complex .f64 4613937818241073152 4613937818241073152, .complex .f64 13837309855095848960 13830554455654793216, .complex .f64 4607182418800017408 4613937818241073152] 27)) fun e w' => e = .returned (.bool true) ∧ I w') := fun wx h => f7a st ao cap wx h (hlie.out wx h)
  have K8 := Lib.hid (f14 st)
  have K9 := Lib.hid (f7b st)
  have K10 := Lib.hid (f15 st)
  have o1 : FloatKind.f64.format.order 13830554455654793216 13830554455654793216 = some Ordering.eq := by decide +kernel
  have o2 : FloatKind.f64.format.order 13837309855095848960 13837309855095848960 = some Ordering.eq := by decide +kernel
  clear hI hb hl F5 st
  go_wp2_with (first
    | (go_at_call 12; (with_reducible refine (K1.out _ (by assumption)).mono ?_); rintro e w' ⟨rfl, gg⟩)
    | (go_at_call 12; (with_reducible refine (K2.out _ (by assumption)).mono ?_); rintro e w' ⟨rfl, gg⟩)
    | (go_at_call 12; (with_reducible refine (K3.out _ (by assumption)).mono ?_); rintro e w' ⟨rfl, gg⟩)
    | (go_at_call 12; (with_reducible refine (K4.out _ (by assumption)).mono ?_); rintro e w' ⟨rfl, gg⟩)
    | (go_at_call 13; (with_reducible refine (K5.out _ (by assumption)).mono ?_); rintro e w' ⟨rfl, gg⟩)
    | (go_at_call 13; (with_reducible refine (K6.out _ (by assumption)).mono ?_); rintro e w' ⟨rfl, gg⟩)
    | (go_at_call 7; (with_reducible refine (K7.out _ (by assumption)).mono ?_); rintro e w' ⟨rfl, gg⟩)
    | (go_at_call 14; (with_reducible refine (K8.out _ (by assumption)).mono ?_); rintro e w' ⟨g, rfl, gg, hcg⟩)
    | (go_at_call 7; (with_reducible refine (K9.out _ _ (by assumption) (by assumption)).mono ?_); rintro e w' ⟨rfl, gg⟩)
    | (go_at_call 15; (with_reducible refine (K10.out _ (by assumption)).mono ?_); rintro e w' ⟨g, rfl, gg⟩))
  go_ret
  exact ⟨rfl, hfin.out _ gg⟩
end Go.Proofs.Ytkclbcfodngdkaa
