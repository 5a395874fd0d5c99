/- The operation of a number; may an instruction be. No conditions. -/
import Derived.Test.YtmclcobklcjmnaaDoorTab
namespace Go.Proofs.YtmclcobklcjmnaaDoor
open Go.RowKit Go.Maps
set_option linter.unusedVariables false
set_option linter.unusedSimpArgs false

def opV (op : Int) : Value := if isOp op then .agg #[.string (str (nam op)), .int .i64 (frm op : Nat)] else .agg #[.string ByteArray.empty, .int .i64 0]
theorem tab_at' (op : Int) (h0 : 0 ≤ op) (h1 : op < 30) (w : World) : (Instr.index 98 (.agg tabV) (.int .i64 op)).run Tryd.prog w = .ok (.agg #[.string (str (nam op)), .int .i64 ((frm op : Nat) : Int)]) w := by
  have := tab_at op.toNat (by omega) w
  rwa [show ((op.toNat : Nat) : Int) = op from by omega] at this
theorem bcell {W w1 : World} (hb : Below W.heap.size W w1) : (∀ b o, b < W.heap.size → w1.cell? ⟨b, o, none⟩ = W.cell? ⟨b, o, none⟩) ∧ (∀ b o, b < W.heap.size → w1.frozen? ⟨b, o, none⟩ = W.frozen? ⟨b, o, none⟩) :=
  ⟨fun b o h => hb.cell (p := ⟨b, o, none⟩) h, fun b o h => hb.frozen (p := ⟨b, o, none⟩) h⟩
set_option maxHeartbeats 4000000 in
theorem opof_any (op : Int) (w : World) : Calls Tryd.prog 38 #[.int .i64 op] w fun e w' => e = .returned (.tuple #[opV op, .bool (isOp op)]) ∧ Below w.heap.size w w' := by
  by_cases h0 : 0 ≤ op
  · by_cases h1 : op < 30
    · have hi := tab_at' op h0 h1
      have ho : isOp op = true := by simp [isOp, h0, h1]
      unfold opV
      rw [ho, if_pos rfl]
      generalize str (nam op) = s at *
      generalize ((frm op : Nat) : Int) = f at *
      have K := Lib.hid table_any
      generalize tabV = T at *
      clear ho
      go_enter Tryd.func38, Tryd.ntmps38
      go_wp2_with (go_at_call 55; (with_reducible refine (K.out _).mono ?_); rintro e w' ⟨rfl, hb⟩; obtain ⟨hc, hf⟩ := bcell hb; have hz : w.heap.size < w'.heap.size := (by have := hb.size; simp at this; omega); have HB := Lib.hid hb; clear hb)
      exact bodyPost_ret (v := .tuple #[.agg #[.string s, .int .i64 f], .bool true]) (by simp [results, Tryd.results38, go_sem, hc, hz]) rfl ⟨rfl, ((((Below.refl _ _).alloc (Nat.le_refl _) _).trans (HB.out.mono (by simp))).setCell (by simp) _).setCell (by simp) _⟩
    · have ho : isOp op = false := by simp [isOp]; omega
      unfold opV
      rw [ho, if_neg (by simp)]
      clear ho
      go_enter Tryd.func38, Tryd.ntmps38
      go_wp2
      exact bodyPost_ret (v := .tuple #[.agg #[.string ByteArray.empty, .int .i64 0], .bool false]) (by simp [results, Tryd.results38, go_sem]; rfl) rfl ⟨rfl, (Below.refl _ w).alloc (Nat.le_refl _) _⟩
  · have ho : isOp op = false := by simp [isOp]; omega
    unfold opV
    rw [ho, if_neg (by simp)]
    clear ho
    go_enter Tryd.func38, Tryd.ntmps38
    go_wp2
    exact bodyPost_ret (v := .tuple #[.agg #[.string ByteArray.empty, .int .i64 0], .bool false]) (by simp [results, Tryd.results38, go_sem]; rfl) rfl ⟨rfl, (Below.refl _ w).alloc (Nat.le_refl _) _⟩
def zin : Value := .agg #[.int .i64 0, .int .i64 0, .int .i64 0, .int .i64 0]
def ckE (i : In) : Int := if okI i then 0 else 90
theorem frm_lt (op : Int) : frm op < 16 := by
  unfold frm
  have h : ∀ n, frms.getD n 0 < 16 := by
    intro n
    by_cases h : n < 30
    · exact (by decide +kernel : ∀ k : Fin 30, frms.getD k.val 0 < 16) ⟨n, h⟩
    · rw [List.getD_eq_getElem?_getD, List.getElem?_eq_none (by simpa [frms] using h)]
      decide
  exact h _
set_option maxHeartbeats 4000000 in
theorem check_any (i : In) (w : World) : Calls Tryd.prog 17 #[inV i] w fun e w' => e = .returned (.int .i64 (ckE i)) ∧ Below w.heap.size w w' := by
  have K := Lib.hid (opof_any i.op)
  unfold ckE okI
  by_cases ho : isOp i.op = true
  · have F := Lib.hid (fun w => fits_any (frm i.op) (frm_lt i.op) i w)
    unfold opV at K
    rw [ho, if_pos rfl] at K
    rw [ho]
    clear ho
    generalize hft : fitsF (frm i.op) i = t at *
    clear hft
    generalize frm i.op = f at *
    generalize nam i.op = nn at *
    unfold inV at *
    obtain ⟨op, a, b, imm⟩ := i
    dsimp only at *
    cases t
    all_goals
      go_enter Tryd.func17, Tryd.ntmps17
      go_wp2_with (first | (go_at_call 38; (with_reducible refine (K.out _).mono ?_); rintro e w' ⟨rfl, hb⟩; obtain ⟨hc, hf⟩ := bcell hb; have hz : w.heap.size < w'.heap.size := (by have := hb.size; simp at this; omega); have HB := Lib.hid hb; clear hb) | (go_at_call 39; (with_reducible refine (F.out _).mono ?_); rintro e w2 ⟨rfl, hb⟩; have HB2 := Lib.hid hb; clear hb))
      go_ret
      exact ⟨rfl, (((Below.refl _ _).alloc (Nat.le_refl _) _).trans (HB.out.mono (by simp))).alloc (by omega) _ |>.trans (HB2.out.mono (by simp; omega))⟩
  · have ho' : isOp i.op = false := by simpa using ho
    unfold opV at K
    rw [ho', if_neg (by simp)] at K
    rw [ho']
    clear ho ho'
    unfold inV at *
    obtain ⟨op, a, b, imm⟩ := i
    dsimp only at *
    go_enter Tryd.func17, Tryd.ntmps17
    go_wp2_with (go_at_call 38; (with_reducible refine (K.out _).mono ?_); rintro e w' ⟨rfl, hb⟩; obtain ⟨hc, hf⟩ := bcell hb; have hz : w.heap.size < w'.heap.size := (by have := hb.size; simp at this; omega); have HB := Lib.hid hb; clear hb)
    go_ret
    exact ⟨rfl, (((Below.refl _ _).alloc (Nat.le_refl _) _).trans (HB.out.mono (by simp))).alloc (by omega) _⟩
end Go.Proofs.YtmclcobklcjmnaaDoor
