/- An instruction's text. Conditions: the library's variables are as they were laid. -/
import Derived.Test.YtmclcobklcjmnaaDoorDig
import Derived.Test.YtmclcobklcjmnaaDoorRes
import Derived.Lib.ItoaLen
import Derived.Lib.AppendIntMem
namespace Go.Proofs.YtmclcobklcjmnaaDoor
open Go.RowKit Go.Maps
set_option linter.unusedVariables false
set_option linter.unusedSimpArgs false

theorem itoa_any (n : Int) (h0 : -9223372036854775808 ≤ n) (h1 : n ≤ 9223372036854775807) (w : World) (hL : LaidV w) : Calls Tryd.prog 41 #[.int .i64 n] w fun e w' => e = .returned (.string (str (Lib.itoa n))) ∧ Below w.heap.size w w' :=
  (Tryd.strconv_Itoa n h0 h1 w hL.tab).mono fun e w' ⟨he, k, os, hw⟩ => ⟨he, by
    subst hw
    exact Lib.below_grow _ w (Nat.le_refl _) k os⟩
theorem nam_len (op : Int) : (nam op).length ≤ 5 := by
  unfold nam
  have h : ∀ n, (nams.getD n []).length ≤ 5 := by
    intro n
    by_cases h : n < 30
    · exact (by decide +kernel : ∀ k : Fin 30, (nams.getD k.val []).length ≤ 5) ⟨n, h⟩
    · rw [List.getD_eq_getElem?_getD, List.getElem?_eq_none (by simpa [nams] using h)]
      decide
  exact h _
def prnS (i : In) : Bs := if okI i then prnI i else []
def parts (f1 f2 f3 : Bool) (nm A B C : ByteArray) : ByteArray :=
  let s1 := if f1 then nm ++ (⟨#[32, 114]⟩ ++ A) else nm
  let s2 := if f2 then s1 ++ (⟨#[32, 114]⟩ ++ B) else s1
  if f3 then s2 ++ (⟨#[32]⟩ ++ C) else s2
theorem prn_parts (i : In) : str (prnI i) = parts (hasF (frm i.op) 1) (hasF (frm i.op) 2) (hasF (frm i.op) 12) (str (nam i.op)) (str (Lib.itoa i.a)) (str (Lib.itoa i.b)) (str (Lib.itoa i.imm)) := by
  unfold prnI parts regS
  cases hasF (frm i.op) 1 <;> cases hasF (frm i.op) 2 <;> cases hasF (frm i.op) 12 <;> (apply ByteArray.ext; apply Array.ext'; simp [str])
set_option maxRecDepth 100000 in
set_option maxHeartbeats 4000000 in
theorem prn_any (i : In) (w : World) (hL : LaidV w) : Calls Tryd.prog 16 #[inV i] w fun e w' => e = .returned (.tuple #[.string (str (prnS i)), .int .i64 (ckE i)]) ∧ Below w.heap.size w w' := by
  have K := Lib.hid (opof_any i.op)
  unfold ckE prnS okI
  by_cases ho : isOp i.op = true
  · have F := Lib.hid (fun w => fits_any (frm i.op) (frm_lt i.op) i w)
    unfold opV at K
    rw [ho, if_pos rfl] at K
    rw [ho]
    cases hft : fitsF (frm i.op) i with
    | true =>
      rw [hft] at F
      have hok : okI i = true := by unfold okI; rw [ho, hft]; rfl
      have hi := imm_range hft
      have hfi := (fits_iff _ _).1 hft
      have ra := mayN_range hfi.1
      have rb := mayN_range hfi.2.1
      have H1 : Hid (∀ w, Calls Tryd.prog 40 #[.int .i64 (frm i.op : Nat), .int .i64 1] w fun e w' => e = .returned (.bool (hasF (frm i.op) 1)) ∧ w' = w) := Lib.hid (has_any (frm i.op) 1 (frm_lt _) (by decide))
      have H2 : Hid (∀ w, Calls Tryd.prog 40 #[.int .i64 (frm i.op : Nat), .int .i64 2] w fun e w' => e = .returned (.bool (hasF (frm i.op) 2)) ∧ w' = w) := Lib.hid (has_any (frm i.op) 2 (frm_lt _) (by decide))
      have H3 : Hid (∀ w, Calls Tryd.prog 40 #[.int .i64 (frm i.op : Nat), .int .i64 12] w fun e w' => e = .returned (.bool (hasF (frm i.op) 12)) ∧ w' = w) := Lib.hid (has_any (frm i.op) 12 (frm_lt _) (by decide))
      have IA : Hid (∀ w1, Below w.heap.size w w1 → Calls Tryd.prog 41 #[.int .i64 i.a] w1 fun e w' => e = .returned (.string (str (Lib.itoa i.a))) ∧ Below w1.heap.size w1 w') := Lib.hid fun w1 h => itoa_any i.a (by omega) (by omega) w1 (hL.below h)
      have IB : Hid (∀ w1, Below w.heap.size w w1 → Calls Tryd.prog 41 #[.int .i64 i.b] w1 fun e w' => e = .returned (.string (str (Lib.itoa i.b))) ∧ Below w1.heap.size w1 w') := Lib.hid fun w1 h => itoa_any i.b (by omega) (by omega) w1 (hL.below h)
      have IC : Hid (∀ w1, Below w.heap.size w w1 → Calls Tryd.prog 41 #[.int .i64 i.imm] w1 fun e w' => e = .returned (.string (str (Lib.itoa i.imm))) ∧ Below w1.heap.size w1 w') := Lib.hid fun w1 h => itoa_any i.imm (by omega) (by omega) w1 (hL.below h)
      have hP := prn_parts i
      rw [if_pos (by rfl), if_pos (by rfl), hP]
      have lA : (str (Lib.itoa i.a)).size ≤ 21 := by rw [str_size]; exact Lib.itoa_length_le _ (by omega) (by omega)
      have lB : (str (Lib.itoa i.b)).size ≤ 21 := by rw [str_size]; exact Lib.itoa_length_le _ (by omega) (by omega)
      have lC : (str (Lib.itoa i.imm)).size ≤ 21 := by rw [str_size]; exact Lib.itoa_length_le _ (by omega) (by omega)
      have lN : (str (nam i.op)).size ≤ 5 := by rw [str_size]; exact nam_len i.op
      clear hP hft hfi hi ra rb hok ho hL
      unfold inV at *
      obtain ⟨op, a, b, imm⟩ := i
      dsimp only at *
      generalize hasF (frm op) 1 = f1 at *
      generalize hasF (frm op) 2 = f2 at *
      generalize hasF (frm op) 12 = f3 at *
      generalize str (nam op) = N at *
      generalize str (Lib.itoa a) = sA at *
      generalize str (Lib.itoa b) = sB at *
      generalize str (Lib.itoa imm) = sC at *
      generalize frm op = f at *
      have PT : Hid (∀ A B C : ByteArray, parts f1 f2 f3 N A B C = parts f1 f2 f3 N A B C) := Lib.hid fun _ _ _ => rfl
      unfold parts
      cases f1 <;> cases f2 <;> cases f3
      all_goals
        dsimp only [if_true, if_false, Bool.false_eq_true]
        simp only [if_true, if_false, Bool.false_eq_true]
        go_enter Tryd.func16, Tryd.ntmps16
        go_wp2_with (first
          | (go_at_call 38; (with_reducible refine (K.out _).mono ?_); rintro e w1 ⟨rfl, hb⟩; have hz1 : w.heap.size < w1.heap.size := (by have := hb.size; simp at this; omega); have HB1 := Lib.hid hb; obtain ⟨hc, hf⟩ := bcell hb; clear hb)
          | (go_at_call 39; (with_reducible refine (F.out _).mono ?_); rintro e w2 ⟨rfl, hb⟩
             have a0 := hb.block _ (by simp : w1.heap.size < _)
             have a1 := hb.block w.heap.size (by simp; omega)
             rw [heap_alloc_last] at a0
             rw [heap_alloc_old _ _ hz1, HB1.out.block _ (by simp), heap_alloc_last] at a1
             have x0 : w2.cell? ⟨w1.heap.size, 0, none⟩ = some (.string N) := cell_of_row w2 _ 0 _ _ _ a0
             have x1 : w2.cell? ⟨w1.heap.size, 1, none⟩ = some (.int .i64 (f : Nat)) := cell_of_row w2 _ 1 _ _ _ a0
             have y1 : w2.cell? ⟨w.heap.size, 1, none⟩ = some (.int .i64 a) := cell_of_row w2 _ 1 _ _ _ a1
             have y2 : w2.cell? ⟨w.heap.size, 2, none⟩ = some (.int .i64 b) := cell_of_row w2 _ 2 _ _ _ a1
             have y3 : w2.cell? ⟨w.heap.size, 3, none⟩ = some (.int .i64 imm) := cell_of_row w2 _ 3 _ _ _ a1
             have HW : Hid (Below w.heap.size w w2) := Lib.hid ((((Below.refl _ _).alloc (Nat.le_refl _) _).trans (HB1.out.mono (by simp))).alloc (by omega) _ |>.trans (hb.mono (by simp; omega)))
             clear hb a0 a1 hc hf hz1)
          | (go_at_call 40; first | ((with_reducible refine (H1.out _).mono ?_); rintro e w3 ⟨rfl, rfl⟩) | ((with_reducible refine (H2.out _).mono ?_); rintro e w3 ⟨rfl, rfl⟩) | ((with_reducible refine (H3.out _).mono ?_); rintro e w3 ⟨rfl, rfl⟩))
          | (go_at_call 41; first | ((with_reducible refine (IA.out _ HW.out).mono ?_); rintro e w4 ⟨rfl, hb⟩) | ((with_reducible refine (IB.out _ HW.out).mono ?_); rintro e w4 ⟨rfl, hb⟩) | ((with_reducible refine (IC.out _ HW.out).mono ?_); rintro e w4 ⟨rfl, hb⟩)
             have x1 := cell_below x1 hb
             have y2 := cell_below y2 hb
             have y3 := cell_below y3 hb
             have HW := Lib.hid (HW.out.trans (hb.mono HW.out.size))
             clear hb))
        go_ret2
        exact ⟨rfl, HW.out⟩
    | false =>
      rw [hft] at F
      rw [if_neg (by simp), if_neg (by simp)]
      clear hft ho hL
      unfold inV at *
      obtain ⟨op, a, b, imm⟩ := i
      dsimp only at *
      generalize str (nam op) = N at *
      generalize frm op = f at *
      go_enter Tryd.func16, Tryd.ntmps16
      go_wp2_with (first
        | (go_at_call 38; (with_reducible refine (K.out _).mono ?_); rintro e w1 ⟨rfl, hb⟩; obtain ⟨hc, hf⟩ := bcell hb; have hz1 : w.heap.size < w1.heap.size := (by have := hb.size; simp at this; omega); have HB1 := Lib.hid hb; clear hb)
        | (go_at_call 39; (with_reducible refine (F.out _).mono ?_); rintro e w2 ⟨rfl, hb⟩; have HB2 := Lib.hid hb; clear hb))
      go_ret2
      exact ⟨rfl, (((Below.refl _ _).alloc (Nat.le_refl _) _).trans (HB1.out.mono (by simp))).alloc (by omega) _ |>.trans (HB2.out.mono (by simp; omega))⟩
  · have ho' : isOp i.op = false := by simpa using ho
    unfold opV at K
    rw [ho', if_neg (by simp)] at K
    rw [ho']
    rw [if_neg (by simp), if_neg (by simp)]
    clear ho ho' hL
    unfold inV at *
    obtain ⟨op, a, b, imm⟩ := i
    dsimp only at *
    go_enter Tryd.func16, Tryd.ntmps16
    go_wp2_with (go_at_call 38; (with_reducible refine (K.out _).mono ?_); rintro e w' ⟨rfl, hb⟩; obtain ⟨hc, hf⟩ := bcell hb; have hz : w.heap.size < w'.heap.size := (by have := hb.size; simp at this; omega); have HB := Lib.hid hb; clear hb)
    go_ret2
    exact ⟨rfl, (((Below.refl _ _).alloc (Nat.le_refl _) _).trans (HB.out.mono (by simp))).alloc (by omega) _⟩
end Go.Proofs.YtmclcobklcjmnaaDoor
