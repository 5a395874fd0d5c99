/- The instruction of four bytes: a case. Conditions: the case's. -/
import Derived.Test.YtmclcobklcjmnaaDoorRes
import Derived.BigRegion
namespace Go.Proofs.YtmclcobklcjmnaaDoor
open Go.RowKit Go.Maps
set_option linter.unusedVariables false
set_option linter.unusedSimpArgs false

set_option maxRecDepth 100000 in
set_option maxHeartbeats 4000000 in
theorem dec011 (b0 b1 b2 b3 : UInt8) (w : World) (h8 : hasF (frm (b0.toNat : Int)) 8 = false) (ho : isOp (b0.toNat : Int) = true) (hf : fitsF (frm (b0.toNat : Int)) (rawI b0.toNat b1.toNat b2.toNat b3.toNat) = true) :
    Calls Tryd.prog 18 #[.string ⟨#[b0, b1, b2, b3]⟩] w fun e w' => e = .returned (.tuple #[inV (decV [b0, b1, b2, b3]), .int .i64 (decE [b0, b1, b2, b3])]) ∧ Below w.heap.size w w' := by
  have t0 := b0.toNat_lt
  have t1 := b1.toNat_lt
  have t2 := b2.toNat_lt
  have t3 := b3.toNat_lt
  obtain ⟨n0, hn0⟩ : ∃ n0, n0 = b0.toNat := ⟨_, rfl⟩
  obtain ⟨n1, hn1⟩ : ∃ n1, n1 = b1.toNat := ⟨_, rfl⟩
  obtain ⟨n2, hn2⟩ : ∃ n2, n2 = b2.toNat := ⟨_, rfl⟩
  obtain ⟨n3, hn3⟩ : ∃ n3, n3 = b3.toNat := ⟨_, rfl⟩
  obtain ⟨A, hA⟩ : ∃ A, A = n1 / 16 := ⟨_, rfl⟩
  obtain ⟨B, hB⟩ : ∃ B, B = n1 % 16 := ⟨_, rfl⟩
  obtain ⟨M, hM⟩ : ∃ M, M = 256 * n2 + n3 := ⟨_, rfl⟩
  obtain ⟨V, hV⟩ : ∃ V : Int, V = if hasF (frm n0) 8 = true then i16 M else M := ⟨_, rfl⟩
  have hraw : rawI b0.toNat b1.toNat b2.toNat b3.toNat = ⟨n0, A, B, V⟩ := by
    rw [← hn0, ← hn1, ← hn2, ← hn3, hV, hA, hB]
    unfold rawI i16
    rw [hM]
    congr 1
    by_cases h8 : hasF (frm n0) 8 = true
    · rw [if_pos h8]
      by_cases h9 : 32768 ≤ 256 * n2 + n3
      · rw [if_pos h9, if_pos ⟨h8, h9⟩]; omega
      · rw [if_neg h9, if_neg (fun e => h9 e.2)]; omega
    · rw [if_neg h8, if_neg (fun e => h8 e.1)]; omega
  have F := Lib.hid (dec_eq b0 b1 b2 b3 ⟨n0, A, B, V⟩ hraw.symm)
  rw [hraw] at hf
  clear hraw
  rw [← hn0] at h8 ho hf
  have D : Hid (((⟨#[b0, b1, b2, b3]⟩ : ByteArray)[0]'(by decide : 0 < 4)).toNat = n0 ∧ ((⟨#[b0, b1, b2, b3]⟩ : ByteArray)[1]'(by decide : 1 < 4)).toNat = n1 ∧ ((⟨#[b0, b1, b2, b3]⟩ : ByteArray)[2]'(by decide : 2 < 4)).toNat = n2 ∧ ((⟨#[b0, b1, b2, b3]⟩ : ByteArray)[3]'(by decide : 3 < 4)).toNat = n3) := ⟨hn0.symm, hn1.symm, hn2.symm, hn3.symm⟩
  rw [← hn0] at t0
  rw [← hn1] at t1
  rw [← hn2] at t2
  rw [← hn3] at t3
  show Calls Tryd.prog 18 _ w fun e w' => e = .returned (.tuple #[inV (decV [b0, b1, b2, b3]), .int .i64 (decE [b0, b1, b2, b3])]) ∧ Below w.heap.size w w'
  rw [F.out.1, F.out.2]
  have KO : Hid (∀ w, Calls Tryd.prog 38 #[.int .i64 (n0 : Int)] w fun e w' => e = .returned (.tuple #[.agg #[.string (str (nam n0)), .int .i64 (frm n0 : Nat)], .bool (isOp n0)]) ∧ Below w.heap.size w w') := fun w => by
    have := opof_any (n0 : Int) w
    rwa [opV_nat] at this
  have KF := Lib.hid (fun i w => fits_any (frm n0) (frm_lt n0) i w)
  have KH : Hid (∀ w, Calls Tryd.prog 40 #[.int .i64 (frm n0 : Nat), .int .i64 8] w fun e w' => e = .returned (.bool (hasF (frm n0) 8)) ∧ w' = w) := Lib.hid (has_any (frm n0) 8 (frm_lt n0) (by decide))
  unfold okI
  have T := Lib.hid (And.intro t0 (And.intro t1 (And.intro t2 t3)))
  generalize nam (n0 : Int) = nn at *
  generalize frm (n0 : Int) = f at *
  generalize isOp (n0 : Int) = o at *
  generalize hasF f 8 = t8 at *
  subst h8 ho
  obtain ⟨ft, hft⟩ : ∃ ft, ft = fitsF f ⟨n0, A, B, V⟩ := ⟨_, rfl⟩
  have KG : Hid (∀ w, Calls Tryd.prog 39 #[.int .i64 (f : Nat), .agg #[.int .i64 (n0 : Int), .int .i64 (A : Int), .int .i64 (B : Int), .int .i64 V]] w fun e w' => e = .returned (.bool ft) ∧ Below w.heap.size w w') := Lib.hid (by rw [hft]; exact KF.out ⟨n0, A, B, V⟩)
  have hf3 := hft.trans hf
  rw [← hft]
  clear hft KF hf
  subst hf3
  have Z := Lib.hid (And.intro hA (And.intro hB (And.intro hM hV)))
  clear t0 t1 t2 t3 hn0 hn1 hn2 hn3 F hA hB hM hV
  go_enter Tryd.func18, Tryd.ntmps18
  go_wp2
  obtain ⟨w1, hw1⟩ : ∃ w1, w1 = w.alloc (.cells #[.int .i64 0, .int .i64 0, .int .i64 0, .int .i64 0] 30) := ⟨_, rfl⟩
  rw [← hw1]
  have HW := Lib.hid hw1
  clear hw1
  go_region
  rw [D.out.1, D.out.2.1, D.out.2.2.1, D.out.2.2.2]
  obtain ⟨t0, t1, t2, t3⟩ := T.out
  rw [show wrap64 (n0 : Int) = (n0 : Int) from by unfold wrap64; omega, show wrap64 (n2 : Int) = (n2 : Int) from by unfold wrap64; omega, show wrap64 (n3 : Int) = (n3 : Int) from by unfold wrap64; omega, show wrap64 ((n2 : Int) * 256) = (n2 : Int) * 256 from by unfold wrap64; omega, or_add n2 n3 t2 t3, show (n1 : Int) / 16 % 256 = ((n1 / 16 : Nat) : Int) from by omega, show (n1 : Int) % 16 = ((n1 % 16 : Nat) : Int) from by omega]
  obtain ⟨zA, zB, zM, zV⟩ := Z.out
  have hM2 : M < 65536 := by omega
  have w6 := w16 M hM2
  rw [← zA, ← zB, ← zM]
  clear zA zB zM
  obtain ⟨X, hX⟩ : ∃ X, X = w1.heap.size := ⟨_, rfl⟩
  obtain ⟨W, hW⟩ : ∃ W, W = (w1.alloc (.cells #[.int .i64 (n0 : Int), .int .i64 (A : Int), .int .i64 (B : Int), .int .i64 (M : Int)] 30)).drew := ⟨_, rfl⟩
  rw [← hW, ← hX]
  have hb : W.heap[X]? = some (.cells #[.int .i64 (n0 : Int), .int .i64 (A : Int), .int .i64 (B : Int), .int .i64 (M : Int)] 30) := by rw [hW, hX]; exact heap_alloc_last w1 _
  have c0 : W.cell? ⟨X, 0, none⟩ = some (.int .i64 (n0 : Int)) := cell_of_row W X 0 _ _ _ hb
  have c1 : W.cell? ⟨X, 1, none⟩ = some (.int .i64 (A : Int)) := cell_of_row W X 1 _ _ _ hb
  have c2 : W.cell? ⟨X, 2, none⟩ = some (.int .i64 (B : Int)) := cell_of_row W X 2 _ _ _ hb
  have c3 : W.cell? ⟨X, 3, none⟩ = some (.int .i64 (M : Int)) := cell_of_row W X 3 _ _ _ hb
  have hY : X = w.heap.size + 1 := by rw [hX, HW.out]; simp
  have hs : X < W.heap.size := by rw [hW, hX]; simp
  have hY2 : w.heap.size < X := by omega
  have fz : ∀ k, W.frozen? ⟨X, k, none⟩ = false := fun k => by simp [World.frozen?, hb]
  have hz : W.heap[w.heap.size]? = some (.cells #[.int .i64 0, .int .i64 0, .int .i64 0, .int .i64 0] 30) := by
    rw [hW, HW.out]
    show ((w.alloc _).heap.push _)[w.heap.size]? = _
    rw [Array.getElem?_push, if_neg (by simp), heap_alloc_last]
  have hzc : ∀ k, W.frozen? ⟨w.heap.size, k, none⟩ = false := fun k => by simp [World.frozen?, hz]
  have fz3 := fz 3
  have z0 := hzc 0
  have z1 := hzc 1
  have z2 := hzc 2
  have z3 := hzc 3
  have y0 : W.cell? ⟨w.heap.size, 0, none⟩ = some (.int .i64 0) := cell_of_row W _ 0 _ _ _ hz
  have y1 : W.cell? ⟨w.heap.size, 1, none⟩ = some (.int .i64 0) := cell_of_row W _ 1 _ _ _ hz
  have y2 : W.cell? ⟨w.heap.size, 2, none⟩ = some (.int .i64 0) := cell_of_row W _ 2 _ _ _ hz
  have y3 : W.cell? ⟨w.heap.size, 3, none⟩ = some (.int .i64 0) := cell_of_row W _ 3 _ _ _ hz
  have hwW : w.heap.size < W.heap.size := by omega
  have HB1 : Hid (Below w.heap.size w W ∧ w.heap.size ≤ X) := Lib.hid ⟨by rw [hW, HW.out]; exact (((Below.refl _ _).alloc (Nat.le_refl _) _).alloc (by simp) _).drew, by omega⟩
  have hVb : -32768 ≤ V ∧ V < 65536 := by rw [zV]; unfold i16; split <;> (try split) <;> omega
  obtain ⟨v1, v2⟩ := hVb
  have HK : Hid (∀ w', Below X W w' → w'.heap[w.heap.size]? = some (.cells #[.int .i64 0, .int .i64 0, .int .i64 0, .int .i64 0] 30)) := Lib.hid fun w' h => (h.block _ hY2).trans hz
  have HF : Hid (∀ w', Below X W w' → Below w.heap.size w w') := Lib.hid fun w' h => HB1.out.1.trans (h.mono HB1.out.2)
  have HKX : Hid (∀ w', Below W.heap.size W w' → w'.heap[X]? = some (.cells #[.int .i64 (n0 : Int), .int .i64 (A : Int), .int .i64 (B : Int), .int .i64 (M : Int)] 30)) := Lib.hid fun w' h => (h.block _ hs).trans hb
  have HXW : Hid (X ≤ W.heap.size) := Lib.hid (Nat.le_of_lt hs)
  clear hX hW hb hY hz hzc fz hM2 t0 t1 t2 t3 Z T D HW
  have VV := Lib.hid (And.intro v1 (And.intro v2 hY2))
  have hVM : V = (M : Int) := by rw [zV]; simp
  clear w6 zV v1 v2
  obtain rfl := hVM
  go_wp2_with (first
    | (go_at_call 38; (with_reducible refine (KO.out _).mono ?_); rintro e w2 ⟨rfl, hb⟩; obtain ⟨hc, hf⟩ := bcell hb; have hs2 : W.heap.size ≤ w2.heap.size := hb.size; have hx2 : X < w2.heap.size := (by omega); have hw2 : w.heap.size < w2.heap.size := (by omega); have HB2 : Hid (Below X W w2 ∧ X ≤ w2.heap.size) := Lib.hid ⟨hb.mono HXW.out, Nat.le_of_lt hx2⟩; have d0 := (hc X 0 hs).trans c0; have d1 := (hc X 1 hs).trans c1; have d2 := (hc X 2 hs).trans c2; have d3 := (hc X 3 hs).trans c3; have q3 := (hf X 3 hs).trans fz3; have q0 := (hf w.heap.size 0 hwW).trans z0; have q1 := (hf w.heap.size 1 hwW).trans z1; have q2 := (hf w.heap.size 2 hwW).trans z2; have q4 := (hf w.heap.size 3 hwW).trans z3; have p0 := (hc w.heap.size 0 hwW).trans y0; have p1 := (hc w.heap.size 1 hwW).trans y1; have p2 := (hc w.heap.size 2 hwW).trans y2; have p3 := (hc w.heap.size 3 hwW).trans y3; clear hb hs2 hc hf c0 c1 c2 c3 fz3 z0 z1 z2 z3 y0 y1 y2 y3 hs hwW)
    | (go_at_call 40; (with_reducible refine (KH.out _).mono ?_); rintro e w3 ⟨rfl, rfl⟩)
    | (go_at_call 39; (with_reducible refine (KG.out _).mono ?_); rintro e w4 ⟨rfl, hb⟩; obtain ⟨hc, hf⟩ := bcell (((Below.refl _ _).alloc (Nat.le_refl _) _).trans (hb.mono (by simp)) : Below w2.heap.size w2 w4); have HB4 := Lib.hid hb; have d0 := (hc X 0 hx2).trans d0; have d1 := (hc X 1 hx2).trans d1; have d2 := (hc X 2 hx2).trans d2; have d3 := (hc X 3 hx2).trans d3; have q0 := (hf w.heap.size 0 hw2).trans q0; have q1 := (hf w.heap.size 1 hw2).trans q1; have q2 := (hf w.heap.size 2 hw2).trans q2; have q4 := (hf w.heap.size 3 hw2).trans q4; have p0 := (hc w.heap.size 0 hw2).trans p0; have p1 := (hc w.heap.size 1 hw2).trans p1; have p2 := (hc w.heap.size 2 hw2).trans p2; have p3 := (hc w.heap.size 3 hw2).trans p3; clear hc hf hb hx2 hw2 hY2))
  have hbw : Below X W w4 := (HB2.out.1.alloc (by first | exact HB2.out.2 | (simp; exact HB2.out.2)) (.cells #[.string (str nn), .int .i64 (f : Nat)] 78)).trans (HB4.out.mono (by have := HB2.out.2; first | omega | (simp; omega)))
  have hh := set4 (HK.out _ hbw) (.int .i64 (n0 : Int)) (.int .i64 (A : Int)) (.int .i64 (B : Int)) (.int .i64 (M : Int))
  exact bodyPost_ret_by (results_ct Tryd.results18 _ _ w.heap.size 30 _ (0, 0) _ _ rfl rfl hh Tryd.underlying30 rfl (by kernel_rfl)) rfl ⟨rfl, below4 (HF.out _ hbw) (Nat.le_refl _) _ _ _ _⟩
end Go.Proofs.YtmclcobklcjmnaaDoor
