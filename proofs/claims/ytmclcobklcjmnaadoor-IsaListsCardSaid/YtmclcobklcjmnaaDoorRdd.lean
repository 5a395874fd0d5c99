/- The instruction of four bytes: the document's own answer. Conditions: four bytes. -/
import Derived.Test.YtmclcobklcjmnaaDoorRft
import Derived.BigRegion
namespace Go.Proofs.YtmclcobklcjmnaaDoor
open Go.RowKit Go.Maps
set_option linter.unusedVariables false
set_option linter.unusedSimpArgs false

/-- the instruction at work in block X, the result's own block nought -/
structure DD (w : World) (X : Nat) (a b c d : Int) (W : World) : Prop where
  x : W.heap[X]? = some (.cells #[.int .i64 a, .int .i64 b, .int .i64 c, .int .i64 d] 30 (0, 0))
  r : W.heap[w.heap.size]? = some (.cells #[.int .i64 0, .int .i64 0, .int .i64 0, .int .i64 0] 30 (0, 0))
  b : Below w.heap.size w W
  lt : w.heap.size < X
theorem DD.below {w : World} {X : Nat} {a b c d : Int} {W W' : World} (h : DD w X a b c d W) (hb : Below W.heap.size W W') : DD w X a b c d W' :=
  ⟨(hb.block _ (block_lt h.x)).trans h.x, (hb.block _ (block_lt h.r)).trans h.r, h.b.trans (hb.mono h.b.size), h.lt⟩
theorem DD.set {w : World} {X : Nat} {a b c d : Int} {W : World} (h : DD w X a b c d W) (d' : Int) : DD w X a b c d' (W.setCell ⟨X, 3, none⟩ (.int .i64 d')) :=
  ⟨set1 h.x _, (Below.heap_setCell W ⟨X, 3, none⟩ _ _ (by have := h.lt; show w.heap.size ≠ X; omega)).trans h.r, h.b.setCell (p := ⟨X, 3, none⟩) (Nat.le_of_lt h.lt) _, h.lt⟩
theorem DD.cells {w : World} {X : Nat} {a b c d : Int} {W : World} (h : DD w X a b c d W) :
    (W.cell? ⟨X, 0, none⟩ = some (.int .i64 a) ∧ W.cell? ⟨X, 1, none⟩ = some (.int .i64 b) ∧ W.cell? ⟨X, 2, none⟩ = some (.int .i64 c) ∧ W.cell? ⟨X, 3, none⟩ = some (.int .i64 d) ∧ W.frozen? ⟨X, 3, none⟩ = false) ∧
    (W.cell? ⟨w.heap.size, 0, none⟩ = some (.int .i64 0) ∧ W.cell? ⟨w.heap.size, 1, none⟩ = some (.int .i64 0) ∧ W.cell? ⟨w.heap.size, 2, none⟩ = some (.int .i64 0) ∧ W.cell? ⟨w.heap.size, 3, none⟩ = some (.int .i64 0)) ∧
    W.frozen? ⟨w.heap.size, 0, none⟩ = false ∧ W.frozen? ⟨w.heap.size, 1, none⟩ = false ∧ W.frozen? ⟨w.heap.size, 2, none⟩ = false ∧ W.frozen? ⟨w.heap.size, 3, none⟩ = false :=
  ⟨⟨cell_of_row _ _ 0 _ _ _ h.x, cell_of_row _ _ 1 _ _ _ h.x, cell_of_row _ _ 2 _ _ _ h.x, cell_of_row _ _ 3 _ _ _ h.x, by simp [World.frozen?, h.x]⟩,
   ⟨cell_of_row _ _ 0 _ _ _ h.r, cell_of_row _ _ 1 _ _ _ h.r, cell_of_row _ _ 2 _ _ _ h.r, cell_of_row _ _ 3 _ _ _ h.r⟩, by simp [World.frozen?, h.r], by simp [World.frozen?, h.r], by simp [World.frozen?, h.r], by simp [World.frozen?, h.r]⟩
end Go.Proofs.YtmclcobklcjmnaaDoor

namespace Go.Proofs.YtmclcobklcjmnaaDoor
open Go.RowKit Go.Maps
set_option linter.unusedVariables false
set_option linter.unusedSimpArgs false

set_option maxRecDepth 100000 in
set_option maxHeartbeats 4000000 in
theorem rdec_out (b0 b1 b2 b3 : UInt8) (w : World) (ho : 30 ≤ b0.toNat) :
    Calls Tryd.prog 35 #[.string ⟨#[b0, b1, b2, b3]⟩] w fun e w' => e = .returned (.tuple #[inV (decV [b0, b1, b2, b3]), .int .i64 (decE [b0, b1, b2, b3])]) ∧ Below w.heap.size w w' := by
  have t0 := b0.toNat_lt
  have t1 := b1.toNat_lt
  have t2 := b2.toNat_lt
  have t3 := b3.toNat_lt
  obtain ⟨n0, hn0⟩ : ∃ n0, n0 = b0.toNat := ⟨_, rfl⟩
  obtain ⟨n1, hn1⟩ : ∃ n1, n1 = b1.toNat := ⟨_, rfl⟩
  obtain ⟨n2, hn2⟩ : ∃ n2, n2 = b2.toNat := ⟨_, rfl⟩
  obtain ⟨n3, hn3⟩ : ∃ n3, n3 = b3.toNat := ⟨_, rfl⟩
  obtain ⟨A, hA⟩ : ∃ A, A = n1 / 16 := ⟨_, rfl⟩
  obtain ⟨B, hB⟩ : ∃ B, B = n1 % 16 := ⟨_, rfl⟩
  obtain ⟨M, hM⟩ : ∃ M, M = 256 * n2 + n3 := ⟨_, rfl⟩
  rw [← hn0] at t0 ho
  rw [← hn1] at t1
  rw [← hn2] at t2 
  rw [← hn3] at t3 
  skip
  obtain ⟨I, hI⟩ : ∃ I : In, I = ⟨n0, A, B, (M : Int)⟩ := ⟨_, rfl⟩
  have hraw : rawI b0.toNat b1.toNat b2.toNat b3.toNat = I := by
    rw [← hn0, ← hn1, ← hn2, ← hn3, hI, hA, hB]
    unfold rawI
    rw [if_neg (fun e => by
      have e2 : frm (n0 : Int) = 0 := by
        unfold frm
        rw [List.getD_eq_getElem?_getD, List.getElem?_eq_none (by simp [frms]; omega)]
        rfl
      rw [e2] at e; exact absurd e.1 (by decide)), hM]; simp
  have F := dec_eq b0 b1 b2 b3 I hraw.symm
  clear hraw
  rw [F.1, F.2]
  clear F
  obtain ⟨rv, hrv⟩ : ∃ rv, rv = inV (if okI I = true then I else zeroI) := ⟨_, rfl⟩
  obtain ⟨re, hre⟩ : ∃ re : Int, re = (if okI I = true then 0 else 91) := ⟨_, rfl⟩
  rw [← hrv, ← hre]
  have HRV := Lib.hid (And.intro hrv hre)
  clear hrv hre
  have D : Hid (((⟨#[b0, b1, b2, b3]⟩ : ByteArray)[0]'(by decide : 0 < 4)).toNat = n0 ∧ ((⟨#[b0, b1, b2, b3]⟩ : ByteArray)[1]'(by decide : 1 < 4)).toNat = n1 ∧ ((⟨#[b0, b1, b2, b3]⟩ : ByteArray)[2]'(by decide : 2 < 4)).toNat = n2 ∧ ((⟨#[b0, b1, b2, b3]⟩ : ByteArray)[3]'(by decide : 3 < 4)).toNat = n3) := ⟨hn0.symm, hn1.symm, hn2.symm, hn3.symm⟩
  have KC : Hid (∀ w, Calls Tryd.prog 29 #[.agg #[.int .i64 (n0 : Int), .int .i64 (A : Int), .int .i64 (B : Int), .int .i64 ((M : Int))]] w fun e w' => e = .returned (.int .i64 (ckE I)) ∧ Below w.heap.size w w') := Lib.hid fun w => by
    have := rcheck_any I w
    rw [hI] at this ⊢
    exact this
  have KN : Hid (∀ w, Calls Tryd.prog 50 #[.int .i64 (n0 : Int)] w fun e w' => e = .returned (.string (ByteArray.mk #[])) ∧ Below w.heap.size w w') := Lib.hid fun w => rname_out w n0 (.inr (by omega))
  have hIV : Hid (inV I = .agg #[.int .i64 (n0 : Int), .int .i64 (A : Int), .int .i64 (B : Int), .int .i64 ((M : Int))]) := Lib.hid (by rw [hI]; rfl)
  have hE : ckE I = if okI I then 0 else 90 := rfl
  obtain ⟨E, hEE⟩ : ∃ E, E = ckE I := ⟨_, rfl⟩
  rw [← hEE] at KC hE
  have HE := Lib.hid hE
  have Z := Lib.hid (And.intro hA (And.intro hB (And.intro hM (And.intro t1 (And.intro t2 (And.intro t3 t0))))))
  clear hn0 hn1 hn2 hn3 hA hB hI hE hEE hM t0 t1 t2 t3 ho
  go_enter Tryd.func35, Tryd.ntmps35
  go_wp2
  obtain ⟨w1, hw1⟩ : ∃ w1, w1 = w.alloc (.cells #[.int .i64 0, .int .i64 0, .int .i64 0, .int .i64 0] 30) := ⟨_, rfl⟩
  rw [← hw1]
  have HW := Lib.hid hw1
  clear hw1
  go_region
  obtain ⟨d0, d1, d2, d3⟩ := D.out
  obtain ⟨zA, zB, zM, t1, t2, t3, t0⟩ := Z.out
  rw [d0, d1, d2, d3]
  rw [show wrap64 (n0 : Int) = (n0 : Int) from by unfold wrap64; omega, show wrap64 (n2 : Int) = (n2 : Int) from by unfold wrap64; omega, show wrap64 (n3 : Int) = (n3 : Int) from by unfold wrap64; omega, show wrap64 (256 * (n2 : Int)) = 256 * (n2 : Int) from by unfold wrap64; omega, show wrap64 (256 * (n2 : Int) + (n3 : Int)) = (M : Int) from by unfold wrap64; omega, show (n1 : Int) / 16 % 256 = (A : Int) from by omega, show (n1 : Int) % 16 = (B : Int) from by omega]
  obtain ⟨X, hX⟩ : ∃ X, X = w1.heap.size := ⟨_, rfl⟩
  obtain ⟨W, hW⟩ : ∃ W, W = (w1.alloc (.cells #[.int .i64 (n0 : Int), .int .i64 (A : Int), .int .i64 (B : Int), .int .i64 (M : Int)] 30)).drew := ⟨_, rfl⟩
  rw [← hW, ← hX]
  have D0 : DD w X n0 A B M W := by
    have hw1 := HW.out
    refine ⟨by rw [hW, hX]; exact heap_alloc_last w1 _, ?_, ?_, by rw [hX, hw1]; simp⟩
    · rw [hW, hw1]
      show ((w.alloc _).heap.push _)[w.heap.size]? = _
      rw [Array.getElem?_push, if_neg (by simp), heap_alloc_last]
    · rw [hW, hw1]; exact (((Below.refl _ _).alloc (Nat.le_refl _) _).alloc (by simp) _).drew
  obtain ⟨⟨x0, x1, x2, x3, xf⟩, ⟨y0, y1, y2, y3⟩, z0, z1, z2, z3⟩ := D0.cells
  have HD0 := Lib.hid D0
  clear D0 hW hX HW D Z d0 d1 d2 d3 zA zB zM t0 t1 t2 t3
  by_cases hk : okI I = true
  · have hE0 : E = 0 := by rw [HE.out, if_pos hk]
    have HK := Lib.hid hk
    clear hk HE
    subst hE0
    go_wp2_with (first
      | (go_at_call 50; (with_reducible refine (KN.out _).mono ?_); rintro e w2 ⟨rfl, hb⟩; have D1 := HD0.out.below hb; obtain ⟨⟨x0, x1, x2, x3, xf⟩, ⟨y0, y1, y2, y3⟩, z0, z1, z2, z3⟩ := D1.cells; have HD1 := Lib.hid D1; clear hb D1)
      | (go_at_call 29; (with_reducible refine (KC.out _).mono ?_); rintro e w4 ⟨rfl, hb⟩; have D2 := HD1.out.below hb; obtain ⟨⟨x0, x1, x2, x3, xf⟩, ⟨y0, y1, y2, y3⟩, z0, z1, z2, z3⟩ := D2.cells; have HD2 := Lib.hid D2; clear hb D2))
    have hh := set4 HD2.out.r (.int .i64 (n0 : Int)) (.int .i64 (A : Int)) (.int .i64 (B : Int)) (.int .i64 (M : Int))
    exact bodyPost_ret_by (results_ct Tryd.results35 _ _ w.heap.size 30 _ (0, 0) _ _ rfl rfl hh Tryd.underlying30 rfl (by kernel_rfl)) rfl ⟨by rw [HRV.out.1, HRV.out.2, if_pos HK.out, if_pos HK.out, hIV.out]; rfl, below4 HD2.out.b (Nat.le_refl _) _ _ _ _⟩
  · have hE0 : E = 90 := by rw [HE.out, if_neg hk]
    have HK := Lib.hid hk
    clear hk HE
    subst hE0
    go_wp2_with (first
      | (go_at_call 50; (with_reducible refine (KN.out _).mono ?_); rintro e w2 ⟨rfl, hb⟩; have D1 := HD0.out.below hb; obtain ⟨⟨x0, x1, x2, x3, xf⟩, ⟨y0, y1, y2, y3⟩, z0, z1, z2, z3⟩ := D1.cells; have HD1 := Lib.hid D1; clear hb D1)
      | (go_at_call 29; (with_reducible refine (KC.out _).mono ?_); rintro e w4 ⟨rfl, hb⟩; have D2 := HD1.out.below hb; obtain ⟨⟨x0, x1, x2, x3, xf⟩, ⟨y0, y1, y2, y3⟩, z0, z1, z2, z3⟩ := D2.cells; have HD2 := Lib.hid D2; clear hb D2))
    have hh := set4 HD2.out.r (.int .i64 0) (.int .i64 0) (.int .i64 0) (.int .i64 0)
    exact bodyPost_ret_by (results_ct Tryd.results35 _ _ w.heap.size 30 _ (0, 0) _ _ rfl rfl hh Tryd.underlying30 rfl (by kernel_rfl)) rfl ⟨by rw [HRV.out.1, HRV.out.2, if_neg HK.out, if_neg HK.out]; rfl, below4 HD2.out.b (Nat.le_refl _) _ _ _ _⟩

end Go.Proofs.YtmclcobklcjmnaaDoor

namespace Go.Proofs.YtmclcobklcjmnaaDoor
open Go.RowKit Go.Maps
set_option linter.unusedVariables false
set_option linter.unusedSimpArgs false

set_option maxRecDepth 100000 in
set_option maxHeartbeats 4000000 in
theorem rdec_n8 (b0 b1 b2 b3 : UInt8) (w : World) (ho : b0.toNat < 30) (h8 : hasF (frm (b0.toNat : Int)) 8 = false) :
    Calls Tryd.prog 35 #[.string ⟨#[b0, b1, b2, b3]⟩] w fun e w' => e = .returned (.tuple #[inV (decV [b0, b1, b2, b3]), .int .i64 (decE [b0, b1, b2, b3])]) ∧ Below w.heap.size w w' := by
  have t0 := b0.toNat_lt
  have t1 := b1.toNat_lt
  have t2 := b2.toNat_lt
  have t3 := b3.toNat_lt
  obtain ⟨n0, hn0⟩ : ∃ n0, n0 = b0.toNat := ⟨_, rfl⟩
  obtain ⟨n1, hn1⟩ : ∃ n1, n1 = b1.toNat := ⟨_, rfl⟩
  obtain ⟨n2, hn2⟩ : ∃ n2, n2 = b2.toNat := ⟨_, rfl⟩
  obtain ⟨n3, hn3⟩ : ∃ n3, n3 = b3.toNat := ⟨_, rfl⟩
  obtain ⟨A, hA⟩ : ∃ A, A = n1 / 16 := ⟨_, rfl⟩
  obtain ⟨B, hB⟩ : ∃ B, B = n1 % 16 := ⟨_, rfl⟩
  obtain ⟨M, hM⟩ : ∃ M, M = 256 * n2 + n3 := ⟨_, rfl⟩
  rw [← hn0] at t0 ho h8
  rw [← hn1] at t1
  rw [← hn2] at t2 
  rw [← hn3] at t3 
  skip
  obtain ⟨I, hI⟩ : ∃ I : In, I = ⟨n0, A, B, (M : Int)⟩ := ⟨_, rfl⟩
  have hraw : rawI b0.toNat b1.toNat b2.toNat b3.toNat = I := by
    rw [← hn0, ← hn1, ← hn2, ← hn3, hI, hA, hB]
    unfold rawI
    rw [if_neg (fun e => by rw [h8] at e; exact absurd e.1 (by decide)), hM]; simp
  have F := dec_eq b0 b1 b2 b3 I hraw.symm
  clear hraw
  rw [F.1, F.2]
  clear F
  obtain ⟨rv, hrv⟩ : ∃ rv, rv = inV (if okI I = true then I else zeroI) := ⟨_, rfl⟩
  obtain ⟨re, hre⟩ : ∃ re : Int, re = (if okI I = true then 0 else 91) := ⟨_, rfl⟩
  rw [← hrv, ← hre]
  have HRV := Lib.hid (And.intro hrv hre)
  clear hrv hre
  have D : Hid (((⟨#[b0, b1, b2, b3]⟩ : ByteArray)[0]'(by decide : 0 < 4)).toNat = n0 ∧ ((⟨#[b0, b1, b2, b3]⟩ : ByteArray)[1]'(by decide : 1 < 4)).toNat = n1 ∧ ((⟨#[b0, b1, b2, b3]⟩ : ByteArray)[2]'(by decide : 2 < 4)).toNat = n2 ∧ ((⟨#[b0, b1, b2, b3]⟩ : ByteArray)[3]'(by decide : 3 < 4)).toNat = n3) := ⟨hn0.symm, hn1.symm, hn2.symm, hn3.symm⟩
  have KC : Hid (∀ w, Calls Tryd.prog 29 #[.agg #[.int .i64 (n0 : Int), .int .i64 (A : Int), .int .i64 (B : Int), .int .i64 ((M : Int))]] w fun e w' => e = .returned (.int .i64 (ckE I)) ∧ Below w.heap.size w w') := Lib.hid fun w => by
    have := rcheck_any I w
    rw [hI] at this ⊢
    exact this
  have hne : nam (n0 : Int) ≠ [] := (by decide +kernel : ∀ k : Fin 30, nam (k.val : Int) ≠ []) ⟨n0, ho⟩
  obtain ⟨NM, hNM⟩ : ∃ NM, NM = str (nam (n0 : Int)) := ⟨_, rfl⟩
  have e3 : NM.toList.isEmpty = false := by
    rw [ByteArray.toList_eq, hNM, str_list]
    cases h : nam (n0 : Int) with
    | nil => exact absurd h hne
    | cons _ _ => rfl
  have e4 : ¬ NM = ByteArray.empty := fun e => by rw [e, ByteArray.toList_eq] at e3; exact absurd e3 (by decide)
  have KN : Hid (∀ w, Calls Tryd.prog 50 #[.int .i64 (n0 : Int)] w fun e w' => e = .returned (.string NM) ∧ Below w.heap.size w w') := Lib.hid fun w => by rw [hNM]; exact rname_in w n0 (by omega) (by omega)
  have KF : Hid (∀ w, Calls Tryd.prog 51 #[.int .i64 (n0 : Int)] w fun e w' => e = .returned (.string (str (formT (frm (n0 : Int))))) ∧ w' = w) := Lib.hid fun w => rform_any w n0 (by omega) (by omega)
  have KH : Hid (∀ w, Calls Tryd.prog 52 #[.string (str (formT (frm (n0 : Int)))), .int .u8 115] w fun e w' => e = .returned (.bool false) ∧ w' = w) := Lib.hid fun w => by rw [← h8]; exact (rhas_form (frm (n0 : Int)) w).2.2.2
  generalize str (formT (frm (n0 : Int))) = FS at *
  have hIV : Hid (inV I = .agg #[.int .i64 (n0 : Int), .int .i64 (A : Int), .int .i64 (B : Int), .int .i64 ((M : Int))]) := Lib.hid (by rw [hI]; rfl)
  have hE : ckE I = if okI I then 0 else 90 := rfl
  obtain ⟨E, hEE⟩ : ∃ E, E = ckE I := ⟨_, rfl⟩
  rw [← hEE] at KC hE
  have HE := Lib.hid hE
  have Z := Lib.hid (And.intro hA (And.intro hB (And.intro hM (And.intro t1 (And.intro t2 (And.intro t3 t0))))))
  clear hn0 hn1 hn2 hn3 hA hB hI hE hEE hM t0 t1 t2 t3 ho h8 hne hNM
  go_enter Tryd.func35, Tryd.ntmps35
  go_wp2
  obtain ⟨w1, hw1⟩ : ∃ w1, w1 = w.alloc (.cells #[.int .i64 0, .int .i64 0, .int .i64 0, .int .i64 0] 30) := ⟨_, rfl⟩
  rw [← hw1]
  have HW := Lib.hid hw1
  clear hw1
  go_region
  obtain ⟨d0, d1, d2, d3⟩ := D.out
  obtain ⟨zA, zB, zM, t1, t2, t3, t0⟩ := Z.out
  rw [d0, d1, d2, d3]
  rw [show wrap64 (n0 : Int) = (n0 : Int) from by unfold wrap64; omega, show wrap64 (n2 : Int) = (n2 : Int) from by unfold wrap64; omega, show wrap64 (n3 : Int) = (n3 : Int) from by unfold wrap64; omega, show wrap64 (256 * (n2 : Int)) = 256 * (n2 : Int) from by unfold wrap64; omega, show wrap64 (256 * (n2 : Int) + (n3 : Int)) = (M : Int) from by unfold wrap64; omega, show (n1 : Int) / 16 % 256 = (A : Int) from by omega, show (n1 : Int) % 16 = (B : Int) from by omega]
  obtain ⟨X, hX⟩ : ∃ X, X = w1.heap.size := ⟨_, rfl⟩
  obtain ⟨W, hW⟩ : ∃ W, W = (w1.alloc (.cells #[.int .i64 (n0 : Int), .int .i64 (A : Int), .int .i64 (B : Int), .int .i64 (M : Int)] 30)).drew := ⟨_, rfl⟩
  rw [← hW, ← hX]
  have D0 : DD w X n0 A B M W := by
    have hw1 := HW.out
    refine ⟨by rw [hW, hX]; exact heap_alloc_last w1 _, ?_, ?_, by rw [hX, hw1]; simp⟩
    · rw [hW, hw1]
      show ((w.alloc _).heap.push _)[w.heap.size]? = _
      rw [Array.getElem?_push, if_neg (by simp), heap_alloc_last]
    · rw [hW, hw1]; exact (((Below.refl _ _).alloc (Nat.le_refl _) _).alloc (by simp) _).drew
  obtain ⟨⟨x0, x1, x2, x3, xf⟩, ⟨y0, y1, y2, y3⟩, z0, z1, z2, z3⟩ := D0.cells
  have HD0 := Lib.hid D0
  clear D0 hW hX HW D Z d0 d1 d2 d3 zA zB zM t0 t1 t2 t3
  by_cases hk : okI I = true
  · have hE0 : E = 0 := by rw [HE.out, if_pos hk]
    have HK := Lib.hid hk
    clear hk HE
    subst hE0
    go_wp2_with (first
      | (go_at_call 50; (with_reducible refine (KN.out _).mono ?_); rintro e w2 ⟨rfl, hb⟩; have D1 := HD0.out.below hb; obtain ⟨⟨x0, x1, x2, x3, xf⟩, ⟨y0, y1, y2, y3⟩, z0, z1, z2, z3⟩ := D1.cells; have HD1 := Lib.hid D1; clear hb D1)
      | (go_at_call 51; (with_reducible refine (KF.out _).mono ?_); rintro e w3 ⟨rfl, rfl⟩)
      | (go_at_call 52; (with_reducible refine (KH.out _).mono ?_); rintro e w3 ⟨rfl, rfl⟩)
      | (go_at_call 29; (with_reducible refine (KC.out _).mono ?_); rintro e w4 ⟨rfl, hb⟩; have D2 := HD1.out.below hb; obtain ⟨⟨x0, x1, x2, x3, xf⟩, ⟨y0, y1, y2, y3⟩, z0, z1, z2, z3⟩ := D2.cells; have HD2 := Lib.hid D2; clear hb D2))
    have hh := set4 HD2.out.r (.int .i64 (n0 : Int)) (.int .i64 (A : Int)) (.int .i64 (B : Int)) (.int .i64 (M : Int))
    exact bodyPost_ret_by (results_ct Tryd.results35 _ _ w.heap.size 30 _ (0, 0) _ _ rfl rfl hh Tryd.underlying30 rfl (by kernel_rfl)) rfl ⟨by rw [HRV.out.1, HRV.out.2, if_pos HK.out, if_pos HK.out, hIV.out]; rfl, below4 HD2.out.b (Nat.le_refl _) _ _ _ _⟩
  · have hE0 : E = 90 := by rw [HE.out, if_neg hk]
    have HK := Lib.hid hk
    clear hk HE
    subst hE0
    go_wp2_with (first
      | (go_at_call 50; (with_reducible refine (KN.out _).mono ?_); rintro e w2 ⟨rfl, hb⟩; have D1 := HD0.out.below hb; obtain ⟨⟨x0, x1, x2, x3, xf⟩, ⟨y0, y1, y2, y3⟩, z0, z1, z2, z3⟩ := D1.cells; have HD1 := Lib.hid D1; clear hb D1)
      | (go_at_call 51; (with_reducible refine (KF.out _).mono ?_); rintro e w3 ⟨rfl, rfl⟩)
      | (go_at_call 52; (with_reducible refine (KH.out _).mono ?_); rintro e w3 ⟨rfl, rfl⟩)
      | (go_at_call 29; (with_reducible refine (KC.out _).mono ?_); rintro e w4 ⟨rfl, hb⟩; have D2 := HD1.out.below hb; obtain ⟨⟨x0, x1, x2, x3, xf⟩, ⟨y0, y1, y2, y3⟩, z0, z1, z2, z3⟩ := D2.cells; have HD2 := Lib.hid D2; clear hb D2))
    have hh := set4 HD2.out.r (.int .i64 0) (.int .i64 0) (.int .i64 0) (.int .i64 0)
    exact bodyPost_ret_by (results_ct Tryd.results35 _ _ w.heap.size 30 _ (0, 0) _ _ rfl rfl hh Tryd.underlying30 rfl (by kernel_rfl)) rfl ⟨by rw [HRV.out.1, HRV.out.2, if_neg HK.out, if_neg HK.out]; rfl, below4 HD2.out.b (Nat.le_refl _) _ _ _ _⟩

end Go.Proofs.YtmclcobklcjmnaaDoor

namespace Go.Proofs.YtmclcobklcjmnaaDoor
open Go.RowKit Go.Maps
set_option linter.unusedVariables false
set_option linter.unusedSimpArgs false

set_option maxRecDepth 100000 in
set_option maxHeartbeats 4000000 in
theorem rdec_sm (b0 b1 b2 b3 : UInt8) (w : World) (ho : b0.toNat < 30) (h8 : hasF (frm (b0.toNat : Int)) 8 = true) (hm : 256 * b2.toNat + b3.toNat < 32768) :
    Calls Tryd.prog 35 #[.string ⟨#[b0, b1, b2, b3]⟩] w fun e w' => e = .returned (.tuple #[inV (decV [b0, b1, b2, b3]), .int .i64 (decE [b0, b1, b2, b3])]) ∧ Below w.heap.size w w' := by
  have t0 := b0.toNat_lt
  have t1 := b1.toNat_lt
  have t2 := b2.toNat_lt
  have t3 := b3.toNat_lt
  obtain ⟨n0, hn0⟩ : ∃ n0, n0 = b0.toNat := ⟨_, rfl⟩
  obtain ⟨n1, hn1⟩ : ∃ n1, n1 = b1.toNat := ⟨_, rfl⟩
  obtain ⟨n2, hn2⟩ : ∃ n2, n2 = b2.toNat := ⟨_, rfl⟩
  obtain ⟨n3, hn3⟩ : ∃ n3, n3 = b3.toNat := ⟨_, rfl⟩
  obtain ⟨A, hA⟩ : ∃ A, A = n1 / 16 := ⟨_, rfl⟩
  obtain ⟨B, hB⟩ : ∃ B, B = n1 % 16 := ⟨_, rfl⟩
  obtain ⟨M, hM⟩ : ∃ M, M = 256 * n2 + n3 := ⟨_, rfl⟩
  rw [← hn0] at t0 ho h8
  rw [← hn1] at t1
  rw [← hn2] at t2 hm
  rw [← hn3] at t3 hm
  rw [← hM] at hm
  obtain ⟨I, hI⟩ : ∃ I : In, I = ⟨n0, A, B, (M : Int)⟩ := ⟨_, rfl⟩
  have hraw : rawI b0.toNat b1.toNat b2.toNat b3.toNat = I := by
    rw [← hn0, ← hn1, ← hn2, ← hn3, hI, hA, hB]
    unfold rawI
    rw [if_neg (fun e => by omega), hM]; simp
  have F := dec_eq b0 b1 b2 b3 I hraw.symm
  clear hraw
  rw [F.1, F.2]
  clear F
  obtain ⟨rv, hrv⟩ : ∃ rv, rv = inV (if okI I = true then I else zeroI) := ⟨_, rfl⟩
  obtain ⟨re, hre⟩ : ∃ re : Int, re = (if okI I = true then 0 else 91) := ⟨_, rfl⟩
  rw [← hrv, ← hre]
  have HRV := Lib.hid (And.intro hrv hre)
  clear hrv hre
  have D : Hid (((⟨#[b0, b1, b2, b3]⟩ : ByteArray)[0]'(by decide : 0 < 4)).toNat = n0 ∧ ((⟨#[b0, b1, b2, b3]⟩ : ByteArray)[1]'(by decide : 1 < 4)).toNat = n1 ∧ ((⟨#[b0, b1, b2, b3]⟩ : ByteArray)[2]'(by decide : 2 < 4)).toNat = n2 ∧ ((⟨#[b0, b1, b2, b3]⟩ : ByteArray)[3]'(by decide : 3 < 4)).toNat = n3) := ⟨hn0.symm, hn1.symm, hn2.symm, hn3.symm⟩
  have KC : Hid (∀ w, Calls Tryd.prog 29 #[.agg #[.int .i64 (n0 : Int), .int .i64 (A : Int), .int .i64 (B : Int), .int .i64 ((M : Int))]] w fun e w' => e = .returned (.int .i64 (ckE I)) ∧ Below w.heap.size w w') := Lib.hid fun w => by
    have := rcheck_any I w
    rw [hI] at this ⊢
    exact this
  have hne : nam (n0 : Int) ≠ [] := (by decide +kernel : ∀ k : Fin 30, nam (k.val : Int) ≠ []) ⟨n0, ho⟩
  obtain ⟨NM, hNM⟩ : ∃ NM, NM = str (nam (n0 : Int)) := ⟨_, rfl⟩
  have e3 : NM.toList.isEmpty = false := by
    rw [ByteArray.toList_eq, hNM, str_list]
    cases h : nam (n0 : Int) with
    | nil => exact absurd h hne
    | cons _ _ => rfl
  have e4 : ¬ NM = ByteArray.empty := fun e => by rw [e, ByteArray.toList_eq] at e3; exact absurd e3 (by decide)
  have KN : Hid (∀ w, Calls Tryd.prog 50 #[.int .i64 (n0 : Int)] w fun e w' => e = .returned (.string NM) ∧ Below w.heap.size w w') := Lib.hid fun w => by rw [hNM]; exact rname_in w n0 (by omega) (by omega)
  have KF : Hid (∀ w, Calls Tryd.prog 51 #[.int .i64 (n0 : Int)] w fun e w' => e = .returned (.string (str (formT (frm (n0 : Int))))) ∧ w' = w) := Lib.hid fun w => rform_any w n0 (by omega) (by omega)
  have KH : Hid (∀ w, Calls Tryd.prog 52 #[.string (str (formT (frm (n0 : Int)))), .int .u8 115] w fun e w' => e = .returned (.bool true) ∧ w' = w) := Lib.hid fun w => by rw [← h8]; exact (rhas_form (frm (n0 : Int)) w).2.2.2
  generalize str (formT (frm (n0 : Int))) = FS at *
  have hmb : ¬ (32767 : Int) < (M : Int) := by omega
  have hIV : Hid (inV I = .agg #[.int .i64 (n0 : Int), .int .i64 (A : Int), .int .i64 (B : Int), .int .i64 ((M : Int))]) := Lib.hid (by rw [hI]; rfl)
  have hE : ckE I = if okI I then 0 else 90 := rfl
  obtain ⟨E, hEE⟩ : ∃ E, E = ckE I := ⟨_, rfl⟩
  rw [← hEE] at KC hE
  have HE := Lib.hid hE
  have Z := Lib.hid (And.intro hA (And.intro hB (And.intro hM (And.intro t1 (And.intro t2 (And.intro t3 t0))))))
  clear hn0 hn1 hn2 hn3 hA hB hI hE hEE hM t0 t1 t2 t3 ho h8 hm hne hNM
  go_enter Tryd.func35, Tryd.ntmps35
  go_wp2
  obtain ⟨w1, hw1⟩ : ∃ w1, w1 = w.alloc (.cells #[.int .i64 0, .int .i64 0, .int .i64 0, .int .i64 0] 30) := ⟨_, rfl⟩
  rw [← hw1]
  have HW := Lib.hid hw1
  clear hw1
  go_region
  obtain ⟨d0, d1, d2, d3⟩ := D.out
  obtain ⟨zA, zB, zM, t1, t2, t3, t0⟩ := Z.out
  rw [d0, d1, d2, d3]
  rw [show wrap64 (n0 : Int) = (n0 : Int) from by unfold wrap64; omega, show wrap64 (n2 : Int) = (n2 : Int) from by unfold wrap64; omega, show wrap64 (n3 : Int) = (n3 : Int) from by unfold wrap64; omega, show wrap64 (256 * (n2 : Int)) = 256 * (n2 : Int) from by unfold wrap64; omega, show wrap64 (256 * (n2 : Int) + (n3 : Int)) = (M : Int) from by unfold wrap64; omega, show (n1 : Int) / 16 % 256 = (A : Int) from by omega, show (n1 : Int) % 16 = (B : Int) from by omega]
  obtain ⟨X, hX⟩ : ∃ X, X = w1.heap.size := ⟨_, rfl⟩
  obtain ⟨W, hW⟩ : ∃ W, W = (w1.alloc (.cells #[.int .i64 (n0 : Int), .int .i64 (A : Int), .int .i64 (B : Int), .int .i64 (M : Int)] 30)).drew := ⟨_, rfl⟩
  rw [← hW, ← hX]
  have D0 : DD w X n0 A B M W := by
    have hw1 := HW.out
    refine ⟨by rw [hW, hX]; exact heap_alloc_last w1 _, ?_, ?_, by rw [hX, hw1]; simp⟩
    · rw [hW, hw1]
      show ((w.alloc _).heap.push _)[w.heap.size]? = _
      rw [Array.getElem?_push, if_neg (by simp), heap_alloc_last]
    · rw [hW, hw1]; exact (((Below.refl _ _).alloc (Nat.le_refl _) _).alloc (by simp) _).drew
  obtain ⟨⟨x0, x1, x2, x3, xf⟩, ⟨y0, y1, y2, y3⟩, z0, z1, z2, z3⟩ := D0.cells
  have HD0 := Lib.hid D0
  clear D0 hW hX HW D Z d0 d1 d2 d3 zA zB zM t0 t1 t2 t3
  by_cases hk : okI I = true
  · have hE0 : E = 0 := by rw [HE.out, if_pos hk]
    have HK := Lib.hid hk
    clear hk HE
    subst hE0
    go_wp2_with (first
      | (go_at_call 50; (with_reducible refine (KN.out _).mono ?_); rintro e w2 ⟨rfl, hb⟩; have D1 := HD0.out.below hb; obtain ⟨⟨x0, x1, x2, x3, xf⟩, ⟨y0, y1, y2, y3⟩, z0, z1, z2, z3⟩ := D1.cells; have HD1 := Lib.hid D1; clear hb D1)
      | (go_at_call 51; (with_reducible refine (KF.out _).mono ?_); rintro e w3 ⟨rfl, rfl⟩)
      | (go_at_call 52; (with_reducible refine (KH.out _).mono ?_); rintro e w3 ⟨rfl, rfl⟩)
      | (go_at_call 29; (with_reducible refine (KC.out _).mono ?_); rintro e w4 ⟨rfl, hb⟩; have D2 := HD1.out.below hb; obtain ⟨⟨x0, x1, x2, x3, xf⟩, ⟨y0, y1, y2, y3⟩, z0, z1, z2, z3⟩ := D2.cells; have HD2 := Lib.hid D2; clear hb D2))
    have hh := set4 HD2.out.r (.int .i64 (n0 : Int)) (.int .i64 (A : Int)) (.int .i64 (B : Int)) (.int .i64 (M : Int))
    exact bodyPost_ret_by (results_ct Tryd.results35 _ _ w.heap.size 30 _ (0, 0) _ _ rfl rfl hh Tryd.underlying30 rfl (by kernel_rfl)) rfl ⟨by rw [HRV.out.1, HRV.out.2, if_pos HK.out, if_pos HK.out, hIV.out]; rfl, below4 HD2.out.b (Nat.le_refl _) _ _ _ _⟩
  · have hE0 : E = 90 := by rw [HE.out, if_neg hk]
    have HK := Lib.hid hk
    clear hk HE
    subst hE0
    go_wp2_with (first
      | (go_at_call 50; (with_reducible refine (KN.out _).mono ?_); rintro e w2 ⟨rfl, hb⟩; have D1 := HD0.out.below hb; obtain ⟨⟨x0, x1, x2, x3, xf⟩, ⟨y0, y1, y2, y3⟩, z0, z1, z2, z3⟩ := D1.cells; have HD1 := Lib.hid D1; clear hb D1)
      | (go_at_call 51; (with_reducible refine (KF.out _).mono ?_); rintro e w3 ⟨rfl, rfl⟩)
      | (go_at_call 52; (with_reducible refine (KH.out _).mono ?_); rintro e w3 ⟨rfl, rfl⟩)
      | (go_at_call 29; (with_reducible refine (KC.out _).mono ?_); rintro e w4 ⟨rfl, hb⟩; have D2 := HD1.out.below hb; obtain ⟨⟨x0, x1, x2, x3, xf⟩, ⟨y0, y1, y2, y3⟩, z0, z1, z2, z3⟩ := D2.cells; have HD2 := Lib.hid D2; clear hb D2))
    have hh := set4 HD2.out.r (.int .i64 0) (.int .i64 0) (.int .i64 0) (.int .i64 0)
    exact bodyPost_ret_by (results_ct Tryd.results35 _ _ w.heap.size 30 _ (0, 0) _ _ rfl rfl hh Tryd.underlying30 rfl (by kernel_rfl)) rfl ⟨by rw [HRV.out.1, HRV.out.2, if_neg HK.out, if_neg HK.out]; rfl, below4 HD2.out.b (Nat.le_refl _) _ _ _ _⟩

end Go.Proofs.YtmclcobklcjmnaaDoor

namespace Go.Proofs.YtmclcobklcjmnaaDoor
open Go.RowKit Go.Maps
set_option linter.unusedVariables false
set_option linter.unusedSimpArgs false

set_option maxRecDepth 100000 in
set_option maxHeartbeats 4000000 in
theorem rdec_bg (b0 b1 b2 b3 : UInt8) (w : World) (ho : b0.toNat < 30) (h8 : hasF (frm (b0.toNat : Int)) 8 = true) (hm : 32768 ≤ 256 * b2.toNat + b3.toNat) :
    Calls Tryd.prog 35 #[.string ⟨#[b0, b1, b2, b3]⟩] w fun e w' => e = .returned (.tuple #[inV (decV [b0, b1, b2, b3]), .int .i64 (decE [b0, b1, b2, b3])]) ∧ Below w.heap.size w w' := by
  have t0 := b0.toNat_lt
  have t1 := b1.toNat_lt
  have t2 := b2.toNat_lt
  have t3 := b3.toNat_lt
  obtain ⟨n0, hn0⟩ : ∃ n0, n0 = b0.toNat := ⟨_, rfl⟩
  obtain ⟨n1, hn1⟩ : ∃ n1, n1 = b1.toNat := ⟨_, rfl⟩
  obtain ⟨n2, hn2⟩ : ∃ n2, n2 = b2.toNat := ⟨_, rfl⟩
  obtain ⟨n3, hn3⟩ : ∃ n3, n3 = b3.toNat := ⟨_, rfl⟩
  obtain ⟨A, hA⟩ : ∃ A, A = n1 / 16 := ⟨_, rfl⟩
  obtain ⟨B, hB⟩ : ∃ B, B = n1 % 16 := ⟨_, rfl⟩
  obtain ⟨M, hM⟩ : ∃ M, M = 256 * n2 + n3 := ⟨_, rfl⟩
  rw [← hn0] at t0 ho h8
  rw [← hn1] at t1
  rw [← hn2] at t2 hm
  rw [← hn3] at t3 hm
  rw [← hM] at hm
  obtain ⟨I, hI⟩ : ∃ I : In, I = ⟨n0, A, B, (M : Int) - 65536⟩ := ⟨_, rfl⟩
  have hraw : rawI b0.toNat b1.toNat b2.toNat b3.toNat = I := by
    rw [← hn0, ← hn1, ← hn2, ← hn3, hI, hA, hB]
    unfold rawI
    rw [if_pos ⟨h8, by omega⟩, hM]; simp
  have F := dec_eq b0 b1 b2 b3 I hraw.symm
  clear hraw
  rw [F.1, F.2]
  clear F
  obtain ⟨rv, hrv⟩ : ∃ rv, rv = inV (if okI I = true then I else zeroI) := ⟨_, rfl⟩
  obtain ⟨re, hre⟩ : ∃ re : Int, re = (if okI I = true then 0 else 91) := ⟨_, rfl⟩
  rw [← hrv, ← hre]
  have HRV := Lib.hid (And.intro hrv hre)
  clear hrv hre
  have D : Hid (((⟨#[b0, b1, b2, b3]⟩ : ByteArray)[0]'(by decide : 0 < 4)).toNat = n0 ∧ ((⟨#[b0, b1, b2, b3]⟩ : ByteArray)[1]'(by decide : 1 < 4)).toNat = n1 ∧ ((⟨#[b0, b1, b2, b3]⟩ : ByteArray)[2]'(by decide : 2 < 4)).toNat = n2 ∧ ((⟨#[b0, b1, b2, b3]⟩ : ByteArray)[3]'(by decide : 3 < 4)).toNat = n3) := ⟨hn0.symm, hn1.symm, hn2.symm, hn3.symm⟩
  have KC : Hid (∀ w, Calls Tryd.prog 29 #[.agg #[.int .i64 (n0 : Int), .int .i64 (A : Int), .int .i64 (B : Int), .int .i64 ((M : Int) - 65536)]] w fun e w' => e = .returned (.int .i64 (ckE I)) ∧ Below w.heap.size w w') := Lib.hid fun w => by
    have := rcheck_any I w
    rw [hI] at this ⊢
    exact this
  have hne : nam (n0 : Int) ≠ [] := (by decide +kernel : ∀ k : Fin 30, nam (k.val : Int) ≠ []) ⟨n0, ho⟩
  obtain ⟨NM, hNM⟩ : ∃ NM, NM = str (nam (n0 : Int)) := ⟨_, rfl⟩
  have e3 : NM.toList.isEmpty = false := by
    rw [ByteArray.toList_eq, hNM, str_list]
    cases h : nam (n0 : Int) with
    | nil => exact absurd h hne
    | cons _ _ => rfl
  have e4 : ¬ NM = ByteArray.empty := fun e => by rw [e, ByteArray.toList_eq] at e3; exact absurd e3 (by decide)
  have KN : Hid (∀ w, Calls Tryd.prog 50 #[.int .i64 (n0 : Int)] w fun e w' => e = .returned (.string NM) ∧ Below w.heap.size w w') := Lib.hid fun w => by rw [hNM]; exact rname_in w n0 (by omega) (by omega)
  have KF : Hid (∀ w, Calls Tryd.prog 51 #[.int .i64 (n0 : Int)] w fun e w' => e = .returned (.string (str (formT (frm (n0 : Int))))) ∧ w' = w) := Lib.hid fun w => rform_any w n0 (by omega) (by omega)
  have KH : Hid (∀ w, Calls Tryd.prog 52 #[.string (str (formT (frm (n0 : Int)))), .int .u8 115] w fun e w' => e = .returned (.bool true) ∧ w' = w) := Lib.hid fun w => by rw [← h8]; exact (rhas_form (frm (n0 : Int)) w).2.2.2
  generalize str (formT (frm (n0 : Int))) = FS at *
  have hmb : (32767 : Int) < (M : Int) := by omega
  have hms : ¬ (M : Int) ≤ 32767 := by omega
  have hwM : IntKind.i64.wrap ((M : Int) - 65536) = (M : Int) - 65536 := IntWalk.i64_in _ (by omega)
  have hIV : Hid (inV I = .agg #[.int .i64 (n0 : Int), .int .i64 (A : Int), .int .i64 (B : Int), .int .i64 ((M : Int) - 65536)]) := Lib.hid (by rw [hI]; rfl)
  have hE : ckE I = if okI I then 0 else 90 := rfl
  obtain ⟨E, hEE⟩ : ∃ E, E = ckE I := ⟨_, rfl⟩
  rw [← hEE] at KC hE
  have HE := Lib.hid hE
  have Z := Lib.hid (And.intro hA (And.intro hB (And.intro hM (And.intro t1 (And.intro t2 (And.intro t3 t0))))))
  clear hn0 hn1 hn2 hn3 hA hB hI hE hEE hM t0 t1 t2 t3 ho h8 hm hne hNM
  go_enter Tryd.func35, Tryd.ntmps35
  go_wp2
  obtain ⟨w1, hw1⟩ : ∃ w1, w1 = w.alloc (.cells #[.int .i64 0, .int .i64 0, .int .i64 0, .int .i64 0] 30) := ⟨_, rfl⟩
  rw [← hw1]
  have HW := Lib.hid hw1
  clear hw1
  go_region
  obtain ⟨d0, d1, d2, d3⟩ := D.out
  obtain ⟨zA, zB, zM, t1, t2, t3, t0⟩ := Z.out
  rw [d0, d1, d2, d3]
  rw [show wrap64 (n0 : Int) = (n0 : Int) from by unfold wrap64; omega, show wrap64 (n2 : Int) = (n2 : Int) from by unfold wrap64; omega, show wrap64 (n3 : Int) = (n3 : Int) from by unfold wrap64; omega, show wrap64 (256 * (n2 : Int)) = 256 * (n2 : Int) from by unfold wrap64; omega, show wrap64 (256 * (n2 : Int) + (n3 : Int)) = (M : Int) from by unfold wrap64; omega, show (n1 : Int) / 16 % 256 = (A : Int) from by omega, show (n1 : Int) % 16 = (B : Int) from by omega]
  obtain ⟨X, hX⟩ : ∃ X, X = w1.heap.size := ⟨_, rfl⟩
  obtain ⟨W, hW⟩ : ∃ W, W = (w1.alloc (.cells #[.int .i64 (n0 : Int), .int .i64 (A : Int), .int .i64 (B : Int), .int .i64 (M : Int)] 30)).drew := ⟨_, rfl⟩
  rw [← hW, ← hX]
  have D0 : DD w X n0 A B M W := by
    have hw1 := HW.out
    refine ⟨by rw [hW, hX]; exact heap_alloc_last w1 _, ?_, ?_, by rw [hX, hw1]; simp⟩
    · rw [hW, hw1]
      show ((w.alloc _).heap.push _)[w.heap.size]? = _
      rw [Array.getElem?_push, if_neg (by simp), heap_alloc_last]
    · rw [hW, hw1]; exact (((Below.refl _ _).alloc (Nat.le_refl _) _).alloc (by simp) _).drew
  obtain ⟨⟨x0, x1, x2, x3, xf⟩, ⟨y0, y1, y2, y3⟩, z0, z1, z2, z3⟩ := D0.cells
  have HD0 := Lib.hid D0
  clear D0 hW hX HW D Z d0 d1 d2 d3 zA zB zM t0 t1 t2 t3
  by_cases hk : okI I = true
  · have hE0 : E = 0 := by rw [HE.out, if_pos hk]
    have HK := Lib.hid hk
    clear hk HE
    subst hE0
    go_wp2_with (first
      | (go_at_call 50; (with_reducible refine (KN.out _).mono ?_); rintro e w2 ⟨rfl, hb⟩; have D1 := HD0.out.below hb; obtain ⟨⟨x0, x1, x2, x3, xf⟩, ⟨y0, y1, y2, y3⟩, z0, z1, z2, z3⟩ := D1.cells; have HD1 := Lib.hid D1; clear hb D1)
      | (go_at_call 51; (with_reducible refine (KF.out _).mono ?_); rintro e w3 ⟨rfl, rfl⟩)
      | (go_at_call 52; (with_reducible refine (KH.out _).mono ?_); rintro e w3 ⟨rfl, rfl⟩)
      | (go_at_call 29; (with_reducible refine (KC.out _).mono ?_); rintro e w4 ⟨rfl, hb⟩; have D2 := (HD1.out.set ((M : Int) - 65536)).below hb; obtain ⟨⟨x0, x1, x2, x3, xf⟩, ⟨y0, y1, y2, y3⟩, z0, z1, z2, z3⟩ := D2.cells; have HD2 := Lib.hid D2; clear hb D2))
    have hh := set4 HD2.out.r (.int .i64 (n0 : Int)) (.int .i64 (A : Int)) (.int .i64 (B : Int)) (.int .i64 ((M : Int) - 65536))
    exact bodyPost_ret_by (results_ct Tryd.results35 _ _ w.heap.size 30 _ (0, 0) _ _ rfl rfl hh Tryd.underlying30 rfl (by kernel_rfl)) rfl ⟨by rw [HRV.out.1, HRV.out.2, if_pos HK.out, if_pos HK.out, hIV.out]; rfl, below4 HD2.out.b (Nat.le_refl _) _ _ _ _⟩
  · have hE0 : E = 90 := by rw [HE.out, if_neg hk]
    have HK := Lib.hid hk
    clear hk HE
    subst hE0
    go_wp2_with (first
      | (go_at_call 50; (with_reducible refine (KN.out _).mono ?_); rintro e w2 ⟨rfl, hb⟩; have D1 := HD0.out.below hb; obtain ⟨⟨x0, x1, x2, x3, xf⟩, ⟨y0, y1, y2, y3⟩, z0, z1, z2, z3⟩ := D1.cells; have HD1 := Lib.hid D1; clear hb D1)
      | (go_at_call 51; (with_reducible refine (KF.out _).mono ?_); rintro e w3 ⟨rfl, rfl⟩)
      | (go_at_call 52; (with_reducible refine (KH.out _).mono ?_); rintro e w3 ⟨rfl, rfl⟩)
      | (go_at_call 29; (with_reducible refine (KC.out _).mono ?_); rintro e w4 ⟨rfl, hb⟩; have D2 := (HD1.out.set ((M : Int) - 65536)).below hb; obtain ⟨⟨x0, x1, x2, x3, xf⟩, ⟨y0, y1, y2, y3⟩, z0, z1, z2, z3⟩ := D2.cells; have HD2 := Lib.hid D2; clear hb D2))
    have hh := set4 HD2.out.r (.int .i64 0) (.int .i64 0) (.int .i64 0) (.int .i64 0)
    exact bodyPost_ret_by (results_ct Tryd.results35 _ _ w.heap.size 30 _ (0, 0) _ _ rfl rfl hh Tryd.underlying30 rfl (by kernel_rfl)) rfl ⟨by rw [HRV.out.1, HRV.out.2, if_neg HK.out, if_neg HK.out]; rfl, below4 HD2.out.b (Nat.le_refl _) _ _ _ _⟩

end Go.Proofs.YtmclcobklcjmnaaDoor

namespace Go.Proofs.YtmclcobklcjmnaaDoor
open Go.RowKit Go.Maps
set_option linter.unusedVariables false

theorem rdec_any (s : ByteArray) (hs : s.size = 4) (w : World) : Calls Tryd.prog 35 #[.string s] w fun e w' => e = .returned (.tuple #[inV (decV s.data.toList), .int .i64 (decE s.data.toList)]) ∧ Below w.heap.size w w' := by
  obtain ⟨b0, b1, b2, b3, rfl⟩ := bytes4 s hs
  by_cases ho : b0.toNat < 30
  · by_cases h8 : hasF (frm (b0.toNat : Int)) 8 = true
    · by_cases hm : 32768 ≤ 256 * b2.toNat + b3.toNat
      · exact rdec_bg b0 b1 b2 b3 w ho h8 hm
      · exact rdec_sm b0 b1 b2 b3 w ho h8 (by omega)
    · exact rdec_n8 b0 b1 b2 b3 w ho (by simpa using h8)
  · exact rdec_out b0 b1 b2 b3 w (by omega)
end Go.Proofs.YtmclcobklcjmnaaDoor

