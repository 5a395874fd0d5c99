/- A text of an instruction that may be: the document's own answer. Conditions: none. -/
import Derived.Test.YtmclcobklcjmnaaDoorRfb
namespace Go.Proofs.YtmclcobklcjmnaaDoor
open Go.RowKit Go.Maps
set_option linter.unusedVariables false
set_option linter.unusedSimpArgs false

theorem rdig_any (n : Int) (h0 : -4294967296 < n) (h1 : n < 4294967296) (w : World) : Calls Tryd.prog 37 #[.int .i64 n] w fun e w' => e = .returned (.string (str (Lib.itoa n))) ∧ Below w.heap.size w w' := by
  unfold Lib.itoa
  by_cases h : n < 0
  · rw [if_pos h]
    have := rdig_neg n.natAbs (by omega) (by omega) w
    rwa [show -((n.natAbs : Nat) : Int) = n from by omega] at this
  · rw [if_neg h]
    have := rdig_pos n.toNat (by omega) w
    rwa [show ((n.toNat : Nat) : Int) = n from by omega] at this
/-- what a letter of a form makes of an instruction -/
def segT (i : In) (x : UInt8) : Bs := if x = 97 then regS i.a else if x = 98 then regS i.b else [32] ++ Lib.itoa i.imm
theorem frm_apart (op : Int) : ¬ (hasF (frm op) 4 = true ∧ hasF (frm op) 8 = true) := by
  have h : ∀ n, ¬ (hasF (frms.getD n 0) 4 = true ∧ hasF (frms.getD n 0) 8 = true) := by
    intro n
    by_cases h : n < 30
    · exact (by decide +kernel : ∀ k : Fin 30, ¬ (hasF (frms.getD k.val 0) 4 = true ∧ hasF (frms.getD k.val 0) 8 = true)) ⟨n, h⟩
    · rw [List.getD_eq_getElem?_getD, List.getElem?_eq_none (by simpa [frms] using h)]
      decide
  exact h _
theorem has_twelve (f : Nat) (hf : f < 16) : hasF f 12 = (hasF f 4 || hasF f 8) := (by decide : ∀ k : Fin 16, hasF k.val 12 = (hasF k.val 4 || hasF k.val 8)) ⟨f, hf⟩
theorem prn_form (i : In) : prnI i = nam i.op ++ (formT (frm i.op)).flatMap (segT i) := by
  have h1 := frm_apart i.op
  have h2 := has_twelve _ (frm_lt i.op)
  unfold prnI formT
  rw [h2]
  cases q1 : hasF (frm i.op) 1 <;> cases q2 : hasF (frm i.op) 2 <;> cases q4 : hasF (frm i.op) 4 <;> cases q8 : hasF (frm i.op) 8 <;> simp_all [segT]
set_option maxRecDepth 20000 in
set_option maxHeartbeats 8000000 in
theorem rtext_any (i : In) (hok : okI i = true) (w : World) : Calls Tryd.prog 36 #[inV i, .string (ByteArray.mk #[])] w fun e w' => e = .returned (.string (str (prnI i))) ∧ Below w.heap.size w w' := by
  have hpf := prn_form i
  obtain ⟨op, a, b, imm⟩ := i
  rw [okI_iff] at hok
  obtain ⟨⟨h0, h1⟩, hfit⟩ := hok
  dsimp only at h0 h1 hfit
  have hir := imm_range hfit
  have hft := (fits_iff _ _).1 hfit
  have hra := mayN_range hft.1
  have hrb := mayN_range hft.2.1
  dsimp only at hir hra hrb
  unfold inV
  dsimp only
  obtain ⟨X, hX⟩ : ∃ X, X = w.heap.size := ⟨_, rfl⟩
  obtain ⟨w0, hw0⟩ : ∃ w0, w0 = w.alloc (.cells #[.int .i64 op, .int .i64 a, .int .i64 b, .int .i64 imm] 30) := ⟨_, rfl⟩
  have hbel0 : Below X w w0 := by rw [hw0, hX]; exact (Below.refl _ w).alloc (Nat.le_refl _) _
  have hrow0 : w0.heap[X]? = some (.cells #[.int .i64 op, .int .i64 a, .int .i64 b, .int .i64 imm] 30) := by rw [hw0, hX]; exact World.alloc_heap_new w _
  have cell : Hid (∀ W : World, Below w0.heap.size w0 W → W.cell? ⟨X, 0, none⟩ = some (.int .i64 op) ∧ W.cell? ⟨X, 1, none⟩ = some (.int .i64 a) ∧ W.cell? ⟨X, 2, none⟩ = some (.int .i64 b) ∧ W.cell? ⟨X, 3, none⟩ = some (.int .i64 imm)) := Lib.hid fun W hW => by
    have h : W.heap[X]? = some (.cells #[.int .i64 op, .int .i64 a, .int .i64 b, .int .i64 imm] 30) := (hW.block X (block_lt hrow0)).trans hrow0
    exact ⟨cell_of_row W X 0 _ _ _ h, cell_of_row W X 1 _ _ _ h, cell_of_row W X 2 _ _ _ h, cell_of_row W X 3 _ _ _ h⟩
  obtain ⟨c00, c01, c02, c03⟩ := cell.out w0 (Below.refl _ _)
  have HX : Hid (X = w.heap.size ∧ Below X w w0 ∧ X ≤ w0.heap.size) := Lib.hid ⟨hX, hbel0, Nat.le_of_lt (block_lt hrow0)⟩
  have KN := Lib.hid (fun W => rname_in W op h0 h1)
  have KF := Lib.hid (fun W => rform_any W op h0 h1)
  have KA := Lib.hid (fun W => rdig_any a (by omega) (by omega) W)
  have KB := Lib.hid (fun W => rdig_any b (by omega) (by omega) W)
  have KC := Lib.hid (fun W => rdig_any imm (by omega) (by omega) W)
  have lA := itoa_short a (by omega) (by omega)
  have lB := itoa_short b (by omega) (by omega)
  have lC := itoa_short imm (by omega) (by omega)
  have lN : (nam op).length ≤ 5 := by
    unfold nam
    rw [List.getD_eq_getElem?_getD]
    cases e : nams[op.toNat]? with
    | none => exact Nat.zero_le _
    | some l => exact nam_short l (List.mem_of_getElem? e)
  obtain ⟨f, hf⟩ : ∃ f, f = frm op := ⟨_, rfl⟩
  rw [← hf] at KF
  dsimp only at hpf
  rw [← hf] at hpf
  obtain ⟨F, hF⟩ : ∃ F, F = formT f := ⟨_, rfl⟩
  rw [← hF] at KF hpf
  have hFl : F.length ≤ 4 := by rw [hF]; exact form_len f
  obtain ⟨FS, hFS⟩ : ∃ FS, FS = str F := ⟨_, rfl⟩
  rw [← hFS] at KF
  have hFSl : FS.data.toList = F := by rw [hFS, str_list]
  have hFSs : FS.size = F.length := by rw [hFS, str_size]
  have hseg : ∀ k, ((F.take k).flatMap (segT ⟨op, a, b, imm⟩)).length ≤ 8 * k := by
    intro k
    induction k with
    | zero => simp
    | succ k ih =>
      by_cases hk : k < F.length
      · rw [List.take_succ_eq_append_getElem hk, List.flatMap_append, List.length_append]
        have : ((([F[k]] : Bs)).flatMap (segT ⟨op, a, b, imm⟩)).length ≤ 8 := by
          simp only [List.flatMap_cons, List.flatMap_nil, List.append_nil]
          unfold segT regS
          split
          · simp; omega
          · split
            · simp; omega
            · simp; omega
        omega
      · rw [List.take_of_length_le (by omega)] at ih ⊢
        omega
  have HP : Hid (prnI ⟨op, a, b, imm⟩ = nam op ++ F.flatMap (segT ⟨op, a, b, imm⟩)) := Lib.hid hpf
  obtain ⟨Z, hZ⟩ : ∃ Z, Z = prnI ⟨op, a, b, imm⟩ := ⟨_, rfl⟩
  rw [← hZ] at HP ⊢
  clear hbel0 hrow0 hf hF hFS hfit hft hpf h0 h1 hZ
  go_enter Tryd.func36, Tryd.ntmps36
  go_wp2_with (fail)
  rw [← hw0, ← hX]
  clear hw0 hX
  refine (KN.out _).mono ?_
  rintro e w1 ⟨rfl, hb1⟩
  obtain ⟨c10, c11, c12, c13⟩ := cell.out w1 hb1
  have HB1 : Hid (Below w0.heap.size w0 w1) := Lib.hid hb1
  clear hb1
  go_wp2_with (fail)
  refine (KF.out _).mono ?_
  rintro e w2 ⟨rfl, rfl⟩
  clear c00 c01 c02 c03 c10 c11 c12 c13
  go_wp2_with (fail)
  go_loopw [5, 7] (fun a5 a7 wr => ∃ k : Nat, a7 = .int .i64 (k : Int) ∧ k ≤ F.length ∧ a5 = .string (str (nam op ++ (F.take k).flatMap (segT ⟨op, a, b, imm⟩))) ∧ Below w0.heap.size w0 wr) (fun _ a7 _ => F.length - (intOf a7).toNat)
  case atStart => exact ⟨0, rfl, Nat.zero_le _, by simp, HB1.out⟩
  case round =>
    obtain ⟨k, rfl, hk, rfl, hb⟩ := hrel
    have hsk := hseg k
    by_cases hkf : k < F.length
    · have hks : k < FS.size := by omega
      have hkI : (k : Int) < (FS.size : Int) := by omega
      have hk0 : (0 : Int) ≤ (k : Int) := by omega
      have q1 : IntKind.i64.wrap ((k : Int) + 1) = (k : Int) + 1 := IntWalk.i64_in _ (by omega)
      have hlt : k < FS.data.toList.length := by rw [hFSl]; exact hkf
      have hx : FS[k] = F[k] := by
        have e1 : FS.data.toList[k]? = some F[k] := by rw [hFSl, List.getElem?_eq_getElem hkf]
        rw [List.getElem?_eq_getElem hlt] at e1
        have := Option.some.inj e1
        simpa [ByteArray.getElem_eq_getElem_data] using this
      obtain ⟨P, hP⟩ : ∃ P, P = nam op ++ (F.take k).flatMap (segT ⟨op, a, b, imm⟩) := ⟨_, rfl⟩
      have hPl : P.length ≤ 37 := by rw [hP, List.length_append]; omega
      have hnx : nam op ++ (F.take (k + 1)).flatMap (segT ⟨op, a, b, imm⟩) = P ++ segT ⟨op, a, b, imm⟩ F[k] := by
        rw [List.take_succ_eq_append_getElem hkf, List.flatMap_append, hP, List.append_assoc]
        simp
      have hPs : (str P).size = P.length := str_size P
      rw [← hP]
      obtain ⟨d0, d1, d2, d3⟩ := cell.out wr hb
      have HB : Hid (Below w0.heap.size w0 wr ∧ w0.heap.size ≤ wr.heap.size) := Lib.hid ⟨hb, hb.size⟩
      have HNX := Lib.hid hnx
      clear hb hnx hsk hP
      by_cases h97 : F[k] = 97
      · have x97 : ((FS[k].toNat : Int) == 97) = true := by rw [hx, h97]; rfl
        obtain ⟨D, hD⟩ : ∃ D, D = str (Lib.itoa a) := ⟨_, rfl⟩
        have hDs : D.size ≤ 6 := by rw [hD, str_size]; exact lA
        have hst : str P ++ (ByteArray.mk #[32, 114] ++ D) = str (P ++ segT ⟨op, a, b, imm⟩ F[k]) := by
          rw [hD, show segT ⟨op, a, b, imm⟩ F[k] = regS a from by unfold segT; rw [if_pos h97]]
          apply ByteArray.ext
          apply Array.ext'
          simp [str, regS]
        have z0 : (ByteArray.mk #[32, 114]).size = 2 := rfl
        have z1 : ¬ 281474976710656 < 2 + D.size := by omega
        have z2 : (ByteArray.mk #[32, 114] ++ D).size = 2 + D.size := by rw [ByteArray.size_append]; rfl
        have z3 : ¬ 281474976710656 < P.length + (2 + D.size) := by omega
        have HST : Hid (str P ++ (ByteArray.mk #[32, 114] ++ D) = str (nam op ++ (F.take (k + 1)).flatMap (segT ⟨op, a, b, imm⟩))) := Lib.hid (by rw [hst, HNX.out])
        have K := KA
        rw [← hD] at K
        clear hst hD hx
        go_wp2_with (fail)
        refine (K.out _).mono ?_
        rintro e w5 ⟨rfl, hb5⟩
        have HB5 : Hid (Below w0.heap.size w0 w5) := Lib.hid (HB.out.1.trans (hb5.mono HB.out.2))
        clear hb5
        go_wp2
        go_roundw
        case rel => exact ⟨k + 1, by first | rfl | (exact congrArg (Value.int .i64) (by omega)), by omega, by first | exact congrArg Value.string HST.out | (simp only [HST.out]), HB5.out⟩
        case measure => simp [intOf]; omega
      · by_cases h98 : F[k] = 98
        · have x97 : ((FS[k].toNat : Int) == 97) = false := by rw [hx, h98]; rfl
          have x98 : ((FS[k].toNat : Int) == 98) = true := by rw [hx, h98]; rfl
          obtain ⟨D, hD⟩ : ∃ D, D = str (Lib.itoa b) := ⟨_, rfl⟩
          have hDs : D.size ≤ 6 := by rw [hD, str_size]; exact lB
          have hst : str P ++ (ByteArray.mk #[32, 114] ++ D) = str (P ++ segT ⟨op, a, b, imm⟩ F[k]) := by
            rw [hD, show segT ⟨op, a, b, imm⟩ F[k] = regS b from by unfold segT; rw [if_neg h97, if_pos h98]]
            apply ByteArray.ext
            apply Array.ext'
            simp [str, regS]
          have z0 : (ByteArray.mk #[32, 114]).size = 2 := rfl
          have z1 : ¬ 281474976710656 < 2 + D.size := by omega
          have z2 : (ByteArray.mk #[32, 114] ++ D).size = 2 + D.size := by rw [ByteArray.size_append]; rfl
          have z3 : ¬ 281474976710656 < P.length + (2 + D.size) := by omega
          have HST : Hid (str P ++ (ByteArray.mk #[32, 114] ++ D) = str (nam op ++ (F.take (k + 1)).flatMap (segT ⟨op, a, b, imm⟩))) := Lib.hid (by rw [hst, HNX.out])
          have K := KB
          rw [← hD] at K
          clear hst hD hx
          go_wp2_with (fail)
          refine (K.out _).mono ?_
          rintro e w5 ⟨rfl, hb5⟩
          have HB5 : Hid (Below w0.heap.size w0 w5) := Lib.hid (HB.out.1.trans (hb5.mono HB.out.2))
          clear hb5
          go_wp2
          go_roundw
          case rel => exact ⟨k + 1, by first | rfl | (exact congrArg (Value.int .i64) (by omega)), by omega, by first | exact congrArg Value.string HST.out | (simp only [HST.out]), HB5.out⟩
          case measure => simp [intOf]; omega
        · have n97 : ¬ F[k].toNat = 97 := fun e => h97 (UInt8.toNat_inj.1 e)
          have n98 : ¬ F[k].toNat = 98 := fun e => h98 (UInt8.toNat_inj.1 e)
          have x97 : ((FS[k].toNat : Int) == 97) = false := by rw [hx]; simp; omega
          have x98 : ((FS[k].toNat : Int) == 98) = false := by rw [hx]; simp; omega
          obtain ⟨D, hD⟩ : ∃ D, D = str (Lib.itoa imm) := ⟨_, rfl⟩
          have hDs : D.size ≤ 6 := by rw [hD, str_size]; exact lC
          have hst : str P ++ (ByteArray.mk #[32] ++ D) = str (P ++ segT ⟨op, a, b, imm⟩ F[k]) := by
            rw [hD, show segT ⟨op, a, b, imm⟩ F[k] = [32] ++ Lib.itoa imm from by unfold segT; rw [if_neg h97, if_neg h98]]
            apply ByteArray.ext
            apply Array.ext'
            simp [str, regS]
          have z0 : (ByteArray.mk #[32]).size = 1 := rfl
          have z1 : ¬ 281474976710656 < 1 + D.size := by omega
          have z2 : (ByteArray.mk #[32] ++ D).size = 1 + D.size := by rw [ByteArray.size_append]; rfl
          have z3 : ¬ 281474976710656 < P.length + (1 + D.size) := by omega
          have HST : Hid (str P ++ (ByteArray.mk #[32] ++ D) = str (nam op ++ (F.take (k + 1)).flatMap (segT ⟨op, a, b, imm⟩))) := Lib.hid (by rw [hst, HNX.out])
          have K := KC
          rw [← hD] at K
          clear hst hD hx
          go_wp2_with (fail)
          refine (K.out _).mono ?_
          rintro e w5 ⟨rfl, hb5⟩
          have HB5 : Hid (Below w0.heap.size w0 w5) := Lib.hid (HB.out.1.trans (hb5.mono HB.out.2))
          clear hb5
          go_wp2
          go_roundw
          case rel => exact ⟨k + 1, by first | rfl | (exact congrArg (Value.int .i64) (by omega)), by omega, by first | exact congrArg Value.string HST.out | (simp only [HST.out]), HB5.out⟩
          case measure => simp [intOf]; omega
    · obtain rfl : k = F.length := by omega
      have hkI : ¬ (F.length : Int) < (FS.size : Int) := by omega
      have hres : nam op ++ (F.take F.length).flatMap (segT ⟨op, a, b, imm⟩) = Z := by rw [HP.out, List.take_length]
      have HB : Hid (Below w0.heap.size w0 wr) := Lib.hid hb
      rw [hres]
      clear hb
      go_wp2
      go_ret
      exact ⟨rfl, by rw [← HX.out.1]; exact HX.out.2.1.trans (HB.out.mono HX.out.2.2)⟩
end Go.Proofs.YtmclcobklcjmnaaDoor
