/- The document's Parse: what it returns. Conditions: the sector is no longer than a machine holds. -/
import Derived.Test.YtnecbbflcpngcaaRby
namespace Go.Proofs.Ytnecbbflcpngcaa
open Go.RowKit Go.Maps
set_option maxRecDepth 20000
set_option linter.unusedVariables false

set_option maxHeartbeats 1600000 in
theorem rparse_any (s : ByteArray) (w : World) (hs : s.size ≤ 281474976710656) :
    Calls Try.prog 13 #[.string s] w fun e w' => e = .returned (.tuple #[.string (ofL (parD s.data.toList)), .int .i64 (parN s.data.toList), .int .i64 (parE s.data.toList)]) ∧ Below w.heap.size w w' := by
  have hl : s.data.toList.length = s.size := baList s
  by_cases a : s.size = 128
  · obtain ⟨D, hD⟩ : ∃ D, D = s.extract 0 116 := ⟨_, rfl⟩
    obtain ⟨C, hC⟩ : ∃ C, C = s.extract 116 120 := ⟨_, rfl⟩
    obtain ⟨E, hE⟩ : ∃ E, E = s.extract 120 128 := ⟨_, rfl⟩
    have hDl : D.data.toList = s.data.toList.take 116 := by rw [hD, bsub_list]; simp
    have hCl : C.data.toList = (s.data.toList.drop 116).take 4 := by rw [hC, bsub_list]
    have hEl : E.data.toList = s.data.toList.drop 120 := by rw [hE, bsub_list, List.take_of_length_le (by rw [List.length_drop, hl, a]; decide)]
    have hDs : D.size = 116 := by rw [← baList, hDl, List.length_take, hl, a]; rfl
    have hCs : C.size = 4 := by rw [← baList, hCl, List.length_take, List.length_drop, hl, a]; rfl
    have hEs : E.size = 8 := by rw [← baList, hEl, List.length_drop, hl, a]
    obtain ⟨vc, hvc⟩ : ∃ v : Int, v = ((Cd.be C.data.toList : Nat) : Int) := ⟨_, rfl⟩
    obtain ⟨ve, hve⟩ : ∃ v : Int, v = ((Cd.be E.data.toList : Nat) : Int) := ⟨_, rfl⟩
    obtain ⟨vs, hvs⟩ : ∃ v : Int, v = ((Cd.crc D.data.toList : Nat) : Int) := ⟨_, rfl⟩
    have kc : Hid (∀ W, Calls Try.prog 49 #[.string (s.extract 116 120)] W fun e w' => e = .returned (.int .u64 vc) ∧ W = w') := fun W => by
      have := value_any C W (by omega)
      rw [hvc, ← hC]; exact this
    have ke : Hid (∀ W, Calls Try.prog 49 #[.string (s.extract 120 128)] W fun e w' => e = .returned (.int .u64 ve) ∧ W = w') := fun W => by
      have := value_any E W (by omega)
      rw [hve, ← hE]; exact this
    have ks : Hid (∀ W, Calls Try.prog 45 #[.string (s.extract 0 116)] W fun e w' => e = .returned (.int .u32 vs) ∧ W = w') := fun W => by
      have := Cd.rsum32_any D W (by rw [hDs]; unfold maxLen; omega)
      rw [hvs, ← hD]; exact this
    have hvs1 : 0 ≤ vs := by omega
    have hvs2 : vs < 4294967296 := by have := Cd.crc_lt D.data.toList; omega
    have hve1 : 0 ≤ ve := by omega
    have hu : IntKind.u64.wrap vs = vs := by rw [IntKind.wrap_u64]; omega
    have q1 : vc = vs ↔ (s.data.toList.drop 116).take 4 = sumB (s.data.toList.take 116) := by
      rw [← hCl, ← hDl, sum_be _ _ (by rw [baList]; exact hCs)]; omega
    have q2 : stOk (Cd.numS (s.data.toList.drop 120)) ↔ ve ≤ 4611686018427387904 := by
      rw [← hEl, numS_be _ (by rw [baList]; exact hEs)]; omega
    have hL : Hid (s.data.toList.length = 128) := by unfold Hid; omega
    by_cases q : vc = vs
    · by_cases r : ve ≤ 4611686018427387904
      · have e : parE s.data.toList = 0 := by
          unfold parE; rw [if_neg (by have := hL.out; omega), if_pos ⟨q1.mp q, q2.mpr r⟩]
        have e2 : ofL (parD s.data.toList) = s.extract 0 116 := by unfold parD; rw [if_pos e, ← hDl, ofL_of, hD]
        have e3 : parN s.data.toList = ve := by
          unfold parN; rw [if_pos e, ← hEl, numS_val _ (by rw [← hve]; exact r), hve]
        rw [e, e2, e3]
        have hgt : decide (4611686018427387904 < ve) = false := decide_eq_false (by omega)
        have hw : IntKind.i64.wrap ve = ve := by rw [IntKind.wrap_i64]; omega
        subst q
        clear hvs hvc hve q1 q2 e e2 e3 hDl hCl hEl hD hC hE hl hs
        go_enter Try.func13, Try.ntmps13
        go_wp2
        go_region_held3 (fun _ => True) (exact trivial) (first
          | (go_at_call 49; (with_reducible refine (kc.out _).mono ?_); rintro e w1 ⟨rfl, rfl⟩)
          | (go_at_call 49; (with_reducible refine (ke.out _).mono ?_); rintro e w1 ⟨rfl, rfl⟩)
          | (go_at_call 45; (with_reducible refine (ks.out _).mono ?_); rintro e w1 ⟨rfl, rfl⟩))
        go_wp2
        go_region_held3 (fun _ => True) (exact trivial) (first
          | (go_at_call 49; (with_reducible refine (ke.out _).mono ?_); rintro e w1 ⟨rfl, rfl⟩))
        go_wp2
        go_ret3
        exact ⟨rfl, by first | exact Below.refl _ w | exact (Below.refl _ w).drew | exact (Below.refl _ w).drew.drew⟩
      · have e : parE s.data.toList = 153 := by
          unfold parE; rw [if_neg (by have := hL.out; omega), if_neg (fun z => r (q2.mp z.2))]
        have e2 : parD s.data.toList = [] := by unfold parD; rw [e]; rfl
        have e3 : parN s.data.toList = 0 := by unfold parN; rw [e]; rfl
        rw [e, e2, e3]
        have hgt : decide (4611686018427387904 < ve) = true := decide_eq_true (by omega)
        subst q
        clear hvs hvc hve q1 q2 e e2 e3 hDl hCl hEl hD hC hE hl hs
        go_enter Try.func13, Try.ntmps13
        go_wp2
        go_region_held3 (fun _ => True) (exact trivial) (first
          | (go_at_call 49; (with_reducible refine (kc.out _).mono ?_); rintro e w1 ⟨rfl, rfl⟩)
          | (go_at_call 49; (with_reducible refine (ke.out _).mono ?_); rintro e w1 ⟨rfl, rfl⟩)
          | (go_at_call 45; (with_reducible refine (ks.out _).mono ?_); rintro e w1 ⟨rfl, rfl⟩))
        go_wp2
        go_ret3
        exact ⟨rfl, by first | exact Below.refl _ w | exact (Below.refl _ w).drew | exact (Below.refl _ w).drew.drew⟩
    · have e : parE s.data.toList = 153 := by
        unfold parE; rw [if_neg (by have := hL.out; omega), if_neg (fun z => q (q1.mpr z.1))]
      have e2 : parD s.data.toList = [] := by unfold parD; rw [e]; rfl
      have e3 : parN s.data.toList = 0 := by unfold parN; rw [e]; rfl
      rw [e, e2, e3]
      have hne : (vc != vs) = true := bne_iff_ne.mpr q
      clear hvs hvc hve q1 q2 e e2 e3 hDl hCl hEl hD hC hE hl hs
      go_enter Try.func13, Try.ntmps13
      go_wp2
      first
        | (go_region_with (first
            | (go_at_call 49; (with_reducible refine (kc.out _).mono ?_); rintro e w1 ⟨rfl, rfl⟩)
            | (go_at_call 49; (with_reducible refine (ke.out _).mono ?_); rintro e w1 ⟨rfl, rfl⟩)
            | (go_at_call 45; (with_reducible refine (ks.out _).mono ?_); rintro e w1 ⟨rfl, rfl⟩)))
        | fail "no"
      all_goals
        go_wp2
        go_ret3
        exact ⟨rfl, by first | exact Below.refl _ w | exact (Below.refl _ w).drew | exact (Below.refl _ w).drew.drew⟩
  · have e1 : parE s.data.toList = 152 := by unfold parE; rw [if_pos (by omega)]
    have e2 : parD s.data.toList = [] := by unfold parD; rw [e1]; rfl
    have e3 : parN s.data.toList = 0 := by unfold parN; rw [e1]; rfl
    rw [e1, e2, e3]
    clear e1 e2 e3 hl
    go_enter Try.func13, Try.ntmps13
    go_wp2
    go_ret3
    exact ⟨rfl, by first | exact Below.refl _ w | exact (Below.refl _ w).drew | exact (Below.refl _ w).drew.drew⟩
end Go.Proofs.Ytnecbbflcpngcaa
