/- The row of bytes by the other text: what the call returns; nothing that was there turns. Conditions: the bytes are within reach. -/
import Derived.Test.YtkclbcfodngdkaaFix
namespace Go.Proofs.Ytkclbcfodngdkaa
open Go.RowKit
set_option linter.unusedVariables false

set_option maxHeartbeats 400000 in
theorem rsend_long (s : ByteArray) (w : World) (hs : 2047 < s.size) (hs2 : s.size ≤ 281474976710656) :
    Calls Try.prog 6 #[.string s] w fun e w' => e = .returned (.tuple #[.slice none 0 0, .int .i64 33]) ∧ w = w' := by
  go_enter Try.func6, Try.ntmps6
  go_wp2
  go_ret2
  exact ⟨rfl, rfl⟩
theorem pt_mod (n : Nat) : pt (n % 16) = pt n := by
  unfold pt
  rw [show n % 16 / 4 % 4 = n / 4 % 4 by omega, show n % 16 % 4 = n % 4 by omega]
theorem rpoint_still (n : Nat) (hn : n < 16) (w : World) :
    Calls Try.prog 10 #[.int .i64 (n : Nat)] w fun e w' => e = .returned (pt n) ∧ w' = w := (rPoint_any n hn w).mono fun _ _ h => ⟨h.1, h.2.symm⟩
set_option maxRecDepth 100000 in
set_option maxHeartbeats 2000000 in
theorem rsend_any (s : ByteArray) (w : World) (hs : s.size ≤ 2047) :
    Calls Try.prog 6 #[.string s] w fun e w' => ∃ v, e = .returned (.tuple #[v, .int .i64 0]) ∧ OwnP w' w.heap.size v (rowP s.data.toList) ∧ Below w.heap.size w w' := by
  obtain ⟨i0, hi, hz0, hz1, hz2⟩ := info_parts Try.infoC
  have HI := Lib.hid (And.intro hi (And.intro hz0 (And.intro hz1 hz2)))
  obtain ⟨D, hD⟩ : ∃ D, D = w.heap.size := ⟨_, rfl⟩
  have hzz : w.heap.size = D := hD.symm
  rw [hzz]
  have b1 : Below D w (w.alloc (.cells #[.complex .f64 4613937818241073152 4613937818241073152] 27)) := by rw [hD]; exact below_new w _
  have hD1 : D ≤ (w.alloc (.cells #[.complex .f64 4613937818241073152 4613937818241073152] 27)).heap.size := by rw [hD]; simp
  have ow2 : OwnP (w.alloc (.cells #[.complex .f64 4613937818241073152 4613937818241073152] 27)) D (.slice (some ⟨D, 0, none⟩) 1 1) (rowP []) := by
    have h : rowP [] = [Value.complex .f64 4613937818241073152 4613937818241073152] := by show [pt 15] = _; rw [pt15]
    rw [h]
    refine ⟨⟨rfl, .inr ⟨D, 1, #[.complex .f64 4613937818241073152 4613937818241073152], rfl, Nat.le_refl _, ?_, Nat.le_refl _, by decide, rfl, rfl⟩⟩, by simp⟩
    rw [hD]; exact heap_alloc_new w _
  clear hi hz0 hz1 hz2 hD
  go_enter Try.func6, Try.ntmps6
  go_wp2_with fail
  generalize w.alloc (.cells #[.complex .f64 4613937818241073152 4613937818241073152] 27) = w0 at *
  go_loopw [4, 5] (fun v i wr => ∃ k : Nat, k ≤ s.size ∧ i = .int .i64 k ∧ OwnP wr D v (rowP (s.data.toList.take k)) ∧ Below D w wr ∧ D ≤ wr.heap.size) (fun _ i _ => s.size - (intOf i).toNat)
  case atStart => exact ⟨0, by omega, rfl, ow2, b1, hD1⟩
  case round =>
    obtain ⟨k, hk, rfl, ow, hb, hbs⟩ := hrel
    clear ow2 b1 hD1
    by_cases hlt : k < s.size
    · have hsn : s.data.toList.take (k + 1) = s.data.toList.take k ++ [s[k]] := by
        rw [List.take_succ_eq_append_getElem (by simpa using hlt)]; rfl
      have hrl : (rowP (s.data.toList.take k)).length = 1 + 2 * k := by rw [rowP_len, List.length_take]; simp; omega
      have HR := Lib.hid (by rw [hsn]; exact rowP_snoc (s.data.toList.take k) s[k] : rowP (s.data.toList.take (k + 1)) = rowP (s.data.toList.take k) ++ ptB s[k])
      have HRL := Lib.hid hrl
      have HOW := Lib.hid ow
      have hb8 := s[k].toNat_lt
      have hki : (k : Int) < (s.size : Int) := by omega
      have hki0 : (0 : Int) ≤ (k : Int) := by omega
      obtain ⟨x1, y1, h1⟩ : ∃ x y, pt (s[k].toNat / 16) = .complex .f64 x y := ⟨_, _, rfl⟩
      obtain ⟨x2, y2, h2⟩ : ∃ x y, pt s[k].toNat = .complex .f64 x y := ⟨_, _, rfl⟩
      have Q1 : Hid (∀ w, Calls Try.prog 10 #[.int .i64 ((s[k].toNat : Int) / 16)] w fun e w' => e = .returned (.complex .f64 x1 y1) ∧ w' = w) := by
        unfold Hid
        intro w
        have h := rpoint_still (s[k].toNat / 16) (by omega) w
        rw [h1, show ((s[k].toNat / 16 : Nat) : Int) = (s[k].toNat : Int) / 16 by omega] at h
        exact h
      have Q2 : Hid (∀ w, Calls Try.prog 10 #[.int .i64 ((s[k].toNat : Int) % 16)] w fun e w' => e = .returned (.complex .f64 x2 y2) ∧ w' = w) := by
        unfold Hid
        intro w
        have h := rpoint_still (s[k].toNat % 16) (by omega) w
        rw [pt_mod, h2, show ((s[k].toNat % 16 : Nat) : Int) = (s[k].toNat : Int) % 16 by omega] at h
        exact h
      have HB : Hid (ptB s[k] = [Value.complex .f64 x1 y1, Value.complex .f64 x2 y2]) := by unfold Hid ptB; rw [h1, h2]
      clear hsn hrl ow h1 h2
      have hall : ∀ u ∈ [Value.complex .f64 x1 y1, Value.complex .f64 x2 y2], u.oneCell' = true := by intro u hu; simp at hu; rcases hu with rfl | rfl <;> rfl
      have HALL := Lib.hid hall
      have OWD := Lib.hid (show (wr.drew.alloc (.cells #[Value.complex .f64 x1 y1, Value.complex .f64 x2 y2] 27)).ownsRow D 27 1 u4 _ _ from World.ownsRow.alloc (show wr.drew.ownsRow D 27 1 u4 _ _ from HOW.out.1) _)
      have HN2 : Hid (∀ j u, [Value.complex .f64 x1 y1, Value.complex .f64 x2 y2][j]? = some u → (wr.drew.alloc (.cells #[Value.complex .f64 x1 y1, Value.complex .f64 x2 y2] 27)).cell? ((⟨wr.heap.size, 0, none⟩ : Addr).add j) = some u) := news2P wr.drew _ _
      have HBA : Hid (D ≤ (wr.drew.alloc (.cells #[Value.complex .f64 x1 y1, Value.complex .f64 x2 y2] 27)).heap.size) := Nat.le_trans hbs (by simp)
      have H63 : Hid ((rowP (s.data.toList.take k)).length + 2 ≤ maxLen) := by unfold Hid maxLen; rw [HRL.out]; omega
      have HBY : Hid (((rowP (s.data.toList.take k)).length + 2) * 16 ≤ 140737488355328) := by unfold Hid; rw [HRL.out]; omega
      have hv1 : IntKind.u8.wrap ((s[k].toNat : Int) / 16) = (s[k].toNat : Int) / 16 := IntWalk.u8_in _ (by omega)
      have hv2 : ((s[k].toNat : Int)).tmod 16 = (s[k].toNat : Int) % 16 := Int.tmod_eq_emod_of_nonneg (by omega)
      have hw1 : IntKind.i64.wrap ((s[k].toNat : Int) / 16) = (s[k].toNat : Int) / 16 := by rw [IntWalk.i64_in _ (by omega)]
      have hw2 : IntKind.i64.wrap ((s[k].toNat : Int) % 16) = (s[k].toNat : Int) % 16 := by rw [IntWalk.i64_in _ (by omega)]
      clear hall
      go_wp2
      go_region_held3 (fun w' => True) (exact trivial)
        (first
          | (go_at_call 10; (with_reducible refine (Q1.out _).mono ?_); rintro e w' ⟨rfl, rfl⟩)
          | (go_at_call 10; (with_reducible refine (Q2.out _).mono ?_); rintro e w' ⟨rfl, rfl⟩)
          | (refine step_append_lies _ (by rfl) (.tmp 16) (.tmp 29) 22 (by rfl) D 27 i0 (.complex .f64 0 0) 1 16 Try.underlying22 HI.out.1 HI.out.2.1 HI.out.2.2.1 HI.out.2.2.2 rfl (by decide) _ _ _ (by rfl) OWD.out ⟨wr.heap.size, 0, none⟩ 2 2 [Value.complex .f64 x1 y1, Value.complex .f64 x2 y2] (by rfl) rfl HN2.out HALL.out (by decide) H63.out HBY.out HBA.out _ rfl ?_; intro g cap w3 hown hgrow hat hlt3))
      all_goals
        have ow3 : OwnP w3 D (.slice (some ⟨g, 0, none⟩) ((rowP (s.data.toList.take k)).length + 2) cap) (rowP (s.data.toList.take (k + 1))) := by
          rw [HR.out, HB.out]
          exact OwnP.more hown rfl (by simp)
        have b3 : Below D w w3 := Below.grown (Below.drew (Below.alloc hb hbs _)) hgrow (by show D ≤ (wr.alloc _).heap.size; simp; omega) (fun k' hk' => (HOW.out.1.lt k' hk').1)
        have hD3 : D ≤ w3.heap.size := Nat.le_trans (by show D ≤ (wr.alloc _).heap.size; simp; omega) hgrow.size
        have hms : s.size - (intOf (Value.int IntKind.i64 ((k : Int) + 1))).toNat < s.size - (intOf (Value.int IntKind.i64 (k : Int))).toNat := by simp [intOf]; omega
        clear hown hgrow hat hlt3 hw1 hw2 hv1 hv2
        first
          | exact ⟨⟨k + 1, by omega, by go_num, ow3, b3, hD3⟩, hms⟩
          | (go_wp2
             first
              | exact ⟨⟨k + 1, by omega, by go_num, ow3, b3, hD3⟩, hms⟩
              | (refine ⟨?_, hms⟩
                 repeat apply Exists.intro
                 exact ⟨⟨k + 1, by omega, by go_num, ow3, b3, hD3⟩, rfl⟩))
    · have hkk : k = s.size := by omega
      rw [hkk, List.take_of_length_le (by simp)] at ow
      clear hkk
      go_wp2
      go_ret2
      exact ⟨u4, rfl, ow, hb⟩
end Go.Proofs.Ytkclbcfodngdkaa
