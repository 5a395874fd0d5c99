/- The bytes of the row that the law sends back: what the call returns; nothing that was there turns. Conditions: the row is that of the law. -/
import Derived.Test.YtkclbcfodngdkaaRcv
namespace Go.Proofs.Ytkclbcfodngdkaa
open Go.RowKit
set_option linter.unusedVariables false

theorem rotA : rotN 3 (4607182418800017408, 13837309855095848960) = (13837309855095848960, 13830554455654793216) := by decide +kernel
theorem rotB : rotN 3 (13837309855095848960, 4607182418800017408) = (4607182418800017408, 4613937818241073152) := by decide +kernel
theorem okA : okB 13837309855095848960 13830554455654793216 = true := by decide +kernel
theorem okBB : okB 4607182418800017408 4613937818241073152 = true := by decide +kernel
theorem bitA : bitB 13837309855095848960 13830554455654793216 = 1 := by decide +kernel
theorem bitBB : bitB 4607182418800017408 4613937818241073152 = 11 := by decide +kernel
theorem Try.info5 : (Try.prog.info? 5).map (fun i => (i.zero, i.size, i.bytes)) = some (some (.int .u8 0), 1, 1) := by kernel_rfl
/-- one byte of the call's own, as a text -/
theorem one_back {w : World} {B : Nat} {v : Value} {x : UInt8} (h : w.ownsRow B 5 1 v 1 [.int .u8 (x.toNat : Nat)]) : (convert 44 9 v).run Try.prog w = .ok (.string ⟨#[x]⟩) w := by
  have h0 := h
  obtain ⟨_, ⟨_, h2⟩ | ⟨g, cap, cur, rfl, q2, q3, q4⟩⟩ := h
  · omega
  · refine run_convert_bytes_back (P := Try.prog) w 44 9 5 ⟨g, 0, none⟩ cap [x] Try.underlying44 Try.underlying5 Try.underlying9 (fun i hi => ?_)
    have hi0 : i = 0 := by simpa using hi
    subst hi0
    have := World.ownsRow.cellAt h0 0 (by omega)
    simpa [Addr.add] using this
set_option maxRecDepth 100000 in
set_option maxHeartbeats 2000000 in
theorem receive_ok (b cap : Nat) (w : World) (hc : w.cell? ⟨b, 0, none⟩ = some (.complex .f64 13837309855095848960 4613937818241073152))
    (hc1 : w.cell? ⟨b, 1, none⟩ = some (.complex .f64 4607182418800017408 13837309855095848960)) (hc2 : w.cell? ⟨b, 2, none⟩ = some (.complex .f64 13837309855095848960 4607182418800017408)) :
    Calls Try.prog 12 #[.slice (some ⟨b, 0, none⟩) 3 cap] w fun e w' => e = .returned (.tuple #[.string ⟨#[27]⟩, .int .i64 0]) ∧ Below w.heap.size w w' := by
  obtain ⟨i0, hi, hz0, hz1, hz2⟩ := info_parts Try.info5
  have HI := Lib.hid (And.intro hi (And.intro hz0 (And.intro hz1 hz2)))
  clear hi hz0 hz1 hz2
  obtain ⟨D, hD⟩ : ∃ D, D = w.heap.size := ⟨_, rfl⟩
  have hDs : D ≤ w.heap.size := by omega
  have hzz : Hid (w.heap.size = D) := hD.symm
  rw [← hD]
  clear hD
  have A := Lib.hid (turnOf_1 b 3 cap (by omega) w hc)
  have T1 := Lib.hid (fun w => turned3 4607182418800017408 13837309855095848960 w)
  have T2 := Lib.hid (fun w => turned3 13837309855095848960 4607182418800017408 w)
  have B1 := Lib.hid (fun w => bits_yes 13837309855095848960 13830554455654793216 w okA)
  have B2 := Lib.hid (fun w => bits_yes 4607182418800017408 4613937818241073152 w okBB)
  rw [rotA] at T1
  rw [rotB] at T2
  rw [bitA] at B1
  rw [bitBB] at B2
  have b0 : Below D w w := by rw [← hzz.out]; exact Below.refl _ _
  go_enter Try.func12, Try.ntmps12
  go_wp2_with fail
  refine wp_scope_once 0 rfl ?_
  go_wp2_with fail
  (with_reducible refine (A.out).mono ?_)
  rintro e w1 ⟨rfl, rfl⟩
  go_wp2_with fail
  go_loopw [3, 4, 7] (fun er v i wr => ∃ j : Nat, er = .int .i64 0 ∧ i = .int .i64 j ∧ Below D w wr ∧ ((j = 1 ∧ v = .slice none 0 0 ∧ wr = w) ∨ (j = 3 ∧ wr.ownsRow D 5 1 v 1 [.int .u8 ((27 : UInt8).toNat : Nat)]))) (fun _ _ i _ => 3 - (intOf i).toNat)
  case atStart => exact ⟨1, rfl, rfl, b0, .inl ⟨rfl, rfl, rfl⟩⟩
  case round =>
    obtain ⟨j, rfl, rfl, hb, ⟨rfl, rfl, rfl⟩ | ⟨rfl, ow⟩⟩ := hrel
    · go_wp2_with fail
      (with_reducible refine (T1.out _).mono ?_)
      rintro e w1 ⟨rfl, rfl⟩
      go_wp2_with fail
      (with_reducible refine (B1.out _).mono ?_)
      rintro e w1 ⟨rfl, rfl⟩
      go_wp2_with fail
      (with_reducible refine (T2.out _).mono ?_)
      rintro e w1 ⟨rfl, rfl⟩
      go_wp2_with fail
      (with_reducible refine (B2.out _).mono ?_)
      rintro e w1 ⟨rfl, rfl⟩
      go_wp2_with (at_builtin; refine wpList_append_own _ rfl _ _ 44 rfl D 5 i0 (.int .u8 0) 1 1 Try.underlying44 HI.out.1 HI.out.2.1 HI.out.2.2.1 HI.out.2.2.2 rfl (by decide) (.slice none 0 0) 0 [] rfl ((World.ownsRow_nil _ D 5 1).alloc _) ⟨wr.heap.size, 0, none⟩ 1 1 [.int .u8 27] rfl rfl ?c1 ?c2 ?c3 ?c4 ?c5 ?_)
      case c1 => intro j u hj; match j, hj with | 0, hj => simp at hj; subst hj; simp [Addr.add]; first | rfl | decide | exact (by kernel_rfl)
      case c2 => intro u hu; simp at hu; subst hu; rfl
      case c3 => decide
      case c4 => decide
      case c5 => simp; omega
      · intro v' w1 own' hg hnil
        have b1 : Below D wr w1 := (hb.alloc hDs _).grown hg (by simp; omega) (fun k hk => by simp [Value.ownBlock] at hk)
        have own2 : w1.ownsRow D 5 1 v' 1 [.int .u8 ((27 : UInt8).toNat : Nat)] := own'
        clear hnil hg own' hb b0 hc hc1 hc2
        go_wp2_with fail
        first
          | exact ⟨⟨3, rfl, by go_num, b1, .inr ⟨rfl, own2⟩⟩, by simp [intOf]⟩
          | (refine ⟨?_, by simp [intOf]⟩; repeat apply Exists.intro; exact ⟨⟨3, rfl, by go_num, b1, .inr ⟨rfl, own2⟩⟩, rfl⟩)
    · have hcv := one_back ow
      clear b0 hc hc1 hc2
      go_wp2_with fail
      go_step3
      go_wp2
      simp only [Exit.jump]
      go_ret2
      exact ⟨rfl, hb⟩
end Go.Proofs.Ytkclbcfodngdkaa
