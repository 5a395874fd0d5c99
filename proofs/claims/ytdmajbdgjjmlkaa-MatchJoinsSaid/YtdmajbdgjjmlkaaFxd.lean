/- Calls whose answers the document fixes. No conditions. -/
import Derived.Test.YtdmajbdgjjmlkaaOff
import Derived.Test.YtdmajbdgjjmlkaaSpr
namespace Go.Proofs.Ytdmajbdgjjmlkaa
open Go.RowKit
set_option linter.unusedVariables false
set_option linter.unusedSimpArgs false

def setT (a b : Int) : Rx := .mk 0 0 0 a b 0 0 []
def fixT : Rx := .mk 1 0 0 0 0 0 0 [setT 0 8589934592, .mk 3 0 (-1) 0 0 0 0 [.mk 2 0 0 0 0 0 0 [setT 0 17179869184, setT 0 34359738368]]]
theorem fix_parse : parseS [97, 40, 98, 124, 99, 41, 42] = (some fixT, 0) := by kernel_rfl
theorem fix_parse2 : parseS [40] = (none, 50) := by kernel_rfl
theorem fix_check : checkR fixT = 0 := by kernel_rfl
theorem fix_check2 : checkR (.mk 0 0 0 0 0 0 0 []) = 52 := by kernel_rfl
theorem fix_ok : okR fixT := by
  unfold fixT setT
  simp [okR, okL]
theorem fix_is1 : (macR fixT).is [97, 98, 99, 98] = true := by kernel_rfl
theorem fix_is2 : (macR fixT).is [97, 98, 32, 97] = false := by kernel_rfl
theorem fix_nothing : (macR fixT).is [] = false := by kernel_rfl
theorem fix_hit1 : (macR fixT).hitI [120, 97, 98] 0 = some (1, 3) := by kernel_rfl
theorem fix_hit2 : (macR fixT).hitI [120, 97, 98] 4 = none := by kernel_rfl
theorem fix_hits : (macR fixT).hitsL [97, 98, 32, 97] = [(0, 2), (3, 4)] := by kernel_rfl
theorem infoB5 : (Try.prog.info? 5).map (fun i => (i.zero, i.size, i.bytes)) = some (some (.int .u8 0), 1, 1) := by kernel_rfl
/-- 257 bytes 0, as a text -/
theorem many (n : Nat) (hn : n ≤ 1000) (w : World) : ∃ (w' : World) (z : ByteArray), (Instr.makeSlice 54 (.int .i64 (n : Nat)) (.int .i64 (n : Nat))).run Try.prog w = .ok (.slice (some ⟨w.heap.size, 0, none⟩) n n) w' ∧ (convert 54 9 (.slice (some ⟨w.heap.size, 0, none⟩) n n)).run Try.prog w' = .ok (.string z) w' ∧ z.size = n ∧ Below w.heap.size w w' := by
  obtain ⟨i0, hi, hz0, hz1, hz2⟩ := info_parts infoB5
  obtain ⟨w', hr, ho, hg⟩ := run_make_full (P := Try.prog) w w.heap.size 54 5 i0 (.int .u8 0) 1 Try.underlying54 hi hz0 hz1 .i64 .i64 n (by rw [hz2]; omega) (by unfold maxLen; omega) (Nat.le_refl _)
  have hl : (List.replicate n (0 : UInt8)).length = n := List.length_replicate
  have hcv := run_convert_bytes_back (P := Try.prog) w' 54 9 5 ⟨w.heap.size, 0, none⟩ n (List.replicate n (0 : UInt8)) Try.underlying54 Try.underlying5 Try.underlying9 (fun j hj => by
    rw [hl] at hj
    rw [add0, ho.cellAt j (by omega), show (Value.int IntKind.u8 0).cells = #[.int .u8 0] from rfl, Nat.mul_one, toList_madeCells_one]
    simp [hj])
  rw [hl] at hcv
  refine ⟨w', _, hr, hcv, ?_, (Below.refl _ w).grown hg (Nat.le_refl _) (fun k e => by cases e)⟩
  show (List.replicate n (0 : UInt8)).toArray.size = n
  simp
set_option maxRecDepth 100000 in
set_option maxHeartbeats 8000000 in
/-- calls whose answers the document fixes -/
theorem fixed_any (w : World) : Calls Try.prog 12 #[] w fun e w' => e = .returned (.bool true) ∧ Below w.heap.size w w' := by
  obtain ⟨M, hM⟩ : ∃ M, M = macR fixT := ⟨_, rfl⟩
  have i1 := fix_is1
  have i2 := fix_is2
  have i3 := fix_nothing
  have i4 := fix_hit1
  have i5 := fix_hit2
  have i6 := fix_hits
  rw [← hM] at i1 i2 i3 i4 i5 i6
  obtain ⟨Q, hQ⟩ : ∃ Q : Nat → World → Prop, Q = fun p w1 => (IsM w.heap.size p M w1 ∧ Mok M) ∧ Below w.heap.size w w1 := ⟨_, rfl⟩
  have QE : Hid (∀ p w1, Q p w1 → Below w.heap.size w w1) := Lib.hid (by rw [hQ]; exact fun p w1 h => h.2)
  have QB : ∀ p w1 w2, Q p w1 → Below w1.heap.size w1 w2 → Q p w2 := by
    rw [hQ]; exact fun p w1 w2 h hb => ⟨⟨h.1.1.of_below hb, h.1.2⟩, h.2.trans (hb.mono h.2.size)⟩
  have QA : Hid (∀ p w1 o, Q p w1 → Q p (w1.alloc o)) := Lib.hid fun p w1 o h => QB p w1 _ h (below_new w1 o)
  have QI : ∀ p w1, Q p w1 → IsM w.heap.size p M w1 ∧ Mok M := by rw [hQ]; exact fun p w1 h => h.1
  have K1 : Hid (Calls Try.prog 23 #[.string ⟨#[97, 40, 98, 124, 99, 41, 42]⟩] w fun e w' => ∃ p, e = .returned (.tuple #[.pointer (some ⟨p, 0, none⟩), .int .i64 0]) ∧ Q p w') := Lib.hid ((of_yes ⟨#[97, 40, 98, 124, 99, 41, 42]⟩ w fixT fix_parse fix_ok).mono fun e w' h => by
    obtain ⟨hb, ⟨hc, _⟩ | ⟨_, p, he, hi, hm⟩⟩ := h
    · exact absurd fix_check hc
    · exact ⟨p, he, by rw [hQ, hM]; exact ⟨⟨hi, hm⟩, hb⟩⟩)
  have K2 : Hid (∀ p w1, Q p w1 → Calls Try.prog 23 #[.string ⟨#[40]⟩] w1 fun e w' => e = .returned (.tuple #[.pointer none, .int .i64 50]) ∧ Q p w') := Lib.hid fun p w1 h => (of_no ⟨#[40]⟩ w1 50 fix_parse2 (by decide)).mono fun e w' g => ⟨g.1, QB p w1 w' h g.2⟩
  have K3 : Hid (∀ p w1, Q p w1 → Calls Try.prog 11 #[.agg #[.int .i64 0, .int .i64 0, .int .i64 0, .int .u64 0, .int .u64 0, .int .u64 0, .int .u64 0, .slice none 0 0]] w1 fun e w' => e = .returned (.tuple #[.pointer none, .int .i64 52]) ∧ Q p w') := Lib.hid fun p w1 h => (new_any w1 (.mk 0 0 0 0 0 0 0 []) (.slice none 0 0) (LiesL.nil (fun _ => True) w1) (by simp [okR, okL])).mono fun e w' g => by
    obtain ⟨hb, ⟨_, he⟩ | ⟨hc, _⟩⟩ := g
    · exact ⟨he, QB p w1 w' h hb⟩
    · exact absurd (fix_check2.symm.trans hc) (by decide)
  have S1 : Hid (∀ p w1, Q p w1 → Calls Try.prog 14 #[.pointer (some ⟨p, 0, none⟩), .string ⟨#[97, 98, 99, 98]⟩] w1 fun e w' => e = .returned (.tuple #[.bool true, .int .i64 0]) ∧ Q p w') := Lib.hid fun p w1 h => by
    have := is_any _ p M w1 (QI p w1 h).1 (QI p w1 h).2 ⟨#[97, 98, 99, 98]⟩
    rw [if_neg (by decide), show (⟨#[97, 98, 99, 98]⟩ : ByteArray).data.toList = [97, 98, 99, 98] from rfl, i1] at this
    exact this.mono fun e w' g => ⟨g.1, QB p w1 w' h g.2⟩
  have S2 : Hid (∀ p w1, Q p w1 → Calls Try.prog 14 #[.pointer (some ⟨p, 0, none⟩), .string ⟨#[97, 98, 32, 97]⟩] w1 fun e w' => e = .returned (.tuple #[.bool false, .int .i64 0]) ∧ Q p w') := Lib.hid fun p w1 h => by
    have := is_any _ p M w1 (QI p w1 h).1 (QI p w1 h).2 ⟨#[97, 98, 32, 97]⟩
    rw [if_neg (by decide), show (⟨#[97, 98, 32, 97]⟩ : ByteArray).data.toList = [97, 98, 32, 97] from rfl, i2] at this
    exact this.mono fun e w' g => ⟨g.1, QB p w1 w' h g.2⟩
  have S3 : Hid (∀ p w1 s, Q p w1 → 256 < s.size → Calls Try.prog 14 #[.pointer (some ⟨p, 0, none⟩), .string s] w1 fun e w' => e = .returned (.tuple #[.bool false, .int .i64 60]) ∧ Q p w') := Lib.hid fun p w1 s h hs => by
    have := is_any _ p M w1 (QI p w1 h).1 (QI p w1 h).2 s
    rw [if_pos hs] at this
    exact this.mono fun e w' g => ⟨g.1, QB p w1 w' h g.2⟩
  have H1 : Hid (∀ p w1, Q p w1 → Calls Try.prog 18 #[.pointer (some ⟨p, 0, none⟩), .string ⟨#[120, 97, 98]⟩, .int .i64 0] w1 fun e w' => e = .returned (.tuple #[.int .i64 1, .int .i64 3, .bool true]) ∧ Q p w') := Lib.hid fun p w1 h => by
    have := hit_any _ p M w1 (QI p w1 h).1 (QI p w1 h).2 ⟨#[120, 97, 98]⟩ 0
    rw [show (⟨#[120, 97, 98]⟩ : ByteArray).data.toList = [120, 97, 98] from rfl, i4] at this
    exact this.mono fun e w' g => ⟨g.1, QB p w1 w' h g.2⟩
  have H2 : Hid (∀ p w1, Q p w1 → Calls Try.prog 18 #[.pointer (some ⟨p, 0, none⟩), .string ⟨#[120, 97, 98]⟩, .int .i64 4] w1 fun e w' => e = .returned (.tuple #[.int .i64 0, .int .i64 0, .bool false]) ∧ Q p w') := Lib.hid fun p w1 h => by
    have := hit_any _ p M w1 (QI p w1 h).1 (QI p w1 h).2 ⟨#[120, 97, 98]⟩ 4
    rw [show (⟨#[120, 97, 98]⟩ : ByteArray).data.toList = [120, 97, 98] from rfl, i5] at this
    exact this.mono fun e w' g => ⟨g.1, QB p w1 w' h g.2⟩
  have N1 : Hid (∀ p w1, Q p w1 → Calls Try.prog 15 #[.pointer (some ⟨p, 0, none⟩)] w1 fun e w' => e = .returned (.bool false) ∧ Q p w') := Lib.hid fun p w1 h => by
    have := nothing_any _ p M w1 (QI p w1 h).1
    rw [i3] at this
    exact this.mono fun e w' g => ⟨g.1, QB p w1 w' h g.2⟩
  have T1 : Hid (∀ p w1, Q p w1 → Calls Try.prog 21 #[.pointer (some ⟨p, 0, none⟩), .string ⟨#[97, 98, 32, 97]⟩] w1 fun e w' => ∃ ao cap, e = .returned (.slice ao 2 cap) ∧ Hid (PrAt w' (.slice ao 2 cap) [(0, 2), (3, 4)]) ∧ Q p w') := Lib.hid fun p w1 h => by
    have := hits_any _ p M w1 (QI p w1 h).1 (QI p w1 h).2 ⟨#[97, 98, 32, 97]⟩
    rw [show (⟨#[97, 98, 32, 97]⟩ : ByteArray).data.toList = [97, 98, 32, 97] from rfl, i6] at this
    refine this.mono fun e w' g => ?_
    obtain ⟨⟨v, rfl, ho⟩, hb⟩ := g
    have hp := own_pr ho
    obtain ⟨ao, cap, rfl⟩ := own_slice' ho
    exact ⟨ao, cap, rfl, Lib.hid hp, QB p w1 w' h hb⟩
  have P1 : Hid (∀ p w1 ao cap, Q p w1 → PrAt w1 (.slice ao 2 cap) [(0, 2), (3, 4)] → Calls Try.prog 22 #[.slice ao 2 cap, .slice (some ⟨w1.heap.size, 0, none⟩) 2 2] (w1.alloc (.cells #[.int .i64 0, .int .i64 2, .int .i64 3, .int .i64 4] 44)) fun e w' => e = .returned (.bool true) ∧ Q p w') := Lib.hid fun p w1 ao cap h hp => by
    have ho := World.ownsRow_lit (base := 0) (e := 44) (size := 2) w1 #[.int .i64 0, .int .i64 2, .int .i64 3, .int .i64 4] 2 (Nat.zero_le _) (by unfold maxLen; omega) rfl
    have h2 : PrAt (w1.alloc (.cells #[.int .i64 0, .int .i64 2, .int .i64 3, .int .i64 4] 44)) (.slice (some ⟨w1.heap.size, 0, none⟩) 2 2) [(0, 2), (3, 4)] := own_pr ho
    have := same_any _ _ _ _ _ (hp.below (below_new w1 _)) h2 (by simp)
    rw [decide_eq_true rfl] at this
    exact this.mono fun e w' g => ⟨g.1, QB p _ w' (QA.out p w1 _ h) g.2⟩
  have MK : Hid (∀ p w1, Q p w1 → ∃ (w' : World) (z : ByteArray), (Instr.makeSlice 54 (.int .i64 257) (.int .i64 257)).run Try.prog w1 = .ok (.slice (some ⟨w1.heap.size, 0, none⟩) 257 257) w' ∧ (convert 54 9 (.slice (some ⟨w1.heap.size, 0, none⟩) 257 257)).run Try.prog w' = .ok (.string z) w' ∧ 256 < z.size ∧ Q p w') := Lib.hid fun p w1 h => by
    obtain ⟨w', z, a, b, c, d⟩ := many 257 (by decide) w1
    exact ⟨w', z, a, b, by omega, QB p w1 w' h d⟩
  clear i1 i2 i3 i4 i5 i6 hM hQ QB QI
  go_enter Try.func12, Try.ntmps12
  go_wp2_with (first
    | (go_at_call 23; (with_reducible refine K1.out.mono ?_); rintro e w1 ⟨p, rfl, I1⟩)
    | (go_at_call 23; (with_reducible refine (K2.out _ _ I1).mono ?_); rintro e w2 ⟨rfl, I2⟩; clear I1)
    | (go_at_call 11; (with_reducible refine (K3.out _ _ I2).mono ?_); rintro e w3 ⟨rfl, I3⟩; clear I2)
    | (go_at_call 14; (with_reducible refine (S1.out _ _ I3).mono ?_); rintro e w4 ⟨rfl, I4⟩; clear I3)
    | (go_at_call 14; (with_reducible refine (S2.out _ _ I4).mono ?_); rintro e w5 ⟨rfl, I5⟩; clear I4))
  obtain ⟨w6, z, hmk, hcv, hzs, I6⟩ := MK.out p w5 I5
  have HZ := Lib.hid hzs
  clear hzs I5
  rw [hmk]
  simp only [Result.andThen_ok]
  go_wp2_with (first
    | (go_at_call 14; (with_reducible refine (S3.out _ _ _ I6 HZ.out).mono ?_); rintro e w7 ⟨rfl, I7⟩; clear I6)
    | (go_at_call 18; (with_reducible refine (H1.out _ _ I7).mono ?_); rintro e w8 ⟨rfl, I8⟩; clear I7)
    | (go_at_call 18; (with_reducible refine (H2.out _ _ I8).mono ?_); rintro e w9 ⟨rfl, I9⟩; clear I8)
    | (go_at_call 15; (with_reducible refine (N1.out _ _ I9).mono ?_); rintro e wa ⟨rfl, Ia⟩; clear I9)
    | (go_at_call 21; (with_reducible refine (T1.out _ _ Ia).mono ?_); rintro e wb ⟨ao, cap, rfl, HPR, Ib⟩; clear Ia)
    | (go_at_call 22; (with_reducible refine (P1.out _ _ _ _ Ib HPR.out).mono ?_); rintro e wc ⟨rfl, Ic⟩; clear Ib))
  go_ret
  exact ⟨rfl, QE.out _ _ Ic⟩
end Go.Proofs.Ytdmajbdgjjmlkaa
