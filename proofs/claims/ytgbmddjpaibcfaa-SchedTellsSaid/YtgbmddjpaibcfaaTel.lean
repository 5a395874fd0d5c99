/- Windows, lengths, places, ticks and next ones as the document says: the walk of the law. Condition: the list of windows is no longer than a machine holds. -/
import Derived.Test.YtgbmddjpaibcfaaRfc
namespace Go.Proofs.Ytgbmddjpaibcfaa
open Go.RowKit Go.Maps
set_option linter.unusedVariables false
set_option linter.unusedSimpArgs false
set_option maxRecDepth 100000 in
set_option maxHeartbeats 4000000 in
theorem tells_any (w : World) (G : Nat → Prop) (v : Value) (ws : List Wn) (ht : WinV G w v ws) (hl : ws.length ≤ 140737488355328) (kd ix F T : Int) :
    Calls Try.prog 3 #[v, .agg #[.int .i64 kd, .int .i64 ix, .int .i64 F, .int .i64 T]] w fun e w' => e = .returned (.bool true) ∧ Below w.heap.size w w' := by
  obtain ⟨s0, hs0⟩ : ∃ s0, s0 = w.heap.size := ⟨_, rfl⟩
  obtain ⟨w1, hw1⟩ : ∃ w1, w1 = w.alloc (.cells #[.int .i64 kd, .int .i64 ix, .int .i64 F, .int .i64 T] 24) := ⟨_, rfl⟩
  have hb1 : Below w.heap.size w w1 := by rw [hw1]; exact (Below.refl _ w).alloc (Nat.le_refl _) _
  have hbx : w1.heap[s0]? = some (.cells #[.int .i64 kd, .int .i64 ix, .int .i64 F, .int .i64 T] 24 (0, 0)) := by rw [hw1, hs0]; exact block_new _ _
  have PC : Hid (∀ W, Below w1.heap.size w1 W → W.cell? ⟨s0, 0, none⟩ = some (.int .i64 kd) ∧ W.cell? ⟨s0, 1, none⟩ = some (.int .i64 ix) ∧ W.cell? ⟨s0, 2, none⟩ = some (.int .i64 F) ∧ W.cell? ⟨s0, 3, none⟩ = some (.int .i64 T)) := Lib.hid fun W hW =>
    ⟨cell_below (by rw [cell_of_row _ _ _ _ _ _ hbx]; rfl) hW, cell_below (by rw [cell_of_row _ _ _ _ _ _ hbx]; rfl) hW, cell_below (by rw [cell_of_row _ _ _ _ _ _ hbx]; rfl) hW, cell_below (by rw [cell_of_row _ _ _ _ _ _ hbx]; rfl) hW⟩
  have ht1 := ht.below hb1
  obtain ⟨q, n, cap0, rfl⟩ : ∃ q n cap, v = .slice q n cap := by obtain ⟨q, cap, e, _⟩ := ht; exact ⟨_, _, _, e⟩
  have k1 := len_any _ G _ ws ht1
  obtain ⟨E, hE⟩ : ∃ E, E = chkE ws := ⟨_, rfl⟩
  obtain ⟨L, hLv⟩ : ∃ L, L = lenV ws := ⟨_, rfl⟩
  obtain ⟨a1, ha1⟩ : ∃ a1, a1 = (atV ws F).1 := ⟨_, rfl⟩
  obtain ⟨a2, ha2⟩ : ∃ a2, a2 = (atV ws F).2.1 := ⟨_, rfl⟩
  obtain ⟨a3, ha3⟩ : ∃ a3, a3 = (atV ws F).2.2.1 := ⟨_, rfl⟩
  obtain ⟨a4, ha4⟩ : ∃ a4, a4 = (atV ws F).2.2.2 := ⟨_, rfl⟩
  obtain ⟨t1, ht1v⟩ : ∃ t1, t1 = (tickV ws kd ix F T).1 := ⟨_, rfl⟩
  obtain ⟨t2, ht2v⟩ : ∃ t2, t2 = (tickV ws kd ix F T).2 := ⟨_, rfl⟩
  obtain ⟨x1, hx1⟩ : ∃ x1, x1 = (nextV ws kd ix F).1 := ⟨_, rfl⟩
  obtain ⟨x2, hx2⟩ : ∃ x2, x2 = (nextV ws kd ix F).2 := ⟨_, rfl⟩
  have K9 : Hid (∀ W, Below w1.heap.size w1 W → Calls Try.prog 9 #[.slice q n cap0] W fun e w' => e = .returned (.tuple #[.int .i64 L, .int .i64 E]) ∧ Below W.heap.size W w') := Lib.hid fun W hW => by
    have := rlen_any W G _ ws (ht1.below hW) hl; rw [← hLv, ← hE] at this; exact this
  have K10 : Hid (∀ W, Below w1.heap.size w1 W → Calls Try.prog 10 #[.slice q n cap0] W fun e w' => e = .returned (.int .i64 E) ∧ Below W.heap.size W w') := Lib.hid fun W hW => by
    have := check_any W G _ ws (ht1.below hW); rw [← hE] at this; exact this
  have K11 : Hid (∀ W, Below w1.heap.size w1 W → Calls Try.prog 11 #[.slice q n cap0] W fun e w' => e = .returned (.int .i64 E) ∧ Below W.heap.size W w') := Lib.hid fun W hW => by
    have := rcheck_any W G _ ws (ht1.below hW) hl; rw [← hE] at this; exact this
  have K12 : Hid (∀ W, Below w1.heap.size w1 W → Calls Try.prog 12 #[.slice q n cap0, .int .i64 F] W fun e w' => e = .returned (.tuple #[.agg #[.int .i64 a1, .int .i64 a2, .int .i64 a3], .int .i64 a4]) ∧ Below W.heap.size W w') := Lib.hid fun W hW => by
    have := at_any W G _ ws (ht1.below hW) F; rw [← ha1, ← ha2, ← ha3, ← ha4] at this; exact this
  have K13 : Hid (∀ W, Below w1.heap.size w1 W → Calls Try.prog 13 #[.slice q n cap0, .int .i64 F] W fun e w' => e = .returned (.tuple #[.int .i64 a1, .int .i64 a2, .int .i64 a3, .int .i64 a4]) ∧ Below W.heap.size W w') := Lib.hid fun W hW => by
    have := rat_any W G _ ws (ht1.below hW) hl F; rw [← ha1, ← ha2, ← ha3, ← ha4] at this; exact this
  have K14 : Hid (∀ W, Below w1.heap.size w1 W → Calls Try.prog 14 #[.slice q n cap0, .int .i64 kd, .int .i64 ix, .int .i64 F, .int .i64 T] W fun e w' => e = .returned (.tuple #[.int .i64 t1, .int .i64 t2]) ∧ Below W.heap.size W w') := Lib.hid fun W hW => by
    have := tic_any W G _ ws (ht1.below hW) kd ix F T; rw [← ht1v, ← ht2v] at this; exact this
  have K15 : Hid (∀ W, Below w1.heap.size w1 W → Calls Try.prog 15 #[.slice q n cap0, .int .i64 kd, .int .i64 ix, .int .i64 F, .int .i64 T] W fun e w' => e = .returned (.tuple #[.int .i64 t1, .int .i64 t2]) ∧ Below W.heap.size W w') := Lib.hid fun W hW => by
    have := rtic_any W G _ ws (ht1.below hW) hl kd ix F T; rw [← ht1v, ← ht2v] at this; exact this
  have K16 : Hid (∀ W, Below w1.heap.size w1 W → Calls Try.prog 16 #[.slice q n cap0, .int .i64 kd, .int .i64 ix, .int .i64 F] W fun e w' => e = .returned (.tuple #[.int .i64 x1, .int .i64 x2]) ∧ Below W.heap.size W w') := Lib.hid fun W hW => by
    have := nx_any W G _ ws (ht1.below hW) kd ix F; rw [← hx1, ← hx2] at this; exact this
  have K17 : Hid (∀ W, Below w1.heap.size w1 W → Calls Try.prog 17 #[.slice q n cap0, .int .i64 kd, .int .i64 ix, .int .i64 F] W fun e w' => e = .returned (.tuple #[.int .i64 x1, .int .i64 x2]) ∧ Below W.heap.size W w') := Lib.hid fun W hW => by
    have := rnx_any W G _ ws (ht1.below hW) hl kd ix F; rw [← hx1, ← hx2] at this; exact this
  have KF : Hid (∀ W, Calls Try.prog 18 #[] W fun e w' => e = .returned (.bool true) ∧ Below W.heap.size W w') := Lib.hid fixed_any
  have HB2 : Hid (∀ w2, Below (w.alloc (.cells #[.int .i64 kd, .int .i64 ix, .int .i64 F, .int .i64 T] 24)).heap.size (w.alloc (.cells #[.int .i64 kd, .int .i64 ix, .int .i64 F, .int .i64 T] 24)) w2 → Below w1.heap.size w1 w2) := Lib.hid fun w2 h => by rw [hw1]; exact h
  rw [← hLv, ← hE, hw1] at k1
  have HW := Lib.hid hb1
  rw [hs0] at PC
  clear ht ht1 hb1 hw1 hbx hs0 hE hLv ha1 ha2 ha3 ha4 ht1v ht2v hx1 hx2
  go_enter Try.func3, Try.ntmps3
  go_wp2_with (first
    | (go_at_call 8; refine k1.mono ?_; rintro e w2 ⟨rfl, hb⟩; have H2 := Lib.hid (HB2.out _ hb); clear hb)
    | (go_at_call 9; (with_reducible refine (K9.out _ H2.out).mono ?_); rintro e w3 ⟨rfl, hb⟩; have H3 := Lib.hid (H2.out.trans (hb.mono H2.out.size)); clear hb)
    | (go_at_call 10; (with_reducible refine (K10.out _ H3.out).mono ?_); rintro e w4 ⟨rfl, hb⟩; have H4 := Lib.hid (H3.out.trans (hb.mono H3.out.size)); clear hb)
    | (go_at_call 11; (with_reducible refine (K11.out _ H4.out).mono ?_); rintro e w5 ⟨rfl, hb⟩; have H5 := Lib.hid (H4.out.trans (hb.mono H4.out.size)); obtain ⟨y0, y1, y2, y3⟩ := PC.out _ H5.out; clear hb)
    | (go_at_call 12; (with_reducible refine (K12.out _ H5.out).mono ?_); rintro e w6 ⟨rfl, hb⟩; have h6 := H5.out.trans (hb.mono H5.out.size); have H6 := Lib.hid (h6.alloc h6.size (.cells #[.int .i64 a1, .int .i64 a2, .int .i64 a3] 30)); obtain ⟨z0, z1, z2, z3⟩ := PC.out _ H6.out; have HP := Lib.hid (block_new w6 (.cells #[.int .i64 a1, .int .i64 a2, .int .i64 a3] 30)); clear hb h6)
    | (go_at_call 13; (with_reducible refine (K13.out _ H6.out).mono ?_); rintro e w7 ⟨rfl, hb⟩; have H7 := Lib.hid (H6.out.trans (hb.mono H6.out.size)); obtain ⟨u0, u1, u2, u3⟩ := PC.out _ H7.out; have hp := (hb.block _ (block_lt HP.out)).trans HP.out
       have p0 : w7.cell? ⟨w6.heap.size, 0, none⟩ = some (.int .i64 a1) := by rw [cell_of_row _ _ _ _ _ _ hp]; rfl
       have p1 : w7.cell? ⟨w6.heap.size, 1, none⟩ = some (.int .i64 a2) := by rw [cell_of_row _ _ _ _ _ _ hp]; rfl
       have p2 : w7.cell? ⟨w6.heap.size, 2, none⟩ = some (.int .i64 a3) := by rw [cell_of_row _ _ _ _ _ _ hp]; rfl
       clear hb hp)
    | (go_at_call 14; (with_reducible refine (K14.out _ H7.out).mono ?_); rintro e w8 ⟨rfl, hb⟩; have H8 := Lib.hid (H7.out.trans (hb.mono H7.out.size)); obtain ⟨v0, v1, v2, v3⟩ := PC.out _ H8.out; clear hb)
    | (go_at_call 15; (with_reducible refine (K15.out _ H8.out).mono ?_); rintro e w9 ⟨rfl, hb⟩; have H9 := Lib.hid (H8.out.trans (hb.mono H8.out.size)); obtain ⟨b0, b1, b2, b3⟩ := PC.out _ H9.out; clear hb)
    | (go_at_call 16; (with_reducible refine (K16.out _ H9.out).mono ?_); rintro e w10 ⟨rfl, hb⟩; have H10 := Lib.hid (H9.out.trans (hb.mono H9.out.size)); obtain ⟨c0, c1, c2, c3⟩ := PC.out _ H10.out; clear hb)
    | (go_at_call 17; (with_reducible refine (K17.out _ H10.out).mono ?_); rintro e w11 ⟨rfl, hb⟩; have H11 := Lib.hid (H10.out.trans (hb.mono H10.out.size)); clear hb)
    | (go_at_call 18; refine (KF.out _).mono ?_; rintro e w12 ⟨rfl, hb⟩; have H12 := Lib.hid (H11.out.trans (hb.mono H11.out.size)); clear hb))
  go_ret
  exact ⟨rfl, HW.out.trans (H12.out.mono HW.out.size)⟩
end Go.Proofs.Ytgbmddjpaibcfaa
