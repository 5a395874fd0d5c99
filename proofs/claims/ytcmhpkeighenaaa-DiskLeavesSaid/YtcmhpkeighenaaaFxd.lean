/- The calls whose answers the document fixes: what the call returns. No conditions. -/
import Derived.Test.YtcmhpkeighenaaaMad
namespace Go.Proofs.Ytcmhpkeighenaaa
open Go.RowKit Go.Maps
set_option linter.unusedVariables false

def zb (n : Nat) : ByteArray := ofL (List.replicate n 0)
def ab (c : UInt8) : ByteArray := ofL (List.replicate 128 c)
def F0 : St := newS (zb 256).data.toList
def F1 : St := (F0.write 1 (ab 65).data.toList).1
def F2 : St := (F1.write 2 (ab 65).data.toList).1
def F3 : St := (F2.flush 0 3).1
def F4 : St := (F3.flush 1 1).1
def F5 : St := (F4.arm 2 []).1
def F6 : St := (F5.write 0 (ab 66).data.toList).1
def F7 : St := (F6.flush 0 1).1
def F8 : St := F7.revive
theorem q0 : F0.count = 2 := by kernel_rfl
theorem q1 : (F0.write 1 (ab 65).data.toList).2 = 0 := by kernel_rfl
theorem q2 : (F1.write 2 (ab 65).data.toList).2 = 71 := by kernel_rfl
theorem q4 : F2.waitI.length = 1 := by kernel_rfl
theorem q5 : zb 128 ++ ⟨#[65, 65, 65]⟩ ++ zb 125 = ofL (F2.after [0, 3]) := by kernel_rfl
theorem q6 : (F2.flush 0 3).2 = 71 := by kernel_rfl
theorem q7 : (F3.flush 1 1).2 = 0 := by kernel_rfl
theorem q8 : (F4.arm 2 []).2 = 0 := by kernel_rfl
theorem q9 : (F5.write 0 (ab 66).data.toList).2 = 0 := by kernel_rfl
theorem q10 : (F6.flush 0 1).2 = 2 := by kernel_rfl
theorem q11 : (F7.read 0).2 = 2 := by kernel_rfl
theorem q12 : ofL (F8.read 0).1 = zb 128 := by kernel_rfl
theorem q12b : (F8.read 0).2 = 0 := by kernel_rfl
theorem q13 : zb 128 ++ ab 65 = ofL F8.image := by kernel_rfl
theorem q14 : ofL F8.safe = ofL F8.image := by kernel_rfl
theorem zb_size (n : Nat) : (zb n).size = n := by unfold zb; rw [ofL_size]; simp
theorem ab_size (c : UInt8) : (ab c).size = 128 := by unfold ab; rw [ofL_size]; simp
theorem image_at (B p : Nat) (S : St) (w : World) (h : At w B p S) : Calls Try.prog 17 #[.pointer (some ⟨p, 0, none⟩)] w fun e w' => e = .returned (.string (ofL S.image)) ∧ Below w.heap.size w w' := by
  obtain ⟨F, d, g⟩ := h
  exact image_any F p S w d
theorem safe_at (B p : Nat) (S : St) (w : World) (h : At w B p S) : Calls Try.prog 18 #[.pointer (some ⟨p, 0, none⟩)] w fun e w' => e = .returned (.string (ofL S.safe)) ∧ Below w.heap.size w w' := by
  obtain ⟨F, d, g⟩ := h
  exact (safe_any F p S w d).mono fun e w' q => ⟨q.1, by rw [← q.2]; exact Below.refl _ _⟩
theorem count_at (B p : Nat) (S : St) (w : World) (h : At w B p S) : Calls Try.prog 21 #[.pointer (some ⟨p, 0, none⟩)] w fun e w' => e = .returned (.int .i64 (S.count : Int)) ∧ w = w' := by
  obtain ⟨F, d, g⟩ := h
  exact count_any F p S w d
theorem after_at (B p : Nat) (S : St) (w : World) (h : At w B p S) (G : Nat → Prop) (v : Value) (ch : List Int) (hcv : CV w G v ch) :
    Calls Try.prog 19 #[.pointer (some ⟨p, 0, none⟩), v] w fun e w' => e = .returned (.string (ofL (S.after ch))) ∧ Below w.heap.size w w' := by
  obtain ⟨F, d, g⟩ := h
  exact after_any F p S w d G v ch hcv
theorem read_at (B p : Nat) (S : St) (w : World) (h : At w B p S) (i : Int) (hi : In64 i) :
    Calls Try.prog 29 #[.pointer (some ⟨p, 0, none⟩), .int .i64 i] w fun e w' => e = .returned (.tuple #[.string (ofL (S.read i).1), .int .i64 (S.read i).2]) ∧ Below w.heap.size w w' := by
  obtain ⟨F, d, g⟩ := h
  exact read_any F p S w d i hi
theorem waiting_at (B p : Nat) (S : St) (w : World) (h : At w B p S) :
    Calls Try.prog 20 #[.pointer (some ⟨p, 0, none⟩)] w fun e w' => ∃ v, e = .returned v ∧ w'.ownsRow w.heap.size 3 1 v S.waitI.length (S.waitI.map cellI) ∧ Below w.heap.size w w' := by
  obtain ⟨F, d, g⟩ := h
  exact waiting_any F p S w d
theorem size_le_of {B : Nat} {a b : World} (h : Below B a b) (hB : B ≤ a.heap.size) : B ≤ b.heap.size := Nat.le_trans hB h.size
theorem CV.two (W : World) (x y : Int) : CV (W.alloc (.cells #[.int .i64 x, .int .i64 y] 3)) (fun _ => True) (.slice (some ⟨W.heap.size, 0, none⟩) 2 2) [x, y] := by
  refine ⟨_, 2, rfl, Nat.le_refl _, fun _ => ⟨_, 0, rfl, trivial, by simp, fun j hj => ?_⟩⟩
  rw [cell_of_row _ _ _ _ _ _ (block_new W _)]
  match j, hj with
  | 0, _ => rfl
  | 1, _ => rfl
set_option maxRecDepth 20000 in
set_option maxHeartbeats 4000000 in
theorem fixed_any (w : World) : Calls Try.prog 10 #[] w fun e w' => e = .returned (.bool true) ∧ Below w.heap.size w w' := by
  obtain ⟨B0, hB0⟩ : ∃ B0, B0 = w.heap.size := ⟨_, rfl⟩
  have kz256 : Hid (∀ W, Calls Try.prog 25 #[.int .i64 256] W fun e w' => e = .returned (.string (zb 256)) ∧ Below W.heap.size W w') := fun W => noughts_any 256 (by omega) W
  have kz128 : Hid (∀ W, Calls Try.prog 25 #[.int .i64 128] W fun e w' => e = .returned (.string (zb 128)) ∧ Below W.heap.size W w') := fun W => noughts_any 128 (by omega) W
  have kz125 : Hid (∀ W, Calls Try.prog 25 #[.int .i64 125] W fun e w' => e = .returned (.string (zb 125)) ∧ Below W.heap.size W w') := fun W => noughts_any 125 (by omega) W
  have ka65 : Hid (∀ W, Calls Try.prog 27 #[.int .u8 65] W fun e w' => e = .returned (.string (ab 65)) ∧ Below W.heap.size W w') := fun W => all_any 65 (by omega) W
  have ka66 : Hid (∀ W, Calls Try.prog 27 #[.int .u8 66] W fun e w' => e = .returned (.string (ab 66)) ∧ Below W.heap.size W w') := fun W => all_any 66 (by omega) W
  have kn : Hid (∀ W, Calls Try.prog 8 #[.string (zb 256)] W fun e w' => ∃ p, e = .returned (.tuple #[.pointer (some ⟨p, 0, none⟩), .int .i64 0]) ∧ At w' W.heap.size p F0 ∧ Below W.heap.size W w') := fun W => new_at (zb 256) W (by rw [zb_size]; omega) (by unfold Bad; rw [zb_size]; omega)
  have kc : Hid (∀ B p W, At W B p F0 → Calls Try.prog 21 #[.pointer (some ⟨p, 0, none⟩)] W fun e w' => e = .returned (.int .i64 2) ∧ W = w') := fun B p W h => by have := count_at B p F0 W h; rw [q0] at this; exact this
  have kw1 : Hid (∀ B p W, At W B p F0 → B ≤ W.heap.size → Calls Try.prog 26 #[.pointer (some ⟨p, 0, none⟩), .int .i64 1, .string (ab 65)] W fun e w' => e = .returned (.int .i64 0) ∧ At w' B p F1 ∧ Below B W w') := fun B p W h hB => by have := write_at B p F0 W h hB 1 (ab 65) (by unfold In64; omega) (by rw [ab_size]; omega); rw [q1] at this; exact this
  have kw2 : Hid (∀ B p W, At W B p F1 → B ≤ W.heap.size → Calls Try.prog 26 #[.pointer (some ⟨p, 0, none⟩), .int .i64 2, .string (ab 65)] W fun e w' => e = .returned (.int .i64 71) ∧ At w' B p F2 ∧ Below B W w') := fun B p W h hB => by have := write_at B p F1 W h hB 2 (ab 65) (by unfold In64; omega) (by rw [ab_size]; omega); rw [q2] at this; exact this
  have kwt : Hid (∀ B p W, At W B p F2 → Calls Try.prog 20 #[.pointer (some ⟨p, 0, none⟩)] W fun e w' => ∃ g cap, e = .returned (.slice (some ⟨g, 0, none⟩) 1 cap) ∧ Below W.heap.size W w') := fun B p W h => (waiting_at B p F2 W h).mono fun e w' ⟨v, he, hr, hb⟩ => by
    rw [q4] at hr
    obtain ⟨_, ⟨_, h0⟩ | ⟨g, cap, cur, hv, _⟩⟩ := hr
    · omega
    · exact ⟨g, cap, by rw [he, hv], hb⟩
  have kaf : Hid (∀ B p W G v, At W B p F2 → CV W G v [0, 3] → Calls Try.prog 19 #[.pointer (some ⟨p, 0, none⟩), v] W fun e w' => e = .returned (.string (ofL (F2.after [0, 3]))) ∧ Below W.heap.size W w') := fun B p W G v h hcv => after_at B p F2 W h G v _ hcv
  have kf3 : Hid (∀ B p W, At W B p F2 → B ≤ W.heap.size → Calls Try.prog 23 #[.pointer (some ⟨p, 0, none⟩), .int .i64 0, .int .i64 3] W fun e w' => e = .returned (.int .i64 71) ∧ At w' B p F3 ∧ Below B W w') := fun B p W h hB => by have := flush_at B p F2 W h hB 0 3 (by unfold In64; omega) (by unfold In64; omega); rw [q6] at this; exact this
  have kf4 : Hid (∀ B p W, At W B p F3 → B ≤ W.heap.size → Calls Try.prog 23 #[.pointer (some ⟨p, 0, none⟩), .int .i64 1, .int .i64 1] W fun e w' => e = .returned (.int .i64 0) ∧ At w' B p F4 ∧ Below B W w') := fun B p W h hB => by have := flush_at B p F3 W h hB 1 1 (by unfold In64; omega) (by unfold In64; omega); rw [q7] at this; exact this
  have kar : Hid (∀ B p W, At W B p F4 → B ≤ W.heap.size → Calls Try.prog 28 #[.pointer (some ⟨p, 0, none⟩), .int .i64 2, .slice none 0 0] W fun e w' => e = .returned (.int .i64 0) ∧ At w' B p F5 ∧ Below B W w') := fun B p W h hB => by have := arm_at B p F4 W h hB 2 (by unfold In64; omega) (fun _ => False) (.slice none 0 0) [] (CV.nil _ _) (fun k hk => hk.elim) (fun x hx => nomatch hx); rw [q8] at this; exact this
  have kw6 : Hid (∀ B p W, At W B p F5 → B ≤ W.heap.size → Calls Try.prog 26 #[.pointer (some ⟨p, 0, none⟩), .int .i64 0, .string (ab 66)] W fun e w' => e = .returned (.int .i64 0) ∧ At w' B p F6 ∧ Below B W w') := fun B p W h hB => by have := write_at B p F5 W h hB 0 (ab 66) (by unfold In64; omega) (by rw [ab_size]; omega); rw [q9] at this; exact this
  have kf7 : Hid (∀ B p W, At W B p F6 → B ≤ W.heap.size → Calls Try.prog 23 #[.pointer (some ⟨p, 0, none⟩), .int .i64 0, .int .i64 1] W fun e w' => e = .returned (.int .i64 2) ∧ At w' B p F7 ∧ Below B W w') := fun B p W h hB => by have := flush_at B p F6 W h hB 0 1 (by unfold In64; omega) (by unfold In64; omega); rw [q10] at this; exact this
  have kr7 : Hid (∀ B p W, At W B p F7 → Calls Try.prog 29 #[.pointer (some ⟨p, 0, none⟩), .int .i64 0] W fun e w' => ∃ s, e = .returned (.tuple #[.string s, .int .i64 2]) ∧ Below W.heap.size W w') := fun B p W h => (read_at B p F7 W h 0 (by unfold In64; omega)).mono fun e w' q => by rw [q11] at q; exact ⟨_, q⟩
  have krv : Hid (∀ B p W, At W B p F7 → B ≤ W.heap.size → Calls Try.prog 24 #[.pointer (some ⟨p, 0, none⟩)] W fun e w' => e = .returned (.tuple #[]) ∧ At w' B p F8 ∧ Below B W w') := fun B p W h hB => revive_at B p F7 W h hB
  have kr8 : Hid (∀ B p W, At W B p F8 → Calls Try.prog 29 #[.pointer (some ⟨p, 0, none⟩), .int .i64 0] W fun e w' => e = .returned (.tuple #[.string (zb 128), .int .i64 0]) ∧ Below W.heap.size W w') := fun B p W h => by have := read_at B p F8 W h 0 (by unfold In64; omega); rw [q12, q12b] at this; exact this
  have kim : Hid (∀ B p W, At W B p F8 → Calls Try.prog 17 #[.pointer (some ⟨p, 0, none⟩)] W fun e w' => e = .returned (.string (ofL F8.image)) ∧ Below W.heap.size W w') := fun B p W h => image_at B p F8 W h
  have ksf : Hid (∀ B p W, At W B p F8 → Calls Try.prog 18 #[.pointer (some ⟨p, 0, none⟩)] W fun e w' => e = .returned (.string (ofL F8.image)) ∧ Below W.heap.size W w') := fun B p W h => by have := safe_at B p F8 W h; rw [q14] at this; exact this
  have e5 := q5
  have e13 := q13
  have z1 := zb_size 128
  have z2 := zb_size 125
  have z3 := ab_size 65
  have s1 : ¬ 9223372036854775807 < (zb 128).size + (⟨#[65, 65, 65]⟩ : ByteArray).size := by rw [zb_size]; decide
  have s2 : ¬ 9223372036854775807 < (zb 128 ++ ⟨#[65, 65, 65]⟩ : ByteArray).size + (zb 125).size := by rw [ByteArray.size_append, zb_size, zb_size]; decide
  have s3 : ¬ 9223372036854775807 < (zb 128).size + (ab 65).size := by rw [zb_size, ab_size]; decide
  obtain ⟨X5, hX5⟩ : ∃ X, X = ofL (F2.after [0, 3]) := ⟨_, rfl⟩
  obtain ⟨X8, hX8⟩ : ∃ X, X = ofL F8.image := ⟨_, rfl⟩
  rw [← hX5] at kaf e5
  rw [← hX8] at kim ksf e13
  clear hX5 hX8
  generalize zb 256 = Z256 at *
  generalize zb 128 = Z128 at *
  generalize zb 125 = Z125 at *
  generalize ab 65 = A65 at *
  generalize ab 66 = A66 at *
  have HB0 := Lib.hid hB0
  clear hB0
  go_enter Try.func10, Try.ntmps10
  go_wp2_with (fail)
  refine (kz256.out _).mono ?_
  rintro e v1 ⟨rfl, b1⟩
  go_wp2_with (fail)
  refine (kn.out _).mono ?_
  rintro e v2 ⟨p, rfl, a2, b2⟩
  obtain ⟨B, hB⟩ : ∃ B, B = v1.heap.size := ⟨_, rfl⟩
  rw [← hB] at a2 b2
  have g2 : Below B0 w v2 := by rw [HB0.out]; exact b1.trans (b2.mono (by rw [hB]; exact b1.size))
  have s2' : B ≤ v2.heap.size := by have := b2.size; omega
  have hB0B : B0 ≤ B := by rw [hB, HB0.out]; exact b1.size
  have HBB := Lib.hid hB0B
  clear b1 b2 hB hB0B
  go_wp2_with (fail)
  refine (kc.out B p _ a2).mono ?_
  rintro e _ ⟨rfl, rfl⟩
  go_wp2_with (fail)
  refine (ka65.out _).mono ?_
  rintro e v3 ⟨rfl, b3⟩
  have a3 := a2.below b3
  have g3 : Below B0 w v3 := g2.trans (b3.mono (by have := HBB.out; omega))
  have s3' : B ≤ v3.heap.size := Nat.le_trans s2' b3.size
  clear a2 g2 s2' b3
  go_wp2_with (fail)
  refine (kw1.out B p _ a3 s3').mono ?_
  rintro e v4 ⟨rfl, a4, b4⟩
  have g4 : Below B0 w v4 := g3.trans (b4.mono HBB.out)
  have s4' : B ≤ v4.heap.size := Nat.le_trans s3' b4.size
  clear a3 g3 s3' b4
  go_wp2_with (fail)
  refine (ka65.out _).mono ?_
  rintro e v5 ⟨rfl, b5⟩
  have a5 := a4.below b5
  have g5 : Below B0 w v5 := g4.trans (b5.mono (by have := HBB.out; omega))
  have s5' : B ≤ v5.heap.size := Nat.le_trans s4' b5.size
  clear a4 g4 s4' b5
  go_wp2_with (fail)
  refine (kw2.out B p _ a5 s5').mono ?_
  rintro e v6 ⟨rfl, a6, b6⟩
  have g6 : Below B0 w v6 := g5.trans (b6.mono HBB.out)
  have s6' : B ≤ v6.heap.size := Nat.le_trans s5' b6.size
  clear a5 g5 s5' b6
  go_wp2_with (fail)
  refine (kwt.out B p _ a6).mono ?_
  rintro e v7 ⟨gw, capw, rfl, b7⟩
  have a7 := a6.below b7
  have g7 : Below B0 w v7 := g6.trans (b7.mono (by have := HBB.out; omega))
  have s7' : B ≤ v7.heap.size := Nat.le_trans s6' b7.size
  clear a6 g6 s6' b7
  have hcv := CV.two v7 0 3
  have a8 := a7.below ((Below.refl _ v7).alloc (Nat.le_refl _) (.cells #[.int .i64 0, .int .i64 3] 3))
  have g8 : Below B0 w (v7.alloc (.cells #[.int .i64 0, .int .i64 3] 3)) := g7.alloc (by have := HBB.out; omega) _
  have s8' : B ≤ (v7.alloc (.cells #[.int .i64 0, .int .i64 3] 3)).heap.size := by simp; omega
  clear a7 g7 s7'
  obtain ⟨v8, hv8⟩ : ∃ W, v7.alloc (.cells #[.int .i64 0, .int .i64 3] 3) = W := ⟨_, rfl⟩
  rw [hv8] at hcv a8 g8 s8'
  go_wp2_with (fail)
  refine (kaf.out B p _ _ _ a8 hcv).mono ?_
  rintro e v9 ⟨rfl, b9⟩
  have a9 := a8.below b9
  have g9 : Below B0 w v9 := g8.trans (b9.mono (by have := HBB.out; omega))
  have s9' : B ≤ v9.heap.size := Nat.le_trans s8' b9.size
  clear a8 g8 s8' b9
  clear hcv hv8
  go_wp2_with (fail)
  refine (kz128.out _).mono ?_
  rintro e v10 ⟨rfl, b10⟩
  have a10 := a9.below b10
  have g10 : Below B0 w v10 := g9.trans (b10.mono (by have := HBB.out; omega))
  have s10' : B ≤ v10.heap.size := Nat.le_trans s9' b10.size
  clear a9 g9 s9' b10
  go_wp2_with (fail)
  refine (kz125.out _).mono ?_
  rintro e v11 ⟨rfl, b11⟩
  have a11 := a10.below b11
  have g11 : Below B0 w v11 := g10.trans (b11.mono (by have := HBB.out; omega))
  have s11' : B ≤ v11.heap.size := Nat.le_trans s10' b11.size
  clear a10 g10 s10' b11
  go_wp2_with (fail)
  refine (kf3.out B p _ a11 s11').mono ?_
  rintro e v12 ⟨rfl, a12, b12⟩
  have g12 : Below B0 w v12 := g11.trans (b12.mono HBB.out)
  have s12' : B ≤ v12.heap.size := Nat.le_trans s11' b12.size
  clear a11 g11 s11' b12
  go_wp2_with (fail)
  refine (kf4.out B p _ a12 s12').mono ?_
  rintro e v13 ⟨rfl, a13, b13⟩
  have g13 : Below B0 w v13 := g12.trans (b13.mono HBB.out)
  have s13' : B ≤ v13.heap.size := Nat.le_trans s12' b13.size
  clear a12 g12 s12' b13
  go_wp2_with (fail)
  refine (kar.out B p _ a13 s13').mono ?_
  rintro e v14 ⟨rfl, a14, b14⟩
  have g14 : Below B0 w v14 := g13.trans (b14.mono HBB.out)
  have s14' : B ≤ v14.heap.size := Nat.le_trans s13' b14.size
  clear a13 g13 s13' b14
  go_wp2_with (fail)
  refine (ka66.out _).mono ?_
  rintro e v15 ⟨rfl, b15⟩
  have a15 := a14.below b15
  have g15 : Below B0 w v15 := g14.trans (b15.mono (by have := HBB.out; omega))
  have s15' : B ≤ v15.heap.size := Nat.le_trans s14' b15.size
  clear a14 g14 s14' b15
  go_wp2_with (fail)
  refine (kw6.out B p _ a15 s15').mono ?_
  rintro e v16 ⟨rfl, a16, b16⟩
  have g16 : Below B0 w v16 := g15.trans (b16.mono HBB.out)
  have s16' : B ≤ v16.heap.size := Nat.le_trans s15' b16.size
  clear a15 g15 s15' b16
  go_wp2_with (fail)
  refine (kf7.out B p _ a16 s16').mono ?_
  rintro e v17 ⟨rfl, a17, b17⟩
  have g17 : Below B0 w v17 := g16.trans (b17.mono HBB.out)
  have s17' : B ≤ v17.heap.size := Nat.le_trans s16' b17.size
  clear a16 g16 s16' b17
  go_wp2_with (fail)
  refine (kr7.out B p _ a17).mono ?_
  rintro e v18 ⟨sr, rfl, b18⟩
  have a18 := a17.below b18
  have g18 : Below B0 w v18 := g17.trans (b18.mono (by have := HBB.out; omega))
  have s18' : B ≤ v18.heap.size := Nat.le_trans s17' b18.size
  clear a17 g17 s17' b18
  go_wp2_with (fail)
  refine (krv.out B p _ a18 s18').mono ?_
  rintro e v19 ⟨rfl, a19, b19⟩
  have g19 : Below B0 w v19 := g18.trans (b19.mono HBB.out)
  have s19' : B ≤ v19.heap.size := Nat.le_trans s18' b19.size
  clear a18 g18 s18' b19
  go_wp2_with (fail)
  refine (kr8.out B p _ a19).mono ?_
  rintro e v20 ⟨rfl, b20⟩
  have a20 := a19.below b20
  have g20 : Below B0 w v20 := g19.trans (b20.mono (by have := HBB.out; omega))
  have s20' : B ≤ v20.heap.size := Nat.le_trans s19' b20.size
  clear a19 g19 s19' b20
  go_wp2_with (fail)
  refine (kz128.out _).mono ?_
  rintro e v21 ⟨rfl, b21⟩
  have a21 := a20.below b21
  have g21 : Below B0 w v21 := g20.trans (b21.mono (by have := HBB.out; omega))
  have s21' : B ≤ v21.heap.size := Nat.le_trans s20' b21.size
  clear a20 g20 s20' b21
  go_wp2_with (fail)
  refine (kim.out B p _ a21).mono ?_
  rintro e v22 ⟨rfl, b22⟩
  have a22 := a21.below b22
  have g22 : Below B0 w v22 := g21.trans (b22.mono (by have := HBB.out; omega))
  have s22' : B ≤ v22.heap.size := Nat.le_trans s21' b22.size
  clear a21 g21 s21' b22
  go_wp2_with (fail)
  refine (kz128.out _).mono ?_
  rintro e v23 ⟨rfl, b23⟩
  have a23 := a22.below b23
  have g23 : Below B0 w v23 := g22.trans (b23.mono (by have := HBB.out; omega))
  have s23' : B ≤ v23.heap.size := Nat.le_trans s22' b23.size
  clear a22 g22 s22' b23
  go_wp2_with (fail)
  refine (ka65.out _).mono ?_
  rintro e v24 ⟨rfl, b24⟩
  have a24 := a23.below b24
  have g24 : Below B0 w v24 := g23.trans (b24.mono (by have := HBB.out; omega))
  have s24' : B ≤ v24.heap.size := Nat.le_trans s23' b24.size
  clear a23 g23 s23' b24
  go_wp2_with (fail)
  refine (ksf.out B p _ a24).mono ?_
  rintro e v25 ⟨rfl, b25⟩
  have a25 := a24.below b25
  have g25 : Below B0 w v25 := g24.trans (b25.mono (by have := HBB.out; omega))
  have s25' : B ≤ v25.heap.size := Nat.le_trans s24' b25.size
  clear a24 g24 s24' b25
  go_wp2_with (fail)
  refine (kim.out B p _ a25).mono ?_
  rintro e v26 ⟨rfl, b26⟩
  have a26 := a25.below b26
  have g26 : Below B0 w v26 := g25.trans (b26.mono (by have := HBB.out; omega))
  have s26' : B ≤ v26.heap.size := Nat.le_trans s25' b26.size
  clear a25 g25 s25' b26
  go_wp2
  go_ret
  exact ⟨rfl, by rw [← HB0.out]; exact g26⟩
end Go.Proofs.Ytcmhpkeighenaaa
