/- The calls whose answers the document fixes: what the call returns. No conditions. -/
import Derived.Test.YtnhfbeehoifddaaStw
namespace Go.Proofs.Ytnhfbeehoifddaa
open Go.RowKit Go.Maps
set_option linter.unusedVariables false

def T3 : List Pg := [(1, 3), (-1, 0), (0, 5)]
def s6 : ByteArray := ⟨#[97, 98, 99, 100, 101, 102]⟩
def s7 : ByteArray := ⟨#[97, 98, 99, 100, 101, 102, 103]⟩
def s1x : ByteArray := ⟨#[120]⟩
def F0 : Bts := nb (256 * 2)
def F1 : Bts := writeB 2 T3 F0 250 s6.data.toList
def F2 : Bts := writeB 2 T3 F1 250 s7.data.toList
def F3 : Bts := writeB 2 T3 F2 512 s1x.data.toList
def F4 : Bts := storeB 2 T3 F3 0 4 (-2)
def F5 : Bts := layB 2 F4 2 0 []
def F6 : Bts := clrB 2 F5 1
theorem q1 : writeE 2 T3 250 6 = 0 := by kernel_rfl
theorem q2 : writeE 2 T3 250 7 = 81 := by kernel_rfl
theorem q3 : writeE 2 T3 512 1 = 82 := by kernel_rfl
theorem q4 : storeE 2 T3 0 4 = 0 := by kernel_rfl
theorem q5 : layE 2 2 0 0 = 83 := by kernel_rfl
theorem q6 : chk 2 [(2, 0)] = 84 := by kernel_rfl
theorem q7 : readE 2 T3 250 6 1 = 0 := by kernel_rfl
theorem q8 : ofL (readS 2 T3 F5 250 6 1) = s6 := by kernel_rfl
theorem q9 : loadE 2 T3 0 4 1 = 0 := by kernel_rfl
theorem q10 : loadN 2 T3 F5 0 4 1 = 4294967294 := by kernel_rfl
theorem q11 : (ofL (frameB F5 1)).size = 256 := by kernel_rfl
theorem q12 : (ofL (frameB F5 1)).extract 250 256 = s6 := by kernel_rfl
def tabO : Obj := .cells #[.int .i64 1, .int .i64 3, .int .i64 (-1), .int .i64 0, .int .i64 0, .int .i64 5] 53
theorem tab3 (W : World) : TabV (fun k => k = W.heap.size) (W.alloc tabO) (.slice (some ⟨W.heap.size, 0, none⟩) 3 3) T3 := by
  refine ⟨_, 3, rfl, Nat.le_refl _, fun _ => ⟨_, 0, rfl, rfl, by simp, fun j hj => ?_⟩⟩
  have hb := block_new W tabO
  rw [cell_of_row _ _ _ _ _ _ hb, cell_of_row _ _ _ _ _ _ hb]
  match j, hj with
  | 0, _ => exact ⟨rfl, rfl⟩
  | 1, _ => exact ⟨rfl, rfl⟩
  | 2, _ => exact ⟨rfl, rfl⟩
set_option maxHeartbeats 1000000 in
theorem table_any (W : World) : Calls Try.prog 31 #[] W fun e w' => e = .returned (.slice (some ⟨W.heap.size, 0, none⟩) 3 3) ∧ w' = W.alloc tabO := by
  go_enter Try.func31, Try.ntmps31
  go_wp2
  go_ret
  exact ⟨rfl, rfl⟩
theorem tab1 (W : World) : TabV (fun k => k = W.heap.size) (W.alloc (.cells #[.int .i64 2, .int .i64 0] 53)) (.slice (some ⟨W.heap.size, 0, none⟩) 1 1) [(2, 0)] := by
  refine ⟨_, 1, rfl, Nat.le_refl _, fun _ => ⟨_, 0, rfl, rfl, by simp, fun j hj => ?_⟩⟩
  have hb := block_new W (.cells #[.int .i64 2, .int .i64 0] 53)
  rw [cell_of_row _ _ _ _ _ _ hb, cell_of_row _ _ _ _ _ _ hb]
  match j, hj with
  | 0, _ => exact ⟨rfl, rfl⟩
theorem below_ch {w0 w w' : World} {B0 g : Nat} (h : Below B0 w0 w) (hc : Ch (onB g) w w') (hB : B0 ≤ w.heap.size) (hg : B0 ≤ g) : Below B0 w0 w' :=
  h.trans (hc.below hB (fun k hk => by cases hk; exact hg))
set_option maxRecDepth 20000 in
set_option maxHeartbeats 4000000 in
theorem fixed_any (w : World) : Calls Try.prog 12 #[] w fun e w' => e = .returned (.bool true) ∧ Below w.heap.size w w' := by
  obtain ⟨B0, hB0⟩ : ∃ B0, B0 = w.heap.size := ⟨_, rfl⟩
  have kn : Hid (∀ W, Calls Try.prog 10 #[.int .i64 2] W fun e w' => ∃ p, e = .returned (.tuple #[.pointer (some ⟨p, 0, none⟩), .int .i64 0]) ∧ NewM W w' p 2 F0) := fun W => new_any 2 W (by omega)
  have kn0 : Hid (∀ W, Calls Try.prog 10 #[.int .i64 0] W fun e w' => e = .returned (.tuple #[.pointer none, .int .i64 80]) ∧ W = w') := fun W => new_no 0 W (by omega)
  have kw1 : Hid (∀ W p g cap tb, IsM W p g cap 2 F0 → TabV (fun k => k = tb) W (.slice (some ⟨tb, 0, none⟩) 3 3) T3 → g ≠ tb → Calls Try.prog 27 #[.pointer (some ⟨p, 0, none⟩), .slice (some ⟨tb, 0, none⟩) 3 3, .int .i64 250, .string s6] W fun e w' => e = .returned (.int .i64 0) ∧ IsM w' p g cap 2 F1 ∧ Ch (onB g) W w') := fun W p g cap tb h ht hg => by
    have := write_any p g cap 2 F0 W h _ hg _ T3 ht 250 s6 (by unfold In64; omega) (by decide)
    rw [show writeE 2 T3 250 s6.size = 0 from q1] at this
    exact this
  have kw2 : Hid (∀ W p g cap tb, IsM W p g cap 2 F1 → TabV (fun k => k = tb) W (.slice (some ⟨tb, 0, none⟩) 3 3) T3 → g ≠ tb → Calls Try.prog 27 #[.pointer (some ⟨p, 0, none⟩), .slice (some ⟨tb, 0, none⟩) 3 3, .int .i64 250, .string s7] W fun e w' => e = .returned (.int .i64 81) ∧ IsM w' p g cap 2 F2 ∧ Ch (onB g) W w') := fun W p g cap tb h ht hg => by
    have := write_any p g cap 2 F1 W h _ hg _ T3 ht 250 s7 (by unfold In64; omega) (by decide)
    rw [show writeE 2 T3 250 s7.size = 81 from q2] at this
    exact this
  have kw3 : Hid (∀ W p g cap tb, IsM W p g cap 2 F2 → TabV (fun k => k = tb) W (.slice (some ⟨tb, 0, none⟩) 3 3) T3 → g ≠ tb → Calls Try.prog 27 #[.pointer (some ⟨p, 0, none⟩), .slice (some ⟨tb, 0, none⟩) 3 3, .int .i64 512, .string s1x] W fun e w' => e = .returned (.int .i64 82) ∧ IsM w' p g cap 2 F3 ∧ Ch (onB g) W w') := fun W p g cap tb h ht hg => by
    have := write_any p g cap 2 F2 W h _ hg _ T3 ht 512 s1x (by unfold In64; omega) (by decide)
    rw [show writeE 2 T3 512 s1x.size = 82 from q3] at this
    exact this
  have ks : Hid (∀ W p g cap tb, IsM W p g cap 2 F3 → TabV (fun k => k = tb) W (.slice (some ⟨tb, 0, none⟩) 3 3) T3 → g ≠ tb → Calls Try.prog 29 #[.pointer (some ⟨p, 0, none⟩), .slice (some ⟨tb, 0, none⟩) 3 3, .int .i64 0, .int .i64 4, .int .i64 (-2)] W fun e w' => e = .returned (.int .i64 0) ∧ IsM w' p g cap 2 F4 ∧ Ch (onB g) W w') := fun W p g cap tb h ht hg => by
    have := store_any p g cap 2 F3 W h _ hg _ T3 ht 0 4 (-2) (by unfold In64; omega) (by unfold In64; omega)
    rw [q4] at this
    exact this
  have kl : Hid (∀ W p g cap, IsM W p g cap 2 F4 → Calls Try.prog 25 #[.pointer (some ⟨p, 0, none⟩), .int .i64 2, .int .i64 0, .string ⟨#[]⟩] W fun e w' => e = .returned (.int .i64 83) ∧ IsM w' p g cap 2 F5 ∧ Ch (onB g) W w') := fun W p g cap h => by
    have := lay_any p g cap 2 F4 W h 2 0 ⟨#[]⟩ (by decide)
    rw [show layE 2 2 0 (⟨#[]⟩ : ByteArray).size = 83 from q5] at this
    exact this
  have kc : Hid (∀ W p g cap tb, IsM W p g cap 2 F5 → TabV (fun k => k = tb) W (.slice (some ⟨tb, 0, none⟩) 1 1) [(2, 0)] → Calls Try.prog 16 #[.pointer (some ⟨p, 0, none⟩), .slice (some ⟨tb, 0, none⟩) 1 1] W fun e w' => e = .returned (.int .i64 84) ∧ Below W.heap.size W w') := fun W p g cap tb h ht => by
    have := check_any p g cap 2 F5 W h _ _ _ ht
    rw [q6] at this
    exact this
  have kr : Hid (∀ W p g cap tb, IsM W p g cap 2 F5 → TabV (fun k => k = tb) W (.slice (some ⟨tb, 0, none⟩) 3 3) T3 → Calls Try.prog 26 #[.pointer (some ⟨p, 0, none⟩), .slice (some ⟨tb, 0, none⟩) 3 3, .int .i64 250, .int .i64 6, .int .i64 1] W fun e w' => e = .returned (.tuple #[.string s6, .int .i64 0]) ∧ Below W.heap.size W w') := fun W p g cap tb h ht => by
    have := read_any p g cap 2 F5 W h _ _ T3 ht 250 6 1 (by unfold In64; omega)
    rw [q7, q8] at this
    exact this
  have kd : Hid (∀ W p g cap tb, IsM W p g cap 2 F5 → TabV (fun k => k = tb) W (.slice (some ⟨tb, 0, none⟩) 3 3) T3 → Calls Try.prog 28 #[.pointer (some ⟨p, 0, none⟩), .slice (some ⟨tb, 0, none⟩) 3 3, .int .i64 0, .int .i64 4, .int .i64 1] W fun e w' => e = .returned (.tuple #[.int .i64 4294967294, .int .i64 0]) ∧ Below W.heap.size W w') := fun W p g cap tb h ht => by
    have := load_any p g cap 2 F5 W h _ _ T3 ht 0 4 1 (by unfold In64; omega)
    rw [q9, q10] at this
    exact this
  have kf : Hid (∀ W p g cap, IsM W p g cap 2 F5 → Calls Try.prog 20 #[.pointer (some ⟨p, 0, none⟩), .int .i64 1] W fun e w' => e = .returned (.tuple #[.string (ofL (frameB F5 1)), .int .i64 0]) ∧ W = w') := fun W p g cap h => by
    have := frame_any p g cap 2 F5 W h 1
    rw [if_pos (by unfold isF; omega)] at this
    exact this
  have kfs : Hid (∀ W p g cap, IsM W p g cap 2 F5 → Calls Try.prog 19 #[.pointer (some ⟨p, 0, none⟩)] W fun e w' => e = .returned (.int .i64 2) ∧ W = w') := fun W p g cap h => frames_any p g cap 2 F5 W h
  have kcl : Hid (∀ W p g cap, IsM W p g cap 2 F5 → Calls Try.prog 15 #[.pointer (some ⟨p, 0, none⟩), .int .i64 1] W fun e w' => e = .returned (.int .i64 0) ∧ IsM w' p g cap 2 F6 ∧ Ch (onB g) W w') := fun W p g cap h => by
    have := clear_any p g cap 2 F5 W h 1
    rw [if_pos (by unfold isF; omega)] at this
    exact this
  have e11 := q11
  have e12 := q12
  have hs6 : s6 = ⟨#[97, 98, 99, 100, 101, 102]⟩ := rfl
  have hs7 : s7 = ⟨#[97, 98, 99, 100, 101, 102, 103]⟩ := rfl
  have hs1 : s1x = ⟨#[120]⟩ := rfl
  obtain ⟨X, hX⟩ : ∃ X, X = ofL (frameB F5 1) := ⟨_, rfl⟩
  rw [← hX] at kf e11 e12
  clear hX
  rw [hs6] at kw1 kr e12
  rw [hs7] at kw2
  rw [hs1] at kw3
  clear hs6 hs7 hs1
  generalize F0 = F0 at *
  have HB0 := Lib.hid hB0
  clear hB0
  go_enter Try.func12, Try.ntmps12
  go_wp2_with (fail)
  refine (kn.out _).mono ?_
  rintro e v1 ⟨p, rfl, g, cap, a1, b1, hp, hg⟩
  rw [← HB0.out] at b1 hp hg
  have HP := Lib.hid (And.intro hp hg)
  have g1 : Below B0 w v1 := b1
  have z1 : B0 ≤ v1.heap.size := by have := b1.size; have := HB0.out; omega
  clear b1 hp hg
  go_wp2_with (fail)
  refine (kn0.out _).mono ?_
  rintro e _ ⟨rfl, rfl⟩
  go_wp2_with (fail)
  refine (table_any _).mono ?_
  rintro e _ ⟨rfl, rfl⟩
  have t2 := tab3 v1
  have al2 : Below v1.heap.size v1 (v1.alloc tabO) := (Below.refl _ v1).alloc (Nat.le_refl _) _
  have a2 := a1.below al2
  have g2 : Below B0 w (v1.alloc tabO) := g1.trans (al2.mono z1)
  have z2 : B0 ≤ (v1.alloc tabO).heap.size := Nat.le_trans z1 al2.size
  have n2 : g ≠ v1.heap.size := by have := a1.lt; omega
  obtain ⟨tb, htb⟩ : ∃ tb, tb = v1.heap.size := ⟨_, rfl⟩
  rw [← htb] at t2 n2 ⊢
  generalize v1.alloc tabO = v2 at *
  clear htb al2 a1 g1 z1
  go_wp2_with (fail)
  refine (kw1.out _ _ _ _ _ a2 t2 n2).mono ?_
  rintro e v3 ⟨rfl, a3, c3⟩
  have g3 : Below B0 w v3 := below_ch g2 c3 z2 HP.out.2
  have z3 : B0 ≤ v3.heap.size := Nat.le_trans z2 c3.size
  clear a2 g2 z2 c3
  clear t2 n2
  go_wp2_with (fail)
  refine (table_any _).mono ?_
  rintro e _ ⟨rfl, rfl⟩
  have t4 := tab3 v3
  have al4 : Below v3.heap.size v3 (v3.alloc tabO) := (Below.refl _ v3).alloc (Nat.le_refl _) _
  have a4 := a3.below al4
  have g4 : Below B0 w (v3.alloc tabO) := g3.trans (al4.mono z3)
  have z4 : B0 ≤ (v3.alloc tabO).heap.size := Nat.le_trans z3 al4.size
  have n4 : g ≠ v3.heap.size := by have := a3.lt; omega
  obtain ⟨tb, htb⟩ : ∃ tb, tb = v3.heap.size := ⟨_, rfl⟩
  rw [← htb] at t4 n4 ⊢
  generalize v3.alloc tabO = v4 at *
  clear htb al4 a3 g3 z3
  go_wp2_with (fail)
  refine (kw2.out _ _ _ _ _ a4 t4 n4).mono ?_
  rintro e v5 ⟨rfl, a5, c5⟩
  have g5 : Below B0 w v5 := below_ch g4 c5 z4 HP.out.2
  have z5 : B0 ≤ v5.heap.size := Nat.le_trans z4 c5.size
  clear a4 g4 z4 c5
  clear t4 n4
  go_wp2_with (fail)
  refine (table_any _).mono ?_
  rintro e _ ⟨rfl, rfl⟩
  have t6 := tab3 v5
  have al6 : Below v5.heap.size v5 (v5.alloc tabO) := (Below.refl _ v5).alloc (Nat.le_refl _) _
  have a6 := a5.below al6
  have g6 : Below B0 w (v5.alloc tabO) := g5.trans (al6.mono z5)
  have z6 : B0 ≤ (v5.alloc tabO).heap.size := Nat.le_trans z5 al6.size
  have n6 : g ≠ v5.heap.size := by have := a5.lt; omega
  obtain ⟨tb, htb⟩ : ∃ tb, tb = v5.heap.size := ⟨_, rfl⟩
  rw [← htb] at t6 n6 ⊢
  generalize v5.alloc tabO = v6 at *
  clear htb al6 a5 g5 z5
  go_wp2_with (fail)
  refine (kw3.out _ _ _ _ _ a6 t6 n6).mono ?_
  rintro e v7 ⟨rfl, a7, c7⟩
  have g7 : Below B0 w v7 := below_ch g6 c7 z6 HP.out.2
  have z7 : B0 ≤ v7.heap.size := Nat.le_trans z6 c7.size
  clear a6 g6 z6 c7
  clear t6 n6
  go_wp2_with (fail)
  refine (table_any _).mono ?_
  rintro e _ ⟨rfl, rfl⟩
  have t8 := tab3 v7
  have al8 : Below v7.heap.size v7 (v7.alloc tabO) := (Below.refl _ v7).alloc (Nat.le_refl _) _
  have a8 := a7.below al8
  have g8 : Below B0 w (v7.alloc tabO) := g7.trans (al8.mono z7)
  have z8 : B0 ≤ (v7.alloc tabO).heap.size := Nat.le_trans z7 al8.size
  have n8 : g ≠ v7.heap.size := by have := a7.lt; omega
  obtain ⟨tb, htb⟩ : ∃ tb, tb = v7.heap.size := ⟨_, rfl⟩
  rw [← htb] at t8 n8 ⊢
  generalize v7.alloc tabO = v8 at *
  clear htb al8 a7 g7 z7
  go_wp2_with (fail)
  refine (ks.out _ _ _ _ _ a8 t8 n8).mono ?_
  rintro e v9 ⟨rfl, a9, c9⟩
  have g9 : Below B0 w v9 := below_ch g8 c9 z8 HP.out.2
  have z9 : B0 ≤ v9.heap.size := Nat.le_trans z8 c9.size
  clear a8 g8 z8 c9
  clear t8 n8
  go_wp2_with (fail)
  refine (kl.out _ _ _ _ a9).mono ?_
  rintro e v10 ⟨rfl, a10, c10⟩
  have g10 : Below B0 w v10 := below_ch g9 c10 z9 HP.out.2
  have z10 : B0 ≤ v10.heap.size := Nat.le_trans z9 c10.size
  clear a9 g9 z9 c10
  have t11 := tab1 v10
  have al11 : Below v10.heap.size v10 (v10.alloc (.cells #[.int .i64 2, .int .i64 0] 53)) := (Below.refl _ v10).alloc (Nat.le_refl _) _
  have a11 := a10.below al11
  have g11 : Below B0 w (v10.alloc (.cells #[.int .i64 2, .int .i64 0] 53)) := g10.trans (al11.mono z10)
  have z11 : B0 ≤ (v10.alloc (.cells #[.int .i64 2, .int .i64 0] 53)).heap.size := Nat.le_trans z10 al11.size
  go_wp2_with (fail)
  refine (kc.out _ _ _ _ _ a11 t11).mono ?_
  rintro e v12 ⟨rfl, b12⟩
  have a12 := a11.below b12
  have g12 : Below B0 w v12 := g11.trans (b12.mono z11)
  have z12 : B0 ≤ v12.heap.size := Nat.le_trans z11 b12.size
  clear a10 g10 z10 t11 al11 a11 g11 z11 b12
  go_wp2_with (fail)
  refine (table_any _).mono ?_
  rintro e _ ⟨rfl, rfl⟩
  have t13 := tab3 v12
  have al13 : Below v12.heap.size v12 (v12.alloc tabO) := (Below.refl _ v12).alloc (Nat.le_refl _) _
  have a13 := a12.below al13
  have g13 : Below B0 w (v12.alloc tabO) := g12.trans (al13.mono z12)
  have z13 : B0 ≤ (v12.alloc tabO).heap.size := Nat.le_trans z12 al13.size
  have n13 : g ≠ v12.heap.size := by have := a12.lt; omega
  obtain ⟨tb, htb⟩ : ∃ tb, tb = v12.heap.size := ⟨_, rfl⟩
  rw [← htb] at t13 n13 ⊢
  generalize v12.alloc tabO = v13 at *
  clear htb al13 a12 g12 z12
  go_wp2_with (fail)
  refine (kr.out _ _ _ _ _ a13 t13).mono ?_
  rintro e v14 ⟨rfl, b14⟩
  have a14 := a13.below b14
  have g14 : Below B0 w v14 := g13.trans (b14.mono z13)
  have z14 : B0 ≤ v14.heap.size := Nat.le_trans z13 b14.size
  clear a13 g13 z13 b14
  clear t13 n13
  go_wp2_with (fail)
  refine (table_any _).mono ?_
  rintro e _ ⟨rfl, rfl⟩
  have t15 := tab3 v14
  have al15 : Below v14.heap.size v14 (v14.alloc tabO) := (Below.refl _ v14).alloc (Nat.le_refl _) _
  have a15 := a14.below al15
  have g15 : Below B0 w (v14.alloc tabO) := g14.trans (al15.mono z14)
  have z15 : B0 ≤ (v14.alloc tabO).heap.size := Nat.le_trans z14 al15.size
  have n15 : g ≠ v14.heap.size := by have := a14.lt; omega
  obtain ⟨tb, htb⟩ : ∃ tb, tb = v14.heap.size := ⟨_, rfl⟩
  rw [← htb] at t15 n15 ⊢
  generalize v14.alloc tabO = v15 at *
  clear htb al15 a14 g14 z14
  go_wp2_with (fail)
  refine (kd.out _ _ _ _ _ a15 t15).mono ?_
  rintro e v16 ⟨rfl, b16⟩
  have a16 := a15.below b16
  have g16 : Below B0 w v16 := g15.trans (b16.mono z15)
  have z16 : B0 ≤ v16.heap.size := Nat.le_trans z15 b16.size
  clear a15 g15 z15 b16
  clear t15 n15
  go_wp2_with (fail)
  refine (kf.out _ _ _ _ a16).mono ?_
  rintro e _ ⟨rfl, rfl⟩
  go_wp2_with (fail)
  refine (kfs.out _ _ _ _ a16).mono ?_
  rintro e _ ⟨rfl, rfl⟩
  go_wp2_with (fail)
  refine (kcl.out _ _ _ _ a16).mono ?_
  rintro e v17 ⟨rfl, a17, c17⟩
  have g17 : Below B0 w v17 := below_ch g16 c17 z16 HP.out.2
  have z17 : B0 ≤ v17.heap.size := Nat.le_trans z16 c17.size
  clear a16 g16 z16 c17
  go_wp2
  go_ret
  rw [← HB0.out]
  exact ⟨rfl, g17⟩
end Go.Proofs.Ytnhfbeehoifddaa
