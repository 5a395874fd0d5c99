/- What the law tries by hand is so. Conditions: none. -/
import Derived.Test.YtjippoejaieneaaGreatJod
import Derived.Test.YtjippoejaieneaaGreatJfy
namespace Go.Proofs.YtjippoejaieneaaGreat
open Go.RowKit Go.Maps
set_option maxRecDepth 20000
set_option linter.unusedVariables false

theorem wv2 (W : World) (c0 c1 : Int) (d0 d1 : ByteArray) : WV (W.alloc (.cells #[.int .i64 c0, .string d0, .int .i64 c1, .string d1] 84)) (fun k => W.heap.size ≤ k ∧ k < (W.alloc (.cells #[.int .i64 c0, .string d0, .int .i64 c1, .string d1] 84)).heap.size) (.slice (some ⟨W.heap.size, 0, none⟩) 2 2) [⟨c0, d0⟩, ⟨c1, d1⟩] := by
  refine ⟨_, 2, rfl, Nat.le_refl _, fun i hi => ⟨W.heap.size, 0, rfl, ⟨Nat.le_refl _, by simp⟩, by simp, ?_, ?_⟩⟩
  · rw [cell_of_row _ _ _ _ _ _ (block_new W _)]
    match i, hi with
    | 0, _ => rfl
    | 1, _ => rfl
  · rw [cell_of_row _ _ _ _ _ _ (block_new W _)]
    match i, hi with
    | 0, _ => rfl
    | 1, _ => rfl
theorem wv1 (W : World) (c0 : Int) (d0 : ByteArray) : WV (W.alloc (.cells #[.int .i64 c0, .string d0] 84)) (fun k => W.heap.size ≤ k ∧ k < (W.alloc (.cells #[.int .i64 c0, .string d0] 84)).heap.size) (.slice (some ⟨W.heap.size, 0, none⟩) 1 1) [⟨c0, d0⟩] := by
  refine ⟨_, 1, rfl, Nat.le_refl _, fun i hi => ⟨W.heap.size, 0, rfl, ⟨Nat.le_refl _, by simp⟩, by simp, ?_, ?_⟩⟩
  · rw [cell_of_row _ _ _ _ _ _ (block_new W _)]
    match i, hi with
    | 0, _ => rfl
  · rw [cell_of_row _ _ _ _ _ _ (block_new W _)]
    match i, hi with
    | 0, _ => rfl
theorem acrash_at (B p : Nat) (S : St) (w : World) (h : At w B p S) (hB : B ≤ w.heap.size) (G : Nat → Prop) (v : Value) (ch : List Int) (hcv : CV w G v ch) (hd : S.dead = false) :
    Calls Tryz.prog 32 #[.pointer (some ⟨p, 0, none⟩), v] w fun e w' => e = .returned (.int .i64 0) ∧ At w' B p (S.lose ch) ∧ Below B w w' := by
  obtain ⟨F, hdk, hF⟩ := h
  have := crash_any F p S w hdk G v ch hcv
  unfold St.crash at this
  rw [hd, if_neg (by simp)] at this
  refine this.mono fun e w' z => ?_
  obtain ⟨z1, F', i, g, c⟩ := z
  refine ⟨z1, ⟨F', i, fun k hk => ?_⟩, c.below hB (fun k hk => (hF k hk).1)⟩
  rcases g k hk with y | y
  · exact ⟨(hF k y).1, Nat.lt_of_lt_of_le (hF k y).2 c.size⟩
  · exact ⟨Nat.le_trans hB y.1, y.2⟩
theorem arevive_at (B p : Nat) (S : St) (w : World) (h : At w B p S) (hB : B ≤ w.heap.size) :
    Calls Tryz.prog 19 #[.pointer (some ⟨p, 0, none⟩)] w fun e w' => e = .returned (.tuple #[]) ∧ At w' B p S.revive ∧ Below B w w' := by
  obtain ⟨F, hdk, hF⟩ := h
  refine (revive_any F p S w hdk).mono fun e w' z => ⟨z.1, ⟨F, z.2.1, fun k hk => ?_⟩, z.2.2.1.below hB (fun k hk => (hF k hk).1)⟩
  exact ⟨(hF k hk).1, Nat.lt_of_lt_of_le (hF k hk).2 z.2.2.1.size⟩
set_option maxHeartbeats 8000000 in
theorem fixed_any (w : World) : Calls Tryz.prog 9 #[] w fun e w' => e = .returned (.bool true) ∧ Below w.heap.size w w' := by
  obtain ⟨b1, b2, b3, b4, b5⟩ := jgb
  have c0 : Calm 1024 jS0 := (calm_run (fmtS 8) (lcalm (b := 8) (by omega) (by omega)) (lgood (b := 8) (by omega) (by omega))).2
  have hg0 : Good jS0 jV0 := (run_good (fmtS 8) (lcalm (b := 8) (by omega) (by omega)).ok (lgood (b := 8) (by omega) (by omega))).1
  have c1 : Calm 1024 jS1 := (calm_run fL1 c0 hg0).2
  have hg1 : Good jS1 jV1 := (run_good fL1 c0.ok hg0).1
  have K21 : Hid (Calls Tryz.prog 21 #[.int .i64 8, .int .i64 5] w fun e w' => ∃ j x p, e = .returned (.tuple #[.pointer (some ⟨p, 0, none⟩), .pointer (some ⟨j, 0, none⟩), .int .i64 0]) ∧ JAt w' w.heap.size j x p jS0 jV0 jJ0 ∧ Below w.heap.size w w') := (laid_any 8 5 w (by omega) (by omega) (by unfold In64; omega)).mono fun e w' q => by
    rcases q.2 with ⟨z, _⟩ | ⟨_, j, x, p, z1, z2⟩
    · exact absurd z (by decide)
    · exact ⟨j, x, p, z1, z2, q.1⟩
  have K29 : Hid (∀ W j x p, JAt W w.heap.size j x p jS0 jV0 jJ0 → Calls Tryz.prog 29 #[.pointer (some ⟨j, 0, none⟩)] W fun e w' => e = .returned (.int .i64 3) ∧ JAt w' w.heap.size j x p jS0 jV0 jJ0 ∧ Below w.heap.size W w') := fun W j x p h => (jat_cells _ j x p _ _ _ W h).mono fun e w' q => ⟨by rw [q.1, b1], h.below q.2, q.2.mono h.1⟩
  have K26 : Hid (∀ W j x p, JAt W w.heap.size j x p jS0 jV0 jJ0 → Calls Tryz.prog 26 #[.pointer (some ⟨j, 0, none⟩)] W fun e w' => e = .returned (.int .i64 2) ∧ W = w') := fun W j x p h => (jat_room _ j x p _ _ _ W h).mono fun e w' q => ⟨by rw [q.1, b2], q.2⟩
  have K23 : Hid (∀ W j x p, JAt W w.heap.size j x p jS0 jV0 jJ0 → Calls Tryz.prog 23 #[.pointer (some ⟨j, 0, none⟩)] W fun e w' => e = .returned (.int .i64 1) ∧ W = w') := fun W j x p h => (jat_next _ j x p _ _ _ W h).mono fun e w' q => ⟨by rw [q.1, b3], q.2⟩
  have K26b : Hid (∀ W j x p, JAt W w.heap.size j x p jS1 jV1 jJ1 → Calls Tryz.prog 26 #[.pointer (some ⟨j, 0, none⟩)] W fun e w' => e = .returned (.int .i64 0) ∧ W = w') := fun W j x p h => (jat_room _ j x p _ _ _ W h).mono fun e w' q => ⟨by rw [q.1, b4], q.2⟩
  have K23b : Hid (∀ W j x p, JAt W w.heap.size j x p jS1 jV1 jJ1 → Calls Tryz.prog 23 #[.pointer (some ⟨j, 0, none⟩)] W fun e w' => e = .returned (.int .i64 2) ∧ W = w') := fun W j x p h => (jat_next _ j x p _ _ _ W h).mono fun e w' q => ⟨by rw [q.1, b5], q.2⟩
  have K1 : Hid (∀ W j x p, JAt W w.heap.size j x p jS0 jV0 jJ0 → Calls Tryz.prog 24 #[.pointer (some ⟨j, 0, none⟩), .slice (some ⟨W.heap.size, 0, none⟩) 2 2] (W.alloc (.cells #[.int .i64 0, .string ⟨#[97]⟩, .int .i64 1, .string ⟨#[98]⟩] 84)) fun e w' => e = .returned (.int .i64 0) ∧ JAt w' w.heap.size j x p jS1 jV1 jJ1 ∧ Below w.heap.size W w') := fun W j x p h => by
    have ha := Below.alloc (Below.refl W.heap.size W) (Nat.le_refl _) (.cells #[.int .i64 0, .string ⟨#[97]⟩, .int .i64 1, .string ⟨#[98]⟩] 84)
    have := jat_commit _ j x p _ _ _ _ fx1 W _ h c0 ha (wv2 W 0 1 ⟨#[97]⟩ ⟨#[98]⟩) (by decide)
    rw [cmE_go jg1, (cm_yes jg1).1, (cm_yes jg1).2] at this
    exact this.mono fun e w' q => ⟨q.1, q.2.1, (ha.mono h.1).trans q.2.2⟩
  have K2 : Hid (∀ W j x p, JAt W w.heap.size j x p jS1 jV1 jJ1 → Calls Tryz.prog 24 #[.pointer (some ⟨j, 0, none⟩), .slice (some ⟨W.heap.size, 0, none⟩) 2 2] (W.alloc (.cells #[.int .i64 0, .string ⟨#[120]⟩, .int .i64 0, .string ⟨#[121]⟩] 84)) fun e w' => e = .returned (.int .i64 161) ∧ JAt w' w.heap.size j x p jS1 jV1 jJ1 ∧ Below w.heap.size W w') := fun W j x p h => by
    have ha := Below.alloc (Below.refl W.heap.size W) (Nat.le_refl _) (.cells #[.int .i64 0, .string ⟨#[120]⟩, .int .i64 0, .string ⟨#[121]⟩] 84)
    have := jat_commit _ j x p _ _ _ _ fx2 W _ h c1 ha (wv2 W 0 0 ⟨#[120]⟩ ⟨#[121]⟩) (by decide)
    rw [jg2, (cm_no jg2').1, (cm_no jg2').2] at this
    exact this.mono fun e w' q => ⟨q.1, q.2.1, (ha.mono h.1).trans q.2.2⟩
  have K3 : Hid (∀ W j x p, JAt W w.heap.size j x p jS1 jV1 jJ1 → Calls Tryz.prog 24 #[.pointer (some ⟨j, 0, none⟩), .slice (some ⟨W.heap.size, 0, none⟩) 1 1] (W.alloc (.cells #[.int .i64 2, .string ⟨#[99]⟩] 84)) fun e w' => e = .returned (.int .i64 0) ∧ At w' w.heap.size p jS3 ∧ Below w.heap.size W w' ∧ w.heap.size ≤ w'.heap.size) := fun W j x p h => by
    have ha := Below.alloc (Below.refl W.heap.size W) (Nat.le_refl _) (.cells #[.int .i64 2, .string ⟨#[99]⟩] 84)
    have := jat_commit _ j x p _ _ _ _ fx3 W _ h c1 ha (wv1 W 2 ⟨#[99]⟩) (by decide)
    rw [cmE_go jg3, (cm_yes jg3).1, (cm_yes jg3).2] at this
    exact this.mono fun e w' q => ⟨q.1, q.2.1.eat.disk, (ha.mono h.1).trans q.2.2, q.2.1.1⟩
  have K32 : Hid (∀ W p, At W w.heap.size p jS3 → w.heap.size ≤ W.heap.size → Calls Tryz.prog 32 #[.pointer (some ⟨p, 0, none⟩), .slice none 0 0] W fun e w' => e = .returned (.int .i64 0) ∧ At w' w.heap.size p (jS3.lose []) ∧ Below w.heap.size W w') := fun W p h hB => acrash_at _ p jS3 W h hB (fun _ => True) _ [] (CV.nil _ _) jga.2.2.2
  have K19 : Hid (∀ W p, At W w.heap.size p (jS3.lose []) → w.heap.size ≤ W.heap.size → Calls Tryz.prog 19 #[.pointer (some ⟨p, 0, none⟩)] W fun e w' => e = .returned (.tuple #[]) ∧ At w' w.heap.size p jS4 ∧ Below w.heap.size W w') := fun W p h hB => arevive_at _ p _ W h hB
  have K33 : Hid (∀ W p, At W w.heap.size p jS4 → w.heap.size ≤ W.heap.size → Calls Tryz.prog 33 #[.pointer (some ⟨p, 0, none⟩), .int .i64 8, .int .i64 5, .int .i64 0] W fun e w' => ∃ j x, e = .returned (.tuple #[.pointer (some ⟨j, 0, none⟩), .int .i64 0]) ∧ JAt w' w.heap.size j x p jS4 jV5 jJ5 ∧ Below w.heap.size W w') := fun W p h hB => opened_at _ p jS4 8 5 0 W h hB ⟨by unfold In64; omega, by unfold In64; omega, by unfold In64; omega⟩ jg4.2 jga.2.2.1 jopen
  obtain ⟨Z5, hZ5⟩ : ∃ Z, Z = ofL (List.replicate 115 (0 : UInt8)) := ⟨_, rfl⟩
  obtain ⟨Z6, hZ6⟩ : ∃ Z, Z = ofL (List.replicate 116 (0 : UInt8)) := ⟨_, rfl⟩
  have K17 : Hid (∀ W j x p, JAt W w.heap.size j x p jS4 jV5 jJ5 → Calls Tryz.prog 17 #[.pointer (some ⟨j, 0, none⟩), .int .i64 0] W fun e w' => e = .returned (.tuple #[.string ((⟨#[97]⟩ : ByteArray) ++ Z5), .int .i64 0]) ∧ JAt w' w.heap.size j x p jS4 jV6 jJ5 ∧ Below w.heap.size W w') := fun W j x p h => by
    have := jat_read _ j x p _ _ _ 0 W h jga.2.2.1 (by have := jga.1; omega)
    rw [jg8.1, jg8.2] at this
    have e : ofL (97 :: List.replicate 115 (0 : UInt8)) = (⟨#[97]⟩ : ByteArray) ++ Z5 := by
      rw [hZ5]
      apply ByteArray.ext
      apply Array.ext'
      simp [ofL]
    rw [e] at this
    exact this
  have K17b : Hid (∀ W j x p, JAt W w.heap.size j x p jS4 jV6 jJ5 → Calls Tryz.prog 17 #[.pointer (some ⟨j, 0, none⟩), .int .i64 2] W fun e w' => e = .returned (.tuple #[.string Z6, .int .i64 0]) ∧ Below w.heap.size W w') := fun W j x p h => by
    have := jat_read _ j x p _ _ _ 2 W h jga.2.2.1 (by have := jga.2.1; omega)
    rw [jg9.1, jg9.2, ← hZ6] at this
    exact this.mono fun e w' q => ⟨q.1, q.2.2⟩
  have K37 : Hid (∀ W, Calls Tryz.prog 37 #[.int .i64 115] W fun e w' => e = .returned (.string Z5) ∧ Below W.heap.size W w') := fun W => by rw [hZ5]; exact noughts_any 115 (by omega) W
  have K37b : Hid (∀ W, Calls Tryz.prog 37 #[.int .i64 116] W fun e w' => e = .returned (.string Z6) ∧ Below W.heap.size W w') := fun W => by rw [hZ6]; exact noughts_any 116 (by omega) W
  have z5 : Z5.size = 115 := by rw [hZ5, ofL_size, List.length_replicate]
  have hm1 : ¬ (9223372036854775807 : Int) < ((1 : Int) + (Z5.size : Int)) := by omega
  have hm2 : ¬ 9223372036854775807 < 1 + Z5.size := by omega
  clear hZ5 hZ6 b1 b2 b3 b4 b5 c0 hg0 c1 hg1
  go_enter Tryz.func9, Tryz.ntmps9
  go_wp2_with (first
    | (go_at_call 21; (with_reducible refine K21.out.mono ?_); rintro e w1 ⟨j, x, p, rfl, hj, hb⟩; have H1 := Lib.hid (And.intro hj hb); clear hj hb)
    | (go_at_call 29; (with_reducible refine (K29.out _ _ _ _ H1.out.1).mono ?_); rintro e w2 ⟨rfl, hj, hb⟩; have H2 := Lib.hid (And.intro hj (H1.out.2.trans hb)); clear hj hb)
    | (go_at_call 26; (with_reducible refine (K26.out _ _ _ _ H2.out.1).mono ?_); rintro e w3 ⟨rfl, rfl⟩)
    | (go_at_call 23; (with_reducible refine (K23.out _ _ _ _ H2.out.1).mono ?_); rintro e w4 ⟨rfl, rfl⟩)
    | (go_at_call 24; (with_reducible refine (K1.out _ _ _ _ H2.out.1).mono ?_); rintro e w5 ⟨rfl, hj, hb⟩; have H5 := Lib.hid (And.intro hj (H2.out.2.trans hb)); clear hj hb)
    | (go_at_call 26; (with_reducible refine (K26b.out _ _ _ _ H5.out.1).mono ?_); rintro e w6 ⟨rfl, rfl⟩)
    | (go_at_call 23; (with_reducible refine (K23b.out _ _ _ _ H5.out.1).mono ?_); rintro e w7 ⟨rfl, rfl⟩)
    | (go_at_call 24; (with_reducible refine (K2.out _ _ _ _ H5.out.1).mono ?_); rintro e w8 ⟨rfl, hj, hb⟩; have H8 := Lib.hid (And.intro hj (H5.out.2.trans hb)); clear hj hb)
    | (go_at_call 24; (with_reducible refine (K3.out _ _ _ _ H8.out.1).mono ?_); rintro e w9 ⟨rfl, hj, hb, hs⟩; have H9 := Lib.hid (And.intro hj (And.intro (H8.out.2.trans hb) hs)); clear hj hb hs)
    | (go_at_call 32; (with_reducible refine (K32.out _ _ H9.out.1 H9.out.2.2).mono ?_); rintro e wa ⟨rfl, hj, hb⟩; have HA := Lib.hid (And.intro hj (H9.out.2.1.trans hb)); clear hj hb)
    | (go_at_call 19; (with_reducible refine (K19.out _ _ HA.out.1 HA.out.2.size).mono ?_); rintro e wb ⟨rfl, hj, hb⟩; have HB := Lib.hid (And.intro hj (HA.out.2.trans hb)); clear hj hb)
    | (go_at_call 33; (with_reducible refine (K33.out _ _ HB.out.1 HB.out.2.size).mono ?_); rintro e wc ⟨j2, x2, rfl, hj, hb⟩; have HC := Lib.hid (And.intro hj (HB.out.2.trans hb)); clear hj hb)
    | (go_at_call 17; (with_reducible refine (K17.out _ _ _ _ HC.out.1).mono ?_); rintro e wd ⟨rfl, hj, hb⟩; have HD := Lib.hid (And.intro hj (HC.out.2.trans hb)); clear hj hb)
    | (go_at_call 17; (with_reducible refine (K17b.out _ _ _ _ HD.out.1).mono ?_); rintro e we ⟨rfl, hb⟩; have HE := Lib.hid (HD.out.2.trans hb); clear hb)
    | (go_at_call 37; (with_reducible refine (K37.out _).mono ?_); rintro e wf ⟨rfl, hb⟩; have HF := Lib.hid (HE.out.trans (hb.mono HE.out.size)); clear hb)
    | (go_at_call 37; (with_reducible refine (K37b.out _).mono ?_); rintro e wg ⟨rfl, hb⟩; have HG := Lib.hid (HF.out.trans (hb.mono HF.out.size)); clear hb))
  go_ret
  exact ⟨rfl, HG.out⟩
end Go.Proofs.YtjippoejaieneaaGreat
