/- Behind a crash nothing is unsafe: the walk of DiskAgain. Conditions: sizes that a machine holds. -/
import Derived.Test.YtcmhpkeighenaaaFxd
namespace Go.Proofs.Ytcmhpkeighenaaa
open Go.RowKit Go.Maps
set_option linter.unusedVariables false

theorem dry_left {S : St} (h : S.ok) (hw : S.wr = fun _ => none) (f : Nat → Nat) : S.left f = S.safe := by
  unfold St.left
  rw [secs_same (g' := sec S.safe) (fun i hi => one_none (by rw [hw]))]
  exact secs_self h.len
theorem dry_calm {S : St} (h : S.ok) (hw : S.wr = fun _ => none) (a b : Nat) : (S.calm a b).safe = S.safe ∧ (S.calm a b).wr = fun _ => none := by
  constructor
  · show secs S.count _ = S.safe
    rw [secs_same (g' := sec S.safe) (fun i hi => by
      split
      · exact one_none (by rw [hw])
      · rfl)]
    exact secs_self h.len
  · funext i
    show (if a ≤ i ∧ i < b then none else S.wr i) = none
    rw [hw]
    split <;> rfl
theorem dry_wait {S : St} (hw : S.wr = fun _ => none) : S.waitI = [] := by
  unfold St.waitI St.waiting
  rw [hw]; simp
theorem rest0 {W : World} {g : Nat} {v : Value} {xs : List Value} (h : W.ownsRow g 3 1 v 0 xs) : ∃ q cap, v = .slice q 0 cap := by
  obtain ⟨_, ⟨h1, _⟩ | ⟨g', cap, cur, hv, _⟩⟩ := h
  · exact ⟨none, 0, h1⟩
  · exact ⟨_, cap, hv⟩
theorem CV.slice {W : World} {G : Nat → Prop} {v : Value} {ch : List Int} (h : CV W G v ch) : ∃ q n cap, v = .slice q n cap := by obtain ⟨q, cap, e, _⟩ := h; exact ⟨_, _, _, e⟩
theorem not_bad {X : ByteArray} {S : St} (h : S.ok) (hX : X.size = S.safe.length) : ¬ Bad X := by
  unfold Bad
  have := h.len; have := h.lo; have := h.hi
  omega
theorem St.eq {S T : St} (h1 : S.safe = T.safe) (h2 : S.wr = T.wr) (h3 : S.dead = T.dead) (h4 : S.armed = T.armed) (h5 : S.ch = T.ch) : S = T := by
  cases S; cases T; simp at h1 h2 h3 h4 h5; simp [h1, h2, h3, h4, h5]
set_option maxRecDepth 20000 in
set_option maxHeartbeats 4000000 in
theorem again_any (s : ByteArray) (v : Value) (l : List Opr) (sn : Int) (va vb : Value) (chA chB : List Int) (w : World) (hs : s.size ≤ 140737488355328) (hsc : Script w v l) (hA : ChOk w va chA) (hB : ChOk w vb chB) :
    Calls Try.prog 7 #[.string s, v, .agg #[.int .i64 sn, va, vb]] w fun e w' => e = .returned (.bool true) ∧ Below w.heap.size w w' := by
  obtain ⟨B0, hB0⟩ : ∃ B0, B0 = w.heap.size := ⟨_, rfl⟩
  obtain ⟨w0, hw0⟩ : ∃ w0, w0 = w.alloc (.cells #[.int .i64 sn, va, vb] 55) := ⟨_, rfl⟩
  have hb0 : Below w.heap.size w w0 := by rw [hw0]; exact (Below.refl _ w).alloc (Nat.le_refl _) _
  have hblk : w0.heap[B0]? = some (.cells #[.int .i64 sn, va, vb] 55 (0, 0)) := by rw [hw0, hB0]; exact block_new _ _
  have x1 : w0.cell? ⟨B0, 1, none⟩ = some va := by rw [cell_of_row _ _ _ _ _ _ hblk]; rfl
  have x2 : w0.cell? ⟨B0, 2, none⟩ = some vb := by rw [cell_of_row _ _ _ _ _ _ hblk]; rfl
  obtain ⟨qa, na, ca, ea⟩ := hA.1.slice
  obtain ⟨qb, nb, cb, eb⟩ := hB.1.slice
  have kfix : Hid (∀ W, Calls Try.prog 10 #[] W fun e w' => e = .returned (.bool true) ∧ Below W.heap.size W w') := fun W => fixed_any W
  subst ea eb
  have HB0 := Lib.hid hB0
  have HH := Lib.hid (And.intro hb0 (And.intro hblk (And.intro hA hB)))
  have hsc0 := Lib.hid (hsc.below hb0)
  by_cases bad : Bad s
  · have k1 := Lib.hid (made_bad s v w0 hs bad)
    have k2 : Hid (∀ W, Calls Try.prog 9 #[.string s] W fun e w' => e = .returned (.tuple #[.pointer none, .int .i64 70]) ∧ Below W.heap.size W w') := fun W => rnew_bad s bad hs W
    have hw0s := hw0.symm
    have hB0s : w.heap.size = B0 := HB0.out.symm
    clear hw0 hb0 hblk x1 x2 hA hB hsc hs bad hB0
    go_enter Try.func7, Try.ntmps7
    go_wp2_with (fail)
    refine k1.out.mono ?_
    rintro e v1 ⟨rfl, b1⟩
    go_wp2_with (fail)
    refine (k2.out _).mono ?_
    rintro e v2 ⟨rfl, b2⟩
    go_wp2_with (fail)
    refine (kfix.out _).mono ?_
    rintro e v3 ⟨rfl, b3⟩
    go_wp2
    go_ret
    exact ⟨rfl, HH.out.1.trans ((below_trans (below_trans b1 b2) b3).mono HH.out.1.size)⟩
  · have k1 := Lib.hid (made_any s v l w0 hs bad hsc0.out)
    have hw0s := hw0.symm
    have hB0s : w.heap.size = B0 := HB0.out.symm
    have HBAD := Lib.hid bad
    clear hw0 hb0 hblk hA hB hsc bad hB0 x2
    go_enter Try.func7, Try.ntmps7
    go_wp2_with (fail)
    refine k1.out.mono ?_
    rintro e v1 ⟨p, S, rfl, a1, hcalm, b1⟩
    obtain ⟨B, hB⟩ : ∃ B, B = w0.heap.size := ⟨_, rfl⟩
    rw [← hB] at a1 b1
    have HBB : Hid (B0 ≤ B) := by unfold Hid; rw [hB, HB0.out]; exact HH.out.1.size
    have g1 : Below B0 w v1 := by rw [HB0.out]; exact HH.out.1.trans (b1.mono (by rw [hB]; exact HH.out.1.size))
    have s1' : B ≤ v1.heap.size := by have := b1.size; omega
    have hcB : Hid (∀ W, Below B w0 W → W.cell? ⟨B0, 1, none⟩ = some (.slice qa na ca) ∧ W.cell? ⟨B0, 2, none⟩ = some (.slice qb nb cb)) := fun W hW => by
      rw [hB] at hW
      exact ⟨cell_below (by rw [cell_of_row _ _ _ _ _ _ HH.out.2.1]; rfl) hW, cell_below (by rw [cell_of_row _ _ _ _ _ _ HH.out.2.1]; rfl) hW⟩
    have hcA : Hid (∀ W, Below B0 w W → ChOk W (.slice qa na ca) chA ∧ ChOk W (.slice qb nb cb) chB) := fun W hW => by
      rw [HB0.out] at hW
      exact ⟨HH.out.2.2.1.below hW, HH.out.2.2.2.below hW⟩
    have y1 := (hcB.out v1 b1).1
    have h0 : Below B w0 v1 := b1
    clear b1 x1 hB
    -- the states
    have hok := hcalm.ok
    obtain ⟨S1, hS1⟩ : ∃ S1, S1 = S.lose chA := ⟨_, rfl⟩
    have hok1 : S1.ok := by rw [hS1]; exact (hok.lose chA).1
    have hd1 : S1.wr = fun _ => none := by rw [hS1]; rfl
    obtain ⟨X, hX⟩ : ∃ X, X = ofL S1.safe := ⟨_, rfl⟩
    have hcr1 : S.crash chA = (S1, 0) := by unfold St.crash; rw [if_neg (by rw [hcalm.dead]; decide), hS1]
    obtain ⟨S2, hS2⟩ : ∃ S2, S2 = S1.revive := ⟨_, rfl⟩
    have hok2 : S2.ok := by rw [hS2]; exact hok1.revive
    have hd2 : S2.wr = fun _ => none := by rw [hS2]; exact hd1
    have hs2 : S2.safe = S1.safe := by rw [hS2]; rfl
    obtain ⟨S3, hS3⟩ : ∃ S3, S3 = S2.calm 0 (0 + S2.count) := ⟨_, rfl⟩
    have hfl : S2.flush 0 (S2.count : Int) = (S3, 0) := by
      unfold St.flush
      rw [if_neg (by rw [hS2]; exact Bool.false_ne_true), if_neg (by omega)]
      have hch : S2.change = (S2, 0) := by unfold St.change; rw [if_pos (by rw [hS2]; rfl)]
      rw [hch, if_pos rfl, hS3, Int.toNat_natCast]
      rfl
    have hok3 : S3.ok := by rw [hS3]; exact hok2.calm _ _
    have hd3 : S3.wr = fun _ => none := by rw [hS3]; exact (dry_calm hok2 hd2 _ _).2
    have hs3 : S3.safe = S1.safe := by rw [hS3, (dry_calm hok2 hd2 _ _).1, hs2]
    obtain ⟨S4, hS4⟩ : ∃ S4, S4 = S3.lose chB := ⟨_, rfl⟩
    have hcr3 : S3.crash chB = (S4, 0) := by unfold St.crash; rw [if_neg (by rw [hS3, hS2]; exact Bool.false_ne_true), hS4]
    have hok4 : S4.ok := by rw [hS4]; exact (hok3.lose chB).1
    have hd4 : S4.wr = fun _ => none := by rw [hS4]; rfl
    have hs4 : S4.safe = S1.safe := by rw [hS4]; show S3.left _ = _; rw [dry_left hok3 hd3, hs3]
    have i1 : ofL S1.image = X := by rw [hX]; unfold St.image; rw [dry_left hok1 hd1]
    have i2 : ofL (S2.after chB) = X := by rw [hX]; unfold St.after; rw [dry_left hok2 hd2, hs2]
    have i4 : ofL S4.image = X := by rw [hX]; unfold St.image; rw [dry_left hok4 hd4, hs4]
    have i5 : ofL S4.safe = X := by rw [hX, hs4]
    have hXs : X.size = S1.safe.length := by rw [hX, ofL_size]
    have hnb := not_bad hok1 hXs
    have i6 : ofL (newS X.data.toList).image = X := by
      have hokn : (newS X.data.toList).ok := (Calm.new hnb).ok
      unfold St.image; rw [dry_left hokn rfl]; exact ofL_of X
    have kcr1 : Hid (∀ W, At W B p S → B ≤ W.heap.size → Below B0 w W → Calls Try.prog 22 #[.pointer (some ⟨p, 0, none⟩), .slice qa na ca] W fun e w' => e = .returned (.int .i64 0) ∧ At w' B p S1 ∧ Below B W w') := fun W h hBs hW => by have := crash_at B p S W h hBs _ _ chA (hcA.out W hW).1.1; rw [hcr1] at this; exact this
    have kim1 : Hid (∀ W, At W B p S1 → Calls Try.prog 17 #[.pointer (some ⟨p, 0, none⟩)] W fun e w' => e = .returned (.string X) ∧ Below W.heap.size W w') := fun W h => by have := image_at B p S1 W h; rw [i1] at this; exact this
    have krv : Hid (∀ W, At W B p S1 → B ≤ W.heap.size → Calls Try.prog 24 #[.pointer (some ⟨p, 0, none⟩)] W fun e w' => e = .returned (.tuple #[]) ∧ At w' B p S2 ∧ Below B W w') := fun W h hBs => by have := revive_at B p S1 W h hBs; rw [← hS2] at this; exact this
    have kwt : Hid (∀ W, At W B p S2 → Calls Try.prog 20 #[.pointer (some ⟨p, 0, none⟩)] W fun e w' => ∃ q cap, e = .returned (.slice q 0 cap) ∧ Below W.heap.size W w') := fun W h => (waiting_at B p S2 W h).mono fun e w' ⟨v, he, hr, hb⟩ => by
      rw [dry_wait hd2] at hr
      obtain ⟨q, cap, hv⟩ := rest0 hr
      exact ⟨q, cap, by rw [he, hv], hb⟩
    have kaf : Hid (∀ W, At W B p S2 → Below B0 w W → Calls Try.prog 19 #[.pointer (some ⟨p, 0, none⟩), .slice qb nb cb] W fun e w' => e = .returned (.string X) ∧ Below W.heap.size W w') := fun W h hW => by have := after_at B p S2 W h _ _ chB (hcA.out W hW).2.1; rw [i2] at this; exact this
    have kct : Hid (∀ W, At W B p S2 → Calls Try.prog 21 #[.pointer (some ⟨p, 0, none⟩)] W fun e w' => e = .returned (.int .i64 (S2.count : Int)) ∧ W = w') := fun W h => count_at B p S2 W h
    have kfl : Hid (∀ W, At W B p S2 → B ≤ W.heap.size → Calls Try.prog 23 #[.pointer (some ⟨p, 0, none⟩), .int .i64 0, .int .i64 (S2.count : Int)] W fun e w' => e = .returned (.int .i64 0) ∧ At w' B p S3 ∧ Below B W w') := fun W h hBs => by have := flush_at B p S2 W h hBs 0 (S2.count : Int) (by unfold In64; omega) (by unfold In64; have := hok2.hi; omega); rw [hfl] at this; exact this
    have kcr3 : Hid (∀ W, At W B p S3 → B ≤ W.heap.size → Below B0 w W → Calls Try.prog 22 #[.pointer (some ⟨p, 0, none⟩), .slice qb nb cb] W fun e w' => e = .returned (.int .i64 0) ∧ At w' B p S4 ∧ Below B W w') := fun W h hBs hW => by have := crash_at B p S3 W h hBs _ _ chB (hcA.out W hW).2.1; rw [hcr3] at this; exact this
    have kim4 : Hid (∀ W, At W B p S4 → Calls Try.prog 17 #[.pointer (some ⟨p, 0, none⟩)] W fun e w' => e = .returned (.string X) ∧ Below W.heap.size W w') := fun W h => by have := image_at B p S4 W h; rw [i4] at this; exact this
    have ksf4 : Hid (∀ W, At W B p S4 → Calls Try.prog 18 #[.pointer (some ⟨p, 0, none⟩)] W fun e w' => e = .returned (.string X) ∧ Below W.heap.size W w') := fun W h => by have := safe_at B p S4 W h; rw [i5] at this; exact this
    have knw : Hid (∀ W, Calls Try.prog 8 #[.string X] W fun e w' => ∃ p', e = .returned (.tuple #[.pointer (some ⟨p', 0, none⟩), .int .i64 0]) ∧ At w' W.heap.size p' (newS X.data.toList) ∧ Below W.heap.size W w') := fun W => new_at X W (by have := hok1.len; have := hok1.hi; omega) hnb
    have kimn : Hid (∀ W B' p', At W B' p' (newS X.data.toList) → Calls Try.prog 17 #[.pointer (some ⟨p', 0, none⟩)] W fun e w' => e = .returned (.string X) ∧ Below W.heap.size W w') := fun W B' p' h => by have := image_at B' p' _ W h; rw [i6] at this; exact this
    clear hcalm hok hS1 hok1 hd1 hcr1 hS2 hok2 hd2 hs2 hS3 hfl hok3 hd3 hs3 hS4 hcr3 hok4 hd4 hs4 i1 i2 i4 i5 i6 hXs hnb hX hs
    go_wp2_with (fail)
    refine (kcr1.out _ a1 s1' g1).mono ?_
    rintro e v2 ⟨rfl, a2, b2⟩
    have g2 : Below B0 w v2 := g1.trans (b2.mono HBB.out)
    have s2' : B ≤ v2.heap.size := Nat.le_trans s1' b2.size
    replace h0 : Below B w0 v2 := h0.trans b2
    clear a1 g1 s1' b2
    clear y1
    go_wp2_with (fail)
    refine (kim1.out _ a2).mono ?_
    rintro e v3 ⟨rfl, b3⟩
    have a3 := a2.below b3
    have g3 : Below B0 w v3 := g2.trans (b3.mono (by have := HBB.out; omega))
    have s3' : B ≤ v3.heap.size := Nat.le_trans s2' b3.size
    replace h0 : Below B w0 v3 := h0.trans (b3.mono s2')
    clear a2 g2 s2' b3
    go_wp2_with (fail)
    refine (krv.out _ a3 s3').mono ?_
    rintro e v4 ⟨rfl, a4, b4⟩
    have g4 : Below B0 w v4 := g3.trans (b4.mono HBB.out)
    have s4' : B ≤ v4.heap.size := Nat.le_trans s3' b4.size
    replace h0 : Below B w0 v4 := h0.trans b4
    clear a3 g3 s3' b4
    go_wp2_with (fail)
    refine (kwt.out _ a4).mono ?_
    rintro e v5 ⟨qw, cw, rfl, b5⟩
    have a5 := a4.below b5
    have g5 : Below B0 w v5 := g4.trans (b5.mono (by have := HBB.out; omega))
    have s5' : B ≤ v5.heap.size := Nat.le_trans s4' b5.size
    replace h0 : Below B w0 v5 := h0.trans (b5.mono s4')
    clear a4 g4 s4' b5
    have y2 := (hcB.out _ h0).2
    go_wp2_with (fail)
    refine (kaf.out _ a5 g5).mono ?_
    rintro e v6 ⟨rfl, b6⟩
    have a6 := a5.below b6
    have g6 : Below B0 w v6 := g5.trans (b6.mono (by have := HBB.out; omega))
    have s6' : B ≤ v6.heap.size := Nat.le_trans s5' b6.size
    replace h0 : Below B w0 v6 := h0.trans (b6.mono s5')
    clear a5 g5 s5' b6
    clear y2
    go_wp2_with (fail)
    refine (kct.out _ a6).mono ?_
    rintro e _ ⟨rfl, rfl⟩
    go_wp2_with (fail)
    refine (kfl.out _ a6 s6').mono ?_
    rintro e v7 ⟨rfl, a7, b7⟩
    have g7 : Below B0 w v7 := g6.trans (b7.mono HBB.out)
    have s7' : B ≤ v7.heap.size := Nat.le_trans s6' b7.size
    replace h0 : Below B w0 v7 := h0.trans b7
    clear a6 g6 s6' b7
    have y2 := (hcB.out _ h0).2
    go_wp2_with (fail)
    refine (kcr3.out _ a7 s7' g7).mono ?_
    rintro e v8 ⟨rfl, a8, b8⟩
    have g8 : Below B0 w v8 := g7.trans (b8.mono HBB.out)
    have s8' : B ≤ v8.heap.size := Nat.le_trans s7' b8.size
    replace h0 : Below B w0 v8 := h0.trans b8
    clear a7 g7 s7' b8
    clear y2
    go_wp2_with (fail)
    refine (kim4.out _ a8).mono ?_
    rintro e v9 ⟨rfl, b9⟩
    have a9 := a8.below b9
    have g9 : Below B0 w v9 := g8.trans (b9.mono (by have := HBB.out; omega))
    have s9' : B ≤ v9.heap.size := Nat.le_trans s8' b9.size
    replace h0 : Below B w0 v9 := h0.trans (b9.mono s8')
    clear a8 g8 s8' b9
    go_wp2_with (fail)
    refine (ksf4.out _ a9).mono ?_
    rintro e v10 ⟨rfl, b10⟩
    have a10 := a9.below b10
    have g10 : Below B0 w v10 := g9.trans (b10.mono (by have := HBB.out; omega))
    have s10' : B ≤ v10.heap.size := Nat.le_trans s9' b10.size
    replace h0 : Below B w0 v10 := h0.trans (b10.mono s9')
    clear a9 g9 s9' b10
    go_wp2_with (fail)
    refine (knw.out _).mono ?_
    rintro e v20 ⟨p', rfl, an, bn⟩
    have gn : Below B0 w v20 := g10.trans (bn.mono (by have := HBB.out; omega))
    go_wp2_with (fail)
    refine (kimn.out _ _ _ an).mono ?_
    rintro e v21 ⟨rfl, bn2⟩
    go_wp2_with (fail)
    refine (kfix.out _).mono ?_
    rintro e v22 ⟨rfl, bn3⟩
    go_wp2
    go_ret
    refine ⟨rfl, ?_⟩
    rw [← HB0.out]
    have e1 := gn.trans (bn2.mono (Nat.le_trans (by rw [HB0.out]; exact Nat.le_refl _) gn.size))
    exact e1.trans (bn3.mono (Nat.le_trans (by rw [HB0.out]; exact Nat.le_refl _) e1.size))
end Go.Proofs.Ytcmhpkeighenaaa
