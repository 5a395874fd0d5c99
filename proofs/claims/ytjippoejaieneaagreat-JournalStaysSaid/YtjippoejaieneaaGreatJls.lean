/- What the law tries of any journal behind a checkpoint and a crash is so. Conditions: ints are within 64 bits; lists are no longer than a machine holds. -/
import Derived.Test.YtjippoejaieneaaGreatJsr
namespace Go.Proofs.YtjippoejaieneaaGreat
open Go.RowKit Go.Maps
set_option maxRecDepth 20000
set_option linter.unusedVariables false

set_option maxHeartbeats 16000000 in
theorem stays_any (f a c : Int) (vt vc : Value) (l : List (Value × List Wt)) (ch : List Int) (w : World) (hf : In64 f) (ha : In64 a) (ht : Txs w vt l) (hch : ChOk w vc ch) :
    Calls Tryz.prog 5 #[.agg #[.int .i64 f, .int .i64 a, .int .i64 c], vt, vc] w fun e w' => e = .returned (.bool true) ∧ Below w.heap.size w w' := by
  obtain ⟨r, hr⟩ : ∃ r : Int, r = f % 60 := ⟨_, rfl⟩
  obtain ⟨b, hb⟩ : ∃ b : Nat, 1 + r = (b : Int) := ⟨(1 + r).toNat, by omega⟩
  have hb1 : 1 ≤ b := by omega
  have hb6 : b ≤ 60 := by omega
  have hrb : IntKind.i64.wrap (1 + r) = (b : Int) := by rw [IntKind.wrap_i64]; omega
  have K10 : Hid (∀ W, Calls Tryz.prog 10 #[.int .i64 f, .int .i64 60] W fun e w' => e = .returned (.int .i64 r) ∧ W = w') := fun W => by rw [hr]; exact rem_any f 60 hf (by omega) W
  obtain ⟨w1, hw1⟩ : ∃ w1, w1 = w.alloc (.cells #[.int .i64 f, .int .i64 a, .int .i64 c] 23) := ⟨_, rfl⟩
  have HW1 : Hid (w.alloc (.cells #[.int .i64 f, .int .i64 a, .int .i64 c] 23) = w1) := hw1.symm
  have hx1 : w1.heap[w.heap.size]? = some (.cells #[.int .i64 f, .int .i64 a, .int .i64 c] 23 (0, 0)) := by rw [hw1]; exact block_new w _
  have e0 : w1.cell? ⟨w.heap.size, 0, none⟩ = some (.int .i64 f) := by rw [cell_of_row _ _ _ _ _ _ hx1]; rfl
  have e1 : w1.cell? ⟨w.heap.size, 1, none⟩ = some (.int .i64 a) := by rw [cell_of_row _ _ _ _ _ _ hx1]; rfl
  have hs1 : w.heap.size < w1.heap.size := block_lt hx1
  have hbw : Below w.heap.size w w1 := by rw [hw1]; exact (Below.refl _ w).alloc (Nat.le_refl _) _
  have K9 : Hid (∀ W, Calls Tryz.prog 9 #[] W fun e w' => e = .returned (.bool true) ∧ Below W.heap.size W w') := fixed_any
  have K21 := laid_any b a w1 hb1 hb6 ha
  have HT := Lib.hid (ht.below hbw)
  have HCH := Lib.hid (hch.below hbw)
  clear hch
  obtain ⟨qt, capt, hve, hL0, hdrop⟩ := ht
  clear hdrop
  obtain ⟨L, hL⟩ : ∃ L, L = l.length := ⟨_, rfl⟩
  rw [← hL] at hve hL0
  have HLL := Lib.hid hL
  subst hve
  have HBW := Lib.hid hbw
  have HE1 := Lib.hid e1
  cases hz : isA (lV b) a with
  | false =>
    have hzz : a < 4 ∨ (b : Int) ≤ a := by
      unfold isA at hz
      rw [(lVcnt b).1] at hz
      simp only [Bool.and_eq_false_iff, decide_eq_false_iff_not] at hz
      omega
    have K21' : Hid (Calls Tryz.prog 21 #[.int .i64 (b : Int), .int .i64 a] w1 fun e w' => ∃ p, e = .returned (.tuple #[.pointer (some ⟨p, 0, none⟩), .pointer none, .int .i64 160]) ∧ Below w1.heap.size w1 w') := K21.mono fun e w' q => by
      rcases q.2 with ⟨_, p, z⟩ | ⟨z, _⟩
      · exact ⟨p, z, q.1⟩
      · rw [hz] at z; cases z
    clear K21 hz hL hw1 hx1 hr hbw
    by_cases h4 : a < 4
    · go_enter Tryz.func5, Tryz.ntmps5
      go_wp2_with (first
        | (rw [HW1.out])
        | (go_at_call 10; (with_reducible refine (K10.out _).mono ?_); rintro e w2 ⟨rfl, rfl⟩)
        | (go_at_call 21; (with_reducible refine K21'.out.mono ?_); rintro e w3 ⟨p, rfl, hb3⟩; have e3 := cell_below HE1.out hb3; have HB3 := Lib.hid hb3; clear hb3)
        | (go_at_call 9; (with_reducible refine (K9.out _).mono ?_); rintro e w4 ⟨rfl, hb4⟩; have HB4 := Lib.hid hb4; clear hb4))
      go_ret
      exact ⟨rfl, HBW.out.trans ((HB3.out.trans (HB4.out.mono HB3.out.size)).mono HBW.out.size)⟩
    · have hba : (b : Int) ≤ a := by omega
      clear hzz
      go_enter Tryz.func5, Tryz.ntmps5
      go_wp2_with (first
        | (rw [HW1.out])
        | (go_at_call 10; (with_reducible refine (K10.out _).mono ?_); rintro e w2 ⟨rfl, rfl⟩)
        | (go_at_call 21; (with_reducible refine K21'.out.mono ?_); rintro e w3 ⟨p, rfl, hb3⟩; have e3 := cell_below HE1.out hb3; have HB3 := Lib.hid hb3; clear hb3)
        | (go_at_call 9; (with_reducible refine (K9.out _).mono ?_); rintro e w4 ⟨rfl, hb4⟩; have HB4 := Lib.hid hb4; clear hb4))
      go_ret
      exact ⟨rfl, HBW.out.trans ((HB3.out.trans (HB4.out.mono HB3.out.size)).mono HBW.out.size)⟩
  | true =>
    obtain ⟨hjo, haa⟩ := fmtJ_ok hz
    have a0 := hjo.a0
    have a1 := hjo.a1
    obtain ⟨A, hA⟩ : ∃ A, A = a.toNat := ⟨_, rfl⟩
    have hAf : (fmtJ a.toNat).area = A := hA.symm
    rw [hAf, (lVcnt b).1] at a1
    rw [hAf] at a0
    have hAa : a = (A : Int) := by omega
    have cc := lcalm (b := b) hb1 (by omega)
    have hg0 := lgood (b := b) hb1 (by omega)
    have c0 : Calm (128 * b) (ldS b) := (calm_run (fmtS b) cc hg0).2
    have g5 := (run_good (fmtS b) cc.ok hg0).2.2.2.2.1
    have g7 := (run_good (fmtS b) cc.ok hg0).2.2.2.2.2.2
    have g5' : (ldV b).cnt = b := g5.trans (lVcnt b).1
    have g7' : (ldV b).mis = 0 := g7.trans (lVcnt b).2.2
    have hco := ldS_cel (b := b) (by omega) hz
    have K21' : Hid (Calls Tryz.prog 21 #[.int .i64 (b : Int), .int .i64 a] w1 fun e w' => ∃ j x p, e = .returned (.tuple #[.pointer (some ⟨p, 0, none⟩), .pointer (some ⟨j, 0, none⟩), .int .i64 0]) ∧ JAt w' w1.heap.size j x p (ldS b) (ldV b) (fmtJ a.toNat) ∧ Below w1.heap.size w1 w') := K21.mono fun e w' q => by
      rcases q.2 with ⟨z, _⟩ | ⟨_, j, x, p, z1, z2⟩
      · rw [hz] at z; cases z
      · exact ⟨j, x, p, z1, z2, q.1⟩
    have g4' : (ldV b).first = 0 := (run_good (fmtS b) cc.ok hg0).2.2.2.1.trans (lVcnt b).2.1
    have hhi := HI.laid (b := b) hb1 (by omega) hz
    obtain ⟨M, hM⟩ : ∃ M, M = mostN A 2 := ⟨_, rfl⟩
    have K26 : Hid (∀ W j x p, JAt W w1.heap.size j x p (ldS b) (ldV b) (fmtJ a.toNat) → Calls Tryz.prog 26 #[.pointer (some ⟨j, 0, none⟩)] W fun e w' => e = .returned (.int .i64 M) ∧ W = w') := fun W j x p h => by
      have := jat_room _ j x p _ _ _ W h
      rw [hAf] at this
      rw [hM]; exact this
    have HJR : Hid (∀ W j x p, JAt W w1.heap.size j x p (ldS b) (ldV b) (fmtJ a.toNat) → JR (128 * b) w1.heap.size j x p b A 2 W) := fun W j x p h => ⟨_, _, _, h, c0, hco, g5', hAf, g7', hhi, g4', by show (2 : Int) ≤ 2; omega⟩
    have hbA : b ≤ 4096 ∧ A ≤ 4096 := by omega
    have HM := Lib.hid hM
    clear K21 hz hL hw1 hx1 hr hbw hM
    clear hco g5 g7 g5' g7' g4' hhi c0 hg0 cc hjo haa hAf hA
    subst hAa
    go_enter Tryz.func5, Tryz.ntmps5
    go_wp2_with (first
      | (rw [HW1.out])
      | (go_at_call 10; (with_reducible refine (K10.out _).mono ?_); rintro e w2 ⟨rfl, rfl⟩)
      | (go_at_call 21; (with_reducible refine K21'.out.mono ?_); rintro e w3 ⟨j, x, p, rfl, hj, hb3⟩; have e3 := cell_below HE1.out hb3; have H3 := Lib.hid (And.intro hj hb3); clear hj hb3)
      | (go_at_call 26; (with_reducible refine (K26.out _ _ _ _ H3.out.1).mono ?_); rintro e w4 ⟨rfl, rfl⟩))
    go_loopw [12] (fun i W => ∃ k : Nat, k ≤ L ∧ i = .int .i64 (k : Int) ∧ JR (128 * b) w1.heap.size j x p b A (2 + (k : Int)) W ∧ Below w1.heap.size w1 W) (fun i _ => L - (RowKit.intOf i).toNat)
    case atStart => exact ⟨0, Nat.zero_le _, rfl, HJR.out _ _ _ _ H3.out.1, H3.out.2⟩
    case round =>
      obtain ⟨k, hk, rfl, hjr, hbr⟩ := hrel
      have HBR := Lib.hid hbr
      have HJ := Lib.hid hjr
      by_cases hlt : k < L
      · have hki : (k : Int) < (L : Int) := by omega
        obtain ⟨qt', capt', hve', _, hel⟩ := HT.out
        have hqq : qt = qt' := by injection hve'
        have hkl : k < l.length := by have := HLL.out; omega
        obtain ⟨⟨⟨qx, cx, hvx, hlc, hwx⟩, hwo, hln⟩, bt, ot, hqt, hbt, hct⟩ := hel k hkl
        rw [← hqq] at hqt
        subst hqt
        obtain ⟨tx, htx⟩ : ∃ tx, tx = l[k].2 := ⟨_, rfl⟩
        rw [← htx] at hvx hlc hwx hwo hln
        rw [hvx] at hct
        have hwv : WV wr (fun k => k < w1.heap.size) (.slice qx tx.length cx) tx := WV.below ⟨qx, cx, rfl, hlc, hwx⟩ hbr
        have KC : Hid (Calls Tryz.prog 24 #[.pointer (some ⟨j, 0, none⟩), .slice qx tx.length cx] wr fun e w' => ∃ E, e = .returned (.int .i64 E) ∧ JR (128 * b) w1.heap.size j x p b A (2 + ((k + 1 : Nat) : Int)) w' ∧ Below w1.heap.size wr w') := by
          have := jr_commit _ j x p b A _ _ tx wr hjr hwv (by omega)
          have e : (2 + ((k + 1 : Nat) : Int)) = 2 + (k : Int) + 1 := by omega
          rw [e]; exact this
        obtain ⟨T, hTT⟩ : ∃ T, T = tx.length := ⟨_, rfl⟩
        rw [← hTT] at hct KC
        obtain ⟨O, hO⟩ : ∃ O, O = ot + k := ⟨_, rfl⟩
        rw [← hO] at hct
        have hOs : ot + k = O := hO.symm
        have hctr := cell_below hct hbr
        clear hel hve' hqq hvx hwx hct hO hTT hlc hln hwo htx hwv hjr hbr
        by_cases hp : k % 2 = 1
        · have hp1 : (k : Int) % 2 = 1 := by omega
          have hp2 : (k : Int).tmod 2 = 1 := by rw [Int.tmod_eq_emod, if_pos (.inl (by omega))]; omega
          go_wp2_with (first
            | (go_at_call 24; (with_reducible refine KC.out.mono ?_); rintro e w5 ⟨E, rfl, hj5, hb5⟩; have H5 := Lib.hid (And.intro hj5 (HBR.out.trans hb5)); clear hj5 hb5)
            | (go_at_call 30; (with_reducible refine (jr_sync _ _ _ _ _ _ _ _ H5.out.1).mono ?_); rintro e w6 ⟨rfl, hj6, hb6⟩; have H6 := Lib.hid (And.intro hj6 (H5.out.2.trans hb6)); clear hj6 hb6))
          exact ⟨⟨k + 1, by omega, by go_num, H6.out.1, H6.out.2⟩, by simp only [RowKit.intOf]; omega⟩
        · have hp1 : (k : Int) % 2 = 0 := by omega
          have hp2 : (k : Int).tmod 2 = 0 := by rw [Int.tmod_eq_emod, if_pos (.inl (by omega))]; omega
          go_wp2_with (first
            | (go_at_call 24; (with_reducible refine KC.out.mono ?_); rintro e w5 ⟨E, rfl, hj5, hb5⟩; have H5 := Lib.hid (And.intro hj5 (HBR.out.trans hb5)); clear hj5 hb5))
          exact ⟨⟨k + 1, by omega, by go_num, H5.out.1, H5.out.2⟩, by simp only [RowKit.intOf]; omega⟩
      · have hkL : k = L := by omega
        have hki : ¬ (k : Int) < (L : Int) := by omega
        have KF := Lib.hid (jr_first _ j x p b A _ wr hjr)
        have KK : Hid (∀ W v ls, JW (128 * b) w1.heap.size j x p b A 4096 (2 + (k : Int)) ls W v → Calls Tryz.prog 31 #[.pointer (some ⟨j, 0, none⟩)] W fun e w' => ∃ nx, e = .returned (.int .i64 0) ∧ JE (128 * b) w1.heap.size j x p b A 4096 nx ls w' v ∧ Below w1.heap.size W w') := fun W v ls h => jw_ck _ j x p b A 4096 _ ls v W h (by omega)
        have KR : Hid (∀ W v ls nx, JE (128 * b) w1.heap.size j x p b A 4096 nx ls W v → Calls Tryz.prog 26 #[.pointer (some ⟨j, 0, none⟩)] W fun e w' => e = .returned (.int .i64 M) ∧ W = w') := fun W v ls nx h => by rw [HM.out]; exact je_room _ j x p b A _ nx ls v W h
        have KG : Hid (∀ W v ls nx, JE (128 * b) w1.heap.size j x p b A 4096 nx ls W v → Calls Tryz.prog 22 #[.pointer (some ⟨j, 0, none⟩)] W fun e w' => ∃ v2, e = .returned (.tuple #[v2, .bool true]) ∧ TR w' v2 ls ∧ TR w' v ls ∧ JE (128 * b) w1.heap.size j x p b A (4096 + 4096) nx ls w' v ∧ Below w1.heap.size W w') := fun W v ls nx h => je_again _ j x p b A _ nx ls v W h (by omega)
        have KX : Hid (∀ W v ls nx, JE (128 * b) w1.heap.size j x p b A (4096 + 4096) nx ls W v → Below w1.heap.size w1 W → Calls Tryz.prog 32 #[.pointer (some ⟨p, 0, none⟩), vc] W fun e w' => ∃ S, e = .returned (.int .i64 0) ∧ DR w' w1.heap.size j p S v ls nx ∧ RO b A nx ls S.revive ∧ Below w1.heap.size W w') := fun W v ls nx h hb => je_crash _ j x p b A _ nx ls v vc ch _ W h (HCH.out.below hb).1
        have KO : Hid (∀ W v ls nx S, DR W w1.heap.size j p S v ls nx → RO b A nx ls S → Calls Tryz.prog 33 #[.pointer (some ⟨p, 0, none⟩), .int .i64 (b : Int), .int .i64 (A : Int), .int .i64 0] W fun e w' => ∃ j2 x2 n S V J, e = .returned (.tuple #[.pointer (some ⟨j2, 0, none⟩), .int .i64 0]) ∧ RJ w' w1.heap.size j2 x2 p S V J v ls ∧ ls = celsL S V J ∧ Calm n S ∧ CelOk S V J ∧ J.next = nx ∧ V.mis ≤ 2 ∧ w'.cell? ⟨j, 3, none⟩ = some (.int .i64 nx) ∧ Below w1.heap.size W w') := fun W v ls nx S h hro => dr_open _ j p b A S v ls nx W h hro hbA.1 hbA.2
        have KN : Hid (∀ W j2 x2 S V J v ls nx, RJ W w1.heap.size j2 x2 p S V J v ls → J.next = nx → Calls Tryz.prog 23 #[.pointer (some ⟨j2, 0, none⟩)] W fun e w' => e = .returned (.int .i64 nx) ∧ W = w') := fun W j2 x2 S V J v ls nx h hn => by rw [← hn]; exact rj_next _ j2 x2 p S V J v ls W h
        have KL : Hid (∀ W j2 x2 n S V J v ls, RJ W w1.heap.size j2 x2 p S V J v ls → ls = celsL S V J → Calm n S → CelOk S V J → V.mis ≤ 2 → Calls Tryz.prog 22 #[.pointer (some ⟨j2, 0, none⟩)] W fun e w' => ∃ v2, e = .returned (.tuple #[v2, .bool true]) ∧ TR w' v2 ls ∧ TR w' v ls ∧ Below w1.heap.size W w') := fun W j2 x2 n S V J v ls h hl hc hco hm => by
          refine (rj_readL _ j2 x2 p S V J v ls W h hc hco (by omega)).mono fun e w' ⟨v2, V', q1, q2, q3, q4, q5, q6, q7⟩ => ?_
          have hll : ls.length ≤ 8192 := by rw [hl, celsL_len]; have := h.jx.2; omega
          rw [← hl] at q6
          exact ⟨v2, q1, q6.row hll, q5.row hll, q7⟩
        obtain ⟨P, hP⟩ : ∃ P, P = ofL (padB (⟨#[]⟩ : ByteArray).data.toList) := ⟨_, rfl⟩
        have hPs : P.size = 116 := by rw [hP, ofL_size, padB_len (by simp)]
        have hPi : (P.size : Int) = 116 := by omega
        have KP : Hid (∀ W, Calls Tryz.prog 34 #[.string ⟨#[]⟩] W fun e w' => e = .returned (.string P) ∧ Below W.heap.size W w') := fun W => by rw [hP]; exact pad_any ⟨#[]⟩ W (by decide)
        clear hjr hbr hP
        go_wp2_with (first
          | (go_at_call 22; (with_reducible refine KF.out.mono ?_); rintro e w5 ⟨v5, ls, rfl, hj5, hb5⟩; have H5 := Lib.hid (And.intro hj5 (HBR.out.trans hb5)); clear hj5 hb5)
          | (go_at_call 31; (with_reducible refine (KK.out _ _ _ H5.out.1).mono ?_); rintro e w6 ⟨nx, rfl, hj6, hb6⟩; have H6 := Lib.hid (And.intro hj6 (H5.out.2.trans hb6)); clear hj6 hb6)
          | (go_at_call 26; (with_reducible refine (KR.out _ _ _ _ H6.out.1).mono ?_); rintro e w7 ⟨rfl, rfl⟩)
          | (go_at_call 22; (with_reducible refine (KG.out _ _ _ _ H6.out.1).mono ?_); rintro e w8 ⟨v8, rfl, t1, t2, hj8, hb8⟩; have H8 := Lib.hid (And.intro t1 (And.intro t2 (And.intro hj8 (H6.out.2.trans hb8)))); clear t1 t2 hj8 hb8)
          | (go_at_call 28; (with_reducible refine (rows_same _ _ _ _ H8.out.1 H8.out.2.1).mono ?_); rintro e w9 ⟨rfl, hb9⟩; have H9 : Hid (JE (128 * b) w1.heap.size j x p b A (4096 + 4096) nx ls w9 v5 ∧ Below w1.heap.size w1 w9) := ⟨JE.below H8.out.2.2.1 hb9, H8.out.2.2.2.trans (hb9.mono H8.out.2.2.2.size)⟩; clear hb9)
          | (go_at_call 32; (with_reducible refine (KX.out _ _ _ _ H9.out.1 H9.out.2).mono ?_); rintro e wa ⟨SA, rfl, hda, hra, hba⟩; have HA := Lib.hid (And.intro hda (And.intro hra (H9.out.2.trans hba))); clear hda hra hba)
          | (go_at_call 19; (with_reducible refine (dr_revive _ _ _ _ _ _ _ _ HA.out.1).mono ?_); rintro e wb ⟨rfl, hdb, hbb⟩; have hbx := HA.out.2.2.trans hbb; have eb := cell_below HE1.out hbx; have HB := Lib.hid (And.intro hdb hbx); clear hdb hbb hbx)
          | (go_at_call 33; (with_reducible refine (KO.out _ _ _ _ _ HB.out.1 HA.out.2.1).mono ?_); rintro e wc ⟨j2, x2, n2, S2, V2, J2, rfl, a1, a2, a3, a4, a5, a6, a7, a8⟩; have HC := Lib.hid (And.intro a1 (And.intro a2 (And.intro a3 (And.intro a4 (And.intro a5 (And.intro a6 (And.intro a7 (HB.out.2.trans a8)))))))); clear a1 a2 a3 a4 a5 a6 a7 a8)
          | (go_at_call 23; (with_reducible refine (KN.out _ _ _ _ _ _ _ _ _ HC.out.1 HC.out.2.2.2.2.1).mono ?_); rintro e wd ⟨rfl, rfl⟩)
          | (go_at_call 23; (with_reducible refine (next_cell _ _ _ HC.out.2.2.2.2.2.2.1).mono ?_); rintro e wd ⟨rfl, rfl⟩)
          | (go_at_call 22; (with_reducible refine (KL.out _ _ _ _ _ _ _ _ _ HC.out.1 HC.out.2.1 HC.out.2.2.1 HC.out.2.2.2.1 HC.out.2.2.2.2.2.1).mono ?_); rintro e we ⟨v9, rfl, t1, t2, hbe⟩; have HE := Lib.hid (And.intro t1 (And.intro t2 (HC.out.2.2.2.2.2.2.2.trans hbe))); clear t1 t2 hbe)
          | (go_at_call 28; (with_reducible refine (rows_same _ _ _ _ HE.out.1 HE.out.2.1).mono ?_); rintro e wf ⟨rfl, hbf⟩; have HF := Lib.hid (HE.out.2.2.trans (hbf.mono HE.out.2.2.size)); clear hbf)
          | (go_at_call 34; (with_reducible refine (KP.out _).mono ?_); rintro e wg ⟨rfl, hbg⟩; have HG := Lib.hid (HF.out.trans (hbg.mono HF.out.size)); clear hbg)
          | (go_at_call 9; (with_reducible refine (K9.out _).mono ?_); rintro e wh ⟨rfl, hbh⟩; have HH := Lib.hid (HG.out.trans (hbh.mono HG.out.size)); clear hbh))
        go_ret
        exact ⟨rfl, HBW.out.trans (HH.out.mono HBW.out.size)⟩
end Go.Proofs.YtjippoejaieneaaGreat
