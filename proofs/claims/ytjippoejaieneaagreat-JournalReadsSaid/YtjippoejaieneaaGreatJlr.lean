/- What the law tries of any journal's reads is so. Conditions: ints are within 64 bits; lists are no longer than a machine holds. -/
import Derived.Test.YtjippoejaieneaaGreatJrw
namespace Go.Proofs.YtjippoejaieneaaGreat
open Go.RowKit Go.Maps
set_option maxRecDepth 20000
set_option linter.unusedVariables false

theorem cmJ_en {J : Jn} {V : Dv} {tx : List Wt} (h : J.ok V) : 2 ≤ (cmJ J V tx).en := by
  by_cases go : cmGo J V tx
  · have := (takeJ_ok h go).e0
    rw [(cm_yes go).2]; exact this
  · rw [(cm_no go).2]; exact h.e0
set_option maxHeartbeats 16000000 in
theorem reads_any (f a c : Int) (vt : Value) (l : List (Value × List Wt)) (w : World) (hf : In64 f) (ha : In64 a) (ht : Txs w vt l) :
    Calls Tryz.prog 4 #[.agg #[.int .i64 f, .int .i64 a, .int .i64 c], vt] w fun e w' => e = .returned (.bool true) ∧ Below w.heap.size w w' := by
  obtain ⟨r, hr⟩ : ∃ r : Int, r = f % 60 := ⟨_, rfl⟩
  obtain ⟨b, hb⟩ : ∃ b : Nat, 1 + r = (b : Int) := ⟨(1 + r).toNat, by omega⟩
  have hb1 : 1 ≤ b := by omega
  have hb6 : b ≤ 60 := by omega
  have hrb : IntKind.i64.wrap (1 + r) = (b : Int) := by rw [IntKind.wrap_i64]; omega
  have K10 : Hid (∀ W, Calls Tryz.prog 10 #[.int .i64 f, .int .i64 60] W fun e w' => e = .returned (.int .i64 r) ∧ W = w') := fun W => by rw [hr]; exact rem_any f 60 hf (by omega) W
  obtain ⟨w1, hw1⟩ : ∃ w1, w1 = w.alloc (.cells #[.int .i64 f, .int .i64 a, .int .i64 c] 23) := ⟨_, rfl⟩
  have HW1 : Hid (w.alloc (.cells #[.int .i64 f, .int .i64 a, .int .i64 c] 23) = w1) := hw1.symm
  have hx1 : w1.heap[w.heap.size]? = some (.cells #[.int .i64 f, .int .i64 a, .int .i64 c] 23 (0, 0)) := by rw [hw1]; exact block_new w _
  have e0 : w1.cell? ⟨w.heap.size, 0, none⟩ = some (.int .i64 f) := by rw [cell_of_row _ _ _ _ _ _ hx1]; rfl
  have e1 : w1.cell? ⟨w.heap.size, 1, none⟩ = some (.int .i64 a) := by rw [cell_of_row _ _ _ _ _ _ hx1]; rfl
  have hs1 : w.heap.size < w1.heap.size := block_lt hx1
  have hbw : Below w.heap.size w w1 := by rw [hw1]; exact (Below.refl _ w).alloc (Nat.le_refl _) _
  have K9 : Hid (∀ W, Calls Tryz.prog 9 #[] W fun e w' => e = .returned (.bool true) ∧ Below W.heap.size W w') := fixed_any
  have K21 := laid_any b a w1 hb1 hb6 ha
  have HT := Lib.hid (ht.below hbw)
  obtain ⟨qt, capt, hve, hL0, hdrop⟩ := ht
  clear hdrop
  obtain ⟨L, hL⟩ : ∃ L, L = l.length := ⟨_, rfl⟩
  rw [← hL] at hve hL0
  have HLL := Lib.hid hL
  subst hve
  have HBW := Lib.hid hbw
  have HE1 := Lib.hid e1
  cases hz : isA (lV b) a with
  | false =>
    have hzz : a < 4 ∨ (b : Int) ≤ a := by
      unfold isA at hz
      rw [(lVcnt b).1] at hz
      simp only [Bool.and_eq_false_iff, decide_eq_false_iff_not] at hz
      omega
    have K21' : Hid (Calls Tryz.prog 21 #[.int .i64 (b : Int), .int .i64 a] w1 fun e w' => ∃ p, e = .returned (.tuple #[.pointer (some ⟨p, 0, none⟩), .pointer none, .int .i64 160]) ∧ Below w1.heap.size w1 w') := K21.mono fun e w' q => by
      rcases q.2 with ⟨_, p, z⟩ | ⟨z, _⟩
      · exact ⟨p, z, q.1⟩
      · rw [hz] at z; cases z
    clear K21 hz hL hw1 hx1 hr hbw
    by_cases h4 : a < 4
    · go_enter Tryz.func4, Tryz.ntmps4
      go_wp2_with (first
        | (rw [HW1.out])
        | (go_at_call 10; (with_reducible refine (K10.out _).mono ?_); rintro e w2 ⟨rfl, rfl⟩)
        | (go_at_call 21; (with_reducible refine K21'.out.mono ?_); rintro e w3 ⟨p, rfl, hb3⟩; have e3 := cell_below HE1.out hb3; have HB3 := Lib.hid hb3; clear hb3)
        | (go_at_call 9; (with_reducible refine (K9.out _).mono ?_); rintro e w4 ⟨rfl, hb4⟩; have HB4 := Lib.hid hb4; clear hb4))
      go_ret
      exact ⟨rfl, HBW.out.trans ((HB3.out.trans (HB4.out.mono HB3.out.size)).mono HBW.out.size)⟩
    · have hba : (b : Int) ≤ a := by omega
      clear hzz
      go_enter Tryz.func4, Tryz.ntmps4
      go_wp2_with (first
        | (rw [HW1.out])
        | (go_at_call 10; (with_reducible refine (K10.out _).mono ?_); rintro e w2 ⟨rfl, rfl⟩)
        | (go_at_call 21; (with_reducible refine K21'.out.mono ?_); rintro e w3 ⟨p, rfl, hb3⟩; have e3 := cell_below HE1.out hb3; have HB3 := Lib.hid hb3; clear hb3)
        | (go_at_call 9; (with_reducible refine (K9.out _).mono ?_); rintro e w4 ⟨rfl, hb4⟩; have HB4 := Lib.hid hb4; clear hb4))
      go_ret
      exact ⟨rfl, HBW.out.trans ((HB3.out.trans (HB4.out.mono HB3.out.size)).mono HBW.out.size)⟩
  | true =>
    obtain ⟨hjo, haa⟩ := fmtJ_ok hz
    have a0 := hjo.a0
    have a1 := hjo.a1
    obtain ⟨A, hA⟩ : ∃ A, A = a.toNat := ⟨_, rfl⟩
    have hAf : (fmtJ a.toNat).area = A := hA.symm
    rw [hAf, (lVcnt b).1] at a1
    rw [hAf] at a0
    have hAa : a = (A : Int) := by omega
    have cc := lcalm (b := b) hb1 (by omega)
    have hg0 := lgood (b := b) hb1 (by omega)
    have c0 : Calm (128 * b) (ldS b) := (calm_run (fmtS b) cc hg0).2
    have g5 := (run_good (fmtS b) cc.ok hg0).2.2.2.2.1
    have g7 := (run_good (fmtS b) cc.ok hg0).2.2.2.2.2.2
    have g5' : (ldV b).cnt = b := g5.trans (lVcnt b).1
    have g7' : (ldV b).mis = 0 := g7.trans (lVcnt b).2.2
    have hco := ldS_cel (b := b) (by omega) hz
    have K21' : Hid (Calls Tryz.prog 21 #[.int .i64 (b : Int), .int .i64 a] w1 fun e w' => ∃ j x p, e = .returned (.tuple #[.pointer (some ⟨p, 0, none⟩), .pointer (some ⟨j, 0, none⟩), .int .i64 0]) ∧ JAt w' w1.heap.size j x p (ldS b) (ldV b) (fmtJ a.toNat) ∧ Below w1.heap.size w1 w') := K21.mono fun e w' q => by
      rcases q.2 with ⟨z, _⟩ | ⟨_, j, x, p, z1, z2⟩
      · rw [hz] at z; cases z
      · exact ⟨j, x, p, z1, z2, q.1⟩
    have K22 : Hid (∀ W j x p, JAt W w1.heap.size j x p (ldS b) (ldV b) (fmtJ a.toNat) → Calls Tryz.prog 22 #[.pointer (some ⟨j, 0, none⟩)] W fun e w' => ∃ q cap, e = .returned (.tuple #[.slice q (b - A) cap, .bool true]) ∧ RI (128 * b) w1.heap.size j x p b A 4096 w' (.slice q (b - A) cap) ∧ Below w1.heap.size W w') := fun W j x p h => rj_first _ j x p b A _ _ _ W h c0 hco g5' hAf g7'
    obtain ⟨N, hN⟩ : ∃ N, N = b - A := ⟨_, rfl⟩
    have hNi : IntKind.i64.wrap ((b : Int) - a) = (N : Int) := by rw [IntKind.wrap_i64]; omega
    have hN1 : 1 ≤ N := by omega
    have hNb : N ≤ 60 := by omega
    rw [← hN] at K22
    have HN := Lib.hid hN
    clear K21 hz hL hw1 hx1 hr hbw
    clear hco g5 g7 g5' g7' c0 hg0 cc hjo haa hAf hA hN
    subst hAa
    go_enter Tryz.func4, Tryz.ntmps4
    go_wp2_with (first
      | (rw [HW1.out])
      | (go_at_call 10; (with_reducible refine (K10.out _).mono ?_); rintro e w2 ⟨rfl, rfl⟩)
      | (go_at_call 21; (with_reducible refine K21'.out.mono ?_); rintro e w3 ⟨j, x, p, rfl, hj, hb3⟩; have e3 := cell_below HE1.out hb3; have H3 := Lib.hid (And.intro hj hb3); clear hj hb3)
      | (go_at_call 22; (with_reducible refine (K22.out _ _ _ _ H3.out.1).mono ?_); rintro e w4 ⟨q, cap, rfl, hj, hb4⟩; have hb14 := H3.out.2.trans hb4; have e4 := cell_below HE1.out hb14; have H4 := Lib.hid (And.intro hj hb14); clear hj hb4 hb14))
    go_loopw [9, 11] (fun s9 i W => ∃ (v : Value) (k : Nat), s9 = v ∧ k ≤ L ∧ i = .int .i64 (k : Int) ∧ RI (128 * b) w1.heap.size j x p b A (4096 * (k + 1)) W v ∧ Below w1.heap.size w1 W) (fun _ i _ => L - (RowKit.intOf i).toNat)
    case atStart => exact ⟨_, 0, rfl, Nat.zero_le _, rfl, H4.out.1, H4.out.2⟩
    case round =>
      obtain ⟨v9, k, hs9, hk, rfl, hri, hbr⟩ := hrel
      have hs9' := hs9.symm
      subst hs9'
      clear hs9
      have HBR := Lib.hid hbr
      obtain ⟨S, V, J, h1, hc, hco, h4, h5, h6⟩ := hri
      have hok := h1.jx.1
      by_cases hlt : k < L
      · have hki : (k : Int) < (L : Int) := by omega
        obtain ⟨qt', capt', hve', _, hel⟩ := HT.out
        have hqq : qt = qt' := by injection hve'
        have hkl : k < l.length := by have := HLL.out; omega
        obtain ⟨⟨⟨qx, cx, hvx, hlc, hwx⟩, hwo, hln⟩, bt, ot, hqt, hbt, hct⟩ := hel k hkl
        rw [← hqq] at hqt
        subst hqt
        obtain ⟨tx, htx⟩ : ∃ tx, tx = l[k].2 := ⟨_, rfl⟩
        rw [← htx] at hvx hlc hwx hwo hln
        rw [hvx] at hct
        have hwv : WV wr (fun k => k < w1.heap.size) (.slice qx tx.length cx) tx := WV.below ⟨qx, cx, rfl, hlc, hwx⟩ hbr
        obtain ⟨T, hTT⟩ : ∃ T, T = tx.length := ⟨_, rfl⟩
        rw [← hTT] at hct hwv hlc hln
        obtain ⟨O, hO⟩ : ∃ O, O = ot + k := ⟨_, rfl⟩
        rw [← hO] at hct
        have hOs : ot + k = O := hO.symm
        have hctr := cell_below hct hbr
        have HCT := Lib.hid hct
        have HTT := Lib.hid hTT
        have n0 := hok.n0
        have n1 := hok.n1
        obtain ⟨NX, hNX⟩ : ∃ NX, NX = J.next := ⟨_, rfl⟩
        rw [← hNX] at n0 n1
        have hwn : IntKind.i64.wrap (NX + 1) = NX + 1 := by rw [IntKind.wrap_i64]; omega
        have KN1 : Hid (Calls Tryz.prog 23 #[.pointer (some ⟨j, 0, none⟩)] wr fun e w' => e = .returned (.int .i64 NX) ∧ wr = w') := by rw [hNX]; exact rj_next _ j x p S V J _ _ wr h1
        obtain ⟨M, hM⟩ : ∃ M, M = mostN A 2 := ⟨_, rfl⟩
        have KM : Hid (∀ W S' V' v' ls, RJ W w1.heap.size j x p S' V' (cmJ J V tx) v' ls → (cmJ J V tx).area = A → Calls Tryz.prog 27 #[.pointer (some ⟨j, 0, none⟩)] W fun e w' => e = .returned (.int .i64 M) ∧ W = w') := fun W S' V' v' ls h hA' => by rw [hM, ← hA']; exact rj_most _ j x p S' V' _ v' ls W h
        obtain ⟨R, hR⟩ : ∃ R, R = mostN A (cmJ J V tx).en := ⟨_, rfl⟩
        have KR : Hid (∀ W S' V' v' ls, RJ W w1.heap.size j x p S' V' (cmJ J V tx) v' ls → (cmJ J V tx).area = A → Calls Tryz.prog 26 #[.pointer (some ⟨j, 0, none⟩)] W fun e w' => e = .returned (.int .i64 R) ∧ W = w') := fun W S' V' v' ls h hA' => by rw [hR, ← hA']; exact rj_room _ j x p S' V' _ v' ls W h
        have hen := cmJ_en (tx := tx) hok
        have hR0 : ¬ R < 0 := by rw [hR]; unfold mostN; omega
        have hRM : ¬ M < R := by rw [hR, hM]; unfold mostN; omega
        have KA : Hid (∀ W S' V' v', RJ W w1.heap.size j x p S' V' (cmJ J V tx) v' (celsL S' V' (cmJ J V tx)) → Calm (128 * b) S' → CelOk S' V' (cmJ J V tx) → V'.cnt = b → (cmJ J V tx).area = A → V'.mis ≤ 4096 * (k + 1) → Calls Tryz.prog 22 #[.pointer (some ⟨j, 0, none⟩)] W fun e w' => ∃ v2 l, e = .returned (.tuple #[v2, .bool true]) ∧ TR w' v2 l ∧ TR w' v' l ∧ RI (128 * b) w1.heap.size j x p b A (4096 * (k + 1 + 1)) w' v' ∧ Below w1.heap.size W w') := fun W S' V' v' a1 a2 a3 a4 a5 a6 => ri_again _ j x p b A (4096 * (k + 1)) S' V' _ v' W a1 a2 a3 a4 a5 a6 (by omega)
        clear hel hve' hqq hvx hwx hM hR hen hct hO hTT
        by_cases hE : cmE J V tx = 0
        · have KT : Hid (Calls Tryz.prog 24 #[.pointer (some ⟨j, 0, none⟩), .slice qx T cx] wr fun e w' => e = .returned (.int .i64 0) ∧ Below w1.heap.size wr w' ∧ ∃ S' V', Calm (128 * b) S' ∧ CelOk S' V' (cmJ J V tx) ∧ V'.cnt = b ∧ (cmJ J V tx).area = A ∧ V'.mis ≤ 4096 * (k + 1) ∧
              Calls Tryz.prog 25 #[v9, .slice qx T cx] w' fun e w2 => ∃ v', e = .returned v' ∧ RJ w2 w1.heap.size j x p S' V' (cmJ J V tx) v' (celsL S' V' (cmJ J V tx)) ∧ Below w1.heap.size wr w2) := ri_take _ j x p b A _ S V J v9 _ tx wr h1 hc hco h4 h5 h6 hwv (by have := HTT.out; omega) hE
          by_cases hnil : tx = []
          · have hT0 : ¬ (0 : Int) < (T : Int) := by have := HTT.out; rw [hnil] at this; simp at this; omega
            have KN2 : Hid (∀ W S' V' v' ls, RJ W w1.heap.size j x p S' V' (cmJ J V tx) v' ls → Calls Tryz.prog 23 #[.pointer (some ⟨j, 0, none⟩)] W fun e w' => e = .returned (.int .i64 NX) ∧ W = w') := fun W S' V' v' ls h => by
              have := rj_next _ j x p S' V' _ v' ls W h
              rwa [hnil, cmJ_nil, ← hNX] at this
            clear h1 hc hco h4 h5 h6 hok hwv hNX hnil hE hwo htx
            go_wp2_with (first
              | (go_at_call 23; (with_reducible refine KN1.out.mono ?_); rintro e w5 ⟨rfl, rfl⟩)
              | (go_at_call 24; (with_reducible refine KT.out.mono ?_); rintro e w5 ⟨rfl, hb5, S2, V2, a1, a2, a3, a4, a5, kb⟩; have hct5 := cell_below HCT.out (HBR.out.trans hb5); have H5 := Lib.hid (And.intro a1 (And.intro a2 (And.intro a3 (And.intro a4 a5)))); have KB := Lib.hid kb; clear a1 a2 a3 a4 a5 kb hb5)
              | (go_at_call 25; (with_reducible refine KB.out.mono ?_); rintro e w6 ⟨v6, rfl, a6, hb6⟩; have hct6 := cell_below HCT.out (HBR.out.trans hb6); have H6 := Lib.hid (And.intro a6 (HBR.out.trans hb6)); clear a6 hb6)
              | (go_at_call 23; (with_reducible refine (KN2.out _ _ _ _ _ H6.out.1).mono ?_); rintro e w7 ⟨rfl, rfl⟩)
              | (go_at_call 26; (with_reducible refine (KR.out _ _ _ _ _ H6.out.1 H5.out.2.2.2.1).mono ?_); rintro e w7 ⟨rfl, rfl⟩)
              | (go_at_call 27; (with_reducible refine (KM.out _ _ _ _ _ H6.out.1 H5.out.2.2.2.1).mono ?_); rintro e w7 ⟨rfl, rfl⟩)
              | (go_at_call 22; (with_reducible refine (KA.out _ _ _ _ H6.out.1 H5.out.1 H5.out.2.1 H5.out.2.2.1 H5.out.2.2.2.1 H5.out.2.2.2.2).mono ?_); rintro e w8 ⟨v2, ls, rfl, t1, t2, ri, hb8⟩; have H8 := Lib.hid (And.intro t1 (And.intro t2 (And.intro ri (H6.out.2.trans hb8)))); clear t1 t2 ri hb8)
              | (go_at_call 28; (with_reducible refine (rows_same _ _ _ _ H8.out.1 H8.out.2.1).mono ?_); rintro e w9 ⟨rfl, hb9⟩; have H9 := Lib.hid (And.intro (H8.out.2.2.1.below hb9) (H8.out.2.2.2.trans (hb9.mono H8.out.2.2.1.form.2))); clear hb9))
            go_roundw
            case rel => exact ⟨_, k + 1, rfl, by omega, by go_num, H9.out.1, H9.out.2⟩
            case measure => simp only [RowKit.intOf]; omega
          · have hgo : cmGo J V tx := by
              rcases cmE_cases (J := J) (V := V) (l := tx) with ⟨_, z | z⟩ | ⟨z, _⟩
              · exact absurd z hnil
              · exact z
              · exact absurd hE z
            have hT0 : (0 : Int) < (T : Int) := by
              have := HTT.out
              have : 0 < tx.length := List.length_pos_iff.2 hnil
              omega
            have KN2 : Hid (∀ W S' V' v' ls, RJ W w1.heap.size j x p S' V' (cmJ J V tx) v' ls → Calls Tryz.prog 23 #[.pointer (some ⟨j, 0, none⟩)] W fun e w' => e = .returned (.int .i64 (NX + 1)) ∧ W = w') := fun W S' V' v' ls h => by
              have := rj_next _ j x p S' V' _ v' ls W h
              rwa [(cmJ_more hgo).1, ← hNX] at this
            clear h1 hc hco h4 h5 h6 hok hwv hNX hnil hE hgo hwo htx
            go_wp2_with (first
              | (go_at_call 23; (with_reducible refine KN1.out.mono ?_); rintro e w5 ⟨rfl, rfl⟩)
              | (go_at_call 24; (with_reducible refine KT.out.mono ?_); rintro e w5 ⟨rfl, hb5, S2, V2, a1, a2, a3, a4, a5, kb⟩; have hct5 := cell_below HCT.out (HBR.out.trans hb5); have H5 := Lib.hid (And.intro a1 (And.intro a2 (And.intro a3 (And.intro a4 a5)))); have KB := Lib.hid kb; clear a1 a2 a3 a4 a5 kb hb5)
              | (go_at_call 25; (with_reducible refine KB.out.mono ?_); rintro e w6 ⟨v6, rfl, a6, hb6⟩; have hct6 := cell_below HCT.out (HBR.out.trans hb6); have H6 := Lib.hid (And.intro a6 (HBR.out.trans hb6)); clear a6 hb6)
              | (go_at_call 23; (with_reducible refine (KN2.out _ _ _ _ _ H6.out.1).mono ?_); rintro e w7 ⟨rfl, rfl⟩)
              | (go_at_call 26; (with_reducible refine (KR.out _ _ _ _ _ H6.out.1 H5.out.2.2.2.1).mono ?_); rintro e w7 ⟨rfl, rfl⟩)
              | (go_at_call 27; (with_reducible refine (KM.out _ _ _ _ _ H6.out.1 H5.out.2.2.2.1).mono ?_); rintro e w7 ⟨rfl, rfl⟩)
              | (go_at_call 22; (with_reducible refine (KA.out _ _ _ _ H6.out.1 H5.out.1 H5.out.2.1 H5.out.2.2.1 H5.out.2.2.2.1 H5.out.2.2.2.2).mono ?_); rintro e w8 ⟨v2, ls, rfl, t1, t2, ri, hb8⟩; have H8 := Lib.hid (And.intro t1 (And.intro t2 (And.intro ri (H6.out.2.trans hb8)))); clear t1 t2 ri hb8)
              | (go_at_call 28; (with_reducible refine (rows_same _ _ _ _ H8.out.1 H8.out.2.1).mono ?_); rintro e w9 ⟨rfl, hb9⟩; have H9 := Lib.hid (And.intro (H8.out.2.2.1.below hb9) (H8.out.2.2.2.trans (hb9.mono H8.out.2.2.1.form.2))); clear hb9))
            go_roundw
            case rel => exact ⟨_, k + 1, rfl, by omega, by go_num, H9.out.1, H9.out.2⟩
            case measure => simp only [RowKit.intOf]; omega
        · have hJ : cmJ J V tx = J := by
            rcases cmE_cases (J := J) (V := V) (l := tx) with ⟨z, _⟩ | ⟨_, z⟩
            · exact absurd z hE
            · exact z
          obtain ⟨EX, hEX⟩ : ∃ EX, EX = cmE J V tx := ⟨_, rfl⟩
          rw [← hEX] at hE
          have hE1 : (EX == 0) = false := by simpa using hE
          have hE2 : (EX != 0) = true := by simpa using hE
          have HJA : Hid ((cmJ J V tx).area = A) := by rw [hJ]; exact h5
          have KN2 : Hid (∀ W S' V' v' ls, RJ W w1.heap.size j x p S' V' (cmJ J V tx) v' ls → Calls Tryz.prog 23 #[.pointer (some ⟨j, 0, none⟩)] W fun e w' => e = .returned (.int .i64 NX) ∧ W = w') := fun W S' V' v' ls h => by
            have := rj_next _ j x p S' V' _ v' ls W h
            rwa [hJ, ← hNX] at this
          have KT : Hid (Calls Tryz.prog 24 #[.pointer (some ⟨j, 0, none⟩), .slice qx T cx] wr fun e w' => e = .returned (.int .i64 EX) ∧ Below w1.heap.size wr w' ∧ ∃ S' V', Calm (128 * b) S' ∧ CelOk S' V' (cmJ J V tx) ∧ V'.cnt = b ∧ V'.mis ≤ 4096 * (k + 1) ∧ RJ w' w1.heap.size j x p S' V' (cmJ J V tx) v9 (celsL S' V' (cmJ J V tx))) := by
            have := ri_no _ j x p b A _ S V J v9 _ tx wr h1 hc hco h4 h5 h6 hwv (by have := HTT.out; omega) (by rw [← hEX]; exact hE)
            rw [hJ, hEX]; exact this
          clear h1 hc hco h4 h5 h6 hok hwv hNX hE hwo htx hJ hEX
          go_wp2_with (first
            | (go_at_call 23; (with_reducible refine KN1.out.mono ?_); rintro e w5 ⟨rfl, rfl⟩)
            | (go_at_call 24; (with_reducible refine KT.out.mono ?_); rintro e w5 ⟨rfl, hb5, S2, V2, a1, a2, a3, a5, a6⟩; have hct5 := cell_below HCT.out (HBR.out.trans hb5); have H5 := Lib.hid (And.intro a1 (And.intro a2 (And.intro a3 (And.intro a5 (And.intro a6 (HBR.out.trans hb5)))))); clear a1 a2 a3 a5 a6 hb5)
            | (go_at_call 23; (with_reducible refine (KN2.out _ _ _ _ _ H5.out.2.2.2.2.1).mono ?_); rintro e w7 ⟨rfl, rfl⟩)
            | (go_at_call 26; (with_reducible refine (KR.out _ _ _ _ _ H5.out.2.2.2.2.1 HJA.out).mono ?_); rintro e w7 ⟨rfl, rfl⟩)
            | (go_at_call 27; (with_reducible refine (KM.out _ _ _ _ _ H5.out.2.2.2.2.1 HJA.out).mono ?_); rintro e w7 ⟨rfl, rfl⟩)
            | (go_at_call 22; (with_reducible refine (KA.out _ _ _ _ H5.out.2.2.2.2.1 H5.out.1 H5.out.2.1 H5.out.2.2.1 HJA.out H5.out.2.2.2.1).mono ?_); rintro e w8 ⟨v2, ls, rfl, t1, t2, ri, hb8⟩; have H8 := Lib.hid (And.intro t1 (And.intro t2 (And.intro ri (H5.out.2.2.2.2.2.trans hb8)))); clear t1 t2 ri hb8)
            | (go_at_call 28; (with_reducible refine (rows_same _ _ _ _ H8.out.1 H8.out.2.1).mono ?_); rintro e w9 ⟨rfl, hb9⟩; have H9 := Lib.hid (And.intro (H8.out.2.2.1.below hb9) (H8.out.2.2.2.trans (hb9.mono H8.out.2.2.1.form.2))); clear hb9))
          go_roundw
          case rel => exact ⟨_, k + 1, rfl, by omega, by go_num, H9.out.1, H9.out.2⟩
          case measure => simp only [RowKit.intOf]; omega
      · have hkL : k = L := by omega
        have hki : ¬ (k : Int) < (L : Int) := by omega
        have hN' : V.cnt - J.area = N := by rw [h4, h5, HN.out]
        have z1 : isC J V (-1) = false := by unfold isC; simp
        have z2 : isC J V (N : Int) = false := by unfold isC; rw [hN']; simp
        have K1 : Hid (Calls Tryz.prog 17 #[.pointer (some ⟨j, 0, none⟩), .int .i64 (-1)] wr fun e w' => e = .returned (.tuple #[.string (ofL []), .int .i64 161]) ∧ RJ w' w1.heap.size j x p S V J v9 (celsL S V J) ∧ Below w1.heap.size wr w') := rj_read _ j x p S V J v9 _ (-1) wr h1 hc (by omega) z1
        have K2 : Hid (∀ W, RJ W w1.heap.size j x p S V J v9 (celsL S V J) → Calls Tryz.prog 29 #[.pointer (some ⟨j, 0, none⟩)] W fun e w' => e = .returned (.int .i64 (N : Int)) ∧ RJ w' w1.heap.size j x p S V J v9 (celsL S V J) ∧ Below w1.heap.size W w') := fun W h => (rj_cells _ j x p S V J v9 _ W h).mono fun e w' q => ⟨by rw [q.1, hN'], h.below q.2, q.2.mono h.base⟩
        have K3 : Hid (∀ W, RJ W w1.heap.size j x p S V J v9 (celsL S V J) → Calls Tryz.prog 17 #[.pointer (some ⟨j, 0, none⟩), .int .i64 (N : Int)] W fun e w' => e = .returned (.tuple #[.string (ofL []), .int .i64 161]) ∧ RJ w' w1.heap.size j x p S V J v9 (celsL S V J) ∧ Below w1.heap.size W w') := fun W h => rj_read _ j x p S V J v9 _ (N : Int) W h hc (by omega) z2
        clear h1 hc hco h4 h5 h6 hok hN' z1 z2 hbr
        go_wp2_with (first
          | (go_at_call 17; (with_reducible refine K1.out.mono ?_); rintro e w5 ⟨rfl, h5, hb5⟩; have H5 := Lib.hid (And.intro h5 (HBR.out.trans hb5)); clear h5 hb5)
          | (go_at_call 29; (with_reducible refine (K2.out _ H5.out.1).mono ?_); rintro e w6 ⟨rfl, h6, hb6⟩; have H6 := Lib.hid (And.intro h6 (H5.out.2.trans hb6)); clear h6 hb6)
          | (go_at_call 17; (with_reducible refine (K3.out _ H6.out.1).mono ?_); rintro e w7 ⟨rfl, h7, hb7⟩; have H7 := Lib.hid (H6.out.2.trans hb7); clear h7 hb7)
          | (go_at_call 9; (with_reducible refine (K9.out _).mono ?_); rintro e w8 ⟨rfl, hb8⟩; have H8 := Lib.hid (H7.out.trans (hb8.mono H7.out.size)); clear hb8))
        go_ret
        exact ⟨rfl, HBW.out.trans (H8.out.mono HBW.out.size)⟩
end Go.Proofs.YtjippoejaieneaaGreat
