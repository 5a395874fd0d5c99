/- BlockSafe's walk: behind a barrier a crash takes nothing of the extent. Conditions: ints are within 64 bits, strings and lists are no longer than a machine holds. -/
import Derived.Test.YtnecbbflcpngcaaSaf
namespace Go.Proofs.Ytnecbbflcpngcaa
open Go.RowKit Go.Maps
set_option maxRecDepth 20000
set_option linter.unusedVariables false

theorem safe_nums (f c k : Nat) (h : f + c ≤ k) (hk : k ≤ 4096) : (128 * (k : Int)) / 128 = (k : Int) ∧ wrap64 ((k : Int) - (f : Int)) = (k : Int) - (f : Int) ∧ (f : Int) ≤ (k : Int) ∧ (c : Int) ≤ (k : Int) - (f : Int) :=
  ⟨by omega, by unfold wrap64; omega, by omega, by omega⟩
theorem wrap_succ (k : Nat) (h : k < 4611686018427387904) : wrap64 ((k : Int) + 1) = ((k + 1 : Nat) : Int) := by unfold wrap64; omega
theorem meas_succ (c k : Nat) (v : Int) (h : k < c) (hv : v = ((k + 1 : Nat) : Int)) : c - (intOf (.int .i64 v)).toNat < c - (intOf (.int .i64 (k : Int))).toNat := by
  subst hv; simp only [intOf]; omega
set_option maxHeartbeats 16000000 in
theorem safe_law (s : ByteArray) (f c m : Int) (va vb : Value) (l : List Opr) (ch : List Int) (w : World) (hs : s.size ≤ 140737488355328) (hf : In64 f) (hc : In64 c) (hm : In64 m) (hsc : Script w va l) (hch : ChOk w vb ch) :
    Calls Try.prog 8 #[.string s, .agg #[.int .i64 f, .int .i64 c, .int .i64 m], .agg #[va, vb]] w fun e w' => e = .returned (.bool true) ∧ Below w.heap.size w w' := by
  obtain ⟨W0, hW0⟩ : ∃ W0, W0 = w.alloc (extC f c m) := ⟨_, rfl⟩
  have hb0 : Below w.heap.size w W0 := by rw [hW0]; exact (Below.refl _ w).alloc (Nat.le_refl _) _
  have hs0 : W0.heap.size = w.heap.size + 1 := by rw [hW0]; simp
  obtain ⟨W1, hW1⟩ : ∃ W1, W1 = W0.alloc (.cells #[va, vb] 76) := ⟨_, rfl⟩
  obtain ⟨B, hB⟩ : ∃ B, B = W1.heap.size := ⟨_, rfl⟩
  obtain ⟨X, hX⟩ : ∃ X, X = w.heap.size := ⟨_, rfl⟩
  have hs1 : W1.heap.size = w.heap.size + 2 := by rw [hW1]; simp [hs0]
  have hb01 : Below W0.heap.size W0 W1 := by rw [hW1]; exact (Below.refl _ W0).alloc (Nat.le_refl _) _
  have hb1 : Below w.heap.size w W1 := hb0.trans (hb01.mono hb0.size)
  have hbx : W1.heap[X]? = some (extC f c m) := (hb01.block X (by omega)).trans (by rw [hW0, hX]; exact block_new w _)
  have hbz : W1.heap[X + 1]? = some (.cells #[va, vb] 76 (0, 0)) := by
    have : X + 1 = W0.heap.size := by omega
    rw [this, hW1]; exact block_new W0 _
  have HX : Hid (∀ W, Below B W1 W → W.cell? ⟨X, 0, none⟩ = some (.int .i64 f) ∧ W.cell? ⟨X, 1, none⟩ = some (.int .i64 c) ∧ W.cell? ⟨X, 2, none⟩ = some (.int .i64 m)) := fun W h => ext_cells ((h.block X (by omega)).trans hbx)
  have HZ : Hid (∀ W, Below B W1 W → W.cell? ⟨X + 1, 0, none⟩ = some va ∧ W.cell? ⟨X + 1, 1, none⟩ = some vb) := fun W h => by
    have := (h.block (X + 1) (by omega)).trans hbz
    refine ⟨?_, ?_⟩ <;> (rw [cell_of_row _ _ _ _ _ _ this]; rfl)
  have HEND : Hid (∀ W, Below B W1 W → Below w.heap.size w W) := fun W h => hb1.trans (h.mono (by rw [hB]; exact hb1.size))
  have kf : Hid (∀ W, Calls Try.prog 14 #[] W fun e w' => e = .returned (.bool true) ∧ Below W.heap.size W w') := fun W => fixed_any W
  have HBB : Hid (B ≤ W1.heap.size) := by unfold Hid; omega
  have hcv : Hid (∀ W, Below B W1 W → CV W (fun b => b < w.heap.size) vb ch) := fun W h => hch.1.below (hb1.trans (h.mono (by rw [hB]; exact hb1.size)))
  obtain ⟨nq, nc, hvb, _⟩ := hch.1
  obtain ⟨nn, hnn⟩ : ∃ n, n = ch.length := ⟨_, rfl⟩
  rw [← hnn] at hvb
  obtain ⟨q0, cap, hv, hlc, hll, hops⟩ := op_at (hsc.below hb1)
  rw [← hB] at hops
  have HOP := Lib.hid hops
  obtain ⟨L, hL⟩ : ∃ L, L = l.length := ⟨_, rfl⟩
  rw [← hL] at hv hlc hll HOP
  clear hL
  clear hch hsc hops
  subst hv
  subst hvb
  have hW1' : (w.alloc (.cells #[.int .i64 f, .int .i64 c, .int .i64 m] 34)).alloc (.cells #[.slice q0 L cap, .slice nq nn nc] 76) = W1 := by rw [hW1, hW0]; rfl
  have HW1 := Lib.hid hW1'
  have HXE := Lib.hid hX
  clear hW1 hW0 hb0 hs0 hs1 hb01 hb1 hbx hbz hW1' hB hnn hX
  by_cases hbad : Bad s
  · have kd : Hid (∀ W, Calls Try.prog 17 #[.string s] W fun e w' => e = .returned (.tuple #[.pointer none, .int .i64 70]) ∧ Below W.heap.size W w') := fun W => new_bad s W hs hbad
    clear hs hf hc hm hlc hll hbad
    go_enter Try.func8, Try.ntmps8
    go_wp2_with fail
    rw [HW1.out]
    go_wp2_with (first
      | (go_at_call 17; refine (kd.out _).mono ?_; rintro e w2 ⟨rfl, hb2⟩; have HB2 : Hid (Below B W1 w2) := hb2.mono HBB.out; clear hb2)
      | (go_at_call 14; refine (kf.out _).mono ?_; rintro e w5 ⟨rfl, hb5⟩))
    go_ret
    exact ⟨rfl, HEND.out _ (HB2.out.trans (hb5.mono (Nat.le_trans HBB.out HB2.out.size)))⟩
  · have kd : Hid (Calls Try.prog 17 #[.string s] W1 fun e w' => ∃ p, e = .returned (.tuple #[.pointer (some ⟨p, 0, none⟩), .int .i64 0]) ∧ At w' B p (newS s.data.toList) ∧ Below B W1 w') :=
      (new_at s W1 hs hbad).mono fun e w' ⟨p, q1, q2, q3⟩ => ⟨p, q1, q2.onto HBB.out, q3.mono HBB.out⟩
    have hcalm := Calm.new hbad
    obtain ⟨S0, hS0⟩ : ∃ S, S = newS s.data.toList := ⟨_, rfl⟩
    rw [← hS0] at kd hcalm
    obtain ⟨N, hN⟩ : ∃ N, N = S0.count := ⟨_, rfl⟩
    have hsN : s.size = 128 * N := by rw [hN, ← hcalm.ok.len, hcalm.len]
    have hN1 : N ≤ 4096 := by rw [hN]; exact hcalm.ok.hi
    clear hbad hS0 hs
    by_cases hnw : nwE S0 f c m = 0
    · have hn0 : nwE S0 f c 0 = 0 := by
        unfold nwE at hnw ⊢
        split at hnw
        · cases hnw
        · rw [if_neg (by omega)]
      have hnn := hnw
      unfold nwE at hnn
      have hrg : ¬ (f < 0 ∨ c < 1 ∨ (S0.count : Int) - c < f ∨ m < 0 ∨ 16 < m) := by
        intro z; rw [if_pos z] at hnn; cases hnn
      clear hnn
      obtain ⟨f', rfl⟩ : ∃ n : Nat, f = (n : Int) := ⟨f.toNat, by omega⟩
      obtain ⟨c', rfl⟩ : ∃ n : Nat, c = (n : Int) := ⟨c.toNat, by omega⟩
      obtain ⟨V0, hV0⟩ : ∃ V, V = newV (f' : Int) (c' : Int) m := ⟨_, rfl⟩
      have hVf : V0.first = f' ∧ V0.cnt = c' ∧ V0.mis = 0 := by rw [hV0]; exact ⟨Int.toNat_natCast _, Int.toNat_natCast _, rfl⟩
      obtain ⟨U0, hU0⟩ : ∃ U, U = newV (f' : Int) (c' : Int) 0 := ⟨_, rfl⟩
      have hUf : U0.first = f' ∧ U0.cnt = c' ∧ U0.mis = 0 := by rw [hU0]; exact ⟨Int.toNat_natCast _, Int.toNat_natCast _, rfl⟩
      have hfk : f' + c' ≤ N := by omega
      have hc1 : 1 ≤ (c' : Int) := by omega
      have kv : Hid (∀ W p, At W B p S0 → Below B W1 W → Calls Try.prog 19 #[.pointer (some ⟨p, 0, none⟩), .int .i64 (f' : Int), .int .i64 (c' : Int), .int .i64 m] W fun e w' => ∃ x, e = .returned (.tuple #[.pointer (some ⟨x, 0, none⟩), .int .i64 0]) ∧ EAt w' B x p S0 V0 ∧ Below B W1 w') := fun W p h hb =>
        (enew_at B p S0 _ _ m W h (Nat.le_trans HBB.out hb.size) hf hc hm hnw).mono fun e w' ⟨a1, a2, a3⟩ => ⟨_, a1, by rw [hV0]; exact a2, hb.trans (a3.mono (Nat.le_trans HBB.out hb.size))⟩
      have HNW : Hid (∀ S : St, S.count = N → nwE S (f' : Int) (c' : Int) 0 = 0) := fun S e => by
        have := hn0; unfold nwE at this ⊢; rw [e, hN]; exact this
      obtain ⟨q1, q2, q3, q4⟩ := safe_nums f' c' N hfk hN1
      have d0 : decide ((f' : Int) < 0) = false := decide_eq_false (by omega)
      have d1 : decide ((c' : Int) < 1) = false := decide_eq_false (by omega)
      have d2 : decide (N < f') = false := decide_eq_false (by omega)
      have d3 : decide ((N : Int) - (f' : Int) < (c' : Int)) = false := decide_eq_false (by omega)
      have HC0 := Lib.hid (And.intro hcalm hN)
      have HFC := Lib.hid (And.intro hf hc)
      have HU0 := Lib.hid hU0
      clear hnw hn0 hrg hV0 hU0 hcalm hf hc hm hN
      go_enter Try.func8, Try.ntmps8
      go_wp2_with fail
      rw [HW1.out, ← HXE.out]
      go_wp2_with (first
        | (go_at_call 17; (with_reducible refine kd.out.mono ?_); rintro e w2 ⟨p, rfl, hat, hb2⟩; have HA2 := Lib.hid hat; have HB2 := Lib.hid hb2; obtain ⟨x0, x1, x2⟩ := HX.out w2 hb2; clear hat hb2)
        | (go_at_call 19; (with_reducible refine (kv.out _ p HA2.out HB2.out).mono ?_); rintro e w3 ⟨x, rfl, he3, hb3⟩; have HE3 := Lib.hid he3; have HB3 := Lib.hid hb3; obtain ⟨x0, x1, x2⟩ := HX.out w3 hb3; clear he3 hb3))
      clear x0 x1 x2 kd kv HA2
      clear x0 x1 x2 d0 d1 d2 d3 q1 q2 q3 q4
      go_loopw [11] (fun i W => ∃ (j : Nat) (S : St) (V : Dv), j ≤ L ∧ i = .int .i64 (j : Int) ∧ EAt W B x p S V ∧ Calm s.size S ∧ S.count = N ∧ (V.first = f' ∧ V.cnt = c' ∧ V.mis = 0) ∧ Below B W1 W) (fun i _ => L - (intOf i).toNat)
      case atStart => exact ⟨0, S0, V0, Nat.zero_le _, rfl, HE3.out, HC0.out.1, HC0.out.2.symm, hVf, HB3.out⟩
      case round =>
        obtain ⟨j, S, V, hj, rfl, he, hcl, hcnt, hV, hbel⟩ := hrel
        obtain ⟨u0, u1⟩ := HZ.out wr hbel
        by_cases hlt2 : j < L
        · have hji : (j : Int) < (L : Int) := by omega
          obtain ⟨o, b, O, _, _, hok, hq0, hO6, _, hcell⟩ := HOP.out j hlt2
          obtain ⟨off, hoff⟩ : ∃ off, off = O - j * 6 := ⟨_, rfl⟩
          rw [← hoff] at hq0
          have hOs : off + j * 6 = O := by omega
          subst hq0
          have HCE := Lib.hid hcell
          obtain ⟨y0, y1, y2, y3, y4, y5⟩ := hcell wr (hbel.mono (by have := HBB.out; omega))
          have hos : o.s.size ≤ 281474976710656 := by have := hok.s; omega
          have hgood := he.good
          have HE0 := Lib.hid (And.intro he (And.intro hcl (And.intro hcnt (And.intro hV hbel))))
          by_cases z2 : o.kind = 2
          · have KW : Hid (Calls Try.prog 32 #[.pointer (some ⟨x, 0, none⟩), .int .i64 o.a, .string o.s, .int .i64 o.b] wr.drew fun e w' => (∃ r, e = .returned (.int .i64 r)) ∧ EAt w' B x p (wrS S V o.a o.s.data.toList o.b) (wrV S V o.a o.s.data.toList o.b) ∧ Below B W1 w') :=
              (ewrite_at B x p S V o.a o.s o.b _ (he.below (below_drew (Below.refl _ wr))) hos).mono fun e w' q => ⟨⟨_, q.1⟩, q.2.1, (below_drew hbel).trans q.2.2⟩
            have HAW : Hid (Calm s.size (wrS S V o.a o.s.data.toList o.b) ∧ (wrS S V o.a o.s.data.toList o.b).count = N ∧ (wrV S V o.a o.s.data.toList o.b).first = f' ∧ (wrV S V o.a o.s.data.toList o.b).cnt = c' ∧ (wrV S V o.a o.s.data.toList o.b).mis = 0) := by
              obtain ⟨g1, g2, _, g4⟩ := wrV_cnt S V o.a o.s.data.toList o.b
              exact ⟨calmWr hcl hgood.fit _ _ _, (hgood.write hcl.ok _ _ _).2.2.trans hcnt, g1.trans hV.1, g2.trans hV.2.1, g4.trans hV.2.2⟩
            have HCW : Hid (∀ W, Below B W1 W → W.cell? ⟨X + 1, 0, none⟩ = some (.slice (some ⟨b, off, none⟩) L cap) ∧ W.cell? ⟨b, O + 2, none⟩ = some (.int .i64 o.a) ∧ W.cell? ⟨b, O + 3, none⟩ = some (.int .i64 o.b) ∧ W.cell? ⟨b, O + 4, none⟩ = some (.string o.s)) := fun W hW => by
              obtain ⟨_, _, g2, g3, g4, _⟩ := HCE.out W (hW.mono (by have := HBB.out; omega))
              exact ⟨(HZ.out W hW).1, g2, g3, g4⟩
            rw [z2] at y1
            clear he hcl hcnt hV hbel hcell hO6 hoff hok hos hgood z2 y0 y5
            generalize wrS S V o.a o.s.data.toList o.b = S' at *
            generalize wrV S V o.a o.s.data.toList o.b = V' at *
            go_wp2_with (fail)
            go_region_held3 (fun W => W.cell? ⟨X + 1, 0, none⟩ = some (.slice (some ⟨b, off, none⟩) L cap) ∧ W.cell? ⟨b, O + 2, none⟩ = some (.int .i64 o.a) ∧ W.cell? ⟨b, O + 3, none⟩ = some (.int .i64 o.b) ∧ W.cell? ⟨b, O + 4, none⟩ = some (.string o.s))
              (first
                | exact HCW.out _ (below_drew HE0.out.2.2.2.2)
                | exact HCW.out _ hb7)
              (first
                | (go_at_call 32; (with_reducible refine KW.out.mono ?_); rintro e w7 ⟨⟨rr, rfl⟩, he7, hb7⟩))
            have H7 := Lib.hid (And.intro he7 hb7)
            clear he7 hb7 y1 y2 y3 y4 u0 u1
            go_wp2
            go_roundw
            case rel => exact ⟨j + 1, S', V', by omega, by go_num, H7.out.1, HAW.out.1, HAW.out.2.1, HAW.out.2.2, H7.out.2⟩
            case measure => simp [intOf]; omega
          · have z2' : (o.kind == 2) = false := by simp [z2]
            clear he hcl hcnt hV hbel hcell hO6 hoff hok hos hgood
            generalize o.kind = K at *
            clear z2 y0 y2 y3 y4 y5
            go_wp2
            go_roundw
            case rel => exact ⟨j + 1, S, V, by omega, by go_num, HE0.out.1, HE0.out.2.1, HE0.out.2.2.1, HE0.out.2.2.2.1, HE0.out.2.2.2.2⟩
            case measure => simp [intOf]; omega
        · have hjL : j = L := Nat.le_antisymm hj (Nat.not_lt.1 hlt2)
          subst hjL
          have hgood := he.good
          obtain ⟨b1, b2, b3, b4, b5, b6⟩ := good_back hcl hgood ch
          have hba := bar_calm hcl hgood.ok hgood.fit
          have hfs := hcl.flush (V.first : Int) (V.cnt : Int)
          have efs := calm_flush hcl hgood.ok hgood.fit
          obtain ⟨T1, hT1⟩ : ∃ T, T = S.calm V.first (V.first + V.cnt) := ⟨_, rfl⟩
          rw [← hT1] at b1 b2 b3 b4 b5 b6 efs
          have KB : Hid (Calls Try.prog 33 #[.pointer (some ⟨x, 0, none⟩)] wr fun e w' => e = .returned (.int .i64 0) ∧ EAt w' B x p T1 V ∧ Below B W1 w') := by
            have := ebarrier_at B x p S V wr he
            rw [efs] at this
            exact this.mono fun e w' q => ⟨q.1, q.2.1, hbel.trans q.2.2⟩
          have hd1 : T1.dead = false := by have := hfs.dead; rw [efs] at this; exact this
          obtain ⟨T2, hT2⟩ : ∃ T, T = T1.lose ch := ⟨_, rfl⟩
          rw [← hT2] at b1 b2 b3 b4 b5 b6
          have KCR : Hid (∀ W, EAt W B x p T1 V → Below B W1 W → Calls Try.prog 35 #[.pointer (some ⟨p, 0, none⟩), .slice nq nn nc] W fun e w' => e = .returned (.int .i64 0) ∧ EAt w' B x p T2 V ∧ Below B W1 w') := fun W h hb => by
            have := ecrash_at B x p T1 V W h _ _ ch (hcv.out W hb) hd1 (by rw [← hT2]; exact b1) (by rw [← hT2]; exact b4)
            rw [← hT2] at this
            exact this.mono fun e w' q => ⟨q.1, q.2.1, hb.trans q.2.2⟩
          obtain ⟨T3, hT3⟩ : ∃ T, T = T2.revive := ⟨_, rfl⟩
          have KRV : Hid (∀ W, EAt W B x p T2 V → Below B W1 W → Calls Try.prog 36 #[.pointer (some ⟨p, 0, none⟩)] W fun e w' => e = .returned (.tuple #[]) ∧ EAt w' B x p T3 V ∧ Below B W1 w') := fun W h hb => by
            have := erevive_at B x p T2 V W h b2 b3
            rw [← hT3] at this
            exact this.mono fun e w' q => ⟨q.1, q.2.1, hb.trans q.2.2⟩
          have hn3 := HNW.out T3 (by rw [hT3]; exact b6.trans hcnt)
          have KU : Hid (∀ W, EAt W B x p T3 V → Below B W1 W → Calls Try.prog 19 #[.pointer (some ⟨p, 0, none⟩), .int .i64 (f' : Int), .int .i64 (c' : Int), .int .i64 0] W fun e w' => ∃ y, e = .returned (.tuple #[.pointer (some ⟨y, 0, none⟩), .int .i64 0]) ∧ Tri w' B x y p T3 V U0 ∧ Below B W1 w') := fun W h hb =>
            (trinew B x p T3 V _ _ 0 W h HFC.out.1 HFC.out.2 (by unfold In64; omega) hn3).mono fun e w' ⟨y, a1, a2, a3⟩ => ⟨y, a1, by rw [HU0.out]; exact a2, hb.trans a3⟩
          have htw : V.first = f' ∧ V.cnt = c' ∧ V.mis = 0 := hV
          have HB9 := Lib.hid hbel
          clear he hcl hcnt hV hbel hlt2 hgood b1 b2 b3 b4 b5 b6 hba hfs efs hT1 hd1 hT2 hT3 hn3 hc1
          go_wp2_with (first
            | (go_at_call 33; (with_reducible refine KB.out.mono ?_); rintro e v1 ⟨rfl, he1, hb1⟩; have HE1 := Lib.hid he1; have HB1 := Lib.hid hb1; obtain ⟨u0, u1⟩ := HZ.out v1 hb1; clear he1 hb1)
            | (go_at_call 35; (with_reducible refine (KCR.out _ HE1.out HB1.out).mono ?_); rintro e v2 ⟨rfl, he2, hb2⟩; have HE2 := Lib.hid he2; have HB2' := Lib.hid hb2; clear he2 hb2)
            | (go_at_call 36; (with_reducible refine (KRV.out _ HE2.out HB2'.out).mono ?_); rintro e v3 ⟨rfl, he3, hb3⟩; have HE3' := Lib.hid he3; have HB3' := Lib.hid hb3; obtain ⟨x0, x1, x2⟩ := HX.out v3 hb3; clear he3 hb3)
            | (go_at_call 19; (with_reducible refine (KU.out _ HE3'.out HB3'.out).mono ?_); rintro e v4 ⟨y, rfl, ht4, hb4⟩; have HT4 := Lib.hid ht4; have HB4 := Lib.hid hb4; clear ht4 hb4))
          go_loopw [13] (fun i W => ∃ (k : Nat) (A D : Dv), k ≤ c' ∧ i = .int .i64 (k : Int) ∧ Tri W B x y p T3 A D ∧ (A.first = f' ∧ A.cnt = c' ∧ A.mis ≤ k) ∧ (D.first = f' ∧ D.cnt = c' ∧ D.mis ≤ k) ∧ Below B W1 W) (fun i _ => c' - (intOf i).toNat)
          case atStart => exact ⟨0, V, U0, Nat.zero_le _, rfl, HT4.out, ⟨htw.1, htw.2.1, by omega⟩, ⟨hUf.1, hUf.2.1, by omega⟩, HB4.out⟩
          case round =>
            obtain ⟨k, A, D, hk, rfl, ht, hA, hD, hbel⟩ := hrel
            obtain ⟨x0, x1, x2⟩ := HX.out wr hbel
            by_cases hlt : k < c'
            · have hki : (k : Int) < (c' : Int) := by omega
              have hcle : c' ≤ 4096 := Nat.le_trans (Nat.le_trans (Nat.le_add_left c' f') hfk) hN1
              have hkb : k < 4611686018427387904 := Nat.lt_of_lt_of_le hlt (Nat.le_trans hcle (by decide))
              have hAb : A.mis < 4611686018427387904 := Nat.lt_of_le_of_lt hA.2.2 hkb
              have hDb : D.mis < 4611686018427387904 := Nat.lt_of_le_of_lt hD.2.2 hkb
              have tw : Twin A D := ⟨hD.1.trans hA.1.symm, hD.2.1.trans hA.2.1.symm⟩
              obtain ⟨e1, e2, e3⟩ := tw.rd T3 (k : Int)
              obtain ⟨R1, hR1⟩ : ∃ R, R = ofL (rdD T3 A (k : Int)) := ⟨_, rfl⟩
              obtain ⟨R2, hR2⟩ : ∃ R, R = rdN T3 A (k : Int) := ⟨_, rfl⟩
              obtain ⟨R3, hR3⟩ : ∃ R, R = rdE T3 A (k : Int) := ⟨_, rfl⟩
              have KR1 : Hid (Calls Try.prog 34 #[.pointer (some ⟨x, 0, none⟩), .int .i64 (k : Int)] wr fun e w' => e = .returned (.tuple #[.string R1, .int .i64 R2, .int .i64 R3]) ∧ Tri w' B x y p T3 (rdV T3 A (k : Int)) D ∧ Below B W1 w') := by
                rw [hR1, hR2, hR3]
                exact (triread B x y p T3 A D (k : Int) wr ht hAb).mono fun e w' q => ⟨q.1, q.2.1, hbel.trans q.2.2⟩
              have KR2 : Hid (∀ W, Tri W B x y p T3 (rdV T3 A (k : Int)) D → Below B W1 W → Calls Try.prog 34 #[.pointer (some ⟨y, 0, none⟩), .int .i64 (k : Int)] W fun e w' => e = .returned (.tuple #[.string R1, .int .i64 R2, .int .i64 R3]) ∧ Tri w' B x y p T3 (rdV T3 A (k : Int)) (rdV T3 D (k : Int)) ∧ Below B W1 w') := fun W h hb => by
                rw [hR1, hR2, hR3, ← e1, ← e2, ← e3]
                exact (triread B y x p T3 D _ (k : Int) W h.swap hDb).mono fun e w' q => ⟨q.1, q.2.1.swap, hb.trans q.2.2⟩
              have HNX : Hid (((rdV T3 A (k : Int)).first = f' ∧ (rdV T3 A (k : Int)).cnt = c' ∧ (rdV T3 A (k : Int)).mis ≤ k + 1) ∧ (rdV T3 D (k : Int)).first = f' ∧ (rdV T3 D (k : Int)).cnt = c' ∧ (rdV T3 D (k : Int)).mis ≤ k + 1) := by
                obtain ⟨g1, g2, _⟩ := rdV_cnt T3 A (k : Int)
                obtain ⟨g4, g5, _⟩ := rdV_cnt T3 D (k : Int)
                have g7 := rdV_mis T3 A (k : Int)
                have g8 := rdV_mis T3 D (k : Int)
                exact ⟨⟨g1.trans hA.1, g2.trans hA.2.1, Nat.le_trans g7 (Nat.succ_le_succ hA.2.2)⟩, g4.trans hD.1, g5.trans hD.2.1, Nat.le_trans g8 (Nat.succ_le_succ hD.2.2)⟩
              have hkw : wrap64 ((k : Int) + 1) = ((k + 1 : Nat) : Int) := wrap_succ k hkb
              clear ht hA hD hbel tw e1 e2 e3 hR1 hR2 hR3 hAb hDb hkb hcle hVf hUf hfk hsN hN1 htw x2
              generalize rdV T3 A (k : Int) = A' at *
              generalize rdV T3 D (k : Int) = D' at *
              go_wp2_with (first
                | (go_at_call 34; (with_reducible refine KR1.out.mono ?_); rintro e v5 ⟨rfl, ht5, hb5⟩; have HT5 := Lib.hid ht5; have HB5 := Lib.hid hb5; clear ht5 hb5)
                | (go_at_call 34; (with_reducible refine (KR2.out _ HT5.out HB5.out).mono ?_); rintro e v6 ⟨rfl, ht6, hb6⟩; have HT6 := Lib.hid ht6; have HB6 := Lib.hid hb6; clear ht6 hb6))
              go_roundw
              case rel => exact ⟨k + 1, A', D', hlt, by first | rw [hkw] | (congr 1), HT6.out, HNX.out.1, HNX.out.2, HB6.out⟩
              case measure => exact meas_succ c' k _ hlt hkw
            · have hkc : ¬ (k : Int) < (c' : Int) := fun z => hlt (Int.ofNat_lt.1 z)
              have HBL := Lib.hid hbel
              clear ht hA hD hbel
              go_wp2_with (go_at_call 14; refine (kf.out _).mono ?_; rintro e w9 ⟨rfl, hb9⟩)
              go_ret
              exact ⟨rfl, HEND.out _ (HBL.out.trans (hb9.mono (Nat.le_trans HBB.out HBL.out.size)))⟩
    · have kv : Hid (∀ W p, At W B p S0 → Calls Try.prog 19 #[.pointer (some ⟨p, 0, none⟩), .int .i64 f, .int .i64 c, .int .i64 m] W fun e w' => e = .returned (.tuple #[.pointer none, .int .i64 150]) ∧ W = w') := fun W p h => enew_no B p S0 f c m W h hf hc hm hnw
      clear hnw hcalm hf hc hm
      go_enter Try.func8, Try.ntmps8
      go_wp2_with fail
      rw [HW1.out, ← HXE.out]
      go_wp2_with (first
        | (go_at_call 17; (with_reducible refine kd.out.mono ?_); rintro e w2 ⟨p, rfl, hat, hb2⟩; have HA2 := Lib.hid hat; have HB2 := Lib.hid hb2; obtain ⟨x0, x1, x2⟩ := HX.out w2 hb2; clear hat hb2)
        | (go_at_call 19; (with_reducible refine (kv.out _ p HA2.out).mono ?_); rintro e w3 ⟨rfl, rfl⟩)
        | (go_at_call 14; refine (kf.out _).mono ?_; rintro e w9 ⟨rfl, hb9⟩))
      go_ret
      exact ⟨rfl, HEND.out _ (HB2.out.trans (hb9.mono (Nat.le_trans HBB.out HB2.out.size)))⟩
end Go.Proofs.Ytnecbbflcpngcaa
