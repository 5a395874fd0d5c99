/- Bytes read in two parts: what the law's call returns. Conditions: numbers that a machine holds. -/
import Derived.Test.YtnhfbeehoifddaaFxd
import Derived.Test.YtnhfbeehoifddaaArg
import Derived.StillTailTactics
namespace Go.Proofs.Ytnhfbeehoifddaa
open Go.RowKit Go.Maps
set_option linter.unusedVariables false

theorem thereE_split (ps : List Pg) (R : Int) : ∀ (k m : Nat) (a : Int), thereE ps R a (k + m) = if thereE ps R a k = 0 then thereE ps R (a + k) m else thereE ps R a k
  | 0, m, a => by simp [thereE]
  | k + 1, m, a => by
    have ih := thereE_split ps R k m (a + 1)
    rw [show k + 1 + m = (k + m) + 1 by omega]
    show (if bad ps R a = 0 then thereE ps R (a + 1) (k + m) else bad ps R a) = if (if bad ps R a = 0 then thereE ps R (a + 1) k else bad ps R a) = 0 then thereE ps R (a + ((k + 1 : Nat) : Int)) m else (if bad ps R a = 0 then thereE ps R (a + 1) k else bad ps R a)
    by_cases hb : bad ps R a = 0
    · rw [if_pos hb, if_pos hb, ih, show a + 1 + (k : Int) = a + ((k + 1 : Nat) : Int) by omega]
    · rw [if_neg hb, if_neg hb, if_neg hb]
theorem splits_pure (F : Nat) (ps : List Pg) (B : Bts) (a : Int) (x y : Nat) (R : Int) (hx : x ≤ 2000) (hy : y ≤ 2000) (hR : R = 1 ∨ R = 4) :
    (readE F ps a x R ≠ 0 → readE F ps a ((x : Int) + y) R = readE F ps a x R ∧ readS F ps B a ((x : Int) + y) R = [] ∧ readS F ps B a x R = []) ∧
    (readE F ps a x R = 0 → readE F ps (a + x) y R ≠ 0 → readE F ps a ((x : Int) + y) R = readE F ps (a + x) y R ∧ readS F ps B a ((x : Int) + y) R = [] ∧ readS F ps B (a + x) y R = []) ∧
    (readE F ps a x R = 0 → readE F ps (a + x) y R = 0 → readE F ps a ((x : Int) + y) R = 0 ∧ readS F ps B a ((x : Int) + y) R = readS F ps B a x R ++ readS F ps B (a + x) y R ∧ (readS F ps B a x R).length = x ∧ (readS F ps B (a + x) y R).length = y) := by
  have s1 : sizeOk x R := by unfold sizeOk; omega
  have s2 : sizeOk y R := by unfold sizeOk; omega
  have s3 : sizeOk ((x : Int) + y) R := by unfold sizeOk; omega
  have en : ((x : Int) + y).toNat = x + y := by omega
  have h := thereE_split ps R x y a
  unfold readS readE
  by_cases c : chk F ps = 0
  · rw [if_pos c, if_pos c, if_pos c, if_pos s1, if_pos s2, if_pos s3, en, Int.toNat_natCast, Int.toNat_natCast]
    refine ⟨fun h1 => ?_, fun h1 h2 => ?_, fun h1 h2 => ?_⟩
    · rw [if_neg h1] at h
      rw [h]
      exact ⟨rfl, if_neg h1, if_neg h1⟩
    · rw [if_pos h1] at h
      rw [h]
      exact ⟨rfl, if_neg h2, if_neg h2⟩
    · rw [if_pos h1] at h
      rw [h, if_pos h1, if_pos h2, if_pos h2]
      exact ⟨h2, rd_add ps B x y a, rd_len _ _ _ _, rd_len _ _ _ _⟩
  · rw [if_neg c, if_neg c, if_neg c, if_neg c]
    exact ⟨fun _ => ⟨rfl, rfl, rfl⟩, fun h1 => absurd h1 c, fun h1 => absurd h1 c⟩
theorem ofL_append (a b : Bts) : ofL a ++ ofL b = ofL (a ++ b) := by
  apply ByteArray.ext
  apply Array.toList_inj.1
  simp [ofL]
theorem ofL_nil : ofL [] = ⟨#[]⟩ := rfl
/-- 'string([]byte{b})' -/
theorem one_string (W : World) (b : Int) (h : 0 ≤ b ∧ b < 256) : (convert 65 9 (.slice (some ⟨W.heap.size, 0, none⟩) 1 1)).run Try.prog (W.alloc (.cells #[.int .u8 b] 5)) = .ok (.string (ofL [UInt8.ofNat b.toNat])) (W.alloc (.cells #[.int .u8 b] 5)) := by
  have hr : RowB 5 (W.alloc (.cells #[.int .u8 b] 5)) W.heap.size 1 [UInt8.ofNat b.toNat] := by
    refine ⟨_, _, block_new W _, .inl rfl, Nat.le_refl _, rfl, ?_⟩
    have e : ((UInt8.ofNat b.toNat).toNat : Int) = b := by rw [UInt8.toNat_ofNat']; omega
    simp only [List.map_cons, List.map_nil, cellB, e]
    rfl
  exact hr.string (w' := W) 0 1 1 (by simp)
set_option maxRecDepth 20000 in
set_option maxHeartbeats 4000000 in
theorem splits_any (many : Int) (v : Value) (ps : List Pg) (a x y z : Int) (w : World) (hm : In64 many) (hps : PgOk w v ps) (ha : In64 a) (hx : In64 x) (hy : In64 y) (hz : In64 z) :
    Calls Try.prog 7 #[.int .i64 many, v, .agg #[.int .i64 a, .int .i64 x, .int .i64 y, .int .i64 z]] w fun e w' => e = .returned (.bool true) ∧ Below w.heap.size w w' := by
  obtain ⟨q, np, cap0, rfl⟩ : ∃ q n cap, v = .slice q n cap := by obtain ⟨q, cap, e, _⟩ := hps.1; exact ⟨_, _, _, e⟩
  obtain ⟨B0, hB0⟩ : ∃ B0, B0 = w.heap.size := ⟨_, rfl⟩
  obtain ⟨wa, hwa⟩ : ∃ wa, wa = w.alloc (.cells #[.int .i64 a, .int .i64 x, .int .i64 y, .int .i64 z] 67) := ⟨_, rfl⟩
  have ba : Below w.heap.size w wa := by rw [hwa]; exact (Below.refl _ w).alloc (Nat.le_refl _) _
  have cb : wa.heap[B0]? = some (.cells #[.int .i64 a, .int .i64 x, .int .i64 y, .int .i64 z] 67 (0, 0)) := by rw [hwa, hB0]; exact block_new _ _
  have kf := fixed_any
  by_cases h1 : 1 ≤ many ∧ many ≤ 160
  · obtain ⟨F, rfl⟩ : ∃ F : Nat, many = (F : Int) := ⟨many.toNat, by omega⟩
    have kn := new_any F wa (by omega)
    have HA := Lib.hid (And.intro hps (And.intro hwa (And.intro ba (And.intro cb (And.intro hB0 h1)))))
    clear hps ba cb hwa h1
    go_enter Try.func7, Try.ntmps7
    go_wp2_with (fail)
    rw [← HA.out.2.1]
    refine kn.mono ?_
    rintro e v1 ⟨p, rfl, g, cap, a1, b1, hp, hg⟩
    have HN := Lib.hid (And.intro a1 (And.intro b1 (And.intro hp hg)))
    clear a1 b1 hp hg kn
    go_wp2_with (fail)
    refine (kf v1).mono ?_
    rintro e v2 ⟨rfl, b2⟩
    obtain ⟨hps, hwa, ba, cb, hB0, h1⟩ := HA.out
    obtain ⟨a1, b1, hp, hg⟩ := HN.out
    have a2 := a1.below b2
    have g1 : Below wa.heap.size wa v2 := b1.trans (b2.mono b1.size)
    have g2 : Below w.heap.size w v2 := ba.trans (g1.mono ba.size)
    have HS := Lib.hid (And.intro a2 (And.intro g1 (And.intro g2 (And.intro hp hg))))
    clear hps hwa ba cb hB0 h1 a1 b1 hp hg a2 g1 g2 b2 kf
    go_wp2
    go_loopw [9] (fun i wr => ∃ k : Nat, k ≤ F ∧ i = .int .i64 (k : Int) ∧ ∃ B, IsM wr p g cap F B ∧ Below wa.heap.size wa wr ∧ Below w.heap.size w wr) (fun i _ => F - (intOf i).toNat)
    case atStart => exact ⟨0, Nat.zero_le _, rfl, _, HS.out.1, HS.out.2.1, HS.out.2.2.1⟩
    case round =>
      obtain ⟨k, hk, rfl, B, i1, i2, i3⟩ := hrel
      by_cases a0 : k < F
      · have kf := frames_any p g cap F B wr i1
        have hF := i1.hi
        have emod : ((k : Int)).tmod 256 = (k : Int) := by rw [Int.tmod_eq_emod_of_nonneg (by omega)]; omega
        have hos := one_string wr ((k : Int) + 1) (by omega)
        have i1' := i1.below ((Below.refl _ wr).alloc (Nat.le_refl _) (.cells #[.int .u8 ((k : Int) + 1)] 5))
        have kl := lay_any p g cap F B _ i1' (k : Int) (k : Int) (ofL [UInt8.ofNat ((k : Int) + 1).toNat]) (by rw [ofL_size]; exact (by decide : (1 : Nat) < 140737488355328))
        have e0 : layE F k k (ofL [UInt8.ofNat ((k : Int) + 1).toNat]).size = 0 := by
          have hi : isF F (k : Int) := by unfold isF; omega
          have hn : ¬ ((k : Int) < 0 ∨ 256 < (k : Int) + (((ofL [UInt8.ofNat ((k : Int) + 1).toNat]).size : Nat) : Int)) := by
            rw [ofL_size]
            show ¬ ((k : Int) < 0 ∨ 256 < (k : Int) + ((1 : Nat) : Int))
            omega
          unfold layE
          rw [if_pos hi, if_neg hn]
        rw [e0] at kl
        have HK := Lib.hid (And.intro i1 (And.intro i2 i3))
        obtain ⟨B', hB'⟩ : ∃ B', B' = layB F B k k (ofL [UInt8.ofNat ((k : Int) + 1).toNat]).data.toList := ⟨_, rfl⟩
        rw [← hB'] at kl
        obtain ⟨S, hS⟩ : ∃ S, S = ofL [UInt8.ofNat ((k : Int) + 1).toNat] := ⟨_, rfl⟩
        rw [← hS] at kl hos
        clear i1 i2 i3 i1' e0 hB' hS
        go_wp2_with (first
          | (go_at_call 19; refine kf.mono ?_; rintro e _ ⟨rfl, rfl⟩)
          | (go_at_call 25; refine kl.mono ?_; rintro e w4 ⟨rfl, j1, j2⟩))
        have hw : Below wr.heap.size wr (wr.alloc (.cells #[.int .u8 ((k : Int) + 1)] 5)) := (Below.refl _ wr).alloc (Nat.le_refl _) _
        have hB0w : w.heap.size ≤ wa.heap.size := HA.out.2.2.1.size
        refine ⟨⟨k + 1, a0, rfl, B', j1, ?_, ?_⟩, ?_⟩
        · exact below_ch (HK.out.2.1.trans (hw.mono HK.out.2.1.size)) j2 (Nat.le_trans HK.out.2.1.size hw.size) HS.out.2.2.2.2
        · exact below_ch (HK.out.2.2.trans (hw.mono HK.out.2.2.size)) j2 (Nat.le_trans HK.out.2.2.size hw.size) (Nat.le_trans hB0w HS.out.2.2.2.2)
        · have z := a0
          simp [intOf]; omega
      · obtain rfl : k = F := by omega
        have kf := frames_any p g cap k B wr i1
        have HK := Lib.hid (And.intro i1 (And.intro i2 i3))
        clear i1 i2 i3
        have cc : ∀ o u, (#[.int .i64 a, .int .i64 x, .int .i64 y, .int .i64 z] : Array Value)[o]? = some u → wr.cell? ⟨w.heap.size, o, none⟩ = some u := fun o u hu => by
          have hb := HA.out.2.2.2.1
          rw [hB0] at hb
          have : wa.cell? ⟨w.heap.size, o, none⟩ = some u := by rw [cell_of_row _ _ _ _ _ _ hb]; exact hu
          exact cell_below this HK.out.2.1
        have c0 := cc 0 _ rfl
        have c1 := cc 1 _ rfl
        have c2 := cc 2 _ rfl
        have c3 := cc 3 _ rfl
        have HB := Lib.hid hB0
        clear cc hB0
        go_wp2_with (go_at_call 19; refine kf.mono ?_; rintro e _ ⟨rfl, rfl⟩)
        go_quiet (fail)
        obtain ⟨wd, hwd⟩ : ∃ wd, wd = wr.drewN nq := ⟨_, rfl⟩
        have c3' : wd.cell? ⟨w.heap.size, 3, none⟩ = some (.int .i64 z) := by rw [hwd]; exact c3
        have HD : Hid (IsM wd p g cap k B ∧ Below wa.heap.size wa wd ∧ Below w.heap.size w wd ∧ TabV (fun b => b < w.heap.size) wd (.slice q np cap0) ps) := by
          have h1 : Below w.heap.size w wd := by rw [hwd]; exact below_drewN HK.out.2.2 nq
          refine ⟨by rw [hwd]; exact HK.out.1.of_heap rfl rfl, by rw [hwd]; exact below_drewN HK.out.2.1 nq, h1, HA.out.1.1.below h1⟩
        rw [← hwd]
        clear hwd c0 c1 c2 c3 kf
        have zz0 : (z.tmod 2 == 0) = true ∨ (z.tmod 2 == 0) = false := by cases (z.tmod 2 == 0) <;> simp
        by_cases x0 : x < 0
        · rcases zz0 with zz0 | zz0
          · go_wp2
            go_ret
            exact ⟨rfl, HD.out.2.2.1⟩
          · go_wp2
            go_ret
            exact ⟨rfl, HD.out.2.2.1⟩
        by_cases y0 : y < 0
        · rcases zz0 with zz0 | zz0
          · go_wp2
            go_ret
            exact ⟨rfl, HD.out.2.2.1⟩
          · go_wp2
            go_ret
            exact ⟨rfl, HD.out.2.2.1⟩
        by_cases x1 : 2000 < x
        · rcases zz0 with zz0 | zz0
          · go_wp2
            go_ret
            exact ⟨rfl, HD.out.2.2.1⟩
          · go_wp2
            go_ret
            exact ⟨rfl, HD.out.2.2.1⟩
        by_cases y1 : 2000 < y
        · rcases zz0 with zz0 | zz0
          · go_wp2
            go_ret
            exact ⟨rfl, HD.out.2.2.1⟩
          · go_wp2
            go_ret
            exact ⟨rfl, HD.out.2.2.1⟩
        by_cases a1 : 1000000 < a
        · rcases zz0 with zz0 | zz0
          · go_wp2
            go_ret
            exact ⟨rfl, HD.out.2.2.1⟩
          · go_wp2
            go_ret
            exact ⟨rfl, HD.out.2.2.1⟩
        clear zz0
        obtain ⟨X, rfl⟩ : ∃ X : Nat, x = (X : Int) := ⟨x.toNat, by omega⟩
        obtain ⟨Y, rfl⟩ : ∃ Y : Nat, y = (Y : Int) := ⟨y.toNat, by omega⟩
        by_cases zz : z.tmod 2 = 0
        · skip
          have HR : Hid (∀ W u n, Below wd.heap.size wd W → In64 u → Calls Try.prog 26 #[.pointer (some ⟨p, 0, none⟩), .slice q np cap0, .int .i64 u, .int .i64 n, .int .i64 4] W fun e w' => e = .returned (.tuple #[.string (ofL (readS k ps B u n 4)), .int .i64 (readE k ps u n 4)]) ∧ Below W.heap.size W w') :=
            fun W u n hW hu => read_any p g cap k B W (HD.out.1.below hW) (fun b => b < w.heap.size) (.slice q np cap0) ps (HD.out.2.2.2.below hW) u n 4 hu
          obtain ⟨s1, s2, s3⟩ := splits_pure k ps B a X Y 4 (by omega) (by omega) (by omega)
          have hin : In64 (a + (X : Int)) := by unfold In64 at *; omega
          have r0 := HR.out wd a ((X : Int) + Y) (Below.refl _ _) ha
          obtain ⟨E0, hE0⟩ : ∃ E, E = readE k ps a ((X : Int) + Y) 4 := ⟨_, rfl⟩
          obtain ⟨E1, hE1⟩ : ∃ E, E = readE k ps a X 4 := ⟨_, rfl⟩
          obtain ⟨E2, hE2⟩ : ∃ E, E = readE k ps (a + X) Y 4 := ⟨_, rfl⟩
          obtain ⟨S0, hS0⟩ : ∃ S, S = readS k ps B a ((X : Int) + Y) 4 := ⟨_, rfl⟩
          obtain ⟨S1, hS1⟩ : ∃ S, S = readS k ps B a X 4 := ⟨_, rfl⟩
          obtain ⟨S2, hS2⟩ : ∃ S, S = readS k ps B (a + X) Y 4 := ⟨_, rfl⟩
          have HR1 : Hid (∀ W, Below wd.heap.size wd W → Calls Try.prog 26 #[.pointer (some ⟨p, 0, none⟩), .slice q np cap0, .int .i64 a, .int .i64 (X : Int), .int .i64 4] W fun e w' => e = .returned (.tuple #[.string (ofL S1), .int .i64 E1]) ∧ Below W.heap.size W w') := fun W hW => by rw [hS1, hE1]; exact HR.out W a X hW ha
          have HR2 : Hid (∀ W, Below wd.heap.size wd W → Calls Try.prog 26 #[.pointer (some ⟨p, 0, none⟩), .slice q np cap0, .int .i64 (a + X), .int .i64 (Y : Int), .int .i64 4] W fun e w' => e = .returned (.tuple #[.string (ofL S2), .int .i64 E2]) ∧ Below W.heap.size W w') := fun W hW => by rw [hS2, hE2]; exact HR.out W (a + X) Y hW hin
          rw [← hS0, ← hE0] at r0 s3
          rw [← hE0, ← hE1, ← hS0, ← hS1] at s1
          rw [← hE0, ← hE1, ← hE2, ← hS0, ← hS2] at s2
          rw [← hE1, ← hE2, ← hS1, ← hS2] at s3
          have ha1 : -9223372036854775808 ≤ a := ha.1
          have HS2 := Lib.hid (And.intro s1 (And.intro s2 s3))
          clear s1 s2 s3 hE0 hE1 hE2 hS0 hS1 hS2 HR hin
          go_wp2_with (fail)
          refine r0.mono ?_
          rintro e u1 ⟨rfl, d1⟩
          have q1 := HR1.out u1 d1
          have HU1 := Lib.hid d1
          clear d1
          go_wp2_with (fail)
          refine q1.mono ?_
          rintro e u2 ⟨rfl, d2⟩
          have d12 : Below wd.heap.size wd u2 := HU1.out.trans (d2.mono HU1.out.size)
          have q2 := HR2.out u2 d12
          have HU2 := Lib.hid d12
          clear d2 d12
          go_wp2_with (fail)
          refine q2.mono ?_
          rintro e u3 ⟨rfl, d3⟩
          have HU3 := Lib.hid (HU2.out.trans (d3.mono HU2.out.size))
          have hfin : Below w.heap.size w u3 := HD.out.2.2.1.trans (HU3.out.mono HD.out.2.2.1.size)
          have HF := Lib.hid hfin
          clear d3 hfin q1 q2 r0
          obtain ⟨s1, s2, s3⟩ := HS2.out
          by_cases e1 : E1 = 0
          · by_cases e2 : E2 = 0
            · obtain ⟨t1, t2, t3, t4⟩ := s3 e1 e2
              have z1 : ofL S1 ++ ofL S2 = ofL S0 := by rw [ofL_append, t2]
              have z2 : (ofL S1).size = X := by rw [ofL_size]; exact t3
              have z3 : (ofL S2).size = Y := by rw [ofL_size]; exact t4
              clear s1 s2 s3 t2 t3 t4
              subst t1 e1 e2
              go_wp2
              go_ret
              exact ⟨rfl, HF.out⟩
            · obtain ⟨t1, t2, t3⟩ := s2 e1 e2
              have z1 : ofL S0 = ByteArray.empty := by rw [t2]; rfl
              have z2 : ofL S2 = ByteArray.empty := by rw [t3]; rfl
              clear s1 s2 s3 t2 t3
              subst t1 e1
              go_wp2
              go_ret
              exact ⟨rfl, HF.out⟩
          · obtain ⟨t1, t2, t3⟩ := s1 e1
            have z1 : ofL S0 = ByteArray.empty := by rw [t2]; rfl
            have z2 : ofL S1 = ByteArray.empty := by rw [t3]; rfl
            clear s1 s2 s3 t2 t3
            subst t1
            go_wp2
            go_ret
            exact ⟨rfl, HF.out⟩
        · have zz' : (z.tmod 2 == 0) = false := by simpa using zz
          clear zz
          have HR : Hid (∀ W u n, Below wd.heap.size wd W → In64 u → Calls Try.prog 26 #[.pointer (some ⟨p, 0, none⟩), .slice q np cap0, .int .i64 u, .int .i64 n, .int .i64 1] W fun e w' => e = .returned (.tuple #[.string (ofL (readS k ps B u n 1)), .int .i64 (readE k ps u n 1)]) ∧ Below W.heap.size W w') :=
            fun W u n hW hu => read_any p g cap k B W (HD.out.1.below hW) (fun b => b < w.heap.size) (.slice q np cap0) ps (HD.out.2.2.2.below hW) u n 1 hu
          obtain ⟨s1, s2, s3⟩ := splits_pure k ps B a X Y 1 (by omega) (by omega) (by omega)
          have hin : In64 (a + (X : Int)) := by unfold In64 at *; omega
          have r0 := HR.out wd a ((X : Int) + Y) (Below.refl _ _) ha
          obtain ⟨E0, hE0⟩ : ∃ E, E = readE k ps a ((X : Int) + Y) 1 := ⟨_, rfl⟩
          obtain ⟨E1, hE1⟩ : ∃ E, E = readE k ps a X 1 := ⟨_, rfl⟩
          obtain ⟨E2, hE2⟩ : ∃ E, E = readE k ps (a + X) Y 1 := ⟨_, rfl⟩
          obtain ⟨S0, hS0⟩ : ∃ S, S = readS k ps B a ((X : Int) + Y) 1 := ⟨_, rfl⟩
          obtain ⟨S1, hS1⟩ : ∃ S, S = readS k ps B a X 1 := ⟨_, rfl⟩
          obtain ⟨S2, hS2⟩ : ∃ S, S = readS k ps B (a + X) Y 1 := ⟨_, rfl⟩
          have HR1 : Hid (∀ W, Below wd.heap.size wd W → Calls Try.prog 26 #[.pointer (some ⟨p, 0, none⟩), .slice q np cap0, .int .i64 a, .int .i64 (X : Int), .int .i64 1] W fun e w' => e = .returned (.tuple #[.string (ofL S1), .int .i64 E1]) ∧ Below W.heap.size W w') := fun W hW => by rw [hS1, hE1]; exact HR.out W a X hW ha
          have HR2 : Hid (∀ W, Below wd.heap.size wd W → Calls Try.prog 26 #[.pointer (some ⟨p, 0, none⟩), .slice q np cap0, .int .i64 (a + X), .int .i64 (Y : Int), .int .i64 1] W fun e w' => e = .returned (.tuple #[.string (ofL S2), .int .i64 E2]) ∧ Below W.heap.size W w') := fun W hW => by rw [hS2, hE2]; exact HR.out W (a + X) Y hW hin
          rw [← hS0, ← hE0] at r0 s3
          rw [← hE0, ← hE1, ← hS0, ← hS1] at s1
          rw [← hE0, ← hE1, ← hE2, ← hS0, ← hS2] at s2
          rw [← hE1, ← hE2, ← hS1, ← hS2] at s3
          have ha1 : -9223372036854775808 ≤ a := ha.1
          have HS2 := Lib.hid (And.intro s1 (And.intro s2 s3))
          clear s1 s2 s3 hE0 hE1 hE2 hS0 hS1 hS2 HR hin
          go_wp2_with (fail)
          refine r0.mono ?_
          rintro e u1 ⟨rfl, d1⟩
          have q1 := HR1.out u1 d1
          have HU1 := Lib.hid d1
          clear d1
          go_wp2_with (fail)
          refine q1.mono ?_
          rintro e u2 ⟨rfl, d2⟩
          have d12 : Below wd.heap.size wd u2 := HU1.out.trans (d2.mono HU1.out.size)
          have q2 := HR2.out u2 d12
          have HU2 := Lib.hid d12
          clear d2 d12
          go_wp2_with (fail)
          refine q2.mono ?_
          rintro e u3 ⟨rfl, d3⟩
          have HU3 := Lib.hid (HU2.out.trans (d3.mono HU2.out.size))
          have hfin : Below w.heap.size w u3 := HD.out.2.2.1.trans (HU3.out.mono HD.out.2.2.1.size)
          have HF := Lib.hid hfin
          clear d3 hfin q1 q2 r0
          obtain ⟨s1, s2, s3⟩ := HS2.out
          by_cases e1 : E1 = 0
          · by_cases e2 : E2 = 0
            · obtain ⟨t1, t2, t3, t4⟩ := s3 e1 e2
              have z1 : ofL S1 ++ ofL S2 = ofL S0 := by rw [ofL_append, t2]
              have z2 : (ofL S1).size = X := by rw [ofL_size]; exact t3
              have z3 : (ofL S2).size = Y := by rw [ofL_size]; exact t4
              clear s1 s2 s3 t2 t3 t4
              subst t1 e1 e2
              go_wp2
              go_ret
              exact ⟨rfl, HF.out⟩
            · obtain ⟨t1, t2, t3⟩ := s2 e1 e2
              have z1 : ofL S0 = ByteArray.empty := by rw [t2]; rfl
              have z2 : ofL S2 = ByteArray.empty := by rw [t3]; rfl
              clear s1 s2 s3 t2 t3
              subst t1 e1
              go_wp2
              go_ret
              exact ⟨rfl, HF.out⟩
          · obtain ⟨t1, t2, t3⟩ := s1 e1
            have z1 : ofL S0 = ByteArray.empty := by rw [t2]; rfl
            have z2 : ofL S1 = ByteArray.empty := by rw [t3]; rfl
            clear s1 s2 s3 t2 t3
            subst t1
            go_wp2
            go_ret
            exact ⟨rfl, HF.out⟩
  · have kn := new_no many wa h1
    have HA := Lib.hid (And.intro hwa (And.intro ba hB0))
    clear hps ba cb hwa h1
    go_enter Try.func7, Try.ntmps7
    go_wp2_with (fail)
    rw [← HA.out.1]
    refine kn.mono ?_
    rintro e _ ⟨rfl, rfl⟩
    go_wp2_with (fail)
    refine (kf wa).mono ?_
    rintro e v2 ⟨rfl, b2⟩
    go_wp2
    go_ret
    exact ⟨rfl, HA.out.2.1.trans (b2.mono HA.out.2.1.size)⟩
end Go.Proofs.Ytnhfbeehoifddaa
