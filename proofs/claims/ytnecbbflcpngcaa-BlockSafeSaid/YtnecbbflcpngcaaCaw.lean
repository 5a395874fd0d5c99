/- BlockCaches' walk: a cache changes nothing that is read or written, and never makes more misses. Conditions: ints are within 64 bits, strings and lists are no longer than a machine holds. -/
import Derived.Test.YtnecbbflcpngcaaCab
import Derived.Test.YtnecbbflcpngcaaApw
namespace Go.Proofs.Ytnecbbflcpngcaa
open Go.RowKit Go.Maps
set_option maxRecDepth 20000
set_option linter.unusedVariables false

theorem Dk2.below {w w' : World} {E : Nat → Prop} {p : Nat} {S : St} {q : Nat} {T : St} (h : Dk2 w E p S q T) (hb : Below w.heap.size w w') : Dk2 w' E p S q T := by
  obtain ⟨lt, F, G, hd, hg, d1, d2⟩ := h
  exact ⟨fun k hk => Nat.lt_of_lt_of_le (lt k hk) hb.size, F, G, hd.below hb, hg.below hb, fun k hk => ⟨(d1 k hk).1, (d1 k hk).2.1, Nat.lt_of_lt_of_le (d1 k hk).2.2 hb.size⟩, fun k hk => ⟨(d2 k hk).1, Nat.lt_of_lt_of_le (d2 k hk).2 hb.size⟩⟩
theorem Half.below {w w' : World} {E : Nat → Prop} {x p : Nat} {S : St} {V : Dv} {q : Nat} {T : St} (h : Half w E x p S V q T) (hb : Below w.heap.size w w') : Half w' E x p S V q T := by
  obtain ⟨lt, F, G, hd, hg, d1, d2⟩ := h
  exact ⟨fun k hk => Nat.lt_of_lt_of_le (lt k hk) hb.size, F, G, hd.below hb, hg.below hb, fun k hk => ⟨(d1 k hk).1, (d1 k hk).2.1, Nat.lt_of_lt_of_le (d1 k hk).2.2 hb.size⟩, fun k hk => ⟨(d2 k hk).1, Nat.lt_of_lt_of_le (d2 k hk).2 hb.size⟩⟩
theorem Two.size {w : World} {B : Nat} {x p : Nat} {S : St} {V : Dv} {y q : Nat} {T : St} {U : Dv} (h : Two w (fun k => k < B) x p S V y q T U) : B ≤ w.heap.size := by
  rcases Nat.eq_zero_or_pos B with h0 | h0
  · omega
  · have := h.lt (B - 1) (by show B - 1 < B; omega); omega
theorem ch_below {w w' : World} {B : Nat} (h : Ch (fun k => ¬ k < B) w w') (hB : B ≤ w.heap.size) : Below B w w' := ⟨h.os, h.tape, h.output, h.size, fun k hk => h.block k (by omega) (fun z => z hk)⟩
/-- a round's box stands beside the two extents -/
structure Bx (B : Nat) (W1 w : World) (g : Nat) (O : Obj) (x p : Nat) (S : St) (V : Dv) (y q : Nat) (T : St) (U : Dv) : Prop where
  two : Two w (fun k => k < B ∨ k = g) x p S V y q T U
  at' : w.heap[g]? = some O
  bel : Below B W1 w
theorem Bx.made {B : Nat} {W1 w : World} (O : Obj) {x p : Nat} {S : St} {V : Dv} {y q : Nat} {T : St} {U : Dv} (h : Two w (fun k => k < B) x p S V y q T U) (hb : Below B W1 w) {cs : Array Value} {t : TypeId} (hO : O = .cells cs t) : Bx B W1 (w.alloc O) w.heap.size O x p S V y q T U :=
  ⟨h.box O, by subst hO; exact block_new w _, hb.trans ((Below.refl _ w).alloc (Nat.le_refl _) _ |>.mono h.size)⟩
theorem Bx.step {B : Nat} {W1 w w' : World} {g : Nat} {O : Obj} {x p : Nat} {S : St} {V : Dv} {y q : Nat} {T : St} {U : Dv} {S' : St} {V' : Dv} {T' : St} {U' : Dv} (h : Bx B W1 w g O x p S V y q T U)
    (k : Two w' (fun k => k < B ∨ k = g) x p S' V' y q T' U') (c : Ch (fun k => ¬ (k < B ∨ k = g)) w w') : Bx B W1 w' g O x p S' V' y q T' U' :=
  ⟨k, (c.block g (h.two.lt g (.inr rfl)) (fun z => z (.inr rfl))).trans h.at', h.bel.trans (ch_below ⟨c.os, c.tape, c.output, c.size, fun k hk hn => c.block k hk (fun z => z (.inl (Classical.not_not.1 hn)))⟩ (Two.size (h.two.less fun k hk => .inl hk)))⟩
theorem Bx.drew {B : Nat} {W1 w : World} {g : Nat} {O : Obj} {x p : Nat} {S : St} {V : Dv} {y q : Nat} {T : St} {U : Dv} (h : Bx B W1 w g O x p S V y q T U) : Bx B W1 w.drew g O x p S V y q T U :=
  ⟨h.two.below (below_drew (Below.refl _ w)), h.at', below_drew h.bel⟩
def opC (o : Opr) : Obj := .cells #[.int .i64 o.on, .int .i64 o.kind, .int .i64 o.a, .int .i64 o.b, .string o.s, o.cv] 54
theorem Bx.cells {B : Nat} {W1 w : World} {g : Nat} {o : Opr} {x p : Nat} {S : St} {V : Dv} {y q : Nat} {T : St} {U : Dv} (h : Bx B W1 w g (opC o) x p S V y q T U) :
    w.cell? ⟨g, 2, none⟩ = some (.int .i64 o.a) ∧ w.cell? ⟨g, 3, none⟩ = some (.int .i64 o.b) ∧ w.cell? ⟨g, 4, none⟩ = some (.string o.s) := by
  have := h.at'
  unfold opC at this
  refine ⟨?_, ?_, ?_⟩ <;> (rw [cell_of_row _ _ _ _ _ _ this]; rfl)
/-- what is known of the two between the rounds -/
structure Cq (n : Nat) (r : Nat) (S : St) (V U : Dv) : Prop where
  calm : Calm n S
  twin : Twin V U
  none : U.most = 0
  uok : U.ok
  vok : V.ok
  fit : Fit S V
  mis : U.mis = r
  few : V.mis ≤ r
theorem Cq.read {n r : Nat} {S : St} {V U : Dv} (h : Cq n r S V U) (gu : Good S U) (gv : Good S V) (i : Int) : Cq n (if refE S V i = 151 then r else r + 1) S (rdV S V i) (rdV S U i) := by
  obtain ⟨a1, a2, a3⟩ := rdV_cnt S V i
  obtain ⟨b1, b2, b3⟩ := rdV_cnt S U i
  have g1 := gv.read i
  have g2 := gu.read i
  have hr := h.twin.refE S i
  rcases (rdE_at (V := V) h.calm.dead i).2 with z | z
  · rw [if_pos z]
    rw [rdV_mis0 z, rdV_mis0 (hr.trans z)]; exact h
  · rw [if_neg (by rw [z]; decide)]
    refine ⟨h.calm, ⟨by rw [b1, a1, h.twin.first], by rw [b2, a2, h.twin.cnt]⟩, by rw [b3, h.none], g2.ok, g1.ok, g1.fit, ?_, ?_⟩
    · rw [rdV_mis1 (hr.trans z), misOf_none h.uok h.none, h.mis]
    · rw [rdV_mis1 z]; have := misOf_le V i; have := h.few; omega
theorem Cq.write {n r : Nat} {S : St} {V U : Dv} (h : Cq n r S V U) (gu : Good S U) (gv : Good S V) (i : Int) (d : Bts) (m : Int) : Cq n r (wrS S V i d m) (wrV S V i d m) (wrV S U i d m) := by
  obtain ⟨a1, a2, a3, a4⟩ := wrV_cnt S V i d m
  obtain ⟨b1, b2, b3, b4⟩ := wrV_cnt S U i d m
  have g1 := (gv.write h.calm.ok i d m).1
  have g2 := (gu.write h.calm.ok i d m).1
  exact ⟨calmWr h.calm h.fit i d m, ⟨by rw [b1, a1, h.twin.first], by rw [b2, a2, h.twin.cnt]⟩, by rw [b3, h.none], g2.ok, g1.ok, g1.fit, by rw [b4]; exact h.mis, by rw [a4]; exact h.few⟩
theorem Cq.barrier {n r : Nat} {S : St} {V U : Dv} (h : Cq n r S V U) (gv : Good S V) : Cq n r (S.flush (V.first : Int) (V.cnt : Int)).1 V U := by
  have hc := h.calm.flush (V.first : Int) (V.cnt : Int)
  exact ⟨hc, h.twin, h.none, h.uok, h.vok, (gv.flush h.calm.ok).fit, h.mis, h.few⟩
set_option maxHeartbeats 16000000 in
theorem caches_any (s : ByteArray) (f c m : Int) (v : Value) (l : List Opr) (w : World) (hs : s.size ≤ 140737488355328) (hf : In64 f) (hc : In64 c) (hm : In64 m) (hsc : Script w v l) :
    Calls Try.prog 9 #[.string s, .agg #[.int .i64 f, .int .i64 c, .int .i64 m], v] w fun e w' => e = .returned (.bool true) ∧ Below w.heap.size w w' := by
  obtain ⟨W1, hW1⟩ : ∃ W1, W1 = w.alloc (extC f c m) := ⟨_, rfl⟩
  obtain ⟨B, hB⟩ : ∃ B, B = W1.heap.size := ⟨_, rfl⟩
  obtain ⟨X, hX⟩ : ∃ X, X = w.heap.size := ⟨_, rfl⟩
  have hBx : X < B := by rw [hB, hX, hW1]; simp
  have hb1 : Below w.heap.size w W1 := by rw [hW1]; exact (Below.refl _ w).alloc (Nat.le_refl _) _
  have hbx : W1.heap[X]? = some (extC f c m) := by rw [hW1, hX]; exact block_new w _
  have HX : Hid (∀ W, Below B W1 W → W.cell? ⟨X, 0, none⟩ = some (.int .i64 f) ∧ W.cell? ⟨X, 1, none⟩ = some (.int .i64 c) ∧ W.cell? ⟨X, 2, none⟩ = some (.int .i64 m)) := fun W h => ext_cells ((h.block X hBx).trans hbx)
  have HEND : Hid (∀ W, Below B W1 W → Below w.heap.size w W) := fun W h => hb1.trans (h.mono (by rw [hB]; exact hb1.size))
  have kf : Hid (∀ W, Calls Try.prog 14 #[] W fun e w' => e = .returned (.bool true) ∧ Below W.heap.size W w') := fun W => fixed_any W
  have HBB : Hid (B ≤ W1.heap.size) := by unfold Hid; omega
  have hW1' : w.alloc (.cells #[.int .i64 f, .int .i64 c, .int .i64 m] 34) = W1 := hW1.symm
  have HW1 := Lib.hid hW1'
  have HXE := Lib.hid hX
  obtain ⟨q0, cap, hv, hlc, hll, hops⟩ := op_at (hsc.below hb1)
  rw [← hB] at hops
  have HOP := Lib.hid hops
  obtain ⟨L, hL⟩ : ∃ L, L = l.length := ⟨_, rfl⟩
  rw [← hL] at hv hlc hll HOP
  subst hv
  by_cases hbad : Bad s
  · have kd : Hid (∀ W, Calls Try.prog 17 #[.string s] W fun e w' => e = .returned (.tuple #[.pointer none, .int .i64 70]) ∧ Below W.heap.size W w') := fun W => new_bad s W hs hbad
    clear hW1 hb1 hbx hW1' hB hBx hs hf hc hm hsc hlc hll hops hbad hL
    go_enter Try.func9, Try.ntmps9
    go_wp2_with fail
    rw [HW1.out]
    clear hX
    go_wp2_with (first
      | (go_at_call 17; (with_reducible refine (kd.out W1).mono ?_); rintro e w2 ⟨rfl, hb2⟩; have HB2 : Hid (Below B W1 w2) := hb2.mono HBB.out; clear hb2)
      | (go_at_call 17; (with_reducible refine (kd.out _).mono ?_); rintro e w3 ⟨rfl, hb3⟩; have HB3 : Hid (Below B W1 w3) := HB2.out.trans (hb3.mono (Nat.le_trans HBB.out HB2.out.size)); clear hb3)
      | (go_at_call 14; refine (kf.out _).mono ?_; rintro e w5 ⟨rfl, hb5⟩))
    go_ret
    exact ⟨rfl, HEND.out _ (HB3.out.trans (hb5.mono (Nat.le_trans HBB.out HB3.out.size)))⟩
  · have kd1 : Hid (Calls Try.prog 17 #[.string s] W1 fun e w' => ∃ p, e = .returned (.tuple #[.pointer (some ⟨p, 0, none⟩), .int .i64 0]) ∧ At w' B p (newS s.data.toList) ∧ Below B W1 w') :=
      (new_at s W1 hs hbad).mono fun e w' ⟨p, q1, q2, q3⟩ => ⟨p, q1, q2.onto HBB.out, q3.mono HBB.out⟩
    have kd2 : Hid (∀ W p, At W B p (newS s.data.toList) → Below B W1 W → Calls Try.prog 17 #[.string s] W fun e w' => ∃ q, e = .returned (.tuple #[.pointer (some ⟨q, 0, none⟩), .int .i64 0]) ∧ Dk2 w' (fun k => k < B) p (newS s.data.toList) q (newS s.data.toList) ∧ Below B W1 w') := fun W p ha hb =>
      (new_at s W hs hbad).mono fun e w' ⟨q, q1, q2, q3⟩ => ⟨q, q1, dk2_of (Nat.le_trans HBB.out hb.size) ha q3 q2, hb.trans (q3.mono (Nat.le_trans HBB.out hb.size))⟩
    have hcalm := Calm.new hbad
    obtain ⟨S0, hS0⟩ : ∃ S, S = newS s.data.toList := ⟨_, rfl⟩
    rw [← hS0] at kd1 kd2 hcalm
    have HC0 := Lib.hid hcalm
    clear hbad hW1 hb1 hbx hW1' hB hBx hS0 hs
    by_cases hnw : nwE S0 f c m = 0
    · have hn0 : nwE S0 f c 0 = 0 := by
        unfold nwE at hnw ⊢
        split at hnw
        · cases hnw
        · rw [if_neg (by omega)]
      obtain ⟨V0, hV0⟩ : ∃ V, V = newV f c m := ⟨_, rfl⟩
      obtain ⟨U0, hU0⟩ : ∃ U, U = newV f c 0 := ⟨_, rfl⟩
      have g0 : Good S0 V0 := by rw [hV0]; exact newV_good hcalm.ok hnw
      have g1 : Good S0 U0 := by rw [hU0]; exact newV_good hcalm.ok hn0
      have kv1 : Hid (∀ W p q, Dk2 W (fun k => k < B) p S0 q S0 → Below B W1 W → Calls Try.prog 19 #[.pointer (some ⟨p, 0, none⟩), .int .i64 f, .int .i64 c, .int .i64 m] W fun e w' => ∃ x, e = .returned (.tuple #[.pointer (some ⟨x, 0, none⟩), .int .i64 0]) ∧ Half w' (fun k => k < B) x p S0 V0 q S0 ∧ Below B W1 w') := fun W p q hD hb =>
        (tnew1 _ p q S0 S0 f c m W hD hf hc hm hnw).mono fun e w' ⟨a1, a2, a3⟩ => ⟨_, a1, by rw [hV0]; exact a2, hb.trans (a3.mono (Nat.le_trans HBB.out hb.size))⟩
      have kv2 : Hid (∀ W x p q, Half W (fun k => k < B) x p S0 V0 q S0 → Below B W1 W → Calls Try.prog 19 #[.pointer (some ⟨q, 0, none⟩), .int .i64 f, .int .i64 c, .int .i64 0] W fun e w' => ∃ y, e = .returned (.tuple #[.pointer (some ⟨y, 0, none⟩), .int .i64 0]) ∧ Two w' (fun k => k < B) x p S0 V0 y q S0 U0 ∧ Below B W1 w') := fun W x p q hH hb =>
        (tnew2 _ x p q S0 S0 V0 f c 0 W hH hcalm.ok g0 hf hc (by unfold In64; omega) hn0).mono fun e w' ⟨y, a1, a2, a3⟩ => ⟨y, a1, by rw [hU0]; exact a2, hb.trans (a3.mono (Nat.le_trans HBB.out hb.size))⟩
      have HQ0 : Hid (Cq s.size 0 S0 V0 U0) := ⟨hcalm, by rw [hV0, hU0]; exact ⟨rfl, rfl⟩, by rw [hU0]; rfl, g1.ok, g0.ok, g0.fit, by rw [hU0]; rfl, by rw [hV0]; exact Nat.le_refl _⟩
      clear hnw hn0 hV0 hU0 g0 g1 hcalm hf hc hm hops hsc
      go_enter Try.func9, Try.ntmps9
      go_wp2_with fail
      rw [HW1.out, ← HXE.out]
      clear hX
      go_wp2_with (first
        | (go_at_call 17; (with_reducible refine kd1.out.mono ?_); rintro e w2 ⟨p, rfl, hat, hb2⟩; have HA2 := Lib.hid hat; have HB2 := Lib.hid hb2; clear hat hb2)
        | (go_at_call 17; (with_reducible refine (kd2.out _ p HA2.out HB2.out).mono ?_); rintro e w3 ⟨q, rfl, hdk, hb3⟩; have HD3 := Lib.hid hdk; have HB3 := Lib.hid hb3; obtain ⟨x0, x1, x2⟩ := HX.out w3 hb3; clear hdk hb3)
        | (go_at_call 19; (with_reducible refine (kv1.out _ p q HD3.out HB3.out).mono ?_); rintro e w4 ⟨x, rfl, hh4, hb4⟩; have HH4 := Lib.hid hh4; have HB4 := Lib.hid hb4; obtain ⟨x0, x1, x2⟩ := HX.out w4 hb4; clear hh4 hb4)
        | (go_at_call 19; (with_reducible refine (kv2.out _ x p q HH4.out HB4.out).mono ?_); rintro e w5 ⟨y, rfl, ht5, hb5⟩; have HT5 := Lib.hid ht5; have HB5 := Lib.hid hb5; clear ht5 hb5))
      clear x0 x1 x2 HX HH4 HD3 HA2 kd1 kd2 kv1 kv2
      clear x0 x1 x2
      go_loopw [15, 16] (fun rd i W => ∃ (j r : Nat) (S : St) (V U : Dv), j ≤ L ∧ r ≤ j ∧ rd = .int .i64 (r : Int) ∧ i = .int .i64 (j : Int) ∧ Two W (fun k => k < B) x p S V y q S U ∧ Cq s.size r S V U ∧ Below B W1 W) (fun _ i _ => L - (intOf i).toNat)
      case atStart => exact ⟨0, 0, S0, V0, U0, Nat.zero_le _, Nat.le_refl _, rfl, rfl, HT5.out, HQ0.out, HB5.out⟩
      case round =>
        obtain ⟨j, r, S, V, U, hj, hr, rfl, rfl, ht, hq, hbel⟩ := hrel
        by_cases hlt2 : j < L
        · have hji : (j : Int) < (L : Int) := by omega
          obtain ⟨o, b, O, _, _, hok, hq0, hO6, _, hcell⟩ := HOP.out j hlt2
          obtain ⟨off, hoff⟩ : ∃ off, off = O - j * 6 := ⟨_, rfl⟩
          rw [← hoff] at hq0
          have hOs : off + j * 6 = O := by omega
          subst hq0
          obtain ⟨nq, nn, nc, hcv⟩ : ∃ q n c, o.cv = .slice q n c := by
            obtain ⟨nq, nc, h1, _⟩ := hok.ch.1; exact ⟨nq, _, nc, h1⟩
          obtain ⟨y0, y1, y2, y3, y4, y5⟩ := hcell wr (hbel.mono (by have := HBB.out; omega))
          have HB0 : Hid (Bx B W1 (wr.alloc (.cells #[.int .i64 o.on, .int .i64 o.kind, .int .i64 o.a, .int .i64 o.b, .string o.s, (.slice nq nn nc)] 54)) wr.heap.size (opC o) x p S V y q S U) := by
            unfold Hid; rw [← hcv]; exact Bx.made (opC o) ht hbel rfl
          rw [hcv] at y5
          have HK := Lib.hid (And.intro ht (And.intro hq hbel))
          have hmv : V.mis < 4611686018427387904 := by have := hq.few; omega
          have hmu : U.mis < 4611686018427387904 := by have := hq.mis; omega
          have hos : o.s.size ≤ 281474976710656 := by have := hok.s; omega
          have hr1 : wrap64 ((r : Int) + 1) = ((r + 1 : Nat) : Int) := by unfold wrap64; omega
          obtain ⟨G, hG⟩ : ∃ G, G = wr.heap.size := ⟨_, rfl⟩
          by_cases z0 : o.kind = 0
          · have gv := ht.gx
            have gu := ht.gy
            obtain ⟨e1, e2, e3⟩ := hq.twin.rd S o.a
            have hrd := rdE_at (V := V) hq.calm.dead o.a
            have hq' := hq.read gu gv o.a
            obtain ⟨D, hD⟩ : ∃ D, D = ofL (rdD S V o.a) := ⟨_, rfl⟩
            obtain ⟨N, hN⟩ : ∃ N, N = rdN S V o.a := ⟨_, rfl⟩
            obtain ⟨R, hR⟩ : ∃ R, R = rdE S V o.a := ⟨_, rfl⟩
            have KR1 : Hid (Calls Try.prog 34 #[.pointer (some ⟨x, 0, none⟩), .int .i64 o.a] (wr.alloc (.cells #[.int .i64 o.on, .int .i64 o.kind, .int .i64 o.a, .int .i64 o.b, .string o.s, (.slice nq nn nc)] 54)) fun e w' => e = .returned (.tuple #[.string D, .int .i64 N, .int .i64 R]) ∧ Bx B W1 w' G (opC o) x p S (rdV S V o.a) y q S U) := by
              rw [hD, hN, hR, hG]
              exact (tread _ x p y q S S V U o.a _ HB0.out.two hmv).mono fun e w' ⟨a1, a2, a3⟩ => ⟨a1, HB0.out.step a2 a3⟩
            have KR2 : Hid (∀ W, Bx B W1 W G (opC o) x p S (rdV S V o.a) y q S U → Calls Try.prog 34 #[.pointer (some ⟨y, 0, none⟩), .int .i64 o.a] W fun e w' => e = .returned (.tuple #[.string D, .int .i64 N, .int .i64 R]) ∧ Bx B W1 w' G (opC o) x p S (rdV S V o.a) y q S (rdV S U o.a)) := fun W hW => by
              rw [hD, hN, hR, ← e1, ← e2, ← e3]
              exact (tread _ y q x p S S U (rdV S V o.a) o.a _ hW.two.swap hmu).mono fun e w' ⟨a1, a2, a3⟩ => ⟨a1, hW.step a2.swap a3⟩
            rw [← hR] at hrd
            have HRD := Lib.hid (And.intro hrd hq')
            rw [z0] at y1 KR1
            clear hcv ht hq hbel hcell hO6 hoff hok hmv hmu gv gu e1 e2 e3 hD hN hR hrd hq' hos
            by_cases hR : R = 151
            · have HR9 := Lib.hid hR
              rw [hR] at KR1 KR2
              clear z0 hR
              go_wp2_with (first
                | (go_at_call 34; (with_reducible refine KR1.out.mono ?_); rintro e w7 ⟨rfl, h7⟩; have H7 := Lib.hid h7; obtain ⟨c2, c3, c4⟩ := h7.cells; rw [hG] at c2; clear h7)
                | (go_at_call 34; (with_reducible refine (KR2.out _ H7.out).mono ?_); rintro e w8 ⟨rfl, h8⟩; have H8 := Lib.hid h8; clear h8))
              have HF : Hid (Cq s.size r S (rdV S V o.a) (rdV S U o.a)) := by
                have := HRD.out.2
                rw [if_pos (HRD.out.1.1.mp HR9.out)] at this
                exact this
              go_roundw
              case rel => exact ⟨j + 1, r, S, _, _, by omega, by omega, rfl, by go_num, H8.out.two.less (fun k hk => .inl hk), HF.out, H8.out.bel⟩
              case measure => simp [intOf]; omega
            · have hRb : (R != 151) = true := bne_iff_ne.mpr hR
              have HF : Hid (Cq s.size (r + 1) S (rdV S V o.a) (rdV S U o.a)) := by
                have := HRD.out.2
                rw [if_neg (fun z => hR (HRD.out.1.1.mpr z))] at this
                exact this
              have hRb2 : (R == 151) = false := by simp [hR]
              clear z0 HRD
              go_wp2_with (first
                | (go_at_call 34; (with_reducible refine KR1.out.mono ?_); rintro e w7 ⟨rfl, h7⟩; have H7 := Lib.hid h7; obtain ⟨c2, c3, c4⟩ := h7.cells; rw [hG] at c2; clear h7)
                | (go_at_call 34; (with_reducible refine (KR2.out _ H7.out).mono ?_); rintro e w8 ⟨rfl, h8⟩; have H8 := Lib.hid h8; clear h8))
              go_roundw
              case rel => exact ⟨j + 1, r + 1, S, _, _, by omega, by omega, by first | go_num | rw [hr1], by go_num, H8.out.two.less (fun k hk => .inl hk), HF.out, H8.out.bel⟩
              case measure => simp [intOf]; omega
          · by_cases z2 : o.kind = 2
            · have gv := ht.gx
              have gu := ht.gy
              obtain ⟨e1, e2⟩ := hq.twin.wr S o.a o.s.data.toList o.b
              have hq' := hq.write gu gv o.a o.s.data.toList o.b
              obtain ⟨R, hR⟩ : ∃ R, R = wrE S V o.a o.s.data.toList o.b := ⟨_, rfl⟩
              have HB1 : Hid (Bx B W1 (wr.alloc (.cells #[.int .i64 o.on, .int .i64 o.kind, .int .i64 o.a, .int .i64 o.b, .string o.s, (.slice nq nn nc)] 54)).drew G (opC o) x p S V y q S U) := by rw [hG]; exact HB0.out.drew
              have KW1 : Hid (Calls Try.prog 32 #[.pointer (some ⟨x, 0, none⟩), .int .i64 o.a, .string o.s, .int .i64 o.b] (wr.alloc (.cells #[.int .i64 o.on, .int .i64 o.kind, .int .i64 o.a, .int .i64 o.b, .string o.s, (.slice nq nn nc)] 54)).drew fun e w' => e = .returned (.int .i64 R) ∧ Bx B W1 w' G (opC o) x p (wrS S V o.a o.s.data.toList o.b) (wrV S V o.a o.s.data.toList o.b) y q S U) := by
                rw [hR]
                exact (twrite _ x p y q S S V U o.a o.s o.b _ HB1.out.two hos).mono fun e w' ⟨a1, a2, a3⟩ => ⟨a1, HB1.out.step a2 a3⟩
              have KW2 : Hid (∀ W, Bx B W1 W G (opC o) x p (wrS S V o.a o.s.data.toList o.b) (wrV S V o.a o.s.data.toList o.b) y q S U → Calls Try.prog 32 #[.pointer (some ⟨y, 0, none⟩), .int .i64 o.a, .string o.s, .int .i64 o.b] W fun e w' => e = .returned (.int .i64 R) ∧ Bx B W1 w' G (opC o) x p (wrS S V o.a o.s.data.toList o.b) (wrV S V o.a o.s.data.toList o.b) y q (wrS S V o.a o.s.data.toList o.b) (wrV S U o.a o.s.data.toList o.b)) := fun W hW => by
                have := twrite _ y q x p S _ U _ o.a o.s o.b _ hW.two.swap hos
                rw [e1, e2] at this
                rw [hR]
                exact this.mono fun e w' ⟨a1, a2, a3⟩ => ⟨a1, hW.step a2.swap a3⟩
              have HQ' := Lib.hid hq'
              have hcc := HB1.out.cells
              have HCC := Lib.hid hcc
              rw [z2] at y1 KW1 HB1 HCC
              have zz0 : ((2 : Int) == 0) = false := by decide
              clear hcv ht hq hbel hcell hO6 hoff hok hmv hmu gv gu e1 e2 hR hq' hos z0 z2 hcc
              generalize wrS S V o.a o.s.data.toList o.b = S' at *
              generalize wrV S V o.a o.s.data.toList o.b = V' at *
              generalize wrV S U o.a o.s.data.toList o.b = U' at *
              go_wp2_with (fail)
              have hc0 := HCC.out
              go_region_held3 (fun W => W.cell? ⟨wr.heap.size, 2, none⟩ = some (.int .i64 o.a) ∧ W.cell? ⟨wr.heap.size, 3, none⟩ = some (.int .i64 o.b) ∧ W.cell? ⟨wr.heap.size, 4, none⟩ = some (.string o.s))
                (first
                  | (rw [← hG]; exact h8.cells)
                  | (rw [← hG]; exact h7.cells)
                  | (rw [← hG]; exact HCC.out))
                (first
                  | (go_at_call 32; (with_reducible refine KW1.out.mono ?_); rintro e w7 ⟨rfl, h7⟩)
                  | (go_at_call 32; (with_reducible refine (KW2.out _ h7).mono ?_); rintro e w8 ⟨rfl, h8⟩))
              have H8 := Lib.hid h8
              clear h7 h8
              go_wp2
              go_roundw
              case rel => exact ⟨j + 1, r, S', V', U', by omega, by omega, rfl, by go_num, H8.out.two.less (fun k hk => .inl hk), HQ'.out, H8.out.bel⟩
              case measure => simp [intOf]; omega
            · by_cases z3 : o.kind = 3
              · have gv := ht.gx
                have hq' := hq.barrier gv
                obtain ⟨R, hR⟩ : ∃ R, R = (S.flush (V.first : Int) (V.cnt : Int)).2 := ⟨_, rfl⟩
                have KB1 : Hid (Calls Try.prog 33 #[.pointer (some ⟨x, 0, none⟩)] (wr.alloc (.cells #[.int .i64 o.on, .int .i64 o.kind, .int .i64 o.a, .int .i64 o.b, .string o.s, (.slice nq nn nc)] 54)) fun e w' => e = .returned (.int .i64 R) ∧ Bx B W1 w' G (opC o) x p (S.flush (V.first : Int) (V.cnt : Int)).1 V y q S U) := by
                  rw [hR, hG]
                  exact (tbarrier _ x p y q S S V U _ HB0.out.two).mono fun e w' ⟨a1, a2, a3⟩ => ⟨a1, HB0.out.step a2 a3⟩
                have KB2 : Hid (∀ W, Bx B W1 W G (opC o) x p (S.flush (V.first : Int) (V.cnt : Int)).1 V y q S U → Calls Try.prog 33 #[.pointer (some ⟨y, 0, none⟩)] W fun e w' => e = .returned (.int .i64 R) ∧ Bx B W1 w' G (opC o) x p (S.flush (V.first : Int) (V.cnt : Int)).1 V y q (S.flush (V.first : Int) (V.cnt : Int)).1 U) := fun W hW => by
                  have := tbarrier _ y q x p S _ U _ _ hW.two.swap
                  rw [hq.twin.first, hq.twin.cnt] at this
                  rw [hR]
                  exact this.mono fun e w' ⟨a1, a2, a3⟩ => ⟨a1, hW.step a2.swap a3⟩
                have HQ' := Lib.hid hq'
                rw [z3] at y1 KB1
                clear hcv ht hq hbel hcell hO6 hoff hok hmv hmu gv hR hq' hos z0 z2 z3
                generalize (S.flush (V.first : Int) (V.cnt : Int)).1 = S' at *
                go_wp2_with (first
                  | (go_at_call 33; (with_reducible refine KB1.out.mono ?_); rintro e w7 ⟨rfl, h7⟩; have H7 := Lib.hid h7; clear h7)
                  | (go_at_call 33; (with_reducible refine (KB2.out _ H7.out).mono ?_); rintro e w8 ⟨rfl, h8⟩; have H8 := Lib.hid h8; clear h8))
                go_roundw
                case rel => exact ⟨j + 1, r, S', V, U, by omega, by omega, rfl, by go_num, H8.out.two.less (fun k hk => .inl hk), HQ'.out, H8.out.bel⟩
                case measure => simp [intOf]; omega
              · have z0' : (o.kind == 0) = false := by simp [z0]
                have z2' : (o.kind == 2) = false := by simp [z2]
                have z3' : (o.kind == 3) = false := by simp [z3]
                clear hcv ht hq hbel hcell hO6 hoff hok hmv hmu hos
                generalize o.kind = K at *
                clear z0 z2 z3
                go_wp2
                go_roundw
                case rel => exact ⟨j + 1, r, S, V, U, by omega, by omega, rfl, by go_num, HB0.out.two.less (fun k hk => .inl hk), HK.out.2.1, HB0.out.bel⟩
                case measure => simp [intOf]; omega
        · have hjL : j = L := Nat.le_antisymm hj (Nat.not_lt.1 hlt2)
          subst hjL
          obtain ⟨Y, hY⟩ : ∃ Y, Y = ofL S.image := ⟨_, rfl⟩
          have KM1 : Hid (Calls Try.prog 26 #[.pointer (some ⟨y, 0, none⟩)] wr fun e w' => e = .returned (.int .i64 (r : Int)) ∧ wr = w') := by
            have := tmisses _ y q x p S S U V wr ht.swap
            rw [hq.mis] at this; exact this
          obtain ⟨a, ha⟩ : ∃ a, a = V.mis := ⟨_, rfl⟩
          have hle : (a : Int) ≤ (r : Int) := by have := hq.few; omega
          have KM2 : Hid (Calls Try.prog 26 #[.pointer (some ⟨x, 0, none⟩)] wr fun e w' => e = .returned (.int .i64 (a : Int)) ∧ wr = w') := by
            rw [ha]; exact tmisses _ x p y q S S V U wr ht
          have KI1 : Hid (Calls Try.prog 28 #[.pointer (some ⟨p, 0, none⟩)] wr fun e w' => e = .returned (.string Y) ∧ Two w' (fun k => k < B) x p S V y q S U ∧ Below B W1 w') := by
            rw [hY]
            exact (timage _ x p y q S S V U wr ht).mono fun e w' ⟨a1, a2⟩ => ⟨a1, ht.below a2, hbel.trans (a2.mono ht.size)⟩
          have KI2 : Hid (∀ W, Two W (fun k => k < B) x p S V y q S U → Below B W1 W → Calls Try.prog 28 #[.pointer (some ⟨q, 0, none⟩)] W fun e w' => e = .returned (.string Y) ∧ Below B W1 w') := fun W hW hb => by
            rw [hY]
            exact (timage _ y q x p S S U V W hW.swap).mono fun e w' ⟨a1, a2⟩ => ⟨a1, hb.trans (a2.mono hW.size)⟩
          clear ht hq hbel hlt2 hY ha
          go_wp2_with (first
            | (go_at_call 26; (with_reducible refine KM1.out.mono ?_); rintro e w6 ⟨rfl, rfl⟩)
            | (go_at_call 26; (with_reducible refine KM2.out.mono ?_); rintro e w6 ⟨rfl, rfl⟩)
            | (go_at_call 28; (with_reducible refine KI1.out.mono ?_); rintro e w7 ⟨rfl, ht7, hb7⟩; have HT7 := Lib.hid ht7; have HB7 := Lib.hid hb7; clear ht7 hb7)
            | (go_at_call 28; (with_reducible refine (KI2.out _ HT7.out HB7.out).mono ?_); rintro e w8 ⟨rfl, hb8⟩; have HB8 := Lib.hid hb8; clear hb8)
            | (go_at_call 14; refine (kf.out _).mono ?_; rintro e w9 ⟨rfl, hb9⟩))
          go_ret
          exact ⟨rfl, HEND.out _ (HB8.out.trans (hb9.mono (Nat.le_trans HBB.out HB8.out.size)))⟩
    · have kv1 : Hid (∀ W p q, Dk2 W (fun k => k < B) p S0 q S0 → Calls Try.prog 19 #[.pointer (some ⟨p, 0, none⟩), .int .i64 f, .int .i64 c, .int .i64 m] W fun e w' => e = .returned (.tuple #[.pointer none, .int .i64 150]) ∧ W = w') := fun W p q hD => tnew_no _ p q S0 S0 f c m W hD hf hc hm hnw
      have kv2 : Hid (∀ W p q, Dk2 W (fun k => k < B) p S0 q S0 → Below B W1 W → Calls Try.prog 19 #[.pointer (some ⟨q, 0, none⟩), .int .i64 f, .int .i64 c, .int .i64 0] W fun e w' => (∃ v r, e = .returned (.tuple #[v, .int .i64 r])) ∧ Below B W1 w') := fun W p q hD hb =>
        (tnew_some _ p q S0 S0 f c 0 W hD hf hc (by unfold In64; omega)).mono fun e w' ⟨a1, a2⟩ => ⟨a1, hb.trans (a2.mono (Nat.le_trans HBB.out hb.size))⟩
      clear hnw hcalm hf hc hm hops hsc
      go_enter Try.func9, Try.ntmps9
      go_wp2_with fail
      rw [HW1.out, ← HXE.out]
      clear hX
      go_wp2_with (first
        | (go_at_call 17; (with_reducible refine kd1.out.mono ?_); rintro e w2 ⟨p, rfl, hat, hb2⟩; have HA2 := Lib.hid hat; have HB2 := Lib.hid hb2; clear hat hb2)
        | (go_at_call 17; (with_reducible refine (kd2.out _ p HA2.out HB2.out).mono ?_); rintro e w3 ⟨q, rfl, hdk, hb3⟩; have HD3 := Lib.hid hdk; have HB3 := Lib.hid hb3; obtain ⟨x0, x1, x2⟩ := HX.out w3 hb3; clear hdk hb3)
        | (go_at_call 19; (with_reducible refine (kv1.out _ p q HD3.out).mono ?_); rintro e w4 ⟨rfl, rfl⟩)
        | (go_at_call 19; (with_reducible refine (kv2.out _ p q HD3.out HB3.out).mono ?_); rintro e w5 ⟨⟨v5, r5, rfl⟩, hb5⟩; have HB5 := Lib.hid hb5; clear hb5)
        | (go_at_call 14; refine (kf.out _).mono ?_; rintro e w9 ⟨rfl, hb9⟩))
      go_ret
      exact ⟨rfl, HEND.out _ (HB5.out.trans (hb9.mono (Nat.le_trans HBB.out HB5.out.size)))⟩
end Go.Proofs.Ytnecbbflcpngcaa
