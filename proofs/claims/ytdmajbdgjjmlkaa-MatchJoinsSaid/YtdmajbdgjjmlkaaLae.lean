/- What laying an expression's states leaves, any number of times: the call's contract, if laying one has its. Conditions: the machine lies in memory, the expression too, ahead of it; there is room. -/
import Derived.Test.YtdmajbdgjjmlkaaLay
namespace Go.Proofs.Ytdmajbdgjjmlkaa
open Go.RowKit
set_option linter.unusedVariables false
set_option linter.unusedSimpArgs false

theorem pwith0 (i : Nat) (hi : i < 320) (w : World) : Calls Try.prog 29 #[.agg #[.int .u64 0, .int .u64 0, .int .u64 0, .int .u64 0, .int .u64 0], .int .i64 (i : Nat)] w fun e w' => e = .returned (.agg (plc (bitN i))) ∧ Below w.heap.size w w' := by
  have := pwith_any 0 i hi w
  rw [plc_zero, Nat.zero_or] at this
  exact this
def endR (f : Nat → List Sta → Nat × List Sta) (mn : Int) (nx : Nat) (L : List Sta) : Nat × List Sta :=
  if mn = 0 then (L.length, setNx (f L.length (L ++ [⟨0, 0, 0, 0, 0⟩])).2 L.length (bitN nx ||| bitN (f L.length (L ++ [⟨0, 0, 0, 0, 0⟩])).1))
  else layN f (mn - 1).toNat (f L.length (L ++ [⟨0, 0, 0, 0, 0⟩])).1 (setNx (f L.length (L ++ [⟨0, 0, 0, 0, 0⟩])).2 L.length (bitN nx ||| bitN (f L.length (L ++ [⟨0, 0, 0, 0, 0⟩])).1))
set_option maxRecDepth 100000 in
set_option maxHeartbeats 4000000 in
theorem endless_lay (x : Rx) (HX : LayC x) (hx0 : sizeR x ≠ 0) (hx1 : sizeR x < 257) (n0 p : Nat) (M : Mac) (w : World) (sv : Value) (nx : Nat) (least : Int) (h : IsM n0 p M w) (hl : LiesL (· < n0) w sv x.list) (hroom : M.sts.length + 1 + (1 + (least - 1).toNat) * sizeR x ≤ 257) (hnx : nx < M.sts.length) (hl0 : 0 ≤ least) (hl1 : least ≤ 15) :
    Calls Try.prog 45 #[.pointer (some ⟨p, 0, none⟩), x.val sv, .int .i64 least, .int .i64 (nx : Nat)] w (LayPost n0 p M (endR (layR x) least nx M.sts) w) := by
  have LL := layR_ok x hx0
  have LN := layR_len x hx0 hx1
  obtain ⟨X, hX⟩ : ∃ X, X = w.heap.size := ⟨_, rfl⟩
  have hzz : w.heap.size = X := hX.symm
  obtain ⟨L, beg⟩ := M
  dsimp only at *
  obtain ⟨sz, hsz⟩ : ∃ sz, sz = sizeR x := ⟨_, rfl⟩
  rw [← hsz] at hroom LN
  obtain ⟨f, hf⟩ : ∃ f, f = layR x := ⟨_, rfl⟩
  have LX := fun M' w' nx' (a : IsM n0 p M' w') (b : LiesL (· < n0) w' sv x.list) (c : M'.sts.length + sz ≤ 257) (d : nx' < M'.sts.length) => HX n0 p M' w' sv nx' a b (by rw [← hsz]; exact c) d
  rw [← hf] at LL LN LX ⊢
  unfold endR
  have e1 : (L ++ [(⟨0, 0, 0, 0, 0⟩ : Sta)]).length = L.length + 1 := by simp
  have l1 := LL (L ++ [⟨0, 0, 0, 0, 0⟩]) L.length (by omega) (by omega)
  have l2 := LN L.length (L ++ [⟨0, 0, 0, 0, 0⟩])
  have hback : (f L.length (L ++ [⟨0, 0, 0, 0, 0⟩])).2[L.length]? = some ⟨0, 0, 0, 0, 0⟩ := by rw [l1.pre _ (by omega)]; simp
  have hat := l1.at_
  have hlen := l1.len
  rw [e1] at l2 hlen
  obtain ⟨r1, hr1⟩ : ∃ r1, r1 = f L.length (L ++ [⟨0, 0, 0, 0, 0⟩]) := ⟨_, rfl⟩
  rw [← hr1] at l2 hback hat hlen ⊢
  rw [Nat.add_mul, Nat.one_mul] at hroom
  obtain ⟨N, hN⟩ : ∃ N, N = bitN nx ||| bitN r1.1 := ⟨_, rfl⟩
  rw [← hN]
  obtain ⟨R, hR⟩ : ∃ R, R = (if least = 0 then (L.length, setNx r1.2 L.length N) else layN f (least - 1).toNat r1.1 (setNx r1.2 L.length N)) := ⟨_, rfl⟩
  rw [← hR]
  obtain ⟨k, mn, mx, s0, s1, s2, s3, ls⟩ := x
  unfold Rx.val Rx.cells cellsX at LX ⊢
  dsimp only [Rx.list] at *
  obtain ⟨B8, hB8⟩ : ∃ B8 : Array Value, B8 = #[.int .i64 k, .int .i64 mn, .int .i64 mx, .int .u64 s0, .int .u64 s1, .int .u64 s2, .int .u64 s3, sv] := ⟨_, rfl⟩
  have hn0 : n0 ≤ X := by rw [hX]; exact Nat.le_trans h.base (Nat.le_of_lt h.lt)
  have hpX : p < X := by rw [hX]; exact h.lt
  obtain ⟨W0, hW0⟩ : ∃ W0, W0 = w.alloc (.cells B8 26) := ⟨_, rfl⟩
  have b0 : Below w.heap.size w W0 := by rw [hW0]; exact below_new w _
  have x0 : W0.heap[X]? = some (.cells B8 26 (0, 0)) := by rw [hW0, hX]; exact heap_alloc_new w _
  have m0 := h.of_below b0
  have o0 : Oth n0 p w W0 := Oth.of_below b0 (by rw [← hX]; exact hn0)
  have A0 := add_any n0 p ⟨L, beg⟩ ⟨0, 0, 0, 0, 0⟩ (by show L.length ≤ 1000; omega) W0 m0
  have e9 : (staV ⟨0, 0, 0, 0, 0⟩).toArray = #[Value.int .u64 0, .int .u64 0, .int .u64 0, .int .u64 0, .int .u64 0, .int .u64 0, .int .u64 0, .int .u64 0, .int .u64 0] := by
    simp only [staV, pw_zero]; rfl
  rw [e9] at A0
  dsimp only at A0
  have HA0 := Lib.hid A0
  have HW0 : Hid (w.alloc (.cells #[.int .i64 k, .int .i64 mn, .int .i64 mx, .int .u64 s0, .int .u64 s1, .int .u64 s2, .int .u64 s3, sv] 26) = W0) := Lib.hid (by rw [hW0, hB8])
  have G1 : Hid (∀ w1, Oth n0 p W0 w1 → w1.heap[X]? = some (.cells B8 26 (0, 0)) ∧ Oth n0 p w w1 ∧ LiesL (· < n0) w1 sv ls) := Lib.hid fun w1 ho =>
    ⟨ho.keep x0 (by omega) (by decide), o0.trans ho, hl.oth (o0.trans ho)⟩
  have HR := Lib.hid hR
  have HR1 := Lib.hid hr1
  have W1 := Lib.hid (pwith0 nx (by omega))
  have W2 := Lib.hid (pwith_any (bitN nx) r1.1 (by omega))
  rw [← hN] at W2
  unfold plc at W1 W2
  have HB8 := Lib.hid hB8
  have HLX := Lib.hid LX
  have HH := Lib.hid (And.intro LL (And.intro LN (And.intro hroom (And.intro l2 (And.intro hback (And.intro hat (And.intro hlen (And.intro hn0 (And.intro hpX e1)))))))))
  have hbi : ((L.length : Nat) : Int) < ((r1.2.length : Nat) : Int) := by omega
  have hbL : ((L.length : Nat) : Int) ≤ 257 := by omega
  have HLE := Lib.hid (And.intro hl0 hl1)
  have HLIE : Hid (∀ w1, Oth n0 p w w1 → LiesL (· < n0) w1 sv ls) := Lib.hid fun w1 ho => hl.oth ho
  have hleast : least ≤ 15 := hl1
  clear h hl hroom hnx hl0 hl1 HX hx0 hx1 LL LN hX hsz hf LX e1 l1 l2 hback hat hlen hr1 hN hR hB8 hn0 hpX hW0 b0 x0 m0 o0 A0 e9
  go_enter Try.func45, Try.ntmps45
  go_wp2_with fail
  rw [HW0.out]
  go_wp2_with (first
    | (go_at_call 43; (with_reducible refine HA0.out.mono ?_); rintro e w1 ⟨rfl, hi, ho⟩; obtain ⟨x1, o1, l1⟩ := G1.out _ ho; have KL := Lib.hid (HLX.out ⟨L ++ [⟨0, 0, 0, 0, 0⟩], beg⟩ w1 L.length hi l1 (by have := HH.out; simp; omega) (by simp)); unfold LayPost at KL; dsimp only at KL; rw [← HR1.out] at KL; obtain ⟨b0, b1, b2, b3, b4, b5, b6, b7⟩ := cells8_at (by rw [HB8.out] at x1; exact x1); have HX1 := Lib.hid x1; have HO1 := Lib.hid ho; clear hi ho x1 o1 l1)
    | (go_at_call 30; (with_reducible refine KL.out.mono ?_); rintro e w2 ⟨rfl, hi, ho⟩; have HI2 := Lib.hid hi; have HO2 := Lib.hid (HO1.out.trans ho); clear hi ho))
  obtain ⟨hl0, hl1⟩ := HLE.out
  obtain ⟨LL, LN, hroom, l2, hback, hat, hlen, hn0, hpX, e1⟩ := HH.out
  have i2 := HI2.out
  have o2 := HO2.out
  obtain ⟨x2, q2, ls2⟩ := G1.out _ o2
  obtain ⟨g, cap, hc, ho, hgp, hg0, hgs, hcs⟩ := i2.own (by show 0 < r1.2.length; omega)
  dsimp only at hc ho
  have NX : Hid (∀ w3, Below w2.heap.size w2 w3 → (w3.cell? ⟨p, 0, none⟩ = some (.slice (some ⟨g, 0, none⟩) r1.2.length cap) ∧ (∀ k u, (staV ⟨0, 0, 0, 0, 0⟩)[k]? = some u → w3.cell? ⟨g, L.length * 9 + k, none⟩ = some u) ∧ ∀ o, w3.frozen? ⟨g, o, none⟩ = false) ∧ IsM n0 p ⟨setNx r1.2 L.length N, beg⟩ (put5o w3 g (L.length * 9 + 4) N) ∧ Oth n0 p W0 (put5o w3 g (L.length * 9 + 4) N)) := Lib.hid fun w3 hb => by
    have gr : w2.grownBy w3 none := ⟨hb.os, hb.tape, hb.output, hb.size, fun i hi _ => hb.block i hi⟩
    have ho1 := ho.kept gr (.inr (by simp [Value.ownBlock]))
    have hc1 := (hb.block p (block_lt' hc)).trans hc
    obtain ⟨cs, hcs⟩ := hcs
    have hcs1 := (hb.block g hgs).trans hcs
    refine ⟨⟨cell_at hc1 rfl, fun k u hu => ?_, fun o => free_at hcs1⟩, ?_⟩
    · have := ho1.cells (g := g) rfl _ _ (stasV_at r1.2 L.length _ hback k u hu)
      rw [add0] at this
      exact this
    · have hp := IsM.setNx (M := ⟨r1.2, beg⟩) i2.base hc1 ho1 hgp ⟨cs, hcs1⟩ hg0 L.length _ hback N
      exact ⟨hp.1, o2.trans ((Oth.of_below hb (Nat.le_trans hg0 (Nat.le_of_lt hgs))).trans hp.2)⟩
  obtain ⟨⟨c0, -, -⟩, -⟩ := NX.out w2.drew (Below.refl _ w2).drew
  clear b0 b1 b2 b3 b4 b5 b6 b7 hc ho hgp hg0 hgs hcs i2 o2 x2 q2 ls2 LL LN hroom l2 hback hat hlen hn0 hpX e1 hl0 hl1
  go_region_with (first
    | (go_at_call 29; (with_reducible refine (W1.out _).mono ?_); rintro e w3 ⟨rfl, hb3⟩; have B3 := Lib.hid ((Below.refl _ w2).drew.trans hb3); obtain ⟨⟨e0, -, -⟩, -⟩ := NX.out _ B3.out; clear hb3)
    | (go_at_call 29; (with_reducible refine (W2.out _).mono ?_); rintro e w4 ⟨rfl, hb4⟩; have B4 := Lib.hid (B3.out.trans (hb4.mono B3.out.size)); obtain ⟨⟨f0, es, ef⟩, -⟩ := NX.out _ B4.out; have d4 := es 4 _ rfl; have d5 := es 5 _ rfl; have d6 := es 6 _ rfl; have d7 := es 7 _ rfl; have d8 := es 8 _ rfl; clear hb4 es))
  all_goals
    obtain ⟨W5, hW5⟩ : ∃ W5, W5 = put5o w4 g (L.length * 9 + 4) N := ⟨_, rfl⟩
    have hW5' := hW5
    unfold put5o at hW5'
    rw [← hW5']
    obtain ⟨-, i5, o5⟩ := NX.out _ B4.out
    rw [← hW5] at i5 o5
    obtain ⟨x5, q5, ls5⟩ := G1.out _ o5
    obtain ⟨hl0, hl1⟩ := HLE.out
    clear hW5 hW5' d4 d5 d6 d7 d8 ef f0 e0 c0
    by_cases hz : least = 0
    · subst hz
      have HF : Hid (R = (L.length, setNx r1.2 L.length N)) := Lib.hid (by rw [HR.out, if_pos rfl])
      have HI := Lib.hid (And.intro i5 q5)
      clear i5 o5 x5 q5 ls5 hl0 hl1
      go_wp2
      go_ret
      exact ⟨by rw [HF.out]; rfl, by rw [HF.out]; exact HI.out.1, HI.out.2⟩
    · have HF : Hid (R = layN f (least - 1).toNat r1.1 (setNx r1.2 L.length N)) := Lib.hid (by rw [HR.out, if_neg hz])
      have HI := Lib.hid (And.intro i5 (And.intro q5 (And.intro x5 ls5)))
      have hzb : (least == 0) = false := by simpa using hz
      obtain ⟨c, hc⟩ : ∃ c : Nat, least = (c : Int) + 1 := ⟨(least - 1).toNat, by omega⟩
      have hlc : (c : Int) ≤ 15 := by omega
      have HFC : Hid (R = layN f c r1.1 (setNx r1.2 L.length N) ∧ r1.2.length + c * sz ≤ 257) := Lib.hid ⟨by rw [HF.out, show (least - 1).toNat = c by omega], by
        obtain ⟨LL, LN, hroom, l2, -⟩ := HH.out
        rw [show (least - 1).toNat = c by omega] at hroom
        omega⟩
      subst hc
      clear i5 o5 x5 q5 ls5 hl0 hl1 hz HF
      go_wp2
      go_loopw [35, 10] (fun i v wr => ∃ (j b : Nat) (K : List Sta), j ≤ c ∧ i = .int .i64 (j : Nat) ∧ v = .int .i64 (b : Nat) ∧ Hid ((wr.heap[X]? = some (.cells B8 26 (0, 0)) ∧ IsM n0 p ⟨K, beg⟩ wr ∧ Oth n0 p w wr) ∧ b < K.length ∧ K.length + (c - j) * sz ≤ 257 ∧ L.length + 1 ≤ K.length ∧ layN f (c - j) b K = R)) (fun i _ _ => c - (intOf i).toNat)
      case atStart =>
        obtain ⟨LL, LN, hroom, l2, hback, hat, hlen, -⟩ := HH.out
        exact ⟨0, r1.1, setNx r1.2 L.length N, Nat.zero_le _, rfl, rfl, Lib.hid ⟨⟨HI.out.2.2.1, HI.out.1, HI.out.2.1⟩, by rw [setNx_len]; exact hat, by rw [setNx_len, Nat.sub_zero]; exact HFC.out.2, by rw [setNx_len]; exact hlen, by rw [Nat.sub_zero]; exact HFC.out.1.symm⟩⟩
      case round =>
        obtain ⟨j, b, K, hj, rfl, rfl, HQ⟩ := hrel
        obtain ⟨⟨q1, q2, q3⟩, q4, q5, q6, q7⟩ := HQ.out
        by_cases hlt : j < c
        · have hji : (j : Int) < (c : Int) := by omega
          obtain ⟨b0, b1, b2, b3, b4, b5, b6, b7⟩ := cells8_at (by rw [HB8.out] at q1; exact q1)
          obtain ⟨LL, LN, hroom, l2, hback, hat, hlen, hn0, hpX, -⟩ := HH.out
          have es : c - j = (c - (j + 1)) + 1 := by omega
          rw [es, Nat.succ_mul] at q5
          rw [es, layN] at q7
          have KL := Lib.hid (HLX.out ⟨K, beg⟩ wr b q2 (HLIE.out _ q3) (by show K.length + sz ≤ 257; omega) q4)
          unfold LayPost at KL
          dsimp only at KL
          have hLL := LL K b (by omega) q4
          have hLN := LN b K
          have ha := hLL.at_
          have hb := hLL.len
          generalize f b K = r at *
          have HN := Lib.hid (And.intro q7 (And.intro ha (And.intro (show r.2.length + (c - (j + 1)) * sz ≤ 257 by omega) (And.intro (show L.length + 1 ≤ r.2.length by omega) hlt))))
          have G3 : Hid (∀ w1, Oth n0 p wr w1 → w1.heap[X]? = some (.cells B8 26 (0, 0)) ∧ Oth n0 p w w1) := Lib.hid fun w1 ho => ⟨ho.keep q1 (by omega) (by decide), q3.trans ho⟩
          clear q1 q2 q3 q4 q5 q6 q7 LL LN hroom l2 hback hat hlen hn0 hpX hLL hLN ha hb es hlt hj HQ
          go_wp2_with (go_at_call 30; (with_reducible refine KL.out.mono ?_); rintro e w6 ⟨rfl, hi, ho⟩; have HI6 := Lib.hid hi; have HO6 := Lib.hid ho; clear hi ho)
          exact ⟨⟨j + 1, r.1, r.2, HN.out.2.2.2.2, by go_num, rfl, Lib.hid ⟨⟨(G3.out _ HO6.out).1, HI6.out, (G3.out _ HO6.out).2⟩, HN.out.2.1, HN.out.2.2.1, HN.out.2.2.2.1, HN.out.1⟩⟩, by simp [intOf]; have := HN.out.2.2.2.2; omega⟩
        · have hjl : j = c := by omega
          subst hjl
          rw [Nat.sub_self, layN] at q7
          have HN := Lib.hid (And.intro q7 (And.intro q2 q3))
          clear q1 q2 q3 q4 q5 q6 q7 HQ hlt hj
          go_wp2
          go_ret
          exact ⟨by rw [← HN.out.1]; rfl, by rw [← HN.out.1]; exact HN.out.2.1, HN.out.2.2⟩
end Go.Proofs.Ytdmajbdgjjmlkaa
