/- The document's ticks and next ones: what the calls return. Condition: the list of windows is no longer than a machine holds. -/
import Derived.Test.YtgbmddjpaibcfaaRef
namespace Go.Proofs.Ytgbmddjpaibcfaa
open Go.RowKit Go.Maps
set_option linter.unusedVariables false
set_option linter.unusedSimpArgs false

theorem loc_lt {ws : List Wn} (hok : okL ws) {r : Nat} (h : r < lenN ws) : (loc (tks ws) r).1 < ws.length := by
  obtain ⟨hk, _⟩ := loc_in (show r < (tks ws).sum from h)
  rw [tks_len] at hk; exact hk
set_option maxRecDepth 100000 in
set_option maxHeartbeats 4000000 in
theorem upto_any (w : World) (G : Nat → Prop) (v : Value) (ws : List Wn) (ht : WinV G w v ws) (hok : okL ws) (kd ix : Int) (T : Nat) (hT : T ≤ 1099511627776) :
    Calls Try.prog 40 #[v, .int .i64 kd, .int .i64 ix, .int .i64 (T : Int)] w fun e w' => e = .returned (.int .i64 (upV ws kd ix T : Nat)) ∧ Below w.heap.size w w' := by
  have k1 := frame_any w G v ws ht hok
  rw [show frm (tks ws) ws.length = frL ws from rfl] at k1
  obtain ⟨q, n, cap0, rfl⟩ : ∃ q n cap, v = .slice q n cap := by obtain ⟨q, cap, e, _⟩ := ht; exact ⟨_, _, _, e⟩
  have hn : n = ws.length := by obtain ⟨q, cap, e, _⟩ := ht; injection e
  have hL := lenN_ok hok
  obtain ⟨L, hLe⟩ : ∃ L, L = lenN ws := ⟨_, rfl⟩
  have hfl : (frL ws).length = L := by rw [frL_len, hLe]
  rw [← hLe] at hL
  obtain ⟨g, oo, rfl, hcell⟩ : ∃ g oo, q = some ⟨g, oo, none⟩ ∧ ∀ W, Below w.heap.size w W → ∀ k, k < n → W.cell? ⟨g, oo + k * 3, none⟩ = some (.int .i64 (ws.getD k w0).1) ∧ W.cell? ⟨g, oo + k * 3 + 1, none⟩ = some (.int .i64 (ws.getD k w0).2.1) ∧ W.cell? ⟨g, oo + k * 3 + 2, none⟩ = some (.int .i64 (ws.getD k w0).2.2) := by
    obtain ⟨q', cap, e, _, hc⟩ := ht
    injection e with ea eb ec
    obtain ⟨b, o', hq, _, hlt, hcl⟩ := hc (fun e => by have := hok.1; rw [e] at this; simp at this)
    refine ⟨b, o', ea.trans hq, fun W hW k hk => ?_⟩
    obtain ⟨c0, c1, c2⟩ := hcl k (by omega)
    exact ⟨cell_below c0 hW, cell_below c1 hW, cell_below c2 hW⟩
  have KT := Lib.hid hcell
  obtain ⟨Q, hQ⟩ : ∃ Q, Q = T / L := ⟨_, rfl⟩
  obtain ⟨R, hR⟩ : ∃ R, R = T % L := ⟨_, rfl⟩
  have hRL : R < L := by rw [hR]; exact Nat.mod_lt _ (by omega)
  have hQ2 : Q ≤ 1099511627776 := by rw [hQ]; exact Nat.le_trans (Nat.div_le_self _ _) hT
  obtain ⟨t, htI⟩ : ∃ t : Int, t = (T : Int) := ⟨_, rfl⟩
  have q1 : IntKind.i64.wrap (t.tdiv (L : Int)) = (Q : Int) := by
    rw [show t.tdiv (L : Int) = (Q : Int) by rw [htI, hQ]; exact Int.ofNat_tdiv _ _]; exact IntWalk.i64_in _ (by omega)
  have q2 : IntKind.i64.wrap (t.tmod (L : Int)) = (R : Int) := by
    rw [show t.tmod (L : Int) = (R : Int) by rw [htI, hR]; exact Int.ofNat_tmod _ _]; exact IntWalk.i64_in _ (by omega)
  have q3 : t / (L : Int) = (Q : Int) := by rw [htI, hQ]; exact (Int.natCast_ediv _ _).symm
  have q4 : t % (L : Int) = (R : Int) := by rw [htI, hR]; exact (Int.natCast_emod _ _).symm
  have n0 : ¬ (L : Int) = 0 := by omega
  have n1 : ((L : Int) == 0) = false := by simpa using n0
  have n2 : ¬ L = 0 := by omega
  have t0 : 0 ≤ t := by omega
  have eU : upV ws kd ix T = cntR ws kd ix L * Q + cntR ws kd ix R := by unfold upV; rw [← hLe, ← hQ, ← hR]
  rw [eU, ← htI]
  have HW := Lib.hid (And.intro hok (And.intro hn (And.intro hfl (And.intro hLe (And.intro hRL (And.intro hL hQ2))))))
  clear ht hok hn hcell hfl hLe hQ hR eU htI hT hRL hL hQ2
  go_enter Try.func40, Try.ntmps40
  go_wp2_with (go_at_call 33; refine k1.mono ?_; rintro e w2 ⟨v2, rfl, ⟨g2, c2, rfl, hg2, hg3, hc⟩, hb⟩; rw [HW.out.2.2.1] at *; have H2 := Lib.hid (And.intro hc (And.intro hg2 (And.intro hg3 hb))); clear hc hg2 hg3 hb)
  go_loopw [10, 11, 12] (fun a b c wr => ∃ i : Nat, i ≤ L ∧ c = .int .i64 (i : Int) ∧ a = .int .i64 (cntR ws kd ix i : Nat) ∧ b = .int .i64 (cntR ws kd ix (min i R) : Nat) ∧ Below w2.heap.size w2 wr) (fun _ _ c _ => L - (intOf c).toNat)
  case atStart => exact ⟨0, Nat.zero_le _, rfl, rfl, by rw [Nat.zero_min]; rfl, Below.refl _ _⟩
  case round =>
    obtain ⟨i, hi, rfl, rfl, rfl, hbw⟩ := hrel
    by_cases a : i < L
    · have aI : (i : Int) < (L : Int) := by omega
      have hget := frL_get ws i (by rw [← HW.out.2.2.2.1]; exact a)
      have hkn := loc_lt HW.out.1 (r := i) (by rw [← HW.out.2.2.2.1]; exact a)
      rw [← HW.out.2.1] at hkn
      obtain ⟨kk, hkk⟩ : ∃ kk, kk = (loc (tks ws) i).1 := ⟨_, rfl⟩
      obtain ⟨f0, _⟩ := H2.out.1 i _ hget
      have y0 := cell_below f0 hbw
      rw [← hkk] at y0 hkn
      have hB : Below w.heap.size w wr := H2.out.2.2.2.trans (hbw.mono H2.out.2.2.2.size)
      obtain ⟨c0, c1, c2⟩ := KT.out wr hB kk hkn
      have hcs : cntR ws kd ix (i + 1) = cntR ws kd ix i + if isR ws kd ix i = true then 1 else 0 := rfl
      have hcl := cntR_le ws kd ix i
      have hcl2 := cntR_le ws kd ix (min i R)
      have hL16 := HW.out.2.2.2.2.2.1.2
      have hir : isR ws kd ix i = isB (ws.getD kk w0).1 (ws.getD kk w0).2.1 kd ix := by unfold isR isW; rw [hkk]
      obtain ⟨f, hf⟩ : ∃ f, f = (ws.getD kk w0).1 := ⟨_, rfl⟩
      obtain ⟨r, hr⟩ : ∃ r, r = (ws.getD kk w0).2.1 := ⟨_, rfl⟩
      obtain ⟨tt, htt⟩ : ∃ tt, tt = (ws.getD kk w0).2.2 := ⟨_, rfl⟩
      rw [← hf, ← hr] at hir
      rw [← hf] at c0
      rw [← hr] at c1
      rw [← htt] at c2
      have kI : (kk : Int) < (n : Int) := by omega
      obtain ⟨A, hA⟩ : ∃ A, A = cntR ws kd ix i := ⟨_, rfl⟩
      obtain ⟨P, hP⟩ : ∃ P, P = cntR ws kd ix (min i R) := ⟨_, rfl⟩
      rw [← hA] at hcl hcs
      rw [← hP] at hcl2
      have hP1 : ∀ D : Nat, cntR ws kd ix (i + 1) = A + D → (i < R → cntR ws kd ix (min (i + 1) R) = P + D) ∧ (¬ i < R → cntR ws kd ix (min (i + 1) R) = P) := by
        intro D hD
        refine ⟨fun h => ?_, fun h => ?_⟩
        · rw [show min (i + 1) R = i + 1 by omega, hD, hA, hP, show min i R = i by omega]
        · rw [hP, show min (i + 1) R = min i R by omega]
      rw [← hA, ← hP]
      have HB : Hid (Below w2.heap.size w2 (wr.alloc (.cells #[.int .i64 f, .int .i64 r, .int .i64 tt] 40))) := Lib.hid (hbw.alloc hbw.size _)
      have HC := Lib.hid (And.intro hcs (And.intro hir hP1))
      clear hget hkn hkk f0 hB hcs hir hf hr htt hA hP hP1 hbw hi
      by_cases cf : f = kd
      · by_cases cr : r = ix
        · have hi1 : isR ws kd ix i = true := by rw [HC.out.2.1]; unfold isB; simp [cf, cr]
          have hs1 : cntR ws kd ix (i + 1) = A + 1 := by rw [HC.out.1, hi1]; rfl
          have hP2 := HC.out.2.2 1 hs1
          have b1 : (f == kd) = true := by simp [cf]
          have b2 : (r == ix) = true := by simp [cr]
          have HS := Lib.hid (And.intro hs1 hP2)
          clear hi1 hs1 hP2 cf cr
          by_cases d : i < R
          · have dI : (i : Int) < (R : Int) := by omega
            go_wp2
            exact ⟨⟨i + 1, a, by simp, by rw [HS.out.1]; simp, by rw [HS.out.2.1 d]; simp, HB.out⟩, by simp [intOf]; omega⟩
          · have dI : ¬ (i : Int) < (R : Int) := by omega
            go_wp2
            exact ⟨⟨i + 1, a, by simp, by rw [HS.out.1]; simp, by rw [HS.out.2.2 d], HB.out⟩, by simp [intOf]; omega⟩
        · have hi1 : isR ws kd ix i = false := by rw [HC.out.2.1]; unfold isB; simp [cr]
          have hs1 : cntR ws kd ix (i + 1) = A + 0 := by rw [HC.out.1, hi1]; rfl
          have hP2 := HC.out.2.2 0 hs1
          have b1 : (f == kd) = true := by simp [cf]
          have b2 : (r == ix) = false := by simp [cr]
          have HS : Hid (cntR ws kd ix (i + 1) = A ∧ cntR ws kd ix (min (i + 1) R) = P) := Lib.hid ⟨hs1, by by_cases d : i < R; exact hP2.1 d; exact hP2.2 d⟩
          clear hi1 hs1 hP2 cf cr
          go_wp2
          exact ⟨⟨i + 1, a, by simp, by rw [HS.out.1], by rw [HS.out.2], HB.out⟩, by simp [intOf]; omega⟩
      · have hi1 : isR ws kd ix i = false := by rw [HC.out.2.1]; unfold isB; simp [cf]
        have hs1 : cntR ws kd ix (i + 1) = A + 0 := by rw [HC.out.1, hi1]; rfl
        have hP2 := HC.out.2.2 0 hs1
        have b1 : (f == kd) = false := by simp [cf]
        have HS : Hid (cntR ws kd ix (i + 1) = A ∧ cntR ws kd ix (min (i + 1) R) = P) := Lib.hid ⟨hs1, by by_cases d : i < R; exact hP2.1 d; exact hP2.2 d⟩
        clear hi1 hs1 hP2 cf
        go_wp2
        exact ⟨⟨i + 1, a, by simp, by rw [HS.out.1], by rw [HS.out.2], HB.out⟩, by simp [intOf]; omega⟩
    · obtain rfl : i = L := by omega
      obtain ⟨hok, hn, hfl, hLe, hRL, hL, hQ2⟩ := HW.out
      rw [show min i R = R by omega]
      have hcl := cntR_le ws kd ix i
      have hcl2 := cntR_le ws kd ix R
      obtain ⟨A, hA⟩ : ∃ A, A = cntR ws kd ix i := ⟨_, rfl⟩
      obtain ⟨P, hP⟩ : ∃ P, P = cntR ws kd ix R := ⟨_, rfl⟩
      rw [← hA] at hcl
      rw [← hP] at hcl2
      have hAQ : A * Q ≤ 17944029765304320 := Nat.le_trans (Nat.mul_le_mul (show A ≤ 16320 by omega) hQ2) (by decide)
      obtain ⟨X, hX⟩ : ∃ X, X = A * Q := ⟨_, rfl⟩
      rw [← hX] at hAQ
      have r1 : IntKind.i64.wrap ((A : Int) * (Q : Int)) = (X : Int) := by rw [← Int.natCast_mul, ← hX]; exact IntWalk.i64_in _ (by omega)
      have r2 : wrap64 ((A : Int) * (Q : Int)) = (X : Int) := by rw [← Int.natCast_mul, ← hX]; exact w64 (by omega)
      have hP16 : P ≤ 16320 := by omega
      have hXP : X + P ≤ 17944029765320640 := Nat.add_le_add hAQ hP16
      have r34 : ∀ Y : Nat, Y ≤ 17944029765320640 → IntKind.i64.wrap (Y : Int) = (Y : Int) ∧ wrap64 (Y : Int) = (Y : Int) := fun Y hY => ⟨IntWalk.i64_in _ (by omega), w64 (by omega)⟩
      have r3 : IntKind.i64.wrap ((X : Int) + (P : Int)) = (X : Int) + (P : Int) := by rw [← Int.natCast_add]; exact (r34 _ hXP).1
      have r4 : wrap64 ((X : Int) + (P : Int)) = (X : Int) + (P : Int) := by rw [← Int.natCast_add]; exact (r34 _ hXP).2
      clear r34 hXP hP16
      have r5 : IntKind.i64.wrap (Q : Int) = (Q : Int) := IntWalk.i64_in _ (by omega)
      have r6 : wrap64 (Q : Int) = (Q : Int) := w64 (by omega)
      rw [← hA, ← hP]
      have HE := Lib.hid (And.intro (And.intro hX (And.intro hA hP)) (H2.out.2.2.2.trans (hbw.mono H2.out.2.2.2.size)))
      clear hA hP hX hbw hok hn hfl hLe hRL hL hQ2 hcl hcl2 hAQ
      go_wp2
      go_ret
      exact ⟨ret_int (by rw [← HE.out.1.2.1, ← HE.out.1.2.2, ← HE.out.1.1]; simp), HE.out.2⟩
end Go.Proofs.Ytgbmddjpaibcfaa
