/- Sectors flushed: what the call returns and what the disk is then. No conditions. -/
import Derived.Test.YtnecbbflcpngcaaRdf
namespace Go.Proofs.Ytnecbbflcpngcaa
open Go.RowKit Go.Maps
set_option maxRecDepth 20000
set_option linter.unusedVariables false

theorem wpList_delete_run {ops : Array Oper} {rest : List Oper} {o : Oper} {a : Act} {w : World} {Q : Exit → Act → World → Prop} (hgd : o.guard = none) (s x : Operand) (t k : TypeId)
    (ho : o.op = .call { callee := .builtin .delete, args := #[s, x], argTypes := #[t, k] }) (vs vx v' : Value) (w' : World) (hs : a.eval s = vs) (hx : a.eval x = vx)
    (hr : (Builtin.delete_ #[t, k] o.type #[vs, vx]).run Try.prog w = .ok v' w') (hk : wpList Try.prog ops Q rest (a.put o.dst v') w') : wpList Try.prog ops Q (o :: rest) a w := by
  refine wpList_plain hgd fun K hK => ?_
  unfold Oper.wp execOp
  simp only [ho, resolve, invoke, builtin, Sem.run_bind, Sem.run_pure, Result.andThen_ok, List.map_toArray, List.map_cons, List.map_nil, hs, hx, hr]
  exact hK _ _ hk
theorem calm_D {w w2 w3 : World} {p sb cap mb : Nat} {cv : Value} {S : St} {a b : Nat} (ho : S.ok) (hab : a ≤ b) (hb : b < S.count) (h : D w p sb cap mb cv (S.calm a b))
    (hrow : RowB w2 sb cap (lay (S.calm a b).safe (128 * b) ((S.wr b).getD []))) (hw2 : w2.heap[p]? = w.heap[p]?) (hm : MapA w3 mb (S.calm a b).count (fun j => if j = b then none else (S.calm a b).wr j)) (hg : w2.grownBy w3 (some mb)) : D w3 p sb cap mb cv (S.calm a (b + 1)) := by
  have e1 := calm_step ho hab hb
  have e2 := calm_wr (S := S) hab
  rw [e1] at hrow
  rw [e2] at hm
  have hl : (S.calm a (b + 1)).safe.length = (S.calm a b).safe.length := by rw [S.calm_len ho, S.calm_len ho]
  refine ⟨?_, hrow.of_heap (hg.block sb hrow.lt (fun e => h.nm.2 (Option.some.inj e))), ?_, ho.calm a (b + 1), h.ne⟩
  · rw [hg.block p (by have := block_lt (hw2.trans h.blk); exact this) (fun e => h.nm.1 (Option.some.inj e)), hw2, h.blk, hl]; rfl
  · rw [show (S.calm a (b + 1)).count = (S.calm a b).count from St.count_of hl]; exact hm
set_option maxHeartbeats 4000000 in
set_option maxRecDepth 20000 in
theorem flush_any (F : Nat → Prop) (p : Nat) (S : St) (w : World) (h : IsD w F p S) (hF : ∀ k, F k → k < w.heap.size) (f n : Int) (hf : -9223372036854775808 ≤ f ∧ f < 9223372036854775808) (hn : -9223372036854775808 ≤ n ∧ n < 9223372036854775808) :
    Calls Try.prog 67 #[.pointer (some ⟨p, 0, none⟩), .int .i64 f, .int .i64 n] w fun e w' => e = .returned (.int .i64 (S.flush f n).2) ∧ To F w w' p (S.flush f n).1 := by
  obtain ⟨B, hB⟩ : ∃ B, B = w.heap.size := ⟨_, rfl⟩
  obtain ⟨w3, hw3⟩ : ∃ w3, w3 = ((w.alloc (.cells #[.pointer (some ⟨p, 0, none⟩)] 36)).alloc (.cells #[.int .i64 f] 3)).alloc (.cells #[.int .i64 n] 3) := ⟨_, rfl⟩
  have hb3 : Below w.heap.size w w3 := by subst hw3; exact (((Below.refl _ w).alloc (Nat.le_refl _) _).alloc (by simp) _).alloc (by simp; omega) _
  obtain ⟨k0, k1, k2⟩ : w3.cell? ⟨B, 0, none⟩ = some (.pointer (some ⟨p, 0, none⟩)) ∧ w3.cell? ⟨B + 1, 0, none⟩ = some (.int .i64 f) ∧ w3.cell? ⟨B + 1 + 1, 0, none⟩ = some (.int .i64 n) := by subst hw3 hB; exact box3 _ _ _ _ _ _
  have i3 := h.below hb3
  have hwhy := refusal95 F p S w3 i3 _ _ _ _ (why95 F p S w3 i3 (B + 1) (B + 1 + 1) B f n k0 k1 k2 hf hn)
  obtain ⟨r, hr⟩ : ∃ r, r = (if S.dead = true then (2 : Int) else if f < 0 ∨ n < 0 ∨ (S.count : Int) - n < f then 71 else 0) := ⟨_, rfl⟩
  rw [← hr] at hwhy
  have HH := Lib.hid (And.intro h (And.intro hb3 (And.intro k0 (And.intro k1 (And.intro k2 (And.intro hF i3))))))
  have HR := Lib.hid hr
  have HY := Lib.hid hwhy
  have HW3 := Lib.hid hw3
  have HB := Lib.hid hB
  clear h hb3 k0 k1 k2 i3 hr hwhy hw3 hB hF
  by_cases hz : r = 0
  · subst hz
    have hrr := HR.out
    have q1 : ¬ S.dead = true := fun q => by rw [if_pos q] at hrr; omega
    rw [if_neg q1] at hrr
    have q2 : ¬ (f < 0 ∨ n < 0 ∨ (S.count : Int) - n < f) := fun q => by rw [if_pos q] at hrr; omega
    have ewr : S.flush f n = if S.change.2 = 0 then (S.change.1.calm f.toNat (f.toNat + n.toNat), 0) else S.change := by unfold St.flush; rw [if_neg q1, if_neg q2]
    rw [ewr]
    obtain ⟨a, ha⟩ : ∃ a : Nat, f = (a : Int) := ⟨f.toNat, by omega⟩
    obtain ⟨m, hm⟩ : ∃ m : Nat, n = (m : Int) := ⟨n.toNat, by omega⟩
    subst ha hm
    rw [Int.toNat_natCast, Int.toNat_natCast]
    have hamc : a + m ≤ S.count := by omega
    have HQ := Lib.hid hamc
    have hok2 := HH.out.1.ok
    have hch2 := hok2.change
    have hch4 := hok2.hi
    clear q1 q2 hrr ewr hf hn
    by_cases hd0 : S.change.2 = 0
    · rw [if_pos hd0]
      obtain ⟨S1, hS1⟩ : ∃ S1, S1 = S.change.1 := ⟨_, rfl⟩
      have HS1 := Lib.hid hS1
      rw [← hS1]
      clear hS1
      go_enter Try.func67, Try.ntmps67
      go_wp2_with (fail)
      rw [← HB.out, ← HW3.out]
      refine HY.out.mono ?_
      rintro e w4 ⟨rfl, hb4⟩
      have hb04 : Below w.heap.size w w4 := HH.out.2.1.trans (hb4.mono HH.out.2.1.size)
      have i4 := HH.out.1.below hb04
      have b0 := cell_below HH.out.2.2.1 hb4
      have b1 := cell_below HH.out.2.2.2.1 hb4
      have b2 := cell_below HH.out.2.2.2.2.1 hb4
      have kc := change_any F p S w4 i4
      rw [hd0] at kc
      have HKC := Lib.hid kc
      have HB4 := Lib.hid (And.intro hb04 (And.intro i4 (And.intro hb4 (And.intro b1 b2))))
      have HOK := Lib.hid (And.intro hok2 (And.intro hch2 hch4))
      clear hb04 i4 b1 b2 kc hok2 hch2 hch4 hamc
      go_wp2_with (fail)
      refine HKC.out.mono ?_
      rintro e w5 ⟨rfl, F1, i5, g5, ch5⟩
      have hBs : B + 2 < w3.heap.size ∧ w3.heap.size ≤ w4.heap.size := ⟨by rw [HW3.out, HB.out]; simp, HB4.out.2.2.1.size⟩
      have hnF : ∀ k, B ≤ k → k < w3.heap.size → ¬ F1 k := fun k h1 h2 q => by
        rcases g5 k q with q | q
        · have := HH.out.2.2.2.2.2.1 k q; rw [HB.out] at h1; omega
        · omega
      have hkeep : ∀ (W : World), Ch F w4 W → True := fun _ _ => trivial
      have hnF0 : ∀ k, B ≤ k → ¬ F k := fun k h1 q => by have := HH.out.2.2.2.2.2.1 k q; rw [HB.out] at h1; omega
      have c5 : ∀ (k : Nat) (v : Value), B ≤ k → w4.cell? ⟨k, 0, none⟩ = some v → w5.cell? ⟨k, 0, none⟩ = some v := fun k v h1 h2 => by
        have hl := block_lt_of_cell h2
        rw [← h2]; simp only [World.cell?, ch5.block k hl (hnF0 k h1)]
      have x0 := c5 B _ (Nat.le_refl _) b0
      have x1 := c5 (B + 1) _ (by omega) HB4.out.2.2.2.1
      have x2 := c5 (B + 1 + 1) _ (by omega) HB4.out.2.2.2.2
      have hS1 := HS1.out
      have hok1 : S1.ok := by rw [hS1]; exact HOK.out.2.1.1
      have hcn1 : S1.count = S.count := by rw [hS1]; exact HOK.out.2.1.2
      rw [← hS1] at i5
      obtain ⟨sb, cap, mb, cv, hd, hc, h1, h2, h3⟩ := i5
      have hs0 : D w5 p sb cap mb cv (S1.calm a a) := by rw [calm_start hok1]; exact hd
      have hS5 : w4.heap.size ≤ w5.heap.size := ch5.size
      have hB5 : B + 2 < w5.heap.size := by omega
      have HX := Lib.hid (And.intro g5 (And.intro ch5 (And.intro hok1 (And.intro hcn1 (And.intro hnF (And.intro hBs (And.intro h1 (And.intro h2 h3))))))))
      have HD := Lib.hid (And.intro hs0 (And.intro hc (And.intro x0 (And.intro x1 x2))))
      clear g5 ch5 hok1 hcn1 hnF hBs h1 h2 h3 hs0 hc hd hkeep c5 hnF0 b0 hS5 hS1 hd0 x0 x2
      go_wp2
      go_loopw [8] (fun j wr => ∃ k : Nat, k ≤ m ∧ j = .int .i64 ((a + k : Nat) : Int) ∧ D wr p sb cap mb cv (S1.calm a (a + k)) ∧ CV wr (fun b => F1 b ∧ b ≠ p ∧ b ≠ sb ∧ b ≠ mb) cv S1.ch ∧ Ch F1 w5 wr ∧
        wr.cell? ⟨B, 0, none⟩ = some (.pointer (some ⟨p, 0, none⟩)) ∧ wr.cell? ⟨B + 1, 0, none⟩ = some (.int .i64 (a : Int)) ∧ wr.cell? ⟨B + 1 + 1, 0, none⟩ = some (.int .i64 (m : Int))) (fun j _ => a + m - (intOf j).toNat)
      case atStart => exact ⟨0, Nat.zero_le _, rfl, HD.out.1, HD.out.2.1, Ch.refl _ _, HD.out.2.2.1, HD.out.2.2.2.1, HD.out.2.2.2.2⟩
      case round =>
        obtain ⟨k, hk, rfl, hd, hc, hch, x0, x1, x2⟩ := hrel
        have hQ := HQ.out
        have hhi := HOK.out.2.2
        have ew : wrap64 ((a : Int) + (m : Int)) = (a : Int) + (m : Int) := by unfold wrap64; omega
        by_cases hlt : k < m
        · obtain ⟨j, hj⟩ : ∃ j, j = a + k := ⟨_, rfl⟩
          have hok1 := HX.out.2.2.1
          have hcn := HX.out.2.2.2.1
          have hjc : j < S1.count := by omega
          have hcc : (S1.calm a (a + k)).count = S1.count := S1.calm_count hok1 _ _
          have hcl : (S1.calm a (a + k)).safe.length = 128 * S1.count := S1.calm_len hok1 _ _
          rw [← hj] at hd hcc hcl ⊢
          obtain ⟨c0, c1, c2, c3, c4, hfr⟩ := hd.cells
          have hlk := (hd.map.of_heap (w' := wr.drew) rfl).look (by rw [hcc]; omega) (i := j) (by rw [hcc]; exact hjc)
          have hlk1 := hlk.1
          rw [calm_at] at hlk1
          have hs128 : ((S1.wr j).getD []).length ≤ 128 := by
            cases hw : S1.wr j with
            | none => simp
            | some s => have := (hok1.wr j s hw).2; simp; omega
          obtain ⟨t, ht⟩ : ∃ t, t = (S1.wr j).getD [] := ⟨_, rfl⟩
          rw [← ht] at hlk1 hs128
          have hrl := hd.row.le
          obtain ⟨cs, hcp, hrow2⟩ := RowB.copy (w := wr.drew) hd.row (128 * j) ((S1.calm a j).safe.length - 128 * j) (cap - 128 * j) (ofL t) 3 (by rw [ofL_size]; omega) (by rw [ofL_size]; omega)
          rw [ofL_list] at hrow2
          obtain ⟨w6, hw6⟩ : ∃ w6, w6 = wr.drew.setRow sb cs := ⟨_, rfl⟩
          have hps := hd.ne
          have hpm := hd.nm
          have hsF : F1 sb := HX.out.2.2.2.2.2.2.2.1
          have hnF := HX.out.2.2.2.2.1
          have hBsz := HX.out.2.2.2.2.2.1
          have hB0 : sb ≠ B := fun e => hnF B (Nat.le_refl _) (by omega) (by rw [← e]; exact hsF)
          have hB1 : sb ≠ B + 1 := fun e => hnF (B + 1) (by omega) (by omega) (by rw [← e]; exact hsF)
          have hB2 : sb ≠ B + 1 + 1 := fun e => hnF (B + 1 + 1) (by omega) (by omega) (by rw [← e]; exact hsF)
          have hset : ∀ (b : Nat) (v : Value), sb ≠ b → (∀ off, wr.cell? ⟨b, off, none⟩ = some v → w6.cell? ⟨b, off, none⟩ = some v) := fun b v hne off hv => by
            rw [hw6, ← hv]; simp only [World.cell?, setRow_other wr.drew sb b cs (fun e => hne e.symm)]; rfl
          have y0 := hset B _ hB0 0 x0
          have y1 := hset (B + 1) _ hB1 0 x1
          have y2 := hset (B + 1 + 1) _ hB2 0 x2
          have yc := hset p _ (fun e => hps e.symm) 1 c1
          have hm6 : MapA w6 mb (S1.calm a j).count (S1.calm a j).wr := hd.map.of_heap (by rw [hw6, setRow_other _ _ _ _ (fun e => hpm.2 e.symm)]; rfl)
          obtain ⟨w7, hdel, hm7, hg7, hs7⟩ := hm6.drop (by rw [hcc]; omega) (i := j) (by rw [hcc]; exact hjc) 0
          have hp6 : w6.heap[p]? = wr.heap[p]? := by rw [hw6, setRow_other _ _ _ _ hps]; rfl
          rw [← hw6] at hcp hrow2
          rw [ht] at hrow2
          have hd7 := calm_D hok1 (by omega : a ≤ j) hjc hd hrow2 hp6 hm7 hg7
          have hmi := hm6.is_map
          have z0 := cell_grown y0 hmi hg7
          have z1 := cell_grown y1 hmi hg7
          have z2 := cell_grown y2 hmi hg7
          have hch7 : Ch F1 w5 w7 := by
            refine Ch.grown (w' := w6) ?_ hg7 (fun q hq => by cases hq; exact .inl HX.out.2.2.2.2.2.2.2.2)
            rw [hw6]; exact (Ch.drew hch).setRow hsF cs
          have hc7 : CV w7 (fun b => F1 b ∧ b ≠ p ∧ b ≠ sb ∧ b ≠ mb) cv S1.ch := by
            have e6 : CV w6 (fun b => F1 b ∧ b ≠ p ∧ b ≠ sb ∧ b ≠ mb) cv S1.ch := CV.of_heap (w := wr) hc (by rw [hw6, setRow_size]; exact Nat.le_refl _) (fun q hq hG => by rw [hw6, setRow_other _ _ _ _ hG.2.2.1]; rfl)
            exact e6.of_heap hg7.size fun q hq hG => hg7.block q hq (fun e => hG.2.2.2 (Option.some.inj e))
          have HZ := Lib.hid (And.intro hd7 (And.intro hc7 (And.intro hch7 (And.intro z0 (And.intro z1 (And.intro z2 hj))))))
          obtain ⟨o, hod⟩ : ∃ o, o = 128 * j := ⟨_, rfl⟩
          obtain ⟨N, hN⟩ : ∃ N, N = (S1.calm a j).safe.length := ⟨_, rfl⟩
          rw [← hN, ← hod] at hcp
          rw [← hN] at c0
          have hx : (j : Int) * 128 = (o : Int) := by omega
          have hwo : IntKind.i64.wrap (o : Int) = (o : Int) := by rw [IntKind.wrap_i64]; omega
          have ho1 : o ≤ N := by omega
          have ho2 : ¬ cap = o := by omega
          have hjm : (j : Int) < (a : Int) + (m : Int) := by omega
          have ew1 : wrap64 ((j : Int) + 1) = ((j + 1 : Nat) : Int) := by unfold wrap64; omega
          have HN := Lib.hid (And.intro hN (And.intro hod hlt))
          clear hd hc hch hok1 hcn hjc hcc hcl hlk hs128 ht hrl hrow2 hps hpm hsF hnF hBsz hB0 hB1 hB2 hset y1 y2 hm6 hm7 hg7 hs7 hp6 hd7 hmi z0 z1 z2 hch7 hc7 hod hN hQ hhi hj hk c2 c3 c4 hfr hlt hB5 hb4
          have HD6 := Lib.hid (And.intro hdel (And.intro y0 yc))
          have HW6 := Lib.hid hw6
          clear hw6 hdel y0 yc
          go_wp2
          go_still_tail 13, (by kernel_rfl)
          (try refine wpStill_nil ?_)
          change wpList _ _ _ _ _ wr.drew
          refine Lib.wpList_copy_run wr.drew rfl _ _ 30 9 rfl _ _ rfl rfl hcp ?_
          go_frame
          have hdel := HD6.out.1
          have y0 := HD6.out.2.1
          have yc := HD6.out.2.2
          clear hcp x0 x1 x2 c0 c1 hlk1
          go_wp2_with (at_builtin; refine wpList_delete_run rfl _ _ 89 3 rfl _ _ _ _ rfl rfl hdel ?_)
          obtain ⟨hd7, hc7, hch7, z0, z1, z2, hj⟩ := HZ.out
          have hlt := HN.out.2.2
          rw [show j + 1 = a + (k + 1) by omega] at hd7
          exact ⟨⟨k + 1, by omega, by rw [ew1]; congr 2; omega, hd7, hc7, hch7, z0, z1, z2⟩, by rw [ew1]; simp only [intOf]; omega⟩
        · have hkm : k = m := by omega
          subst hkm
          have hj : ¬ ((a + k : Nat) : Int) < (a : Int) + (k : Int) := by omega
          have HZ := Lib.hid (And.intro hd (And.intro hc hch))
          clear hd hc hch hQ hhi hk hlt
          go_wp2
          go_ret
          refine ⟨rfl, To.after_below HB4.out.1 (To.trans HX.out.1 HX.out.2.1 ⟨F1, ⟨sb, cap, mb, cv, HZ.out.1, HZ.out.2.1, HX.out.2.2.2.2.2.2.1, HX.out.2.2.2.2.2.2.2.1, HX.out.2.2.2.2.2.2.2.2⟩, Gr.refl _ _ _, HZ.out.2.2⟩)⟩
    · rw [if_neg hd0]
      obtain ⟨⟨RS, r2⟩, hR⟩ : ∃ R, R = S.change := ⟨_, rfl⟩
      rw [← hR] at hd0 ⊢
      go_enter Try.func67, Try.ntmps67
      go_wp2_with (fail)
      rw [← HB.out, ← HW3.out]
      refine HY.out.mono ?_
      rintro e w4 ⟨rfl, hb4⟩
      have hb04 : Below w.heap.size w w4 := HH.out.2.1.trans (hb4.mono HH.out.2.1.size)
      have i4 := HH.out.1.below hb04
      have b0 := cell_below HH.out.2.2.1 hb4
      have b1 := cell_below HH.out.2.2.2.1 hb4
      have b2 := cell_below HH.out.2.2.2.2.1 hb4
      have kc := change_any F p S w4 i4
      rw [← hR] at kc
      have HKC := Lib.hid kc
      have HB4 := Lib.hid (And.intro hb04 (And.intro i4 (And.intro hb4 (And.intro b1 b2))))
      have HOK := Lib.hid (And.intro hok2 (And.intro hch2 hch4))
      clear hR hb04 i4 b1 b2 kc hok2 hch2 hch4 hamc
      go_wp2_with (fail)
      refine HKC.out.mono ?_
      rintro e w5 ⟨rfl, F1, i5, g5, ch5⟩
      have hd1 : ¬ r2 = 0 := hd0
      clear hd0
      go_wp2
      go_ret
      exact ⟨rfl, To.after_below HB4.out.1 ⟨F1, i5, g5, ch5⟩⟩
  · have ewr : S.flush f n = (S, r) := by
      unfold St.flush
      have hrr := HR.out
      split
      · rename_i q; rw [if_pos q] at hrr; rw [hrr]
      · rename_i q; rw [if_neg q] at hrr
        split
        · rename_i q; rw [if_pos q] at hrr; rw [hrr]
        · rename_i q; rw [if_neg q] at hrr; exact absurd hrr hz
    rw [ewr]
    go_enter Try.func67, Try.ntmps67
    go_wp2_with (fail)
    rw [← HB.out, ← HW3.out]
    refine HY.out.mono ?_
    rintro e w4 ⟨rfl, hb4⟩
    clear hf hn
    go_wp2
    go_ret
    exact ⟨rfl, To.of_below HH.out.1 (HH.out.2.1.trans (hb4.mono HH.out.2.1.size))⟩
end Go.Proofs.Ytnecbbflcpngcaa
