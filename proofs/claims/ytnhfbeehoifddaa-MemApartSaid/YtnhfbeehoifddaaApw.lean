/- Through tables whose frames are apart: what the law's call returns. Conditions: numbers that a machine holds. -/
import Derived.Test.YtnhfbeehoifddaaShr
import Derived.Deep.RegionHeld3
namespace Go.Proofs.Ytnhfbeehoifddaa
open Go.RowKit Go.Maps
set_option linter.unusedVariables false

/-- three memories: the one at work, its twin, and as it was -/
structure M3 where
  p : Nat
  g : Nat
  c : Nat
  p2 : Nat
  g2 : Nat
  c2 : Nat
  p3 : Nat
  g3 : Nat
  c3 : Nat
structure M3.ok (m : M3) (b : Nat) : Prop where
  h0 : b ≤ m.p ∧ b ≤ m.g
  h1 : m.p < m.p2 ∧ m.p < m.g2 ∧ m.g < m.p2 ∧ m.g < m.g2
  h2 : m.p < m.p3 ∧ m.p < m.g3 ∧ m.g < m.p3 ∧ m.g < m.g3
  h3 : m.p2 < m.p3 ∧ m.p2 < m.g3 ∧ m.g2 < m.p3 ∧ m.g2 < m.g3
structure TB (w : World) (m : M3) (F : Nat) (ps qs : List Pg) (Bm Bt Bw : Bts) (W : World) : Prop where
  im : IsM W m.p m.g m.c F Bm
  it : IsM W m.p2 m.g2 m.c2 F Bt
  iw : IsM W m.p3 m.g3 m.c3 F Bw
  a1 : agree ps Bm Bt
  a2 : agree qs Bm Bw
  b : Below w.heap.size w W
theorem TB.below {w : World} {m : M3} {F : Nat} {ps qs : List Pg} {Bm Bt Bw : Bts} {W W' : World} (h : TB w m F ps qs Bm Bt Bw W) (hb : Below W.heap.size W W') : TB w m F ps qs Bm Bt Bw W' :=
  ⟨h.im.below hb, h.it.below hb, h.iw.below hb, h.a1, h.a2, h.b.trans (hb.mono h.b.size)⟩
theorem TB.drew {w : World} {m : M3} {F : Nat} {ps qs : List Pg} {Bm Bt Bw : Bts} {W : World} (h : TB w m F ps qs Bm Bt Bw W) : TB w m F ps qs Bm Bt Bw W.drew := h.below ⟨rfl, rfl, rfl, Nat.le_refl _, fun _ _ => rfl⟩
/-- both memories have taken the same -/
theorem TB.both {w : World} {m : M3} {F : Nat} {ps qs : List Pg} {Bm Bt Bw Bm' Bt' : Bts} {W W1 W2 : World} (h : TB w m F ps qs Bm Bt Bw W) (ok : m.ok w.heap.size) (m1 : IsM W1 m.p m.g m.c F Bm') (c1 : Ch (onB m.g) W W1) (t2 : IsM W2 m.p2 m.g2 m.c2 F Bt') (c2 : Ch (onB m.g2) W1 W2) (a1 : agree ps Bm' Bt') (a2 : agree qs Bm' Bw) : TB w m F ps qs Bm' Bt' Bw W2 := by
  obtain ⟨k0, k1, k2, k3⟩ := ok
  have b1 : Below w.heap.size w W1 := below_ch h.b c1 h.b.size k0.2
  exact ⟨m1.ch c2 (by omega) (by omega), t2, (h.iw.ch c1 (by omega) (by omega)).ch c2 (by omega) (by omega), a1, a2, below_ch b1 c2 b1.size (by omega)⟩
set_option maxRecDepth 20000 in
set_option maxHeartbeats 4000000 in
theorem apart_any (many : Int) (va vb vc : Value) (ps qs : List Pg) (l : List Opr) (s : ByteArray) (w : World) (hm : In64 many) (hps : PgOk w va ps) (hqs : PgOk w vb qs) (hl : Script w vc l) (hs : s.size ≤ 140737488351232) :
    Calls Try.prog 4 #[.agg #[.int .i64 many, va, vb, vc, .string s]] w fun e w' => e = .returned (.bool true) ∧ Below w.heap.size w w' := by
  obtain ⟨q, np, cap0, rfl⟩ : ∃ q n cap, va = .slice q n cap := by obtain ⟨q, cap, e, _⟩ := hps.1; exact ⟨_, _, _, e⟩
  obtain ⟨q2, nq2, cap2, rfl⟩ : ∃ q n cap, vb = .slice q n cap := by obtain ⟨q, cap, e, _⟩ := hqs.1; exact ⟨_, _, _, e⟩
  obtain ⟨q3, nl, cap3, rfl⟩ : ∃ q n cap, vc = .slice q n cap := by obtain ⟨q, cap, e, _⟩ := hl; exact ⟨_, _, _, e⟩
  obtain ⟨wa, hwa⟩ : ∃ wa, wa = w.alloc (.cells #[.int .i64 many, .slice q np cap0, .slice q2 nq2 cap2, .slice q3 nl cap3, .string s] 50) := ⟨_, rfl⟩
  have ba : Below w.heap.size w wa := by rw [hwa]; exact (Below.refl _ w).alloc (Nat.le_refl _) _
  have cb : wa.heap[w.heap.size]? = some (.cells #[.int .i64 many, .slice q np cap0, .slice q2 nq2 cap2, .slice q3 nl cap3, .string s] 50 (0, 0)) := by rw [hwa]; exact block_new _ _
  have c0 : wa.cell? ⟨w.heap.size, 0, none⟩ = some (.int .i64 many) := by rw [cell_of_row _ _ _ _ _ _ cb]; rfl
  have c1 : wa.cell? ⟨w.heap.size, 1, none⟩ = some (.slice q np cap0) := by rw [cell_of_row _ _ _ _ _ _ cb]; rfl
  have c2 : wa.cell? ⟨w.heap.size, 2, none⟩ = some (.slice q2 nq2 cap2) := by rw [cell_of_row _ _ _ _ _ _ cb]; rfl
  have c3 : wa.cell? ⟨w.heap.size, 3, none⟩ = some (.slice q3 nl cap3) := by rw [cell_of_row _ _ _ _ _ _ cb]; rfl
  have c4 : wa.cell? ⟨w.heap.size, 4, none⟩ = some (.string s) := by rw [cell_of_row _ _ _ _ _ _ cb]; rfl
  have kf := fixed_any
  have HA := Lib.hid (And.intro hps (And.intro hqs (And.intro hl (And.intro hwa ba))))
  rw [hwa] at c0 c1 c2 c3 c4
  clear hps hqs hl cb ba hwa
  go_enter Try.func4, Try.ntmps4
  go_wp2
  go_quiet (fail)
  rw [← HA.out.2.2.2.1]
  obtain ⟨wd, hwd⟩ : ∃ wd, wd = wa.drewN nq := ⟨_, rfl⟩
  have bd : Below w.heap.size w wd := by rw [hwd]; exact below_drewN HA.out.2.2.2.2 nq
  rw [← hwd]
  have HD := Lib.hid bd
  clear bd c0 c1 c2 c3 c4 hwd
  by_cases h1 : 1 ≤ many ∧ many ≤ 160
  · obtain ⟨F, rfl⟩ : ∃ F : Nat, many = (F : Int) := ⟨many.toNat, by omega⟩
    have kn := new_any F wd (by omega)
    have HM := Lib.hid h1
    clear h1
    go_wp2_with (fail)
    refine kn.mono ?_
    rintro e v1 ⟨p, rfl, g, cap, a1, b1, hp, hg⟩
    have HN := Lib.hid (And.intro a1 (And.intro b1 (And.intro hp hg)))
    clear a1 b1 hp hg kn
    go_wp2_with (fail)
    refine (kf v1).mono ?_
    rintro e v2 ⟨rfl, b2⟩
    obtain ⟨a1, b1, hp, hg⟩ := HN.out
    have a2 := a1.below b2
    have g1 : Below w.heap.size w v2 := HD.out.trans ((b1.trans (b2.mono b1.size)).mono HD.out.size)
    have hg' : w.heap.size ≤ g ∧ w.heap.size ≤ p := by have := HD.out.size; omega
    have kc1 := check_any p g cap F _ v2 a2 _ _ ps (HA.out.1.1.below g1)
    have HS := Lib.hid (And.intro a2 (And.intro g1 hg'))
    clear a1 b1 hp hg a2 g1 b2 hg' kf
    by_cases z1 : chk F ps = 0
    · rw [z1] at kc1
      go_wp2_with (fail)
      refine kc1.mono ?_
      rintro e v3 ⟨rfl, b3⟩
      have a3 := HS.out.1.below b3
      have g3 : Below w.heap.size w v3 := HS.out.2.1.trans (b3.mono HS.out.2.1.size)
      have kc2 := check_any p g cap F _ v3 a3 _ _ qs (HA.out.2.1.1.below g3)
      have H3 := Lib.hid (And.intro a3 g3)
      clear a3 g3 b3 kc1
      by_cases z2 : chk F qs = 0
      · rw [z2] at kc2
        go_wp2_with (fail)
        refine kc2.mono ?_
        rintro e v4 ⟨rfl, b4⟩
        have a4 := H3.out.1.below b4
        have g4 : Below w.heap.size w v4 := H3.out.2.trans (b4.mono H3.out.2.size)
        have kc3 := shares_any _ _ _ _ ps qs v4 (HA.out.1.1.below g4) (HA.out.2.1.1.below g4) (chk_mem z1).1 (chk_mem z2).1
        have H4 := Lib.hid (And.intro a4 g4)
        clear a4 g4 b4 kc2
        go_wp2_with (fail)
        refine kc3.mono ?_
        rintro e v5 ⟨d, rfl, hap, b5⟩
        have a5 := H4.out.1.below b5
        have g5 : Below w.heap.size w v5 := H4.out.2.trans (b5.mono H4.out.2.size)
        cases d with
        | true =>
          go_wp2
          go_ret
          exact ⟨rfl, g5⟩
        | false =>
          have hap := hap rfl
          have kcl := clone_any p g cap F _ v5 a5
          have H5 := Lib.hid (And.intro a5 (And.intro g5 hap))
          clear a5 g5 hap b5 kc3
          go_wp2_with (fail)
          refine kcl.mono ?_
          rintro e v6 ⟨p2, rfl, g2, cp2, i6, b6, hp2, hg2⟩
          have lt5 := H5.out.1.lt
          have H6 := Lib.hid (And.intro (H5.out.1.below b6) (And.intro i6 (And.intro (H5.out.2.1.trans (b6.mono H5.out.2.1.size)) (And.intro (show p < p2 ∧ p < g2 ∧ g < p2 ∧ g < g2 by omega) (H5.out.2.2)))))
          clear i6 b6 hp2 hg2 lt5 kcl
          obtain ⟨N, hN⟩ : ∃ N, N = qs.length := ⟨_, rfl⟩
          obtain rfl : nq2 = N := by obtain ⟨q, cap, e, _⟩ := HA.out.2.1.1; injection e with _ e2; rw [e2, hN]
          have hN16 : nq2 ≤ 16 := by rw [hN]; exact (chk_mem z2).1
          have HNN := Lib.hid hN
          have HZ := Lib.hid (And.intro z1 z2)
          clear hN z1 z2
          go_wp2
          go_loopw [11] (fun i wr => ∃ k : Nat, k ≤ nq2 ∧ i = .int .i64 (k : Int) ∧ ∃ Bt, IsM wr p g cap F (nb (256 * F)) ∧ IsM wr p2 g2 cp2 F Bt ∧ agree ps (nb (256 * F)) Bt ∧ Below w.heap.size w wr) (fun i _ => nq2 - (intOf i).toNat)
          case atStart => exact ⟨0, Nat.zero_le _, rfl, _, H6.out.1, H6.out.2.1, agree.refl _ _, H6.out.2.2.1⟩
          case round =>
            obtain ⟨k, hk, rfl, Bt, i1, i2, ag, bw⟩ := hrel
            by_cases a0 : k < nq2
            · obtain ⟨b, o, e1, c1, _⟩ := tab_cells (HA.out.2.1.1.below bw) (k := k) (by rw [← HNN.out]; exact a0)
              subst e1
              obtain ⟨f, hf⟩ : ∃ f, f = (qs.getD k (0, 0)).1 := ⟨_, rfl⟩
              rw [← hf] at c1
              have HF := Lib.hid (And.intro hf (And.intro i1 (And.intro i2 (And.intro ag bw))))
              by_cases f0 : 0 ≤ f
              · have kl := lay_any p2 g2 cp2 F Bt wr i2 f 0 s (by omega)
                generalize layE F f 0 s.size = le at kl
                clear hf i1 i2 ag bw
                go_wp2_with (go_at_call 25; refine kl.mono ?_; rintro e w4 ⟨rfl, j1, j2⟩)
                obtain ⟨hf, i1, i2, ag, bw⟩ := HF.out
                obtain ⟨_, _, _, ⟨d1, d2, d3, d4⟩, hap⟩ := H6.out
                have hmem : (qs.getD k (0, 0)) ∈ qs := by
                  have hlt : k < qs.length := by rw [← HNN.out]; exact a0
                  rw [List.getD_eq_getElem?_getD, List.getElem?_eq_getElem hlt]; exact List.getElem_mem hlt
                refine ⟨⟨k + 1, a0, rfl, _, i1.ch j2 (by omega) (by omega), j1, keep_lay HZ.out.1 i2.len ag f ⟨f0, fun x hx hx0 => ?_⟩ _, below_ch bw j2 bw.size (by have := HS.out.2.2; omega)⟩, ?_⟩
                · rw [hf]; exact hap x hx _ hmem hx0
                · have z := a0
                  simp [intOf]; omega
              · clear hf i1 i2 ag bw
                go_wp2
                obtain ⟨hf, i1, i2, ag, bw⟩ := HF.out
                refine ⟨⟨k + 1, a0, rfl, Bt, i1, i2, ag, bw⟩, ?_⟩
                have z := a0
                simp [intOf]; omega
            · obtain rfl : k = nq2 := by omega
              have kcl := clone_any p g cap F _ wr i1
              have HI := Lib.hid (And.intro i1 (And.intro i2 (And.intro ag bw)))
              clear i1 i2 ag bw
              go_wp2_with (fail)
              refine kcl.mono ?_
              rintro e u0 ⟨p3, rfl, g3, cp3, i6, b6, hp3, hg3⟩
              obtain ⟨mm, hmm⟩ : ∃ mm : M3, mm = ⟨p, g, cap, p2, g2, cp2, p3, g3, cp3⟩ := ⟨_, rfl⟩
              have hok : mm.ok w.heap.size := by
                obtain ⟨_, _, _, ⟨d1, d2, d3, d4⟩, hap⟩ := H6.out
                have l1 := HI.out.1.lt
                have l2 := HI.out.2.1.lt
                have := HS.out.2.2
                rw [hmm]
                exact ⟨by show w.heap.size ≤ p ∧ w.heap.size ≤ g; omega, by show p < p2 ∧ p < g2 ∧ g < p2 ∧ g < g2; omega, by show p < p3 ∧ p < g3 ∧ g < p3 ∧ g < g3; omega, by show p2 < p3 ∧ p2 < g3 ∧ g2 < p3 ∧ g2 < g3; omega⟩
              have hTB : TB w mm F ps qs (nb (256 * F)) Bt (nb (256 * F)) u0 := by
                rw [hmm]
                exact ⟨HI.out.1.below b6, HI.out.2.1.below b6, i6, HI.out.2.2.1, agree.refl _ _, HI.out.2.2.2.trans (b6.mono HI.out.2.2.2.size)⟩
              obtain ⟨Bw, hBw⟩ : ∃ Bw, Bw = nb (256 * F) := ⟨_, rfl⟩
              rw [← hBw] at hTB
              have HK := Lib.hid (And.intro hok (And.intro hTB hmm))
              obtain ⟨NL, hNL⟩ : ∃ N, N = l.length := ⟨_, rfl⟩
              obtain rfl : nl = NL := by obtain ⟨q, cap, e, _⟩ := HA.out.2.2.1; injection e with _ e2; rw [e2, hNL]
              have hNL2 : nl ≤ 17592186044416 := by rw [hNL]; obtain ⟨_, _, _, _, h, _⟩ := HA.out.2.2.1; exact h
              have HNL := Lib.hid hNL
              clear hok hTB hmm hNL i6 b6 hp3 hg3 kcl hBw
              go_wp2
              go_loopw [13] (fun i wv => ∃ k : Nat, k ≤ nl ∧ i = .int .i64 (k : Int) ∧ ∃ Bm Bt, TB w mm F ps qs Bm Bt Bw wv) (fun i _ => nl - (intOf i).toNat)
              case atStart => exact ⟨0, Nat.zero_le _, rfl, _, _, HK.out.2.1⟩
              case round =>
                obtain ⟨j, hj, rfl, Bm, Bt', htb⟩ := hrel
                by_cases a1 : j < nl
                · obtain ⟨q', cap', e1, _, _, hscr⟩ := HA.out.2.2.1.below htb.b
                  have hjl : j < l.length := by rw [← HNL.out]; exact a1
                  obtain ⟨ook, b3, o3, hq3, hlt3, hcells⟩ := hscr j hjl
                  injection e1 with e1 e2 e3
                  rw [← e1] at hq3
                  subst hq3
                  subst e3
                  clear e2
                  obtain ⟨o, hoe⟩ : ∃ o, o = l[j] := ⟨_, rfl⟩
                  rw [← hoe] at ook hcells
                  clear hoe
                  obtain ⟨on, kd, oa, ob, oc, os⟩ := o
                  obtain ⟨_, _, hoa, hob, hoc, hos⟩ := ook
                  have d0 := hcells 0 _ rfl
                  have d1 := hcells 1 _ rfl
                  have d2 := hcells 2 _ rfl
                  have d3 := hcells 3 _ rfl
                  have d4 := hcells 4 _ rfl
                  have d5 := hcells 5 _ rfl
                  rw [Nat.add_zero] at d0
                  change _ = Option.some (Value.int .i64 on) at d0
                  change _ = Option.some (Value.int .i64 kd) at d1
                  change _ = Option.some (Value.int .i64 oa) at d2
                  change _ = Option.some (Value.int .i64 ob) at d3
                  change _ = Option.some (Value.int .i64 oc) at d4
                  change _ = Option.some (Value.string os) at d5
                  dsimp only at hoa hob hoc hos
                  obtain ⟨w1, hw1⟩ : ∃ w1, w1 = wr.alloc (.cells #[.int .i64 on, .int .i64 kd, .int .i64 oa, .int .i64 ob, .int .i64 oc, .string os] 35) := ⟨_, rfl⟩
                  have bw1 : Below wr.heap.size wr w1 := by rw [hw1]; exact (Below.refl _ wr).alloc (Nat.le_refl _) _
                  have cbo : w1.heap[wr.heap.size]? = some (.cells #[.int .i64 on, .int .i64 kd, .int .i64 oa, .int .i64 ob, .int .i64 oc, .string os] 35 (0, 0)) := by rw [hw1]; exact block_new _ _
                  have tb1 := htb.below bw1
                  obtain ⟨X, hX⟩ : ∃ X, X = wr.heap.size := ⟨_, rfl⟩
                  have hXl : w.heap.size ≤ X ∧ X ≠ g ∧ X ≠ g2 := by
                    have l1 := htb.im.lt
                    have l2 := htb.it.lt
                    rw [HK.out.2.2] at l1 l2
                    have l3 := htb.b.size
                    dsimp only at l1 l2
                    omega
                  rw [← hX] at cbo
                  have HCB : Hid (∀ W : World, (∀ kk, kk = X → W.heap[kk]? = w1.heap[kk]?) → W.cell? ⟨X, 2, none⟩ = some (.int .i64 oa) ∧ W.cell? ⟨X, 3, none⟩ = some (.int .i64 ob) ∧ W.cell? ⟨X, 4, none⟩ = some (.int .i64 oc) ∧ W.cell? ⟨X, 5, none⟩ = some (.string os)) := fun W hW => by
                    have cb2 := (hW X rfl).trans cbo
                    exact ⟨by rw [cell_of_row _ _ _ _ _ _ cb2]; rfl, by rw [cell_of_row _ _ _ _ _ _ cb2]; rfl, by rw [cell_of_row _ _ _ _ _ _ cb2]; rfl, by rw [cell_of_row _ _ _ _ _ _ cb2]; rfl⟩
                  have hX1 : X < w1.heap.size := block_lt cbo
                  have HT := Lib.hid (And.intro tb1 (And.intro hX (And.intro hw1 (And.intro hXl hX1))))
                  have HO := Lib.hid (And.intro hoa (And.intro hob (And.intro hoc hos)))
                  clear htb hscr hcells hoa hob hoc hos bw1 cbo tb1 hXl hX1 e1 hlt3 hX hw1 hjl
                  by_cases k0 : kd = 0
                  · subst k0
                    obtain ⟨tb1, hX, hw1, hXl, hX1⟩ := HT.out
                    have kr := read_any p g cap F Bm w1 (by have := tb1.im; rw [HK.out.2.2] at this; exact this) _ _ ps (HA.out.1.1.below tb1.b) oa ob oc HO.out.1
                    rw [hw1] at kr
                    clear tb1 hX hw1 hXl hX1
                    go_wp2_with (fail)
                    refine kr.mono ?_
                    rintro e u1 ⟨rfl, b1⟩
                    obtain ⟨tb1, hX, hw1, hXl, hX1⟩ := HT.out
                    rw [← hw1] at b1
                    have tb2 := tb1.below b1
                    obtain ⟨y2, y3, y4, y5⟩ := HCB.out u1 (fun kk hk => b1.block kk (by omega))
                    rw [hX] at y2 y3 y4 y5
                    have kr2 := read_any p2 g2 cp2 F Bt' u1 (by have := tb2.it; rw [HK.out.2.2] at this; exact this) _ _ ps (HA.out.1.1.below tb2.b) oa ob oc HO.out.1
                    rw [← agree_read (F := F) tb2.a1 oa ob oc] at kr2
                    have H2 := Lib.hid tb2
                    clear tb1 hX hw1 hXl hX1 tb2 b1 kr
                    go_wp2_with (fail)
                    refine kr2.mono ?_
                    rintro e u2 ⟨rfl, b2⟩
                    have tb3 := H2.out.below b2
                    clear kr2 b2
                    have HF3 := Lib.hid tb3
                    clear tb3
                    go_wp2
                    refine ⟨⟨j + 1, a1, rfl, Bm, Bt', HF3.out⟩, ?_⟩
                    have z := a1
                    simp [intOf]; omega
                  have k0' : (kd == 0) = false := by simpa using k0
                  by_cases k1 : kd = 1
                  · subst k1
                    clear k0 k0'
                    obtain ⟨E, hE⟩ : ∃ E, E = writeE F ps oa os.size := ⟨_, rfl⟩
                    have kk : Calls Try.prog 27 #[.pointer (some ⟨p, 0, none⟩), .slice q np cap0, .int .i64 oa, .string os] w1.drew fun e u1 => e = .returned (.int .i64 E) ∧ (u1.cell? ⟨X, 2, none⟩ = some (.int .i64 oa) ∧ u1.cell? ⟨X, 5, none⟩ = some (.string os)) ∧
                        Calls Try.prog 27 #[.pointer (some ⟨p2, 0, none⟩), .slice q np cap0, .int .i64 oa, .string os] u1 fun e u2 => e = .returned (.int .i64 E) ∧ (u2.cell? ⟨X, 2, none⟩ = some (.int .i64 oa) ∧ u2.cell? ⟨X, 5, none⟩ = some (.string os)) ∧ Hid (TB w mm F ps qs (writeB F ps Bm oa os.data.toList) (writeB F ps Bt' oa os.data.toList) Bw u2) := by
                      obtain ⟨tb0, hX, hw1, hXl, hX1⟩ := HT.out
                      have tb1 := tb0.drew
                      obtain ⟨k0, k1, k2, k3⟩ := HK.out.1
                      rw [HK.out.2.2] at k0 k1 k2 k3
                      dsimp only at k0 k1 k2 k3
                      refine (write_any p g cap F Bm w1.drew (by have := tb1.im; rw [HK.out.2.2] at this; exact this) (fun b => b < w.heap.size) (by omega) _ ps (HA.out.1.1.below tb1.b) oa os HO.out.1 (by have := HO.out.2.2.2; omega)).mono ?_
                      rintro e u1 ⟨he, m1, c1⟩
                      have y1 := HCB.out u1 (fun kk hk => c1.block kk (by show kk < w1.heap.size; omega) (by show ¬ kk = g; omega))
                      refine ⟨by rw [he, hE], ⟨y1.1, y1.2.2.2⟩, ?_⟩
                      have t1 : IsM u1 p2 g2 cp2 F Bt' := by have := tb1.it; rw [HK.out.2.2] at this; exact this.ch c1 (by dsimp only; omega) (by dsimp only; omega)
                      have bw1 : Below w.heap.size w u1 := below_ch tb1.b c1 tb1.b.size (by omega)
                      refine (write_any p2 g2 cp2 F Bt' u1 t1 (fun b => b < w.heap.size) (by omega) _ ps (HA.out.1.1.below bw1) oa os HO.out.1 (by have := HO.out.2.2.2; omega)).mono ?_
                      rintro e u2 ⟨he, t2, c2⟩
                      have y2 := HCB.out u2 (fun kk hk => (c2.block kk (by have := c1.size; have : w1.drew.heap.size = w1.heap.size := rfl; omega) (by show ¬ kk = g2; omega)).trans (c1.block kk (by show kk < w1.heap.size; omega) (by show ¬ kk = g; omega)))
                      refine ⟨by rw [he, hE], ⟨y2.1, y2.2.2.2⟩, ?_⟩
                      refine tb1.both HK.out.1 (W1 := u1) (W2 := u2) ?_ ?_ ?_ ?_ (agree_write tb1.a1 ps oa os.data.toList) (keep_write HZ.out.1 HZ.out.2 H5.out.2.2 tb1.a2 oa os.data.toList)
                      · rw [HK.out.2.2]; exact m1
                      · rw [HK.out.2.2]; exact c1
                      · rw [HK.out.2.2]; exact t2
                      · rw [HK.out.2.2]; exact c2
                    obtain ⟨tb1, hX, hw1, hXl, hX1⟩ := HT.out
                    have y0 := HCB.out w1.drew (fun kk _ => rfl)
                    have hS0 : (w1.drew.cell? ⟨X, 2, none⟩ = some (.int .i64 oa) ∧ w1.drew.cell? ⟨X, 5, none⟩ = some (.string os)) := ⟨y0.1, y0.2.2.2⟩
                    have HE := Lib.hid hE
                    have HXX := Lib.hid hX
                    clear tb1 hXl hX1 y0 hE
                    go_wp2
                    rw [← hw1, ← hX]
                    clear hw1 hX
                    go_region_held3 (fun w' => (w'.cell? ⟨X, 2, none⟩ = some (.int .i64 oa) ∧ w'.cell? ⟨X, 5, none⟩ = some (.string os))) (first | exact hS0 | exact hS1 | exact hS2)
                      (first
                        | (go_at_call 27; with_reducible refine kk.mono ?_; rintro e u1 ⟨rfl, hS1, kk2⟩; clear kk)
                        | (go_at_call 27; with_reducible refine kk2.mono ?_; rintro e u2 ⟨rfl, hS2, HTF⟩; clear kk2))
                    clear hS0 hS1 hS2
                    go_wp2
                    refine ⟨⟨j + 1, a1, rfl, _, _, HTF.out⟩, ?_⟩
                    have z := a1
                    simp [intOf]; omega
                  have k1' : (kd == 1) = false := by simpa using k1
                  by_cases k2 : kd = 2
                  · subst k2
                    clear k0 k0' k1 k1'
                    obtain ⟨tb1, hX, hw1, hXl, hX1⟩ := HT.out
                    have kr := load_any p g cap F Bm w1 (by have := tb1.im; rw [HK.out.2.2] at this; exact this) _ _ ps (HA.out.1.1.below tb1.b) oa ob oc HO.out.1
                    rw [hw1] at kr
                    clear tb1 hX hw1 hXl hX1
                    go_wp2_with (fail)
                    refine kr.mono ?_
                    rintro e u1 ⟨rfl, b1⟩
                    obtain ⟨tb1, hX, hw1, hXl, hX1⟩ := HT.out
                    rw [← hw1] at b1
                    have tb2 := tb1.below b1
                    obtain ⟨y2, y3, y4, y5⟩ := HCB.out u1 (fun kk hk => b1.block kk (by omega))
                    rw [hX] at y2 y3 y4 y5
                    have kr2 := load_any p2 g2 cp2 F Bt' u1 (by have := tb2.it; rw [HK.out.2.2] at this; exact this) _ _ ps (HA.out.1.1.below tb2.b) oa ob oc HO.out.1
                    rw [← agree_load (F := F) tb2.a1 oa ob oc] at kr2
                    have H2 := Lib.hid tb2
                    clear tb1 hX hw1 hXl hX1 tb2 b1 kr
                    go_wp2_with (fail)
                    refine kr2.mono ?_
                    rintro e u2 ⟨rfl, b2⟩
                    have tb3 := H2.out.below b2
                    clear kr2 b2
                    have HF3 := Lib.hid tb3
                    clear tb3
                    go_wp2
                    refine ⟨⟨j + 1, a1, rfl, Bm, Bt', HF3.out⟩, ?_⟩
                    have z := a1
                    simp [intOf]; omega
                  have k2' : (kd == 2) = false := by simpa using k2
                  by_cases k3 : kd = 3
                  · subst k3
                    clear k0 k0' k1 k1' k2 k2'
                    obtain ⟨E, hE⟩ : ∃ E, E = storeE F ps oa ob := ⟨_, rfl⟩
                    have kk : Calls Try.prog 29 #[.pointer (some ⟨p, 0, none⟩), .slice q np cap0, .int .i64 oa, .int .i64 ob, .int .i64 oc] w1.drew fun e u1 => e = .returned (.int .i64 E) ∧ (u1.cell? ⟨X, 2, none⟩ = some (.int .i64 oa) ∧ u1.cell? ⟨X, 3, none⟩ = some (.int .i64 ob) ∧ u1.cell? ⟨X, 4, none⟩ = some (.int .i64 oc)) ∧
                        Calls Try.prog 29 #[.pointer (some ⟨p2, 0, none⟩), .slice q np cap0, .int .i64 oa, .int .i64 ob, .int .i64 oc] u1 fun e u2 => e = .returned (.int .i64 E) ∧ (u2.cell? ⟨X, 2, none⟩ = some (.int .i64 oa) ∧ u2.cell? ⟨X, 3, none⟩ = some (.int .i64 ob) ∧ u2.cell? ⟨X, 4, none⟩ = some (.int .i64 oc)) ∧ Hid (TB w mm F ps qs (storeB F ps Bm oa ob oc) (storeB F ps Bt' oa ob oc) Bw u2) := by
                      obtain ⟨tb0, hX, hw1, hXl, hX1⟩ := HT.out
                      have tb1 := tb0.drew
                      obtain ⟨k0, k1, k2, k3⟩ := HK.out.1
                      rw [HK.out.2.2] at k0 k1 k2 k3
                      dsimp only at k0 k1 k2 k3
                      refine (store_any p g cap F Bm w1.drew (by have := tb1.im; rw [HK.out.2.2] at this; exact this) (fun b => b < w.heap.size) (by omega) _ ps (HA.out.1.1.below tb1.b) oa ob oc HO.out.1 HO.out.2.2.1).mono ?_
                      rintro e u1 ⟨he, m1, c1⟩
                      have y1 := HCB.out u1 (fun kk hk => c1.block kk (by show kk < w1.heap.size; omega) (by show ¬ kk = g; omega))
                      refine ⟨by rw [he, hE], ⟨y1.1, y1.2.1, y1.2.2.1⟩, ?_⟩
                      have t1 : IsM u1 p2 g2 cp2 F Bt' := by have := tb1.it; rw [HK.out.2.2] at this; exact this.ch c1 (by dsimp only; omega) (by dsimp only; omega)
                      have bw1 : Below w.heap.size w u1 := below_ch tb1.b c1 tb1.b.size (by omega)
                      refine (store_any p2 g2 cp2 F Bt' u1 t1 (fun b => b < w.heap.size) (by omega) _ ps (HA.out.1.1.below bw1) oa ob oc HO.out.1 HO.out.2.2.1).mono ?_
                      rintro e u2 ⟨he, t2, c2⟩
                      have y2 := HCB.out u2 (fun kk hk => (c2.block kk (by have := c1.size; have : w1.drew.heap.size = w1.heap.size := rfl; omega) (by show ¬ kk = g2; omega)).trans (c1.block kk (by show kk < w1.heap.size; omega) (by show ¬ kk = g; omega)))
                      refine ⟨by rw [he, hE], ⟨y2.1, y2.2.1, y2.2.2.1⟩, ?_⟩
                      refine tb1.both HK.out.1 (W1 := u1) (W2 := u2) ?_ ?_ ?_ ?_ (agree_store tb1.a1 ps oa ob oc) (keep_store HZ.out.1 HZ.out.2 H5.out.2.2 tb1.a2 oa ob oc)
                      · rw [HK.out.2.2]; exact m1
                      · rw [HK.out.2.2]; exact c1
                      · rw [HK.out.2.2]; exact t2
                      · rw [HK.out.2.2]; exact c2
                    obtain ⟨tb1, hX, hw1, hXl, hX1⟩ := HT.out
                    have y0 := HCB.out w1.drew (fun kk _ => rfl)
                    have hS0 : (w1.drew.cell? ⟨X, 2, none⟩ = some (.int .i64 oa) ∧ w1.drew.cell? ⟨X, 3, none⟩ = some (.int .i64 ob) ∧ w1.drew.cell? ⟨X, 4, none⟩ = some (.int .i64 oc)) := ⟨y0.1, y0.2.1, y0.2.2.1⟩
                    have HE := Lib.hid hE
                    have HXX := Lib.hid hX
                    clear tb1 hXl hX1 y0 hE
                    go_wp2
                    rw [← hw1, ← hX]
                    clear hw1 hX
                    go_region_held3 (fun w' => (w'.cell? ⟨X, 2, none⟩ = some (.int .i64 oa) ∧ w'.cell? ⟨X, 3, none⟩ = some (.int .i64 ob) ∧ w'.cell? ⟨X, 4, none⟩ = some (.int .i64 oc))) (first | exact hS0 | exact hS1 | exact hS2)
                      (first
                        | (go_at_call 29; with_reducible refine kk.mono ?_; rintro e u1 ⟨rfl, hS1, kk2⟩; clear kk)
                        | (go_at_call 29; with_reducible refine kk2.mono ?_; rintro e u2 ⟨rfl, hS2, HTF⟩; clear kk2))
                    clear hS0 hS1 hS2
                    go_wp2
                    refine ⟨⟨j + 1, a1, rfl, _, _, HTF.out⟩, ?_⟩
                    have z := a1
                    simp [intOf]; omega
                  have k3' : (kd == 3) = false := by simpa using k3
                  go_wp2
                  obtain ⟨tb1, hX, hw1, hXl, hX1⟩ := HT.out
                  rw [← hw1]
                  refine ⟨⟨j + 1, a1, rfl, Bm, Bt', tb1⟩, ?_⟩
                  have z := a1
                  simp [intOf]; omega
                · obtain rfl : j = nl := by omega
                  have HTB := Lib.hid htb
                  clear htb hap
                  have hk16 : k ≤ 16 := hN16
                  obtain ⟨M, hM⟩ : ∃ M : Int, M = 256 * (k : Int) := ⟨_, rfl⟩
                  generalize wr = wo at *
                  go_wp2
                  go_loopw [23] (fun i wv => ∃ a : Int, -1 ≤ a ∧ a ≤ M + 1 ∧ i = .int .i64 a ∧ TB w mm F ps qs Bm Bt' Bw wv) (fun i _ => (M + 1 - intOf i).toNat)
                  case atStart => exact ⟨-1, by omega, by omega, rfl, HTB.out⟩
                  case round =>
                    obtain ⟨a, ha1, ha2, rfl, htb⟩ := hrel
                    have HTB := Lib.hid htb
                    clear htb
                    have hma : In64 a := by constructor <;> omega
                    by_cases a2 : a ≤ M
                    · rw [hM] at a2
                      generalize wr = wo at *
                      go_wp2
                      go_loopw [24] (fun i wv => ∃ r : Int, (r = 1 ∨ r = 4 ∨ r = 7) ∧ i = .int .i64 r ∧ TB w mm F ps qs Bm Bt' Bw wv) (fun i _ => (8 - intOf i).toNat)
                      case atStart => exact ⟨1, by omega, rfl, HTB.out⟩
                      case round =>
                        obtain ⟨r, hr, rfl, htb⟩ := hrel
                        by_cases r4 : r ≤ 4
                        · have kr := read_any p g cap F Bm wr (by have := htb.im; rw [HK.out.2.2] at this; exact this) _ _ qs (HA.out.2.1.1.below htb.b) a 1 r hma
                          have H1 := Lib.hid htb
                          clear htb
                          go_wp2_with (fail)
                          refine kr.mono ?_
                          rintro e u1 ⟨rfl, b1⟩
                          have tb2 := H1.out.below b1
                          have kr2 := read_any p3 g3 cp3 F Bw u1 (by have := tb2.iw; rw [HK.out.2.2] at this; exact this) _ _ qs (HA.out.2.1.1.below tb2.b) a 1 r hma
                          rw [← agree_read (F := F) tb2.a2 a 1 r] at kr2
                          have H2 := Lib.hid tb2
                          clear tb2 b1 kr
                          go_wp2_with (fail)
                          refine kr2.mono ?_
                          rintro e u2 ⟨rfl, b2⟩
                          have tb3 := H2.out.below b2
                          clear kr2 b2
                          have HF3 := Lib.hid tb3
                          clear tb3
                          go_wp2
                          refine ⟨⟨r + 3, by omega, rfl, HF3.out⟩, ?_⟩
                          have z := r4
                          simp [intOf]; omega
                        · have HTB3 := Lib.hid htb
                          clear htb
                          go_wp2
                          refine ⟨⟨a + 1, by omega, by rw [hM]; omega, rfl, HTB3.out⟩, ?_⟩
                          have z := a2
                          rw [hM]
                          simp [intOf]; omega
                    · obtain rfl : a = M + 1 := by omega
                      rw [hM] at hma
                      go_wp2
                      go_ret
                      exact ⟨rfl, HTB.out.b⟩
      · go_wp2_with (fail)
        refine kc2.mono ?_
        rintro e v4 ⟨rfl, b4⟩
        have g4 : Below w.heap.size w v4 := H3.out.2.trans (b4.mono H3.out.2.size)
        generalize chk F qs = zz at *
        go_wp2
        go_ret
        exact ⟨rfl, g4⟩
    · go_wp2_with (fail)
      refine kc1.mono ?_
      rintro e v3 ⟨rfl, b3⟩
      have g3 : Below w.heap.size w v3 := HS.out.2.1.trans (b3.mono HS.out.2.1.size)
      generalize chk F ps = zz at *
      go_wp2
      go_ret
      exact ⟨rfl, g3⟩
  · have kn := new_no many wd h1
    go_wp2_with (fail)
    refine kn.mono ?_
    rintro e _ ⟨rfl, rfl⟩
    go_wp2_with (fail)
    refine (kf wd).mono ?_
    rintro e v2 ⟨rfl, b2⟩
    go_wp2
    go_ret
    exact ⟨rfl, HD.out.trans (b2.mono HD.out.size)⟩
end Go.Proofs.Ytnhfbeehoifddaa
