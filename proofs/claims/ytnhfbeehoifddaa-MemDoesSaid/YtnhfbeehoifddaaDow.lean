/- Every call on a memory and on the document's one: what the law's call returns. Conditions: numbers that a machine holds. -/
import Derived.Test.YtnhfbeehoifddaaRfi
namespace Go.Proofs.Ytnhfbeehoifddaa
open Go.RowKit Go.Maps
set_option linter.unusedVariables false

/-- the cells of a script's operation, and the field of the document's memory -/
def ScX (b o : Nat) (on kd oa ob oc : Int) (os : ByteArray) (p2 g2 c2 F : Nat) (W : World) : Prop :=
  W.cell? ⟨b, o, none⟩ = some (.int .i64 on) ∧ W.cell? ⟨b, o + 1, none⟩ = some (.int .i64 kd) ∧ W.cell? ⟨b, o + 2, none⟩ = some (.int .i64 oa) ∧ W.cell? ⟨b, o + 3, none⟩ = some (.int .i64 ob) ∧ W.cell? ⟨b, o + 4, none⟩ = some (.int .i64 oc) ∧ W.cell? ⟨b, o + 5, none⟩ = some (.string os) ∧ W.cell? ⟨p2, 0, none⟩ = some (.slice (some ⟨g2, 0, none⟩) F c2)
theorem IsR.sl {w : World} {p g cap F : Nat} {B : Bts} (h : IsR w p g cap F B) : SL w (.slice (some ⟨g, 0, none⟩) F cap) (fbytes B F) := by
  obtain ⟨cur, hr, hz, hc⟩ := h.row
  refine ⟨g, cap, cur, by rw [fbytes_len], hr, by rw [fbytes_len]; exact h.le, fun i hi => ?_⟩
  have hi' : i < F := by rw [fbytes_len] at hi; exact hi
  rw [fbytes_get _ _ _ hi']
  exact hc i hi'
set_option maxRecDepth 20000 in
set_option maxHeartbeats 16000000 in
theorem memdoes_any (many : Int) (va vb : Value) (nt : Nat) (l : List Opr) (w : World) (hm : In64 many) (hts : Tabs w va nt) (hl : Script w vb l) :
    Calls Try.prog 3 #[.int .i64 many, va, vb] w fun e w' => e = .returned (.bool true) ∧ Below w.heap.size w w' := by
  obtain ⟨qt, capt, rfl⟩ : ∃ q cap, va = .slice q nt cap := by obtain ⟨q, cap, e, _⟩ := hts; exact ⟨_, _, e⟩
  obtain ⟨q3, nl, cap3, rfl⟩ : ∃ q n cap, vb = .slice q n cap := by obtain ⟨q, cap, e, _⟩ := hl; exact ⟨_, _, _, e⟩
  have kf := fixed_any
  have HA := Lib.hid (And.intro hts hl)
  by_cases h1 : 1 ≤ many ∧ many ≤ 160
  · obtain ⟨F, rfl⟩ : ∃ F : Nat, many = (F : Int) := ⟨many.toNat, by omega⟩
    have hF : 1 ≤ F ∧ F ≤ 160 := by omega
    have kn := new_any F w hF
    have kn2 : Hid (∀ W, Calls Try.prog 11 #[.int .i64 (F : Int)] W fun e w' => ∃ p, e = .returned (.tuple #[.pointer (some ⟨p, 0, none⟩), .int .i64 0]) ∧ NewR W w' p F (nb (256 * F))) := fun W => rnew_any F W hF
    have HM := Lib.hid (And.intro h1 hF)
    obtain ⟨B0, hB0⟩ : ∃ B0, B0 = nb (256 * F) := ⟨_, rfl⟩
    rw [← hB0] at kn kn2
    have HB0 := Lib.hid hB0
    clear h1 hF hts hl hB0
    go_enter Try.func3, Try.ntmps3
    go_wp2_with (fail)
    refine kn.mono ?_
    rintro e v1 ⟨p, rfl, g, cap, a1, b1, hp, hg⟩
    have H1 := Lib.hid (And.intro a1 (And.intro b1 (And.intro hp hg)))
    clear a1 b1 hp hg kn
    go_wp2_with (fail)
    refine (kn2.out v1).mono ?_
    rintro e v2 ⟨p2, rfl, g2, c2, a2, b2, hp2, hg2⟩
    have hMM : MM w p g cap p2 g2 c2 F B0 B0 v2 := by
      obtain ⟨a1, b1, hp, hg⟩ := H1.out
      have := b1.size
      exact ⟨a1.below b2, a2, b1.trans (b2.mono b1.size), by omega, by omega, by omega, by omega⟩
    have H2 := Lib.hid hMM
    clear a2 b2 hp2 hg2 hMM kn2
    go_wp2_with (go_at_call 12; refine (kf v2).mono ?_; rintro e v3 ⟨rfl, b3⟩; have H3 := Lib.hid (H2.out.below b3); clear b3)
    obtain ⟨NL, hNL⟩ : ∃ N, N = l.length := ⟨_, rfl⟩
    obtain rfl : nl = NL := by obtain ⟨q, cap, e, _⟩ := HA.out.2; injection e with _ e2; rw [e2, hNL]
    have hNL2 : nl ≤ 17592186044416 := by rw [hNL]; obtain ⟨_, _, _, _, h, _⟩ := HA.out.2; exact h
    have HNL := Lib.hid hNL
    clear hNL kf
    go_loopw [7, 11] (fun mv i wr => ∃ (k p g c : Nat) (B : Bts), k ≤ nl ∧ i = .int .i64 (k : Int) ∧ mv = .pointer (some ⟨p, 0, none⟩) ∧ MM w p g c p2 g2 c2 F B B wr) (fun _ i _ => nl - (intOf i).toNat)
    case atStart => exact ⟨0, p, g, cap, B0, Nat.zero_le _, rfl, rfl, H3.out⟩
    case round =>
      obtain ⟨k, p', g', c', B, hk, rfl, rfl, hmm⟩ := hrel
      by_cases a1 : k < nl
      · have hjl : k < l.length := by rw [← HNL.out]; exact a1
        obtain ⟨b3, o3, on, kd, oa, ob, oc, os, hq3, HO, HSC⟩ : ∃ b3 o3 on kd oa ob oc os, q3 = some ⟨b3, o3, none⟩ ∧ Hid (In64 on ∧ In64 oa ∧ In64 ob ∧ In64 oc ∧ os.size ≤ 140737488351232) ∧
            Hid (∀ W, Below w.heap.size w W → W.cell? ⟨b3, o3 + k * 6, none⟩ = some (.int .i64 on) ∧ W.cell? ⟨b3, o3 + k * 6 + 1, none⟩ = some (.int .i64 kd) ∧ W.cell? ⟨b3, o3 + k * 6 + 2, none⟩ = some (.int .i64 oa) ∧ W.cell? ⟨b3, o3 + k * 6 + 3, none⟩ = some (.int .i64 ob) ∧ W.cell? ⟨b3, o3 + k * 6 + 4, none⟩ = some (.int .i64 oc) ∧ W.cell? ⟨b3, o3 + k * 6 + 5, none⟩ = some (.string os)) := by
          obtain ⟨q', cap', e1, _, _, hscr⟩ := HA.out.2
          obtain ⟨ook, b3, o3, hq3, hlt3, hcells⟩ := hscr k hjl
          injection e1 with e1 e2 e3
          obtain ⟨o, hoe⟩ : ∃ o, o = l[k] := ⟨_, rfl⟩
          rw [← hoe] at ook hcells
          obtain ⟨on, kd, oa, ob, oc, os⟩ := o
          obtain ⟨hon, _, hoa, hob, hoc, hos⟩ := ook
          refine ⟨b3, o3, on, kd, oa, ob, oc, os, e1.trans hq3, ⟨hon, hoa, hob, hoc, hos⟩, fun W hW => ?_⟩
          have d0 := hcells 0 _ rfl
          rw [Nat.add_zero] at d0
          simp only [World.cell?, hW.block b3 hlt3]
          exact ⟨d0, hcells 1 _ rfl, hcells 2 _ rfl, hcells 3 _ rfl, hcells 4 _ rfl, hcells 5 _ rfl⟩
        subst hq3
        obtain ⟨d0, d1, d2, d3, d4, d5⟩ := HSC.out wr hmm.b
        have kp := pick_any w _ nt HA.out.1 on HO.out.1 wr hmm.b
        have HMW := Lib.hid hmm
        clear hmm hjl
        go_wp2_with (fail)
        refine kp.mono ?_
        rintro e _ ⟨⟨vi, ps, rfl, tv⟩, rfl⟩
        obtain ⟨q5, n5, cap5, rfl⟩ : ∃ q n cap, vi = .slice q n cap := by obtain ⟨q, cap, e, _⟩ := tv; exact ⟨_, _, _, e⟩
        have HTV := Lib.hid tv
        clear tv kp
        by_cases k6 : kd = 6
        · have k6' : (kd == 6) = true := by simp [k6]
          clear k6
          have kcl := clone_any p' g' c' F B wr HMW.out.im
          go_wp2_with (fail)
          refine kcl.mono ?_
          rintro e W5 ⟨P6, rfl, G6, C6, i5, b5, hP6, hG6⟩
          have kcr := clear_any p' g' c' F B W5 (HMW.out.im.below b5) 0
          have HB5 := Lib.hid (And.intro i5 (And.intro b5 (And.intro hP6 hG6)))
          clear i5 b5 hP6 hG6 kcl
          obtain ⟨z, hz⟩ : ∃ z, z = (if isF F 0 then (0 : Int) else 83) := ⟨_, rfl⟩
          rw [← hz] at kcr
          clear hz
          go_wp2_with (fail)
          refine kcr.mono ?_
          rintro e W6 ⟨rfl, m6, c6⟩
          have h6 : MM w P6 G6 C6 p2 g2 c2 F B B W6 := by
            obtain ⟨i5, b5, hP6, hG6⟩ := HB5.out
            have h0 := HMW.out
            have l1 := h0.im.lt
            have hs := h0.b.size
            have lo := h0.lo
            have h5 := h0.below b5
            have hn := h5.ne
            exact ⟨i5.of_heap (c6.block P6 i5.lt.1 (by show ¬ P6 = g'; omega)) (c6.block G6 i5.lt.2 (by show ¬ G6 = g'; omega)), h5.ir.ch c6 hn.1 hn.2.1, below_chw h5.b c6 h5.b.size lo.2.1, by omega, by omega, by omega, by omega⟩
          clear kcr m6 c6
          obtain ⟨d0, d1, d2, d3, d4, d5⟩ := HSC.out W6 h6.b
          obtain ⟨E, hE⟩ : ∃ E, E = chk F ps := ⟨_, rfl⟩
          have kk : Calls Try.prog 16 #[.pointer (some ⟨P6, 0, none⟩), .slice q5 n5 cap5] W6.drew fun e u1 => e = .returned (.int .i64 E) ∧ ScX b3 (o3 + k * 6) on kd oa ob oc os p2 g2 c2 F u1 ∧
              Calls Try.prog 17 #[.pointer (some ⟨p2, 0, none⟩), .slice q5 n5 cap5] u1 fun e u2 => e = .returned (.int .i64 E) ∧ ScX b3 (o3 + k * 6) on kd oa ob oc os p2 g2 c2 F u2 ∧
              Calls Try.prog 18 #[.pointer (some ⟨P6, 0, none⟩), .pointer (some ⟨p2, 0, none⟩), .slice q5 n5 cap5, .agg #[.int .i64 on, .int .i64 kd, .int .i64 oa, .int .i64 ob, .int .i64 oc, .string os]] u2 fun e u3 => e = .returned (.bool true) ∧ ScX b3 (o3 + k * 6) on kd oa ob oc os p2 g2 c2 F u3 ∧
              Calls Try.prog 19 #[.pointer (some ⟨P6, 0, none⟩)] u3 fun e u4 => e = .returned (.int .i64 (F : Int)) ∧ ScX b3 (o3 + k * 6) on kd oa ob oc os p2 g2 c2 F u4 ∧ Hid (DoesPost w P6 G6 C6 p2 g2 c2 F u4) := by
            have hd := h6.drew
            have ht1 : ∀ W, Below w.heap.size w W → TabV (fun b => b < w.heap.size) W (.slice q5 n5 cap5) ps := fun W hW => HTV.out.below hW
            have sc : ∀ W B, MM w P6 G6 C6 p2 g2 c2 F B B W → ScX b3 (o3 + k * 6) on kd oa ob oc os p2 g2 c2 F W := fun W B hM => by
              obtain ⟨x0, x1, x2, x3, x4, x5⟩ := HSC.out W hM.b
              exact ⟨x0, x1, x2, x3, x4, x5, hM.ir.cell⟩
            refine (check_any _ _ _ _ _ _ hd.im _ _ ps (ht1 _ hd.b)).mono ?_
            rintro e u1 ⟨he, b1⟩
            have h1 := hd.below b1
            refine ⟨by rw [he, hE], sc _ _ h1, ?_⟩
            refine (rcheck_any _ _ _ _ _ _ h1.ir _ _ ps (ht1 _ h1.b)).mono ?_
            rintro e u2 ⟨he, b2⟩
            have h2 := h1.below b2
            refine ⟨by rw [he, hE], sc _ _ h2, ?_⟩
            refine (does_any w _ _ _ _ _ _ _ _ _ h2 _ ps HTV.out on kd oa ob oc os HO.out.2.1 HO.out.2.2.1 HO.out.2.2.2.1 HO.out.2.2.2.2).mono ?_
            rintro e u3 ⟨he, B', h3⟩
            refine ⟨he, sc _ _ h3, ?_⟩
            refine (frames_any _ _ _ _ _ _ h3.im).mono ?_
            rintro e u4 ⟨he, rfl⟩
            exact ⟨he, sc _ _ h3, ⟨B', h3⟩⟩
          have hS0 : ScX b3 (o3 + k * 6) on kd oa ob oc os p2 g2 c2 F W6.drew := by
            have hd := h6.drew
            obtain ⟨x0, x1, x2, x3, x4, x5⟩ := HSC.out _ hd.b
            exact ⟨x0, x1, x2, x3, x4, x5, hd.ir.cell⟩
          have HE := Lib.hid hE
          have HM6 := Lib.hid h6
          clear hE h6
          unfold ScX at kk hS0
          obtain ⟨s0, s1, s2, s3, s4, s5, s6⟩ := hS0
          go_wp2
          go_region_held3 (fun W => W.cell? ⟨b3, o3 + k * 6, none⟩ = some (.int .i64 on) ∧ W.cell? ⟨b3, o3 + k * 6 + 1, none⟩ = some (.int .i64 kd) ∧ W.cell? ⟨b3, o3 + k * 6 + 2, none⟩ = some (.int .i64 oa) ∧ W.cell? ⟨b3, o3 + k * 6 + 3, none⟩ = some (.int .i64 ob) ∧ W.cell? ⟨b3, o3 + k * 6 + 4, none⟩ = some (.int .i64 oc) ∧ W.cell? ⟨b3, o3 + k * 6 + 5, none⟩ = some (.string os) ∧ W.cell? ⟨p2, 0, none⟩ = some (.slice (some ⟨g2, 0, none⟩) F c2)) (first | exact ⟨s0, s1, s2, s3, s4, s5, s6⟩ | exact hS1 | exact hS2 | exact hS3 | exact hS4)
            (first
              | (go_at_call 16; with_reducible refine kk.mono ?_; rintro e u1 ⟨rfl, hS1, kk2⟩; clear kk)
              | (go_at_call 17; with_reducible refine kk2.mono ?_; rintro e u2 ⟨rfl, hS2, kk3⟩; clear kk2)
              | (go_at_call 18; with_reducible refine kk3.mono ?_; rintro e u3 ⟨rfl, hS3, kk4⟩; clear kk3)
              | (go_at_call 19; with_reducible refine kk4.mono ?_; rintro e u4 ⟨rfl, hS4, HTF⟩; clear kk4))
          obtain ⟨B', h4⟩ := HTF.out
          have kfr := frame_any _ _ _ _ _ _ h4.im oa
          have kfr2 := rframe_any _ _ _ _ _ _ h4.ir oa
          have HF4 := Lib.hid h4
          obtain ⟨y0, y1, y2, y3, y4, y5, y6⟩ := hS4
          clear h4 hS1 hS2 hS3 s0 s1 s2 s3 s4 s5 s6
          by_cases fF : isF F oa
          · rw [if_pos fF] at kfr kfr2
            obtain ⟨S, hS⟩ : ∃ S, S = ofL (frameB B' oa.toNat) := ⟨_, rfl⟩
            rw [← hS] at kfr kfr2
            clear hS fF
            go_wp2_with (fail)
            refine kfr.mono ?_
            rintro e _ ⟨rfl, rfl⟩
            go_wp2_with (fail)
            refine kfr2.mono ?_
            rintro e _ ⟨rfl, rfl⟩
            go_wp2
            refine ⟨⟨k + 1, P6, G6, C6, B', a1, rfl, rfl, HF4.out⟩, ?_⟩
            have z := a1
            simp [intOf]; omega
          · rw [if_neg fF] at kfr kfr2
            clear fF
            go_wp2_with (fail)
            refine kfr.mono ?_
            rintro e _ ⟨rfl, rfl⟩
            go_wp2_with (fail)
            refine kfr2.mono ?_
            rintro e _ ⟨rfl, rfl⟩
            go_wp2
            refine ⟨⟨k + 1, P6, G6, C6, B', a1, rfl, rfl, HF4.out⟩, ?_⟩
            have z := a1
            simp [intOf]; omega
        · have k6' : (kd == 6) = false := by simpa using k6
          have hmm := HMW.out
          clear k6

          obtain ⟨E, hE⟩ : ∃ E, E = chk F ps := ⟨_, rfl⟩
          have kk : Calls Try.prog 16 #[.pointer (some ⟨p', 0, none⟩), .slice q5 n5 cap5] wr.drew fun e u1 => e = .returned (.int .i64 E) ∧ ScX b3 (o3 + k * 6) on kd oa ob oc os p2 g2 c2 F u1 ∧
              Calls Try.prog 17 #[.pointer (some ⟨p2, 0, none⟩), .slice q5 n5 cap5] u1 fun e u2 => e = .returned (.int .i64 E) ∧ ScX b3 (o3 + k * 6) on kd oa ob oc os p2 g2 c2 F u2 ∧
              Calls Try.prog 18 #[.pointer (some ⟨p', 0, none⟩), .pointer (some ⟨p2, 0, none⟩), .slice q5 n5 cap5, .agg #[.int .i64 on, .int .i64 kd, .int .i64 oa, .int .i64 ob, .int .i64 oc, .string os]] u2 fun e u3 => e = .returned (.bool true) ∧ ScX b3 (o3 + k * 6) on kd oa ob oc os p2 g2 c2 F u3 ∧
              Calls Try.prog 19 #[.pointer (some ⟨p', 0, none⟩)] u3 fun e u4 => e = .returned (.int .i64 (F : Int)) ∧ ScX b3 (o3 + k * 6) on kd oa ob oc os p2 g2 c2 F u4 ∧ Hid (DoesPost w p' g' c' p2 g2 c2 F u4) := by
            have hd := hmm.drew
            have ht1 : ∀ W, Below w.heap.size w W → TabV (fun b => b < w.heap.size) W (.slice q5 n5 cap5) ps := fun W hW => HTV.out.below hW
            have sc : ∀ W B, MM w p' g' c' p2 g2 c2 F B B W → ScX b3 (o3 + k * 6) on kd oa ob oc os p2 g2 c2 F W := fun W B hM => by
              obtain ⟨x0, x1, x2, x3, x4, x5⟩ := HSC.out W hM.b
              exact ⟨x0, x1, x2, x3, x4, x5, hM.ir.cell⟩
            refine (check_any _ _ _ _ _ _ hd.im _ _ ps (ht1 _ hd.b)).mono ?_
            rintro e u1 ⟨he, b1⟩
            have h1 := hd.below b1
            refine ⟨by rw [he, hE], sc _ _ h1, ?_⟩
            refine (rcheck_any _ _ _ _ _ _ h1.ir _ _ ps (ht1 _ h1.b)).mono ?_
            rintro e u2 ⟨he, b2⟩
            have h2 := h1.below b2
            refine ⟨by rw [he, hE], sc _ _ h2, ?_⟩
            refine (does_any w _ _ _ _ _ _ _ _ _ h2 _ ps HTV.out on kd oa ob oc os HO.out.2.1 HO.out.2.2.1 HO.out.2.2.2.1 HO.out.2.2.2.2).mono ?_
            rintro e u3 ⟨he, B', h3⟩
            refine ⟨he, sc _ _ h3, ?_⟩
            refine (frames_any _ _ _ _ _ _ h3.im).mono ?_
            rintro e u4 ⟨he, rfl⟩
            exact ⟨he, sc _ _ h3, ⟨B', h3⟩⟩
          have hS0 : ScX b3 (o3 + k * 6) on kd oa ob oc os p2 g2 c2 F wr.drew := by
            have hd := hmm.drew
            obtain ⟨x0, x1, x2, x3, x4, x5⟩ := HSC.out _ hd.b
            exact ⟨x0, x1, x2, x3, x4, x5, hd.ir.cell⟩
          have HE := Lib.hid hE
          have HMM := Lib.hid hmm
          clear hE hmm
          unfold ScX at kk hS0
          obtain ⟨s0, s1, s2, s3, s4, s5, s6⟩ := hS0
          go_wp2
          go_region_held3 (fun W => W.cell? ⟨b3, o3 + k * 6, none⟩ = some (.int .i64 on) ∧ W.cell? ⟨b3, o3 + k * 6 + 1, none⟩ = some (.int .i64 kd) ∧ W.cell? ⟨b3, o3 + k * 6 + 2, none⟩ = some (.int .i64 oa) ∧ W.cell? ⟨b3, o3 + k * 6 + 3, none⟩ = some (.int .i64 ob) ∧ W.cell? ⟨b3, o3 + k * 6 + 4, none⟩ = some (.int .i64 oc) ∧ W.cell? ⟨b3, o3 + k * 6 + 5, none⟩ = some (.string os) ∧ W.cell? ⟨p2, 0, none⟩ = some (.slice (some ⟨g2, 0, none⟩) F c2)) (first | exact ⟨s0, s1, s2, s3, s4, s5, s6⟩ | exact hS1 | exact hS2 | exact hS3 | exact hS4)
            (first
              | (go_at_call 16; with_reducible refine kk.mono ?_; rintro e u1 ⟨rfl, hS1, kk2⟩; clear kk)
              | (go_at_call 17; with_reducible refine kk2.mono ?_; rintro e u2 ⟨rfl, hS2, kk3⟩; clear kk2)
              | (go_at_call 18; with_reducible refine kk3.mono ?_; rintro e u3 ⟨rfl, hS3, kk4⟩; clear kk3)
              | (go_at_call 19; with_reducible refine kk4.mono ?_; rintro e u4 ⟨rfl, hS4, HTF⟩; clear kk4))
          obtain ⟨B', h4⟩ := HTF.out
          have kfr := frame_any _ _ _ _ _ _ h4.im oa
          have kfr2 := rframe_any _ _ _ _ _ _ h4.ir oa
          have HF4 := Lib.hid h4
          obtain ⟨y0, y1, y2, y3, y4, y5, y6⟩ := hS4
          clear h4 hS1 hS2 hS3 s0 s1 s2 s3 s4 s5 s6
          by_cases fF : isF F oa
          · rw [if_pos fF] at kfr kfr2
            obtain ⟨S, hS⟩ : ∃ S, S = ofL (frameB B' oa.toNat) := ⟨_, rfl⟩
            rw [← hS] at kfr kfr2
            clear hS fF
            go_wp2_with (fail)
            refine kfr.mono ?_
            rintro e _ ⟨rfl, rfl⟩
            go_wp2_with (fail)
            refine kfr2.mono ?_
            rintro e _ ⟨rfl, rfl⟩
            go_wp2
            refine ⟨⟨k + 1, p', g', c', B', a1, rfl, rfl, HF4.out⟩, ?_⟩
            have z := a1
            simp [intOf]; omega
          · rw [if_neg fF] at kfr kfr2
            clear fF
            go_wp2_with (fail)
            refine kfr.mono ?_
            rintro e _ ⟨rfl, rfl⟩
            go_wp2_with (fail)
            refine kfr2.mono ?_
            rintro e _ ⟨rfl, rfl⟩
            go_wp2
            refine ⟨⟨k + 1, p', g', c', B', a1, rfl, rfl, HF4.out⟩, ?_⟩
            have z := a1
            simp [intOf]; omega
      · obtain rfl : k = nl := by omega
        have kl := list_any p' g' c' F B wr.drew hmm.drew.im
        have kk : Calls Try.prog 23 #[.pointer (some ⟨p', 0, none⟩)] wr.drew fun e u1 => ∃ g7 c7, e = .returned (.slice (some ⟨g7, 0, none⟩) F c7) ∧ u1.cell? ⟨p2, 0, none⟩ = some (.slice (some ⟨g2, 0, none⟩) F c2) ∧
            Calls Try.prog 22 #[.slice (some ⟨g7, 0, none⟩) F c7, .slice (some ⟨g2, 0, none⟩) F c2] u1 fun e u2 => e = .returned (.bool true) ∧ u2.cell? ⟨p2, 0, none⟩ = some (.slice (some ⟨g2, 0, none⟩) F c2) ∧ Hid (Below w.heap.size w u2) := by
          have hd := hmm.drew
          refine kl.mono ?_
          rintro e u1 ⟨v, he, hsl, b1⟩
          have h1 := hd.below b1
          obtain ⟨g7, c7, rfl⟩ : ∃ g cap, v = .slice (some ⟨g, 0, none⟩) F cap := by obtain ⟨g, cap, _, e, _⟩ := hsl; rw [fbytes_len] at e; exact ⟨_, _, e⟩
          refine ⟨g7, c7, he, h1.ir.cell, ?_⟩
          refine (same_any _ _ _ (by rw [fbytes_len]; exact hmm.im.hi) u1 hsl h1.ir.sl).mono ?_
          rintro e u2 ⟨he, b2⟩
          exact ⟨he, (h1.below b2).ir.cell, (h1.below b2).b⟩
        have hS0 : wr.drew.cell? ⟨p2, 0, none⟩ = some (.slice (some ⟨g2, 0, none⟩) F c2) := hmm.drew.ir.cell
        clear hmm kl
        go_wp2
        go_region_held3 (fun W => W.cell? ⟨p2, 0, none⟩ = some (.slice (some ⟨g2, 0, none⟩) F c2)) (first | exact hS0 | exact hS1 | exact hS2)
          (first
            | (go_at_call 23; with_reducible refine kk.mono ?_; rintro e u1 ⟨g7, c7, rfl, hS1, kk2⟩; clear kk)
            | (go_at_call 22; with_reducible refine kk2.mono ?_; rintro e u2 ⟨rfl, hS2, HTF⟩; clear kk2))
        go_wp2
        go_ret
        exact ⟨rfl, HTF.out⟩
  · have kn := new_no many w h1
    have kn2 := rnew_no many w h1
    clear hts hl h1
    go_enter Try.func3, Try.ntmps3
    go_wp2_with (fail)
    refine kn.mono ?_
    rintro e _ ⟨rfl, rfl⟩
    go_wp2_with (fail)
    refine kn2.mono ?_
    rintro e _ ⟨rfl, rfl⟩
    go_wp2_with (go_at_call 12; refine (kf w).mono ?_; rintro e v3 ⟨rfl, b3⟩; have HB := Lib.hid b3; clear b3)
    go_ret
    exact ⟨rfl, HB.out⟩
end Go.Proofs.Ytnhfbeehoifddaa
