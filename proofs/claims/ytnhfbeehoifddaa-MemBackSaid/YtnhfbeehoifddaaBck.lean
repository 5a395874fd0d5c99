/- What is written is read back, all else stays: what the law's call returns. Conditions: numbers that a machine holds. -/
import Derived.Test.YtnhfbeehoifddaaBcm
namespace Go.Proofs.Ytnhfbeehoifddaa
open Go.RowKit Go.Maps
set_option linter.unusedVariables false

set_option maxRecDepth 20000 in
set_option maxHeartbeats 40000000 in
theorem back_any (many : Int) (v : Value) (ps : List Pg) (a : Int) (s : ByteArray) (w : World) (hm : In64 many) (hps : PgOk w v ps) (ha : In64 a) (hs : s.size ≤ 140737488351232) :
    Calls Try.prog 5 #[.int .i64 many, v, .agg #[.int .i64 a, .string s]] w fun e w' => e = .returned (.bool true) ∧ Below w.heap.size w w' := by
  obtain ⟨q, np, cap0, rfl⟩ : ∃ q n cap, v = .slice q n cap := by obtain ⟨q, cap, e, _⟩ := hps.1; exact ⟨_, _, _, e⟩
  obtain ⟨wa, hwa⟩ : ∃ wa, wa = w.alloc (.cells #[.int .i64 a, .string s] 62) := ⟨_, rfl⟩
  have ba : Below w.heap.size w wa := by rw [hwa]; exact (Below.refl _ w).alloc (Nat.le_refl _) _
  have cb : wa.heap[w.heap.size]? = some (.cells #[.int .i64 a, .string s] 62 (0, 0)) := by rw [hwa]; exact block_new _ _
  have c0 : wa.cell? ⟨w.heap.size, 0, none⟩ = some (.int .i64 a) := by rw [cell_of_row _ _ _ _ _ _ cb]; rfl
  have c1 : wa.cell? ⟨w.heap.size, 1, none⟩ = some (.string s) := by rw [cell_of_row _ _ _ _ _ _ cb]; rfl
  have kf := fixed_any
  have HA := Lib.hid (And.intro hps (And.intro hwa ba))
  rw [hwa] at c0 c1
  obtain ⟨NP, hNP⟩ : ∃ N, N = ps.length := ⟨_, rfl⟩
  obtain rfl : np = NP := by obtain ⟨q, cap, e, _⟩ := hps.1; injection e with _ e2; rw [e2, hNP]
  have hNP2 : np < 8796093022208 := by rw [hNP]; have := hps.2.2; omega
  have HNP := Lib.hid hNP
  clear hps cb ba hwa hNP
  go_enter Try.func5, Try.ntmps5
  go_wp2
  go_quiet (fail)
  rw [← HA.out.2.1]
  obtain ⟨wd, hwd⟩ : ∃ wd, wd = wa.drewN nq := ⟨_, rfl⟩
  have bd : Below w.heap.size w wd := by rw [hwd]; exact below_drewN HA.out.2.2 nq
  rw [← hwd]
  have HD := Lib.hid bd
  clear bd c0 c1 hwd
  by_cases h1 : 1 ≤ many ∧ many ≤ 160
  · obtain ⟨F, rfl⟩ : ∃ F : Nat, many = (F : Int) := ⟨many.toNat, by omega⟩
    have kn := new_any F wd (by omega)
    have HM := Lib.hid h1
    clear h1
    go_wp2_with (fail)
    refine kn.mono ?_
    rintro e v1 ⟨p, rfl, g, cap, a1, b1, hp, hg⟩
    have HN := Lib.hid (And.intro a1 (And.intro b1 (And.intro hp hg)))
    clear a1 b1 hp hg kn
    go_wp2_with (fail)
    refine (kf v1).mono ?_
    rintro e v2 ⟨rfl, b2⟩
    obtain ⟨a1, b1, hp, hg⟩ := HN.out
    have a2 := a1.below b2
    have g1 : Below w.heap.size w v2 := HD.out.trans ((b1.trans (b2.mono b1.size)).mono HD.out.size)
    have hg' : w.heap.size ≤ g ∧ w.heap.size ≤ p := by have := HD.out.size; omega
    have HS := Lib.hid (And.intro a2 (And.intro g1 hg'))
    clear a1 b1 hp hg a2 g1 b2 hg' kf
    go_wp2
    go_loopw [11] (fun i wr => ∃ k : Nat, k ≤ np ∧ i = .int .i64 (k : Int) ∧ (∀ x, x < k → ∀ y, y < x → 0 ≤ (ps.getD x (0, 0)).1 → (ps.getD x (0, 0)).1 ≠ (ps.getD y (0, 0)).1) ∧ Below v2.heap.size v2 wr) (fun i _ => np - (intOf i).toNat)
    case atStart => exact ⟨0, Nat.zero_le _, rfl, fun x hx => absurd hx (Nat.not_lt_zero _), Below.refl _ _⟩
    case round =>
      obtain ⟨k, hk, rfl, hno, hbw⟩ := hrel
      generalize wr = wo at *
      by_cases a0 : k < np
      · have HX := Lib.hid (And.intro hno hbw)
        clear hno hbw
        go_wp2
        go_loopw [12] (fun i wr => ∃ l : Nat, l ≤ k ∧ i = .int .i64 (l : Int) ∧ (∀ y, y < l → 0 ≤ (ps.getD k (0, 0)).1 → (ps.getD k (0, 0)).1 ≠ (ps.getD y (0, 0)).1) ∧ Below v2.heap.size v2 wr) (fun i _ => k - (intOf i).toNat)
        case atStart => exact ⟨0, Nat.zero_le _, rfl, fun x hx => absurd hx (Nat.not_lt_zero _), HX.out.2⟩
        case round =>
          obtain ⟨l, hl, rfl, hno, hbw⟩ := hrel
          by_cases a1 : l < k
          · have hbw2 : Below w.heap.size w wr := HS.out.2.1.trans (hbw.mono HS.out.2.1.size)
            have htab := HA.out.1.1.below hbw2
            obtain ⟨b, o, e1, c1, _⟩ := tab_cells htab (k := k) (by rw [← HNP.out]; exact a0)
            obtain ⟨b2, o2, e2, c2, _⟩ := tab_cells htab (k := l) (by rw [← HNP.out]; omega)
            subst e1
            injection e2 with e2
            injection e2 with e2 e3
            subst e2 e3
            obtain ⟨f, hf⟩ : ∃ f, f = (ps.getD k (0, 0)).1 := ⟨_, rfl⟩
            obtain ⟨f2, hf2⟩ : ∃ f, f = (ps.getD l (0, 0)).1 := ⟨_, rfl⟩
            rw [← hf] at c1
            rw [← hf2] at c2
            have hl2 : l < np := by omega
            have HL := Lib.hid (And.intro hno (And.intro hbw (And.intro hf (And.intro hf2 hbw2))))
            clear hno hbw hf hf2 hbw2 htab
            by_cases z1 : 0 ≤ f
            · by_cases z2 : f = f2
              · subst z2
                go_wp2
                go_quiet (fail)
                go_wp2
                go_ret
                exact ⟨rfl, below_drewN HL.out.2.2.2.2 nq⟩
              · have z2' : (f == f2) = false := by simpa using z2
                go_wp2
                go_quiet (fail)
                go_wp2
                refine ⟨⟨l + 1, a1, rfl, fun y hy => ?_, below_drewN HL.out.2.1 nq⟩, ?_⟩
                · rcases Nat.lt_or_ge y l with z | z
                  · exact HL.out.1 y z
                  · obtain rfl : y = l := by omega
                    intro _
                    rw [← HL.out.2.2.1, ← HL.out.2.2.2.1]; exact z2
                · have z := a1
                  simp [intOf]; omega
            · have z1' : decide (0 ≤ f) = false := by simp; omega
              go_wp2
              go_quiet (fail)
              go_wp2
              refine ⟨⟨l + 1, a1, rfl, fun y hy => ?_, below_drewN HL.out.2.1 nq⟩, ?_⟩
              · rcases Nat.lt_or_ge y l with z | z
                · exact HL.out.1 y z
                · intro h0
                  rw [← HL.out.2.2.1] at h0
                  omega
              · have z := a1
                simp [intOf]; omega
          · obtain rfl : l = k := by omega
            have HL := Lib.hid (And.intro hno hbw)
            clear hno hbw
            go_wp2
            refine ⟨⟨l + 1, a0, rfl, fun x hx y hy => ?_, HL.out.2⟩, ?_⟩
            · rcases Nat.lt_or_ge x l with z | z
              · exact HX.out.1 x z y hy
              · obtain rfl : x = l := by omega
                exact HL.out.1 y hy
            · have z := a0
              simp [intOf]; omega
      · obtain rfl : np = k := by omega
        have hdist : dist ps := fun x hx y hy => hno x (by rw [HNP.out]; exact hx) y hy
        have i1 := HS.out.1.below hbw
        have g1 : Below w.heap.size w wo := HS.out.2.1.trans (hbw.mono HS.out.2.1.size)
        have kl := lay_any p g cap F _ wo i1 0 3 ⟨#[98, 101, 102, 111, 114, 101]⟩ (by decide)
        have HI := Lib.hid (And.intro hdist (And.intro i1 g1))
        clear hno hbw hdist i1 g1
        go_wp2_with (fail)
        refine kl.mono ?_
        rintro e w4 ⟨rfl, j1, j2⟩
        obtain ⟨B, hB⟩ : ∃ B, B = layB F (nb (256 * F)) 0 3 (ByteArray.mk #[98, 101, 102, 111, 114, 101]).data.toList := ⟨_, rfl⟩
        rw [← hB] at j1
        generalize layE F 0 3 (ByteArray.mk #[98, 101, 102, 111, 114, 101]).size = le
        have g4 : Below w.heap.size w w4 := below_ch HI.out.2.2 j2 HI.out.2.2.size HS.out.2.2.1
        have k5 := list_any p g cap F B w4 j1
        have H4 := Lib.hid (And.intro j1 g4)
        clear kl hB j1 j2 g4
        go_wp2_with (fail)
        refine k5.mono ?_
        rintro e w5 ⟨vw, rfl, s5, b5⟩
        have i5 := H4.out.1.below b5
        have g5 : Below w.heap.size w w5 := H4.out.2.trans (b5.mono H4.out.2.size)
        have k6 := write_any p g cap F B w5 i5 (fun b => b < w.heap.size) (by have := HS.out.2.2; omega) _ ps (HA.out.1.1.below g5) a s ha (by omega)
        have hl5 := fbytes_len B F
        obtain ⟨gw, cw, rfl⟩ : ∃ gg cc, vw = .slice (some ⟨gg, 0, none⟩) F cc := by obtain ⟨gg, cc, _, e, _⟩ := s5; rw [hl5] at e; exact ⟨gg, cc, e⟩
        have H5 := Lib.hid (And.intro i5 (And.intro g5 s5))
        clear b5 i5 g5 s5 k5 hl5
        go_wp2_with (fail)
        refine k6.mono ?_
        rintro e w6 ⟨rfl, i6, c6⟩
        have g6 : Below w.heap.size w w6 := below_ch H5.out.2.1 c6 H5.out.2.1.size HS.out.2.2.1
        have s6 : SL w6 (.slice (some ⟨gw, 0, none⟩) F cw) (fbytes B F) := H5.out.2.2.ch c6 (fun kk hkk => by
          obtain rfl : kk = g := hkk
          obtain ⟨cur, fr, h, _⟩ := H5.out.1.row
          exact ⟨_, _, h⟩)
        by_cases hE : writeE F ps a s.size = 0
        · have hEE := hE
          unfold writeE at hEE
          obtain ⟨hchk, hs4, hthere⟩ : chk F ps = 0 ∧ s.size ≤ 4096 ∧ thereE ps 2 a s.size = 0 := by
            split at hEE
            · rename_i q1
              split at hEE
              · exact ⟨q1, by assumption, hEE⟩
              · cases hEE
            · contradiction
          have eB : writeB F ps B a s.data.toList = Go.Proofs.Ytnhfbeehoifddaa.wr ps a s.data.toList B := by
            unfold writeB
            rw [if_pos (by rw [baList]; exact hE)]
          obtain ⟨B', hB'⟩ : ∃ B', B' = Go.Proofs.Ytnhfbeehoifddaa.wr ps a s.data.toList B := ⟨_, rfl⟩
          rw [eB, ← hB'] at i6
          rw [hE]
          have k7 := list_any p g cap F B' w6 i6
          have H6 := Lib.hid (And.intro g6 (And.intro s6 (And.intro i6 (And.intro hchk (And.intro hthere hB')))))
          clear k6 i6 c6 g6 s6 eB hEE hE hchk hthere hB'
          go_wp2_with (fail)
          refine k7.mono ?_
          rintro e w7 ⟨vn, rfl, s7, b7⟩
          have hl7 := fbytes_len B' F
          obtain ⟨gn, cn, rfl⟩ : ∃ gg cc, vn = .slice (some ⟨gg, 0, none⟩) F cc := by obtain ⟨gg, cc, _, e, _⟩ := s7; rw [hl7] at e; exact ⟨gg, cc, e⟩
          have H7 := Lib.hid (And.intro (H6.out.1.trans (b7.mono H6.out.1.size)) (And.intro s7 (And.intro (H6.out.2.1.below b7) (H6.out.2.2.1.below b7))))
          have hF := HM.out
          have hF2 : F ≤ 160 := by omega
          clear k7 s7 b7 hl7 hF
          go_wp2
          go_loopw [15, 17] (fun c i wr => ∃ k : Nat, k ≤ F ∧ i = .int .i64 (k : Int) ∧ c = .int .i64 ((cnt B B' (256 * k) : Nat) : Int) ∧ Below w7.heap.size w7 wr) (fun _ i _ => F - (intOf i).toNat)
          case atStart => exact ⟨0, Nat.zero_le _, rfl, rfl, Below.refl _ _⟩
          case round =>
            obtain ⟨k, hk, rfl, rfl, hbw⟩ := hrel
            generalize wr = wo at *
            by_cases a0 : k < F
            · have HX := Lib.hid hbw
              obtain ⟨K, hK⟩ : ∃ K, K = 256 * k := ⟨_, rfl⟩
              have HKK := Lib.hid hK
              have hK2 : K ≤ 40960 := by omega
              rw [← hK]
              clear hbw hK
              go_wp2
              go_loopw [15, 18] (fun c i wr => ∃ l : Nat, l ≤ 256 ∧ i = .int .i64 (l : Int) ∧ c = .int .i64 ((cnt B B' (K + l) : Nat) : Int) ∧ Below w7.heap.size w7 wr) (fun _ i _ => 256 - (intOf i).toNat)
              case atStart => exact ⟨0, Nat.zero_le _, rfl, rfl, HX.out⟩
              case round =>
                obtain ⟨l, hl, rfl, rfl, hbw⟩ := hrel
                by_cases a1 : l < 256
                · have e1 := (H7.out.2.1.below hbw).cell k (by rw [fbytes_len]; exact a0)
                  have e2 := (H7.out.2.2.1.below hbw).cell k (by rw [fbytes_len]; exact a0)
                  rw [fbytes_get _ _ _ a0] at e1 e2
                  have f1 := frame_get H7.out.2.2.2.len a0
                  have f2 := frame_get H5.out.1.len a0
                  obtain ⟨S1, hS1⟩ : ∃ S, S = ofL (frameB B' k) := ⟨_, rfl⟩
                  obtain ⟨S2, hS2⟩ : ∃ S, S = ofL (frameB B k) := ⟨_, rfl⟩
                  rw [← hS1] at e1
                  rw [← hS2] at e2
                  have z1 : S1.size = 256 := by rw [hS1, ofL_size]; exact f1.1
                  have z2 : S2.size = 256 := by rw [hS2, ofL_size]; exact f2.1
                  have HB := Lib.hid (And.intro hbw (And.intro f1 (And.intro f2 (And.intro hS1 hS2))))
                  clear hbw f1 f2 hS1 hS2
                  go_wp2
                  go_quiet (fail)
                  go_wp2
                  · rename_i hcmp
                    obtain ⟨hbw, f1, f2, hS1, hS2⟩ := HB.out
                    have y1 := byte_at f1 hS1 a1 (by omega)
                    have y2 := byte_at f2 hS2 a1 (by omega)
                    rw [← HKK.out] at y1 y2
                    have hne : B'.getD (K + l) 0 ≠ B.getD (K + l) 0 := by
                      rw [← y1, ← y2]; intro e; rw [e] at hcmp; simp at hcmp
                    have hle := cnt_le B B' (K + l)
                    refine ⟨⟨l + 1, a1, rfl, ?_, below_drewN hbw nq⟩, ?_⟩
                    · rw [show K + (l + 1) = K + l + 1 by omega, cnt_ne hne]
                      generalize cnt B B' (K + l) = c at hle
                      have hw : wrap64 ((c : Int) + 1) = ((c + 1 : Nat) : Int) := by unfold wrap64; omega
                      rw [hw]
                    · have z := a1
                      simp [intOf]; omega
                  · rename_i hcmp
                    obtain ⟨hbw, f1, f2, hS1, hS2⟩ := HB.out
                    have y1 := byte_at f1 hS1 a1 (by omega)
                    have y2 := byte_at f2 hS2 a1 (by omega)
                    rw [← HKK.out] at y1 y2
                    have heq : B'.getD (K + l) 0 = B.getD (K + l) 0 := by
                      rw [← y1, ← y2]
                      apply UInt8.toNat_inj.1
                      have hcmp2 : (S1[l].toNat : Int) = (S2[l].toNat : Int) := by simpa using hcmp
                      exact Int.ofNat.inj hcmp2
                    refine ⟨⟨l + 1, a1, rfl, ?_, below_drewN hbw nq⟩, ?_⟩
                    · rw [show K + (l + 1) = K + l + 1 by omega, cnt_eq heq]
                    · have z := a1
                      simp [intOf]; omega
                · obtain rfl : l = 256 := by omega
                  have HB := Lib.hid hbw
                  clear hbw
                  go_wp2
                  refine ⟨⟨k + 1, a0, rfl, ?_, HB.out⟩, ?_⟩
                  · rw [HKK.out]; rfl
                  · have z := a0
                    simp [intOf]; omega
            · obtain rfl : F = k := by omega
              have HX := Lib.hid hbw
              clear hbw
              have hcnt : cnt B B' (256 * F) ≤ s.size := by
                have h := cnt_wr B ps (256 * F) s.data.toList a B
                rw [cnt_refl, ← H6.out.2.2.2.2.2, baList] at h
                omega
              generalize cnt B B' (256 * F) = C at *
              go_wp2
              go_loopw [19] (fun i wr => ∃ j : Nat, j ≤ s.size ∧ i = .int .i64 (j : Int) ∧ Below w7.heap.size w7 wr) (fun i _ => s.size - (intOf i).toNat)
              case atStart => exact ⟨0, Nat.zero_le _, rfl, HX.out⟩
              case round =>
                obtain ⟨j, hj, rfl, hbw⟩ := hrel
                by_cases a1 : j < s.size
                · obtain ⟨g6, s6, i6, hchk, hthere, hB'⟩ := H6.out
                  have hbad := there_bad _ _ hthere j a1
                  have hin := pg_in hchk hbad
                  have h00 := (pg_in hchk (there_bad _ _ hthere 0 (by omega))).1
                  obtain ⟨an, rfl⟩ : ∃ an : Nat, a = (an : Int) := ⟨a.toNat, by omega⟩
                  have hbw2 : Below w.heap.size w wr := H7.out.1.trans (hbw.mono H7.out.1.size)
                  have htab := HA.out.1.1.below hbw2
                  obtain ⟨x, hx⟩ : ∃ x, x = (an + j) / 256 := ⟨_, rfl⟩
                  have hx2 : (((an : Int) + (j : Int)) / 256).toNat = x := by omega
                  obtain ⟨b, o, e1, c1, c2⟩ := tab_cells htab (k := x) (by rw [← hx2]; exact hin.2.1)
                  have epg : pg ps ((an : Int) + (j : Int)) = ps.getD x (0, 0) := by unfold pg; rw [hx2]
                  obtain ⟨pp, hpp⟩ : ∃ pp, pp = ps.getD x (0, 0) := ⟨_, rfl⟩
                  rw [← hpp] at c1 c2 epg
                  obtain ⟨f, r⟩ := pp
                  rw [epg] at hin
                  dsimp only at c1 c2 hin
                  subst e1
                  have hxn : x < np := by rw [HNP.out]; omega
                  have hsum : an + j < 2251799813685248 := by omega
                  obtain ⟨w1, hw1⟩ : ∃ w1, w1 = wr.alloc (.cells #[.int .i64 f, .int .i64 r] 53) := ⟨_, rfl⟩
                  have bw1 : Below wr.heap.size wr w1 := by rw [hw1]; exact (Below.refl _ wr).alloc (Nat.le_refl _) _
                  have cbo : w1.heap[wr.heap.size]? = some (.cells #[.int .i64 f, .int .i64 r] 53 (0, 0)) := by rw [hw1]; exact block_new _ _
                  have hb7 : Below w7.heap.size w7 w1 := hbw.trans (bw1.mono hbw.size)
                  have kl := load_any p g cap F B' w1 (H7.out.2.2.2.below hb7) _ _ ps (htab.below bw1) ((an : Int) + (j : Int)) 1 1 (by constructor <;> omega)
                  obtain ⟨l1, l2⟩ := load_one hchk hbad B'
                  rw [epg] at l1 l2
                  dsimp only at l1 l2
                  have hget := wr_get hchk HI.out.1 s.data.toList (an : Int) B j H5.out.1.len (by rw [baList]; exact hthere) (by rw [baList]; exact a1)
                  rw [← hB'] at hget
                  have hT := Lib.hid (And.intro hw1 (And.intro cbo (And.intro hb7 (And.intro hget (And.intro hin (And.intro epg (And.intro hx hbw)))))))
                  clear g6 s6 i6 hthere hB' hbad h00 htab hbw2 bw1 cbo hb7 hget hpp epg hbw hx2 hin
                  obtain ⟨LE, hLE⟩ : ∃ LE, LE = loadE F ps ((an : Int) + (j : Int)) 1 1 := ⟨_, rfl⟩
                  obtain ⟨LN, hLN⟩ : ∃ LN, LN = loadN F ps B' ((an : Int) + (j : Int)) 1 1 := ⟨_, rfl⟩
                  rw [← hLE, ← hLN] at kl
                  rw [← hLE] at l1
                  rw [← hLN] at l2
                  rw [hw1] at kl
                  have hxn2 : (an + j) / 256 < np := by omega
                  rw [hx] at c1 c2
                  clear hw1 hLE hLN hxn hx
                  go_wp2_with (fail)
                  refine kl.mono ?_
                  rintro e u1 ⟨rfl, b1⟩
                  obtain ⟨hw1, cbo, hb7, hget, hin, epg, hx, hbw⟩ := hT.out
                  rw [← hw1] at b1
                  have cbo2 := (b1.block wr.heap.size (block_lt cbo)).trans cbo
                  have d0 : u1.cell? ⟨wr.heap.size, 0, none⟩ = some (.int .i64 f) := by rw [cell_of_row _ _ _ _ _ _ cbo2]; rfl
                  have d1 : u1.cell? ⟨wr.heap.size, 1, none⟩ = some (.int .i64 r) := by rw [cell_of_row _ _ _ _ _ _ cbo2]; rfl
                  have hbu : Below w7.heap.size w7 u1 := hb7.trans (b1.mono hb7.size)
                  obtain ⟨fn, rfl⟩ : ∃ fn : Nat, f = (fn : Int) := ⟨f.toNat, by omega⟩
                  have hfn : fn < F := by omega
                  have e1 := (H7.out.2.1.below hbu).cell fn (by rw [fbytes_len]; exact hfn)
                  rw [fbytes_get _ _ _ hfn] at e1
                  have f1 := frame_get H7.out.2.2.2.len hfn
                  obtain ⟨S1, hS1⟩ : ∃ S, S = ofL (frameB B' fn) := ⟨_, rfl⟩
                  rw [← hS1] at e1
                  have z1 : S1.size = 256 := by rw [hS1, ofL_size]; exact f1.1
                  have hm256 : (an + j) % 256 < 256 := by omega
                  have hsj : s.data.toList.getD j 0 = s[j] := by
                    rw [List.getD_eq_getElem?_getD, List.getElem?_eq_getElem (by rw [baList]; exact a1)]
                    rfl
                  have hpos : pos ps ((an : Int) + (j : Int)) = 256 * fn + (an + j) % 256 := by
                    unfold pos
                    rw [epg]
                    dsimp only
                    omega
                  rw [hsj] at hget
                  rw [hget] at l2
                  have y1 : ∀ h : (an + j) % 256 < S1.size, S1[(an + j) % 256] = s[j] := fun h => by
                    rw [byte_at f1 hS1 hm256 h, ← hpos]; exact hget
                  have hand := and1 r
                  have HB := Lib.hid (And.intro hbu y1)
                  clear hw1 cbo hb7 hget hin epg hx hbw b1 cbo2 hbu f1 hS1 hsj hpos y1 c1 c2 kl
                  have hwrap : wrap64 (s[j].toNat : Int) = (s[j].toNat : Int) := by
                    have := s[j].toNat_lt
                    unfold wrap64; omega
                  have hm0 : 0 ≤ ((an : Int) + (j : Int)) % 256 := by omega
                  have hm1 : ((an : Int) + (j : Int)) % 256 < 256 := by omega
                  by_cases r0 : r % 2 = 0
                  · rw [if_pos r0] at l1
                    rw [r0] at hand
                    subst l1
                    clear l2
                    go_wp2
                    go_quiet (fail)
                    go_wp2
                    · rename_i hcmp
                      rw [HB.out.2 (by omega)] at hcmp
                      simp at hcmp
                    · refine ⟨⟨j + 1, a1, rfl, below_drewN HB.out.1 nq⟩, ?_⟩
                      have z := a1
                      simp [intOf]; omega
                  · rw [if_neg r0] at l1
                    have r1 : r % 2 = 1 := by omega
                    rw [r1] at hand
                    have l3 := l2 r0
                    subst l1
                    subst l3
                    clear l2
                    go_wp2
                    go_quiet (fail)
                    go_wp2
                    · rename_i hcmp
                      rw [HB.out.2 (by omega)] at hcmp
                      simp at hcmp
                    · refine ⟨⟨j + 1, a1, rfl, below_drewN HB.out.1 nq⟩, ?_⟩
                      have z := a1
                      simp [intOf]; omega
                · obtain rfl : j = s.size := by omega
                  have HB := Lib.hid hbw
                  clear hbw
                  go_wp2
                  go_ret
                  exact ⟨rfl, H7.out.1.trans (HB.out.mono H7.out.1.size)⟩
        · have eB : writeB F ps B a s.data.toList = B := by
            unfold writeB
            rw [if_neg (by rw [baList]; exact hE)]
          rw [eB] at i6
          obtain ⟨E, hE2⟩ : ∃ E, E = writeE F ps a s.size := ⟨_, rfl⟩
          rw [← hE2] at hE ⊢
          have hE3 : (E == 0) = false := by simpa using hE
          have k7 := list_any p g cap F B w6 i6
          have H6 := Lib.hid (And.intro g6 s6)
          clear k6 i6 c6 g6 s6 eB hE2
          go_wp2_with (fail)
          refine k7.mono ?_
          rintro e w7 ⟨vn, rfl, s7, b7⟩
          have k8 := same_any vn _ (fbytes B F) (by rw [fbytes_len]; have := HM.out; omega) w7 s7 (H6.out.2.below b7)
          have g7 : Below w.heap.size w w7 := H6.out.1.trans (b7.mono H6.out.1.size)
          have H7 := Lib.hid g7
          clear k7 s7 b7 g7
          go_wp2_with (fail)
          refine k8.mono ?_
          rintro e w8 ⟨rfl, b8⟩
          have g8 : Below w.heap.size w w8 := H7.out.trans (b8.mono H7.out.size)
          clear k8 b8
          go_wp2
          go_ret
          exact ⟨rfl, g8⟩
  · have kn := new_no many wd h1
    go_wp2_with (fail)
    refine kn.mono ?_
    rintro e _ ⟨rfl, rfl⟩
    go_wp2_with (fail)
    refine (kf wd).mono ?_
    rintro e v2 ⟨rfl, b2⟩
    go_wp2
    go_ret
    exact ⟨rfl, HD.out.trans (b2.mono HD.out.size)⟩
end Go.Proofs.Ytnhfbeehoifddaa
