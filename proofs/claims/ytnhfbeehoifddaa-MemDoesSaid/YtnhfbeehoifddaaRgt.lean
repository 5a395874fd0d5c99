/- Fewer rights: what the law's call returns. Conditions: numbers that a machine holds. -/
import Derived.Test.YtnhfbeehoifddaaRgp
namespace Go.Proofs.Ytnhfbeehoifddaa
open Go.RowKit Go.Maps
set_option linter.unusedVariables false

theorem IsM.ch {w w' : World} {p g cap F g2 : Nat} {B : Bts} (h : IsM w p g cap F B) (hc : Ch (onB g2) w w') (h1 : p ≠ g2) (h2 : g ≠ g2) : IsM w' p g cap F B :=
  h.of_heap (hc.block p h.lt.1 h1) (hc.block g h.lt.2 h2)
theorem PgRow.below {W W' : World} {gf : Nat} {ps : List Pg} (h : PgRow W gf ps) (hb : Below W.heap.size W W') : PgRow W' gf ps := by
  obtain ⟨cur, h1, h2⟩ := h
  exact ⟨cur, (hb.block gf (block_lt h1)).trans h1, h2⟩
theorem PgRow.ch {W W' : World} {gf g : Nat} {ps : List Pg} (h : PgRow W gf ps) (hb : Ch (onB g) W W') (hn : gf ≠ g) : PgRow W' gf ps := by
  obtain ⟨cur, h1, h2⟩ := h
  exact ⟨cur, (hb.block gf (block_lt h1) hn).trans h1, h2⟩
/-- a memory and a table beside it, and what came in has not turned -/
def RB (w wa : World) (p g cap F gf : Nat) (fs : List Pg) (B : Bts) (W : World) : Prop := IsM W p g cap F B ∧ PgRow W gf fs ∧ Below wa.heap.size wa W ∧ Below w.heap.size w W
theorem RB.below {w wa W W' : World} {p g cap F gf : Nat} {fs : List Pg} {B : Bts} (h : RB w wa p g cap F gf fs B W) (hb : Below W.heap.size W W') : RB w wa p g cap F gf fs B W' :=
  ⟨h.1.below hb, h.2.1.below hb, h.2.2.1.trans (hb.mono h.2.2.1.size), h.2.2.2.trans (hb.mono h.2.2.2.size)⟩
theorem RB.ch {w wa W W' : World} {p g cap F gf : Nat} {fs : List Pg} {B B' : Bts} (h : RB w wa p g cap F gf fs B W) (hi : IsM W' p g cap F B') (hc : Ch (onB g) W W') (h1 : gf ≠ g) (h2 : wa.heap.size ≤ g) (h3 : w.heap.size ≤ g) : RB w wa p g cap F gf fs B' W' :=
  ⟨hi, h.2.1.ch hc h1, below_ch h.2.2.1 hc h.2.2.1.size h2, below_ch h.2.2.2 hc h.2.2.2.size h3⟩
theorem RB.other {w wa W W' : World} {p g cap F gf g2 : Nat} {fs : List Pg} {B : Bts} (h : RB w wa p g cap F gf fs B W) (hc : Ch (onB g2) W W') (h0 : p ≠ g2 ∧ g ≠ g2) (h1 : gf ≠ g2) (h2 : wa.heap.size ≤ g2) (h3 : w.heap.size ≤ g2) : RB w wa p g cap F gf fs B W' :=
  ⟨h.1.ch hc h0.1 h0.2, h.2.1.ch hc h1, below_ch h.2.2.1 hc h.2.2.1.size h2, below_ch h.2.2.2 hc h.2.2.2.size h3⟩
set_option maxRecDepth 20000 in
set_option maxHeartbeats 4000000 in
theorem rights_any (many : Int) (v : Value) (ps : List Pg) (mk a n : Int) (s : ByteArray) (w : World) (hm : In64 many) (hps : PgOk w v ps) (hmk : In64 mk) (ha : In64 a) (hn : In64 n) (hs : s.size ≤ 140737488351232) :
    Calls Try.prog 8 #[.int .i64 many, v, .agg #[.int .i64 mk, .int .i64 a, .int .i64 n, .string s]] w fun e w' => e = .returned (.bool true) ∧ Below w.heap.size w w' := by
  obtain ⟨q, np, cap0, rfl⟩ : ∃ q n cap, v = .slice q n cap := by obtain ⟨q, cap, e, _⟩ := hps.1; exact ⟨_, _, _, e⟩
  obtain rfl : np = ps.length := by obtain ⟨q, cap, e, _⟩ := hps.1; injection e
  obtain ⟨B0, hB0⟩ : ∃ B0, B0 = w.heap.size := ⟨_, rfl⟩
  obtain ⟨wa, hwa⟩ : ∃ wa, wa = w.alloc (.cells #[.int .i64 mk, .int .i64 a, .int .i64 n, .string s] 70) := ⟨_, rfl⟩
  have ba : Below w.heap.size w wa := by rw [hwa]; exact (Below.refl _ w).alloc (Nat.le_refl _) _
  have cb : wa.heap[B0]? = some (.cells #[.int .i64 mk, .int .i64 a, .int .i64 n, .string s] 70 (0, 0)) := by rw [hwa, hB0]; exact block_new _ _
  have kf := fixed_any
  by_cases h1 : 1 ≤ many ∧ many ≤ 160
  · obtain ⟨F, rfl⟩ : ∃ F : Nat, many = (F : Int) := ⟨many.toNat, by omega⟩
    have kn := new_any F wa (by omega)
    have HA := Lib.hid (And.intro hps (And.intro hwa (And.intro ba (And.intro cb (And.intro hB0 h1)))))
    clear hps ba cb hwa h1
    go_enter Try.func8, Try.ntmps8
    go_wp2_with (fail)
    rw [← HA.out.2.1]
    refine kn.mono ?_
    rintro e v1 ⟨p, rfl, g, cap, a1, b1, hp, hg⟩
    have HN := Lib.hid (And.intro a1 (And.intro b1 (And.intro hp hg)))
    clear a1 b1 hp hg kn
    go_wp2_with (fail)
    refine (kf v1).mono ?_
    rintro e v2 ⟨rfl, b2⟩
    obtain ⟨hps, hwa, ba, cb, hB0', h1⟩ := HA.out
    obtain ⟨a1, b1, hp, hg⟩ := HN.out
    have a2 := a1.below b2
    have g1 : Below wa.heap.size wa v2 := b1.trans (b2.mono b1.size)
    have g2 : Below w.heap.size w v2 := ba.trans (g1.mono ba.size)
    have ht2 := hps.1.below g2
    have hlen : ps.length ≤ 8796093022208 := by have := hps.2.2; omega
    obtain ⟨gf, capf, v3, happ, r3, hcf, hgf, b3⟩ := app_pages v2 _ _ ps ht2 hps.2.2
    have a3 := a2.below b3
    have g3 : Below wa.heap.size wa v3 := g1.trans (b3.mono g1.size)
    have g4 : Below w.heap.size w v3 := g2.trans (b3.mono g2.size)
    have hgg : gf ≠ g ∧ gf ≠ p := by have := a2.lt; omega
    have HS := Lib.hid (And.intro a3 (And.intro g3 (And.intro g4 (And.intro hp (And.intro hg (And.intro r3 (And.intro hcf (And.intro hgg (Nat.le_trans (by have := g1.size; omega : wa.heap.size ≤ v2.heap.size) hgf)))))))))
    have HHB := Lib.hid hB0
    clear hps hwa ba cb hB0' h1 a1 b1 hp hg a2 g1 g2 b2 kf ht2 r3 hcf hgf b3 a3 g3 g4 hgg hB0
    go_wp2_with (at_builtin; refine wpList_append_run rfl (.tmp 38) (.tmp 39) 32 rfl _ _ _ _ rfl rfl happ ?_)
    clear happ
    obtain ⟨N, hN⟩ : ∃ N, N = ps.length := ⟨_, rfl⟩
    rw [← hN] at hlen ⊢
    have HNN := Lib.hid hN
    clear hN
    go_loopw [10] (fun i wr => ∃ k : Nat, k ≤ N ∧ i = .int .i64 (k : Int) ∧ PgRow wr gf (lessK mk ps k) ∧ IsM wr p g cap F (nb (256 * F)) ∧ Below wa.heap.size wa wr ∧ Below w.heap.size w wr) (fun i _ => N - (intOf i).toNat)
    case atStart =>
      obtain ⟨a3, g3, g4, hp, hg, r3, hcf, hgg, _⟩ := HS.out
      exact ⟨0, Nat.zero_le _, rfl, by rw [lessK_zero]; exact r3, a3, g3, g4⟩
    case round =>
      obtain ⟨k, hk, rfl, r1, i1, i2, i3⟩ := hrel
      obtain ⟨a3, g3, g4, hp, hg, r3, hcf, hgg, hgw⟩ := HS.out
      obtain ⟨hps, hwa, ba, cb, hB0', h1⟩ := HA.out
      have cc : ∀ o u, (#[.int .i64 mk, .int .i64 a, .int .i64 n, .string s] : Array Value)[o]? = some u → wr.cell? ⟨w.heap.size, o, none⟩ = some u := fun o u hu => by
        have hb := cb
        rw [hB0'] at hb
        have : wa.cell? ⟨w.heap.size, o, none⟩ = some u := by rw [cell_of_row _ _ _ _ _ _ hb]; exact hu
        exact cell_below this i2
      by_cases a0 : k < N
      · have hk2 : k < ps.length := by rw [← HNN.out]; exact a0
        have c0 := cc 0 _ rfl
        have htr := hps.1.below i3
        obtain ⟨q', cap', e1, e2, hrow⟩ := htr
        injection e1 with e3 e4 e5
        obtain ⟨b, o, hq, hG, hlt, hcell⟩ := hrow (fun e => by rw [e] at hk2; simp at hk2)
        rw [← e3] at hq
        subst hq
        obtain ⟨t0, t1⟩ := hcell k hk2
        have hst := r1.set (m := mk) hk2
        obtain ⟨cur, hcur, hcells⟩ := r1
        obtain ⟨q0, q1⟩ := hcells k (by rw [lessK_len]; exact hk2)
        have cf : wr.cell? ⟨gf, k * 2 + 1, none⟩ = some (.int .i64 ((lessK mk ps k).getD k (0, 0)).2) := by rw [cell_of_row _ _ _ _ _ _ hcur]; exact q1
        have ff : wr.frozen? ⟨gf, k * 2 + 1, none⟩ = false := block_free hcur
        obtain ⟨rv, hrv⟩ : ∃ rv, rv = (ps.getD k (0, 0)).2 := ⟨_, rfl⟩
        obtain ⟨rw', hrw'⟩ : ∃ rw', rw' = ((lessK mk ps k).getD k (0, 0)).2 := ⟨_, rfl⟩
        rw [← hrv] at t1 hst
        rw [← hrw'] at cf
        have HR := Lib.hid (And.intro hst (And.intro i1 (And.intro i2 (And.intro i3 (And.intro hcur hrv)))))
        have hlr : lessR mk rv = bits .and .i64 (bits .and .i64 rv mk) 7 := rfl
        have d0 : wr.drew.cell? ⟨w.heap.size, 0, none⟩ = some (.int .i64 mk) := c0
        have d1 : wr.drew.cell? ⟨b, o + k * 2 + 1, none⟩ = some (.int .i64 rv) := t1
        have d2 : wr.drew.cell? ⟨gf, k * 2 + 1, none⟩ = some (.int .i64 rw') := cf
        have d3 : wr.drew.frozen? ⟨gf, k * 2 + 1, none⟩ = false := ff
        clear hps hwa ba cb hB0' h1 a3 g3 g4 hp hg r3 hcf hgg hgw cc i1 i2 i3 hcell hcells q0 q1 hst hcur e2 e4 e5 hrow hG hlt hrv hrw' t0 e3 hlr hk2 c0 t1 cf ff
        go_wp2
        go_still_tail 13, (by kernel_rfl)
        change wpList _ _ _ _ _ wr.drew
        obtain ⟨wd, hwd⟩ : ∃ wd, wd = wr.drew := ⟨_, rfl⟩
        rw [← hwd] at d0 d1 d2 d3 ⊢
        have HWD := Lib.hid hwd
        clear hwd
        go_wp2
        obtain ⟨hst, i1, i2, i3, hcur, hrv⟩ := HR.out
        obtain ⟨a3, g3, g4, hp, hg, r3, hcf, hgg, hgw⟩ := HS.out
        have hwd := HWD.out
        have hdr : Below wr.heap.size wr wd := by rw [hwd]; exact ⟨rfl, rfl, rfl, Nat.le_refl _, fun _ _ => rfl⟩
        refine ⟨⟨k + 1, a0, rfl, ?_, ?_, ?_, ?_⟩, ?_⟩
        · rw [hwd]; exact hst
        · exact (i1.below hdr).of_heap (block_setCell_other (fun e => hgg.2 e.symm)) (block_setCell_other (fun e => hgg.1 e.symm))
        · exact (i2.trans (hdr.mono i2.size)).setCell (p := ⟨gf, k * 2 + 1, none⟩) hgw _
        · exact (i3.trans (hdr.mono i3.size)).setCell (p := ⟨gf, k * 2 + 1, none⟩) (Nat.le_trans HA.out.2.2.1.size hgw) _
        · have z := a0
          simp [intOf]; omega
      · obtain rfl : k = N := by omega
        rw [HNN.out, lessK_all] at r1
        have h0 : RB w wa p g cap F gf (ps.map (lessP mk)) (nb (256 * F)) wr := ⟨i1, r1, i2, i3⟩
        have HC : Hid (∀ W B, RB w wa p g cap F gf (ps.map (lessP mk)) B W → W.cell? ⟨w.heap.size, 1, none⟩ = some (.int .i64 a) ∧ W.cell? ⟨w.heap.size, 2, none⟩ = some (.int .i64 n) ∧ W.cell? ⟨w.heap.size, 3, none⟩ = some (.string s)) := fun W B h => by
          have hb := cb
          rw [hB0'] at hb
          have k1 : ∀ o u, (#[.int .i64 mk, .int .i64 a, .int .i64 n, .string s] : Array Value)[o]? = some u → W.cell? ⟨w.heap.size, o, none⟩ = some u := fun o u hu => by
            have : wa.cell? ⟨w.heap.size, o, none⟩ = some u := by rw [cell_of_row _ _ _ _ _ _ hb]; exact hu
            exact cell_below this h.2.2.1
          exact ⟨k1 1 _ rfl, k1 2 _ rfl, k1 3 _ rfl⟩
        have HT1 : Hid (∀ W B, RB w wa p g cap F gf (ps.map (lessP mk)) B W → TabV (fun b => b < w.heap.size) W (.slice q k cap0) ps) := fun W B h => by rw [HNN.out]; exact hps.1.below h.2.2.2
        have HT2 : Hid (∀ W B, RB w wa p g cap F gf (ps.map (lessP mk)) B W → TabV (fun b => b = gf) W (.slice (some ⟨gf, 0, none⟩) k capf) (ps.map (lessP mk))) := fun W B h => by
          have := h.2.1.tab (cap := capf) (by rw [List.length_map]; exact hcf)
          rw [List.length_map, ← HNN.out] at this
          exact this
        have hw1 : w.heap.size ≤ wa.heap.size := ba.size
        have HG := Lib.hid (And.intro hp (And.intro hg (And.intro hgg (And.intro hgw hw1))))
        have H0 := Lib.hid h0
        have k1 := check_any p g cap F _ wr i1 _ _ ps (HT1.out wr _ h0)
        clear hps hwa ba cb hB0' h1 a3 g3 g4 hp hg r3 hcf hgg hgw cc i1 i2 i3 r1 h0 hw1 a0
        by_cases c0 : chk F ps = 0
        · rw [c0] at k1
          go_wp2_with (fail)
          refine k1.mono ?_
          rintro e u1 ⟨rfl, b1⟩
          have h1 := H0.out.below b1
          have k2 := check_any p g cap F _ u1 h1.1 _ _ _ (HT2.out u1 _ h1)
          rw [less_chk c0] at k2
          have H1 := Lib.hid h1
          clear h1 b1 k1
          go_wp2_with (fail)
          refine k2.mono ?_
          rintro e u2 ⟨rfl, b2⟩
          have h2 := H1.out.below b2
          obtain ⟨_, _, x3⟩ := HC.out u2 _ h2
          have k3 := write_any p g cap F _ u2 h2.1 (fun b => b < w.heap.size) (by have := HG.out; omega) _ ps (HT1.out u2 _ h2) 0 s (by unfold In64; omega) (by omega)
          have H2 := Lib.hid h2
          clear h2 b2 k2
          obtain ⟨B1, hB1⟩ : ∃ B1, B1 = writeB F ps (nb (256 * F)) 0 s.data.toList := ⟨_, rfl⟩
          rw [← hB1] at k3
          generalize writeE F ps 0 s.size = e3 at k3
          go_wp2_with (fail)
          refine k3.mono ?_
          rintro e u3 ⟨rfl, j3, c3⟩
          have h3 := H2.out.ch j3 c3 HG.out.2.2.1.1 HG.out.2.1 (Nat.le_trans HG.out.2.2.2.2 HG.out.2.1)
          obtain ⟨x1, x2, x3'⟩ := HC.out u3 _ h3
          have k4 := read_any p g cap F _ u3 h3.1 _ _ _ (HT2.out u3 _ h3) a n 1 ha
          have hpure := fun h => less_read (F := F) (m := mk) (ps := ps) (R := 1) c0 B1 a n h
          obtain ⟨E1, hE1⟩ : ∃ E, E = readE F (ps.map (lessP mk)) a n 1 := ⟨_, rfl⟩
          obtain ⟨S1, hS1⟩ : ∃ S, S = readS F (ps.map (lessP mk)) B1 a n 1 := ⟨_, rfl⟩
          rw [← hE1, ← hS1] at k4 hpure
          have H3 := Lib.hid h3
          have HP := Lib.hid hpure
          clear h3 c3 j3 k3 hE1 hS1 hpure hB1
          go_wp2_with (fail)
          refine k4.mono ?_
          rintro e u4 ⟨rfl, b4⟩
          have h4 := H3.out.below b4
          obtain ⟨y1, y2, y3⟩ := HC.out u4 _ h4
          have k5 := read_any p g cap F _ u4 h4.1 _ _ ps (HT1.out u4 _ h4) a n 1 ha
          have hpure := HP.out
          obtain ⟨E2, hE2⟩ : ∃ E, E = readE F ps a n 1 := ⟨_, rfl⟩
          obtain ⟨S2, hS2⟩ : ∃ S, S = readS F ps B1 a n 1 := ⟨_, rfl⟩
          rw [← hE2, ← hS2] at k5 hpure
          have H4 := Lib.hid h4
          have HP2 := Lib.hid hpure
          clear h4 b4 k4 hE2 hS2 hpure HP
          go_wp2_with (fail)
          refine k5.mono ?_
          rintro e u5 ⟨rfl, b5⟩
          have H5 := Lib.hid (H4.out.below b5)
          clear b5 k5 x1 x2 x3 x3' y1 y2 y3
          have k6 := clone_any p g cap F _ u5 H5.out.1
          obtain ⟨wrE, hwrE⟩ : ∃ x, x = writeE F (ps.map (lessP mk)) a s.size := ⟨_, rfl⟩
          have HWP : Hid (wrE = 0 → writeE F ps a s.size = 0 ∧ writeB F (ps.map (lessP mk)) B1 a s.data.toList = writeB F ps B1 a s.data.toList) := fun h => by
            have := less_write (F := F) (m := mk) (ps := ps) c0 B1 a s.data.toList (by rw [baList, ← hwrE]; exact h)
            rw [baList] at this
            exact this
          have hsame : E1 = 0 → E2 = 0 ∧ S1 = S2 := HP2.out
          have HRW : Hid (∀ u6 p2 g2 cap2, u5.heap.size ≤ g2 → u5.heap.size ≤ p2 → Below u5.heap.size u5 u6 → IsM u6 p2 g2 cap2 F B1 → Calls Try.prog 27 #[.pointer (some ⟨p, 0, none⟩), .slice (some ⟨gf, 0, none⟩) k capf, .int .i64 a, .string s] u6 fun e u7 => e = .returned (.int .i64 wrE) ∧ IsM u7 p g cap F (writeB F (ps.map (lessP mk)) B1 a s.data.toList) ∧ Ch (onB g) u6 u7) := fun u6 p2 g2 cap2 q1 q2 b6 i6 => by
            have h6 := H5.out.below b6
            have := write_any p g cap F _ u6 h6.1 (fun b => b = gf) (fun e => HG.out.2.2.1.1 e.symm) _ _ (HT2.out u6 _ h6) a s ha (by omega)
            rw [← hwrE] at this
            exact this
          clear hwrE
          by_cases z1 : E1 = 0
          · obtain ⟨z2, z3⟩ := hsame z1
            subst z1 z2 z3
            clear hsame HP2
            go_wp2_with (fail)
            refine k6.mono ?_
            rintro e u6 ⟨p2, rfl, g2, cap2, i6, b6, hp2, hg2⟩
            have h6 := H5.out.below b6
            have k7 := HRW.out u6 p2 g2 cap2 hg2 hp2 b6 i6
            obtain ⟨x1, _, x3⟩ := HC.out u6 _ h6
            have hlt5 := H5.out.1.lt
            have hgf5 : gf < u5.heap.size := by obtain ⟨cur, hcur, _⟩ := H5.out.2.1; exact block_lt hcur
            have hsz5 := H5.out.2.2.1.size
            have HN2 := Lib.hid (And.intro hp2 (And.intro hg2 (And.intro hlt5 (And.intro hgf5 hsz5))))
            have H6 := Lib.hid (And.intro h6 i6)
            clear h6 i6 b6 hp2 hg2 k6 HRW hlt5 hgf5 hsz5
            go_wp2_with (fail)
            refine k7.mono ?_
            rintro e u7 ⟨rfl, j7, c7⟩
            obtain ⟨hp2, hg2, hlt5, hgf5, hsz5⟩ := HN2.out
            have h7 := H6.out.1.ch j7 c7 HG.out.2.2.1.1 HG.out.2.1 (Nat.le_trans HG.out.2.2.2.2 HG.out.2.1)
            have i7 : IsM u7 p2 g2 cap2 F B1 := H6.out.2.ch c7 (by omega) (by omega)
            obtain ⟨y1, _, y3⟩ := HC.out u7 _ h7
            have k8 := write_any p2 g2 cap2 F B1 u7 i7 (fun b => b < w.heap.size) (by have := HG.out.2.2.2.2; omega) _ ps (HT1.out u7 _ h7) a s ha (by omega)
            have H7 := Lib.hid (And.intro h7 i7)
            clear h7 i7 j7 c7 k7 hp2 hg2 hlt5 hgf5 hsz5 x1 x3
            obtain ⟨wrT, hwrT⟩ : ∃ x, x = writeE F ps a s.size := ⟨_, rfl⟩
            rw [← hwrT] at k8 HWP
            clear hwrT
            go_wp2_with (fail)
            refine k8.mono ?_
            rintro e u8 ⟨rfl, j8, c8⟩
            obtain ⟨hp2, hg2, hlt5, hgf5, hsz5⟩ := HN2.out
            have h8 := H7.out.1.other c8 ⟨by omega, by omega⟩ (by omega) (by omega) (by have := HG.out.2.2.2.2; omega)
            have hfin := h8.2.2.2
            have i8m := h8.1
            clear k8 c8 h8 hp2 hg2 hlt5 hgf5 hsz5 y1 y3
            by_cases z5 : wrE = 0
            · obtain ⟨z6, z7⟩ := HWP.out z5
              rw [z7] at i8m
              obtain ⟨B3, hB3⟩ : ∃ B3, B3 = writeB F ps B1 a s.data.toList := ⟨_, rfl⟩
              rw [← hB3] at i8m j8
              have H8 := Lib.hid (And.intro i8m (And.intro j8 hfin))
              subst z5 z6
              clear i8m j8 hfin hB3 z7
              go_wp2
              go_loopw [17] (fun i wr => ∃ k : Nat, k ≤ F ∧ i = .int .i64 (k : Int) ∧ wr = u8) (fun i _ => F - (intOf i).toNat)
              case atStart => exact ⟨0, Nat.zero_le _, rfl, rfl⟩
              case round =>
                obtain ⟨kk, hkk, rfl, rfl⟩ := hrel
                have hF := H8.out.1.hi
                by_cases a1 : kk < F
                · have f1 := frame_any p g cap F B3 wr H8.out.1 (kk : Int)
                  have f2 := frame_any p2 g2 cap2 F B3 wr H8.out.2.1 (kk : Int)
                  rw [if_pos (by unfold isF; omega), Int.toNat_natCast] at f1 f2
                  generalize ofL (frameB B3 kk) = X at f1 f2
                  have HX := Lib.hid f2
                  clear f2
                  go_wp2_with (fail)
                  refine f1.mono ?_
                  rintro e _ ⟨rfl, rfl⟩
                  have f2 := HX.out
                  clear f1
                  go_wp2_with (fail)
                  refine f2.mono ?_
                  rintro e _ ⟨rfl, rfl⟩
                  go_wp2
                  refine ⟨⟨kk + 1, a1, rfl, trivial⟩, ?_⟩
                  have z := a1
                  simp [intOf]; omega
                · obtain rfl : kk = F := by omega
                  go_wp2
                  go_ret
                  exact ⟨rfl, H8.out.2.2⟩
            · go_wp2
              go_ret
              exact ⟨rfl, hfin⟩
          · have z1' : (E1 == 0) = false := by simpa using z1
            clear hsame HP2
            by_cases z81 : E2 = 81
            · subst z81
              go_wp2_with (fail)
              refine k6.mono ?_
              rintro e u6 ⟨p2, rfl, g2, cap2, i6, b6, hp2, hg2⟩
              have h6 := H5.out.below b6
              have k7 := HRW.out u6 p2 g2 cap2 hg2 hp2 b6 i6
              obtain ⟨x1, _, x3⟩ := HC.out u6 _ h6
              have hlt5 := H5.out.1.lt
              have hgf5 : gf < u5.heap.size := by obtain ⟨cur, hcur, _⟩ := H5.out.2.1; exact block_lt hcur
              have hsz5 := H5.out.2.2.1.size
              have HN2 := Lib.hid (And.intro hp2 (And.intro hg2 (And.intro hlt5 (And.intro hgf5 hsz5))))
              have H6 := Lib.hid (And.intro h6 i6)
              clear h6 i6 b6 hp2 hg2 k6 HRW hlt5 hgf5 hsz5
              go_wp2_with (fail)
              refine k7.mono ?_
              rintro e u7 ⟨rfl, j7, c7⟩
              obtain ⟨hp2, hg2, hlt5, hgf5, hsz5⟩ := HN2.out
              have h7 := H6.out.1.ch j7 c7 HG.out.2.2.1.1 HG.out.2.1 (Nat.le_trans HG.out.2.2.2.2 HG.out.2.1)
              have i7 : IsM u7 p2 g2 cap2 F B1 := H6.out.2.ch c7 (by omega) (by omega)
              obtain ⟨y1, _, y3⟩ := HC.out u7 _ h7
              have k8 := write_any p2 g2 cap2 F B1 u7 i7 (fun b => b < w.heap.size) (by have := HG.out.2.2.2.2; omega) _ ps (HT1.out u7 _ h7) a s ha (by omega)
              have H7 := Lib.hid (And.intro h7 i7)
              clear h7 i7 j7 c7 k7 hp2 hg2 hlt5 hgf5 hsz5 x1 x3
              obtain ⟨wrT, hwrT⟩ : ∃ x, x = writeE F ps a s.size := ⟨_, rfl⟩
              rw [← hwrT] at k8 HWP
              clear hwrT
              go_wp2_with (fail)
              refine k8.mono ?_
              rintro e u8 ⟨rfl, j8, c8⟩
              obtain ⟨hp2, hg2, hlt5, hgf5, hsz5⟩ := HN2.out
              have h8 := H7.out.1.other c8 ⟨by omega, by omega⟩ (by omega) (by omega) (by have := HG.out.2.2.2.2; omega)
              have hfin := h8.2.2.2
              have i8m := h8.1
              clear k8 c8 h8 hp2 hg2 hlt5 hgf5 hsz5 y1 y3
              by_cases z5 : wrE = 0
              · obtain ⟨z6, z7⟩ := HWP.out z5
                rw [z7] at i8m
                obtain ⟨B3, hB3⟩ : ∃ B3, B3 = writeB F ps B1 a s.data.toList := ⟨_, rfl⟩
                rw [← hB3] at i8m j8
                have H8 := Lib.hid (And.intro i8m (And.intro j8 hfin))
                subst z5 z6
                clear i8m j8 hfin hB3 z7
                go_wp2
                go_loopw [17] (fun i wr => ∃ k : Nat, k ≤ F ∧ i = .int .i64 (k : Int) ∧ wr = u8) (fun i _ => F - (intOf i).toNat)
                case atStart => exact ⟨0, Nat.zero_le _, rfl, rfl⟩
                case round =>
                  obtain ⟨kk, hkk, rfl, rfl⟩ := hrel
                  have hF := H8.out.1.hi
                  by_cases a1 : kk < F
                  · have f1 := frame_any p g cap F B3 wr H8.out.1 (kk : Int)
                    have f2 := frame_any p2 g2 cap2 F B3 wr H8.out.2.1 (kk : Int)
                    rw [if_pos (by unfold isF; omega), Int.toNat_natCast] at f1 f2
                    generalize ofL (frameB B3 kk) = X at f1 f2
                    have HX := Lib.hid f2
                    clear f2
                    go_wp2_with (fail)
                    refine f1.mono ?_
                    rintro e _ ⟨rfl, rfl⟩
                    have f2 := HX.out
                    clear f1
                    go_wp2_with (fail)
                    refine f2.mono ?_
                    rintro e _ ⟨rfl, rfl⟩
                    go_wp2
                    refine ⟨⟨kk + 1, a1, rfl, trivial⟩, ?_⟩
                    have z := a1
                    simp [intOf]; omega
                  · obtain rfl : kk = F := by omega
                    go_wp2
                    go_ret
                    exact ⟨rfl, H8.out.2.2⟩
              · go_wp2
                go_ret
                exact ⟨rfl, hfin⟩
            · have z81' : (E2 == 81) = false := by simpa using z81
              go_wp2_with (fail)
              refine k6.mono ?_
              rintro e u6 ⟨p2, rfl, g2, cap2, i6, b6, hp2, hg2⟩
              have h6 := H5.out.below b6
              have k7 := HRW.out u6 p2 g2 cap2 hg2 hp2 b6 i6
              obtain ⟨x1, _, x3⟩ := HC.out u6 _ h6
              have hlt5 := H5.out.1.lt
              have hgf5 : gf < u5.heap.size := by obtain ⟨cur, hcur, _⟩ := H5.out.2.1; exact block_lt hcur
              have hsz5 := H5.out.2.2.1.size
              have HN2 := Lib.hid (And.intro hp2 (And.intro hg2 (And.intro hlt5 (And.intro hgf5 hsz5))))
              have H6 := Lib.hid (And.intro h6 i6)
              clear h6 i6 b6 hp2 hg2 k6 HRW hlt5 hgf5 hsz5
              go_wp2_with (fail)
              refine k7.mono ?_
              rintro e u7 ⟨rfl, j7, c7⟩
              obtain ⟨hp2, hg2, hlt5, hgf5, hsz5⟩ := HN2.out
              have h7 := H6.out.1.ch j7 c7 HG.out.2.2.1.1 HG.out.2.1 (Nat.le_trans HG.out.2.2.2.2 HG.out.2.1)
              have i7 : IsM u7 p2 g2 cap2 F B1 := H6.out.2.ch c7 (by omega) (by omega)
              obtain ⟨y1, _, y3⟩ := HC.out u7 _ h7
              have k8 := write_any p2 g2 cap2 F B1 u7 i7 (fun b => b < w.heap.size) (by have := HG.out.2.2.2.2; omega) _ ps (HT1.out u7 _ h7) a s ha (by omega)
              have H7 := Lib.hid (And.intro h7 i7)
              clear h7 i7 j7 c7 k7 hp2 hg2 hlt5 hgf5 hsz5 x1 x3
              obtain ⟨wrT, hwrT⟩ : ∃ x, x = writeE F ps a s.size := ⟨_, rfl⟩
              rw [← hwrT] at k8 HWP
              clear hwrT
              go_wp2_with (fail)
              refine k8.mono ?_
              rintro e u8 ⟨rfl, j8, c8⟩
              obtain ⟨hp2, hg2, hlt5, hgf5, hsz5⟩ := HN2.out
              have h8 := H7.out.1.other c8 ⟨by omega, by omega⟩ (by omega) (by omega) (by have := HG.out.2.2.2.2; omega)
              have hfin := h8.2.2.2
              have i8m := h8.1
              clear k8 c8 h8 hp2 hg2 hlt5 hgf5 hsz5 y1 y3
              by_cases z5 : wrE = 0
              · obtain ⟨z6, z7⟩ := HWP.out z5
                rw [z7] at i8m
                obtain ⟨B3, hB3⟩ : ∃ B3, B3 = writeB F ps B1 a s.data.toList := ⟨_, rfl⟩
                rw [← hB3] at i8m j8
                have H8 := Lib.hid (And.intro i8m (And.intro j8 hfin))
                subst z5 z6
                clear i8m j8 hfin hB3 z7
                go_wp2
                go_loopw [17] (fun i wr => ∃ k : Nat, k ≤ F ∧ i = .int .i64 (k : Int) ∧ wr = u8) (fun i _ => F - (intOf i).toNat)
                case atStart => exact ⟨0, Nat.zero_le _, rfl, rfl⟩
                case round =>
                  obtain ⟨kk, hkk, rfl, rfl⟩ := hrel
                  have hF := H8.out.1.hi
                  by_cases a1 : kk < F
                  · have f1 := frame_any p g cap F B3 wr H8.out.1 (kk : Int)
                    have f2 := frame_any p2 g2 cap2 F B3 wr H8.out.2.1 (kk : Int)
                    rw [if_pos (by unfold isF; omega), Int.toNat_natCast] at f1 f2
                    generalize ofL (frameB B3 kk) = X at f1 f2
                    have HX := Lib.hid f2
                    clear f2
                    go_wp2_with (fail)
                    refine f1.mono ?_
                    rintro e _ ⟨rfl, rfl⟩
                    have f2 := HX.out
                    clear f1
                    go_wp2_with (fail)
                    refine f2.mono ?_
                    rintro e _ ⟨rfl, rfl⟩
                    go_wp2
                    refine ⟨⟨kk + 1, a1, rfl, trivial⟩, ?_⟩
                    have z := a1
                    simp [intOf]; omega
                  · obtain rfl : kk = F := by omega
                    go_wp2
                    go_ret
                    exact ⟨rfl, H8.out.2.2⟩
              · go_wp2
                go_ret
                exact ⟨rfl, hfin⟩
        · have c8 : chk F ps = 84 := by unfold chk at c0 ⊢; split at c0 <;> simp_all
          rw [c8] at k1
          go_wp2_with (fail)
          refine k1.mono ?_
          rintro e u1 ⟨rfl, b1⟩
          have h1 := H0.out.below b1
          have k2 := check_any p g cap F _ u1 h1.1 _ _ ps (HT1.out u1 _ h1)
          rw [c8] at k2
          have H1 := Lib.hid h1
          clear h1 b1 k1
          go_wp2_with (fail)
          refine k2.mono ?_
          rintro e u2 ⟨rfl, b2⟩
          have h2 := H1.out.below b2
          go_wp2
          go_ret
          exact ⟨rfl, h2.2.2.2⟩
  · have kn := new_no many wa h1
    have HA := Lib.hid (And.intro hwa (And.intro ba hB0))
    clear hps ba cb hwa h1
    go_enter Try.func8, Try.ntmps8
    go_wp2_with (fail)
    rw [← HA.out.1]
    refine kn.mono ?_
    rintro e _ ⟨rfl, rfl⟩
    go_wp2_with (fail)
    refine (kf wa).mono ?_
    rintro e v2 ⟨rfl, b2⟩
    go_wp2
    go_ret
    exact ⟨rfl, HA.out.2.1.trans (b2.mono HA.out.2.1.size)⟩
end Go.Proofs.Ytnhfbeehoifddaa
