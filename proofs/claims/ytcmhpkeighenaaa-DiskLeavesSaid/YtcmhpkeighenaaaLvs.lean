/- What is left of each sector: the walk of DiskLeaves. Conditions: sizes that a machine holds. -/
import Derived.Test.YtcmhpkeighenaaaLvp
import Derived.Test.YtcmhpkeighenaaaSlf
namespace Go.Proofs.Ytcmhpkeighenaaa
open Go.RowKit Go.Maps
set_option linter.unusedVariables false

theorem sec_str (L : Bts) (i : Nat) : (ofL L).extract (128 * i) (128 * i + 128) = ofL (sec L i) := by
  rw [ofL_extract, show 128 * i + 128 - 128 * i = 128 by omega]; rfl
theorem uw (c i o1 o2 n : Nat) (hhi : c ≤ 4096) (hi : i < c) (h1 : o1 = 128 * i) (h2 : o2 = 128 * i + 128) (hn : n = 128 * c) :
    (128 : Int) * (i : Int) = (o1 : Int) ∧ (o1 : Int) + 128 = (o2 : Int) ∧ IntKind.i64.wrap (o1 : Int) = (o1 : Int) ∧ IntKind.i64.wrap (o2 : Int) = (o2 : Int) ∧
    (o1 : Int) ≤ (n : Int) ∧ (o2 : Int) ≤ (n : Int) ∧ (o1 : Int) ≤ (o2 : Int) :=
  ⟨by omega, by omega, wrapI _ (by omega) (by omega), wrapI _ (by omega) (by omega), by omega, by omega, by omega⟩
theorem str_at {X : ByteArray} {l : Bts} {t : Nat} (h : X = ofL l) (ht : t < l.length) : ∃ x : UInt8, l[t]? = some x ∧ ∀ W, (Instr.index 9 (.string X) (.int .i64 (t : Int))).run Try.prog W = .ok (.int .u8 (x.toNat : Int)) W := by
  refine ⟨l[t], List.getElem?_eq_getElem ht, fun W => ?_⟩
  have hs : X.size = l.length := by rw [h, ofL_size]
  rw [run_index_string W 9 X .i64 (t : Int) Try.underlying9, dif_pos ⟨by omega, by omega⟩]
  subst h
  simp [ofL]
  rfl
theorem wrapT (t : Nat) (h : t ≤ 128) : wrap64 ((t : Int) + 1) = ((t + 1 : Nat) : Int) := by unfold wrap64; omega
theorem row_slice {W : World} {base : Nat} {v : Value} {l : List Int} (h : W.ownsRow base 3 1 v l.length (l.map cellI)) : ∃ q cap, v = .slice q l.length cap := by
  obtain ⟨h0, ⟨h1, h2⟩ | ⟨g, cap, cur, hv, _⟩⟩ := h
  · exact ⟨none, 0, by rw [h1, h2]⟩
  · exact ⟨_, cap, hv⟩
theorem lose_image {S : St} (h : S.ok) (ch : List Int) : (S.lose ch).image = S.after ch := by
  unfold St.image; rw [dry_left (h.lose ch).1 rfl]; rfl
set_option maxRecDepth 20000 in
set_option maxHeartbeats 8000000 in
theorem leaves_any (s : ByteArray) (v : Value) (l : List Opr) (va : Value) (ch : List Int) (w : World) (hs : s.size ≤ 140737488355328) (hsc : Script w v l) (hA : ChOk w va ch) :
    Calls Try.prog 4 #[.string s, v, va] w fun e w' => e = .returned (.bool true) ∧ Below w.heap.size w w' := by
  obtain ⟨B0, hB0⟩ : ∃ B0, B0 = w.heap.size := ⟨_, rfl⟩
  obtain ⟨qa, na, ca, ea⟩ := hA.1.slice
  have kfix : Hid (∀ W, Calls Try.prog 10 #[] W fun e w' => e = .returned (.bool true) ∧ Below W.heap.size W w') := fun W => fixed_any W
  subst ea
  have HB0 := Lib.hid hB0
  have hAh := Lib.hid hA
  by_cases bad : Bad s
  · have k1 := Lib.hid (made_bad s v w hs bad)
    have k2 : Hid (∀ W, Calls Try.prog 9 #[.string s] W fun e w' => e = .returned (.tuple #[.pointer none, .int .i64 70]) ∧ Below W.heap.size W w') := fun W => rnew_bad s bad hs W
    clear hA hsc hs bad hB0
    go_enter Try.func4, Try.ntmps4
    go_wp2_with (fail)
    refine k1.out.mono ?_
    rintro e v1 ⟨rfl, b1⟩
    go_wp2_with (fail)
    refine (k2.out _).mono ?_
    rintro e v2 ⟨rfl, b2⟩
    go_wp2_with (fail)
    refine (kfix.out _).mono ?_
    rintro e v3 ⟨rfl, b3⟩
    go_wp2
    go_ret
    exact ⟨rfl, below_trans (below_trans b1 b2) b3⟩
  · have k1 := Lib.hid (made_any s v l w hs bad hsc)
    clear hA hsc bad hs
    go_enter Try.func4, Try.ntmps4
    go_wp2_with (fail)
    refine k1.out.mono ?_
    rintro e v1 ⟨p, S, rfl, a1, hcalm, b1⟩
    obtain ⟨B, hB⟩ : ∃ B, B = w.heap.size := ⟨_, rfl⟩
    rw [← hB] at a1 b1
    have HBB : Hid (B0 ≤ B) := by unfold Hid; rw [hB, HB0.out]; exact Nat.le_refl _
    have g1 : Below B0 w v1 := by rw [hB0, ← hB]; exact b1
    have s1' : B ≤ v1.heap.size := by have := b1.size; omega
    have hcA : Hid (∀ W, Below B0 w W → ChOk W (.slice qa na ca) ch) := fun W hW => by
      rw [HB0.out] at hW
      exact hAh.out.below hW
    clear b1 hB hB0
    have hok := hcalm.ok
    obtain ⟨c, hc⟩ : ∃ c, c = S.count := ⟨_, rfl⟩
    have hlen := hok.len
    have hlo := hok.lo
    have hhi := hok.hi
    have hsl := hcalm.len
    rw [← hc] at hlen hlo hhi
    obtain ⟨f, hf⟩ : ∃ f, f = part ch := ⟨_, rfl⟩
    have hfl : ∀ i, f i ≤ 128 := by rw [hf]; exact part_le ch
    obtain ⟨Xi, hXi⟩ : ∃ X, X = ofL S.image := ⟨_, rfl⟩
    obtain ⟨Xs, hXs⟩ : ∃ X, X = ofL S.safe := ⟨_, rfl⟩
    obtain ⟨Xl, hXl⟩ : ∃ X, X = ofL (S.after ch) := ⟨_, rfl⟩
    have li : S.image.length = 128 * c := by rw [hc]; exact S.left_len hok full full_le
    have ll : (S.after ch).length = 128 * c := by rw [hc]; exact S.left_len hok (part ch) (part_le ch)
    have zi : Xi.size = s.size := by rw [hXi, ofL_size, li]; omega
    have zs : Xs.size = s.size := by rw [hXs, ofL_size]; omega
    have zl : Xl.size = s.size := by rw [hXl, ofL_size, ll]; omega
    obtain ⟨S1, hS1⟩ : ∃ S1, S1 = S.lose ch := ⟨_, rfl⟩
    have hcr : S.crash ch = (S1, 0) := by unfold St.crash; rw [if_neg (by rw [hcalm.dead]; exact Bool.false_ne_true), hS1]
    have hcr2 : (S1.crash ch).2 = 2 := by unfold St.crash; rw [hS1, if_pos (show (S.lose ch).dead = true from rfl)]
    have i1 : ofL S1.image = Xl := by rw [hXl, hS1, lose_image hok]
    have i2 : ofL S1.safe = Xl := by rw [hXl, hS1]; rfl
    have hw1 : S1.wr = fun _ => none := by rw [hS1]; rfl
    obtain ⟨N, hN⟩ : ∃ N, N = S.waitI.length := ⟨_, rfl⟩
    have kim : Hid (∀ W, At W B p S → Calls Try.prog 17 #[.pointer (some ⟨p, 0, none⟩)] W fun e w' => e = .returned (.string Xi) ∧ Below W.heap.size W w') := fun W h => by have := image_at B p S W h; rw [← hXi] at this; exact this
    have ksf : Hid (∀ W, At W B p S → Calls Try.prog 18 #[.pointer (some ⟨p, 0, none⟩)] W fun e w' => e = .returned (.string Xs) ∧ Below W.heap.size W w') := fun W h => by have := safe_at B p S W h; rw [← hXs] at this; exact this
    have kaf : Hid (∀ W, At W B p S → Below B0 w W → Calls Try.prog 19 #[.pointer (some ⟨p, 0, none⟩), .slice qa na ca] W fun e w' => e = .returned (.string Xl) ∧ Below W.heap.size W w') := fun W h hW => by have := after_at B p S W h _ _ ch (hcA.out W hW).1; rw [← hXl] at this; exact this
    have kwt : Hid (∀ W, At W B p S → Calls Try.prog 20 #[.pointer (some ⟨p, 0, none⟩)] W fun e w' => ∃ q cap, e = .returned (.slice q N cap) ∧ w'.ownsRow W.heap.size 3 1 (.slice q N cap) N (S.waitI.map cellI) ∧ Below W.heap.size W w') := fun W h => (waiting_at B p S W h).mono fun e w' ⟨v, he, hr, hb⟩ => by
      obtain ⟨q, cap, hv⟩ := row_slice hr
      rw [← hN] at hv hr
      exact ⟨q, cap, by rw [he, hv], by rw [← hv]; exact hr, hb⟩
    have kct : Hid (∀ W, At W B p S → Calls Try.prog 21 #[.pointer (some ⟨p, 0, none⟩)] W fun e w' => e = .returned (.int .i64 (c : Int)) ∧ W = w') := fun W h => by have := count_at B p S W h; rw [← hc] at this; exact this
    have kcl : Hid (∀ W, At W B p S → Calls Try.prog 12 #[.pointer (some ⟨p, 0, none⟩)] W fun e w' => ∃ p', e = .returned (.pointer (some ⟨p', 0, none⟩)) ∧ At w' W.heap.size p' S ∧ Below W.heap.size W w') := fun W h => clone_at B p S W h
    have kcr1 : Hid (∀ W C p', At W C p' S → C ≤ W.heap.size → Below B0 w W → Calls Try.prog 22 #[.pointer (some ⟨p', 0, none⟩), .slice qa na ca] W fun e w' => e = .returned (.int .i64 0) ∧ At w' C p' S1 ∧ Below C W w') := fun W C p' h hBs hW => by have := crash_at C p' S W h hBs _ _ ch (hcA.out W hW).1; rw [hcr] at this; exact this
    have kcr2 : Hid (∀ W C p', At W C p' S1 → C ≤ W.heap.size → Below B0 w W → Calls Try.prog 22 #[.pointer (some ⟨p', 0, none⟩), .slice qa na ca] W fun e w' => e = .returned (.int .i64 2) ∧ Below C W w') := fun W C p' h hBs hW => (crash_at C p' S1 W h hBs _ _ ch (hcA.out W hW).1).mono fun e w' q => ⟨by rw [q.1, hcr2], q.2.2⟩
    have kim1 : Hid (∀ W C p', At W C p' S1 → Calls Try.prog 17 #[.pointer (some ⟨p', 0, none⟩)] W fun e w' => e = .returned (.string Xl) ∧ Below W.heap.size W w') := fun W C p' h => by have := image_at C p' S1 W h; rw [i1] at this; exact this
    have ksf1 : Hid (∀ W C p', At W C p' S1 → Calls Try.prog 18 #[.pointer (some ⟨p', 0, none⟩)] W fun e w' => e = .returned (.string Xl) ∧ Below W.heap.size W w') := fun W C p' h => by have := safe_at C p' S1 W h; rw [i2] at this; exact this
    have kwt1 : Hid (∀ W C p', At W C p' S1 → Calls Try.prog 20 #[.pointer (some ⟨p', 0, none⟩)] W fun e w' => ∃ q cap, e = .returned (.slice q 0 cap) ∧ Below W.heap.size W w') := fun W C p' h => (waiting_at C p' S1 W h).mono fun e w' ⟨v, he, hr, hb⟩ => by
      rw [dry_wait hw1] at hr
      obtain ⟨q, cap, hv⟩ := rest0 hr
      exact ⟨q, cap, by rw [he, hv], hb⟩
    have HET : Hid ((s.size : Int).tdiv 128 = (c : Int)) := tdiv128 s.size c (by rw [← hsl]; exact hlen)
    have HU : Hid (wrap64 (c : Int) = (c : Int)) := wrapS _ (by omega) (by omega)
    have HP := Lib.hid (And.intro hok (And.intro hc (And.intro hlen (And.intro hhi (And.intro hfl (And.intro hXi (And.intro hXs (And.intro hXl (And.intro hN (And.intro hf (show s.size = 128 * c by rw [← hsl]; exact hlen)))))))))))
    clear hcalm hok hc hlen hlo hhi hsl hf hfl hXi hXs hXl li ll hS1 hcr hcr2 i1 i2 hw1 hN
    go_wp2_with (fail)
    refine (kim.out _ a1).mono ?_
    rintro e v2 ⟨rfl, b2⟩
    have a2 := a1.below b2
    have g2 : Below B0 w v2 := g1.trans (b2.mono (by have := HBB.out; omega))
    have s2' : B ≤ v2.heap.size := Nat.le_trans s1' b2.size
    clear a1 g1 s1' b2
    go_wp2_with (fail)
    refine (ksf.out _ a2).mono ?_
    rintro e v3 ⟨rfl, b3⟩
    have a3 := a2.below b3
    have g3 : Below B0 w v3 := g2.trans (b3.mono (by have := HBB.out; omega))
    have s3' : B ≤ v3.heap.size := Nat.le_trans s2' b3.size
    clear a2 g2 s2' b3
    go_wp2_with (fail)
    refine (kaf.out _ a3 g3).mono ?_
    rintro e v4 ⟨rfl, b4⟩
    have a4 := a3.below b4
    have g4 : Below B0 w v4 := g3.trans (b4.mono (by have := HBB.out; omega))
    have s4' : B ≤ v4.heap.size := Nat.le_trans s3' b4.size
    clear a3 g3 s3' b4
    go_wp2_with (fail)
    refine (kwt.out _ a4).mono ?_
    rintro e v5 ⟨qw, cw, rfl, hrow, b5⟩
    have hwcv : CV v5 (fun b => b < v5.heap.size) (.slice qw N cw) S.waitI := by
      rw [HP.out.2.2.2.2.2.2.2.2.1] at hrow ⊢
      exact (CV.of_row hrow).lt.mono (fun k hk => hk.2)
    have a5 := a4.below b5
    have g5 : Below B0 w v5 := g4.trans (b5.mono (by have := HBB.out; omega))
    have s5' : B ≤ v5.heap.size := Nat.le_trans s4' b5.size
    clear a4 g4 s4' b5 hrow
    have et := HET.out
    have u0 := HU.out
    go_wp2_with (fail)
    refine (kct.out _ a5).mono ?_
    rintro e _ ⟨rfl, rfl⟩
    go_wp2_with (fail)
    refine (kcl.out _ a5).mono ?_
    rintro e c1 ⟨p', rfl, d1, h1⟩
    clear et u0
    obtain ⟨C, hC⟩ : ∃ C, C = v5.heap.size := ⟨_, rfl⟩
    rw [← hC] at d1 h1
    have q1 : Below B0 w c1 := g5.trans (h1.mono (by have := HBB.out; omega))
    have t1 : C ≤ c1.heap.size := by have := h1.size; omega
    have HBC : Hid (B0 ≤ C) := by unfold Hid; have := HBB.out; omega
    have HS6 := Lib.hid (And.intro a5 (And.intro g5 (And.intro s5' (And.intro hC hwcv))))
    clear a5 g5 s5' hC hwcv
    go_wp2_with (fail)
    refine (kcr1.out _ _ _ d1 t1 q1).mono ?_
    rintro e c2 ⟨rfl, d2, h2⟩
    have q2 : Below B0 w c2 := q1.trans (h2.mono HBC.out)
    have t2 : C ≤ c2.heap.size := Nat.le_trans t1 h2.size
    have k2 : Below C v5 c2 := h1.trans h2
    clear d1 h1 q1 t1 h2
    go_wp2_with (fail)
    refine (kim1.out _ _ _ d2).mono ?_
    rintro e c3 ⟨rfl, h3⟩
    have d3 := d2.below h3
    have q3 : Below B0 w c3 := q2.trans (h3.mono (Nat.le_trans HBC.out t2))
    have t3 : C ≤ c3.heap.size := Nat.le_trans t2 h3.size
    have k3 : Below C v5 c3 := k2.trans (h3.mono t2)
    clear d2 q2 t2 h3 k2
    go_wp2_with (fail)
    refine (ksf1.out _ _ _ d3).mono ?_
    rintro e c4 ⟨rfl, h4⟩
    have d4 := d3.below h4
    have q4 : Below B0 w c4 := q3.trans (h4.mono (Nat.le_trans HBC.out t3))
    have t4 : C ≤ c4.heap.size := Nat.le_trans t3 h4.size
    have k4 : Below C v5 c4 := k3.trans (h4.mono t3)
    clear d3 q3 t3 h4 k3
    go_wp2_with (fail)
    refine (kwt1.out _ _ _ d4).mono ?_
    rintro e c5 ⟨qx, cx, rfl, h5⟩
    have d5 := d4.below h5
    have q5 : Below B0 w c5 := q4.trans (h5.mono (Nat.le_trans HBC.out t4))
    have t5 : C ≤ c5.heap.size := Nat.le_trans t4 h5.size
    have k5 : Below C v5 c5 := k4.trans (h5.mono t4)
    clear d4 q4 t4 h5 k4
    go_wp2_with (fail)
    refine (kcr2.out _ _ _ d5 t5 q5).mono ?_
    rintro e c6 ⟨rfl, h6⟩
    have q6 : Below B0 w c6 := q5.trans (h6.mono HBC.out)
    have k6 : Below C v5 c6 := k5.trans h6
    have hAt : At c6 B p S := HS6.out.1.below (by rw [← HS6.out.2.2.2.1]; exact k6)
    have hW6 : CV c6 (fun b => b < v5.heap.size) (.slice qw N cw) S.waitI := HS6.out.2.2.2.2.below (by rw [← HS6.out.2.2.2.1]; exact k6)
    have H6 := Lib.hid (And.intro hAt (And.intro hW6 q6))
    clear d5 q5 t5 h6 k5 q6 k6 hAt hW6
    go_wp2
    have HZ0 := Lib.hid (And.intro zi (And.intro zs zl))
    go_loopw [15, 16, 17, 18, 19, 20, 21] (fun kk ii _ _ _ _ _ wr => ∃ n : Nat, n ≤ c ∧ ii = .int .i64 (n : Int) ∧ kk = .int .i64 (unsafeN S n : Int) ∧ Below c6.heap.size c6 wr) (fun _ ii _ _ _ _ _ _ => c - (intOf ii).toNat)
    case atStart => exact ⟨0, Nat.zero_le _, rfl, rfl, Below.refl _ _⟩
    case round =>
      obtain ⟨n, hn, rfl, rfl, hb⟩ := hrel
      have hat := H6.out.1.below hb
      have hcw := H6.out.2.1.below hb
      have hgw : Below B0 w wr := H6.out.2.2.trans (hb.mono (by rw [HB0.out]; exact H6.out.2.2.size))
      have HCK := Lib.hid (kct.out wr hat)
      have HCW := Lib.hid hcw
      have HGW := Lib.hid hgw
      have HBE := Lib.hid hb
      clear hat hcw hgw hb
      by_cases hlt : n < c
      · have hni : (n : Int) < (c : Int) := by omega
        obtain ⟨hok, hc, hlen, hhi, hfl, hXi, hXs, hXl, hN, hf, hsz⟩ := HP.out
        have hnc : n < S.count := by omega
        obtain ⟨o1, ho1⟩ : ∃ o, o = 128 * n := ⟨_, rfl⟩
        obtain ⟨o2, ho2⟩ : ∃ o, o = 128 * n + 128 := ⟨_, rfl⟩
        obtain ⟨A, hA⟩ : ∃ A, A = ofL (sec S.safe n) := ⟨_, rfl⟩
        obtain ⟨D, hD⟩ : ∃ D, D = ofL (S.one full n) := ⟨_, rfl⟩
        obtain ⟨G, hG⟩ : ∃ G, G = ofL (S.one f n) := ⟨_, rfl⟩
        obtain ⟨l1, l2, l3⟩ := tri_len hok f hfl n hnc
        have zA : A.size = 128 := by rw [hA, ofL_size, l1]
        have zD : D.size = 128 := by rw [hD, ofL_size, l2]
        have zG : G.size = 128 := by rw [hG, ofL_size, l3]
        have e1 : Xs.extract o1 o2 = A := by rw [hXs, ho1, ho2, sec_str, hA]
        have e2 : Xi.extract o1 o2 = D := by
          rw [hXi, ho1, ho2, sec_str, hD]; congr 1; exact left_sec hok full full_le n hnc
        have e3 : Xl.extract o1 o2 = G := by
          rw [hXl, ho1, ho2, sec_str, hG]; congr 1; rw [hf]; exact left_sec hok _ (part_le ch) n hnc
        obtain ⟨u1, u2, u3, u4, u5, u6, u7⟩ := uw c n o1 o2 s.size hhi hlt ho1 ho2 hsz
        have hdrop : ∀ t : Nat, (t = 128 ∨ (S.one f n)[t]? ≠ (S.one full n)[t]?) → t ≤ 128 → G.extract t 128 = A.extract t 128 := fun t h1 h2 => by
          rw [hG, hA, ofL_extract, ofL_extract, got_drop hok f hfl n hnc t h1 h2]
        have hlast : (S.one f n)[127]? = (S.one full n)[127]? → (sec S.safe n)[127]? ≠ (S.one full n)[127]? → G = D := fun h1 h2 => by rw [hG, hD, got_last hok f hfl n hnc h1 h2]
        have hidG : ∀ t : Nat, t < 128 → ∃ x : UInt8, (S.one f n)[t]? = some x ∧ ∀ W, (Instr.index 9 (.string G) (.int .i64 (t : Int))).run Try.prog W = .ok (.int .u8 (x.toNat : Int)) W := fun t ht => str_at hG (by omega)
        have hidD : ∀ t : Nat, t < 128 → ∃ x : UInt8, (S.one full n)[t]? = some x ∧ ∀ W, (Instr.index 9 (.string D) (.int .i64 (t : Int))).run Try.prog W = .ok (.int .u8 (x.toNat : Int)) W := fun t ht => str_at hD (by omega)
        have hidA : ∀ t : Nat, t < 128 → ∃ x : UInt8, (sec S.safe n)[t]? = some x ∧ ∀ W, (Instr.index 9 (.string A) (.int .i64 (t : Int))).run Try.prog W = .ok (.int .u8 (x.toNat : Int)) W := fun t ht => str_at hA (by omega)
        have HT := Lib.hid (And.intro hdrop (And.intro hlast (And.intro hidG (And.intro hidD hidA))))
        have HQ := Lib.hid (And.intro hnc (And.intro hlt (And.intro hhi hN)))
        have hsame : ¬ (S.wr n).isSome = true → A = D ∧ G = D := fun h => by
          obtain ⟨g1, g2⟩ := got_none (f := f) h
          exact ⟨by rw [hA, hD, g1], by rw [hG, hD, g1, g2]⟩
        have HSM := Lib.hid hsame
        obtain ⟨K, hK⟩ : ∃ K, K = unsafeN S n := ⟨_, rfl⟩
        have HK := Lib.hid hK
        have hKb : (K : Int) < 4096 := by
          rw [hK]; unfold unsafeN
          have := List.length_filter_le (fun j => (S.wr j).isSome) (List.range n)
          rw [List.length_range] at this; omega
        have ewn : wrap64 ((n : Int) + 1) = ((n + 1 : Nat) : Int) := by unfold wrap64; omega
        have ewk : wrap64 ((K : Int) + 1) = ((K + 1 : Nat) : Int) := by unfold wrap64; omega
        have HWN := Lib.hid ewn
        have HWK := Lib.hid ewk
        clear ewn ewk
        rw [← hK]
        clear hok hc hlen hhi hfl hXi hXs hXl hN hf hsz hnc ho1 ho2 hA hD hG l1 l2 l3 hdrop hlast hidG hidD hidA hlt hsame hK
        go_wp2_with (fail)
        refine HCK.out.mono ?_
        rintro e _ ⟨rfl, hww⟩
        subst hww
        go_wp2_with (fail)
        go_quiet (fail)
        have hb2 : Below c6.heap.size c6 (wr.drewN nq) := below_drewN HBE.out nq
        have hcw2 : CV (wr.drewN nq) (fun b => b < v5.heap.size) (.slice qw N cw) S.waitI := HCW.out.below (below_drewN (Below.refl _ wr) nq)
        have HB2 := Lib.hid hb2
        have HC2 := Lib.hid hcw2
        clear e1 e2 e3 u1 u2 u3 u4 u5 u6 u7 hb2 hcw2
        generalize wr.drewN nq = w2 at *
        by_cases hs : (S.wr n).isSome = true
        · have hw := wait_at S n HQ.out.1 hs
          rw [← HK.out, ← HQ.out.2.2.2] at hw
          have hKN : (K : Int) < (N : Int) := by omega
          obtain ⟨bw, ow, rfl, cw0⟩ := HC2.out.cell K hw.1
          have hgd : S.waitI.getD K 0 = (n : Int) := by rw [List.getD_eq_getElem?_getD, hw.2]; rfl
          rw [hgd] at cw0
          have HSX := Lib.hid hs
          clear hw hgd hs
          go_wp2
          go_loopw [21] (fun tt wr => ∃ t : Nat, t ≤ 128 ∧ tt = .int .i64 (t : Int) ∧ Below c6.heap.size c6 wr) (fun tt _ => 128 - (intOf tt).toNat)
          case atStart => exact ⟨0, Nat.zero_le _, rfl, HB2.out⟩
          case round =>
            obtain ⟨t, ht, rfl, hb3⟩ := hrel
            have HB3 := Lib.hid hb3
            clear hb3
            by_cases h128 : t < 128
            · have hti0 : (t : Int) < 128 := by omega
              have hd : decide ((t : Int) < 128) = true := by simpa using hti0
              obtain ⟨x, hx, rx⟩ := HT.out.2.2.1 t h128
              obtain ⟨y, hy, ry⟩ := HT.out.2.2.2.1 t h128
              by_cases hxy : x = y
              · subst hxy
                clear hx hy
                generalize (x.toNat : Int) = xi at *
                go_wp2
                go_quiet (fail)
                have hb4 : Below c6.heap.size c6 (wr.drewN nq) := below_drewN HB3.out nq
                have HB4 := Lib.hid hb4
                clear hb4
                generalize wr.drewN nq = w4 at *
                have HWT : Hid (wrap64 ((t : Int) + 1) = ((t + 1 : Nat) : Int)) := wrapT t ht
                go_wp2
                go_roundw
                case rel => exact ⟨t + 1, by omega, by first | go_num | rw [HWT.out], HB4.out⟩
                case measure =>
                  first
                    | (show 128 - (intOf (Value.int .i64 (wrap64 ((t : Int) + 1)))).toNat < 128 - (intOf (Value.int .i64 (t : Int))).toNat
                       rw [HWT.out]; simp only [intOf]; omega)
                    | (simp [intOf]; omega)
              · have hne : (S.one f n)[t]? ≠ (S.one full n)[t]? := by rw [hx, hy]; exact fun q => hxy (Option.some.inj q)
                have hxy' : ¬ (x.toNat : Int) = (y.toNat : Int) := fun q => hxy (by apply UInt8.toNat_inj.1; omega)
                have hne := Lib.hid hne
                clear hx hy hxy
                generalize (x.toNat : Int) = xi at *
                generalize (y.toNat : Int) = yi0 at *
                go_wp2
                go_quiet (fail)
                have hb4 : Below c6.heap.size c6 (wr.drewN nq) := below_drewN HB3.out nq
                have HB4 := Lib.hid hb4
                clear hb4
                generalize wr.drewN nq = w4 at *
                have hti : (t : Int) ≤ 128 := by omega
                have hex := HT.out.1 t (.inr hne.out) ht
                obtain ⟨E, hE⟩ : ∃ E, A.extract t 128 = E := ⟨_, rfl⟩
                rw [hE] at hex
                go_wp2
                go_quiet (fail)
                have hb4' : Below c6.heap.size c6 (w4.drewN nq) := below_drewN HB4.out nq
                have HB4' := Lib.hid hb4'
                clear hb4'
                generalize w4.drewN nq = w4' at *
                clear hex hE
                obtain ⟨gx, hgx, rgx⟩ := HT.out.2.2.1 127 (by omega)
                obtain ⟨dx, hdx, rdx⟩ := HT.out.2.2.2.1 127 (by omega)
                obtain ⟨ax, hax, rax⟩ := HT.out.2.2.2.2 127 (by omega)
                have rgx' : ∀ W, (Instr.index 9 (.string G) (.int .i64 127)).run Try.prog W = .ok (.int .u8 (gx.toNat : Int)) W := rgx
                have rdx' : ∀ W, (Instr.index 9 (.string D) (.int .i64 127)).run Try.prog W = .ok (.int .u8 (dx.toNat : Int)) W := rdx
                have rax' : ∀ W, (Instr.index 9 (.string A) (.int .i64 127)).run Try.prog W = .ok (.int .u8 (ax.toNat : Int)) W := rax
                have HL : Hid (gx = dx → ax ≠ dx → G = D) := fun q1 q2 => HT.out.2.1 (by rw [hgx, hdx, q1]) (by rw [hax, hdx]; exact fun q => q2 (Option.some.inj q))
                clear hgx hdx hax rgx rdx rax
                by_cases c1 : gx = dx
                · by_cases c2 : ax = dx
                  · subst c1
                    subst c2
                    generalize (ax.toNat : Int) = xi at *
                    go_wp2
                    go_quiet (fail)
                    have hb5 : Below c6.heap.size c6 (w4'.drewN nq) := below_drewN HB4'.out nq
                    have HB5 := Lib.hid hb5
                    clear hb5
                    generalize w4'.drewN nq = w5' at *
                    go_wp2
                    go_roundw
                    case rel => exact ⟨n + 1, by have := HQ.out.2.1; omega, by first | rw [HWN.out] | go_num, by first | rw [HWK.out, unsafeN_succ, if_pos HSX.out, ← HK.out] | (rw [unsafeN_succ, if_pos HSX.out, ← HK.out]; first | done | rfl | (push_cast; rfl)), HB5.out⟩
                    case measure =>
                      first
                        | (show c - (intOf (Value.int .i64 (wrap64 ((n : Int) + 1)))).toNat < c - (intOf (Value.int .i64 (n : Int))).toNat
                           have := HQ.out.2.1
                           rw [HWN.out]; simp only [intOf]; omega)
                        | (simp [intOf]; have := HQ.out.2.1; omega)
                  · have hGD := HL.out c1 c2
                    have c2' : ¬ (ax.toNat : Int) = (dx.toNat : Int) := fun q => c2 (by apply UInt8.toNat_inj.1; omega)
                    subst c1
                    subst hGD
                    clear HL c2
                    generalize (ax.toNat : Int) = xi at *
                    generalize (gx.toNat : Int) = yi at *
                    go_wp2
                    go_quiet (fail)
                    have hb5 : Below c6.heap.size c6 (w4'.drewN nq) := below_drewN HB4'.out nq
                    have HB5 := Lib.hid hb5
                    clear hb5
                    generalize w4'.drewN nq = w5' at *
                    go_wp2
                    go_roundw
                    case rel => exact ⟨n + 1, by have := HQ.out.2.1; omega, by first | rw [HWN.out] | go_num, by first | rw [HWK.out, unsafeN_succ, if_pos HSX.out, ← HK.out] | (rw [unsafeN_succ, if_pos HSX.out, ← HK.out]; first | done | rfl | (push_cast; rfl)), HB5.out⟩
                    case measure =>
                      first
                        | (show c - (intOf (Value.int .i64 (wrap64 ((n : Int) + 1)))).toNat < c - (intOf (Value.int .i64 (n : Int))).toNat
                           have := HQ.out.2.1
                           rw [HWN.out]; simp only [intOf]; omega)
                        | (simp [intOf]; have := HQ.out.2.1; omega)
                · have c1' : ¬ (gx.toNat : Int) = (dx.toNat : Int) := fun q => c1 (by apply UInt8.toNat_inj.1; omega)
                  clear HL c1
                  generalize (ax.toNat : Int) = xi at *
                  generalize (gx.toNat : Int) = yi at *
                  generalize (dx.toNat : Int) = zi' at *
                  go_wp2
                  go_quiet (fail)
                  have hb5 : Below c6.heap.size c6 (w4'.drewN nq) := below_drewN HB4'.out nq
                  have HB5 := Lib.hid hb5
                  clear hb5
                  generalize w4'.drewN nq = w5' at *
                  go_wp2
                  go_roundw
                  case rel => exact ⟨n + 1, by have := HQ.out.2.1; omega, by first | rw [HWN.out] | go_num, by first | rw [HWK.out, unsafeN_succ, if_pos HSX.out, ← HK.out] | (rw [unsafeN_succ, if_pos HSX.out, ← HK.out]; first | done | rfl | (push_cast; rfl)), HB5.out⟩
                  case measure =>
                    first
                      | (show c - (intOf (Value.int .i64 (wrap64 ((n : Int) + 1)))).toNat < c - (intOf (Value.int .i64 (n : Int))).toNat
                         have := HQ.out.2.1
                         rw [HWN.out]; simp only [intOf]; omega)
                      | (simp [intOf]; have := HQ.out.2.1; omega)
            · have h1 : t = 128 := by omega
              have hd : decide ((t : Int) < 128) = false := by simp; omega
              have h1 := Lib.hid h1
              go_wp2
              go_quiet (fail)
              have hb4 : Below c6.heap.size c6 (wr.drewN nq) := below_drewN HB3.out nq
              have HB4 := Lib.hid hb4
              clear hb4
              generalize wr.drewN nq = w4 at *
              have hti : (t : Int) ≤ 128 := by omega
              have hex := HT.out.1 t (.inl h1.out) ht
              obtain ⟨E, hE⟩ : ∃ E, A.extract t 128 = E := ⟨_, rfl⟩
              rw [hE] at hex
              go_wp2
              go_quiet (fail)
              have hb4' : Below c6.heap.size c6 (w4.drewN nq) := below_drewN HB4.out nq
              have HB4' := Lib.hid hb4'
              clear hb4'
              generalize w4.drewN nq = w4' at *
              clear hex hE
              obtain ⟨gx, hgx, rgx⟩ := HT.out.2.2.1 127 (by omega)
              obtain ⟨dx, hdx, rdx⟩ := HT.out.2.2.2.1 127 (by omega)
              obtain ⟨ax, hax, rax⟩ := HT.out.2.2.2.2 127 (by omega)
              have rgx' : ∀ W, (Instr.index 9 (.string G) (.int .i64 127)).run Try.prog W = .ok (.int .u8 (gx.toNat : Int)) W := rgx
              have rdx' : ∀ W, (Instr.index 9 (.string D) (.int .i64 127)).run Try.prog W = .ok (.int .u8 (dx.toNat : Int)) W := rdx
              have rax' : ∀ W, (Instr.index 9 (.string A) (.int .i64 127)).run Try.prog W = .ok (.int .u8 (ax.toNat : Int)) W := rax
              have HL : Hid (gx = dx → ax ≠ dx → G = D) := fun q1 q2 => HT.out.2.1 (by rw [hgx, hdx, q1]) (by rw [hax, hdx]; exact fun q => q2 (Option.some.inj q))
              clear hgx hdx hax rgx rdx rax
              by_cases c1 : gx = dx
              · by_cases c2 : ax = dx
                · subst c1
                  subst c2
                  generalize (ax.toNat : Int) = xi at *
                  go_wp2
                  go_quiet (fail)
                  have hb5 : Below c6.heap.size c6 (w4'.drewN nq) := below_drewN HB4'.out nq
                  have HB5 := Lib.hid hb5
                  clear hb5
                  generalize w4'.drewN nq = w5' at *
                  go_wp2
                  go_roundw
                  case rel => exact ⟨n + 1, by have := HQ.out.2.1; omega, by first | rw [HWN.out] | go_num, by first | rw [HWK.out, unsafeN_succ, if_pos HSX.out, ← HK.out] | (rw [unsafeN_succ, if_pos HSX.out, ← HK.out]; first | done | rfl | (push_cast; rfl)), HB5.out⟩
                  case measure =>
                    first
                      | (show c - (intOf (Value.int .i64 (wrap64 ((n : Int) + 1)))).toNat < c - (intOf (Value.int .i64 (n : Int))).toNat
                         have := HQ.out.2.1
                         rw [HWN.out]; simp only [intOf]; omega)
                      | (simp [intOf]; have := HQ.out.2.1; omega)
                · have hGD := HL.out c1 c2
                  have c2' : ¬ (ax.toNat : Int) = (dx.toNat : Int) := fun q => c2 (by apply UInt8.toNat_inj.1; omega)
                  subst c1
                  subst hGD
                  clear HL c2
                  generalize (ax.toNat : Int) = xi at *
                  generalize (gx.toNat : Int) = yi at *
                  go_wp2
                  go_quiet (fail)
                  have hb5 : Below c6.heap.size c6 (w4'.drewN nq) := below_drewN HB4'.out nq
                  have HB5 := Lib.hid hb5
                  clear hb5
                  generalize w4'.drewN nq = w5' at *
                  go_wp2
                  go_roundw
                  case rel => exact ⟨n + 1, by have := HQ.out.2.1; omega, by first | rw [HWN.out] | go_num, by first | rw [HWK.out, unsafeN_succ, if_pos HSX.out, ← HK.out] | (rw [unsafeN_succ, if_pos HSX.out, ← HK.out]; first | done | rfl | (push_cast; rfl)), HB5.out⟩
                  case measure =>
                    first
                      | (show c - (intOf (Value.int .i64 (wrap64 ((n : Int) + 1)))).toNat < c - (intOf (Value.int .i64 (n : Int))).toNat
                         have := HQ.out.2.1
                         rw [HWN.out]; simp only [intOf]; omega)
                      | (simp [intOf]; have := HQ.out.2.1; omega)
              · have c1' : ¬ (gx.toNat : Int) = (dx.toNat : Int) := fun q => c1 (by apply UInt8.toNat_inj.1; omega)
                clear HL c1
                generalize (ax.toNat : Int) = xi at *
                generalize (gx.toNat : Int) = yi at *
                generalize (dx.toNat : Int) = zi' at *
                go_wp2
                go_quiet (fail)
                have hb5 : Below c6.heap.size c6 (w4'.drewN nq) := below_drewN HB4'.out nq
                have HB5 := Lib.hid hb5
                clear hb5
                generalize w4'.drewN nq = w5' at *
                go_wp2
                go_roundw
                case rel => exact ⟨n + 1, by have := HQ.out.2.1; omega, by first | rw [HWN.out] | go_num, by first | rw [HWK.out, unsafeN_succ, if_pos HSX.out, ← HK.out] | (rw [unsafeN_succ, if_pos HSX.out, ← HK.out]; first | done | rfl | (push_cast; rfl)), HB5.out⟩
                case measure =>
                  first
                    | (show c - (intOf (Value.int .i64 (wrap64 ((n : Int) + 1)))).toNat < c - (intOf (Value.int .i64 (n : Int))).toNat
                       have := HQ.out.2.1
                       rw [HWN.out]; simp only [intOf]; omega)
                    | (simp [intOf]; have := HQ.out.2.1; omega)
        · by_cases hKN0 : K < N
          · obtain ⟨x, hx, hxn⟩ := wait_not S n HQ.out.1 hs (by rw [← HK.out, ← HQ.out.2.2.2]; exact hKN0)
            rw [← HK.out] at hx
            have hKN : (K : Int) < (N : Int) := by omega
            obtain ⟨bw, ow, rfl, cw0⟩ := HC2.out.cell K hKN0
            have hgd : S.waitI.getD K 0 = (x : Int) := by rw [List.getD_eq_getElem?_getD, hx]; rfl
            rw [hgd] at cw0
            have hxn' : ¬ (x : Int) = (n : Int) := by omega
            obtain ⟨q1, q2⟩ := HSM.out hs
            have HSX := Lib.hid hs
            clear hx hgd hs hxn hKN0
            subst q1
            subst q2
            go_wp2
            go_loopw [21] (fun tt wr => ∃ t : Nat, t ≤ 128 ∧ tt = .int .i64 (t : Int) ∧ Below c6.heap.size c6 wr) (fun tt _ => 128 - (intOf tt).toNat)
            case atStart => exact ⟨0, Nat.zero_le _, rfl, HB2.out⟩
            case round =>
              obtain ⟨t, ht, rfl, hb3⟩ := hrel
              have HB3 := Lib.hid hb3
              clear hb3
              by_cases h128 : t < 128
              · have hti : (t : Int) < 128 := by omega
                have hd : decide ((t : Int) < 128) = true := by simpa using hti
                obtain ⟨x, hx, rx⟩ := HT.out.2.2.1 t h128
                clear hx
                generalize (x.toNat : Int) = xi at *
                go_wp2
                go_quiet (fail)
                have hb4 : Below c6.heap.size c6 (wr.drewN nq) := below_drewN HB3.out nq
                have HB4 := Lib.hid hb4
                clear hb4
                generalize wr.drewN nq = w4 at *
                have HWT : Hid (wrap64 ((t : Int) + 1) = ((t + 1 : Nat) : Int)) := wrapT t ht
                go_wp2
                go_roundw
                case rel => exact ⟨t + 1, by omega, by first | go_num | rw [HWT.out], HB4.out⟩
                case measure =>
                  first
                    | (show 128 - (intOf (Value.int .i64 (wrap64 ((t : Int) + 1)))).toNat < 128 - (intOf (Value.int .i64 (t : Int))).toNat
                       rw [HWT.out]; simp only [intOf]; omega)
                    | (simp [intOf]; omega)
              · have h1 : t = 128 := by omega
                subst h1
                have hd : decide (((128 : Nat) : Int) < 128) = false := by decide
                go_wp2
                go_quiet (fail)
                have hb4 : Below c6.heap.size c6 (wr.drewN nq) := below_drewN HB3.out nq
                have HB4 := Lib.hid hb4
                clear hb4
                generalize wr.drewN nq = w4 at *
                obtain ⟨x, hx, rx⟩ := HT.out.2.2.1 127 (by omega)
                have rx' : ∀ W, (Instr.index 9 (.string G) (.int .i64 127)).run Try.prog W = .ok (.int .u8 (x.toNat : Int)) W := rx
                have HX := Lib.hid hx
                clear hx rx
                generalize (x.toNat : Int) = xi at *
                go_wp2
                go_quiet (fail)
                have hb4' : Below c6.heap.size c6 (w4.drewN nq) := below_drewN HB4.out nq
                have HB4' := Lib.hid hb4'
                clear hb4'
                generalize w4.drewN nq = w4' at *
                go_wp2
                go_quiet (fail)
                have hb5 : Below c6.heap.size c6 (w4'.drewN nq) := below_drewN HB4'.out nq
                have HB5 := Lib.hid hb5
                clear hb5
                generalize w4'.drewN nq = w5' at *
                go_wp2
                go_roundw
                case rel => exact ⟨n + 1, by have := HQ.out.2.1; omega, by first | rw [HWN.out] | go_num, by rw [unsafeN_succ, if_neg HSX.out, ← HK.out]; rfl, HB5.out⟩
                case measure =>
                  first
                    | (show c - (intOf (Value.int .i64 (wrap64 ((n : Int) + 1)))).toNat < c - (intOf (Value.int .i64 (n : Int))).toNat
                       have := HQ.out.2.1
                       rw [HWN.out]; simp only [intOf]; omega)
                    | (simp [intOf]; have := HQ.out.2.1; omega)
          · have hKN : ¬ (K : Int) < (N : Int) := by omega
            obtain ⟨q1, q2⟩ := HSM.out hs
            have HSX := Lib.hid hs
            clear hs hKN0
            subst q1
            subst q2
            go_wp2
            go_loopw [21] (fun tt wr => ∃ t : Nat, t ≤ 128 ∧ tt = .int .i64 (t : Int) ∧ Below c6.heap.size c6 wr) (fun tt _ => 128 - (intOf tt).toNat)
            case atStart => exact ⟨0, Nat.zero_le _, rfl, HB2.out⟩
            case round =>
              obtain ⟨t, ht, rfl, hb3⟩ := hrel
              have HB3 := Lib.hid hb3
              clear hb3
              by_cases h128 : t < 128
              · have hti : (t : Int) < 128 := by omega
                have hd : decide ((t : Int) < 128) = true := by simpa using hti
                obtain ⟨x, hx, rx⟩ := HT.out.2.2.1 t h128
                clear hx
                generalize (x.toNat : Int) = xi at *
                go_wp2
                go_quiet (fail)
                have hb4 : Below c6.heap.size c6 (wr.drewN nq) := below_drewN HB3.out nq
                have HB4 := Lib.hid hb4
                clear hb4
                generalize wr.drewN nq = w4 at *
                have HWT : Hid (wrap64 ((t : Int) + 1) = ((t + 1 : Nat) : Int)) := wrapT t ht
                go_wp2
                go_roundw
                case rel => exact ⟨t + 1, by omega, by first | go_num | rw [HWT.out], HB4.out⟩
                case measure =>
                  first
                    | (show 128 - (intOf (Value.int .i64 (wrap64 ((t : Int) + 1)))).toNat < 128 - (intOf (Value.int .i64 (t : Int))).toNat
                       rw [HWT.out]; simp only [intOf]; omega)
                    | (simp [intOf]; omega)
              · have h1 : t = 128 := by omega
                subst h1
                have hd : decide (((128 : Nat) : Int) < 128) = false := by decide
                go_wp2
                go_quiet (fail)
                have hb4 : Below c6.heap.size c6 (wr.drewN nq) := below_drewN HB3.out nq
                have HB4 := Lib.hid hb4
                clear hb4
                generalize wr.drewN nq = w4 at *
                obtain ⟨x, hx, rx⟩ := HT.out.2.2.1 127 (by omega)
                have rx' : ∀ W, (Instr.index 9 (.string G) (.int .i64 127)).run Try.prog W = .ok (.int .u8 (x.toNat : Int)) W := rx
                have HX := Lib.hid hx
                clear hx rx
                generalize (x.toNat : Int) = xi at *
                go_wp2
                go_quiet (fail)
                have hb4' : Below c6.heap.size c6 (w4.drewN nq) := below_drewN HB4.out nq
                have HB4' := Lib.hid hb4'
                clear hb4'
                generalize w4.drewN nq = w4' at *
                go_wp2
                go_quiet (fail)
                have hb5 : Below c6.heap.size c6 (w4'.drewN nq) := below_drewN HB4'.out nq
                have HB5 := Lib.hid hb5
                clear hb5
                generalize w4'.drewN nq = w5' at *
                go_wp2
                go_roundw
                case rel => exact ⟨n + 1, by have := HQ.out.2.1; omega, by first | rw [HWN.out] | go_num, by rw [unsafeN_succ, if_neg HSX.out, ← HK.out]; rfl, HB5.out⟩
                case measure =>
                  first
                    | (show c - (intOf (Value.int .i64 (wrap64 ((n : Int) + 1)))).toNat < c - (intOf (Value.int .i64 (n : Int))).toNat
                       have := HQ.out.2.1
                       rw [HWN.out]; simp only [intOf]; omega)
                    | (simp [intOf]; have := HQ.out.2.1; omega)
      · have hnc : n = c := by omega
        subst hnc
        have hnn : ¬ (n : Int) < (n : Int) := by omega
        have hkN : unsafeN S n = N := by rw [HP.out.2.2.2.2.2.2.2.2.1, ← unsafeN_all, ← HP.out.2.1]
        rw [hkN]
        clear hkN hlt hn
        go_wp2_with (fail)
        refine HCK.out.mono ?_
        rintro e _ ⟨rfl, hww⟩
        subst hww
        go_wp2_with (fail)
        refine (kfix.out _).mono ?_
        rintro e w9 ⟨rfl, hb9⟩
        go_wp2
        go_ret
        exact ⟨rfl, by rw [← HB0.out]; exact HGW.out.trans (hb9.mono (by rw [HB0.out]; exact HGW.out.size))⟩
end Go.Proofs.Ytcmhpkeighenaaa
