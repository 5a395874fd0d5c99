/- A sector hangs on its own choice alone: the walk of DiskSelf. Conditions: sizes that a machine holds. -/
import Derived.Test.YtcmhpkeighenaaaFls
namespace Go.Proofs.Ytcmhpkeighenaaa
open Go.RowKit Go.Maps
set_option linter.unusedVariables false

theorem CV.of_row {W : World} {base : Nat} {v : Value} {l : List Int} (h : W.ownsRow base 3 1 v l.length (l.map cellI)) : CV W (fun b => base ≤ b) v l := by
  obtain ⟨h0, ⟨h1, h2⟩ | ⟨g, cap, cur, hv, hg, hb, hn, hm, hc, ht⟩⟩ := h
  · have : l = [] := List.length_eq_zero_iff.1 h2
    subst this
    subst h1
    exact CV.nil _ _
  · refine ⟨_, cap, hv, hn, fun _ => ⟨g, 0, rfl, hg, block_lt hb, fun j hj => ?_⟩⟩
    rw [Nat.zero_add, cell_of_row _ _ _ _ _ _ hb, ← Array.getElem?_toList]
    have e : (cur.toList.take (l.length * 1))[j]? = (l.map cellI)[j]? := by rw [ht]
    rw [List.getElem?_take, if_pos (by omega), List.getElem?_map, List.getElem?_eq_getElem hj] at e
    rw [e]
    simp [cellI, List.getD, List.getElem?_eq_getElem hj]
theorem one_at {S : St} {f f' : Nat → Nat} {i : Nat} (h : f i = f' i) : S.one f i = S.one f' i := by unfold St.one; rw [h]
theorem part_at {a b : List Int} {i : Nat} (h : a.getD i 0 = b.getD i 0) : part a i = part b i := by unfold part; rw [h]
/-- the other choices, so far -/
def othr (a b : List Int) (g k : Nat) : List Int := (List.range k).map fun i => if i = g then a.getD i 0 else b.getD i 0
theorem othr_len (a b : List Int) (g k : Nat) : (othr a b g k).length = k := by simp [othr]
theorem othr_succ (a b : List Int) (g k : Nat) : othr a b g (k + 1) = othr a b g k ++ [if k = g then a.getD k 0 else b.getD k 0] := by simp [othr, List.range_succ]
theorem othr_at (a b : List Int) (g k : Nat) (h : g < k) : (othr a b g k).getD g 0 = a.getD g 0 := by
  unfold othr
  rw [List.getD_eq_getElem?_getD, List.getElem?_map, List.getElem?_range h]
  simp
theorem uv (c g o1 o2 n : Nat) (hhi : c ≤ 4096) (hg : g < c) (h1 : o1 = 128 * g) (h2 : o2 = 128 * g + 128) (hn : n = 128 * c) :
    wrap64 (c : Int) = (c : Int) ∧ (128 : Int) * (g : Int) = (o1 : Int) ∧ (o1 : Int) + 128 = (o2 : Int) ∧ IntKind.i64.wrap (o1 : Int) = (o1 : Int) ∧ IntKind.i64.wrap (o2 : Int) = (o2 : Int) ∧
    (o1 : Int) ≤ (n : Int) ∧ (o2 : Int) ≤ (n : Int) ∧ (o1 : Int) ≤ (o2 : Int) := by
  refine ⟨wrapS _ (by omega) (by omega), by omega, by omega, wrapI _ (by omega) (by omega), wrapI _ (by omega) (by omega), by omega, by omega, by omega⟩
theorem tdiv128 (n c : Nat) (h : n = 128 * c) : (n : Int).tdiv 128 = (c : Int) := by rw [Int.tdiv_eq_ediv_of_nonneg (by omega)]; omega
theorem CV.cell {W : World} {G : Nat → Prop} {q : Option Addr} {n cap : Nat} {ch : List Int} (h : CV W G (.slice q n cap) ch) (k : Nat) (hk : k < n) : ∃ b o, q = some ⟨b, o, none⟩ ∧ W.cell? ⟨b, o + k, none⟩ = some (.int .i64 (ch.getD k 0)) := by
  obtain ⟨hn, _⟩ := h.len
  obtain ⟨q', cap', e, h2, h3⟩ := h
  injection e with e1 e2 e3
  subst e1 e3
  obtain ⟨b, o, hq, _, _, hc⟩ := h3 (fun e => by subst e; simp at hn; omega)
  exact ⟨b, o, hq, hc k (by omega)⟩
theorem i3 : ∃ i0, Hid (Try.prog.info? 3 = some i0 ∧ i0.zero = some (.int .i64 0) ∧ i0.size = 1 ∧ i0.bytes = 8) := by
  obtain ⟨i0, hi, hz0, hz1, hz2⟩ := info_parts Try.info3
  exact ⟨i0, Lib.hid ⟨hi, hz0, hz1, hz2⟩⟩
set_option maxRecDepth 20000 in
set_option maxHeartbeats 8000000 in
theorem self_any (s : ByteArray) (v : Value) (l : List Opr) (sn : Int) (va vb : Value) (chA chB : List Int) (w : World) (hs : s.size ≤ 140737488355328) (hsc : Script w v l) (hsn : In64 sn) (hA : ChOk w va chA) (hB : ChOk w vb chB) :
    Calls Try.prog 6 #[.string s, v, .agg #[.int .i64 sn, va, vb]] w fun e w' => e = .returned (.bool true) ∧ Below w.heap.size w w' := by
  obtain ⟨i0, HI⟩ := i3
  obtain ⟨B0, hB0⟩ : ∃ B0, B0 = w.heap.size := ⟨_, rfl⟩
  obtain ⟨w0, hw0⟩ : ∃ w0, w0 = w.alloc (.cells #[.int .i64 sn, va, vb] 55) := ⟨_, rfl⟩
  have hb0 : Below w.heap.size w w0 := by rw [hw0]; exact (Below.refl _ w).alloc (Nat.le_refl _) _
  have hblk : w0.heap[B0]? = some (.cells #[.int .i64 sn, va, vb] 55 (0, 0)) := by rw [hw0, hB0]; exact block_new _ _
  obtain ⟨qa, na, ca, ea⟩ := hA.1.slice
  obtain ⟨qb, nb, cb, eb⟩ := hB.1.slice
  have kfix : Hid (∀ W, Calls Try.prog 10 #[] W fun e w' => e = .returned (.bool true) ∧ Below W.heap.size W w') := fun W => fixed_any W
  subst ea eb
  have HB0 := Lib.hid hB0
  have HH := Lib.hid (And.intro hb0 (And.intro hblk (And.intro hA (And.intro hB hsn))))
  have hsc0 := Lib.hid (hsc.below hb0)
  by_cases bad : Bad s
  · have k1 := Lib.hid (made_bad s v w0 hs bad)
    have k2 : Hid (∀ W, Calls Try.prog 9 #[.string s] W fun e w' => e = .returned (.tuple #[.pointer none, .int .i64 70]) ∧ Below W.heap.size W w') := fun W => rnew_bad s bad hs W
    have hw0s := hw0.symm
    clear hw0 hb0 hblk hA hB hsc hs bad hB0 hsn
    go_enter Try.func6, Try.ntmps6
    go_wp2_with (fail)
    refine k1.out.mono ?_
    rintro e v1 ⟨rfl, b1⟩
    go_wp2_with (fail)
    refine (k2.out _).mono ?_
    rintro e v2 ⟨rfl, b2⟩
    go_wp2_with (fail)
    refine (kfix.out _).mono ?_
    rintro e v3 ⟨rfl, b3⟩
    go_wp2
    go_ret
    exact ⟨rfl, HH.out.1.trans ((below_trans (below_trans b1 b2) b3).mono HH.out.1.size)⟩
  · have k1 := Lib.hid (made_any s v l w0 hs bad hsc0.out)
    have hw0s := hw0.symm
    have hB0s : w.heap.size = B0 := HB0.out.symm
    clear hw0 hb0 hblk hA hB hsc bad hB0 hs hsn
    go_enter Try.func6, Try.ntmps6
    go_wp2_with (fail)
    refine k1.out.mono ?_
    rintro e v1 ⟨p, S, rfl, a1, hcalm, b1⟩
    obtain ⟨B, hB⟩ : ∃ B, B = w0.heap.size := ⟨_, rfl⟩
    rw [← hB] at a1 b1
    have HBB : Hid (B0 ≤ B) := by unfold Hid; rw [hB, HB0.out]; exact HH.out.1.size
    have g1 : Below B0 w v1 := by rw [HB0.out]; exact HH.out.1.trans (b1.mono (by rw [hB]; exact HH.out.1.size))
    have s1' : B ≤ v1.heap.size := by have := b1.size; omega
    have hcB : Hid (∀ W, Below B w0 W → W.cell? ⟨B0, 0, none⟩ = some (.int .i64 sn) ∧ W.cell? ⟨B0, 1, none⟩ = some (.slice qa na ca) ∧ W.cell? ⟨B0, 2, none⟩ = some (.slice qb nb cb)) := fun W hW => by
      rw [hB] at hW
      exact ⟨cell_below (by rw [cell_of_row _ _ _ _ _ _ HH.out.2.1]; rfl) hW, cell_below (by rw [cell_of_row _ _ _ _ _ _ HH.out.2.1]; rfl) hW, cell_below (by rw [cell_of_row _ _ _ _ _ _ HH.out.2.1]; rfl) hW⟩
    have hcA : Hid (∀ W, Below B0 w W → ChOk W (.slice qa na ca) chA ∧ ChOk W (.slice qb nb cb) chB) := fun W hW => by
      rw [HB0.out] at hW
      exact ⟨HH.out.2.2.1.below hW, HH.out.2.2.2.1.below hW⟩
    have h0 : Below B w0 v1 := b1
    clear b1 hB
    have hok := hcalm.ok
    obtain ⟨c, hc⟩ : ∃ c, c = S.count := ⟨_, rfl⟩
    have hlen := hok.len
    have hlo := hok.lo
    have hhi := hok.hi
    have hsl := hcalm.len
    rw [← hc] at hlen hlo hhi
    have hc0 : 0 < (c : Int) ∧ (c : Int) < 4611686018427387904 := by omega
    obtain ⟨g, hg⟩ : ∃ g : Nat, sn % (c : Int) = (g : Int) := ⟨(sn % (c : Int)).toNat, by have := Int.emod_nonneg sn (show (c : Int) ≠ 0 by omega); omega⟩
    have hgc : g < c := by have := Int.emod_lt_of_pos sn (show 0 < (c : Int) by omega); omega
    obtain ⟨chO, hchO⟩ : ∃ ch, ch = othr chA chB g c := ⟨_, rfl⟩
    obtain ⟨Xa, hXa⟩ : ∃ X, X = ofL (S.after chA) := ⟨_, rfl⟩
    obtain ⟨Xb, hXb⟩ : ∃ X, X = ofL (S.after chO) := ⟨_, rfl⟩
    have la : (S.after chA).length = 128 * c := by rw [hc]; exact S.left_len hok (part chA) (part_le chA)
    have lb : (S.after chO).length = 128 * c := by rw [hc]; exact S.left_len hok (part chO) (part_le chO)
    have za : Xa.size = s.size := by rw [hXa, ofL_size, la]; omega
    have zb' : Xb.size = s.size := by rw [hXb, ofL_size, lb]; omega
    obtain ⟨o1, ho1⟩ : ∃ o, o = 128 * g := ⟨_, rfl⟩
    obtain ⟨o2, ho2⟩ : ∃ o, o = 128 * g + 128 := ⟨_, rfl⟩
    have e1 : Xa.extract o1 o2 = Xb.extract o1 o2 := by
      have := seg_eq (a := S.after chA) (b := S.after chO) (c := c) (p := g) (q := g + 1) la lb (by omega) (by omega) (fun i h1 h2 => by
        have e : i = g := by omega
        subst e
        show sec (S.left (part chA)) i = sec (S.left (part chO)) i
        rw [left_sec hok _ (part_le chA) i (by omega), left_sec hok _ (part_le chO) i (by omega)]
        exact one_at (part_at (by rw [hchO, othr_at _ _ _ _ hgc])))
      rw [show 128 * (g + 1) = 128 * g + 128 by omega] at this
      rw [hXa, hXb, ho1, ho2]; exact this
    obtain ⟨E1, hE1⟩ : ∃ E, Xb.extract o1 o2 = E := ⟨_, rfl⟩
    rw [hE1] at e1
    obtain ⟨u0, u1, u2, u3, u4, u5, u6, u7⟩ := uv c g o1 o2 s.size hhi hgc ho1 ho2 (by rw [← hsl]; exact hlen)
    have HET : Hid ((s.size : Int).tdiv 128 = (c : Int)) := tdiv128 s.size c (by rw [← hsl]; exact hlen)
    have kct : Hid (∀ W, At W B p S → Calls Try.prog 21 #[.pointer (some ⟨p, 0, none⟩)] W fun e w' => e = .returned (.int .i64 (c : Int)) ∧ W = w') := fun W h => by have := count_at B p S W h; rw [← hc] at this; exact this
    have kq : Hid (∀ W, At W B p S → ∀ m, Calls Try.prog 21 #[.pointer (some ⟨p, 0, none⟩)] (W.drewN m) fun e w' => e = .returned (.int .i64 (c : Int)) ∧ w' = W.drewN m) := fun W h m => (kct.out (W.drewN m) (h.below (below_drewN (Below.refl _ W) m))).mono fun _ _ q => ⟨q.1, q.2.symm⟩
    have kr1 : Hid (∀ W, Calls Try.prog 11 #[.int .i64 sn, .int .i64 (c : Int)] W fun e w' => e = .returned (.int .i64 (g : Int)) ∧ w' = W) := fun W => (rem_any sn (c : Int) HH.out.2.2.2.2 hc0 W).mono fun _ _ q => ⟨by rw [← hg]; exact q.1, q.2.symm⟩
    have kafA : Hid (∀ W, At W B p S → Below B0 w W → Calls Try.prog 19 #[.pointer (some ⟨p, 0, none⟩), .slice qa na ca] W fun e w' => e = .returned (.string Xa) ∧ Below W.heap.size W w') := fun W h hW => by have := after_at B p S W h _ _ chA (hcA.out W hW).1.1; rw [← hXa] at this; exact this
    have kafO : Hid (∀ W G vo, At W B p S → CV W G vo chO → Calls Try.prog 19 #[.pointer (some ⟨p, 0, none⟩), vo] W fun e w' => e = .returned (.string Xb) ∧ Below W.heap.size W w') := fun W G vo h hcv => by have := after_at B p S W h G vo chO hcv; rw [← hXb] at this; exact this
    have HU := Lib.hid (And.intro e1 (And.intro hE1 (And.intro u1 (And.intro u2 (And.intro u3 (And.intro u4 (And.intro u5 (And.intro u6 u7))))))))
    have HG := Lib.hid (And.intro hgc (And.intro hchO (And.intro hhi hlo)))
    clear hc0 hcalm hok hlen hlo hhi hsl hg hgc hchO hXa hXb la lb ho1 ho2 e1 hE1 u1 u2 u3 u4 u5 u6 u7 hc
    go_wp2_with (fail)
    refine (kct.out _ a1).mono ?_
    rintro e _ ⟨rfl, rfl⟩
    have y0 := (hcB.out _ h0).1
    have kq1 := Lib.hid (kq.out _ a1)
    have et := HET.out
    go_wp2_with (fail)
    go_quiet ((first | (go_at_call 21; exact Calls.quiet_of_same (kq1.out _)) | (go_at_call 11; exact Calls.quiet_of_same (kr1.out _))))
    have a4 := a1.below (below_drewN (Below.refl _ v1) nq)
    have g4 : Below B0 w (v1.drewN nq) := below_drewN g1 nq
    have s4' : B ≤ (v1.drewN nq).heap.size := s1'
    have h4 : Below B w0 (v1.drewN nq) := below_drewN h0 nq
    clear a1 g1 s1' h0 y0 kq1 et
    generalize v1.drewN nq = v4 at *
    obtain ⟨v5, hv5⟩ : ∃ W, v4.alloc (.cells #[] 3) = W := ⟨_, rfl⟩
    have b5 : Below v4.heap.size v4 v5 := by rw [← hv5]; exact (Below.refl _ v4).alloc (Nat.le_refl _) _
    have a5 := a4.below b5
    have g5 : Below B0 w v5 := g4.trans (b5.mono (by have := HBB.out; omega))
    have s5' : B ≤ v5.heap.size := Nat.le_trans s4' b5.size
    have h5 : Below B w0 v5 := h4.trans (b5.mono s4')
    obtain ⟨B2, hB2⟩ : ∃ B2, B2 = v4.heap.size := ⟨_, rfl⟩
    have hB2s := hB2.symm
    have hrow0 : v5.ownsRow B2 3 1 (.slice (some ⟨B2, 0, none⟩) 0 0) 0 [] := by
      refine ⟨rfl, .inr ⟨B2, 0, #[], rfl, Nat.le_refl _, ?_, Nat.le_refl _, Nat.zero_le _, rfl, rfl⟩⟩
      rw [← hv5, hB2]; exact block_new _ _
    have HS5 := Lib.hid (And.intro a4 (And.intro g4 (And.intro s4' (And.intro h4 (And.intro (show Below B2 v4 v5 by rw [hB2]; exact b5) (And.intro hB2 hrow0))))))
    clear b5 a5 g5 s5' h5 hB2 a4 g4 s4' h4 hrow0
    go_wp2
    rw [u0]
    clear u0
    go_loopw [11, 12, 13] (fun uo i _ wr => ∃ (k : Nat) (vo : Value), k ≤ c ∧ vo = uo ∧ i = .int .i64 (k : Int) ∧ wr.ownsRow B2 3 1 vo k ((othr chA chB g k).map cellI) ∧ Below B2 v4 wr) (fun _ i _ _ => c - (intOf i).toNat)
    case atStart => exact ⟨0, _, Nat.zero_le _, rfl, rfl, HS5.out.2.2.2.2.2.2, HS5.out.2.2.2.2.1⟩
    case round =>
      obtain ⟨k, vo, hk, hvo, rfl, hrow, hbel⟩ := hrel
      subst hvo
      have hb4 : Below v4.heap.size v4 wr := by rw [← HS5.out.2.2.2.2.2.1]; exact hbel
      have hat := HS5.out.1.below hb4
      have hgw : Below B0 w wr := HS5.out.2.1.trans (hb4.mono (by have := HBB.out; have := HS5.out.2.2.1; omega))
      have hh0 : Below B w0 wr := HS5.out.2.2.2.1.trans (hb4.mono HS5.out.2.2.1)
      have hsz : B2 ≤ wr.heap.size := by have := hb4.size; have := HS5.out.2.2.2.2.2.1; omega
      obtain ⟨_, y1, y2⟩ := hcB.out wr hh0
      have hcc := hcA.out wr hgw
      clear hv5
      by_cases hlt : k < c
      · have hki : (k : Int) < (c : Int) := by omega
        have HCK := kct.out wr hat
        have hhi := HG.out.2.2.1
        have hs1 : k + 1 ≤ maxLen := by unfold maxLen; omega
        have hs2 : (k + 1) * 8 ≤ 140737488355328 := by omega
        have HR := Lib.hid (And.intro hrow (And.intro hbel (And.intro hlt (And.intro hs1 (And.intro hs2 hsz)))))
        have ew : wrap64 ((k : Int) + 1) = ((k + 1 : Nat) : Int) := by have hk9 : (k : Int) < 4096 := (by omega); rw [show ((k + 1 : Nat) : Int) = (k : Int) + 1 from rfl]; exact wrapS _ (by omega) (by omega)
        have hown : ∀ j, vo.ownBlock = some j → B2 ≤ j := fun j hj => by
          obtain ⟨_, ⟨h1, _⟩ | ⟨g', cap', cur, hv, hg', _⟩⟩ := hrow
          · rw [h1] at hj; simp [Value.ownBlock] at hj
          · rw [hv] at hj; simp [Value.ownBlock] at hj; omega
        have HOW := Lib.hid hown
        have hna : na = chA.length := hcc.1.1.len.1
        have hnb : nb = chB.length := hcc.2.1.len.1
        have HNN := Lib.hid (And.intro hna hnb)
        have HCC := Lib.hid hcc
        clear hhi hs1 hs2 hrow hbel hat hgw hh0 hsz hb4 hlt hown hna hnb hcc hB2s hw0s hB0s
        by_cases hg : k = g
        · subst hg
          by_cases hb : k < nb
          · by_cases ha : k < na
            · have hlb : (k : Int) < (nb : Int) := by omega
              obtain ⟨bb, ob, rfl, cbk⟩ := HCC.out.2.1.cell k hb
              obtain ⟨Y, hY⟩ : ∃ Y, Y = chB.getD k 0 := ⟨_, rfl⟩
              rw [← hY] at cbk
              have HY := Lib.hid hY
              clear hY
              have hla : (k : Int) < (na : Int) := by omega
              obtain ⟨ba, oa, rfl, cak⟩ := HCC.out.1.1.cell k ha
              obtain ⟨X, hX⟩ : ∃ X, X = chA.getD k 0 := ⟨_, rfl⟩
              rw [← hX] at cak
              have HX := Lib.hid hX
              clear hX
              clear hb ha
              go_wp2_with (fail)
              refine HCK.mono ?_
              rintro e _ ⟨rfl, hww⟩
              subst hww
              go_wp2_with (at_builtin; refine wpList_append_own_at _ rfl (.tmp 72) (.tmp 74) 33 rfl B2 3 i0 (.int .i64 0) 1 8 Try.underlying33 HI.out.1 HI.out.2.1 HI.out.2.2.1 HI.out.2.2.2 rfl (by decide) _ _ _ rfl (HR.out.1.alloc _) ⟨wr.heap.size, 0, none⟩ 1 1 [Value.int .i64 X] rfl rfl (cell_one_new _ _ _) (ints_oneCell .i64 [X]) HR.out.2.2.2.1 HR.out.2.2.2.2.1 (by have := HR.out.2.2.2.2.2; simp; omega) ?_; intro v' w1 hown' hgrow hnil hloc; (have hb1 : Below B2 v4 w1 := (HR.out.2.1.alloc HR.out.2.2.2.2.2 _).grown hgrow (by have := HR.out.2.1.size; have := HR.out.2.2.2.2.2; simp; omega) HOW.out); (have HF := Lib.hid (And.intro hown' hb1)); clear hown' hb1 hgrow hnil hloc)
              go_roundw
              case rel =>
                refine ⟨k + 1, v', by have := HR.out.2.2.1; omega, rfl, by rw [ew], ?_, HF.out.2⟩
                have h9 := HF.out.1
                rw [othr_succ, List.map_append]
                rw [if_pos rfl, ← HX.out]; exact h9
              case measure =>
                show c - (intOf (Value.int .i64 (wrap64 ((k : Int) + 1)))).toNat < c - (intOf (Value.int .i64 (k : Int))).toNat
                have := HR.out.2.2.1
                rw [ew]; simp only [intOf]; omega
            · have hlb : (k : Int) < (nb : Int) := by omega
              obtain ⟨bb, ob, rfl, cbk⟩ := HCC.out.2.1.cell k hb
              obtain ⟨Y, hY⟩ : ∃ Y, Y = chB.getD k 0 := ⟨_, rfl⟩
              rw [← hY] at cbk
              have HY := Lib.hid hY
              clear hY
              have hla : ¬ (k : Int) < (na : Int) := by omega
              have HZ : Hid (chA.getD k 0 = 0) := (by rw [List.getD_eq_getElem?_getD, List.getElem?_eq_none (by have := HNN.out; omega)]; rfl)
              clear hb ha
              go_wp2_with (fail)
              refine HCK.mono ?_
              rintro e _ ⟨rfl, hww⟩
              subst hww
              go_wp2_with (at_builtin; refine wpList_append_own_at _ rfl (.tmp 72) (.tmp 74) 33 rfl B2 3 i0 (.int .i64 0) 1 8 Try.underlying33 HI.out.1 HI.out.2.1 HI.out.2.2.1 HI.out.2.2.2 rfl (by decide) _ _ _ rfl (HR.out.1.alloc _) ⟨wr.heap.size, 0, none⟩ 1 1 [Value.int .i64 0] rfl rfl (cell_one_new _ _ _) (ints_oneCell .i64 [0]) HR.out.2.2.2.1 HR.out.2.2.2.2.1 (by have := HR.out.2.2.2.2.2; simp; omega) ?_; intro v' w1 hown' hgrow hnil hloc; (have hb1 : Below B2 v4 w1 := (HR.out.2.1.alloc HR.out.2.2.2.2.2 _).grown hgrow (by have := HR.out.2.1.size; have := HR.out.2.2.2.2.2; simp; omega) HOW.out); (have HF := Lib.hid (And.intro hown' hb1)); clear hown' hb1 hgrow hnil hloc)
              go_roundw
              case rel =>
                refine ⟨k + 1, v', by have := HR.out.2.2.1; omega, rfl, by rw [ew], ?_, HF.out.2⟩
                have h9 := HF.out.1
                rw [othr_succ, List.map_append]
                rw [if_pos rfl, HZ.out]; exact h9
              case measure =>
                show c - (intOf (Value.int .i64 (wrap64 ((k : Int) + 1)))).toNat < c - (intOf (Value.int .i64 (k : Int))).toNat
                have := HR.out.2.2.1
                rw [ew]; simp only [intOf]; omega
          · by_cases ha : k < na
            · have hlb : ¬ (k : Int) < (nb : Int) := by omega
              have hla : (k : Int) < (na : Int) := by omega
              obtain ⟨ba, oa, rfl, cak⟩ := HCC.out.1.1.cell k ha
              obtain ⟨X, hX⟩ : ∃ X, X = chA.getD k 0 := ⟨_, rfl⟩
              rw [← hX] at cak
              have HX := Lib.hid hX
              clear hX
              clear hb ha
              go_wp2_with (fail)
              refine HCK.mono ?_
              rintro e _ ⟨rfl, hww⟩
              subst hww
              go_wp2_with (at_builtin; refine wpList_append_own_at _ rfl (.tmp 72) (.tmp 74) 33 rfl B2 3 i0 (.int .i64 0) 1 8 Try.underlying33 HI.out.1 HI.out.2.1 HI.out.2.2.1 HI.out.2.2.2 rfl (by decide) _ _ _ rfl (HR.out.1.alloc _) ⟨wr.heap.size, 0, none⟩ 1 1 [Value.int .i64 X] rfl rfl (cell_one_new _ _ _) (ints_oneCell .i64 [X]) HR.out.2.2.2.1 HR.out.2.2.2.2.1 (by have := HR.out.2.2.2.2.2; simp; omega) ?_; intro v' w1 hown' hgrow hnil hloc; (have hb1 : Below B2 v4 w1 := (HR.out.2.1.alloc HR.out.2.2.2.2.2 _).grown hgrow (by have := HR.out.2.1.size; have := HR.out.2.2.2.2.2; simp; omega) HOW.out); (have HF := Lib.hid (And.intro hown' hb1)); clear hown' hb1 hgrow hnil hloc)
              go_roundw
              case rel =>
                refine ⟨k + 1, v', by have := HR.out.2.2.1; omega, rfl, by rw [ew], ?_, HF.out.2⟩
                have h9 := HF.out.1
                rw [othr_succ, List.map_append]
                rw [if_pos rfl, ← HX.out]; exact h9
              case measure =>
                show c - (intOf (Value.int .i64 (wrap64 ((k : Int) + 1)))).toNat < c - (intOf (Value.int .i64 (k : Int))).toNat
                have := HR.out.2.2.1
                rw [ew]; simp only [intOf]; omega
            · have hlb : ¬ (k : Int) < (nb : Int) := by omega
              have hla : ¬ (k : Int) < (na : Int) := by omega
              have HZ : Hid (chA.getD k 0 = 0) := (by rw [List.getD_eq_getElem?_getD, List.getElem?_eq_none (by have := HNN.out; omega)]; rfl)
              clear hb ha
              go_wp2_with (fail)
              refine HCK.mono ?_
              rintro e _ ⟨rfl, hww⟩
              subst hww
              go_wp2_with (at_builtin; refine wpList_append_own_at _ rfl (.tmp 72) (.tmp 74) 33 rfl B2 3 i0 (.int .i64 0) 1 8 Try.underlying33 HI.out.1 HI.out.2.1 HI.out.2.2.1 HI.out.2.2.2 rfl (by decide) _ _ _ rfl (HR.out.1.alloc _) ⟨wr.heap.size, 0, none⟩ 1 1 [Value.int .i64 0] rfl rfl (cell_one_new _ _ _) (ints_oneCell .i64 [0]) HR.out.2.2.2.1 HR.out.2.2.2.2.1 (by have := HR.out.2.2.2.2.2; simp; omega) ?_; intro v' w1 hown' hgrow hnil hloc; (have hb1 : Below B2 v4 w1 := (HR.out.2.1.alloc HR.out.2.2.2.2.2 _).grown hgrow (by have := HR.out.2.1.size; have := HR.out.2.2.2.2.2; simp; omega) HOW.out); (have HF := Lib.hid (And.intro hown' hb1)); clear hown' hb1 hgrow hnil hloc)
              go_roundw
              case rel =>
                refine ⟨k + 1, v', by have := HR.out.2.2.1; omega, rfl, by rw [ew], ?_, HF.out.2⟩
                have h9 := HF.out.1
                rw [othr_succ, List.map_append]
                rw [if_pos rfl, HZ.out]; exact h9
              case measure =>
                show c - (intOf (Value.int .i64 (wrap64 ((k : Int) + 1)))).toNat < c - (intOf (Value.int .i64 (k : Int))).toNat
                have := HR.out.2.2.1
                rw [ew]; simp only [intOf]; omega
        · have hgi : ¬ (k : Int) = (g : Int) := by omega
          have HGN := Lib.hid hg
          clear hg
          by_cases hb : k < nb
          · have hlb : (k : Int) < (nb : Int) := by omega
            obtain ⟨bb, ob, rfl, cbk⟩ := HCC.out.2.1.cell k hb
            obtain ⟨Y, hY⟩ : ∃ Y, Y = chB.getD k 0 := ⟨_, rfl⟩
            rw [← hY] at cbk
            have HY := Lib.hid hY
            clear hY
            clear hb
            go_wp2_with (fail)
            refine HCK.mono ?_
            rintro e _ ⟨rfl, hww⟩
            subst hww
            go_wp2_with (at_builtin; refine wpList_append_own_at _ rfl (.tmp 72) (.tmp 74) 33 rfl B2 3 i0 (.int .i64 0) 1 8 Try.underlying33 HI.out.1 HI.out.2.1 HI.out.2.2.1 HI.out.2.2.2 rfl (by decide) _ _ _ rfl (HR.out.1.alloc _) ⟨wr.heap.size, 0, none⟩ 1 1 [Value.int .i64 Y] rfl rfl (cell_one_new _ _ _) (ints_oneCell .i64 [Y]) HR.out.2.2.2.1 HR.out.2.2.2.2.1 (by have := HR.out.2.2.2.2.2; simp; omega) ?_; intro v' w1 hown' hgrow hnil hloc; (have hb1 : Below B2 v4 w1 := (HR.out.2.1.alloc HR.out.2.2.2.2.2 _).grown hgrow (by have := HR.out.2.1.size; have := HR.out.2.2.2.2.2; simp; omega) HOW.out); (have HF := Lib.hid (And.intro hown' hb1)); clear hown' hb1 hgrow hnil hloc)
            go_roundw
            case rel =>
              refine ⟨k + 1, v', by have := HR.out.2.2.1; omega, rfl, by rw [ew], ?_, HF.out.2⟩
              have h9 := HF.out.1
              rw [othr_succ, List.map_append]
              rw [if_neg HGN.out, ← HY.out]; exact h9
            case measure =>
              show c - (intOf (Value.int .i64 (wrap64 ((k : Int) + 1)))).toNat < c - (intOf (Value.int .i64 (k : Int))).toNat
              have := HR.out.2.2.1
              rw [ew]; simp only [intOf]; omega
          · have hlb : ¬ (k : Int) < (nb : Int) := by omega
            have HZ : Hid (chB.getD k 0 = 0) := (by rw [List.getD_eq_getElem?_getD, List.getElem?_eq_none (by have := HNN.out; omega)]; rfl)
            clear hb
            go_wp2_with (fail)
            refine HCK.mono ?_
            rintro e _ ⟨rfl, hww⟩
            subst hww
            go_wp2_with (at_builtin; refine wpList_append_own_at _ rfl (.tmp 72) (.tmp 74) 33 rfl B2 3 i0 (.int .i64 0) 1 8 Try.underlying33 HI.out.1 HI.out.2.1 HI.out.2.2.1 HI.out.2.2.2 rfl (by decide) _ _ _ rfl (HR.out.1.alloc _) ⟨wr.heap.size, 0, none⟩ 1 1 [Value.int .i64 0] rfl rfl (cell_one_new _ _ _) (ints_oneCell .i64 [0]) HR.out.2.2.2.1 HR.out.2.2.2.2.1 (by have := HR.out.2.2.2.2.2; simp; omega) ?_; intro v' w1 hown' hgrow hnil hloc; (have hb1 : Below B2 v4 w1 := (HR.out.2.1.alloc HR.out.2.2.2.2.2 _).grown hgrow (by have := HR.out.2.1.size; have := HR.out.2.2.2.2.2; simp; omega) HOW.out); (have HF := Lib.hid (And.intro hown' hb1)); clear hown' hb1 hgrow hnil hloc)
            go_roundw
            case rel =>
              refine ⟨k + 1, v', by have := HR.out.2.2.1; omega, rfl, by rw [ew], ?_, HF.out.2⟩
              have h9 := HF.out.1
              rw [othr_succ, List.map_append]
              rw [if_neg HGN.out, HZ.out]; exact h9
            case measure =>
              show c - (intOf (Value.int .i64 (wrap64 ((k : Int) + 1)))).toNat < c - (intOf (Value.int .i64 (k : Int))).toNat
              have := HR.out.2.2.1
              rw [ew]; simp only [intOf]; omega
      · have hkc : k = c := by omega
        subst hkc
        have hcv : CV wr (fun b => B2 ≤ b) vo chO := by
          rw [HG.out.2.1]
          refine CV.of_row ?_
          rw [othr_len]; exact hrow
        have hkk : ¬ (k : Int) < (k : Int) := by omega
        have HCK := kct.out wr hat
        have HKA := Lib.hid (kafA.out wr hat hgw)
        have HXX := Lib.hid (And.intro hat (And.intro hgw (And.intro hcv hsz)))
        clear hat hgw hcv hrow hbel hh0 hsz hb4 hlt hB2s hw0s hB0s hcc y2 hk
        go_wp2_with (fail)
        refine HCK.mono ?_
        rintro e _ ⟨rfl, hww⟩
        subst hww
        go_wp2_with (fail)
        refine HKA.out.mono ?_
        rintro e v7 ⟨rfl, b7⟩
        have hat7 := HXX.out.1.below b7
        have hcv7 := HXX.out.2.2.1.below b7
        have hg7 : Below B0 w v7 := HXX.out.2.1.trans (b7.mono (by rw [HB0.out]; exact HXX.out.2.1.size))
        have HKO := Lib.hid (kafO.out v7 _ vo hat7 hcv7)
        have HG7 := Lib.hid hg7
        clear hat7 hcv7 hg7 b7 y1
        go_wp2_with (fail)
        refine HKO.out.mono ?_
        rintro e v8 ⟨rfl, b8⟩
        have hg8 : Below B0 w v8.drew := below_drew (HG7.out.trans (b8.mono (by rw [HB0.out]; exact HG7.out.size)))
        have HG8 := Lib.hid hg8
        clear hg8 b8
        obtain ⟨e1, hE1, u1, u2, u3, u4, u5, u6, u7⟩ := HU.out
        go_wp2
        go_region_held3 (fun W => True) (exact trivial)
          (first
            | (go_at_call 10; (with_reducible refine (kfix.out _).mono ?_); rintro e v11 ⟨rfl, b11⟩))
        go_wp2
        go_ret
        exact ⟨rfl, by rw [← HB0.out]; exact HG8.out.trans (b11.mono (Nat.le_trans (by rw [HB0.out]; exact Nat.le_refl _) HG8.out.size))⟩
end Go.Proofs.Ytcmhpkeighenaaa
