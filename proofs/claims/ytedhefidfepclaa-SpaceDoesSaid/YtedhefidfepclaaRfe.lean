/- The document's memory: bytes written through a table. Conditions: numbers that a machine holds. -/
import Derived.Test.YtedhefidfepclaaRfd
namespace Go.Proofs.Ytedhefidfepclaa
open Go.RowKit Go.Maps
set_option linter.unusedVariables false

theorem lay_one (B : Bts) (o : Nat) (x : UInt8) (h : o < B.length) : lay B o [x] = B.set o x := by
  apply List.ext_getElem?
  intro j
  rw [lay_get (by simp; omega), List.getElem?_set]
  by_cases e : o = j
  · subst e; simp [h]
  · rw [if_neg (by simp; omega), if_neg e]
theorem wr_snoc (ps : List Pg) (a : Int) (s : Bts) (k : Nat) (hk : k < s.length) (B : Bts) : wr ps a (s.take (k + 1)) B = (wr ps a (s.take k) B).set (pos ps (a + (k : Nat))) (s.getD k 0) := by
  rw [List.take_add_one, List.getElem?_eq_getElem hk, wr_append, List.length_take, Nat.min_eq_left (by omega), List.getD_eq_getElem?_getD, List.getElem?_eq_getElem hk]
  rfl
set_option maxRecDepth 100000 in
set_option maxHeartbeats 4000000 in
theorem rwrite_any (p g cap F : Nat) (B : Bts) (w : World) (h : IsR w p g cap F B) (G : Nat → Prop) (hGg : ¬ G g) (v : Value) (ps : List Pg) (ht : TabV G w v ps) (a : Int) (st : ByteArray) (ha : In64 a) (hsz : st.size < 9223372036854775808) :
    Calls Try.prog 43 #[.pointer (some ⟨p, 0, none⟩), v, .int .i64 a, .string st] w fun e w' => e = .returned (.int .i64 (writeE F ps a st.size)) ∧ IsR w' p g cap F (writeB F ps B a st.data.toList) ∧ Ch (onB g) w w' := by
  obtain ⟨q, np, cap0, rfl⟩ : ∃ q n cap, v = .slice q n cap := by obtain ⟨q, cap, e, _⟩ := ht; exact ⟨_, _, _, e⟩
  unfold writeB
  rw [baList]
  have kc := rcheck_any p g cap F B w h G (.slice q np cap0) ps ht
  obtain ⟨n, hn⟩ : ∃ n, n = st.size := ⟨_, rfl⟩
  have H := Lib.hid (And.intro h (And.intro ht hGg))
  by_cases c0 : chk F ps = 0
  · have e1 : writeE F ps a st.size = if st.size ≤ 4096 then thereE ps 2 a st.size else 80 := by unfold writeE; rw [if_pos c0]
    rw [c0] at kc
    rw [← hn] at e1 ⊢
    by_cases s0 : n ≤ 4096
    · rw [if_pos s0] at e1
      rw [e1]
      have HT : Hid (∀ W, Below w.heap.size w W → Calls Try.prog 65 #[.slice q np cap0, .int .i64 a, .int .i64 (n : Int), .int .i64 2] W fun e w' => e = .returned (.int .i64 (thereE ps 2 a n)) ∧ Below W.heap.size W w') :=
        fun W hW => rthere_any q np cap0 G ps W (ht.below hW) (chk_mem c0).1 (chk_pages c0) a ha n s0 2 (by omega)
      by_cases t0 : thereE ps 2 a n = 0
      · rw [t0] at HT
        rw [t0, if_pos rfl]
        have hgood := thereE_zero t0
        obtain ⟨m, hm⟩ : ∃ m, m = ps.length := ⟨_, rfl⟩
        obtain rfl : np = m := by obtain ⟨q, cap, e, _⟩ := ht; injection e with _ e2; rw [e2, hm]
        have hnp : np ≤ 16 := by rw [hm]; exact (chk_mem c0).1
        have HC := Lib.hid (And.intro c0 (And.intro hgood hm))
        have HN := Lib.hid hn
        have hns := hn.symm
        clear h ht c0 e1 t0 hgood hm hn hGg hsz
        go_enter Try.func43, Try.ntmps43
        go_wp2_with (first
          | (go_at_call 64; refine kc.mono ?_; rintro e w' ⟨rfl, hb⟩; have HB := Lib.hid hb; clear kc hb)
          | (go_at_call 65; refine (HT.out _ HB.out).mono ?_; rintro e w'' ⟨rfl, hb'⟩; have HB' := Lib.hid hb'; clear hb'))
        have hb2 : Below w.heap.size w w'' := HB.out.trans (HB'.out.mono HB.out.size)
        have HW := Lib.hid (And.intro (H.out.1.below hb2) (Ch.of_below (F := onB g) hb2))
        clear hb2
        go_loopw [10] (fun i wr' => ∃ (k : Nat), k ≤ n ∧ i = .int .i64 (k : Int) ∧ IsR wr' p g cap F (wr ps a (st.data.toList.take k) B) ∧ Ch (onB g) w wr') (fun i _ => n - (intOf i).toNat)
        case atStart => exact ⟨0, Nat.zero_le _, rfl, HW.out.1, HW.out.2⟩
        case round =>
          generalize wr = W at *
          obtain ⟨k, hk, rfl, hm, hch⟩ := hrel
          have c9 := hm.cell
          by_cases a0 : k < n
          · have hlow : 0 ≤ a := by
              have hx := (bad_zero (HC.out.2.1 0 (by omega))).1
              unfold out at hx; omega
            obtain ⟨A, rfl⟩ : ∃ A : Nat, a = (A : Int) := ⟨a.toNat, by omega⟩
            have hgk := HC.out.2.1 k a0
            have hok := (bad_zero hgk).1
            obtain ⟨hp1, hp2, hp3⟩ := pos_lt HC.out.1 hgk
            have hnpk : (A : Int) + k < 256 * (np : Int) := by unfold out at hok; rw [← HC.out.2.2] at hok; omega
            have ht' := H.out.2.1.ch hch (fun k' h1 h2 => H.out.2.2 (by cases h2; exact h1))
            obtain ⟨q', cap', e1, e2, hc⟩ := ht'
            injection e1 with e3 e4 e5
            have hne : ps ≠ [] := fun e => by have := HC.out.2.2; subst e; simp at this; omega
            obtain ⟨b, o, hq, hG, hlt, hcell⟩ := hc hne
            obtain ⟨d0, _⟩ := hcell ((A + k) / 256) (by rw [← HC.out.2.2]; omega)
            have hpg : pg ps ((A : Int) + (k : Nat)) = ps.getD ((A + k) / 256) (0, 0) := by unfold pg; rw [show (((A : Int) + (k : Nat)) / 256).toNat = (A + k) / 256 by omega]
            rw [← hpg] at d0
            obtain ⟨fN, hfN⟩ : ∃ fN : Nat, (pg ps ((A : Int) + (k : Nat))).1 = (fN : Int) := ⟨(pg ps ((A : Int) + (k : Nat))).1.toNat, by omega⟩
            rw [hfN] at d0 hp2
            have hfF : fN < F := by omega
            have hpos : pos ps ((A : Int) + (k : Nat)) = 256 * fN + (A + k) % 256 := by unfold pos; rw [hfN]; omega
            obtain ⟨S, hS⟩ : ∃ S, S = A + k := ⟨_, rfl⟩
            obtain ⟨M, hM⟩ : ∃ M, M = S / 256 := ⟨_, rfl⟩
            obtain ⟨L, hL⟩ : ∃ L, L = S % 256 := ⟨_, rfl⟩
            obtain ⟨K1, hK1⟩ : ∃ K1, K1 = k + 1 := ⟨_, rfl⟩
            obtain ⟨X1, hX1⟩ : ∃ X1, st.extract k K1 = X1 := ⟨_, rfl⟩
            have n1 : IntKind.i64.wrap ((A : Int) + (k : Int)) = (S : Int) := by rw [wrap_in (by omega)]; omega
            have n2 : IntKind.i64.wrap ((S : Int).tdiv 256) = (M : Int) := by rw [Int.tdiv_eq_ediv_of_nonneg (by omega), wrap_in (by omega)]; omega
            have n3 : (S : Int).tmod 256 = (L : Int) := by rw [Int.tmod_eq_emod_of_nonneg (by omega)]; omega
            have m2 : IntKind.i64.wrap ((S : Int) / 256) = (M : Int) := by rw [wrap_in (by omega)]; omega
            have m3 : (S : Int) % 256 = (L : Int) := by omega
            have m4 : IntKind.i64.wrap (L : Int) = (L : Int) := wrap_in (by omega)
            have m5 : IntKind.i64.wrap ((k : Int) + 1) = (K1 : Int) := by rw [wrap_in (by omega)]; omega
            have n4 : (M : Int) < (np : Int) := by omega
            have n6 : M < np := by omega
            have q1 : (K1 : Int) ≤ (n : Int) := by omega
            have q2 : (k : Int) ≤ (K1 : Int) := by omega
            have q3 : K1 ≤ n := by omega
            have q4 : k ≤ K1 := by omega
            have hX1l : X1.data.toList = [st.data.toList.getD k 0] := by
              rw [← hX1, hK1, ByteArray.data_extract, Array.toList_extract, List.extract_eq_take_drop, show k + 1 - k = 1 by omega]
              have hlt : k < st.data.toList.length := by rw [baList, ← HN.out]; exact a0
              rw [List.getD_eq_getElem?_getD, List.getElem?_eq_getElem hlt, List.take_one, List.head?_drop, List.getElem?_eq_getElem hlt]
              rfl
            have hX1s : X1.size = 1 := by rw [← baList, hX1l]; rfl
            have kl := rlay_any p g cap F _ W.drew (hm.below ⟨rfl, rfl, rfl, Nat.le_refl _, fun _ _ => rfl⟩) (fN : Int) (L : Int) X1 (by omega)
            have e9 : layE F (fN : Int) (L : Int) X1.size = 0 := by
              unfold layE
              rw [if_pos (show isF F (fN : Int) by unfold isF; omega), if_neg (by rw [hX1s]; omega)]
            have e8 : layB F (Ytedhefidfepclaa.wr ps (A : Int) (st.data.toList.take k) B) (fN : Int) (L : Int) X1.data.toList = Ytedhefidfepclaa.wr ps (A : Int) (st.data.toList.take (k + 1)) B := by
              unfold layB
              rw [baList, e9, if_pos rfl, hX1l, wr_snoc ps _ _ k (by rw [baList, ← HN.out]; exact a0), hpos, ← hS, ← hL, Int.toNat_natCast, Int.toNat_natCast, lay_one _ _ _ (by rw [hm.len]; omega)]
            rw [e9, e8] at kl
            rw [← hS, ← hM] at d0
            have x1 : W.drew.cell? ⟨b, o + M * 2, none⟩ = some (.int .i64 (fN : Int)) := d0
            rw [← e3] at hq
            subst hq
            have HL := Lib.hid (And.intro hS (And.intro hM (And.intro hL (And.intro hch hK1))))
            clear hS hM hL hK1 hch hm hc hcell e2 e3 e4 e5 hne hlt hG hpg hfN hp1 hp3 hgk hok hlow hnpk hX1l hX1s e9 e8 hpos
            go_wp2
            go_still_tail 18, (by kernel_rfl)
            change wpList _ _ _ _ _ W.drew
            go_wp2_with (go_at_call 39; refine kl.mono ?_; rintro e w4 ⟨rfl, k1, k2⟩; have HK := Lib.hid (And.intro k1 k2); clear k1 k2)
            have hK1 := HL.out.2.2.2.2
            subst hK1
            refine ⟨⟨k + 1, a0, rfl, HK.out.1, HL.out.2.2.2.1.drew.trans (Gr.refl _ _ _) HK.out.2⟩, ?_⟩
            have z := a0
            simp [intOf]; omega
          · obtain rfl : k = n := by omega
            have HF := Lib.hid (And.intro hm hch)
            clear hm hch c9
            go_wp2
            go_ret
            refine ⟨rfl, ?_, HF.out.2⟩
            have := HF.out.1
            rwa [List.take_of_length_le (by rw [baList, HN.out]; exact Nat.le_refl _)] at this
      · rw [if_neg t0]
        obtain ⟨x, hx⟩ : ∃ x, x = thereE ps 2 a n := ⟨_, rfl⟩
        rw [← hx] at t0 ⊢
        rw [← hx] at HT
        have hns := hn.symm
        clear h ht c0 e1 hx hn hGg
        go_enter Try.func43, Try.ntmps43
        go_wp2_with (first
          | (go_at_call 64; refine kc.mono ?_; rintro e w' ⟨rfl, hb⟩; have HB := Lib.hid hb; clear kc hb)
          | (go_at_call 65; refine (HT.out _ HB.out).mono ?_; rintro e w'' ⟨rfl, hb'⟩; have HB' := Lib.hid hb'; clear hb'))
        go_ret
        have b2 := HB.out.trans (HB'.out.mono HB.out.size)
        exact ⟨rfl, H.out.1.below b2, Ch.of_below b2⟩
    · rw [if_neg s0] at e1
      rw [e1, if_neg (by decide)]
      have hns := hn.symm
      clear h ht c0 e1 hn hGg
      go_enter Try.func43, Try.ntmps43
      go_wp2_with (go_at_call 64; refine kc.mono ?_; rintro e w' ⟨rfl, hb⟩; have HB := Lib.hid hb; clear kc hb)
      go_ret
      exact ⟨rfl, H.out.1.below HB.out, Ch.of_below HB.out⟩
  · have e1 : writeE F ps a st.size = chk F ps := by unfold writeE; rw [if_neg c0]
    rw [e1, if_neg c0]
    clear h ht e1 hGg
    generalize chk F ps = x at *
    go_enter Try.func43, Try.ntmps43
    go_wp2_with (go_at_call 64; refine kc.mono ?_; rintro e w' ⟨rfl, hb⟩; have HB := Lib.hid hb; clear kc hb)
    go_ret
    exact ⟨rfl, H.out.1.below HB.out, Ch.of_below HB.out⟩
end Go.Proofs.Ytedhefidfepclaa
