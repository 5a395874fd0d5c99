/- A stamp asked, a block written, a barrier, an extent made: what each call returns, and extent and disk then. Conditions: an int is within 64 bits, a string is no longer than a machine holds. -/
import Derived.Test.YtjippoejaieneaaGreatRea
namespace Go.Proofs.YtjippoejaieneaaGreat
open Go.RowKit Go.Maps Go.Lib
set_option maxRecDepth 20000
set_option linter.unusedVariables false

def rawN (S : St) (V : Dv) (i : Int) : Int := Cd.numS ((sct S V i).drop 120)
def stE (S : St) (V : Dv) (i : Int) : Int := if refE S V i ≠ 0 then refE S V i else if stOk (rawN S V i) then 0 else 153
def stN (S : St) (V : Dv) (i : Int) : Int := if refE S V i ≠ 0 then 0 else if stOk (rawN S V i) then rawN S V i else 0
set_option maxHeartbeats 2000000 in
theorem stamp_any (F : Nat → Prop) (x p : Nat) (S : St) (V : Dv) (i : Int) (w : World) (h : IsE w F x p S V) (hf : Fit S V) :
    Calls Tryz.prog 70 #[.pointer (some ⟨x, 0, none⟩), .int .i64 i] w fun e w' => e = .returned (.tuple #[.int .i64 (stN S V i), .int .i64 (stE S V i)]) ∧ Below w.heap.size w w' := by
  obtain ⟨Fd, Fv, hd, hv, h1, h2⟩ := h
  have kr := refusal_any Fd Fv x p S V i w hd hv
  by_cases hz : refE S V i = 0
  · obtain ⟨hdd, h0, hi⟩ := refE_ok hz
    have e1 : stE S V i = if stOk (rawN S V i) then 0 else 153 := by unfold stE; rw [if_neg (by simpa using hz)]
    have e2 : stN S V i = if stOk (rawN S V i) then rawN S V i else 0 := by unfold stN; rw [if_neg (by simpa using hz)]
    rw [hz] at kr
    have ho := hd.ok
    have hsl := sct_len ho hf h0 hi
    have hro := read_ok hf hdd h0 hi
    have hff := hf
    unfold Fit at hff
    have krd := read_any Fd p S w.drew (hd.below (below_drewN (Below.refl _ _) 1)) ((V.first : Int) + i) (by omega)
    rw [hro] at krd
    obtain ⟨s, hs⟩ : ∃ s, s = ofL (sct S V i) := ⟨_, rfl⟩
    have hss : s.size = 128 := by rw [hs, ofL_size]; exact hsl
    have hsd : s.data.toList = sct S V i := by rw [hs, ofL_list]
    have krd : Hid (Calls Tryz.prog 100 #[.pointer (some ⟨p, 0, none⟩), .int .i64 ((V.first : Int) + i)] w.drew fun e w' => e = .returned (.tuple #[.string s, .int .i64 0]) ∧ Below w.drew.heap.size w.drew w') := by rw [hs]; exact krd
    obtain ⟨T, hT⟩ : ∃ T, T = s.extract 120 128 := ⟨_, rfl⟩
    have hTd : T.data.toList = (sct S V i).drop 120 := by rw [hT, bsub_list, hsd, List.take_of_length_le (by rw [List.length_drop, hsl]; decide)]
    have hTs : T.size = 8 := by rw [← baList, hTd, List.length_drop, hsl]
    have e3 : Cd.numR T 0 0 8 = (rawN S V i, 8, 0) := by
      unfold Cd.numR rawN; rw [if_neg (by omega), if_neg (by omega), if_neg (by omega), List.drop_zero, List.take_of_length_le (by rw [baList, hTs]; decide), hTd]; rfl
    have kn : Hid (∀ W, Calls Tryz.prog 101 #[.string T] W fun e w' => e = .returned (.pointer (some ⟨W.heap.size, 0, none⟩)) ∧ w' = W.alloc (.cells #[.string T, .int .i64 0, .int .i64 0] 167)) := fun W => Cd.new_any T W
    have k3 : Hid (∀ W, Calls Tryz.prog 102 #[.pointer (some ⟨W.heap.size, 0, none⟩), .int .i64 8] (W.alloc (.cells #[.string T, .int .i64 0, .int .i64 0] 167)) fun e w' => e = .returned (.int .i64 (rawN S V i)) ∧ Below W.heap.size W w') := fun W => by
      have r0 : Cd.Rdr (W.alloc (.cells #[.string T, .int .i64 0, .int .i64 0] 167)) W.heap.size T 0 0 := block_new _ _
      have := Cd.num_any _ W.heap.size T 0 0 8 r0 (by omega) (by omega)
      rw [e3] at this
      refine this.mono ?_
      rintro e w' ⟨rfl, _, g⟩
      exact ⟨rfl, ((Below.refl W.heap.size W).alloc (Nat.le_refl _) _).trans (gr_belowC g _ (by simp) (Nat.le_refl _))⟩
    have ki : Hid (∀ W, Calls Tryz.prog 103 #[.int .i64 (rawN S V i)] W fun e w' => e = .returned (.bool (decide (stOk (rawN S V i)))) ∧ W = w') := fun W => isStamp_any _ W
    obtain ⟨_, v, hx, _⟩ := hv
    obtain ⟨c0, c1, _⟩ := IsV.cells (F := Fv) hx
    have hw : IntKind.i64.wrap ((V.first : Int) + i) = (V.first : Int) + i := by rw [IntKind.wrap_i64]; omega
    have HC : Hid (w.drew.cell? ⟨x, 0, none⟩ = some (.pointer (some ⟨p, 0, none⟩)) ∧ w.drew.cell? ⟨x, 1, none⟩ = some (.int .i64 (V.first : Int))) := ⟨c0, c1⟩
    rw [e1, e2]
    obtain ⟨n, rfl⟩ : ∃ n : Nat, i = (n : Int) := ⟨i.toNat, by omega⟩
    have HT := Lib.hid hT
    generalize rawN S V (n : Int) = N at *
    by_cases r : stOk N
    · rw [decide_eq_true r] at ki
      rw [if_pos r, if_pos r]
      clear hz hdd h0 e1 e2 e3 ho hsl hro hff hs hsd hTd hT hx hd h1 h2 hf r hTs
      go_enter Tryz.func70, Tryz.ntmps70
      go_wp2_with (go_at_call 99; refine kr.mono ?_; rintro e w' ⟨rfl, rfl⟩)
      go_region_held3 (fun w' => w'.cell? ⟨x, 0, none⟩ = some (.pointer (some ⟨p, 0, none⟩)) ∧ w'.cell? ⟨x, 1, none⟩ = some (.int .i64 (V.first : Int)))
        (first
          | exact HC.out
          | exact ⟨cell_below HC.out.1 hb2, cell_below HC.out.2 hb2⟩)
        (first
          | (go_at_call 100; (with_reducible refine krd.out.mono ?_); rintro e w2 ⟨rfl, hb2⟩))
      all_goals
        have HB2 := Lib.hid hb2
        clear hb2
        go_wp2_with (first
          | (go_at_call 101; rw [← HT.out]; refine (kn.out _).mono ?_; rintro e w3 ⟨rfl, rfl⟩)
          | (go_at_call 102; refine (k3.out _).mono ?_; rintro e w4 ⟨rfl, hb4⟩; have HB4 := Lib.hid hb4; clear hb4)
          | (go_at_call 103; refine (ki.out _).mono ?_; rintro e w6 ⟨rfl, rfl⟩))
        go_ret2
        exact ⟨rfl, below_trans ((below_drewN (Below.refl _ w) 1).trans HB2.out) HB4.out⟩
    · rw [decide_eq_false r] at ki
      rw [if_neg r, if_neg r]
      clear hz hdd h0 e1 e2 e3 ho hsl hro hff hs hsd hTd hT hx hd h1 h2 hf r hTs
      go_enter Tryz.func70, Tryz.ntmps70
      go_wp2_with (go_at_call 99; refine kr.mono ?_; rintro e w' ⟨rfl, rfl⟩)
      go_region_held3 (fun w' => w'.cell? ⟨x, 0, none⟩ = some (.pointer (some ⟨p, 0, none⟩)) ∧ w'.cell? ⟨x, 1, none⟩ = some (.int .i64 (V.first : Int)))
        (first
          | exact HC.out
          | exact ⟨cell_below HC.out.1 hb2, cell_below HC.out.2 hb2⟩)
        (first
          | (go_at_call 100; (with_reducible refine krd.out.mono ?_); rintro e w2 ⟨rfl, hb2⟩))
      all_goals
        have HB2 := Lib.hid hb2
        clear hb2
        go_wp2_with (first
          | (go_at_call 101; rw [← HT.out]; refine (kn.out _).mono ?_; rintro e w3 ⟨rfl, rfl⟩)
          | (go_at_call 102; refine (k3.out _).mono ?_; rintro e w4 ⟨rfl, hb4⟩; have HB4 := Lib.hid hb4; clear hb4)
          | (go_at_call 103; refine (ki.out _).mono ?_; rintro e w6 ⟨rfl, rfl⟩))
        go_ret2
        exact ⟨rfl, below_trans ((below_drewN (Below.refl _ w) 1).trans HB2.out) HB4.out⟩
  · have hz' : refE S V i ≠ 0 := hz
    have e1 : stE S V i = refE S V i := by unfold stE; rw [if_pos hz']
    have e2 : stN S V i = 0 := by unfold stN; rw [if_pos hz']
    rw [e1, e2]
    clear e1 e2 hd hv h1 h2 hf
    generalize refE S V i = E at *
    have hne : (E != 0) = true := by simp [hz]
    go_enter Tryz.func70, Tryz.ntmps70
    go_wp2_with (go_at_call 99; refine kr.mono ?_; rintro e w' ⟨rfl, rfl⟩)
    go_ret2
    exact ⟨rfl, Below.refl _ _⟩
def wrE (S : St) (V : Dv) (i : Int) (d : Bts) (n : Int) : Int := if refE S V i ≠ 0 then refE S V i else if bytE d n ≠ 0 then bytE d n else (S.write ((V.first : Int) + i) (blkB d n)).2
def wrS (S : St) (V : Dv) (i : Int) (d : Bts) (n : Int) : St := if refE S V i ≠ 0 ∨ bytE d n ≠ 0 then S else (S.write ((V.first : Int) + i) (blkB d n)).1
def wrV (S : St) (V : Dv) (i : Int) (d : Bts) (n : Int) : Dv := if wrE S V i d n = 0 then { V with l := keepL V.most V.l ⟨i.toNat, padB d, n⟩ } else V
set_option maxHeartbeats 2000000 in
theorem dwrite_any (F : Nat → Prop) (x p : Nat) (S : St) (V : Dv) (i : Int) (d : ByteArray) (n : Int) (w : World) (h : IsE w F x p S V) (hok : V.ok) (hf : Fit S V) (hsz : d.size ≤ 281474976710656) :
    Calls Tryz.prog 116 #[.pointer (some ⟨x, 0, none⟩), .int .i64 i, .string d, .int .i64 n] w fun e w' => e = .returned (.int .i64 (wrE S V i d.data.toList n)) ∧ EE F w w' x p (wrS S V i d.data.toList n) (wrV S V i d.data.toList n) := by
  have hE := h
  obtain ⟨Fd, Fv, hd, hv, h1, h2⟩ := h
  have kr := refusal_any Fd Fv x p S V i w hd hv
  have few : V.l.length ≤ 16 := Nat.le_trans hok.len hok.most
  have HEE := Lib.hid (EE.of_below hE (Below.refl _ w))
  by_cases hz : refE S V i = 0
  · obtain ⟨hdd, h0, hi⟩ := refE_ok hz
    rw [hz] at kr
    have kb := bytes_any d n w hsz
    by_cases hb : bytE d.data.toList n = 0
    · obtain ⟨hdl, hst⟩ := bytE_ok hb
      rw [hb, bytS_of hb] at kb
      have e1 : wrE S V i d.data.toList n = (S.write ((V.first : Int) + i) (blkB d.data.toList n)).2 := by unfold wrE; rw [if_neg (by simpa using hz), if_neg (by simpa using hb)]
      have e2 : wrS S V i d.data.toList n = (S.write ((V.first : Int) + i) (blkB d.data.toList n)).1 := by unfold wrS; rw [if_neg (by rintro (z | z); exact z hz; exact z hb)]
      obtain ⟨s, hs⟩ : ∃ s, s = ofL (blkB d.data.toList n) := ⟨_, rfl⟩
      have hsd : s.data.toList = blkB d.data.toList n := by rw [hs, ofL_list]
      have hss : s.size = 128 := by rw [← baList, hsd, blkB_len n hdl]
      rw [← hs] at kb
      have hff := hf
      unfold Fit at hff
      obtain ⟨T, hT⟩ : ∃ T, T = s.extract 0 116 := ⟨_, rfl⟩
      have hTd : T = ofL (padB d.data.toList) := by
        have : T.data.toList = padB d.data.toList := by rw [hT, bsub_list, List.drop_zero, hsd]; exact blkB_take n hdl
        rw [← ofL_of T, this]
      obtain ⟨E, hEq⟩ : ∃ E, E = (S.write ((V.first : Int) + i) (blkB d.data.toList n)).2 := ⟨_, rfl⟩
      obtain ⟨S', hS'⟩ : ∃ S', S' = (S.write ((V.first : Int) + i) (blkB d.data.toList n)).1 := ⟨_, rfl⟩
      rw [← hEq] at e1
      rw [← hS'] at e2
      obtain ⟨b, hbk⟩ : ∃ b : Bk, b = ⟨i.toNat, padB d.data.toList, n⟩ := ⟨_, rfl⟩
      have e3 : wrV S V i d.data.toList n = if E = 0 then { V with l := keepL V.most V.l b } else V := by unfold wrV; rw [e1, hbk]
      rw [e1, e2, e3]
      have KW : Hid (∀ w2, Below w.heap.size w w2 → Calls Tryz.prog 138 #[.pointer (some ⟨p, 0, none⟩), .int .i64 ((V.first : Int) + i), .string s] w2.drew fun e w' => e = .returned (.int .i64 E) ∧ w'.cell? ⟨x, 0, none⟩ = some (.pointer (some ⟨p, 0, none⟩)) ∧ w'.cell? ⟨x, 1, none⟩ = some (.int .i64 (V.first : Int)) ∧ Hid (EE F w w' x p S' V ∧
          Calls Tryz.prog 113 #[.pointer (some ⟨x, 0, none⟩), b.agg] w' fun e w7 => e = .returned (.tuple #[]) ∧ EE F w w7 x p S' { V with l := keepL V.most V.l b })) := fun w2 hb2 => by
        have hb3 : Below w.heap.size w w2.drew := hb2.drew
        have kw := write_any Fd p S w2.drew (hd.below hb3) ((V.first : Int) + i) s (by omega) (by omega)
        rw [hsd, ← hEq, ← hS'] at kw
        refine kw.mono ?_
        rintro e w3 ⟨rfl, ht⟩
        have h1' : ∀ k, Fd k → F k ∧ ¬ Fv k ∧ k < w2.drew.heap.size := fun k hk => ⟨(h1 k hk).1, (h1 k hk).2.1, Nat.lt_of_lt_of_le (h1 k hk).2.2 hb3.size⟩
        have h2' : ∀ k, Fv k → F k ∧ k < w2.drew.heap.size := fun k hk => ⟨(h2 k hk).1, Nat.lt_of_lt_of_le (h2 k hk).2 hb3.size⟩
        have hee := EE.disk (S := S) (F := F) (hv.below hb3) h1' h2' ht
        have hee' := EE.trans (Gr.refl F w w2.drew) (Ch.of_below hb3) hee
        have hv3 : IsV w3 Fv x p V := by
          obtain ⟨F', _, _, c⟩ := ht
          exact (hv.below hb3).of_heap (fun k hk hF => c.block k hk (fun q => (h1 k q).2.1 hF))
        obtain ⟨_, v, hx, _⟩ := hv3
        obtain ⟨c0, c1, _⟩ := IsV.cells (F := Fv) hx
        refine ⟨rfl, c0, c1, hee', ?_⟩
        obtain ⟨F3, ⟨Fd3, Fv3, d3, v3, g1, g2⟩, gr3, ch3⟩ := hee
        have hkeep := keep_any Fv3 x p V b w3 v3 (fun k hk => (g2 k hk).2) few
        refine hkeep.mono ?_
        rintro e w7 ⟨rfl, ht7⟩
        exact ⟨rfl, EE.trans (Gr.refl F w w2.drew) (Ch.of_below hb3) (EE.trans gr3 ch3 (EE.dev d3 g1 g2 ht7))⟩
      obtain ⟨m, rfl⟩ : ∃ m : Nat, i = (m : Int) := ⟨i.toNat, by omega⟩
      have hag : b.agg = .agg #[.int .i64 (m : Int), .string T, .int .i64 n] := by rw [hbk, hTd]; show Bk.agg ⟨((m : Int)).toNat, _, _⟩ = _; rw [Int.toNat_natCast]; rfl
      rw [hag] at KW
      obtain ⟨_, v, hx, _⟩ := hv
      have HC : Hid (∀ w2, Below w.heap.size w w2 → w2.drew.cell? ⟨x, 0, none⟩ = some (.pointer (some ⟨p, 0, none⟩)) ∧ w2.drew.cell? ⟨x, 1, none⟩ = some (.int .i64 (V.first : Int))) := fun w2 hb2 => by
        have hx2 : w2.heap[x]? = some (.cells (dvCells p v V) 117 (0, 0)) := (hb2.block x (block_lt hx)).trans hx
        obtain ⟨c0, c1, _⟩ := IsV.cells (F := Fv) hx2
        exact ⟨c0, c1⟩
      have hw : IntKind.i64.wrap ((V.first : Int) + (m : Int)) = (V.first : Int) + (m : Int) := by rw [IntKind.wrap_i64]; omega
      have HT := Lib.hid hT
      by_cases z : E = 0
      · subst z
        simp only [if_true]
        clear hz hdd h0 hb hdl hst e1 e2 e3 hs hsd hff hT hTd hS' hbk hag hx hd h1 h2 hf hok hE hEq few
        go_enter Tryz.func116, Tryz.ntmps116
        go_wp2_with (first
          | (go_at_call 99; refine kr.mono ?_; rintro e w' ⟨rfl, rfl⟩)
          | (go_at_call 137; refine kb.mono ?_; rintro e w2 ⟨rfl, hb2⟩; have hcc := HC.out w2 hb2; have HCC := Lib.hid hcc; have K39 := Lib.hid (KW.out w2 hb2); clear hcc hb2))
        go_region_held3 (fun w' => w'.cell? ⟨x, 0, none⟩ = some (.pointer (some ⟨p, 0, none⟩)) ∧ w'.cell? ⟨x, 1, none⟩ = some (.int .i64 (V.first : Int)))
          (first
            | exact HCC.out
            | exact ⟨d0, d1⟩)
          (first
            | (go_at_call 138; (with_reducible refine K39.out.mono ?_); rintro e w3 ⟨rfl, d0, d1, HK⟩))
        all_goals
          clear d0 d1
          go_wp2_with (go_at_call 113; rw [← HT.out]; (refine HK.out.2.mono ?_); rintro e w7 ⟨rfl, hee⟩; have HE7 := Lib.hid hee; clear hee)
          go_ret
          exact ⟨rfl, HE7.out⟩
      · rw [if_neg z]
        have hne : (E != 0) = true := by simp [z]
        clear hz hdd h0 hb hdl hst e1 e2 e3 hs hsd hff hT hTd hS' hbk hag hx hd h1 h2 hf hok hE hEq few z
        go_enter Tryz.func116, Tryz.ntmps116
        go_wp2_with (first
          | (go_at_call 99; refine kr.mono ?_; rintro e w' ⟨rfl, rfl⟩)
          | (go_at_call 137; refine kb.mono ?_; rintro e w2 ⟨rfl, hb2⟩; have hcc := HC.out w2 hb2; have HCC := Lib.hid hcc; have K39 := Lib.hid (KW.out w2 hb2); clear hcc hb2))
        go_region_held3 (fun w' => w'.cell? ⟨x, 0, none⟩ = some (.pointer (some ⟨p, 0, none⟩)) ∧ w'.cell? ⟨x, 1, none⟩ = some (.int .i64 (V.first : Int)))
          (first
            | exact HCC.out
            | exact ⟨d0, d1⟩)
          (first
            | (go_at_call 138; (with_reducible refine K39.out.mono ?_); rintro e w3 ⟨rfl, d0, d1, HK⟩))
        all_goals
          clear d0 d1
          go_wp2
          go_ret
          exact ⟨rfl, HK.out.1⟩
    · have e1 : wrE S V i d.data.toList n = bytE d.data.toList n := by unfold wrE; rw [if_neg (by simpa using hz), if_pos hb]
      have e2 : wrS S V i d.data.toList n = S := by unfold wrS; rw [if_pos (.inr hb)]
      have e3 : wrV S V i d.data.toList n = V := by unfold wrV; rw [e1, if_neg hb]
      rw [e1, e2, e3]
      clear e1 e2 e3 hE hd hv h1 h2 hf hok few hz hdd h0 hi
      generalize bytE d.data.toList n = E at *
      have hne : (E != 0) = true := by simp [hb]
      have HEB : Hid (∀ w2, Below w.heap.size w w2 → EE F w w2 x p S V) := fun w2 hb2 => by
        obtain ⟨F', i, g, c⟩ := HEE.out
        exact ⟨F', i.below hb2, fun k hk => (g k hk).elim .inl (fun z => by omega), c.then_below hb2⟩
      go_enter Tryz.func116, Tryz.ntmps116
      go_wp2_with (first
        | (go_at_call 99; refine kr.mono ?_; rintro e w' ⟨rfl, rfl⟩)
        | (go_at_call 137; refine kb.mono ?_; rintro e w2 ⟨rfl, hb2⟩))
      go_ret
      exact ⟨rfl, HEB.out _ hb2⟩
  · have hz' : refE S V i ≠ 0 := hz
    have e1 : wrE S V i d.data.toList n = refE S V i := by unfold wrE; rw [if_pos hz']
    have e2 : wrS S V i d.data.toList n = S := by unfold wrS; rw [if_pos (.inl hz')]
    have e3 : wrV S V i d.data.toList n = V := by unfold wrV; rw [e1, if_neg hz']
    rw [e1, e2, e3]
    clear e1 e2 e3 hE hd hv h1 h2 hf hok few
    generalize refE S V i = E at *
    have hne : (E != 0) = true := by simp [hz]
    go_enter Tryz.func116, Tryz.ntmps116
    go_wp2_with (go_at_call 99; refine kr.mono ?_; rintro e w' ⟨rfl, rfl⟩)
    go_ret
    exact ⟨rfl, HEE.out⟩
set_option maxHeartbeats 2000000 in
theorem barrier_any (F : Nat → Prop) (x p : Nat) (S : St) (V : Dv) (w : World) (h : IsE w F x p S V) (hf : Fit S V) :
    Calls Tryz.prog 97 #[.pointer (some ⟨x, 0, none⟩)] w fun e w' => e = .returned (.int .i64 (S.flush (V.first : Int) (V.cnt : Int)).2) ∧ EE F w w' x p (S.flush (V.first : Int) (V.cnt : Int)).1 V := by
  obtain ⟨Fd, Fv, hd, hv, h1, h2⟩ := h
  have hb3 : Below w.heap.size w w.drew := (Below.refl _ w).drew
  unfold Fit at hf
  have kw := flush_any Fd p S w.drew (hd.below hb3) (fun k hk => (h1 k hk).2.2) (V.first : Int) (V.cnt : Int) (by omega) (by omega)
  have KW : Hid (Calls Tryz.prog 122 #[.pointer (some ⟨p, 0, none⟩), .int .i64 (V.first : Int), .int .i64 (V.cnt : Int)] w.drew fun e w' => e = .returned (.int .i64 (S.flush (V.first : Int) (V.cnt : Int)).2) ∧ w'.cell? ⟨x, 0, none⟩ = some (.pointer (some ⟨p, 0, none⟩)) ∧ w'.cell? ⟨x, 1, none⟩ = some (.int .i64 (V.first : Int)) ∧ w'.cell? ⟨x, 2, none⟩ = some (.int .i64 (V.cnt : Int)) ∧ Hid (EE F w w' x p (S.flush (V.first : Int) (V.cnt : Int)).1 V)) := by
    refine kw.mono ?_
    rintro e w3 ⟨rfl, ht⟩
    have hee := EE.trans (Gr.refl F w w.drew) (Ch.of_below hb3) (EE.disk (S := S) (F := F) (hv.below hb3) h1 h2 ht)
    have hv3 : IsV w3 Fv x p V := by
      obtain ⟨F', _, _, c⟩ := ht
      exact (hv.below hb3).of_heap (fun k hk hF => c.block k hk (fun q => (h1 k q).2.1 hF))
    obtain ⟨_, v, hx, _⟩ := hv3
    obtain ⟨c0, c1, c2, _⟩ := IsV.cells (F := Fv) hx
    exact ⟨rfl, c0, c1, c2, hee⟩
  obtain ⟨_, v, hx, _⟩ := hv
  obtain ⟨c0, c1, c2, _⟩ := IsV.cells (F := Fv) hx
  have HC : Hid (w.drew.cell? ⟨x, 0, none⟩ = some (.pointer (some ⟨p, 0, none⟩)) ∧ w.drew.cell? ⟨x, 1, none⟩ = some (.int .i64 (V.first : Int)) ∧ w.drew.cell? ⟨x, 2, none⟩ = some (.int .i64 (V.cnt : Int))) := ⟨c0, c1, c2⟩
  clear kw hb3 hf hd h1 h2 hx
  go_enter Tryz.func97, Tryz.ntmps97
  go_wp2_with (fail)
  go_region_held3 (fun w' => w'.cell? ⟨x, 0, none⟩ = some (.pointer (some ⟨p, 0, none⟩)) ∧ w'.cell? ⟨x, 1, none⟩ = some (.int .i64 (V.first : Int)) ∧ w'.cell? ⟨x, 2, none⟩ = some (.int .i64 (V.cnt : Int)))
    (first
      | exact HC.out
      | exact ⟨d0, d1, d2⟩)
    (first
      | (go_at_call 122; (with_reducible refine KW.out.mono ?_); rintro e w3 ⟨rfl, d0, d1, d2, HK⟩))
  all_goals
    go_wp2
    go_ret
    exact ⟨rfl, HK.out⟩
def nwE (S : St) (f c m : Int) : Int := if f < 0 ∨ c < 1 ∨ (S.count : Int) - c < f ∨ m < 0 ∨ 16 < m then 150 else 0
def newV (f c m : Int) : Dv := ⟨f.toNat, c.toNat, [], m.toNat, 0⟩
set_option maxHeartbeats 2000000 in
theorem dnew_any (F : Nat → Prop) (p : Nat) (S : St) (f c m : Int) (w : World) (h : IsD w F p S) (hf : In64 f) (hc : In64 c) (hm : In64 m) :
    Calls Tryz.prog 43 #[.pointer (some ⟨p, 0, none⟩), .int .i64 f, .int .i64 c, .int .i64 m] w fun e w' =>
      if nwE S f c m = 0 then e = .returned (.tuple #[.pointer (some ⟨w.heap.size, 0, none⟩), .int .i64 0]) ∧ w' = w.alloc (.cells (dvCells p (.slice none 0 0) (newV f c m)) 117) else e = .returned (.tuple #[.pointer none, .int .i64 150]) ∧ w' = w := by
  have kc := count_any F p S w h
  have hcount : (S.count : Int) ≤ 4096 := by have := h.ok.hi; omega
  unfold In64 at hf hc hm
  clear h
  by_cases a : f < 0
  · simp only [if_neg (show ¬ nwE S f c m = 0 by unfold nwE; rw [if_pos (by omega)]; decide)]
    go_enter Tryz.func43, Tryz.ntmps43
    go_wp2_with (go_at_call 42; refine kc.mono ?_; rintro e w' ⟨rfl, rfl⟩)
    go_ret2
    exact ⟨rfl, rfl⟩
  · by_cases b : c < 1
    · simp only [if_neg (show ¬ nwE S f c m = 0 by unfold nwE; rw [if_pos (by omega)]; decide)]
      go_enter Tryz.func43, Tryz.ntmps43
      go_wp2_with (go_at_call 42; refine kc.mono ?_; rintro e w' ⟨rfl, rfl⟩)
      go_ret2
      exact ⟨rfl, rfl⟩
    · by_cases c' : (S.count : Int) - c < f
      · simp only [if_neg (show ¬ nwE S f c m = 0 by unfold nwE; rw [if_pos (by omega)]; decide)]
        have hsub : wrap64 ((S.count : Int) - c) = (S.count : Int) - c := by unfold wrap64; omega
        generalize S.count = sc at *
        go_enter Tryz.func43, Tryz.ntmps43
        go_wp2_with (go_at_call 42; refine kc.mono ?_; rintro e w' ⟨rfl, rfl⟩)
        go_ret2
        exact ⟨rfl, rfl⟩
      · by_cases d : m < 0
        · simp only [if_neg (show ¬ nwE S f c m = 0 by unfold nwE; rw [if_pos (by omega)]; decide)]
          have hsub : wrap64 ((S.count : Int) - c) = (S.count : Int) - c := by unfold wrap64; omega
          generalize S.count = sc at *
          go_enter Tryz.func43, Tryz.ntmps43
          go_wp2_with (go_at_call 42; refine kc.mono ?_; rintro e w' ⟨rfl, rfl⟩)
          go_ret2
          exact ⟨rfl, rfl⟩
        · by_cases e' : 16 < m
          · simp only [if_neg (show ¬ nwE S f c m = 0 by unfold nwE; rw [if_pos (by omega)]; decide)]
            have hsub : wrap64 ((S.count : Int) - c) = (S.count : Int) - c := by unfold wrap64; omega
            generalize S.count = sc at *
            go_enter Tryz.func43, Tryz.ntmps43
            go_wp2_with (go_at_call 42; refine kc.mono ?_; rintro e w' ⟨rfl, rfl⟩)
            go_ret2
            exact ⟨rfl, rfl⟩
          · simp only [if_pos (show nwE S f c m = 0 by unfold nwE; rw [if_neg (by omega)])]
            have hsub : wrap64 ((S.count : Int) - c) = (S.count : Int) - c := by unfold wrap64; omega
            generalize S.count = sc at *
            unfold newV
            obtain ⟨f', rfl⟩ : ∃ n : Nat, f = (n : Int) := ⟨f.toNat, by omega⟩
            obtain ⟨c2, rfl⟩ : ∃ n : Nat, c = (n : Int) := ⟨c.toNat, by omega⟩
            obtain ⟨m', rfl⟩ : ∃ n : Nat, m = (n : Int) := ⟨m.toNat, by omega⟩
            simp only [Int.toNat_natCast]
            go_enter Tryz.func43, Tryz.ntmps43
            go_wp2_with (go_at_call 42; refine kc.mono ?_; rintro e w' ⟨rfl, rfl⟩)
            go_ret2
            exact ⟨rfl, rfl⟩
end Go.Proofs.YtjippoejaieneaaGreat
