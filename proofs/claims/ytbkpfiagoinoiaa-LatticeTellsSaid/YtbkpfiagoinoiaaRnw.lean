/- The other text's lattice made of pairs: what the call returns. Conditions: the pairs lie in memory. -/
import Derived.Test.YtbkpfiagoinoiaaRnx
namespace Go.Proofs.Ytbkpfiagoinoiaa
open Go.RowKit
set_option linter.unusedVariables false

set_option maxRecDepth 100000 in
set_option maxHeartbeats 4000000 in
theorem rnew_main (n : Nat) (ao : Option Addr) (cap : Nat) (ps : List (Int × Int)) (w : World) (hl : ps.length ≤ 64) (h1 : 1 ≤ n) (h8 : n ≤ 8) (hP : LiesP w ao ps) :
    Calls Try.prog 11 #[.int .i64 (n : Int), .slice ao ps.length cap] w (RPost n ps w) := by
  obtain ⟨i0, hi, hz0, hz1, hz2⟩ := info_parts Try.info54
  have HI := Lib.hid (And.intro hi (And.intro hz0 (And.intro hz1 hz2)))
  clear hi hz0 hz1 hz2
  have hsz : ¬ ((n : Int) < 1 ∨ 8 < (n : Int) ∨ 64 < ps.length) := by omega
  obtain ⟨D, hD⟩ : ∃ D, D = w.heap.size := ⟨_, rfl⟩
  have b0 : Bare (w.alloc (.cells #[.int .i64 (n : Int), .slice none 0 0] 35)) D D n := ⟨by rw [hD]; exact block_new _ _, Nat.le_refl _⟩
  have bel : Below D w (w.alloc (.cells #[.int .i64 (n : Int), .slice none 0 0] 35)) := by rw [hD]; exact (Below.refl _ w).alloc (Nat.le_refl _) _
  have f41 : Hid (∀ k, k < ps.length → okP n (ps.getD k (0, 0)) = false → ∀ e w', e = .returned (.tuple #[.pointer none, .int .i64 41]) → Below D w w' → RPost n ps w e w') := fun k hk hp e w' q hb => by
    have := newE_pair hsz k hk (by simpa using hp)
    exact ⟨by rw [← hD]; exact hb, .inr ⟨by rw [this]; decide, by rw [this]; exact q⟩⟩
  have frest : Hid (ps.all (okP n) = true → ∀ e w' v, newE n ps = v → v ≠ 0 → e = .returned (.tuple #[.pointer none, .int .i64 v]) → Below D w w' → RPost n ps w e w') := fun _ e w' v hv h0 q hb => by
    exact ⟨by rw [← hD]; exact hb, .inr ⟨by rw [hv]; exact h0, by rw [hv]; exact q⟩⟩
  have fok : Hid (∀ e w' L R cap B F, newE n ps = 0 → e = .returned (.tuple #[.pointer (some ⟨L, 0, none⟩), .int .i64 0]) → Below D w w' → Owns w' D L R cap B n F → (∀ i j, i < n → j < n → F i j = newG ps i j) → RPost n ps w e w') := fun e w' L R cap B F hv q hb hi hF => by
    exact ⟨by rw [← hD]; exact hb, .inl ⟨hv, L, R, cap, B, F, q, by rw [← hD]; simpa using hi, by simpa using hF⟩⟩
  have fE : Hid (ps.all (okP n) = true → newE n ps = if loopB n (newG ps) = true then 42 else if joinB n (newG ps) = false then 43 else 0) := fun ha => by
    have := newE_rest hsz (by simpa using ha)
    simpa using this
  have HP := Lib.hid hP
  have hwD : w.heap.size ≤ D := by omega
  generalize RPost n ps w = Q at *
  have HD := Lib.hid hD
  have d1 : decide ((n : Int) < 1) = false := by simp; omega
  have d2 : decide (8 < (n : Int)) = false := by simp; omega
  obtain ⟨M, hM⟩ : ∃ M, M = ps.length := ⟨_, rfl⟩
  rw [← hM] at hl ⊢
  have d3 : decide (64 < (M : Int)) = false := by simp; omega
  have HM := Lib.hid hM
  have B0 := Lib.hid b0
  clear hD hM hP b0
  go_enter Try.func11, Try.ntmps11
  go_wp2_with fail
  rw [← HD.out]
  generalize w.alloc (.cells #[.int .i64 (n : Int), .slice none 0 0] 35) = w0 at *
  go_loopw [7] (fun i wr => ∃ k : Nat, k ≤ M ∧ i = .int .i64 k ∧ Bare wr D D n ∧ Below D w wr ∧ Hid (∀ j, j < k → okP n (ps.getD j (0, 0)) = true)) (fun i _ => M - (intOf i).toNat)
  case atStart => exact ⟨0, by omega, rfl, B0.out, bel, fun j hj => absurd hj (by omega)⟩
  case round =>
    obtain ⟨k, hk, rfl, hb, hbl, hf⟩ := hrel
    clear B0 bel d1 d2 d3
    by_cases hlt : k < M
    · have hki : (k : Int) < (M : Int) := by omega
      obtain ⟨ad, had, q1, q2, q3⟩ := HP.out.below hbl (by omega) k (by rw [← HM.out]; exact hlt)
      subst had
      have ea : (ad.add (k * 2)).add 1 = ⟨(ad.add (k * 2)).block, (ad.add (k * 2)).off + 1, none⟩ := by simp [Addr.add]
      rw [ea] at q2
      have f41k := Lib.hid (f41.out k (by rw [← HM.out]; exact hlt))
      have hokn : Hid ((okP n (ps.getD k (0, 0)) = true) → ∀ j, j < k + 1 → okP n (ps.getD j (0, 0)) = true) := fun q j hj => by
        by_cases e : j = k
        · subst e; exact q
        · exact hf.out j (by omega)
      have hop : okP n (ps.getD k (0, 0)) = (hasB n (ps.getD k (0, 0)).1 && hasB n (ps.getD k (0, 0)).2) := rfl
      generalize (ps.getD k (0, 0)) = pk at *
      obtain ⟨x, y⟩ := pk
      dsimp only at q1 q2 hop
      rw [hop] at f41k hokn
      have A := fun v => level_any D n v wr hb.count
      have A1 := Lib.hid (A x)
      have A2 := Lib.hid (A y)
      have HB := Lib.hid hb
      have HBL := Lib.hid hbl
      clear A hop hb hbl hf
      cases hx : hasB n x with
      | false =>
        rw [hx] at A1 f41k
        have F4 := Lib.hid (f41k.out rfl)
        clear hx
        go_wp2_with (first
          | (go_at_call 36; (with_reducible refine (A1.out).mono ?_); rintro e w' ⟨rfl, rfl⟩))
        exact F4.out _ _ rfl HBL.out
      | true =>
        cases hy : hasB n y with
        | false =>
          rw [hx] at A1
          rw [hy] at A2
          rw [hx, hy] at f41k
          have F4 := Lib.hid (f41k.out rfl)
          clear hx hy
          go_wp2_with (first
            | (go_at_call 36; (with_reducible refine (A1.out).mono ?_); rintro e w' ⟨rfl, rfl⟩)
            | (go_at_call 36; (with_reducible refine (A2.out).mono ?_); rintro e w' ⟨rfl, rfl⟩))
          exact F4.out _ _ rfl HBL.out
        | true =>
          rw [hx] at A1
          rw [hy] at A2
          rw [hx, hy] at hokn
          have hk1 := Lib.hid (hokn.out rfl)
          clear hx hy
          go_wp2_with (first
            | (go_at_call 36; (with_reducible refine (A1.out).mono ?_); rintro e w' ⟨rfl, rfl⟩)
            | (go_at_call 36; (with_reducible refine (A2.out).mono ?_); rintro e w' ⟨rfl, rfl⟩))
          first
            | exact ⟨⟨k + 1, by omega, by go_num, HB.out, HBL.out, hk1⟩, by simp [intOf]; omega⟩
            | (refine ⟨?_, by simp [intOf]; omega⟩; repeat apply Exists.intro; exact ⟨⟨k + 1, by omega, by go_num, HB.out, HBL.out, hk1⟩, rfl⟩)
    · have hkM : k = M := by omega
      subst hkM
      have hall : ps.all (okP n) = true := by
        rw [List.all_eq_true]
        intro p hp
        obtain ⟨j, hj, rfl⟩ := List.getElem_of_mem hp
        have := hf.out j (by rw [HM.out]; exact hj)
        rwa [List.getD, List.getElem?_eq_getElem hj] at this
      have HA := Lib.hid hall
      have g0 : RowsP wr D n 0 (.slice none 0 0) (fun _ => 0) := RowsP.begin hb
      have hd0 : decide ((k : Int) < (k : Int)) = false := by simp
      clear hb hf f41 hall hlt
      go_wp2
      go_loopw [8, 9] (fun i _ wr => ∃ a : Nat, ∃ v : Value, ∃ B : Nat → Nat, a ≤ n ∧ i = .int .i64 a ∧ RowsP wr D n a v B ∧ Below D w wr) (fun i _ _ => n - (intOf i).toNat)
      case atStart => exact ⟨0, _, _, by omega, rfl, g0, hbl⟩
      case round =>
        obtain ⟨a, v, B, ha, rfl, gr, hbl⟩ := hrel
        clear g0
        by_cases hlt : a < n
        · have hai : (a : Int) < (n : Int) := by omega
          have hmk := run_make_row' (P := Try.prog) 54 4 (.bool false) 1 Try.underlying54 Try.info4 rfl .i64 .i64 n (by omega) (by omega)
          have hmc : (madeCells #[Value.bool false] n)[a]? = some (.bool false) := by simp [madeCells, hlt, Nat.mod_one]
          have c1 : wr.cell? ⟨D, 1, none⟩ = some v := by rw [cell_of_row _ _ _ _ _ _ gr.is]; rfl
          have hDlt := block_lt gr.is
          have GR := Lib.hid gr
          clear hd0 gr
          go_wp2_with (at_builtin; refine wpList_append_own _ rfl _ _ 33 rfl (D + 1) 54 i0 (.slice none 0 0) 1 24 Try.underlying33 HI.out.1 HI.out.2.1 HI.out.2.2.1 HI.out.2.2.2 rfl (by decide) _ _ _ rfl ((GR.out.own.alloc _).alloc _) ⟨wr.heap.size + 1, 0, none⟩ 1 1 [.slice (some ⟨wr.heap.size, 0, none⟩) n n] rfl rfl ?c1 ?c2 ?c3 ?c4 ?c5 ?_)
          case c1 => intro j u hj; match j, hj with | 0, hj => simp at hj; subst hj; simp [Addr.add]
          case c2 => intro u hu; simp at hu; subst hu; rfl
          case c3 => unfold maxLen; omega
          case c4 => omega
          case c5 => simp; omega
          · intro v' w1 own' hg hnil
            clear hnil hmk
            obtain ⟨g, cp, rfl⟩ := own_value own'
            obtain ⟨hbn, hrn, c2, f2⟩ := GR.out.more hlt hg own' hbl
            have HBN := Lib.hid hbn
            have HRN := Lib.hid hrn
            clear hbn hrn own' hg hbl c1
            go_wp2
            first
              | exact ⟨⟨a + 1, _, _, by omega, by go_num, HRN.out, HBN.out⟩, by simp [intOf]; omega⟩
              | (refine ⟨?_, by simp [intOf]; omega⟩; repeat apply Exists.intro; exact ⟨⟨a + 1, _, _, by omega, by go_num, HRN.out, HBN.out⟩, rfl⟩)
        · have han : a = n := by omega
          subst han
          obtain ⟨R, cp, ow⟩ := gr.full h1
          have hd1 : decide ((a : Int) < (a : Int)) = false := by simp
          have hw1 : Owns wr D D R cp B a (fun i j => decide (i = j) || insK ps 0 i j) := by simpa [insK_zero] using ow
          clear gr ow hlt
          go_wp2
          go_loopw [10] (fun i wr => ∃ k' : Nat, k' ≤ k ∧ i = .int .i64 k' ∧ Owns wr D D R cp B a (fun i j => decide (i = j) || insK ps k' i j) ∧ Below D w wr) (fun i _ => k - (intOf i).toNat)
          case atStart => exact ⟨0, by omega, rfl, hw1, hbl⟩
          case round =>
            obtain ⟨k', hk', rfl, ow, hbl⟩ := hrel
            clear hw1
            by_cases hlt : k' < k
            · have hki : (k' : Int) < (k : Int) := by omega
              have hkp : k' < ps.length := by rw [← HM.out]; exact hlt
              obtain ⟨ad, had, q1, q2, q3⟩ := HP.out.below hbl (by omega) k' hkp
              subst had
              have hok := List.all_eq_true.1 HA.out ps[k'] (List.getElem_mem hkp)
              have hpk : ps.getD k' (0, 0) = ps[k'] := by simp [List.getD, List.getElem?_eq_getElem hkp]
              have hins := insK_succ ps k' hkp
              rw [hpk] at q1 q2 hins
              generalize ps[k'] = pk at *
              obtain ⟨x, y⟩ := pk
              simp only [okP, Bool.and_eq_true] at hok
              obtain ⟨X, rfl, hX⟩ := hasB_nat hok.1
              obtain ⟨Y, rfl, hY⟩ := hasB_nat hok.2
              have ea : (ad.add (k' * 2)).add 1 = ⟨(ad.add (k' * 2)).block, (ad.add (k' * 2)).off + 1, none⟩ := by simp [Addr.add]
              rw [ea] at q2
              dsimp only at q1 q2 hins
              simp only [Int.toNat_natCast] at hins
              have r0 := ow.is.rows
              have r1 := ow.is.row X hX
              have r2 := ow.is.cell X Y hX hY
              have hXi : (X : Int) < (a : Int) := by omega
              have hYi : (Y : Int) < (a : Int) := by omega
              have OW := Lib.hid (ow.put hX hY)
              have hBX := ow.low.2.2 X hX
              have fz := ow.free X Y hX
              generalize B X = BX at *
              have hbn : Below D w (wr.setCell ⟨BX, Y, none⟩ (.bool true)).drew := (hbl.setCell (hBX) _).drew
              have hown : Owns (wr.setCell ⟨BX, Y, none⟩ (.bool true)).drew D D R cp B a (fun i j => decide (i = j) || insK ps (k' + 1) i j) := by
                have e : (fun i j => decide (i = j) || insK ps (k' + 1) i j) = setF (fun i j => decide (i = j) || insK ps k' i j) X Y true := by
                  funext i j
                  rw [hins]
                  unfold setF
                  split <;> simp
                rw [e]
                exact (OW.out).below (below_drewN (Below.refl _ _) 1)
              have HOW := Lib.hid hown
              have HBN := Lib.hid hbn
              have HINS := Lib.hid hins
              clear hok OW hown hbn hins ow hbl
              generalize hold : (decide (X = Y) || insK ps k' X Y) = old at r2
              clear hold
              go_wp2
              go_still_tail 17, (by kernel_rfl)
              change wpList _ _ _ _ _ wr.drew
              go_wp2
              first
                | exact ⟨⟨k' + 1, by omega, by go_num, HOW.out, HBN.out⟩, by simp [intOf]; omega⟩
                | (refine ⟨?_, by simp [intOf]; omega⟩; repeat apply Exists.intro; exact ⟨⟨k' + 1, by omega, by go_num, HOW.out, HBN.out⟩, rfl⟩)
            · have hkk : k' = k := by omega
              subst hkk
              have hd2 : decide ((k' : Int) < (k' : Int)) = false := by simp
              have F0 : (fun i j => decide (i = j) || insK ps k' i j) = fun i j => decide (i = j) || newF ps i j := by unfold newF; rw [← HM.out]
              rw [F0] at ow
              have M0 : Mid a ps fun i j => decide (i = j) || newF ps i j := Mid.begin h8
              clear F0 hlt
              generalize (fun i j => decide (i = j) || newF ps i j) = G0 at *
              go_wp2
              go_loopw [11, 12, 13, 14] (fun mr _ _ _ wr => ∃ m : Bool, ∃ F : Flw, mr = .bool m ∧ Owns wr D D R cp B a F ∧ Mid a ps F ∧ Below D w wr ∧ Hid (m = false → ∀ x y z, x < a → y < a → z < a → F x y = true → F y z = true → F x z = true)) (fun mr _ _ _ wr => lacks a (seenF wr B) + moreN mr)
              case atStart => exact ⟨true, G0, rfl, ow, M0, hbl, fun h => by cases h⟩
              case round =>
                obtain ⟨m, F0, rfl, ow, M0, hbl, hno⟩ := hrel
                cases m with
                | false =>
                  have hFG := M0.done h8 HA.out (hno.out rfl)
                  have hfe := fE.out HA.out
                  have hoff := new_off HA.out
                  have hpre : Pre (newG ps) := clo_pre _
                  have fr := Lib.hid (frest.out HA.out)
                  have fo : Hid (newE (a : Int) ps = 0 → ∀ e w', e = .returned (.tuple #[.pointer (some ⟨D, 0, none⟩), .int .i64 0]) → Below D w w' → Owns w' D D R cp B a F0 → Q e w') :=
                    fun h0 e w' q hb hi => fok.out e w' D R cp B F0 h0 q hb hi hFG
                  generalize newG ps = G at *
                  have f42 : Hid (loopB a G = true → ∀ e w', e = .returned (.tuple #[.pointer none, .int .i64 42]) → Below D w w' → Q e w') := fun hq e w' he hb =>
                    fr.out e w' 42 (by rw [hfe, if_pos hq]) (by decide) he hb
                  have f43 : Hid (loopB a G = false → joinB a G = false → ∀ e w', e = .returned (.tuple #[.pointer none, .int .i64 43]) → Below D w w' → Q e w') := fun hq hj e w' he hb =>
                    fr.out e w' 43 (by rw [hfe, if_neg (by rw [hq]; decide), if_pos hj]) (by decide) he hb
                  have f0 : Hid (loopB a G = false → joinB a G = true → ∀ e w', e = .returned (.tuple #[.pointer (some ⟨D, 0, none⟩), .int .i64 0]) → Below D w w' → Owns w' D D R cp B a F0 → Q e w') := fun hq hj e w' he hb hi =>
                    fo.out (by rw [hfe, if_neg (by rw [hq]; decide), if_neg (by rw [hj]; decide)]) e w' he hb hi
                  have HOFF := Lib.hid hoff
                  have HPRE := Lib.hid hpre
                  have HFG := Lib.hid hFG
                  have HBL := Lib.hid hbl
                  have NL0 := NoLoop.begin a F0
                  clear hno M0 hfe hoff hpre hFG hbl fE frest fr fo fok
                  obtain ⟨w5, hw5⟩ : ∃ w5, w5 = wr := ⟨_, rfl⟩
                  rw [← hw5] at ow HBL ⊢
                  clear hw5
                  go_wp2
                  go_loop [15] (fun x => ∃ X : Nat, X ≤ a ∧ x = .int .i64 X ∧ NoLoop a F0 X 0) (fun x => a - (intOf x).toNat)
                  case atStart => exact ⟨0, by omega, rfl, NL0⟩
                  case round =>
                    obtain ⟨X, hX, rfl, nl⟩ := hrel
                    clear NL0
                    by_cases hlx : X < a
                    · have hXi : (X : Int) < (a : Int) := by omega
                      go_wp2
                      go_loop [16] (fun y => ∃ Y : Nat, Y ≤ a ∧ y = .int .i64 Y ∧ NoLoop a F0 X Y) (fun y => a - (intOf y).toNat)
                      case atStart => exact ⟨0, by omega, rfl, nl⟩
                      case round =>
                        obtain ⟨Y, hY, rfl, nl2⟩ := hrel
                        clear nl
                        by_cases hly : Y < a
                        · have hYi : (Y : Int) < (a : Int) := by omega
                          by_cases hxy : X = Y
                          · subst hxy
                            have hn := nl2.next (fun h => absurd rfl h)
                            have d1 : ((X : Int) != (X : Int)) = false := by simp
                            clear nl2
                            go_wp2
                            first
                              | exact ⟨⟨X + 1, by omega, by go_num, hn⟩, by simp [intOf]; omega⟩
                              | (refine ⟨?_, by simp [intOf]; omega⟩; repeat apply Exists.intro; exact ⟨⟨X + 1, by omega, by go_num, hn⟩, rfl⟩)
                          · have hxy' : ¬ (X : Int) = (Y : Int) := by omega
                            have d1 : ((X : Int) != (Y : Int)) = true := by simpa using hxy'
                            have r0 := ow.is.rows
                            have r1 := ow.is.row X hlx
                            have r2 := ow.is.row Y hly
                            have c1 := ow.is.cell X Y hlx hly
                            have c2 := ow.is.cell Y X hly hlx
                            have OW := Lib.hid ow
                            have hnx := nl2.next (y := Y)
                            have hfd := loop_found hlx hly hxy HFG.out
                            clear ow nl2
                            generalize F0 X Y = p at *
                            generalize F0 Y X = q at *
                            generalize B X = BX at *
                            generalize B Y = BY at *
                            cases p with
                            | false =>
                              have hn := hnx (fun _ => by simp)
                              clear hnx hfd c2
                              go_wp2
                              first
                                | exact ⟨⟨Y + 1, by omega, by go_num, hn⟩, by simp [intOf]; omega⟩
                                | (refine ⟨?_, by simp [intOf]; omega⟩; repeat apply Exists.intro; exact ⟨⟨Y + 1, by omega, by go_num, hn⟩, rfl⟩)
                            | true =>
                              cases q with
                              | false =>
                                have hn := hnx (fun _ => by simp)
                                clear hnx hfd
                                go_wp2
                                first
                                  | exact ⟨⟨Y + 1, by omega, by go_num, hn⟩, by simp [intOf]; omega⟩
                                  | (refine ⟨?_, by simp [intOf]; omega⟩; repeat apply Exists.intro; exact ⟨⟨Y + 1, by omega, by go_num, hn⟩, rfl⟩)
                              | true =>
                                have F4 := Lib.hid (f42.out (hfd rfl))
                                clear hnx hfd
                                go_wp2
                                exact F4.out _ _ rfl HBL.out
                        · have hYa : a ≤ Y := by omega
                          have hd5 : decide ((Y : Int) < (a : Int)) = false := by simp; omega
                          have hn := nl2.up hYa
                          clear nl2
                          go_wp2
                          first
                            | exact ⟨⟨X + 1, by omega, by go_num, hn⟩, by simp [intOf]; omega⟩
                            | (refine ⟨?_, by simp [intOf]; omega⟩; repeat apply Exists.intro; exact ⟨⟨X + 1, by omega, by go_num, hn⟩, rfl⟩)
                    · have hXa : X = a := by omega
                      subst hXa
                      have hlp := nl.none HFG.out
                      have hd5 : decide ((X : Int) < (X : Int)) = false := by simp
                      have g43 := Lib.hid (f43.out hlp)
                      have g0 := Lib.hid (f0.out hlp)
                      have stI := Owns.stays D D R cp X B F0
                      have IR : ∀ w1, Owns w1 D D R cp B X F0 ∧ Below D w w1 → IsR w1 D R cp B X F0 := fun w1 q => q.1.is
                      have RJ := Lib.hid (fun x y w1 q => inv_rjoin IR h8 x y w1 q)
                      have RM := Lib.hid (fun x y w1 q => inv_rmeet IR h8 x y w1 q)
                      have gI : Owns w5 D D R cp B X F0 ∧ Below D w w5 := ⟨ow, HBL.out⟩
                      have j0 := Joins.begin X G
                      clear nl hlp f42 f43 f0 stI IR ow
                      go_wp2
                      go_loopw [17] (fun x wr => ∃ Y : Nat, Y ≤ X ∧ x = .int .i64 Y ∧ (Owns wr D D R cp B X F0 ∧ Below D w wr) ∧ Joins X G Y 0) (fun x _ => X - (intOf x).toNat)
                      case atStart => exact ⟨0, by omega, rfl, gI, j0⟩
                      case round =>
                        obtain ⟨Y, hY, rfl, gI2, jn⟩ := hrel
                        clear gI j0
                        by_cases hly : Y < X
                        · have hYi : (Y : Int) < (X : Int) := by omega
                          obtain ⟨w6, hw6⟩ : ∃ w6, w6 = wr := ⟨_, rfl⟩
                          rw [← hw6] at gI2 ⊢
                          clear hw6 hd5
                          go_wp2
                          go_loopw [18] (fun x wr => ∃ Z : Nat, Z ≤ X ∧ x = .int .i64 Z ∧ (Owns wr D D R cp B X F0 ∧ Below D w wr) ∧ Joins X G Y Z) (fun x _ => X - (intOf x).toNat)
                          case atStart => exact ⟨0, by omega, rfl, gI2, jn⟩
                          case round =>
                            obtain ⟨Z, hZ, rfl, gI3, jn3⟩ := hrel
                            clear gI2 jn
                            by_cases hlz : Z < X
                            · have hZi : (Z : Int) < (X : Int) := by omega
                              have A1 := Lib.hid (RJ.out Y Z)
                              have A2 := Lib.hid (RM.out Y Z)
                              have e1 := rjI_lst HFG.out HPRE.out HOFF.out h8 hly hlz
                              have e2 := rjI_lst (F := turn F0) (G := turn G) (fun i j hi hj => HFG.out j i hj hi) (turn_pre HPRE.out) HOFF.out.turn h8 hly hlz
                              rw [e1] at A1
                              rw [e2] at A2
                              have k1 := lstI_neg (n := X) (G := G) (a := Y) (b := Z)
                              have k2 := lstI_neg (n := X) (G := turn G) (a := Y) (b := Z)
                              have hl := join_lacks (G := G) hly hlz
                              have hn := jn3.next (y := Z)
                              clear e1 e2 jn3
                              generalize lstI G X Y Z = J at *
                              generalize lstI (turn G) X Y Z = K at *
                              rcases k1 with rfl | k1
                              · have F4 := Lib.hid (g43.out (hl (.inl rfl)))
                                clear hl hn k2
                                go_wp2_with (first
                                  | (go_at_call 17; (with_reducible refine (A1.out _ (by assumption)).mono ?_); rintro e w' ⟨rfl, gg⟩))
                                exact F4.out _ _ rfl gg.2
                              · have d1 : decide (J < 0) = false := by simp; omega
                                rcases k2 with rfl | k2
                                · have F4 := Lib.hid (g43.out (hl (.inr rfl)))
                                  clear hl hn
                                  go_wp2_with (first
                                    | (go_at_call 17; (with_reducible refine (A1.out _ (by assumption)).mono ?_); rintro e w' ⟨rfl, gg⟩)
                                    | (go_at_call 19; (with_reducible refine (A2.out _ (by assumption)).mono ?_); rintro e w' ⟨rfl, gg2⟩))
                                  exact F4.out _ _ rfl gg2.2
                                · have d2 : decide (K < 0) = false := by simp; omega
                                  have hn2 := hn ⟨by omega, by omega⟩
                                  clear hl hn
                                  go_wp2_with (first
                                    | (go_at_call 17; (with_reducible refine (A1.out _ (by assumption)).mono ?_); rintro e w' ⟨rfl, gg⟩)
                                    | (go_at_call 19; (with_reducible refine (A2.out _ (by assumption)).mono ?_); rintro e w' ⟨rfl, gg2⟩))
                                  first
                                    | exact ⟨⟨Z + 1, by omega, by go_num, gg2, hn2⟩, by simp [intOf]; omega⟩
                                    | (refine ⟨?_, by simp [intOf]; omega⟩; repeat apply Exists.intro; exact ⟨⟨Z + 1, by omega, by go_num, gg2, hn2⟩, rfl⟩)
                            · have hZa : X ≤ Z := by omega
                              have hd5 : decide ((Z : Int) < (X : Int)) = false := by simp; omega
                              have hn := jn3.up hZa
                              clear jn3
                              go_wp2
                              first
                                | exact ⟨⟨Y + 1, by omega, by go_num, gI3, hn⟩, by simp [intOf]; omega⟩
                                | (refine ⟨?_, by simp [intOf]; omega⟩; repeat apply Exists.intro; exact ⟨⟨Y + 1, by omega, by go_num, gI3, hn⟩, rfl⟩)
                        · have hYa : Y = X := by omega
                          subst hYa
                          have F4 := Lib.hid (g0.out jn.all)
                          have hd5 : decide ((Y : Int) < (Y : Int)) = false := by simp
                          clear jn
                          go_wp2
                          exact F4.out _ _ rfl gI2.2 gI2.1
                | true =>
                  have hse := ow.seen
                  clear hno
                  obtain ⟨w5, hw5⟩ : ∃ w5, w5 = wr := ⟨_, rfl⟩
                  rw [← hw5] at ow hbl hse ⊢
                  go_wp2
                  go_loopw [11, 12, 13, 14] (fun mr x _ _ wr => ∃ m : Bool, ∃ F : Flw, ∃ X : Nat, mr = .bool m ∧ X ≤ a ∧ x = .int .i64 X ∧ Owns wr D D R cp B a F ∧ Mid a ps F ∧ Below D w wr ∧ Pass a F0 F m X 0 0) (fun _ x _ _ _ => a - (intOf x).toNat)
                  case atStart => exact ⟨false, F0, 0, rfl, by omega, rfl, ow, M0, hbl, Pass.begin a F0⟩
                  case round =>
                    obtain ⟨m, F, X, rfl, hX, rfl, ow, MF, hbl, hp⟩ := hrel
                    have HS := Lib.hid hse
                    clear hse hw5 M0
                    by_cases hlx : X < a
                    · have hXi : (X : Int) < (a : Int) := by omega
                      go_wp2
                      go_loopw [11, 13, 14] (fun mr y _ wr => ∃ m : Bool, ∃ F : Flw, ∃ Y : Nat, mr = .bool m ∧ Y ≤ a ∧ y = .int .i64 Y ∧ Owns wr D D R cp B a F ∧ Mid a ps F ∧ Below D w wr ∧ Pass a F0 F m X Y 0) (fun _ y _ _ => a - (intOf y).toNat)
                      case atStart => exact ⟨m, F, 0, rfl, by omega, rfl, ow, MF, hbl, hp⟩
                      case round =>
                        obtain ⟨m, F, Y, rfl, hY, rfl, ow, MF, hbl, hp⟩ := hrel
                        by_cases hly : Y < a
                        · have hYi : (Y : Int) < (a : Int) := by omega
                          go_wp2
                          go_loopw [11, 14] (fun mr z wr => ∃ m : Bool, ∃ F : Flw, ∃ Z : Nat, mr = .bool m ∧ Z ≤ a ∧ z = .int .i64 Z ∧ Owns wr D D R cp B a F ∧ Mid a ps F ∧ Below D w wr ∧ Pass a F0 F m X Y Z) (fun _ z _ => a - (intOf z).toNat)
                          case atStart => exact ⟨m, F, 0, rfl, by omega, rfl, ow, MF, hbl, hp⟩
                          case round =>
                            obtain ⟨m, F, Z, rfl, hZ, rfl, ow, MF, hbl, hp⟩ := hrel
                            by_cases hlz : Z < a
                            · have hZi : (Z : Int) < (a : Int) := by omega
                              have r0 := ow.is.rows
                              have r1 := ow.is.row X hlx
                              have r2 := ow.is.row Y hly
                              have cXY := ow.is.cell X Y hlx hly
                              cases hXY : F X Y with
                              | false =>
                                rw [hXY] at cXY
                                have hn := hp.next (by rw [hXY]; rfl)
                                clear hXY
                                go_wp2
                                first
                                  | exact ⟨⟨m, F, Z + 1, rfl, by omega, by go_num, ow, MF, hbl, hn⟩, by simp [intOf]; omega⟩
                                  | (refine ⟨?_, by simp [intOf]; omega⟩; repeat apply Exists.intro; exact ⟨⟨m, F, Z + 1, rfl, by omega, by go_num, ow, MF, hbl, hn⟩, rfl⟩)
                              | true =>
                                have cYZ := ow.is.cell Y Z hly hlz
                                rw [hXY] at cXY
                                cases hYZ : F Y Z with
                                | false =>
                                  rw [hYZ] at cYZ
                                  have hn := hp.next (by rw [hXY, hYZ]; rfl)
                                  clear hXY hYZ
                                  go_wp2
                                  first
                                    | exact ⟨⟨m, F, Z + 1, rfl, by omega, by go_num, ow, MF, hbl, hn⟩, by simp [intOf]; omega⟩
                                    | (refine ⟨?_, by simp [intOf]; omega⟩; repeat apply Exists.intro; exact ⟨⟨m, F, Z + 1, rfl, by omega, by go_num, ow, MF, hbl, hn⟩, rfl⟩)
                                | true =>
                                  have cXZ := ow.is.cell X Z hlx hlz
                                  rw [hYZ] at cYZ
                                  cases hXZ : F X Z with
                                  | true =>
                                    rw [hXZ] at cXZ
                                    have hn := hp.next (by rw [hXY, hYZ, hXZ]; rfl)
                                    clear hXY hYZ hXZ
                                    go_wp2
                                    first
                                      | exact ⟨⟨m, F, Z + 1, rfl, by omega, by go_num, ow, MF, hbl, hn⟩, by simp [intOf]; omega⟩
                                      | (refine ⟨?_, by simp [intOf]; omega⟩; repeat apply Exists.intro; exact ⟨⟨m, F, Z + 1, rfl, by omega, by go_num, ow, MF, hbl, hn⟩, rfl⟩)
                                  | false =>
                                    rw [hXZ] at cXZ
                                    have hn := hp.found hlx hlz hXZ
                                    have o2 := ow.put hlx hlz
                                    have M2 := MF.step h8 hlx hly hlz hXY hYZ
                                    have b2 := ow.putBelow hbl hlx Z (.bool true)
                                    have fz := ow.free X Z hlx
                                    clear hXY hYZ hXZ ow MF hbl hp
                                    go_wp2
                                    first
                                      | exact ⟨⟨true, _, Z + 1, rfl, by omega, by go_num, o2, M2, b2, hn⟩, by simp [intOf]; omega⟩
                                      | (refine ⟨?_, by simp [intOf]; omega⟩; repeat apply Exists.intro; exact ⟨⟨true, _, Z + 1, rfl, by omega, by go_num, o2, M2, b2, hn⟩, rfl⟩)
                            · have hZa : a ≤ Z := by omega
                              have hd5 : decide ((Z : Int) < (a : Int)) = false := by simp; omega
                              have hpx := hp.upY hZa
                              go_wp2
                              first
                                | exact ⟨⟨m, F, Y + 1, rfl, by omega, by go_num, ow, MF, hbl, hpx⟩, by simp [intOf]; omega⟩
                                | (refine ⟨?_, by simp [intOf]; omega⟩; repeat apply Exists.intro; exact ⟨⟨m, F, Y + 1, rfl, by omega, by go_num, ow, MF, hbl, hpx⟩, rfl⟩)
                        · have hYa : a ≤ Y := by omega
                          have hd5 : decide ((Y : Int) < (a : Int)) = false := by simp; omega
                          have hpx := hp.upX hYa
                          go_wp2
                          first
                            | exact ⟨⟨m, F, X + 1, rfl, by omega, by go_num, ow, MF, hbl, hpx⟩, by simp [intOf]; omega⟩
                            | (refine ⟨?_, by simp [intOf]; omega⟩; repeat apply Exists.intro; exact ⟨⟨m, F, X + 1, rfl, by omega, by go_num, ow, MF, hbl, hpx⟩, rfl⟩)
                    · have hXa : a ≤ X := by omega
                      have hd5 : decide ((X : Int) < (a : Int)) = false := by simp; omega
                      have hq : Hid (m = false → ∀ x y z, x < a → y < a → z < a → F x y = true → F y z = true → F x z = true) := fun e => by subst e; exact hp.done hXa
                      have hms : lacks a (seenF wr B) + moreN (.bool m) < lacks a (seenF w5 B) + moreN (.bool true) := by
                        rw [HS.out, ow.seen]
                        cases m with
                        | true => have := hp.yes rfl; omega
                        | false => rw [(hp.no rfl).1]; show _ + 0 < _ + 1; omega
                      go_wp2
                      first
                        | exact ⟨⟨m, F, rfl, ow, MF, hbl, hq⟩, hms⟩
                        | (refine ⟨?_, hms⟩; repeat apply Exists.intro; exact ⟨⟨m, F, rfl, ow, MF, hbl, hq⟩, rfl⟩)
/-- the whole contract -/
theorem rnew_any (n : Int) (ao : Option Addr) (cap : Nat) (ps : List (Int × Int)) (w : World) (hl : ps.length ≤ 140737488355328) (hP : LiesP w ao ps) :
    Calls Try.prog 11 #[.int .i64 n, .slice ao ps.length cap] w (RPost n ps w) := by
  by_cases h : n < 1 ∨ 8 < n ∨ 64 < ps.length
  · exact rnew_size n ao cap ps w hl h
  · obtain ⟨m, rfl⟩ : ∃ m : Nat, n = (m : Int) := ⟨n.toNat, by omega⟩
    exact rnew_main m ao cap ps w (by omega) (by omega) (by omega) hP
end Go.Proofs.Ytbkpfiagoinoiaa
