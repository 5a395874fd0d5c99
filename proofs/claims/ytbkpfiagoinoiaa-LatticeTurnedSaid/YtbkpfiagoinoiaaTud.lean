/- With all pairs turned about all that is told is turned about: the walk. Conditions: there are at most as many pairs as a machine holds. -/
import Derived.Test.YtbkpfiagoinoiaaInv
import Derived.Deep.RegionHeld3
namespace Go.Proofs.Ytbkpfiagoinoiaa
open Go.RowKit
set_option linter.unusedVariables false

set_option maxRecDepth 100000 in
set_option maxHeartbeats 8000000 in
theorem turned_walk (n : Int) (ao : Option Addr) (cap : Nat) (ps : List (Int × Int)) (w : World) (hl : ps.length ≤ 8796093022000) (hP : LiesP w ao ps) :
    Calls Try.prog 7 #[.int .i64 n, .slice ao ps.length cap] w fun e w' => e = .returned (.bool true) ∧ Below w.heap.size w w' := by
  obtain ⟨D, hD⟩ : ∃ D, D = w.heap.size := ⟨_, rfl⟩
  have own0 : (w.alloc (.cells #[] 23)).ownsRow D 23 2 (.slice (some ⟨w.heap.size, 0, none⟩) 0 0) 0 (flatP (swP (ps.take 0))) := by
    have : (flatP (swP (ps.take 0)) : List Value) = (#[] : Array Value).toList.take (0 * 2) := by simp [swP, flatP]
    rw [this]
    exact ⟨rfl, .inr ⟨w.heap.size, 0, #[], rfl, by omega, block_new _ _, Nat.le_refl _, by decide, rfl, rfl⟩⟩
  have bel0 : Below D w (w.alloc (.cells #[] 23)) := by rw [hD]; exact (Below.refl _ w).alloc (Nat.le_refl _) _
  have hs0 : D ≤ (w.alloc (.cells #[] 23)).heap.size := by rw [hD]; simp
  have HD := Lib.hid hD
  have HP := Lib.hid hP
  have hDw : D = w.heap.size := hD
  obtain ⟨M, hM⟩ : ∃ M, M = ps.length := ⟨_, rfl⟩
  rw [← hM] at hl ⊢
  rw [← hD]
  have HM := Lib.hid hM
  clear hD hP hM hDw
  go_enter Try.func7, Try.ntmps7
  go_wp2
  generalize w.alloc (.cells #[] 23) = w0 at *
  go_loopw [5, 6] (fun v i wr => ∃ k : Nat, k ≤ M ∧ i = .int .i64 k ∧ wr.ownsRow D 23 2 v k (flatP (swP (ps.take k))) ∧ Below D w wr ∧ D ≤ wr.heap.size) (fun _ i _ => M - (intOf i).toNat)
  case atStart => exact ⟨0, by omega, rfl, own0, bel0, hs0⟩
  case round =>
    obtain ⟨k, hk, rfl, own, hb, hs⟩ := hrel
    clear own0 bel0 hs0
    by_cases hlt : k < M
    · have hki : (k : Int) < (M : Int) := by omega
      have hk0 : (0 : Int) ≤ (k : Int) := by omega
      obtain ⟨ad, had, q1, q2, q3⟩ := HP.out.below hb (by rw [HD.out]; exact Nat.le_refl _) k (by rw [← HM.out]; exact hlt)
      subst had
      have htk : ps.take (k + 1) = ps.take k ++ [ps.getD k (0, 0)] := by
        have hlt' : k < ps.length := by rw [← HM.out]; exact hlt
        rw [List.take_succ_eq_append_getElem hlt', List.getD, List.getElem?_eq_getElem hlt']
        rfl
      have HT := Lib.hid htk
      generalize ps.getD k (0, 0) = xy at *
      obtain ⟨x, y⟩ := xy
      dsimp only at q1 q2
      clear htk
      have hlen : (swP (ps.take k)).length = k := by rw [swP_len, List.length_take]; have := HM.out; omega
      have ownL : (wr.drew.alloc (.cells #[.int .i64 y, .int .i64 x] 23)).ownsRow D 23 2 u5 (swP (ps.take k)).length (flatP (swP (ps.take k))) := by rw [hlen]; exact World.ownsRow.alloc (show wr.drew.ownsRow D 23 2 u5 k (flatP (swP (ps.take k))) from own) _
      obtain ⟨v9, w9, hr9, own9, bel9, hs9⟩ := app_pairs 22 (wr.drew.alloc (.cells #[.int .i64 y, .int .i64 x] 23)) D u5 (swP (ps.take k)) ownL (some ⟨wr.drew.heap.size, 0, none⟩) 1 [(y, x)] (lies_block (ps := [(y, x)]) (block_new _ _)) (fun h => by cases h) (by rw [hlen]; simp; omega) (by have e : wr.drew.heap.size = wr.heap.size := rfl; simp; omega)
      have own10 : w9.ownsRow D 23 2 v9 (k + 1) (flatP (swP (ps.take (k + 1)))) := by
        have e : swP (ps.take (k + 1)) = swP (ps.take k) ++ [(y, x)] := by rw [HT.out]; simp [swP]
        rw [← e] at own9
        have e2 : (swP (ps.take (k + 1))).length = k + 1 := by rw [e, List.length_append, hlen]; rfl
        rw [e2] at own9
        exact own9
      have hb9 : Below D w w9 := (hb.drew.alloc (by exact hs) _).trans bel9
      have r1 : wr.drew.cell? (ad.add (k * 2)) = some (.int .i64 x) := q1
      have r2 : wr.drew.cell? ((ad.add (k * 2)).add 1) = some (.int .i64 y) := q2
      have hblk : (ad.add (k * 2)).block < wr.drew.heap.size := by rw [add_block]; exact Nat.lt_of_lt_of_le q3 (Nat.le_refl _)
      have p1 : (wr.drew.alloc (.cells #[.int .i64 y, .int .i64 x] 23)).cell? (ad.add (k * 2)) = some (.int .i64 x) := by rw [World.cell?_alloc_lt _ _ _ hblk]; exact r1
      have p2 : (wr.drew.alloc (.cells #[.int .i64 y, .int .i64 x] 23)).cell? ((ad.add (k * 2)).add 1) = some (.int .i64 y) := by rw [World.cell?_alloc_lt _ _ _ (by rw [add_block]; exact hblk)]; exact r2
      have hadD : ad.block < D := by have := HP.out k (by rw [← HM.out]; exact hlt); obtain ⟨a', e', _, _, h4⟩ := this; cases e'; rw [HD.out]; exact h4
      have p3 : w9.cell? (ad.add (k * 2)) = some (.int .i64 x) := by rw [bel9.cell (p := ad.add (k * 2)) (by rw [add_block]; exact hadD)]; exact p1
      have p4 : w9.cell? ((ad.add (k * 2)).add 1) = some (.int .i64 y) := by rw [bel9.cell (p := (ad.add (k * 2)).add 1) (by rw [add_block, add_block]; exact hadD)]; exact p2
      have ea : (ad.add (k * 2)).add 1 = ⟨(ad.add (k * 2)).block, (ad.add (k * 2)).off + 1, none⟩ := by simp [Addr.add]
      rw [ea] at r2 p2 p4
      have HR9 := Lib.hid hr9
      have HO := Lib.hid own10
      have HB9 := Lib.hid hb9
      clear own own9 own10 ownL hr9 hb9 bel9 q1 q2 hb
      go_wp2
      go_region_held3 (fun w' => w'.cell? (ad.add (k * 2)) = some (.int .i64 x) ∧ w'.cell? ⟨(ad.add (k * 2)).block, (ad.add (k * 2)).off + 1, none⟩ = some (.int .i64 y))
        (first
          | exact ⟨r1, r2⟩
          | exact ⟨p1, p2⟩
          | exact ⟨p3, p4⟩)
        ((refine step_append_run (by rfl) _ _ 22 (by rfl) _ _ v9 w9 (by rfl) (by rfl) HR9.out ?_))
      all_goals
        go_wp2
        first
          | exact ⟨⟨k + 1, by omega, by go_num, HO.out, HB9.out, hs9⟩, by simp [intOf]; omega⟩
          | (refine ⟨?_, by simp [intOf]; omega⟩; repeat apply Exists.intro; exact ⟨⟨k + 1, by omega, by go_num, HO.out, HB9.out, hs9⟩, rfl⟩)
    · have hkM : k = M := by omega
      subst hkM
      rw [HM.out, List.take_length] at own
      obtain ⟨a2, c2, e2, hL2, _⟩ := own_pairsI (l := swP ps) (by rw [swP_len]; exact own)
      subst e2
      have hlS : (swP ps).length = k := by rw [swP_len]; exact HM.out.symm
      rw [hlS]
      have hPs : LiesP wr ao ps := HP.out.below hb (by rw [HD.out]; exact Nat.le_refl _)
      have hbw : Below w.heap.size w wr := by rw [← HD.out]; exact hb
      have hl2 : ps.length ≤ 140737488355328 := by have := HM.out; omega
      have hl3 : (swP ps).length ≤ 140737488355328 := by rw [swP_len]; exact hl2
      have st0 : Stays fun w1 => Below w.heap.size w w1 ∧ LiesP w1 a2 (swP ps) := stays_lies (stays_below w) a2 (swP ps)
      rw [HD.out]
      by_cases he : newE n ps = 0
      · have hok := newE_ok he
        have L := new_lat he
        obtain ⟨m, rfl⟩ : ∃ m : Nat, n = (m : Int) := ⟨n.toNat, by omega⟩
        rw [Int.toNat_natCast] at L
        have m8 := L.n8
        have N1 := inv_new st0 (m : Int) ao cap ps hl2 wr ⟨hbw, hL2⟩ hPs he
        have N2 := fun w1 b1 (q : (Below w.heap.size w w1 ∧ LiesP w1 a2 (swP ps)) ∧ IsL w1 b1 m (newG ps)) => inv_new (stays_isL st0 b1 m (newG ps)) (m : Int) a2 c2 (swP ps) hl3 w1 q q.1.2 (by rw [swP_E]; exact he)
        rw [← HM.out] at N1
        rw [hlS] at N2
        have hsw := swP_G ps
        generalize newG ps = G at *
        generalize newG (swP ps) = G' at *
        have NN1 := Lib.hid N1
        have NN2 := Lib.hid N2
        clear N1 N2 hPs hL2 own hok hl2 hl3 he HP
        go_wp2_with fail
        (with_reducible refine NN1.out.mono ?_)
        rintro e w1 ⟨b1, rfl, i1, l1, k1⟩
        rw [Int.toNat_natCast] at l1
        have J1 := Lib.hid (And.intro i1 l1)
        clear i1 l1 k1
        go_wp2_with fail
        (with_reducible refine (NN2.out w1 b1 J1.out).mono ?_)
        rintro e w2 ⟨b2, rfl, i2, l2, k2⟩
        rw [Int.toNat_natCast] at l2
        obtain ⟨I, hI⟩ : ∃ I : World → Prop, I = fun w1 => Below w.heap.size w w1 ∧ IsL w1 b1 m G ∧ IsL w1 b2 m (turn G) := ⟨_, rfl⟩
        have gg : I w2 := by rw [hI]; exact ⟨i2.1.1, i2.2, isL_same hsw l2⟩
        have stI : Stays I := by rw [hI]; exact fun u v h k => ⟨below_trans h.1 k, h.2.1.below k h.2.1.lt, h.2.2.below k h.2.2.lt⟩
        have hfin : Hid (∀ w1, I w1 → Below w.heap.size w w1) := by rw [hI]; exact fun w1 q => q.1
        have hq1 : ∀ w1, I w1 → IsL w1 b1 m G := by rw [hI]; exact fun w1 q => q.2.1
        have hq2 : ∀ w1, I w1 → IsL w1 b2 m (turn G) := by rw [hI]; exact fun w1 q => q.2.2
        have hdr : Hid (∀ w1 k, I w1 → I (w1.drewN k)) := by rw [hI]; exact fun w1 k q => ⟨below_drewN q.1 k, q.2.1, q.2.2⟩
        clear J1 i2 l2 k2 NN1 NN2 hbw hb hs hI
        have FX := Lib.hid (fun w1 q => inv_fixed stI w1 q)
        have TA := Lib.hid (fun w1 q => inv_top stI hq1 m8 w1 q)
        have TB := Lib.hid (fun w1 q => inv_bottom stI hq2 m8 w1 q)
        have TC := Lib.hid (fun w1 q => inv_bottom stI hq1 m8 w1 q)
        have TD := Lib.hid (fun w1 q => inv_top stI hq2 m8 w1 q)
        have TE := Lib.hid (fun w1 q => inv_levels stI hq1 w1 q)
        have TF := Lib.hid (fun w1 q => inv_levels stI hq2 w1 q)
        have FA := Lib.hid (fun x y w1 q => inv_flows stI hq1 m8 x y w1 q)
        have FB := Lib.hid (fun x y w1 q => inv_flows stI hq2 m8 x y w1 q)
        have JA := Lib.hid (fun x y w1 q => inv_join stI hq1 m8 x y w1 q)
        have JB := Lib.hid (fun x y w1 q => inv_meet stI hq2 m8 x y w1 q)
        have MA := Lib.hid (fun x y w1 q => inv_meet stI hq1 m8 x y w1 q)
        have MB := Lib.hid (fun x y w1 q => inv_join stI hq2 m8 x y w1 q)
        have UA := Lib.hid (fun x w1 q => inv_above stI hq1 m8 x w1 q)
        have UB := Lib.hid (fun x w1 q => inv_under stI hq2 m8 x w1 q)
        have ett : turn (turn G) = G := rfl
        rw [ett] at TB JB UB
        clear stI hq1 hq2 hsw st0
        generalize topI (lstI G m) m = tA at *
        generalize topI (lstI (turn G) m) m = tB at *
        go_wp2_with (first
          | (go_at_call 12; (with_reducible refine (FX.out _ (by assumption)).mono ?_); rintro e w' ⟨rfl, gg⟩)
          | (go_at_call 26; (with_reducible refine (TA.out _ (by assumption)).mono ?_); rintro e w' ⟨rfl, gg⟩)
          | (go_at_call 28; (with_reducible refine (TB.out _ (by assumption)).mono ?_); rintro e w' ⟨rfl, gg⟩)
          | (go_at_call 28; (with_reducible refine (TC.out _ (by assumption)).mono ?_); rintro e w' ⟨rfl, gg⟩)
          | (go_at_call 26; (with_reducible refine (TD.out _ (by assumption)).mono ?_); rintro e w' ⟨rfl, gg⟩)
          | (go_at_call 25; (with_reducible refine (TE.out _ (by assumption)).mono ?_); rintro e w' ⟨rfl, gg⟩)
          | (go_at_call 25; (with_reducible refine (TF.out _ (by assumption)).mono ?_); rintro e w' ⟨rfl, gg⟩))
        have gs := gg
        clear gg FX TA TB TC TD TE TF
        go_loopw [11, 12, 13, 14, 15] (fun i _ _ _ _ wr => ∃ x : Int, -1 ≤ x ∧ x ≤ (m : Int) + 1 ∧ i = .int .i64 x ∧ I wr) (fun i _ _ _ _ _ => m + 4 - (intOf i + 2).toNat)
        case atStart => exact ⟨-1, by omega, by omega, rfl, gs⟩
        case round =>
          obtain ⟨x, hx1, hx2, rfl, gr⟩ := hrel
          obtain ⟨wo, rfl⟩ : ∃ wo : World, wo = wr := ⟨_, rfl⟩
          clear gs
          by_cases hxm : x ≤ (m : Int)
          · go_wp2
            go_loopw [12] (fun i wr => ∃ y : Int, -1 ≤ y ∧ y ≤ (m : Int) + 1 ∧ i = .int .i64 y ∧ I wr) (fun i _ => m + 4 - (intOf i + 2).toNat)
            case atStart => exact ⟨-1, by omega, by omega, rfl, gr⟩
            case round =>
              obtain ⟨y, hy1, hy2, rfl, gr⟩ := hrel
              by_cases hym : y ≤ (m : Int)
              · have F1 := Lib.hid (FA.out x y)
                have F2 := Lib.hid (FB.out y x)
                have J1 := Lib.hid (JA.out x y)
                have J2 := Lib.hid (JB.out x y)
                have M1 := Lib.hid (MA.out x y)
                have M2 := Lib.hid (MB.out x y)
                rw [flB_turn] at F2
                generalize flB m G x y = f at *
                generalize lstI G m x y = j at *
                generalize lstI (turn G) m x y = j2 at *
                go_wp2_with (first
                  | (go_at_call 14; (with_reducible refine (F1.out _ (by assumption)).mono ?_); rintro e w' ⟨rfl, gg⟩)
                  | (go_at_call 14; (with_reducible refine (F2.out _ (by assumption)).mono ?_); rintro e w' ⟨rfl, gg⟩)
                  | (go_at_call 16; (with_reducible refine (J1.out _ (by assumption)).mono ?_); rintro e w' ⟨rfl, gg⟩)
                  | (go_at_call 18; (with_reducible refine (J2.out _ (by assumption)).mono ?_); rintro e w' ⟨rfl, gg⟩)
                  | (go_at_call 18; (with_reducible refine (M1.out _ (by assumption)).mono ?_); rintro e w' ⟨rfl, gg⟩)
                  | (go_at_call 16; (with_reducible refine (M2.out _ (by assumption)).mono ?_); rintro e w' ⟨rfl, gg⟩))
                first
                  | exact ⟨⟨y + 1, by omega, by omega, by go_num, gg⟩, by simp [intOf]; omega⟩
                  | (refine ⟨?_, by simp [intOf]; omega⟩; repeat apply Exists.intro; exact ⟨⟨y + 1, by omega, by omega, by go_num, gg⟩, rfl⟩)
              · have hyd : decide (y ≤ (m : Int)) = false := by simp; omega
                have U1 := Lib.hid (UA.out x)
                have U2 := Lib.hid (UB.out x)
                have hl8 : (lvlL m G x).length ≤ 8 := by
                  unfold lvlL
                  split
                  · exact upL_len _ _
                  · simp
                generalize lvlL m G x = l8 at *
                go_wp2_with fail
                (with_reducible refine (U1.out _ (by assumption)).mono ?_)
                rintro e w8 ⟨ao3, cap3, rfl, q3, gg8, k8⟩
                go_wp2_with fail
                (with_reducible refine (U2.out _ (by assumption)).mono ?_)
                rintro e w9 ⟨ao4, cap4, rfl, q4, gg9, k9⟩
                have q5 := Lib.hid (q3.below k9 (Nat.le_refl _))
                have q6 := Lib.hid q4
                obtain ⟨N, hN⟩ : ∃ N, N = l8.length := ⟨_, rfl⟩
                rw [← hN] at hl8 ⊢
                have HN := Lib.hid hN
                clear q3 q4 k8 k9 gr gg8 hN
                go_wp2_with fail
                go_loopw [15] (fun i wr => ∃ k n : Nat, k ≤ N ∧ i = .int .i64 k ∧ wr = w9.drewN n) (fun i _ => N - (intOf i).toNat)
                case atStart => exact ⟨0, 0, by omega, rfl, rfl⟩
                case round =>
                  obtain ⟨k, n, hk, rfl, rfl⟩ := hrel
                  by_cases hlt : k < N
                  · have hki : (k : Int) < (N : Int) := by omega
                    obtain ⟨a1, e1, c1, _⟩ := q5.out k (by rw [← HN.out]; exact hlt)
                    obtain ⟨a2, e2, c2, _⟩ := q6.out k (by rw [← HN.out]; exact hlt)
                    subst e1 e2
                    generalize l8.getD k 0 = x8 at *
                    have d1 : (w9.drewN n).cell? (a1.add k) = some (.int .i64 (x8 : Int)) := c1
                    have d2 : (w9.drewN n).cell? (a2.add k) = some (.int .i64 (x8 : Int)) := c2
                    clear c1 c2
                    generalize hW : w9.drewN n = W at *
                    go_wp2
                    go_quiet (fail)
                    have e9 : W.drewN nq = w9.drewN (n + nq) := by rw [← hW, World.drewN_drewN]
                    have HE := Lib.hid e9
                    clear e9 hW d1 d2
                    generalize W.drewN nq = w10 at *
                    go_wp2
                    first
                      | exact ⟨⟨k + 1, n + nq, by omega, by go_num, HE.out⟩, by simp [intOf]; omega⟩
                      | (refine ⟨?_, by simp [intOf]; omega⟩; repeat apply Exists.intro; exact ⟨⟨k + 1, n + nq, by omega, by go_num, HE.out⟩, rfl⟩)
                  · have hkN : k = N := by omega
                    subst hkN
                    have g10 := hdr.out w9 n gg9
                    generalize w9.drewN n = w10 at *
                    go_wp2
                    first
                      | exact ⟨⟨x + 1, by omega, by omega, by go_num, g10⟩, by simp [intOf]; omega⟩
                      | (refine ⟨?_, by simp [intOf]; omega⟩; repeat apply Exists.intro; exact ⟨⟨x + 1, by omega, by omega, by go_num, g10⟩, rfl⟩)
          · have hxd : decide (x ≤ (m : Int)) = false := by simp; omega
            have hf := hfin.out _ gr
            go_wp2
            go_ret
            exact ⟨rfl, by rw [HD.out]; exact hf⟩
      · have N1 := inv_newNo st0 n ao cap ps hl2 wr ⟨hbw, hL2⟩ hPs he
        have N2 := fun w1 (q : Below w.heap.size w w1 ∧ LiesP w1 a2 (swP ps)) => inv_newNo st0 n a2 c2 (swP ps) hl3 w1 q q.2 (by rw [swP_E]; exact he)
        have FX := Lib.hid (fun w1 q => inv_fixed st0 w1 q)
        rw [← HM.out] at N1
        rw [hlS, swP_E] at N2
        have hne : ((newE n ps) == 0) = false := by simpa using he
        have hne2 : ((newE n ps) != 0) = true := by simpa using he
        have NN1 := Lib.hid N1
        have NN2 := Lib.hid N2
        clear N1 N2 hPs hL2 own hl2 hl3 he HP
        generalize newE n ps = c at *
        go_wp2_with fail
        (with_reducible refine NN1.out.mono ?_)
        rintro e w1 ⟨rfl, i1, k1⟩
        have I1 := Lib.hid i1
        clear i1 k1
        go_wp2_with fail
        (with_reducible refine (NN2.out w1 I1.out).mono ?_)
        rintro e w2 ⟨rfl, i2, k2⟩
        have I2 := Lib.hid i2
        clear i2 k2
        go_wp2_with fail
        (with_reducible refine (FX.out w2 I2.out).mono ?_)
        rintro e w3 ⟨rfl, i3⟩
        have hf := i3.1
        clear i3
        go_wp2_with fail
        go_ret
        exact ⟨rfl, by rw [HD.out]; exact hf⟩
end Go.Proofs.Ytbkpfiagoinoiaa
