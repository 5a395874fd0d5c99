/- The pairs that a lattice tells make it again, and none of them could be left out: the walk. Conditions: there are at most as many pairs as a machine holds. -/
import Derived.Test.YtbkpfiagoinoiaaPrm
import Derived.Deep.RegionHeld3
namespace Go.Proofs.Ytbkpfiagoinoiaa
open Go.RowKit
set_option linter.unusedVariables false

theorem inv_pairsC {I : World → Prop} {b n : Nat} {G : Flw} (hk : Stays I) (hL : ∀ w1, I w1 → IsL w1 b n G) (L : Lat n G) (w1 : World) (h : I w1) :
    Calls Try.prog 30 #[.pointer (some ⟨b, 0, none⟩)] w1 fun e w' => ∃ ao cap, e = .returned (.slice ao (prsC n G n).length cap) ∧ LiesP w' ao (natP (prsC n G n)) ∧ (ao = none → cap = 0) ∧ ((prsC n G n).length ≤ cap ∧ cap ≤ maxLen) ∧ (0 < (prsC n G n).length → ∃ g, ao = some ⟨g, 0, none⟩) ∧ I w' ∧ Below w1.heap.size w1 w' :=
  (pairs_any b n G w1 L.n8 (hL w1 h)).mono fun e w' ⟨v, h1, h2, h3⟩ => by
    rw [L.prs] at h2
    have e2 : (natP (prsC n G n)).length = (prsC n G n).length := by simp [natP]
    have h2' := h2
    rw [flat_nat, ← e2] at h2'
    obtain ⟨ao, cap, rfl, hl, hc⟩ := own_pairsI h2'
    rw [e2] at h1 h2
    refine ⟨ao, cap, h1, hl, hc, ?_, ?_, hk w1 w' h h3, h3⟩
    · rcases h2.2 with ⟨q, q2⟩ | ⟨g, cap', cur, q, _, _, q4, q5, _⟩
      · injection q with _ _ q3; subst q3; omega
      · injection q with _ _ q3; subst q3; exact ⟨q4, q5⟩
    · intro hp
      rcases h2.2 with ⟨q, q2⟩ | ⟨g, cap', cur, q, _⟩
      · omega
      · injection q with q1 _ _; exact ⟨g, q1⟩

theorem lies_take {w : World} {g : Nat} {l : List (Int × Int)} (h : LiesP w (some ⟨g, 0, none⟩) l) (k : Nat) : LiesP w (some ⟨g, 0, none⟩) (l.take k) := fun i hi => by
  rw [List.length_take] at hi
  obtain ⟨a, e, q1, q2, q3⟩ := h i (by omega)
  have e2 : (l.take k).getD i (0, 0) = l.getD i (0, 0) := by rw [List.getD, List.getD, List.getElem?_take_of_lt (by omega)]
  rw [e2]
  exact ⟨a, e, q1, q2, q3⟩
theorem lies_drop {w : World} {g : Nat} {l : List (Int × Int)} (h : LiesP w (some ⟨g, 0, none⟩) l) (k : Nat) : LiesP w (some ⟨g, k * 2, none⟩) (l.drop k) := fun i hi => by
  rw [List.length_drop] at hi
  obtain ⟨a, e, q1, q2, q3⟩ := h (k + i) (by omega)
  cases e
  have e2 : (l.drop k).getD i (0, 0) = l.getD (k + i) (0, 0) := by rw [List.getD, List.getD, List.getElem?_drop]
  rw [e2]
  rw [addr_at, Nat.zero_add, Nat.add_mul] at q1
  rw [addr_at, Nat.zero_add, addr_at, Nat.add_mul] at q2
  exact ⟨_, rfl, by rw [addr_at]; exact q1, by rw [addr_at, addr_at]; exact q2, q3⟩
theorem lies_none {w : World} {ao : Option Addr} {l : List (Int × Int)} (h : l = []) : LiesP w ao l := by subst h; exact LiesP.nil _ _
theorem natP_less (l : List (Nat × Nat)) (k : Nat) : natP (l.take k ++ l.drop (k + 1)) = (natP l).take k ++ (natP l).drop (k + 1) := by
  simp [natP, List.map_take, List.map_drop]

set_option maxRecDepth 100000 in
set_option maxHeartbeats 8000000 in
theorem pairs_walk (n : Int) (ao : Option Addr) (cap : Nat) (ps : List (Int × Int)) (w : World) (hl : ps.length ≤ 8796093022000) (hP : LiesP w ao ps) :
    Calls Try.prog 5 #[.int .i64 n, .slice ao ps.length cap] w fun e w' => e = .returned (.bool true) ∧ Below w.heap.size w w' := by
  have hl2 : ps.length ≤ 140737488355328 := by omega
  have st0 := stays_below w
  obtain ⟨M, hM⟩ : ∃ M, M = ps.length := ⟨_, rfl⟩
  by_cases he : newE n ps = 0
  · have hok := newE_ok he
    have L := new_lat he
    obtain ⟨m, rfl⟩ : ∃ m : Nat, n = (m : Int) := ⟨n.toNat, by omega⟩
    rw [Int.toNat_natCast] at L hok
    have m8 := L.n8
    have m1 := L.n1
    have N1 := inv_new st0 (m : Int) ao cap ps hl2 w (Below.refl _ _) hP he
    have hE2 := L.covers_E hok.2.2.2.2.1 hok.2.2.2.2.2
    have hal := L.covers_alike
    have hwt := Lib.hid (fun i hi => L.wanted (i := i) hi)
    have hmm := Lib.hid (fun (i : Nat) (hi : i < (prsC m (newG ps) m).length) => prsC_mem (List.getElem_mem hi))
    have hle : (prsC m (newG ps) m).length ≤ 64 := by rw [← L.prs]; exact Nat.le_trans (prsL_len m _ m) (Nat.le_trans (Nat.mul_le_mul m8 m8) (by decide))
    have hnl : (natP (prsC m (newG ps) m)).length = (prsC m (newG ps) m).length := by simp [natP]
    have PC := fun {I : World → Prop} (hk : Stays I) b (hL : ∀ w1, I w1 → IsL w1 b m (newG ps)) w1 h => inv_pairsC hk hL L w1 h
    generalize prsC m (newG ps) m = pc at *
    generalize newG ps = G at *
    rw [← hM] at N1 ⊢
    have NN1 := Lib.hid N1
    clear N1 hok he hP hM hl hl2
    go_enter Try.func5, Try.ntmps5
    go_wp2_with fail
    (with_reducible refine NN1.out.mono ?_)
    rintro e w1 ⟨b1, rfl, i1, l1, k1⟩
    rw [Int.toNat_natCast] at l1
    have st1 := stays_isL st0 b1 m G
    have FX := Lib.hid (fun w1 q => inv_fixed st1 w1 q)
    have PP := Lib.hid (fun w1 q => PC st1 b1 (fun w1 q => q.2) w1 q)
    have J1 := Lib.hid (And.intro i1 l1)
    clear i1 l1 k1 NN1 PC
    go_wp2_with fail
    (with_reducible refine (FX.out w1 J1.out).mono ?_)
    rintro e w2 ⟨rfl, i2⟩
    have J2 := Lib.hid i2
    clear i2 J1 FX
    go_wp2_with fail
    (with_reducible refine (PP.out w2 J2.out).mono ?_)
    rintro e w3 ⟨ao3, cap3, rfl, lies3, hn3, hc3, hg3, i3, k3⟩
    have st2 := stays_lies st1 ao3 (natP pc)
    have N2 := inv_new st2 (m : Int) ao3 cap3 (natP pc) (by rw [hnl]; omega) w3 ⟨i3, lies3⟩ lies3 hE2
    rw [hnl] at N2
    have NN2 := Lib.hid N2
    clear J2 PP N2 lies3 i3 k3
    obtain ⟨P, hPP⟩ : ∃ P, P = pc.length := ⟨_, rfl⟩
    rw [← hPP] at NN2 hc3 hg3 hle ⊢
    have HP := Lib.hid hPP
    clear hPP
    go_wp2_with fail
    (with_reducible refine NN2.out.mono ?_)
    rintro e w4 ⟨b2, rfl, i4, l4, k4⟩
    rw [Int.toNat_natCast] at l4
    obtain ⟨I, hI⟩ : ∃ I : World → Prop, I = fun w1 => ((Below w.heap.size w w1 ∧ IsL w1 b1 m G) ∧ LiesP w1 ao3 (natP pc)) ∧ IsL w1 b2 m G := ⟨_, rfl⟩
    have gg : I w4 := by rw [hI]; exact ⟨i4, isL_same hal l4⟩
    have stI : Stays I := by rw [hI]; exact stays_isL st2 b2 m G
    have hfin : Hid (∀ w1, I w1 → Below w.heap.size w w1) := by rw [hI]; exact fun w1 q => q.1.1.1
    have hq1 : ∀ w1, I w1 → IsL w1 b1 m G := by rw [hI]; exact fun w1 q => q.1.1.2
    have hq2 : ∀ w1, I w1 → IsL w1 b2 m G := by rw [hI]; exact fun w1 q => q.2
    have hls : Hid (∀ w1, I w1 → LiesP w1 ao3 (natP pc)) := by rw [hI]; exact fun w1 q => q.1.2
    have hdr : Hid (∀ w1 k, I w1 → I (w1.drewN k)) := by rw [hI]; exact fun w1 k q => ⟨⟨⟨below_drewN q.1.1.1 k, q.1.1.2⟩, q.1.2⟩, q.2⟩
    have hst := Lib.hid stI
    have FA := Lib.hid (fun x y w1 q => inv_flows stI hq1 m8 x y w1 q)
    have FB := Lib.hid (fun x y w1 q => inv_flows stI hq2 m8 x y w1 q)
    clear hI i4 l4 k4 NN2 st0 st1 st2 stI hq1 hq2 hal hE2
    go_wp2_with fail
    have gs := gg
    clear gg
    go_loopw [9, 10] (fun i _ wr => ∃ a : Nat, a ≤ m ∧ i = .int .i64 a ∧ I wr) (fun i _ _ => m - (intOf i).toNat)
    case atStart => exact ⟨0, by omega, rfl, gs⟩
    case round =>
      obtain ⟨a, ha, rfl, gr⟩ := hrel
      obtain ⟨wo, rfl⟩ : ∃ wo : World, wo = wr := ⟨_, rfl⟩
      clear gs
      by_cases hlt : a < m
      · have hai : (a : Int) < (m : Int) := by omega
        have ha8 : (a : Int) < 8 := by omega
        go_wp2
        go_loopw [10] (fun i wr => ∃ c : Nat, c ≤ m ∧ i = .int .i64 c ∧ I wr) (fun i _ => m - (intOf i).toNat)
        case atStart => exact ⟨0, by omega, rfl, gr⟩
        case round =>
          obtain ⟨c, hc, rfl, gr⟩ := hrel
          by_cases hlt2 : c < m
          · have hci : (c : Int) < (m : Int) := by omega
            have hc8 : (c : Int) < 8 := by omega
            have F1 := Lib.hid (FA.out a c)
            have F2 := Lib.hid (FB.out a c)
            generalize flB m G a c = f at *
            go_wp2_with (first
              | (go_at_call 14; (with_reducible refine (F1.out _ (by assumption)).mono ?_); rintro e w' ⟨rfl, gg⟩)
              | (go_at_call 14; (with_reducible refine (F2.out _ (by assumption)).mono ?_); rintro e w' ⟨rfl, gg⟩))
            first
              | exact ⟨⟨c + 1, by omega, by go_num, gg⟩, by simp [intOf]; omega⟩
              | (refine ⟨?_, by simp [intOf]; omega⟩; repeat apply Exists.intro; exact ⟨⟨c + 1, by omega, by go_num, gg⟩, rfl⟩)
          · have hcm : c = m := by omega
            subst hcm
            have hd1 : decide ((c : Int) < (c : Int)) = false := by simp
            go_wp2
            first
              | exact ⟨⟨a + 1, by omega, by go_num, gr⟩, by simp [intOf]; omega⟩
              | (refine ⟨?_, by simp [intOf]; omega⟩; repeat apply Exists.intro; exact ⟨⟨a + 1, by omega, by go_num, gr⟩, rfl⟩)
      · have ham : a = m := by omega
        subst ham
        have hd1 : decide ((a : Int) < (a : Int)) = false := by simp
        have gs := gr
        clear gr
        go_wp2
        go_loopw [11, 12, 13, 14] (fun i _ _ _ wr => ∃ k : Nat, k ≤ P ∧ i = .int .i64 k ∧ I wr) (fun i _ _ _ _ => P - (intOf i).toNat)
        case atStart => exact ⟨0, by omega, rfl, gs⟩
        case round =>
          obtain ⟨k, hk, rfl, gr⟩ := hrel
          clear gs
          by_cases hkP : k < P
          · have hki : (k : Int) < (P : Int) := by omega
            obtain ⟨g, hg⟩ := hg3 (by omega)
            subst hg
            have hkc : (k : Int) ≤ (cap3 : Int) := by omega
            have hk1 : (k : Int) + 1 ≤ (P : Int) := by omega
            have hk2 : (k : Int) + 1 ≤ (cap3 : Int) := by omega
            have hw1 : IntKind.i64.wrap ((k : Int) + 1) = (k : Int) + 1 := IntWalk.i64_in _ (by omega)
            have hw2 : (0 : Int) ≤ (k : Int) + 1 := by omega
            have hw3 : ((k : Int) + 1).toNat = k + 1 := by omega
            by_cases hcc : cap3 = k + 1
            · have hl0 : LiesP wr (some ⟨g, 0, none⟩) (natP pc) := hls.out wr gr
              have hnk : ((natP pc).take k).length = k := by rw [List.length_take, hnl]; have := HP.out; omega
              have hnd : ((natP pc).drop (k + 1)).length = P - (k + 1) := by rw [List.length_drop, hnl]; have := HP.out; omega
              obtain rfl : cap3 = k + 1 := hcc
              have hk3 : (k : Int) ≤ (k : Int) + 1 := by omega
              have hk4 : (P : Int) ≤ (k : Int) + 1 := by omega
              have hk5 : P ≤ k + 1 := by omega
              have hz : (natP pc).drop (k + 1) = [] := by rw [List.drop_eq_nil_iff, hnl]; have := HP.out; omega
              have hb1 : ∀ X, Below wr.heap.size wr (wr.drew.alloc X) := fun X => (Below.refl _ wr).drew.alloc (Nat.le_refl _) X
              have hb2 : ∀ X, Below wr.heap.size wr ((wr.alloc X).drew) := fun X => ((Below.refl _ wr).alloc (Nat.le_refl _) X).drew
              have hb3 : ∀ X, Below wr.heap.size wr (wr.alloc X) := fun X => ((Below.refl _ wr).alloc (Nat.le_refl _) X)
              go_wp2
              go_region_held3 (fun w' => True) (trivial)
                (first
                  | (refine step_app (by rfl) _ _ (by rfl) wr.heap.size _ _ ((natP pc).take k) k hnk.symm (by rfl) own9 (some ⟨g, 0, none⟩) 0 [] 0 rfl (by rfl) lsrc (fun h => by cases h) (by rw [hnk]; simp; omega) hs9 k (by rw [List.length_append, hnk]; rfl) ?_; intro ao10 cap10 w10 hg10 own10 lies10 hc10 bel10 hs10)
                  | (refine step_app (by rfl) _ _ (by rfl) wr.heap.size _ _ [] 0 rfl (by rfl) (own_empty (by first | exact block_new _ _ | exact block_new wr _) (by simp)) (some ⟨g, 0, none⟩) (k + 1) ((natP pc).take k) k hnk.symm (by rfl) ((lies_take hl0 k).below (by first | exact hb1 _ | exact hb2 _ | exact hb3 _) (Nat.le_refl _)) (fun h => by cases h) (by rw [hnk]; simp; omega) (by first | (simp; done) | (simp; omega)) k (by rw [List.nil_append, hnk]) ?_; intro ao9 cap9 w9 hg9 own9 lies9 hc9 bel9 hs9; have hb9 : Below wr.heap.size wr w9 := (by first | exact (hb1 _).trans bel9 | exact (hb2 _).trans bel9 | exact (hb3 _).trans bel9); have lsrc : LiesP w9 (some ⟨g, 0, none⟩) [] := LiesP.nil _ _))
              all_goals
                have hch : Below wr.heap.size wr w10 := hb9.trans bel10
                have I10 : I w10 := hst.out _ _ gr hch
                have hnn := natP_less pc k
                have less_len : (natP (pc.take k ++ pc.drop (k + 1))).length = k := by first | (rw [hnn, List.length_append, hnk, hnd]; done) | (rw [hnn, List.length_append, hnk, hnd]; omega)
                rw [show List.take k (natP pc) ++ [] = natP (pc.take k ++ pc.drop (k + 1)) by rw [hnn, hz]] at lies10
                have hkl : k < pc.length := by rw [← HP.out]; exact hkP
                have hwk := hwt.out k hkl
                have hmk := hmm.out k hkl
                have ND := new_any (a : Int) ao10 cap10 (natP (pc.take k ++ pc.drop (k + 1))) w10 (by rw [less_len]; omega) lies10
                rw [less_len] at ND
                have HI10 := Lib.hid I10
                clear own9 lies9 hc9 bel9 hs9 own10 lies10 hc10 bel10 hs10 hch I10 hnn hnk hnd hl0 lsrc hg9 hg10 hb9 hb1 hb2 hb3
                by_cases he3 : newE (a : Int) (natP (pc.take k ++ pc.drop (k + 1))) = 0
                · have N3 : Hid (Calls Try.prog 10 #[.int .i64 (a : Int), .slice ao10 k cap10] w10 fun e w' => ∃ b3, e = .returned (.tuple #[.pointer (some ⟨b3, 0, none⟩), .int .i64 0]) ∧ IsL w' b3 a (newG (natP (pc.take k ++ pc.drop (k + 1)))) ∧ Below w10.heap.size w10 w') := ND.mono fun e w' hp => by
                    obtain ⟨hb, h1 | h1⟩ := hp
                    · obtain ⟨_, b, _, q, hi⟩ := h1
                      exact ⟨b, q, by simpa using hi, hb⟩
                    · exact absurd he3 h1.1
                  clear ND he3
                  go_wp2_with fail
                  (with_reducible refine N3.out.mono ?_)
                  rintro e w11 ⟨b3, rfl, l11, k11⟩
                  have I11 : I w11 := hst.out _ _ HI10.out k11
                  obtain ⟨ad, had, q1, q2, _⟩ := hls.out _ I11 k (by rw [hnl]; exact hkl)
                  cases had
                  have egd : (natP pc).getD k (0, 0) = (((pc[k]).1 : Int), ((pc[k]).2 : Int)) := by
                    simp [natP, List.getD, List.getElem?_eq_getElem hkl]
                  rw [egd] at q1 q2
                  have F3 : Hid (∀ n', Calls Try.prog 14 #[.pointer (some ⟨b3, 0, none⟩), .int .i64 ((pc[k]).1 : Int), .int .i64 ((pc[k]).2 : Int)] (w11.drewN n') fun e w' => e = .returned (.bool false) ∧ w' = w11.drewN n') := fun n' => by
                    have := flows_any b3 a _ ((pc[k]).1 : Int) ((pc[k]).2 : Int) (w11.drewN n') m8 l11
                    rw [flB_nat _ _ _ _ hmk.1 hmk.2.1, hwk] at this
                    exact this.mono fun e w' q => ⟨q.1, q.2.symm⟩
                  generalize (pc[k]).1 = X at *
                  generalize (pc[k]).2 = Y at *
                  rw [addr_at, Nat.zero_add] at q1
                  rw [addr_at, Nat.zero_add, addr_at] at q2
                  have I11' := Lib.hid I11
                  clear N3 l11 k11 egd I11 HI10 hwk hmk
                  have hki2 : (0 : Int) ≤ (k : Int) := by omega
                  go_wp2
                  go_quiet ((go_at_call 14; exact Calls.quiet_of_same (F3.out _)))
                  have I12 := hdr.out w11 nq I11'.out
                  clear q1 q2 F3 gr
                  generalize w11.drewN nq = w12 at *
                  go_wp2
                  first
                    | exact ⟨⟨k + 1, by omega, by go_num, I12⟩, by simp [intOf]; omega⟩
                    | (refine ⟨?_, by simp [intOf]; omega⟩; repeat apply Exists.intro; exact ⟨⟨k + 1, by omega, by go_num, I12⟩, rfl⟩)
                · have N3 : Hid (Calls Try.prog 10 #[.int .i64 (a : Int), .slice ao10 k cap10] w10 fun e w' => e = .returned (.tuple #[.pointer none, .int .i64 (newE (a : Int) (natP (pc.take k ++ pc.drop (k + 1))))]) ∧ Below w10.heap.size w10 w') := ND.mono fun e w' hp => by
                    obtain ⟨hb, h1 | h1⟩ := hp
                    · exact absurd h1.1 he3
                    · exact ⟨h1.2, hb⟩
                  clear ND he3
                  generalize newE (a : Int) (natP (pc.take k ++ pc.drop (k + 1))) = cE at *
                  go_wp2_with fail
                  (with_reducible refine N3.out.mono ?_)
                  rintro e w11 ⟨rfl, k11⟩
                  have I11 : I w11 := hst.out _ _ HI10.out k11
                  have I11' := Lib.hid I11
                  clear N3 k11 I11 HI10 hwk hmk
                  go_wp2
                  go_quiet (fail)
                  have I12 := hdr.out w11 nq I11'.out
                  clear gr
                  generalize w11.drewN nq = w12 at *
                  go_wp2
                  first
                    | exact ⟨⟨k + 1, by omega, by go_num, I12⟩, by simp [intOf]; omega⟩
                    | (refine ⟨?_, by simp [intOf]; omega⟩; repeat apply Exists.intro; exact ⟨⟨k + 1, by omega, by go_num, I12⟩, rfl⟩)
            · have hl0 : LiesP wr (some ⟨g, 0, none⟩) (natP pc) := hls.out wr gr
              have hnk : ((natP pc).take k).length = k := by rw [List.length_take, hnl]; have := HP.out; omega
              have hnd : ((natP pc).drop (k + 1)).length = P - (k + 1) := by rw [List.length_drop, hnl]; have := HP.out; omega
              have hccI : ¬ (cap3 : Int) = (k : Int) + 1 := by omega
              have hb1 : ∀ X, Below wr.heap.size wr (wr.drew.alloc X) := fun X => (Below.refl _ wr).drew.alloc (Nat.le_refl _) X
              have hb2 : ∀ X, Below wr.heap.size wr ((wr.alloc X).drew) := fun X => ((Below.refl _ wr).alloc (Nat.le_refl _) X).drew
              have hb3 : ∀ X, Below wr.heap.size wr (wr.alloc X) := fun X => ((Below.refl _ wr).alloc (Nat.le_refl _) X)
              go_wp2
              go_region_held3 (fun w' => True) (trivial)
                (first
                  | (refine step_app (by rfl) _ _ (by rfl) wr.heap.size _ _ ((natP pc).take k) k hnk.symm (by rfl) own9 (some ⟨g, (k + 1) * 2, none⟩) (cap3 - (k + 1)) ((natP pc).drop (k + 1)) (P - (k + 1)) hnd.symm (by rfl) lsrc (fun h => by cases h) (by rw [hnk]; rw [hnd]; omega) hs9 (k + (P - (k + 1))) (by rw [List.length_append, hnk]; rw [hnd]) ?_; intro ao10 cap10 w10 hg10 own10 lies10 hc10 bel10 hs10)
                  | (refine step_app (by rfl) _ _ (by rfl) wr.heap.size _ _ [] 0 rfl (by rfl) (own_empty (by first | exact block_new _ _ | exact block_new wr _) (by simp)) (some ⟨g, 0, none⟩) cap3 ((natP pc).take k) k hnk.symm (by rfl) ((lies_take hl0 k).below (by first | exact hb1 _ | exact hb2 _ | exact hb3 _) (Nat.le_refl _)) (fun h => by cases h) (by rw [hnk]; simp; omega) (by first | (simp; done) | (simp; omega)) k (by rw [List.nil_append, hnk]) ?_; intro ao9 cap9 w9 hg9 own9 lies9 hc9 bel9 hs9; have hb9 : Below wr.heap.size wr w9 := (by first | exact (hb1 _).trans bel9 | exact (hb2 _).trans bel9 | exact (hb3 _).trans bel9); have lsrc : LiesP w9 (some ⟨g, (k + 1) * 2, none⟩) ((natP pc).drop (k + 1)) := (lies_drop hl0 (k + 1)).below hb9 (Nat.le_refl _)))
              all_goals
                have hch : Below wr.heap.size wr w10 := hb9.trans bel10
                have I10 : I w10 := hst.out _ _ gr hch
                have hnn := natP_less pc k
                have less_len : (natP (pc.take k ++ pc.drop (k + 1))).length = (k + (P - (k + 1))) := by first | (rw [hnn, List.length_append, hnk, hnd]; done) | (rw [hnn, List.length_append, hnk, hnd]; omega)
                rw [← hnn] at lies10
                have hkl : k < pc.length := by rw [← HP.out]; exact hkP
                have hwk := hwt.out k hkl
                have hmk := hmm.out k hkl
                have ND := new_any (a : Int) ao10 cap10 (natP (pc.take k ++ pc.drop (k + 1))) w10 (by rw [less_len]; omega) lies10
                rw [less_len] at ND
                have HI10 := Lib.hid I10
                clear own9 lies9 hc9 bel9 hs9 own10 lies10 hc10 bel10 hs10 hch I10 hnn hnk hnd hl0 lsrc hg9 hg10 hb9 hb1 hb2 hb3
                by_cases he3 : newE (a : Int) (natP (pc.take k ++ pc.drop (k + 1))) = 0
                · have N3 : Hid (Calls Try.prog 10 #[.int .i64 (a : Int), .slice ao10 (k + (P - (k + 1))) cap10] w10 fun e w' => ∃ b3, e = .returned (.tuple #[.pointer (some ⟨b3, 0, none⟩), .int .i64 0]) ∧ IsL w' b3 a (newG (natP (pc.take k ++ pc.drop (k + 1)))) ∧ Below w10.heap.size w10 w') := ND.mono fun e w' hp => by
                    obtain ⟨hb, h1 | h1⟩ := hp
                    · obtain ⟨_, b, _, q, hi⟩ := h1
                      exact ⟨b, q, by simpa using hi, hb⟩
                    · exact absurd he3 h1.1
                  clear ND he3
                  go_wp2_with fail
                  (with_reducible refine N3.out.mono ?_)
                  rintro e w11 ⟨b3, rfl, l11, k11⟩
                  have I11 : I w11 := hst.out _ _ HI10.out k11
                  obtain ⟨ad, had, q1, q2, _⟩ := hls.out _ I11 k (by rw [hnl]; exact hkl)
                  cases had
                  have egd : (natP pc).getD k (0, 0) = (((pc[k]).1 : Int), ((pc[k]).2 : Int)) := by
                    simp [natP, List.getD, List.getElem?_eq_getElem hkl]
                  rw [egd] at q1 q2
                  have F3 : Hid (∀ n', Calls Try.prog 14 #[.pointer (some ⟨b3, 0, none⟩), .int .i64 ((pc[k]).1 : Int), .int .i64 ((pc[k]).2 : Int)] (w11.drewN n') fun e w' => e = .returned (.bool false) ∧ w' = w11.drewN n') := fun n' => by
                    have := flows_any b3 a _ ((pc[k]).1 : Int) ((pc[k]).2 : Int) (w11.drewN n') m8 l11
                    rw [flB_nat _ _ _ _ hmk.1 hmk.2.1, hwk] at this
                    exact this.mono fun e w' q => ⟨q.1, q.2.symm⟩
                  generalize (pc[k]).1 = X at *
                  generalize (pc[k]).2 = Y at *
                  rw [addr_at, Nat.zero_add] at q1
                  rw [addr_at, Nat.zero_add, addr_at] at q2
                  have I11' := Lib.hid I11
                  clear N3 l11 k11 egd I11 HI10 hwk hmk
                  have hki2 : (0 : Int) ≤ (k : Int) := by omega
                  go_wp2
                  go_quiet ((go_at_call 14; exact Calls.quiet_of_same (F3.out _)))
                  have I12 := hdr.out w11 nq I11'.out
                  clear q1 q2 F3 gr
                  generalize w11.drewN nq = w12 at *
                  go_wp2
                  first
                    | exact ⟨⟨k + 1, by omega, by go_num, I12⟩, by simp [intOf]; omega⟩
                    | (refine ⟨?_, by simp [intOf]; omega⟩; repeat apply Exists.intro; exact ⟨⟨k + 1, by omega, by go_num, I12⟩, rfl⟩)
                · have N3 : Hid (Calls Try.prog 10 #[.int .i64 (a : Int), .slice ao10 (k + (P - (k + 1))) cap10] w10 fun e w' => e = .returned (.tuple #[.pointer none, .int .i64 (newE (a : Int) (natP (pc.take k ++ pc.drop (k + 1))))]) ∧ Below w10.heap.size w10 w') := ND.mono fun e w' hp => by
                    obtain ⟨hb, h1 | h1⟩ := hp
                    · exact absurd h1.1 he3
                    · exact ⟨h1.2, hb⟩
                  clear ND he3
                  generalize newE (a : Int) (natP (pc.take k ++ pc.drop (k + 1))) = cE at *
                  go_wp2_with fail
                  (with_reducible refine N3.out.mono ?_)
                  rintro e w11 ⟨rfl, k11⟩
                  have I11 : I w11 := hst.out _ _ HI10.out k11
                  have I11' := Lib.hid I11
                  clear N3 k11 I11 HI10 hwk hmk
                  go_wp2
                  go_quiet (fail)
                  have I12 := hdr.out w11 nq I11'.out
                  clear gr
                  generalize w11.drewN nq = w12 at *
                  go_wp2
                  first
                    | exact ⟨⟨k + 1, by omega, by go_num, I12⟩, by simp [intOf]; omega⟩
                    | (refine ⟨?_, by simp [intOf]; omega⟩; repeat apply Exists.intro; exact ⟨⟨k + 1, by omega, by go_num, I12⟩, rfl⟩)
          · have hkm : k = P := by omega
            subst hkm
            have hf := hfin.out _ gr
            go_wp2
            go_ret
            exact ⟨rfl, hf⟩
  · have N1 := inv_newNo st0 n ao cap ps hl2 w (Below.refl _ _) hP he
    have FX := Lib.hid (fun w1 q => inv_fixed st0 w1 q)
    have hne : ((newE n ps) == 0) = false := by simpa using he
    have hne2 : ((newE n ps) != 0) = true := by simpa using he
    rw [← hM] at N1 ⊢
    have NN1 := Lib.hid N1
    clear N1 he hP hM
    generalize newE n ps = c at *
    go_enter Try.func5, Try.ntmps5
    go_wp2_with fail
    (with_reducible refine NN1.out.mono ?_)
    rintro e w1 ⟨rfl, i1, k1⟩
    have I1 := Lib.hid i1
    clear i1 k1
    go_wp2_with fail
    (with_reducible refine (FX.out w1 I1.out).mono ?_)
    rintro e w2 ⟨rfl, i2⟩
    go_wp2_with fail
    go_ret
    exact ⟨rfl, i2⟩
end Go.Proofs.Ytbkpfiagoinoiaa
