/- Levels under other numbers are the same lattice by these: the walk. Conditions: there are at most as many pairs as a machine holds. -/
import Derived.Test.YtbkpfiagoinoiaaNmm
namespace Go.Proofs.Ytbkpfiagoinoiaa
open Go.RowKit
set_option linter.unusedVariables false

theorem newE_4041 {n : Int} {ps : List (Int × Int)} (k : Nat) (hk : k < ps.length) (hp : okP n.toNat (ps.getD k (0, 0)) = false) : newE n ps = 40 ∨ newE n ps = 41 := by
  by_cases h : n < 1 ∨ 8 < n ∨ 64 < ps.length
  · exact .inl (newE_size h)
  · exact .inr (newE_pair h k hk hp)
theorem has_toNat {n x : Int} (h0 : 0 ≤ x) (h1 : x < n) : hasB n.toNat x = true := by rw [hasB_iff]; omega
theorem has_not {n x : Int} (h : x < 0 ∨ n ≤ x) (hn : 0 ≤ n ∨ x < 0) : hasB n.toNat x = false := by
  rw [Bool.eq_false_iff, Ne, hasB_iff]; omega
theorem has_not' {n x : Int} (h : x < 0 ∨ n ≤ x) : hasB n.toNat x = false := by
  rw [Bool.eq_false_iff, Ne, hasB_iff]; omega

set_option maxRecDepth 100000 in
set_option maxHeartbeats 8000000 in
theorem named_walk (n : Int) (ao : Option Addr) (cap : Nat) (ps : List (Int × Int)) (w : World) (hl : ps.length ≤ 8796093022000) (hP : LiesP w ao ps) (hn1 : -9223372036854775808 ≤ n) (hn2 : n ≤ 9223372036854775807) :
    Calls Try.prog 8 #[.int .i64 n, .slice ao ps.length cap] w fun e w' => e = .returned (.bool true) ∧ Below w.heap.size w w' := by
  obtain ⟨D, hD⟩ : ∃ D, D = w.heap.size := ⟨_, rfl⟩
  have own0 : (w.alloc (.cells #[] 23)).ownsRow D 23 2 (.slice (some ⟨w.heap.size, 0, none⟩) 0 0) 0 (flatP (nmP n (ps.take 0))) := by
    have : (flatP (nmP n (ps.take 0)) : List Value) = (#[] : Array Value).toList.take (0 * 2) := by simp [nmP, flatP]
    rw [this]
    exact ⟨rfl, .inr ⟨w.heap.size, 0, #[], rfl, by omega, block_new _ _, Nat.le_refl _, by decide, rfl, rfl⟩⟩
  have bel0 : Below D w (w.alloc (.cells #[] 23)) := by rw [hD]; exact (Below.refl _ w).alloc (Nat.le_refl _) _
  have hs0 : D ≤ (w.alloc (.cells #[] 23)).heap.size := by rw [hD]; simp
  have HD := Lib.hid hD
  have HP := Lib.hid hP
  obtain ⟨M, hM⟩ : ∃ M, M = ps.length := ⟨_, rfl⟩
  rw [← hM] at hl ⊢
  rw [← hD]
  have HM := Lib.hid hM
  clear hD hP hM
  go_enter Try.func8, Try.ntmps8
  go_wp2
  generalize w.alloc (.cells #[] 23) = w0 at *
  go_loopw [5, 6, 7, 8] (fun v i _ _ wr => ∃ k : Nat, k ≤ M ∧ i = .int .i64 k ∧ wr.ownsRow D 23 2 v k (flatP (nmP n (ps.take k))) ∧ Below D w wr ∧ D ≤ wr.heap.size ∧ Hid (∀ j, j < k → okP n.toNat (ps.getD j (0, 0)) = true)) (fun _ i _ _ _ => M - (intOf i).toNat)
  case atStart => exact ⟨0, by omega, rfl, own0, bel0, hs0, fun j hj => absurd hj (by omega)⟩
  case round =>
    obtain ⟨k, hk, rfl, own, hb, hs, hf⟩ := hrel
    clear own0 bel0 hs0
    by_cases hlt : k < M
    · have hki : (k : Int) < (M : Int) := by omega
      have hk0 : (0 : Int) ≤ (k : Int) := by omega
      have hPr := HP.out.below hb (by rw [HD.out]; exact Nat.le_refl _)
      obtain ⟨ad, had, q1, q2, q3⟩ := hPr k (by rw [← HM.out]; exact hlt)
      subst had
      have hlt' : k < ps.length := by rw [← HM.out]; exact hlt
      have htk : ps.take (k + 1) = ps.take k ++ [ps.getD k (0, 0)] := by
        rw [List.take_succ_eq_append_getElem hlt', List.getD, List.getElem?_eq_getElem hlt']
        rfl
      have hno : Hid (okP n.toNat (ps.getD k (0, 0)) = false → newE n ps = 40 ∨ newE n ps = 41) := newE_4041 k hlt'
      have hyes : Hid (okP n.toNat (ps.getD k (0, 0)) = true → ∀ j, j < k + 1 → okP n.toNat (ps.getD j (0, 0)) = true) := fun q j hj => by
        by_cases e : j = k
        · subst e; exact q
        · exact hf.out j (by omega)
      have HT := Lib.hid htk
      generalize ps.getD k (0, 0) = xy at *
      obtain ⟨x, y⟩ := xy
      have ea : (ad.add (k * 2)).add 1 = ⟨(ad.add (k * 2)).block, (ad.add (k * 2)).off + 1, none⟩ := by simp [Addr.add]
      dsimp only at q1 q2
      rw [ea] at q2
      have N1 := fun m => (new_any n (some ad) cap ps (wr.drewN m) (by rw [← HM.out]; omega) hPr)
      rw [← HM.out] at N1
      have NN := Lib.hid N1
      have HPr := Lib.hid hPr
      have hlen : (nmP n (ps.take k)).length = k := by rw [nmP_len, List.length_take]; have := HM.out; omega
      clear htk N1 hPr ea
      have s1 : wr.cell? (ad.add (k * 2)) = some (.int .i64 x) := q1
      have s2 : wr.cell? ⟨(ad.add (k * 2)).block, (ad.add (k * 2)).off + 1, none⟩ = some (.int .i64 y) := q2
      clear q1 q2
      by_cases hbad : (x < 0 ∨ n ≤ x) ∨ (y < 0 ∨ n ≤ y)
      · have hE := hno.out (by
          rcases hbad with hx | hy
          · simp [okP, has_not' hx]
          · simp [okP, has_not' hy])
        have HE := Lib.hid hE
        have F := Lib.hid (fun w => fixed_any w)
        have hbd : Hid (∀ m, Below D w (wr.drewN m)) := fun m => below_drewN hb m
        have hss : Hid (∀ m, D ≤ (wr.drewN m).heap.size) := fun m => hs
        have hne0 : Hid (newE n ps ≠ 0) := by rcases hE with q | q <;> (unfold Hid; rw [q]; decide)
        clear hno hyes hf hE own
        rcases Int.lt_or_le x 0 with hx0 | hx0
        · have x0 : decide (x < 0) = true := by simp; omega
          go_wp2
          go_quiet (fail)
          have hNN := NN.out nq
          have hb2 := hbd.out nq
          have hs2 := hss.out nq
          have HN2 := Lib.hid hNN
          clear hNN NN hbd hss s1 s2 q3 HPr hb hs
          generalize wr.drewN nq = w5 at *
          go_wp2_with fail
          (with_reducible refine HN2.out.mono ?_)
          rintro e w6 hpost
          obtain ⟨c, rfl, hc, hb6⟩ : ∃ c, e = .returned (.tuple #[.pointer none, .int .i64 c]) ∧ (c = 40 ∨ c = 41) ∧ Below D w w6 := by
            obtain ⟨hb6, h6 | h6⟩ := hpost
            · exact absurd h6.1 hne0.out
            · exact ⟨_, h6.2, HE.out, hb2.trans (hb6.mono hs2)⟩
          have hs6 : D ≤ w6.heap.size := Nat.le_trans hs2 (by obtain ⟨q, _⟩ := hpost; exact q.size)
          clear hpost HN2
          rcases hc with rfl | rfl
          all_goals
            go_wp2_with (go_at_call 12; (with_reducible refine (F.out _).mono ?_); rintro e w7 ⟨rfl, b7⟩)
            go_ret
            exact ⟨rfl, hb6.trans (b7.mono hs6)⟩
        · have x0 : decide (x < 0) = false := by simp; omega
          rcases Int.lt_or_le x n with hx1 | hx1
          · have x1 : decide (n ≤ x) = false := by simp; omega
            rcases Int.lt_or_le y 0 with hy0 | hy0
            · have y0 : decide (y < 0) = true := by simp; omega
              go_wp2
              go_quiet (fail)
              have hNN := NN.out nq
              have hb2 := hbd.out nq
              have hs2 := hss.out nq
              have HN2 := Lib.hid hNN
              clear hNN NN hbd hss s1 s2 q3 HPr hb hs
              generalize wr.drewN nq = w5 at *
              go_wp2_with fail
              (with_reducible refine HN2.out.mono ?_)
              rintro e w6 hpost
              obtain ⟨c, rfl, hc, hb6⟩ : ∃ c, e = .returned (.tuple #[.pointer none, .int .i64 c]) ∧ (c = 40 ∨ c = 41) ∧ Below D w w6 := by
                obtain ⟨hb6, h6 | h6⟩ := hpost
                · exact absurd h6.1 hne0.out
                · exact ⟨_, h6.2, HE.out, hb2.trans (hb6.mono hs2)⟩
              have hs6 : D ≤ w6.heap.size := Nat.le_trans hs2 (by obtain ⟨q, _⟩ := hpost; exact q.size)
              clear hpost HN2
              rcases hc with rfl | rfl
              all_goals
                go_wp2_with (go_at_call 12; (with_reducible refine (F.out _).mono ?_); rintro e w7 ⟨rfl, b7⟩)
                go_ret
                exact ⟨rfl, hb6.trans (b7.mono hs6)⟩
            · have y0 : decide (y < 0) = false := by simp; omega
              have hy1 : n ≤ y := by omega
              have y1 : decide (n ≤ y) = true := by simp; omega
              go_wp2
              go_quiet (fail)
              have hNN := NN.out nq
              have hb2 := hbd.out nq
              have hs2 := hss.out nq
              have HN2 := Lib.hid hNN
              clear hNN NN hbd hss s1 s2 q3 HPr hb hs
              generalize wr.drewN nq = w5 at *
              go_wp2_with fail
              (with_reducible refine HN2.out.mono ?_)
              rintro e w6 hpost
              obtain ⟨c, rfl, hc, hb6⟩ : ∃ c, e = .returned (.tuple #[.pointer none, .int .i64 c]) ∧ (c = 40 ∨ c = 41) ∧ Below D w w6 := by
                obtain ⟨hb6, h6 | h6⟩ := hpost
                · exact absurd h6.1 hne0.out
                · exact ⟨_, h6.2, HE.out, hb2.trans (hb6.mono hs2)⟩
              have hs6 : D ≤ w6.heap.size := Nat.le_trans hs2 (by obtain ⟨q, _⟩ := hpost; exact q.size)
              clear hpost HN2
              rcases hc with rfl | rfl
              all_goals
                go_wp2_with (go_at_call 12; (with_reducible refine (F.out _).mono ?_); rintro e w7 ⟨rfl, b7⟩)
                go_ret
                exact ⟨rfl, hb6.trans (b7.mono hs6)⟩
          · have x1 : decide (n ≤ x) = true := by simp; omega
            go_wp2
            go_quiet (fail)
            have hNN := NN.out nq
            have hb2 := hbd.out nq
            have hs2 := hss.out nq
            have HN2 := Lib.hid hNN
            clear hNN NN hbd hss s1 s2 q3 HPr hb hs
            generalize wr.drewN nq = w5 at *
            go_wp2_with fail
            (with_reducible refine HN2.out.mono ?_)
            rintro e w6 hpost
            obtain ⟨c, rfl, hc, hb6⟩ : ∃ c, e = .returned (.tuple #[.pointer none, .int .i64 c]) ∧ (c = 40 ∨ c = 41) ∧ Below D w w6 := by
              obtain ⟨hb6, h6 | h6⟩ := hpost
              · exact absurd h6.1 hne0.out
              · exact ⟨_, h6.2, HE.out, hb2.trans (hb6.mono hs2)⟩
            have hs6 : D ≤ w6.heap.size := Nat.le_trans hs2 (by obtain ⟨q, _⟩ := hpost; exact q.size)
            clear hpost HN2
            rcases hc with rfl | rfl
            all_goals
              go_wp2_with (go_at_call 12; (with_reducible refine (F.out _).mono ?_); rintro e w7 ⟨rfl, b7⟩)
              go_ret
              exact ⟨rfl, hb6.trans (b7.mono hs6)⟩
      · have hx0 : 0 ≤ x := by omega
        have hx1 : x < n := by omega
        have hy0 : 0 ≤ y := by omega
        have hy1 : y < n := by omega
        have hok := Lib.hid (hyes.out (by simp [okP, has_toNat hx0 hx1, has_toNat hy0 hy1]))
        have x0 : decide (x < 0) = false := by simp; omega
        have x1 : decide (n ≤ x) = false := by simp; omega
        have y0 : decide (y < 0) = false := by simp; omega
        have y1 : decide (n ≤ y) = false := by simp; omega
        clear hno hyes hf NN hbad
        go_wp2
        go_quiet (fail)
        have hb2 := below_drewN hb nq
        have own2 : (wr.drewN nq).ownsRow D 23 2 u5 k (flatP (nmP n (ps.take k))) := own
        have hs2 : D ≤ (wr.drewN nq).heap.size := hs
        clear own hb hs s1 s2 q3 HPr
        generalize wr.drewN nq = w5 at *
        have ownL : (w5.alloc (.cells #[.int .i64 (n - 1 - x), .int .i64 (n - 1 - y)] 23)).ownsRow D 23 2 u5 (nmP n (ps.take k)).length (flatP (nmP n (ps.take k))) := by rw [hlen]; exact World.ownsRow.alloc own2 _
        obtain ⟨v9, w9, hr9, own9, bel9, hs9⟩ := app_pairs 22 (w5.alloc (.cells #[.int .i64 (n - 1 - x), .int .i64 (n - 1 - y)] 23)) D u5 (nmP n (ps.take k)) ownL (some ⟨w5.heap.size, 0, none⟩) 1 [(n - 1 - x, n - 1 - y)] (lies_block (ps := [(n - 1 - x, n - 1 - y)]) (block_new _ _)) (fun h => by cases h) (by rw [hlen]; simp; omega) (by simp; omega)
        have own10 : w9.ownsRow D 23 2 v9 (k + 1) (flatP (nmP n (ps.take (k + 1)))) := by
          have e : nmP n (ps.take (k + 1)) = nmP n (ps.take k) ++ [(n - 1 - x, n - 1 - y)] := by rw [HT.out]; simp [nmP]
          rw [← e] at own9
          have e2 : (nmP n (ps.take (k + 1))).length = k + 1 := by rw [e, List.length_append, hlen]; rfl
          rw [e2] at own9
          exact own9
        have hb9 : Below D w w9 := (hb2.alloc hs2 _).trans bel9
        have HR9 := Lib.hid hr9
        have HO := Lib.hid own10
        clear own9 own10 ownL hr9 bel9 own2 hb2
        go_wp2_with (at_builtin; refine list_append_run rfl _ _ 22 rfl _ _ v9 w9 rfl rfl HR9.out ?_)
        first
          | exact ⟨⟨k + 1, by omega, by go_num, HO.out, hb9, hs9, hok⟩, by simp [intOf]; omega⟩
          | (refine ⟨?_, by simp [intOf]; omega⟩; repeat apply Exists.intro; exact ⟨⟨k + 1, by omega, by go_num, HO.out, hb9, hs9, hok⟩, rfl⟩)
    · have hkM : k = M := by omega
      subst hkM
      rw [HM.out, List.take_length] at own
      have hall : ps.all (okP n.toNat) = true := all_okP fun j hj => hf.out j (by rw [HM.out]; exact hj)
      obtain ⟨a2, c2, e2, hL2, _⟩ := own_pairsI (l := nmP n ps) (by rw [nmP_len]; exact own)
      subst e2
      have hlS : (nmP n ps).length = k := by rw [nmP_len]; exact HM.out.symm
      rw [hlS]
      have hPs : LiesP wr ao ps := HP.out.below hb (by rw [HD.out]; exact Nat.le_refl _)
      have hbw : Below w.heap.size w wr := by rw [← HD.out]; exact hb
      have hl2 : ps.length ≤ 140737488355328 := by have := HM.out; omega
      have hl3 : (nmP n ps).length ≤ 140737488355328 := by rw [nmP_len]; exact hl2
      have st0 : Stays fun w1 => Below w.heap.size w w1 ∧ LiesP w1 a2 (nmP n ps) := stays_lies (stays_below w) a2 (nmP n ps)
      rw [HD.out]
      by_cases he : newE n ps = 0
      · have hok := newE_ok he
        have L := new_lat he
        have he2 : newE n (nmP n ps) = 0 := by rw [nm_E hall]; exact he
        have K := new_lat he2
        obtain ⟨m, rfl⟩ : ∃ m : Nat, n = (m : Int) := ⟨n.toNat, by omega⟩
        rw [Int.toNat_natCast] at L K hall
        have m8 := L.n8
        have m1 := L.n1
        have hN : Named m (newG ps) (newG (nmP m ps)) := nm_G hall m8
        have N1 := inv_new st0 (m : Int) ao cap ps hl2 wr ⟨hbw, hL2⟩ hPs he
        have N2 := fun w1 b1 (q : (Below w.heap.size w w1 ∧ LiesP w1 a2 (nmP m ps)) ∧ IsL w1 b1 m (newG ps)) => inv_new (stays_isL st0 b1 m (newG ps)) (m : Int) a2 c2 (nmP m ps) hl3 w1 q q.1.2 he2
        rw [← HM.out] at N1
        rw [hlS] at N2
        generalize newG ps = G at *
        generalize newG (nmP m ps) = H at *
        have NN1 := Lib.hid N1
        have NN2 := Lib.hid N2
        clear N1 N2 hPs hL2 own hok hl2 hl3 he HP he2 hf hall hn1 hn2
        go_wp2_with fail
        (with_reducible refine NN1.out.mono ?_)
        rintro e w1 ⟨b1, rfl, i1, l1, k1⟩
        rw [Int.toNat_natCast] at l1
        have J1 := Lib.hid (And.intro i1 l1)
        clear i1 l1 k1
        go_wp2_with fail
        (with_reducible refine (NN2.out w1 b1 J1.out).mono ?_)
        rintro e w2 ⟨b2, rfl, i2, l2, k2⟩
        rw [Int.toNat_natCast] at l2
        obtain ⟨I, hI⟩ : ∃ I : World → Prop, I = fun w1 => Below w.heap.size w w1 ∧ IsL w1 b1 m G ∧ IsL w1 b2 m H := ⟨_, rfl⟩
        have gg : I w2 := by rw [hI]; exact ⟨i2.1.1, i2.2, l2⟩
        have stI : Stays I := by rw [hI]; exact fun u v h k => ⟨below_trans h.1 k, h.2.1.below k h.2.1.lt, h.2.2.below k h.2.2.lt⟩
        have hfin : Hid (∀ w1, I w1 → Below w.heap.size w w1) := by rw [hI]; exact fun w1 q => q.1
        have hq1 : ∀ w1, I w1 → IsL w1 b1 m G := by rw [hI]; exact fun w1 q => q.2.1
        have hq2 : ∀ w1, I w1 → IsL w1 b2 m H := by rw [hI]; exact fun w1 q => q.2.2
        clear J1 i2 l2 k2 NN1 NN2 hbw hb hs hI st0
        have FX := Lib.hid (fun w1 q => inv_fixed stI w1 q)
        have TA := Lib.hid (fun w1 q => inv_top stI hq1 m8 w1 q)
        have TB := Lib.hid (fun w1 q => inv_top stI hq2 m8 w1 q)
        have TC := Lib.hid (fun w1 q => inv_bottom stI hq1 m8 w1 q)
        have TD := Lib.hid (fun w1 q => inv_bottom stI hq2 m8 w1 q)
        have PA := Lib.hid (fun w1 q => inv_pairs stI hq1 m8 w1 q)
        have PB := Lib.hid (fun w1 q => inv_pairs stI hq2 m8 w1 q)
        have FA := Lib.hid (fun x y w1 q => inv_flows stI hq1 m8 x y w1 q)
        have FB := Lib.hid (fun x y w1 q => inv_flows stI hq2 m8 x y w1 q)
        have JA := Lib.hid (fun x y w1 q => inv_join stI hq1 m8 x y w1 q)
        have JB := Lib.hid (fun x y w1 q => inv_join stI hq2 m8 x y w1 q)
        have MA := Lib.hid (fun x y w1 q => inv_meet stI hq1 m8 x y w1 q)
        have MB := Lib.hid (fun x y w1 q => inv_meet stI hq2 m8 x y w1 q)
        obtain ⟨t1, et1, lt1, ut1⟩ := L.topI_top m (Nat.le_refl _) m1
        obtain ⟨t2, et2, lt2, ut2⟩ := K.topI_top m (Nat.le_refl _) m1
        obtain ⟨s1, es1, ls1, us1⟩ := L.turned.topI_top m (Nat.le_refl _) m1
        obtain ⟨s2, es2, ls2, us2⟩ := K.turned.topI_top m (Nat.le_refl _) m1
        have q1 := top_named L K hN lt1 lt2 ut1 ut2
        have q2 := top_named L.turned K.turned hN.turn ls1 ls2 us1 us2
        have q1' : (t1 : Int) = (m : Int) - 1 - (t2 : Int) := by omega
        have q2' : (s1 : Int) = (m : Int) - 1 - (s2 : Int) := by omega
        rw [et1, q1'] at TA
        rw [et2] at TB
        rw [es1, q2'] at TC
        rw [es2] at TD
        have hpl : (prsL m H m).length = (prsL m G m).length := by rw [L.prs, K.prs]; exact prs_named hN
        have hp64 : (prsL m G m).length ≤ 64 := Nat.le_trans (prsL_len m G m) (Nat.le_trans (Nat.mul_le_mul m8 m8) (by decide))
        rw [hpl] at PB
        generalize (prsL m G m).length = P at *
        have hm1 : (1 : Int) ≤ (m : Int) := by omega
        have hm8 : (m : Int) ≤ 8 := by omega
        clear stI hq1 hq2 ut1 ut2 us1 us2 q1 q2 q1' q2' et1 et2 es1 es2 hpl lt1 ls1
        go_wp2_with (first
          | (go_at_call 12; (with_reducible refine (FX.out _ (by assumption)).mono ?_); rintro e w' ⟨rfl, gg⟩))
        have gs := gg
        clear gg FX
        go_loopw [15, 16] (fun i _ wr => ∃ a : Nat, a ≤ m ∧ i = .int .i64 a ∧ I wr) (fun i _ _ => m - (intOf i).toNat)
        case atStart => exact ⟨0, by omega, rfl, gs⟩
        case round =>
          obtain ⟨a, ha, rfl, gr⟩ := hrel
          obtain ⟨wo, rfl⟩ : ∃ wo : World, wo = wr := ⟨_, rfl⟩
          clear gs
          by_cases hlt : a < m
          · have hai : (a : Int) < (m : Int) := by omega
            go_wp2
            go_loopw [16] (fun i wr => ∃ c : Nat, c ≤ m ∧ i = .int .i64 c ∧ I wr) (fun i _ => m - (intOf i).toNat)
            case atStart => exact ⟨0, by omega, rfl, gr⟩
            case round =>
              obtain ⟨c, hc, rfl, gr⟩ := hrel
              by_cases hlt2 : c < m
              · have hci : (c : Int) < (m : Int) := by omega
                have F1 := Lib.hid (FA.out a c)
                have F2 := Lib.hid (FB.out ((m : Int) - 1 - a) ((m : Int) - 1 - c))
                have J1 := Lib.hid (JA.out a c)
                have J2 := Lib.hid (JB.out ((m : Int) - 1 - a) ((m : Int) - 1 - c))
                have M1 := Lib.hid (MA.out a c)
                have M2 := Lib.hid (MB.out ((m : Int) - 1 - a) ((m : Int) - 1 - c))
                have ea : (m : Int) - 1 - (a : Int) = ((m - 1 - a : Nat) : Int) := by omega
                have ec : (m : Int) - 1 - (c : Int) = ((m - 1 - c : Nat) : Int) := by omega
                have ra : m - 1 - a < m := by omega
                have rc : m - 1 - c < m := by omega
                have xl := K.jn_lt ra rc
                have yl := K.turned.jn_lt ra rc
                have e1 : flB m H ((m : Int) - 1 - a) ((m : Int) - 1 - c) = G a c := by rw [ea, ec, flB_nat m H _ _ ra rc]; exact (hN.symm a c hlt hlt2).symm
                have e2 : lstI G m a c = (m : Int) - 1 - (jn m H (m - 1 - a) (m - 1 - c) : Nat) := by rw [L.jn_I hlt hlt2, jn_named L K hN hlt hlt2]; omega
                have e3 : lstI H m ((m : Int) - 1 - a) ((m : Int) - 1 - c) = (jn m H (m - 1 - a) (m - 1 - c) : Nat) := by rw [ea, ec, K.jn_I ra rc]
                have e4 : lstI (turn G) m a c = (m : Int) - 1 - (jn m (turn H) (m - 1 - a) (m - 1 - c) : Nat) := by rw [L.turned.jn_I hlt hlt2, jn_named L.turned K.turned hN.turn hlt hlt2]; omega
                have e5 : lstI (turn H) m ((m : Int) - 1 - a) ((m : Int) - 1 - c) = (jn m (turn H) (m - 1 - a) (m - 1 - c) : Nat) := by rw [ea, ec, K.turned.jn_I ra rc]
                rw [flB_nat m G a c hlt hlt2] at F1
                rw [e1] at F2
                rw [e2] at J1
                rw [e3] at J2
                rw [e4] at M1
                rw [e5] at M2
                generalize jn m H (m - 1 - a) (m - 1 - c) = X at *
                generalize jn m (turn H) (m - 1 - a) (m - 1 - c) = Y at *
                generalize G a c = f at *
                clear ea ec ra rc e1 e2 e3 e4 e5
                go_wp2_with (first
                  | (go_at_call 14; (with_reducible refine (F1.out _ (by assumption)).mono ?_); rintro e w' ⟨rfl, gg⟩)
                  | (go_at_call 14; (with_reducible refine (F2.out _ (by assumption)).mono ?_); rintro e w' ⟨rfl, gg⟩)
                  | (go_at_call 16; (with_reducible refine (J1.out _ (by assumption)).mono ?_); rintro e w' ⟨rfl, gg⟩)
                  | (go_at_call 16; (with_reducible refine (J2.out _ (by assumption)).mono ?_); rintro e w' ⟨rfl, gg⟩)
                  | (go_at_call 18; (with_reducible refine (M1.out _ (by assumption)).mono ?_); rintro e w' ⟨rfl, gg⟩)
                  | (go_at_call 18; (with_reducible refine (M2.out _ (by assumption)).mono ?_); rintro e w' ⟨rfl, gg⟩))
                first
                  | exact ⟨⟨c + 1, by omega, by go_num, gg⟩, by simp [intOf]; omega⟩
                  | (refine ⟨?_, by simp [intOf]; omega⟩; repeat apply Exists.intro; exact ⟨⟨c + 1, by omega, by go_num, gg⟩, rfl⟩)
              · have hcm : c = m := by omega
                subst hcm
                go_wp2
                first
                  | exact ⟨⟨a + 1, by omega, by go_num, gr⟩, by simp [intOf]; omega⟩
                  | (refine ⟨?_, by simp [intOf]; omega⟩; repeat apply Exists.intro; exact ⟨⟨a + 1, by omega, by go_num, gr⟩, rfl⟩)
          · have ham : a = m := by omega
            subst ham
            go_wp2_with (first
              | (go_at_call 26; (with_reducible refine (TA.out _ (by assumption)).mono ?_); rintro e w' ⟨rfl, gg⟩)
              | (go_at_call 26; (with_reducible refine (TB.out _ (by assumption)).mono ?_); rintro e w' ⟨rfl, gg⟩)
              | (go_at_call 28; (with_reducible refine (TC.out _ (by assumption)).mono ?_); rintro e w' ⟨rfl, gg⟩)
              | (go_at_call 28; (with_reducible refine (TD.out _ (by assumption)).mono ?_); rintro e w' ⟨rfl, gg⟩)
              | (go_at_call 30; (with_reducible refine (PA.out _ (by assumption)).mono ?_); rintro e w' ⟨ao3, cap3, rfl, q3, q4, gg, q5⟩; clear q3 q4 q5)
              | (go_at_call 30; (with_reducible refine (PB.out _ (by assumption)).mono ?_); rintro e w' ⟨ao4, cap4, rfl, q3, q4, gg, q5⟩; clear q3 q4 q5))
            have hf := hfin.out _ gg
            go_ret
            exact ⟨rfl, by rw [HD.out]; exact hf⟩
      · have N1 := inv_newNo st0 n ao cap ps hl2 wr ⟨hbw, hL2⟩ hPs he
        have N2 := fun w1 (q : Below w.heap.size w w1 ∧ LiesP w1 a2 (nmP n ps)) => inv_newNo st0 n a2 c2 (nmP n ps) hl3 w1 q q.2 (by rw [nm_E hall]; exact he)
        have FX := Lib.hid (fun w1 q => inv_fixed st0 w1 q)
        rw [← HM.out] at N1
        rw [hlS, nm_E hall] at N2
        have hne : ((newE n ps) == 0) = false := by simpa using he
        have hne2 : ((newE n ps) != 0) = true := by simpa using he
        have NN1 := Lib.hid N1
        have NN2 := Lib.hid N2
        clear N1 N2 hPs hL2 own hl2 hl3 he HP hall
        generalize newE n ps = c at *
        go_wp2_with fail
        (with_reducible refine NN1.out.mono ?_)
        rintro e w1 ⟨rfl, i1, k1⟩
        have I1 := Lib.hid i1
        clear i1 k1
        go_wp2_with fail
        (with_reducible refine (NN2.out w1 I1.out).mono ?_)
        rintro e w2 ⟨rfl, i2, k2⟩
        have I2 := Lib.hid i2
        clear i2 k2
        go_wp2_with fail
        (with_reducible refine (FX.out w2 I2.out).mono ?_)
        rintro e w3 ⟨rfl, i3⟩
        have hf := i3.1
        clear i3
        go_wp2_with fail
        go_ret
        exact ⟨rfl, by rw [HD.out]; exact hf⟩
end Go.Proofs.Ytbkpfiagoinoiaa
