/- A pair more never takes away what flows, one that flows already changes nothing: the walk. Conditions: there are at most as many pairs as a machine holds. -/
import Derived.Test.YtbkpfiagoinoiaaMom
import Derived.Deep.RegionHeld3
namespace Go.Proofs.Ytbkpfiagoinoiaa
open Go.RowKit
set_option linter.unusedVariables false
attribute [local go_sem ↓] load23_pre
attribute [local go_sem] load23_run rowOr_some

theorem stays_block {I : World → Prop} (hk : Stays I) (B : Nat) (o : Obj) : Stays fun w1 => I w1 ∧ w1.heap[B]? = some o := fun w1 w2 h k => ⟨hk w1 w2 h.1 k, heap_below h.2 k (block_lt h.2)⟩
set_option maxRecDepth 100000 in
set_option maxHeartbeats 8000000 in
theorem more_walk (n : Int) (ao : Option Addr) (cap : Nat) (ps : List (Int × Int)) (x y : Int) (w : World) (hl : ps.length ≤ 8796093022000) (hP : LiesP w ao ps) (hcap : ao = none → cap = 0) :
    Calls Try.prog 6 #[.int .i64 n, .slice ao ps.length cap, .agg #[.int .i64 x, .int .i64 y]] w fun e w' => e = .returned (.bool true) ∧ Below w.heap.size w w' := by
  obtain ⟨B, hB⟩ : ∃ B, B = w.heap.size := ⟨_, rfl⟩
  obtain ⟨I, hI⟩ : ∃ I : World → Prop, I = fun w1 => (Below w.heap.size w w1 ∧ LiesP w1 ao ps) ∧ w1.heap[B]? = some (.cells #[.int .i64 x, .int .i64 y] 23 (0, 0)) := ⟨_, rfl⟩
  have stI : Stays I := by rw [hI]; exact stays_block (stays_lies (stays_below w) ao ps) B _
  have g0 : I (w.alloc (.cells #[.int .i64 x, .int .i64 y] 23)) := by
    rw [hI, hB]
    exact ⟨⟨(Below.refl _ w).alloc (Nat.le_refl _) _, hP.below ((Below.refl _ w).alloc (Nat.le_refl _) _) (Nat.le_refl _)⟩, block_new _ _⟩
  have hfin : Hid (∀ w1, I w1 → Below w.heap.size w w1) := by rw [hI]; exact fun w1 q => q.1.1
  have hlies : Hid (∀ w1, I w1 → LiesP w1 ao ps) := by rw [hI]; exact fun w1 q => q.1.2
  have hbox : Hid (∀ w1, I w1 → w1.heap[B]? = some (.cells #[.int .i64 x, .int .i64 y] 23 (0, 0))) := by rw [hI]; exact fun w1 q => q.2
  have hdrew : Hid (∀ w1, I w1 → I w1.drew) := by rw [hI]; exact fun w1 q => ⟨⟨q.1.1.drew, q.1.2⟩, q.2⟩
  have hcx : ∀ w1 : World, w1.heap[B]? = some (.cells #[.int .i64 x, .int .i64 y] 23 (0, 0)) → w1.cell? ⟨B, 0, none⟩ = some (.int .i64 x) ∧ w1.cell? ⟨B, 1, none⟩ = some (.int .i64 y) := fun w1 q => by
    exact ⟨by rw [cell_of_row w1 B 0 _ _ _ q]; rfl, by rw [cell_of_row w1 B 1 _ _ _ q]; rfl⟩
  have hpx : ∀ w1 : World, w1.heap[B]? = some (.cells #[.int .i64 x, .int .i64 y] 23 (0, 0)) → pairAt w1 ⟨B, 0, none⟩ = some #[.int .i64 x, .int .i64 y] := fun w1 q => by
    rw [pairAt_of (hcx w1 q).1 (by rw [addr_at]; exact (hcx w1 q).2)]
  have hl2 : ps.length ≤ 140737488355328 := by omega
  have HB := Lib.hid hB
  have G0 := Lib.hid g0
  have hzz : w.heap.size = B := hB.symm
  clear hI hP hB g0
  by_cases he : newE n ps = 0
  · have hok := newE_ok he
    have L := new_lat he
    obtain ⟨m, rfl⟩ : ∃ m : Nat, n = (m : Int) := ⟨n.toNat, by omega⟩
    rw [Int.toNat_natCast] at L
    have m8 := L.n8
    have m1 := L.n1
    have N1 := inv_new stI (m : Int) ao cap ps hl2 _ G0.out (hlies.out _ G0.out) he
    have NN1 := Lib.hid N1
    have FX := Lib.hid (fun w1 q => inv_fixed stI w1 q)
    clear N1
    go_enter Try.func6, Try.ntmps6
    go_wp2_with fail
    (with_reducible refine NN1.out.mono ?_)
    rintro e w1 ⟨b1, rfl, i1, l1, k1⟩
    rw [Int.toNat_natCast] at l1
    have stJ : Stays fun w1 => I w1 ∧ IsL w1 b1 m (newG ps) := stays_isL stI b1 m (newG ps)
    have FX2 := Lib.hid (fun w1 q => inv_fixed stJ w1 q)
    have J1 := Lib.hid (And.intro i1 l1)
    clear i1 l1 k1 NN1 FX
    go_wp2_with fail
    (with_reducible refine (FX2.out w1 J1.out).mono ?_)
    rintro e w2 ⟨rfl, i2, l2⟩
    clear J1 FX2
    have hf2 := hfin.out _ i2
    rw [hzz] at hf2
    by_cases h64 : 64 ≤ ps.length
    · have d64 : decide (64 ≤ ps.length) = true := by simpa using h64
      have d64i : (64 : Int) ≤ (ps.length : Int) := by omega
      go_wp2
      go_ret
      exact ⟨rfl, by rw [hzz]; exact hf2⟩
    · have d64i : ¬ (64 : Int) ≤ (ps.length : Int) := by omega
      have d64b : decide ((64 : Int) ≤ (ps.length : Int)) = false := by simpa using d64i
      have b0 : w2.drew.heap[B]? = some (.cells #[.int .i64 x, .int .i64 y] 23 (0, 0)) := hbox.out _ (hdrew.out _ i2)
      have hl0 : LiesP w2.drew ao ps := hlies.out _ (hdrew.out _ i2)
      have hBlt : B < w2.heap.size := block_lt (hbox.out _ i2)
      have hLn : (ps ++ [(x, y)]).length = ps.length + 1 := by simp
      have hf2' := Lib.hid hf2
      have L2 := Lib.hid l2
      clear hf2 l2 i2
      by_cases he2 : newE (m : Int) (ps ++ [(x, y)]) = 0
      · have NK : Hid (∀ ao' cap' w1, LiesP w1 ao' (ps ++ [(x, y)]) → Calls Try.prog 10 #[.int .i64 (m : Int), .slice ao' (ps.length + 1) cap'] w1 fun e w' => ∃ b2, e = .returned (.tuple #[.pointer (some ⟨b2, 0, none⟩), .int .i64 0]) ∧ IsL w' b2 m (newG (ps ++ [(x, y)])) ∧ Below w1.heap.size w1 w') := fun ao' cap' w1 q => by
          have := new_any (m : Int) ao' cap' (ps ++ [(x, y)]) w1 (by rw [hLn]; omega) q
          rw [hLn] at this
          refine this.mono fun e w' hp => ?_
          obtain ⟨hb, h1 | h1⟩ := hp
          · obtain ⟨_, b, _, q, hi⟩ := h1
            exact ⟨b, q, by simpa using hi, hb⟩
          · exact absurd he2 h1.1
        have HE2 := Lib.hid he2
        clear he2
        go_wp2
        go_region_held3 (fun w' => w'.heap[B]? = some (.cells #[.int .i64 x, .int .i64 y] 23 (0, 0)))
          (first
            | exact b0
            | exact block_alloc (by assumption) _
            | exact heap_below (by assumption) bel9 hBlt
            | exact heap_below (by assumption) bel10 hBlt
            | exact heap_below (by assumption) c11 (block_lt (by assumption)))
          (first
            | (refine step_app (by rfl) _ _ (by rfl) w2.heap.size _ _ ps ps.length rfl (by rfl) (by first | exact own9 | exact own9.alloc _) (some _) 1 [(x, y)] 1 rfl (by rfl) (lies_block (ps := [(x, y)]) (by first | exact hxy | exact block_new _ _)) (fun h => by cases h) (by simp; omega) (by first | exact hs9 | exact Nat.le_trans hs9 (by simp)) (ps.length + 1) (by simp) ?_; intro ao10 cap10 w10 hg10 own10 lies10 hc10 bel10 hs10)
            | (refine step_app (by rfl) _ _ (by rfl) w2.heap.size _ _ [] 0 rfl (by rfl) (own_empty (by first | exact block_new _ _ | exact block_alloc (block_new _ _) _ | exact second_new w2.drew _ _) (by simp)) ao cap ps ps.length rfl (by rfl) (by first | exact lies_alloc hl0 _ | exact lies_alloc (lies_alloc hl0 _) _) hcap (by simp; omega) (by first | (simp; done) | (simp; omega)) ps.length (by simp) ?_; intro ao9 cap9 w9 hg9 own9 lies9 hc9 bel9 hs9; first | (have hxy := second_kept (w2 := w2.drew) _ (.cells #[.int .i64 x, .int .i64 y] 23) hg9) | (have hxy := first_kept (w2 := w2.drew) _ (.cells #[.int .i64 x, .int .i64 y] 23) hg9) | skip)
            | (go_at_call 10; (with_reducible refine (NK.out _ _ _ (by assumption)).mono ?_); rintro e w11 ⟨b2, rfl, l2, c11⟩))
        all_goals
          have hch : Below w2.heap.size w2 w11 := by
            first
              | exact (((((Below.refl w2.heap.size w2).drew.alloc (Nat.le_refl _) _).trans bel9).alloc hs9 _).trans bel10).trans (c11.mono hs10)
              | exact ((((Below.refl w2.heap.size w2).drew.alloc (Nat.le_refl _) _).alloc (by simp) _).trans bel9).trans (bel10.trans (c11.mono hs10))
          have L11 : IsL w11 b1 m (newG ps) := L2.out.below hch L2.out.lt
          have X11 : w11.heap[B]? = some (.cells #[.int .i64 x, .int .i64 y] 23 (0, 0)) := heap_below (show w2.heap[B]? = _ from b0) hch hBlt
          have B11 : Below B w w11 := hf2'.out.trans (hch.mono (Nat.le_of_lt hBlt))
          have hcx2 := hcx
          clear own10 hg10 lies10 hc10 bel10 hs10 bel9 hs9 lies9 hc9 c11 hch b0 hl0 hpx hcx
          cases hfl : flB m (newG ps) x y with
          | true =>
            have hsame := more_same (x := x) (y := y) m8 hfl
            obtain ⟨J, hJ⟩ : ∃ J : World → Prop, J = fun w1 => (Below B w w1 ∧ IsL w1 b1 m (newG ps)) ∧ IsL w1 b2 m (newG ps) ∧ w1.heap[B]? = some (.cells #[.int .i64 x, .int .i64 y] 23 (0, 0)) := ⟨_, rfl⟩
            have gg : J w11 := by rw [hJ]; exact ⟨⟨B11, L11⟩, isL_same hsame l2, X11⟩
            have stJ2 : Stays J := by rw [hJ]; exact fun u v h k => ⟨⟨h.1.1.trans (k.mono (Nat.le_trans (Nat.le_of_lt (block_lt h.2.2)) (Nat.le_refl _))), h.1.2.below k h.1.2.lt⟩, h.2.1.below k h.2.1.lt, heap_below h.2.2 k (block_lt h.2.2)⟩
            have hJf : Hid (∀ w1, J w1 → Below B w w1) := by rw [hJ]; exact fun w1 q => q.1.1
            have hq1 : ∀ w1, J w1 → IsL w1 b1 m (newG ps) := by rw [hJ]; exact fun w1 q => q.1.2
            have hq2 : ∀ w1, J w1 → IsL w1 b2 m (newG ps) := by rw [hJ]; exact fun w1 q => q.2.1
            have hx0 : Hid (∀ w1, J w1 → w1.cell? ⟨B, 0, none⟩ = some (.int .i64 x)) := by rw [hJ]; exact fun w1 q => (hcx2 w1 q.2.2).1
            have hx1 : Hid (∀ w1, J w1 → w1.cell? ⟨B, 1, none⟩ = some (.int .i64 y)) := by rw [hJ]; exact fun w1 q => (hcx2 w1 q.2.2).2
            have FA := Lib.hid (fun x y w1 q => inv_flows stJ2 hq1 m8 x y w1 q)
            have FB := Lib.hid (fun x y w1 q => inv_flows stJ2 hq2 m8 x y w1 q)
            have FM := Lib.hid (FA.out x y)
            clear hJ stJ2 hq1 hq2 B11 L11 X11 l2 hcx2
            rw [hfl] at FM
            clear hfl hsame
            generalize newG ps = G at *
            have d0 := hx0.out _ gg
            have d1 := hx1.out _ gg
            go_wp2_with (first
              | (go_at_call 14; (with_reducible refine (FM.out _ (by assumption)).mono ?_); rintro e w' ⟨rfl, gg⟩; have d0 := hx0.out _ gg; have d1 := hx1.out _ gg))
            have gs := gg
            clear gg
            try clear d0 d1
            go_loopw [11, 12] (fun i _ wr => ∃ a : Nat, a ≤ m ∧ i = .int .i64 a ∧ J wr) (fun i _ _ => m - (intOf i).toNat)
            case atStart => exact ⟨0, by omega, rfl, gs⟩
            case round =>
              obtain ⟨a, ha, rfl, gr⟩ := hrel
              obtain ⟨wo, rfl⟩ : ∃ wo : World, wo = wr := ⟨_, rfl⟩
              clear gs
              by_cases hlt : a < m
              · have hai : (a : Int) < (m : Int) := by omega
                have ha8 : (a : Int) < 8 := by omega
                go_wp2
                go_loopw [12] (fun i wr => ∃ c : Nat, c ≤ m ∧ i = .int .i64 c ∧ J wr) (fun i _ => m - (intOf i).toNat)
                case atStart => exact ⟨0, by omega, rfl, gr⟩
                case round =>
                  obtain ⟨c, hc, rfl, gr⟩ := hrel
                  by_cases hlt2 : c < m
                  · have hci : (c : Int) < (m : Int) := by omega
                    have hc8 : (c : Int) < 8 := by omega
                    have F1 := Lib.hid (FA.out a c)
                    have F2 := Lib.hid (FB.out a c)
                    cases hv : flB m G a c with
                    | true =>
                      rw [hv] at F1 F2
                      clear hv
                      have d0 := hx0.out _ gr
                      have d1 := hx1.out _ gr
                      go_wp2_with (first
                        | (go_at_call 14; (with_reducible refine (F1.out _ (by assumption)).mono ?_); rintro e w' ⟨rfl, gg⟩; have d0 := hx0.out _ gg; have d1 := hx1.out _ gg)
                        | (go_at_call 14; (with_reducible refine (F2.out _ (by assumption)).mono ?_); rintro e w' ⟨rfl, gg⟩; have d0 := hx0.out _ gg; have d1 := hx1.out _ gg)
                        | (go_at_call 14; (with_reducible refine (FM.out _ (by assumption)).mono ?_); rintro e w' ⟨rfl, gg⟩; have d0 := hx0.out _ gg; have d1 := hx1.out _ gg))
                      first
                        | exact ⟨⟨c + 1, by omega, by go_num, gg⟩, by simp [intOf]; omega⟩
                        | (refine ⟨?_, by simp [intOf]; omega⟩; repeat apply Exists.intro; exact ⟨⟨c + 1, by omega, by go_num, gg⟩, rfl⟩)
                    | false =>
                      rw [hv] at F1 F2
                      clear hv
                      have d0 := hx0.out _ gr
                      have d1 := hx1.out _ gr
                      go_wp2_with (first
                        | (go_at_call 14; (with_reducible refine (F1.out _ (by assumption)).mono ?_); rintro e w' ⟨rfl, gg⟩; have d0 := hx0.out _ gg; have d1 := hx1.out _ gg)
                        | (go_at_call 14; (with_reducible refine (F2.out _ (by assumption)).mono ?_); rintro e w' ⟨rfl, gg⟩; have d0 := hx0.out _ gg; have d1 := hx1.out _ gg)
                        | (go_at_call 14; (with_reducible refine (FM.out _ (by assumption)).mono ?_); rintro e w' ⟨rfl, gg⟩; have d0 := hx0.out _ gg; have d1 := hx1.out _ gg))
                      first
                        | exact ⟨⟨c + 1, by omega, by go_num, gg⟩, by simp [intOf]; omega⟩
                        | (refine ⟨?_, by simp [intOf]; omega⟩; repeat apply Exists.intro; exact ⟨⟨c + 1, by omega, by go_num, gg⟩, rfl⟩)
                  · have hcm : c = m := by omega
                    subst hcm
                    have hd1 : decide ((c : Int) < (c : Int)) = false := by simp
                    go_wp2
                    first
                      | exact ⟨⟨a + 1, by omega, by go_num, gr⟩, by simp [intOf]; omega⟩
                      | (refine ⟨?_, by simp [intOf]; omega⟩; repeat apply Exists.intro; exact ⟨⟨a + 1, by omega, by go_num, gr⟩, rfl⟩)
              · have ham : a = m := by omega
                subst ham
                have hd1 : decide ((a : Int) < (a : Int)) = false := by simp
                have hf := hJf.out _ gr
                go_wp2
                go_ret
                exact ⟨rfl, by rw [hzz]; exact hf⟩
          | false =>
            have hmono := Lib.hid (more_mono ps x y)
            obtain ⟨J, hJ⟩ : ∃ J : World → Prop, J = fun w1 => (Below B w w1 ∧ IsL w1 b1 m (newG ps)) ∧ IsL w1 b2 m (newG (ps ++ [(x, y)])) ∧ w1.heap[B]? = some (.cells #[.int .i64 x, .int .i64 y] 23 (0, 0)) := ⟨_, rfl⟩
            have gg : J w11 := by rw [hJ]; exact ⟨⟨B11, L11⟩, l2, X11⟩
            have stJ2 : Stays J := by rw [hJ]; exact fun u v h k => ⟨⟨h.1.1.trans (k.mono (Nat.le_trans (Nat.le_of_lt (block_lt h.2.2)) (Nat.le_refl _))), h.1.2.below k h.1.2.lt⟩, h.2.1.below k h.2.1.lt, heap_below h.2.2 k (block_lt h.2.2)⟩
            have hJf : Hid (∀ w1, J w1 → Below B w w1) := by rw [hJ]; exact fun w1 q => q.1.1
            have hq1 : ∀ w1, J w1 → IsL w1 b1 m (newG ps) := by rw [hJ]; exact fun w1 q => q.1.2
            have hq2 : ∀ w1, J w1 → IsL w1 b2 m (newG (ps ++ [(x, y)])) := by rw [hJ]; exact fun w1 q => q.2.1
            have hx0 : Hid (∀ w1, J w1 → w1.cell? ⟨B, 0, none⟩ = some (.int .i64 x)) := by rw [hJ]; exact fun w1 q => (hcx2 w1 q.2.2).1
            have hx1 : Hid (∀ w1, J w1 → w1.cell? ⟨B, 1, none⟩ = some (.int .i64 y)) := by rw [hJ]; exact fun w1 q => (hcx2 w1 q.2.2).2
            have FA := Lib.hid (fun x y w1 q => inv_flows stJ2 hq1 m8 x y w1 q)
            have FB := Lib.hid (fun x y w1 q => inv_flows stJ2 hq2 m8 x y w1 q)
            have FM := Lib.hid (FA.out x y)
            clear hJ stJ2 hq1 hq2 B11 L11 X11 l2 hcx2
            rw [hfl] at FM
            clear hfl
            generalize newG (ps ++ [(x, y)]) = H at *
            generalize newG ps = G at *
            have d0 := hx0.out _ gg
            have d1 := hx1.out _ gg
            go_wp2_with (first
              | (go_at_call 14; (with_reducible refine (FM.out _ (by assumption)).mono ?_); rintro e w' ⟨rfl, gg⟩; have d0 := hx0.out _ gg; have d1 := hx1.out _ gg))
            have gs := gg
            clear gg
            try clear d0 d1
            go_loopw [11, 12] (fun i _ wr => ∃ a : Nat, a ≤ m ∧ i = .int .i64 a ∧ J wr) (fun i _ _ => m - (intOf i).toNat)
            case atStart => exact ⟨0, by omega, rfl, gs⟩
            case round =>
              obtain ⟨a, ha, rfl, gr⟩ := hrel
              obtain ⟨wo, rfl⟩ : ∃ wo : World, wo = wr := ⟨_, rfl⟩
              clear gs
              by_cases hlt : a < m
              · have hai : (a : Int) < (m : Int) := by omega
                have ha8 : (a : Int) < 8 := by omega
                go_wp2
                go_loopw [12] (fun i wr => ∃ c : Nat, c ≤ m ∧ i = .int .i64 c ∧ J wr) (fun i _ => m - (intOf i).toNat)
                case atStart => exact ⟨0, by omega, rfl, gr⟩
                case round =>
                  obtain ⟨c, hc, rfl, gr⟩ := hrel
                  by_cases hlt2 : c < m
                  · have hci : (c : Int) < (m : Int) := by omega
                    have hc8 : (c : Int) < 8 := by omega
                    have F1 := Lib.hid (FA.out a c)
                    have F2 := Lib.hid (FB.out a c)
                    rw [flB_nat m G a c hlt hlt2] at F1
                    rw [flB_nat m H a c hlt hlt2] at F2
                    have hmm := hmono.out a c (by omega) (by omega)
                    cases hv : G a c with
                    | true =>
                      rw [hmm hv] at F2
                      rw [hv] at F1
                      clear hv hmm
                      have d0 := hx0.out _ gr
                      have d1 := hx1.out _ gr
                      go_wp2_with (first
                        | (go_at_call 14; (with_reducible refine (F1.out _ (by assumption)).mono ?_); rintro e w' ⟨rfl, gg⟩; have d0 := hx0.out _ gg; have d1 := hx1.out _ gg)
                        | (go_at_call 14; (with_reducible refine (F2.out _ (by assumption)).mono ?_); rintro e w' ⟨rfl, gg⟩; have d0 := hx0.out _ gg; have d1 := hx1.out _ gg)
                        | (go_at_call 14; (with_reducible refine (FM.out _ (by assumption)).mono ?_); rintro e w' ⟨rfl, gg⟩; have d0 := hx0.out _ gg; have d1 := hx1.out _ gg))
                      first
                        | exact ⟨⟨c + 1, by omega, by go_num, gg⟩, by simp [intOf]; omega⟩
                        | (refine ⟨?_, by simp [intOf]; omega⟩; repeat apply Exists.intro; exact ⟨⟨c + 1, by omega, by go_num, gg⟩, rfl⟩)
                    | false =>
                      rw [hv] at F1
                      clear hv hmm
                      have d0 := hx0.out _ gr
                      have d1 := hx1.out _ gr
                      go_wp2_with (first
                        | (go_at_call 14; (with_reducible refine (F1.out _ (by assumption)).mono ?_); rintro e w' ⟨rfl, gg⟩; have d0 := hx0.out _ gg; have d1 := hx1.out _ gg)
                        | (go_at_call 14; (with_reducible refine (FM.out _ (by assumption)).mono ?_); rintro e w' ⟨rfl, gg⟩; have d0 := hx0.out _ gg; have d1 := hx1.out _ gg))
                      first
                        | exact ⟨⟨c + 1, by omega, by go_num, gg⟩, by simp [intOf]; omega⟩
                        | (refine ⟨?_, by simp [intOf]; omega⟩; repeat apply Exists.intro; exact ⟨⟨c + 1, by omega, by go_num, gg⟩, rfl⟩)
                  · have hcm : c = m := by omega
                    subst hcm
                    have hd1 : decide ((c : Int) < (c : Int)) = false := by simp
                    go_wp2
                    first
                      | exact ⟨⟨a + 1, by omega, by go_num, gr⟩, by simp [intOf]; omega⟩
                      | (refine ⟨?_, by simp [intOf]; omega⟩; repeat apply Exists.intro; exact ⟨⟨a + 1, by omega, by go_num, gr⟩, rfl⟩)
              · have ham : a = m := by omega
                subst ham
                have hd1 : decide ((a : Int) < (a : Int)) = false := by simp
                have hf := hJf.out _ gr
                go_wp2
                go_ret
                exact ⟨rfl, by rw [hzz]; exact hf⟩
      · have NK : Hid (∀ ao' cap' w1, LiesP w1 ao' (ps ++ [(x, y)]) → Calls Try.prog 10 #[.int .i64 (m : Int), .slice ao' (ps.length + 1) cap'] w1 fun e w' => e = .returned (.tuple #[.pointer none, .int .i64 (newE m (ps ++ [(x, y)]))]) ∧ Below w1.heap.size w1 w') := fun ao' cap' w1 q => by
          have := new_any (m : Int) ao' cap' (ps ++ [(x, y)]) w1 (by rw [hLn]; omega) q
          rw [hLn] at this
          refine this.mono fun e w' hp => ?_
          obtain ⟨hb, h1 | h1⟩ := hp
          · exact absurd h1.1 he2
          · exact ⟨h1.2, hb⟩
        have hfl : flB m (newG ps) x y = false := by
          cases q : flB m (newG ps) x y with
          | false => rfl
          | true => exact absurd (more_E he (by omega) (by simpa using q)) he2
        clear he2
        generalize newE (m : Int) (ps ++ [(x, y)]) = cE at *
        go_wp2
        go_region_held3 (fun w' => w'.heap[B]? = some (.cells #[.int .i64 x, .int .i64 y] 23 (0, 0)))
          (first
            | exact b0
            | exact block_alloc (by assumption) _
            | exact heap_below (by assumption) bel9 hBlt
            | exact heap_below (by assumption) bel10 hBlt
            | exact heap_below (by assumption) c11 (block_lt (by assumption)))
          (first
            | (refine step_app (by rfl) _ _ (by rfl) w2.heap.size _ _ ps ps.length rfl (by rfl) (by first | exact own9 | exact own9.alloc _) (some _) 1 [(x, y)] 1 rfl (by rfl) (lies_block (ps := [(x, y)]) (by first | exact hxy | exact block_new _ _)) (fun h => by cases h) (by simp; omega) (by first | exact hs9 | exact Nat.le_trans hs9 (by simp)) (ps.length + 1) (by simp) ?_; intro ao10 cap10 w10 hg10 own10 lies10 hc10 bel10 hs10)
            | (refine step_app (by rfl) _ _ (by rfl) w2.heap.size _ _ [] 0 rfl (by rfl) (own_empty (by first | exact block_new _ _ | exact block_alloc (block_new _ _) _ | exact second_new w2.drew _ _) (by simp)) ao cap ps ps.length rfl (by rfl) (by first | exact lies_alloc hl0 _ | exact lies_alloc (lies_alloc hl0 _) _) hcap (by simp; omega) (by first | (simp; done) | (simp; omega)) ps.length (by simp) ?_; intro ao9 cap9 w9 hg9 own9 lies9 hc9 bel9 hs9; first | (have hxy := second_kept (w2 := w2.drew) _ (.cells #[.int .i64 x, .int .i64 y] 23) hg9) | (have hxy := first_kept (w2 := w2.drew) _ (.cells #[.int .i64 x, .int .i64 y] 23) hg9) | skip)
            | (go_at_call 10; (with_reducible refine (NK.out _ _ _ (by assumption)).mono ?_); rintro e w11 ⟨rfl, c11⟩))
        all_goals
          have hch : Below w2.heap.size w2 w11 := by
            first
              | exact (((((Below.refl w2.heap.size w2).drew.alloc (Nat.le_refl _) _).trans bel9).alloc hs9 _).trans bel10).trans (c11.mono hs10)
              | exact ((((Below.refl w2.heap.size w2).drew.alloc (Nat.le_refl _) _).alloc (by simp) _).trans bel9).trans (bel10.trans (c11.mono hs10))
          have L11 : IsL w11 b1 m (newG ps) := L2.out.below hch L2.out.lt
          have X11 : w11.heap[B]? = some (.cells #[.int .i64 x, .int .i64 y] 23 (0, 0)) := heap_below (show w2.heap[B]? = _ from b0) hch hBlt
          have B11 : Below B w w11 := hf2'.out.trans (hch.mono (Nat.le_of_lt hBlt))
          have hcx2 := hcx
          clear own10 hg10 lies10 hc10 bel10 hs10 bel9 hs9 lies9 hc9 c11 hch b0 hl0 hpx hcx
          obtain ⟨J, hJ⟩ : ∃ J : World → Prop, J = fun w1 => (Below B w w1 ∧ IsL w1 b1 m (newG ps)) ∧ w1.heap[B]? = some (.cells #[.int .i64 x, .int .i64 y] 23 (0, 0)) := ⟨_, rfl⟩
          have gg : J w11 := by rw [hJ]; exact ⟨⟨B11, L11⟩, X11⟩
          have stJ2 : Stays J := by rw [hJ]; exact fun u v h k => ⟨⟨h.1.1.trans (k.mono (Nat.le_of_lt (block_lt h.2))), h.1.2.below k h.1.2.lt⟩, heap_below h.2 k (block_lt h.2)⟩
          have hJf : Hid (∀ w1, J w1 → Below B w w1) := by rw [hJ]; exact fun w1 q => q.1.1
          have hq1 : ∀ w1, J w1 → IsL w1 b1 m (newG ps) := by rw [hJ]; exact fun w1 q => q.1.2
          have hx0 : Hid (∀ w1, J w1 → w1.cell? ⟨B, 0, none⟩ = some (.int .i64 x)) := by rw [hJ]; exact fun w1 q => (hcx2 w1 q.2).1
          have hx1 : Hid (∀ w1, J w1 → w1.cell? ⟨B, 1, none⟩ = some (.int .i64 y)) := by rw [hJ]; exact fun w1 q => (hcx2 w1 q.2).2
          have FM := Lib.hid (fun w1 q => inv_flows stJ2 hq1 m8 x y w1 q)
          rw [hfl] at FM
          clear hJ stJ2 hq1 B11 L11 X11 hcx2 hfl
          generalize newG ps = G at *
          have d0 := hx0.out _ gg
          have d1 := hx1.out _ gg
          go_wp2_with (first
            | (go_at_call 14; (with_reducible refine (FM.out _ (by assumption)).mono ?_); rintro e w' ⟨rfl, gg⟩; have d0 := hx0.out _ gg; have d1 := hx1.out _ gg))
          have gs := gg
          clear gg
          go_loopw [11, 12] (fun i _ wr => i = .int .i64 0 ∧ J wr) (fun _ _ _ => 0)
          case atStart => exact ⟨rfl, gs⟩
          case round =>
            obtain ⟨rfl, gr⟩ := hrel
            have hm1 : (0 : Int) < (m : Int) := by omega
            have hf := hJf.out _ gr
            go_wp2
            go_ret
            exact ⟨rfl, by rw [hzz]; exact hf⟩
  · have N1 := inv_newNo stI n ao cap ps hl2 _ G0.out (hlies.out _ G0.out) he
    have FX := Lib.hid (fun w1 q => inv_fixed stI w1 q)
    have hne : ((newE n ps) == 0) = false := by simpa using he
    have hne2 : ((newE n ps) != 0) = true := by simpa using he
    have NN1 := Lib.hid N1
    clear N1 he
    generalize newE n ps = c at *
    go_enter Try.func6, Try.ntmps6
    go_wp2_with fail
    (with_reducible refine NN1.out.mono ?_)
    rintro e w1 ⟨rfl, i1, k1⟩
    have I1 := Lib.hid i1
    clear i1 k1
    go_wp2_with fail
    (with_reducible refine (FX.out w1 I1.out).mono ?_)
    rintro e w2 ⟨rfl, i2⟩
    have hf := hfin.out _ i2
    clear i2
    go_wp2_with fail
    go_ret
    exact ⟨rfl, hf⟩
end Go.Proofs.Ytbkpfiagoinoiaa
