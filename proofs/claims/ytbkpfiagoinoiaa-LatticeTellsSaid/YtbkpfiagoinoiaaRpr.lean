/- The other text's pairs that tell a lattice: what the call returns, among whatever stays. Conditions: there are at most eight levels. -/
import Derived.Test.YtbkpfiagoinoiaaRtp
namespace Go.Proofs.Ytbkpfiagoinoiaa
open Go.RowKit
set_option linter.unusedVariables false

theorem rowC_yes {n : Nat} {G : Flw} {a k : Nat} (h : coverB n G a k = true) : rowC n G a (k + 1) = rowC n G a k ++ [(a, k)] := by simp [rowC, List.range_succ, List.filter_append, h]
theorem rowC_no {n : Nat} {G : Flw} {a k : Nat} (h : coverB n G a k = false) : rowC n G a (k + 1) = rowC n G a k := by simp [rowC, List.range_succ, List.filter_append, h]
theorem prsC_succ (n : Nat) (G : Flw) (a : Nat) : prsC n G (a + 1) = prsC n G a ++ rowC n G a n := by simp [prsC, List.range_succ, List.flatMap_append]
theorem rowC_len (n : Nat) (G : Flw) (a k : Nat) : (rowC n G a k).length ≤ k := by
  unfold rowC
  rw [List.length_map]
  have := List.length_filter_le (coverB n G a) (List.range k)
  simpa using this
theorem prsC_le (n : Nat) (G : Flw) : ∀ a, (prsC n G a).length ≤ a * n
  | 0 => by simp [prsC]
  | a + 1 => by
    have h1 := prsC_le n G a
    have h2 := rowC_len n G a n
    rw [prsC_succ, List.length_append, Nat.add_mul]
    omega
/-- is there one between, or nothing to tell? -/
def btw (F : Flw) (a b c : Nat) : Bool := (decide (a = b) || !F a b) || (List.range c).any fun d => decide (d ≠ a) && decide (d ≠ b) && F a d && F d b
theorem btw_zero (F : Flw) (a b : Nat) : btw F a b 0 = (decide (a = b) || !F a b) := by simp [btw]
theorem btw_next (F : Flw) (a b c : Nat) : btw F a b (c + 1) = (btw F a b c || (decide (c ≠ a) && decide (c ≠ b) && F a c && F c b)) := by simp [btw, List.range_succ, List.any_append, Bool.or_assoc]
theorem btw_all (n : Nat) (F : Flw) (a b : Nat) : coverB n F a b = !btw F a b n := by
  unfold coverB btw
  by_cases e : a = b <;> simp [e]
theorem cover_same {n : Nat} {F G : Flw} (hF : ∀ i j, i < n → j < n → F i j = G i j) {a b : Nat} (ha : a < n) (hb : b < n) : coverB n F a b = coverB n G a b := by
  unfold coverB
  rw [hF a b ha hb]
  congr 2
  rw [Bool.eq_iff_iff]
  simp only [List.any_eq_true, List.mem_range]
  refine ⟨fun ⟨d, hd, h⟩ => ⟨d, hd, ?_⟩, fun ⟨d, hd, h⟩ => ⟨d, hd, ?_⟩⟩
  · rwa [hF a d ha hd, hF d b hd hb] at h
  · rwa [hF a d ha hd, hF d b hd hb]
theorem prsC_same {n : Nat} {F G : Flw} (hF : ∀ i j, i < n → j < n → F i j = G i j) : prsC n F n = prsC n G n := by
  unfold prsC
  rw [List.flatMap_def, List.flatMap_def]
  congr 1
  apply List.map_congr_left
  intro i hi
  unfold rowC
  congr 1
  apply List.filter_congr
  intro c hc
  exact cover_same hF (by simpa using hi) (by simpa using hc)
theorem pair_new (w : World) (u v : Value) (t : TypeId) : ∀ (j : Nat) (x : Value), [u, v][j]? = some x → (w.alloc (.cells #[u, v] t)).cell? ((⟨w.heap.size, 0, none⟩ : Addr).add j) = some x := by
  intro j x hj
  match j, hj with
  | 0, hj => simp at hj; subst hj; simp [Addr.add]
  | 1, hj => simp at hj; subst hj; simp [Addr.add]
theorem pair_one (k l : IntKind) (a b : Int) : ∀ u ∈ [Value.int k a, Value.int l b], u.oneCell' = true := by
  intro u hu
  simp at hu
  rcases hu with rfl | rfl <;> rfl
section
variable {I : World → Prop} {L R cap : Nat} {B : Nat → Nat} {n : Nat} {F : Flw} (hk : Stays I) (hL : ∀ w1, I w1 → IsR w1 L R cap B n F) (n8 : n ≤ 8)
include hk hL n8
set_option maxRecDepth 100000 in
set_option maxHeartbeats 4000000 in
theorem inv_rpairs (w : World) (h : I w) :
    Calls Try.prog 31 #[.pointer (some ⟨L, 0, none⟩)] w fun e w' => ∃ v, e = .returned v ∧ w'.ownsRow w.heap.size 23 2 v (prsC n F n).length ((prsC n F n).flatMap cell2) ∧ Below w.heap.size w w' := by
  obtain ⟨i0, hi, hz0, hz1, hz2⟩ := info_parts Try.info23
  have HI := Lib.hid (And.intro hi (And.intro hz0 (And.intro hz1 hz2)))
  obtain ⟨D, hD⟩ : ∃ D, D = w.heap.size := ⟨_, rfl⟩
  rw [← hD]
  have own0 : (w.alloc (.cells #[] 23)).ownsRow D 23 2 (.slice (some ⟨D, 0, none⟩) 0 0) (prsC n F 0).length ((prsC n F 0).flatMap cell2) := by
    have := World.ownsRow_made (base := D) (e := 23) (size := 2) w #[] 0 (by omega) (by unfold maxLen; omega) rfl
    rw [← hD] at this
    exact this
  have bel : Below D w (w.alloc (.cells #[] 23)) := by rw [hD]; exact (Below.refl _ w).alloc (Nat.le_refl _) _
  have hsz : D ≤ (w.alloc (.cells #[] 23)).heap.size := by rw [hD]; simp
  have KI : Hid (∀ w1, Below D w w1 → IsR w1 L R cap B n F) := fun w1 hb => hL w1 (hk w w1 h (by rw [← hD]; exact hb))
  have c0 := (KI.out _ bel).count
  have HD := Lib.hid hD
  have hzz : w.heap.size = D := hD.symm
  clear hi hz0 hz1 hz2 hk hL h hD
  go_enter Try.func31, Try.ntmps31
  go_wp2
  generalize w.alloc (.cells #[] 23) = w0 at *
  go_loopw [3, 4] (fun v i wr => ∃ a : Nat, a ≤ n ∧ i = .int .i64 a ∧ wr.ownsRow D 23 2 v (prsC n F a).length ((prsC n F a).flatMap cell2) ∧ Below D w wr ∧ D ≤ wr.heap.size) (fun _ i _ => n - (intOf i).toNat)
  case atStart => exact ⟨0, by omega, rfl, own0, bel, hsz⟩
  case round =>
    obtain ⟨a, ha, rfl, own, hb, hs⟩ := hrel
    obtain ⟨wo, rfl⟩ : ∃ wo : World, wo = wr := ⟨_, rfl⟩
    clear own0 bel hsz hzz c0
    have c0 := (KI.out _ hb).count
    by_cases hlt : a < n
    · have hai : (a : Int) < (n : Int) := by omega
      have own1 : wo.ownsRow D 23 2 u3 (prsC n F a ++ rowC n F a 0).length ((prsC n F a ++ rowC n F a 0).flatMap cell2) := by simpa [rowC] using own
      clear own
      go_wp2
      go_loopw [3, 5] (fun v i wr => ∃ c : Nat, c ≤ n ∧ i = .int .i64 c ∧ wr.ownsRow D 23 2 v (prsC n F a ++ rowC n F a c).length ((prsC n F a ++ rowC n F a c).flatMap cell2) ∧ Below D w wr ∧ D ≤ wr.heap.size) (fun _ i _ => n - (intOf i).toNat)
      case atStart => exact ⟨0, by omega, rfl, own1, hb, hs⟩
      case round =>
        obtain ⟨b, hbn, rfl, own, hb, hs⟩ := hrel
        clear own1 c0
        have hR := KI.out _ hb
        have c0 := hR.count
        by_cases hlt2 : b < n
        · have hbi : (b : Int) < (n : Int) := by omega
          have rr := hR.rows
          have ra := hR.row a hlt
          have cab := hR.cell a b hlt hlt2
          have HR := Lib.hid hR
          have HO := Lib.hid own
          have HB := Lib.hid hb
          have hbz := btw_zero F a b
          have dd : ((a : Int) == (b : Int)) = decide (a = b) := by
            by_cases e : a = b
            · subst e; simp
            · simp [e]; omega
          have dq : decide ((a : Int) = (b : Int)) = decide (a = b) := by
            by_cases e : a = b
            · subst e; simp
            · simp [e]; omega
          have h5 : ∃ m0 : Bool, btw F a b 0 = m0 := ⟨_, rfl⟩
          obtain ⟨m0, hm0⟩ := h5
          rw [hm0] at hbz
          have HM0 := Lib.hid hm0
          clear hR own hb hm0
          cases hp : F a b <;> cases hq : decide (a = b) <;> rw [hp] at cab hbz <;> rw [hq] at dd dq hbz <;> simp only [Bool.or_true, Bool.or_false, Bool.not_true, Bool.not_false] at hbz
          all_goals
            obtain ⟨ww, rfl⟩ : ∃ ww : World, ww = wr := ⟨_, rfl⟩
            rw [hbz] at HM0
            clear hp hq hbz
            go_wp2
            go_loop [6, 7] (fun m i => ∃ c : Nat, c ≤ n ∧ i = .int .i64 c ∧ m = .bool (btw F a b c)) (fun _ i => n - (intOf i).toNat)
            case atStart => exact ⟨0, by omega, rfl, by rw [HM0.out]⟩
            case round =>
              obtain ⟨c, hc, rfl, rfl⟩ := hrel
              clear dd dq HM0
              by_cases hlt3 : c < n
              · have hci : (c : Int) < (n : Int) := by omega
                have hn := btw_next F a b c
                have rc := HR.out.row c hlt3
                have cac := HR.out.cell a c hlt hlt3
                have ccb := HR.out.cell c b hlt3 hlt2
                clear cab
                generalize btw F a b c = m at *
                cases m with
                | true =>
                  have HN := Lib.hid (show btw F a b (c + 1) = true by rw [hn]; rfl)
                  clear hn ccb cac
                  go_wp2
                  first
                    | exact ⟨⟨c + 1, by omega, by go_num, by rw [HN.out]⟩, by simp [intOf]; omega⟩
                    | (refine ⟨?_, by simp [intOf]; omega⟩; repeat apply Exists.intro; exact ⟨⟨c + 1, by omega, by go_num, by rw [HN.out]⟩, rfl⟩)
                | false =>
                  by_cases e1 : c = a
                  · have HN := Lib.hid (show btw F a b (c + 1) = false by rw [hn]; simp [e1])
                    have g1 : ((c : Int) != (a : Int)) = false := by simp [e1]
                    clear hn ccb cac e1
                    go_wp2
                    first
                      | exact ⟨⟨c + 1, by omega, by go_num, by rw [HN.out]⟩, by simp [intOf]; omega⟩
                      | (refine ⟨?_, by simp [intOf]; omega⟩; repeat apply Exists.intro; exact ⟨⟨c + 1, by omega, by go_num, by rw [HN.out]⟩, rfl⟩)
                  · have g1 : ((c : Int) != (a : Int)) = true := by simp; omega
                    by_cases e2 : c = b
                    · have HN := Lib.hid (show btw F a b (c + 1) = false by rw [hn]; simp [e2])
                      have g2 : ((c : Int) != (b : Int)) = false := by simp [e2]
                      clear hn ccb cac e1 e2
                      go_wp2
                      first
                        | exact ⟨⟨c + 1, by omega, by go_num, by rw [HN.out]⟩, by simp [intOf]; omega⟩
                        | (refine ⟨?_, by simp [intOf]; omega⟩; repeat apply Exists.intro; exact ⟨⟨c + 1, by omega, by go_num, by rw [HN.out]⟩, rfl⟩)
                    · have g2 : ((c : Int) != (b : Int)) = true := by simp; omega
                      have hn2 : btw F a b (c + 1) = (F a c && F c b) := by rw [hn]; simp [e1, e2]
                      clear hn e1 e2
                      generalize F a c = p at *
                      generalize F c b = q at *
                      cases p <;> cases q <;> simp only [Bool.and_true, Bool.and_false] at hn2
                      all_goals
                        have HN := Lib.hid hn2
                        clear hn2
                        go_wp2
                        first
                          | exact ⟨⟨c + 1, by omega, by go_num, by rw [HN.out]⟩, by simp [intOf]; omega⟩
                          | (refine ⟨?_, by simp [intOf]; omega⟩; repeat apply Exists.intro; exact ⟨⟨c + 1, by omega, by go_num, by rw [HN.out]⟩, rfl⟩)
              · have hcn : c = n := by omega
                have hd0 : decide ((c : Int) < (n : Int)) = false := by simp; omega
                have hcv : coverB n F a b = !btw F a b c := by rw [hcn]; exact btw_all n F a b
                have hl1 := prsC_le n F a
                have hl2 := rowC_len n F a b
                have hl3 : a * n ≤ 64 := Nat.le_trans (Nat.mul_le_mul (show a ≤ 8 by omega) n8) (by decide)
                have hl : (prsC n F a ++ rowC n F a b).length ≤ 72 := by rw [List.length_append]; omega
                clear hl1 hl2 hl3
                generalize btw F a b c = m at *
                cases m with
                | true =>
                  have e2 : coverB n F a b = false := by rw [hcv]; rfl
                  have own2 : ww.ownsRow D 23 2 u3 (prsC n F a ++ rowC n F a (b + 1)).length ((prsC n F a ++ rowC n F a (b + 1)).flatMap cell2) := by rw [rowC_no e2]; exact HO.out
                  have HO2 := Lib.hid own2
                  clear hcv e2 own2
                  go_wp2
                  first
                    | exact ⟨⟨b + 1, by omega, by go_num, HO2.out, HB.out, hs⟩, by simp [intOf]; omega⟩
                    | (refine ⟨?_, by simp [intOf]; omega⟩; repeat apply Exists.intro; exact ⟨⟨b + 1, by omega, by go_num, HO2.out, HB.out, hs⟩, rfl⟩)
                | false =>
                  have e2 : coverB n F a b = true := by rw [hcv]; rfl
                  have HE := Lib.hid (rowC_yes e2)
                  clear hcv e2
                  go_wp2_with (at_builtin; refine wpList_append_own _ rfl _ _ 22 rfl D 23 i0 (.agg #[.int .i64 0, .int .i64 0]) 2 16 Try.underlying22 HI.out.1 HI.out.2.1 HI.out.2.2.1 HI.out.2.2.2 rfl (by decide) _ _ _ rfl (HO.out.alloc _) ⟨ww.heap.size, 0, none⟩ 1 1 [.int .i64 (a : Int), .int .i64 (b : Int)] rfl rfl (pair_new _ _ _ _) (pair_one _ _ _ _) (by unfold maxLen; omega) (by omega) (by simp; omega) ?_)
                  · intro v' w1 own' hg hnil
                    have hb' : Below D w w1 := (HB.out.alloc hs _).grown hg (by simp; omega) (fun g hgg => by have := (HO.out.lt g hgg).1; omega)
                    have hs' : D ≤ w1.heap.size := by have := hg.size; simp at this; omega
                    have own2 : w1.ownsRow D 23 2 v' (prsC n F a ++ rowC n F a (b + 1)).length ((prsC n F a ++ rowC n F a (b + 1)).flatMap cell2) := by
                      rw [HE.out]
                      simp only [List.length_append, List.flatMap_append, ← List.append_assoc] at own' ⊢
                      exact own'
                    have HO2 := Lib.hid own2
                    clear hnil hg own' own2 hs
                    go_wp2
                    first
                      | exact ⟨⟨b + 1, by omega, by go_num, HO2.out, hb', hs'⟩, by simp [intOf]; omega⟩
                      | (refine ⟨?_, by simp [intOf]; omega⟩; repeat apply Exists.intro; exact ⟨⟨b + 1, by omega, by go_num, HO2.out, hb', hs'⟩, rfl⟩)
        · have hcn : b = n := by omega
          have hd0 : decide ((b : Int) < (n : Int)) = false := by simp; omega
          rw [hcn, ← prsC_succ] at own
          have HO2 := Lib.hid own
          clear own
          go_wp2
          first
            | exact ⟨⟨a + 1, by omega, by go_num, HO2.out, hb, hs⟩, by simp [intOf]; omega⟩
            | (refine ⟨?_, by simp [intOf]; omega⟩; repeat apply Exists.intro; exact ⟨⟨a + 1, by omega, by go_num, HO2.out, hb, hs⟩, rfl⟩)
    · have han : a = n := by omega
      have hd0 : decide ((a : Int) < (n : Int)) = false := by simp; omega
      rw [han] at own
      go_wp2
      go_ret
      exact ⟨_, rfl, own, hb⟩
end
end Go.Proofs.Ytbkpfiagoinoiaa
