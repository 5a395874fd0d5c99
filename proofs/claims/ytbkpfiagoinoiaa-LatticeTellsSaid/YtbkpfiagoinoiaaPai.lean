/- The pairs that tell a lattice: what the call returns; nothing that was there turns. Conditions: there are at most eight levels. -/
import Derived.Test.YtbkpfiagoinoiaaNeu
namespace Go.Proofs.Ytbkpfiagoinoiaa
open Go.RowKit
set_option linter.unusedVariables false
attribute [local go_sem ↓] load47_pre store47_pre load49_pre store49_pre eql47_pre load23_pre neq49_pre
attribute [local go_sem] load47_run store47_run load49_run store49_run rowOr_some putOr_true heap_drew eql47_run tellOr_true load23_run neq49_run

/-- would another lattice be told without it? -/
def tellB (G : Flw) (a c : Nat) : Bool := G a c && !flwEq (clo (setF G a c false)) G
def rowP (G : Flw) (a k : Nat) : List (Nat × Nat) := ((List.range k).filter (tellB G a)).map fun c => (a, c)
def prsL (n : Nat) (G : Flw) (a : Nat) : List (Nat × Nat) := (List.range a).flatMap fun i => rowP G i n
def cell2 (p : Nat × Nat) : List Value := [cellI p.1, cellI p.2]
theorem rowP_yes (G : Flw) (a k : Nat) (h : tellB G a k = true) : rowP G a (k + 1) = rowP G a k ++ [(a, k)] := by simp [rowP, List.range_succ, List.filter_append, h]
theorem rowP_no (G : Flw) (a k : Nat) (h : tellB G a k = false) : rowP G a (k + 1) = rowP G a k := by simp [rowP, List.range_succ, List.filter_append, h]
theorem prsL_succ (n : Nat) (G : Flw) (a : Nat) : prsL n G (a + 1) = prsL n G a ++ rowP G a n := by simp [prsL, List.range_succ, List.flatMap_append]
theorem rowP_len (G : Flw) (a k : Nat) : (rowP G a k).length ≤ k := by
  unfold rowP
  rw [List.length_map]
  have := List.length_filter_le (tellB G a) (List.range k)
  simpa using this
theorem prsL_len (n : Nat) (G : Flw) : ∀ a, (prsL n G a).length ≤ a * n
  | 0 => by simp [prsL]
  | a + 1 => by
    have h1 := prsL_len n G a
    have h2 := rowP_len G a n
    rw [prsL_succ, List.length_append, Nat.add_mul]
    omega
theorem Try.info23 : (Try.prog.info? 23).map (fun i => (i.zero, i.size, i.bytes)) = some (some (.agg #[.int .i64 0, .int .i64 0]), 2, 16) := by kernel_rfl

set_option maxRecDepth 100000 in
set_option maxHeartbeats 4000000 in
theorem pairs_any (b n : Nat) (G : Flw) (w : World) (hn : n ≤ 8) (h : IsL w b n G) :
    Calls Try.prog 30 #[.pointer (some ⟨b, 0, none⟩)] w fun e w' => ∃ v, e = .returned v ∧ w'.ownsRow w.heap.size 23 2 v (prsL n G n).length ((prsL n G n).flatMap cell2) ∧ Below w.heap.size w w' := by
  obtain ⟨i0, hi, hz0, hz1, hz2⟩ := info_parts Try.info23
  have HI := Lib.hid (And.intro hi (And.intro hz0 (And.intro hz1 hz2)))
  have hc := h.count
  have hbl := h.lt
  obtain ⟨L, hL⟩ : ∃ L, L = latC n G := ⟨_, rfl⟩
  have hw : w.heap[b]? = some (.cells L 51 (0, 0)) := by rw [hL]; exact h
  obtain ⟨C, hC⟩ : ∃ C, C = cellsF G := ⟨_, rfl⟩
  have hra : ∀ h : Array Obj, h[b]? = some (.cells L 51 (0, 0)) → rowAt h b 1 64 = some C := fun h q => by
    rw [hC, rowAt_of q (by rw [hL, latC_size]; omega), hL, latC_all]
  have hrc : ∀ w1 : World, w1.heap[b]? = some (.cells L 51 (0, 0)) → w1.cell? ⟨b, 0, none⟩ = some (.int .i64 (n : Int)) := fun w1 q => by
    rw [cell_of_row w1 b 0 _ _ _ q, hL, latC_zero]
  have hiC : isF C = true := by rw [hC]; exact isF_cells _
  have HL := Lib.hid hL
  have HC := Lib.hid hC
  have HW := Lib.hid hw
  obtain ⟨D, hD⟩ : ∃ D, D = w.heap.size := ⟨_, rfl⟩
  rw [← hD]
  have HD := Lib.hid hD
  have hbD : b < D := by omega
  have hFl : Hid (∀ w1 : World, w1.heap[b]? = some (.cells L 51 (0, 0)) → ∀ x y : Int, Calls Try.prog 14 #[.pointer (some ⟨b, 0, none⟩), .int .i64 x, .int .i64 y] w1 fun e w' => e = .returned (.bool (flB n G x y)) ∧ w1 = w') := fun w1 q x y =>
    flows_any b n G x y w1 hn (by unfold IsL; rw [← HL.out]; exact q)
  have hWo : Hid (∀ (a c : Nat), a < 8 → c < 8 → ∀ w1 : World, Calls Try.prog 40 #[.agg C, .int .i64 (a : Int), .int .i64 (c : Int)] w1 fun e w' => e = .returned (.agg (cellsF (clo (setF G a c false)))) ∧ Below w1.heap.size w1 w') := fun a c ha hc w1 => by
    rw [HC.out]; exact without_any G a c ha hc w1
  have own0 : w.ownsRow D 23 2 (.slice none 0 0) (prsL n G 0).length ((prsL n G 0).flatMap cell2) := World.ownsRow_nil _ _ _ _
  have hDs : D ≤ w.heap.size := by omega
  have bel : Below D w w := Below.refl _ _
  clear hi hz0 hz1 hz2 hL hC h hD
  go_enter Try.func30, Try.ntmps30
  go_wp2
  go_loopw [3, 4, 5, 10, 17] (fun v _ _ i _ wr => ∃ a : Nat, a ≤ n ∧ i = .int .i64 a ∧ wr.heap[b]? = some (.cells L 51 (0, 0)) ∧ wr.ownsRow D 23 2 v (prsL n G a).length ((prsL n G a).flatMap cell2) ∧ Below D w wr ∧ D ≤ wr.heap.size) (fun _ _ _ i _ _ => n - (intOf i).toNat)
  case atStart => exact ⟨0, by omega, rfl, hw, own0, bel, hDs⟩
  case round =>
    obtain ⟨a, ha, rfl, h0, own, hb, hs⟩ := hrel
    obtain ⟨wo, rfl⟩ : ∃ wo : World, wo = wr := ⟨_, rfl⟩
    clear hw own0 bel hDs hc
    by_cases hlt : a < n
    · have hai : (a : Int) < (n : Int) := by omega
      have hcc := hrc wo h0
      have own1 : wo.ownsRow D 23 2 u3 (prsL n G a ++ rowP G a 0).length ((prsL n G a ++ rowP G a 0).flatMap cell2) := by simpa [rowP] using own
      clear own
      go_wp2
      clear hcc
      go_loopw [3, 5, 17] (fun v _ i wr => ∃ c : Nat, c ≤ n ∧ i = .int .i64 c ∧ wr.heap[b]? = some (.cells L 51 (0, 0)) ∧ wr.ownsRow D 23 2 v (prsL n G a ++ rowP G a c).length ((prsL n G a ++ rowP G a c).flatMap cell2) ∧ Below D w wr ∧ D ≤ wr.heap.size) (fun _ _ i _ => n - (intOf i).toNat)
      case atStart => exact ⟨0, by omega, rfl, h0, own1, hb, hs⟩
      case round =>
        obtain ⟨c, hc, rfl, h0, own, hb, hs⟩ := hrel
        clear own1
        by_cases hlt2 : c < n
        · have hci : (c : Int) < (n : Int) := by omega
          have efl : flB n G a c = G a c := flB_nat n G a c hlt hlt2
          have F1 := Lib.hid (fun w1 q => hFl.out w1 q a c)
          rw [efl] at F1
          have W1 := Lib.hid (hWo.out a c (by omega) (by omega))
          have htb : tellB G a c = (G a c && !eqF (cellsF (clo (setF G a c false))) C) := by rw [HC.out, eqF_cells]; rfl
          have hiR : isF (cellsF (clo (setF G a c false))) = true := isF_cells _
          have HO := Lib.hid own
          generalize cellsF (clo (setF G a c false)) = R at *
          cases hg : G a c with
          | false =>
            rw [hg] at F1 htb
            have e2 : tellB G a c = false := by rw [htb]; rfl
            have own2 : wr.ownsRow D 23 2 u3 (prsL n G a ++ rowP G a (c + 1)).length ((prsL n G a ++ rowP G a (c + 1)).flatMap cell2) := by rw [rowP_no G a c e2]; exact own
            have HO2 := Lib.hid own2
            have F2 : Hid (∀ m, Calls Try.prog 14 #[.pointer (some ⟨b, 0, none⟩), .int .i64 (a : Int), .int .i64 (c : Int)] (wr.drewN m) fun e w' => e = .returned (.bool false) ∧ w' = wr.drewN m) := fun m =>
              (F1.out (wr.drewN m) h0).mono fun e w' q => ⟨q.1, q.2.symm⟩
            clear hg htb e2 own own2 efl
            go_wp2
            go_quiet ((go_at_call 14; exact Calls.quiet_of_same (F2.out _)))
            have h02 : (wr.drewN nq).heap[b]? = some (.cells L 51 (0, 0)) := h0
            have HO3 := Lib.hid (show (wr.drewN nq).ownsRow D 23 2 u3 (prsL n G a ++ rowP G a (c + 1)).length ((prsL n G a ++ rowP G a (c + 1)).flatMap cell2) from HO2.out)
            have hb2 := below_drewN hb nq
            have hs2 : D ≤ (wr.drewN nq).heap.size := hs
            clear h0 HO2 hb hs
            generalize wr.drewN nq = w9 at *
            go_wp2
            first
              | exact ⟨⟨c + 1, by omega, by go_num, h02, HO3.out, hb2, hs2⟩, by simp [intOf]; omega⟩
              | (refine ⟨?_, by simp [intOf]; omega⟩; repeat apply Exists.intro; exact ⟨⟨c + 1, by omega, by go_num, h02, HO3.out, hb2, hs2⟩, rfl⟩)
          | true =>
            rw [hg] at F1 htb
            have hwd : wr.drew.heap[b]? = some (.cells L 51 (0, 0)) := h0
            have hs1 : D ≤ wr.drew.heap.size := hs
            obtain ⟨t, ht⟩ : ∃ t, t = eqF R C := ⟨_, rfl⟩
            rw [← ht] at htb
            have ht2 : eqF R C = t := ht.symm
            have HT := Lib.hid htb
            have HB := Lib.hid hb
            clear hg htb efl ht own
            go_wp2
            go_region_held3 (fun w' => w'.heap[b]? = some (.cells L 51 (0, 0)))
              (first
                | exact hwd
                | exact heap_below hwd c4 (by show b < wr.heap.size; omega))
              (first
                | (go_at_call 14; (with_reducible refine (F1.out _ hwd).mono ?_); rintro e w4 ⟨rfl, rfl⟩)
                | (go_at_call 40; (with_reducible refine (W1.out _).mono ?_); rintro e v4 ⟨rfl, c4⟩))
            have h0v : v4.heap[b]? = some (.cells L 51 (0, 0)) := heap_below hwd c4 (by show b < wr.heap.size; omega)
            have hbv : Below D w v4 := HB.out.drew.trans (c4.mono hs1)
            have hsv : D ≤ v4.heap.size := Nat.le_trans hs1 c4.size
            have ownv : v4.ownsRow D 23 2 u3 (prsL n G a ++ rowP G a c).length ((prsL n G a ++ rowP G a c).flatMap cell2) := own_below (w := wr.drew) HO.out c4 (Nat.le_refl _)
            have hl1 := prsL_len n G a
            have hl2 := rowP_len G a c
            have hl3 : a * n ≤ 64 := Nat.le_trans (Nat.mul_le_mul (show a ≤ 8 by omega) hn) (by decide)
            have hl : (prsL n G a ++ rowP G a c).length ≤ 72 := by rw [List.length_append]; omega
            clear hs1 c4 HB hwd HO h0 hb hs hl1 hl2 hl3 ht2
            cases t with
            | true =>
              have e2 : tellB G a c = false := by rw [HT.out]; rfl
              have own2 : v4.ownsRow D 23 2 u3 (prsL n G a ++ rowP G a (c + 1)).length ((prsL n G a ++ rowP G a (c + 1)).flatMap cell2) := by rw [rowP_no G a c e2]; exact ownv
              have HO2 := Lib.hid own2
              clear e2 ownv own2
              go_wp2
              first
                | exact ⟨⟨c + 1, by omega, by go_num, h0v, HO2.out, hbv, hsv⟩, by simp [intOf]; omega⟩
                | (refine ⟨?_, by simp [intOf]; omega⟩; repeat apply Exists.intro; exact ⟨⟨c + 1, by omega, by go_num, h0v, HO2.out, hbv, hsv⟩, rfl⟩)
            | false =>
              have e2 : tellB G a c = true := by rw [HT.out]; rfl
              have HE := Lib.hid (rowP_yes G a c e2)
              clear e2
              go_wp2_with (at_builtin; refine wpList_append_own _ rfl _ _ 22 rfl D 23 i0 (.agg #[.int .i64 0, .int .i64 0]) 2 16 Try.underlying22 HI.out.1 HI.out.2.1 HI.out.2.2.1 HI.out.2.2.2 rfl (by decide) _ _ _ rfl (ownv.alloc _) ⟨v4.heap.size, 0, none⟩ 1 1 [.int .i64 (a : Int), .int .i64 (c : Int)] rfl rfl ?c1 ?c2 ?c3 ?c4 ?c5 ?_)
              case c1 =>
                intro j u hj
                match j, hj with
                | 0, hj => simp at hj; subst hj; simp [Addr.add]
                | 1, hj => simp at hj; subst hj; simp [Addr.add]
              case c2 => intro u hu; simp at hu; rcases hu with rfl | rfl <;> rfl
              case c3 => unfold maxLen; omega
              case c4 => omega
              case c5 => simp; omega
              · intro v' w1 own' hg hnil
                have hb' : Below D w w1 := (hbv.alloc hsv _).grown hg (by simp; omega) (fun g hgg => by have := (ownv.lt g hgg).1; omega)
                have hs' : D ≤ w1.heap.size := by have := hg.size; simp at this; omega
                have h1 : w1.heap[b]? = some (.cells L 51 (0, 0)) := by
                  rw [hg.block b (by have := block_lt h0v; simp; omega) (fun hh => by have := (ownv.lt b hh.symm).1; omega)]
                  exact block_alloc h0v _
                have own2 : w1.ownsRow D 23 2 v' (prsL n G a ++ rowP G a (c + 1)).length ((prsL n G a ++ rowP G a (c + 1)).flatMap cell2) := by
                  rw [HE.out]
                  simp only [List.length_append, List.flatMap_append, ← List.append_assoc] at own' ⊢
                  exact own'
                have HO2 := Lib.hid own2
                clear hnil hg ownv own' hbv hsv h0v own2
                go_wp2
                first
                  | exact ⟨⟨c + 1, by omega, by go_num, h1, HO2.out, hb', hs'⟩, by simp [intOf]; omega⟩
                  | (refine ⟨?_, by simp [intOf]; omega⟩; repeat apply Exists.intro; exact ⟨⟨c + 1, by omega, by go_num, h1, HO2.out, hb', hs'⟩, rfl⟩)
        · have hcn : c = n := by omega
          subst hcn
          rw [← prsL_succ] at own
          go_wp2
          first
            | exact ⟨⟨a + 1, by omega, by go_num, h0, own, hb, hs⟩, by simp [intOf]; omega⟩
            | (refine ⟨?_, by simp [intOf]; omega⟩; repeat apply Exists.intro; exact ⟨⟨a + 1, by omega, by go_num, h0, own, hb, hs⟩, rfl⟩)
    · have han : a = n := by omega
      subst han
      go_wp2
      go_ret
      exact ⟨_, rfl, own, hb⟩
end Go.Proofs.Ytbkpfiagoinoiaa
