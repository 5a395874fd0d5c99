/- A lattice made of pairs: what the call returns, and what it leaves; nothing that was there turns. Conditions: the pairs lie in memory. -/
import Derived.Test.YtbkpfiagoinoiaaPrs
import Derived.StillTailTactics
namespace Go.Proofs.Ytbkpfiagoinoiaa
open Go.RowKit
set_option linter.unusedVariables false
attribute [local go_sem ↓] load47_pre store47_pre load49_pre store49_pre eql47_pre load23_pre
attribute [local go_sem] load47_run store47_run load49_run store49_run rowOr_some putOr_true heap_drew eql47_run tellOr_true load23_run

set_option maxHeartbeats 400000 in
theorem new_size (n : Int) (ao : Option Addr) (cap : Nat) (ps : List (Int × Int)) (w : World) (hl : ps.length ≤ 140737488355328) (h : n < 1 ∨ 8 < n ∨ 64 < ps.length) :
    Calls Try.prog 10 #[.int .i64 n, .slice ao ps.length cap] w (NewPost n ps w) := by
  have e := newE_size h
  have fin : ∀ e' : Ending, e' = .returned (.tuple #[.pointer none, .int .i64 40]) → NewPost n ps w e' w := fun e' q => ⟨Below.refl _ _, .inr ⟨by rw [e]; decide, by rw [e]; exact q⟩⟩
  have F := Lib.hid fin
  obtain ⟨L, hL⟩ : ∃ L, L = ps.length := ⟨_, rfl⟩
  rw [← hL] at h hl ⊢
  generalize NewPost n ps w = Q at *
  clear e hL fin
  by_cases h1 : n < 1
  · go_enter Try.func10, Try.ntmps10
    go_wp2
    exact F.out _ rfl
  · have d1 : decide (n < 1) = false := by simpa using h1
    by_cases h2 : 8 < n
    · go_enter Try.func10, Try.ntmps10
      go_wp2
      exact F.out _ rfl
    · have d2 : decide (8 < n) = false := by simpa using h2
      have h3 : 64 < L := by omega
      have h3i : (64 : Int) < (L : Int) := by omega
      go_enter Try.func10, Try.ntmps10
      go_wp2
      exact F.out _ rfl

theorem op_buildL {P : Program} {ops : Array Oper} {rest : List Oper} {o : Oper} {a : Act} {w : World} {Q : Exit → Act → World → Prop} (hg : o.guard = none) (t : TypeId) (parts : List (Nat × Operand)) (ho : o.op = .build t parts.toArray) (cells : Array Value)
    (hb : P.built t (parts.map fun p => (p.1, a.eval p.2)) = some cells)
    (h : wpList P ops Q rest (a.put o.dst (.agg cells)) w) : wpList P ops Q (o :: rest) a w :=
  op_build hg t parts.toArray ho cells (by simpa using hb) h
theorem build51 (n : Int) : Try.prog.built 51 [(0, .int .i64 n)] = some (#[.int .i64 n] ++ cellsF fun _ _ => false) := by kernel_rfl
theorem isL_set {w : World} {b n : Nat} {G : Flw} (h : IsL w b n G) (x y : Nat) (hx : x < 8) (hy : y < 8) : IsL (w.setCell ⟨b, 1 + x * 8 + y, none⟩ (.bool true)) b n (setF G x y true) := by
  unfold IsL
  rw [block_setCell h]
  suffices e : (latC n G).setIfInBounds (1 + x * 8 + y) (.bool true) = latC n (setF G x y true) by rw [e]
  apply Array.ext_getElem?
  intro i
  rw [Array.getElem?_setIfInBounds, latC_size]
  cases i with
  | zero => rw [if_neg (by omega), latC_zero, latC_zero]
  | succ i =>
    rw [latC_succ, latC_succ, ← cellsF_set G x y hy true, Array.getElem?_setIfInBounds, cellsF_size]
    by_cases e : x * 8 + y = i
    · subst e
      rw [if_pos (by omega), if_pos rfl, if_pos (by omega), if_pos (by omega)]
    · rw [if_neg (by omega), if_neg e]
theorem isL_all {w : World} {b n : Nat} {G : Flw} (h : IsL w b n G) (H : Flw) : IsL (w.setCells b 1 (cellsF H).toList) b n H := by
  unfold IsL
  rw [block_setCells _ h]
  suffices e : fillA (latC n G) 1 (cellsF H).toList = latC n H by rw [e]
  apply Array.ext_getElem?
  intro i
  rw [fillA_get, Array.length_toList, cellsF_size, latC_size, Array.getElem?_toList]
  cases i with
  | zero => rw [if_neg (by omega), latC_zero, latC_zero]
  | succ i =>
    rw [latC_succ, latC_succ]
    by_cases q : i < 64
    · rw [if_pos (by omega), Nat.add_sub_cancel]
    · rw [if_neg (by omega), Array.getElem?_eq_none (by rw [cellsF_size]; omega), Array.getElem?_eq_none (by rw [cellsF_size]; omega)]

set_option maxRecDepth 100000 in
set_option maxHeartbeats 4000000 in
theorem new_main (n : Nat) (ao : Option Addr) (cap : Nat) (ps : List (Int × Int)) (w : World) (hl : ps.length ≤ 64) (h1 : 1 ≤ n) (h8 : n ≤ 8) (hP : LiesP w ao ps) :
    Calls Try.prog 10 #[.int .i64 (n : Int), .slice ao ps.length cap] w (NewPost n ps w) := by
  have hsz : ¬ ((n : Int) < 1 ∨ 8 < (n : Int) ∨ 64 < ps.length) := by omega
  obtain ⟨B, hB⟩ : ∃ B, B = w.heap.size := ⟨_, rfl⟩
  obtain ⟨Z, hZ⟩ : ∃ Z, Z = #[.int .i64 (n : Int)] ++ cellsF (fun _ _ => false) := ⟨_, rfl⟩
  have hbd := build51 n
  rw [← hZ] at hbd
  have hL0 : IsL (w.alloc (.cells Z 51)) B n (insK ps 0) := by unfold IsL; rw [insK_zero, hB, hZ]; exact block_new _ _
  have bel : Below B w (w.alloc (.cells Z 51)) := by rw [hB]; exact (Below.refl _ w).alloc (Nat.le_refl _) _
  have f41 : Hid (∀ k, k < ps.length → okP n (ps.getD k (0, 0)) = false → ∀ e w', e = .returned (.tuple #[.pointer none, .int .i64 41]) → Below B w w' → NewPost n ps w e w') := fun k hk hp e w' q hb => by
    have := newE_pair hsz k hk (by simpa using hp)
    exact ⟨by rw [← hB]; exact hb, .inr ⟨by rw [this]; decide, by rw [this]; exact q⟩⟩
  have frest : Hid (ps.all (okP n) = true → ∀ e w' v, newE n ps = v → v ≠ 0 → e = .returned (.tuple #[.pointer none, .int .i64 v]) → Below B w w' → NewPost n ps w e w') := fun _ e w' v hv h0 q hb => by
    exact ⟨by rw [← hB]; exact hb, .inr ⟨by rw [hv]; exact h0, by rw [hv]; exact q⟩⟩
  have fok : Hid (∀ e w', newE n ps = 0 → e = .returned (.tuple #[.pointer (some ⟨B, 0, none⟩), .int .i64 0]) → Below B w w' → IsL w' B n (newG ps) → NewPost n ps w e w') := fun e w' hv q hb hi => by
    exact ⟨by rw [← hB]; exact hb, .inl ⟨hv, B, by rw [hB]; exact Nat.le_refl _, q, by simpa using hi⟩⟩
  have fE : Hid (ps.all (okP n) = true → newE n ps = if loopB n (newG ps) = true then 42 else if joinB n (newG ps) = false then 43 else 0) := fun ha => by
    have := newE_rest hsz (by simpa using ha)
    simpa using this
  have HP := Lib.hid hP
  have hlt : B < (w.alloc (.cells Z 51)).heap.size := hL0.lt
  have hwB : w.heap.size ≤ B := by omega
  generalize NewPost n ps w = Q at *
  have HB := Lib.hid hB
  have d1 : decide ((n : Int) < 1) = false := by simp; omega
  have d2 : decide (8 < (n : Int)) = false := by simp; omega
  obtain ⟨M, hM⟩ : ∃ M, M = ps.length := ⟨_, rfl⟩
  rw [← hM] at hl ⊢
  have d3 : decide (64 < (M : Int)) = false := by simp; omega
  have HM := Lib.hid hM
  have L0 := Lib.hid hL0
  clear hB hZ hM hL0 hP
  go_enter Try.func10, Try.ntmps10
  go_wp2_with (refine op_buildL rfl 51 _ rfl Z hbd ?_)
  rw [← HB.out]
  clear hbd
  generalize w.alloc (.cells Z 51) = w0 at *
  go_loopw [8, 25] (fun _ i wr => ∃ k : Nat, k ≤ M ∧ i = .int .i64 k ∧ IsL wr B n (insK ps k) ∧ Below B w wr ∧ Hid (∀ j, j < k → okP n (ps.getD j (0, 0)) = true)) (fun _ i _ => M - (intOf i).toNat)
  case atStart => exact ⟨0, by omega, rfl, L0.out, bel, fun j hj => absurd hj (by omega)⟩
  case round =>
    obtain ⟨k, hk, rfl, hL, hb, hf⟩ := hrel
    clear L0 bel hlt d1 d2 d3
    by_cases hlt : k < M
    · have hki : (k : Int) < (M : Int) := by omega
      have hki2 : (k : Int) ≤ 64 := by omega
      obtain ⟨ad, had, q1, q2, q3⟩ := HP.out.below hb (by omega) k (by rw [← HM.out]; exact hlt)
      subst had
      have hpr := pairAt_of q1 q2
      have f41k := Lib.hid (f41.out k (by rw [← HM.out]; exact hlt))
      have hins := Lib.hid (insK_succ ps k (by rw [← HM.out]; exact hlt))
      have hokk : Hid (∀ x, okP n (ps.getD k (0, 0)) = x → (hasB n (ps.getD k (0, 0)).1 && hasB n (ps.getD k (0, 0)).2) = x) := fun x hx => hx
      have hokn : Hid ((okP n (ps.getD k (0, 0)) = true) → ∀ j, j < k + 1 → okP n (ps.getD j (0, 0)) = true) := fun q j hj => by
        by_cases e : j = k
        · subst e; exact q
        · exact hf.out j (by omega)
      have hop : okP n (ps.getD k (0, 0)) = (hasB n (ps.getD k (0, 0)).1 && hasB n (ps.getD k (0, 0)).2) := rfl
      generalize (ps.getD k (0, 0)) = pk at *
      obtain ⟨x, y⟩ := pk
      dsimp only at hpr hins hop
      rw [hop] at f41k hokn
      clear q1 q2 hokk hop
      have hBw := hL.lt
      have hLa : IsL (wr.alloc (.cells #[.int .i64 x, .int .i64 y] 23)) B n (insK ps k) := block_alloc hL _
      have A := fun v => has_any B n (insK ps k) v _ hLa
      have hba : Below B w (wr.alloc (.cells #[.int .i64 x, .int .i64 y] 23)) := hb.alloc (by omega) _
      have c0 : (wr.alloc (.cells #[.int .i64 x, .int .i64 y] 23)).cell? ⟨wr.heap.size, 0, none⟩ = some (.int .i64 x) := by rw [cell_of_row _ _ _ _ _ _ (block_new wr _)]; rfl
      have c1 : (wr.alloc (.cells #[.int .i64 x, .int .i64 y] 23)).cell? ⟨wr.heap.size, 1, none⟩ = some (.int .i64 y) := by rw [cell_of_row _ _ _ _ _ _ (block_new wr _)]; rfl
      have A1 := Lib.hid (A x)
      have A2 := Lib.hid (A y)
      have HLa := Lib.hid hLa
      clear hLa A
      cases hx : hasB n x with
      | false =>
        have ff := f41k.out (by rw [hx]; rfl)
        have FF := Lib.hid ff
        clear hokn ff
        go_wp2_with (first
          | (go_at_call 32; (with_reducible refine (A1.out).mono ?_); rintro e w' ⟨rfl, rfl⟩))
        exact FF.out _ _ rfl hba
      | true =>
        cases hy : hasB n y with
        | false =>
          have ff := f41k.out (by rw [hx, hy]; rfl)
          have FF := Lib.hid ff
          clear hokn ff
          go_wp2_with (first
            | (go_at_call 32; (with_reducible refine (A1.out).mono ?_); rintro e w' ⟨rfl, rfl⟩)
            | (go_at_call 32; (with_reducible refine (A2.out).mono ?_); rintro e w' ⟨rfl, rfl⟩))
          exact FF.out _ _ rfl hba
        | true =>
          have hnext := Lib.hid (hokn.out (by rw [hx, hy]; rfl))
          clear hokn f41k
          obtain ⟨x, rfl, hxn⟩ := hasB_nat hx
          obtain ⟨y, rfl, hyn⟩ := hasB_nat hy
          go_wp2_with (first
            | (go_at_call 32; (with_reducible refine (A1.out).mono ?_); rintro e w' ⟨rfl, rfl⟩)
            | (go_at_call 32; (with_reducible refine (A2.out).mono ?_); rintro e w' ⟨rfl, rfl⟩))
          have i1 := index49 B 1 x (by omega)
          have i2 := index47 B (1 + x * 8) y (by omega)
          have cz := HLa.out.at x y (by omega) (by omega)
          have fz : (wr.alloc (.cells #[.int .i64 (x : Int), .int .i64 (y : Int)] 23)).frozen? ⟨B, 1 + x * 8 + y, none⟩ = false := block_free HLa.out
          have hx8 : (x : Int) < 8 := by omega
          have hy8 : (y : Int) < 8 := by omega
          have hLn := Lib.hid (isL_set HLa.out x y (by omega) (by omega))
          rw [Int.toNat_natCast, Int.toNat_natCast] at hins
          rw [← hins.out] at hLn
          generalize insK ps k x y = old at *
          generalize wr.alloc (.cells #[.int .i64 (x : Int), .int .i64 (y : Int)] 23) = w5 at *
          have hbn : Below B w (w5.setCell ⟨B, 1 + x * 8 + y, none⟩ (.bool true)).drew := (hba.setCell (by exact Nat.le_refl _) _).drew
          have hLd : Hid (IsL (w5.setCell ⟨B, 1 + x * 8 + y, none⟩ (.bool true)).drew B n (insK ps (k + 1))) := hLn.out
          have HBN := Lib.hid hbn
          clear A1 A2 HLa hins hLn hbn hpr hx hy
          go_still_tail 9, (by kernel_rfl)
          change wpList _ _ _ _ _ w5.drew
          go_wp2
          first
            | exact ⟨⟨k + 1, by omega, by go_num, hLd.out, HBN.out, hnext⟩, by simp [intOf]; omega⟩
            | (refine ⟨?_, by simp [intOf]; omega⟩; repeat apply Exists.intro; exact ⟨⟨k + 1, by omega, by go_num, hLd.out, HBN.out, hnext⟩, rfl⟩)
    · have hkM : k = M := by omega
      subst hkM
      have hall : ps.all (okP n) = true := all_okP fun j hj => hf.out j (by rw [HM.out]; exact hj)
      have hL1 : IsL wr B n (newF ps) := by unfold newF; rw [← HM.out]; exact hL
      have FR := Lib.hid (frest.out hall)
      have HE := Lib.hid (fE.out hall)
      clear f41 frest fE hf hL
      have hr := hL1.all
      have T := Lib.hid (fun w => closed_any (newF ps) w)
      have hBw := hL1.lt
      obtain ⟨C, hC⟩ : ∃ C, C = cellsF (newF ps) := ⟨_, rfl⟩
      obtain ⟨D, hD⟩ : ∃ D, D = cellsF (clo (newF ps)) := ⟨_, rfl⟩
      rw [← hC, ← hD] at T
      rw [← hC] at hr
      have hwD : wholeC 64 D = true := by rw [hD]; exact wholeF _
      have HD := Lib.hid hD
      have HL1 := Lib.hid hL1
      clear hC hD hL1 hall
      go_wp2_with fail
      (with_reducible refine (T.out _).mono ?_)
      rintro e w2 ⟨rfl, c2⟩
      have hL2 := HL1.out.below c2 hBw
      have hB2 : Below B w w2 := hb.trans (c2.mono (by omega))
      have hrm : roomAt w2.heap B 1 64 = true := roomAt_of hL2 (by rw [latC_size]; omega)
      have hL3 : IsL (w2.setCells B 1 D.toList) B n (newG ps) := by rw [HD.out]; exact isL_all hL2 _
      have hB3 : Below B w (w2.setCells B 1 D.toList) := below_setCells _ _ _ _ hB2 (Nat.le_refl _)
      have A1 := Lib.hid (loops_any B n (newG ps) _ h8 hL3)
      have A2 := Lib.hid (joined_any B n (newG ps) _ h8 hL3)
      have HL3 := Lib.hid hL3
      clear hL2 hL3 hr
      cases hlp : loopB n (newG ps) with
      | true =>
        have FF := Lib.hid (FR.out · · 42 (by rw [HE.out, if_pos hlp]) (by decide))
        go_wp2_with (first
          | (go_at_call 34; (with_reducible refine (A1.out).mono ?_); rintro e w' ⟨rfl, rfl⟩))
        exact FF.out _ _ rfl hB3
      | false =>
        cases hjn : joinB n (newG ps) with
        | false =>
          have FF := Lib.hid (FR.out · · 43 (by rw [HE.out, if_neg (by rw [hlp]; decide), if_pos hjn]) (by decide))
          go_wp2_with (first
            | (go_at_call 34; (with_reducible refine (A1.out).mono ?_); rintro e w' ⟨rfl, rfl⟩)
            | (go_at_call 35; (with_reducible refine (A2.out).mono ?_); rintro e w4 ⟨rfl, c4⟩))
          exact FF.out _ _ rfl (hB3.trans (c4.mono (Nat.le_of_lt HL3.out.lt)))
        | true =>
          have FF := Lib.hid (fok.out · · (by rw [HE.out, if_neg (by rw [hlp]; decide), if_neg (by rw [hjn]; decide)]))
          have hlt3 := HL3.out.lt
          go_wp2_with (first
            | (go_at_call 34; (with_reducible refine (A1.out).mono ?_); rintro e w' ⟨rfl, rfl⟩)
            | (go_at_call 35; (with_reducible refine (A2.out).mono ?_); rintro e w4 ⟨rfl, c4⟩))
          exact FF.out _ _ rfl (hB3.trans (c4.mono (Nat.le_of_lt hlt3))) (HL3.out.below c4 hlt3)
end Go.Proofs.Ytbkpfiagoinoiaa
