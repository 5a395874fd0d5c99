/- A text gone over by a machine: is it in the language, the longest from a place on: what the calls return; nothing that was there turns. Conditions: the machine lies in memory. -/
import Derived.Test.YtdmajbdgjjmlkaaStp
namespace Go.Proofs.Ytdmajbdgjjmlkaa
open Go.RowKit
set_option linter.unusedVariables false
set_option linter.unusedSimpArgs false

/-- a machine as it may be -/
structure Mok (M : Mac) : Prop where
  ok : OkS M.sts
  lo : Lo M.sts
  len : M.sts.length ≤ 257
  pos : 0 < M.sts.length
  beg : M.beg < topN
theorem IsM.begs {n0 p : Nat} {M : Mac} {w : World} (h : IsM n0 p M w) : w.cell? ⟨p, 1, none⟩ = some (.int .u64 (pw M.beg 0 : Nat)) ∧ w.cell? ⟨p, 2, none⟩ = some (.int .u64 (pw M.beg 1 : Nat)) ∧ w.cell? ⟨p, 3, none⟩ = some (.int .u64 (pw M.beg 2 : Nat)) ∧ w.cell? ⟨p, 4, none⟩ = some (.int .u64 (pw M.beg 3 : Nat)) ∧ w.cell? ⟨p, 5, none⟩ = some (.int .u64 (pw M.beg 4 : Nat)) := by
  obtain ⟨_, v, hc, _⟩ := h
  exact ⟨cell_at hc rfl, cell_at hc rfl, cell_at hc rfl, cell_at hc rfl, cell_at hc rfl⟩
def hasP (P i : Nat) : Bool := P.testBit i
theorem phas0 (P : Nat) (w : World) : Calls Try.prog 35 #[.agg (plc P), .int .i64 0] w fun e w' => e = .returned (.bool (hasP P 0)) ∧ Below w.heap.size w w' := phas_any P 0 (by omega) w
set_option maxHeartbeats 1000000 in
theorem nothing_any (n0 p : Nat) (M : Mac) (w : World) (h : IsM n0 p M w) : Calls Try.prog 15 #[.pointer (some ⟨p, 0, none⟩)] w fun e w' => e = .returned (.bool (M.is [])) ∧ Below w.heap.size w w' := by
  obtain ⟨b1, b2, b3, b4, b5⟩ := h.begs
  have HAS := Lib.hid (phas0 M.beg)
  unfold plc at HAS
  have e : M.is [] = hasP M.beg 0 := rfl
  rw [e]
  clear e h
  go_enter Try.func15, Try.ntmps15
  go_wp2_with (go_at_call 35; (with_reducible refine (HAS.out _).mono ?_); rintro e w1 ⟨rfl, hb1⟩)
  go_ret
  exact ⟨rfl, hb1⟩
set_option maxRecDepth 100000 in
set_option maxHeartbeats 4000000 in
theorem is_any (n0 p : Nat) (M : Mac) (w : World) (h : IsM n0 p M w) (hM : Mok M) (s : ByteArray) : Calls Try.prog 14 #[.pointer (some ⟨p, 0, none⟩), .string s] w fun e w' => e = .returned (if 256 < s.size then .tuple #[.bool false, .int .i64 60] else .tuple #[.bool (M.is s.data.toList), .int .i64 0]) ∧ Below w.heap.size w w' := by
  by_cases hs : 256 < s.size
  · rw [if_pos hs]
    have hsi : (256 : Int) < (s.size : Int) := by omega
    clear h hM hs
    go_enter Try.func14, Try.ntmps14
    go_wp2
    exact bodyPost_ret (by simp [results, Try.results14, go_sem]) rfl ⟨rfl, Below.refl _ _⟩
  · rw [if_neg hs]
    have hsi : ¬ (256 : Int) < (s.size : Int) := by omega
    obtain ⟨X, hX⟩ : ∃ X, X = w.heap.size := ⟨_, rfl⟩
    have hzz : w.heap.size = X := hX.symm
    obtain ⟨b1, b2, b3, b4, b5⟩ := h.begs
    have hpX : p < X := by rw [hX]; exact h.lt
    have hst := fun w1 (hb : Below w.heap.size w w1) now b => step_any n0 p M w1 (h.of_below hb) hM.ok hM.len hM.pos now b
    rw [hzz] at hst ⊢
    have STP := Lib.hid hst
    have H0 : Hid (∀ P, (w.alloc (.cells (plc P) 57)).heap[X]? = some (.cells (plc P) 57 (0, 0)) ∧ Below X w (w.alloc (.cells (plc P) 57))) := Lib.hid fun P => by
      rw [hX]; exact ⟨heap_alloc_new w _, below_new w _⟩
    obtain ⟨T, hT⟩ : ∃ T, T = M.is s.data.toList := ⟨_, rfl⟩
    rw [← hT]
    have HT := Lib.hid hT
    have HAS := Lib.hid phas0
    have hlen : s.data.toList.length = s.size := Array.length_toList
    have HL := Lib.hid hlen
    unfold plc at STP HAS
    clear h hM hs hst hX hT hlen
    go_enter Try.func14, Try.ntmps14
    go_wp2
    go_loopw [17] (fun i wr => ∃ j now : Nat, j ≤ s.size ∧ i = .int .i64 (j : Nat) ∧ wr.heap[X]? = some (.cells (plc now) 57 (0, 0)) ∧ Below X w wr ∧ Hid (hasP (M.run now (s.data.toList.drop j)) 0 = T)) (fun i _ => s.size - (intOf i).toNat)
    case atStart => exact ⟨0, M.beg, Nat.zero_le _, rfl, (H0.out M.beg).1, (H0.out M.beg).2, Lib.hid HT.out.symm⟩
    case round =>
      obtain ⟨j, now, hj, rfl, hx, hbl, hT⟩ := hrel
      obtain ⟨a0, a1, a2, a3, a4, af⟩ := plc_at hx
      by_cases hlt : j < s.size
      · have hji : (j : Int) < (s.size : Int) := by omega
        have hlt' : j < s.data.toList.length := by rw [HL.out]; exact hlt
        have hd := List.drop_eq_getElem_cons hlt'
        have hc : s.data.toList[j] = s[j] := rfl
        have hT2 : Hid (hasP (M.run (M.step now s[j]) (s.data.toList.drop (j + 1))) 0 = T) := Lib.hid (by rw [← hT.out, hd, Mac.run, hc])
        have SJ := Lib.hid (STP.out wr.drew hbl.drew now s[j])
        generalize M.step now s[j] = nxt at *
        have HX := Lib.hid hx
        have HB := Lib.hid hbl
        have HJ := Lib.hid (And.intro hj hlt)
        have k0 : wr.drew.cell? ⟨X, 0, none⟩ = some (.int .u64 (pw now 0 : Nat)) := a0
        have k1 : wr.drew.cell? ⟨X, 1, none⟩ = some (.int .u64 (pw now 1 : Nat)) := a1
        have k2 : wr.drew.cell? ⟨X, 2, none⟩ = some (.int .u64 (pw now 2 : Nat)) := a2
        have k3 : wr.drew.cell? ⟨X, 3, none⟩ = some (.int .u64 (pw now 3 : Nat)) := a3
        have k4 : wr.drew.cell? ⟨X, 4, none⟩ = some (.int .u64 (pw now 4 : Nat)) := a4
        clear hx hbl hT hd hc hj af a0 a1 a2 a3 a4
        go_wp2
        go_region_with (go_at_call 34; (with_reducible refine SJ.out.mono ?_); rintro e w1 ⟨rfl, hb1⟩; have x1 := (hb1.block _ (block_lt' HX.out)).trans HX.out; obtain ⟨d0, d1, d2, d3, d4, df⟩ := plc_at x1)
        all_goals
          go_wp2
          exact ⟨⟨j + 1, nxt, HJ.out.2, by go_num, put5_row x1, put5_below (HB.out.drew.trans (hb1.mono (by have := HB.out.size; show X ≤ wr.heap.size; omega))) (Nat.le_refl _), hT2⟩, by simp [intOf]; omega⟩
      · have hjl : j = s.size := by omega
        subst hjl
        have hfin : Hid (hasP now 0 = T) := Lib.hid (by rw [← hT.out, ← HL.out, List.drop_length, Mac.run])
        clear hx hT
        go_wp2_with (go_at_call 35; (with_reducible refine (HAS.out _ _).mono ?_); rintro e w1 ⟨rfl, hb1⟩)
        exact bodyPost_ret (by simp [results, Try.results14, go_sem]; rfl) rfl ⟨by rw [hfin.out], hbl.trans (hb1.mono (by have := hbl.size; omega))⟩
noncomputable def neq57 (x y : Value) : Sem Value := binOp .neq 57 x y
theorem neq57_pre (x y : Value) : binOp .neq 57 x y = neq57 x y := rfl
theorem neq57_run0 (P : Nat) (hP : P < topN) (w : World) : (neq57 (.agg #[.int .u64 (pw P 0 : Nat), .int .u64 (pw P 1 : Nat), .int .u64 (pw P 2 : Nat), .int .u64 (pw P 3 : Nat), .int .u64 (pw P 4 : Nat)]) (.agg #[.int .u64 0, .int .u64 0, .int .u64 0, .int .u64 0, .int .u64 0])).run Try.prog w = .ok (.bool (!decide (P = 0))) w := by
  have := run_neq57 hP (Q := 0) topN_pos w
  rw [plc_zero] at this
  exact this
theorem neq57_run (P Q : Nat) (hP : P < topN) (hQ : Q < topN) (w : World) : (neq57 (.agg #[.int .u64 (pw P 0 : Nat), .int .u64 (pw P 1 : Nat), .int .u64 (pw P 2 : Nat), .int .u64 (pw P 3 : Nat), .int .u64 (pw P 4 : Nat)]) (.agg #[.int .u64 (pw Q 0 : Nat), .int .u64 (pw Q 1 : Nat), .int .u64 (pw Q 2 : Nat), .int .u64 (pw Q 3 : Nat), .int .u64 (pw Q 4 : Nat)])).run Try.prog w = .ok (.bool (!decide (P = Q))) w := run_neq57 hP hQ w
attribute [local go_sem ↓] neq57_pre
attribute [local go_sem] neq57_run0
theorem Mok.step_lt {M : Mac} (h : Mok M) (now : Nat) (b : UInt8) : M.step now b < topN := stepS_lt now b _ _ _ h.lo topN_pos
set_option maxRecDepth 100000 in
set_option maxHeartbeats 4000000 in
theorem lon_any (n0 p : Nat) (M : Mac) (w : World) (h : IsM n0 p M w) (hM : Mok M) (s : ByteArray) (at_ : Nat) (hat : at_ ≤ s.size) (hsz : s.size ≤ 256) : Calls Try.prog 39 #[.pointer (some ⟨p, 0, none⟩), .string s, .int .i64 (at_ : Nat)] w fun e w' => e = .returned (.int .i64 (M.lon (s.data.toList.drop at_) at_ at_ M.beg : Nat)) ∧ Below w.heap.size w w' := by
  obtain ⟨X, hX⟩ : ∃ X, X = w.heap.size := ⟨_, rfl⟩
  have hzz : w.heap.size = X := hX.symm
  obtain ⟨b1, b2, b3, b4, b5⟩ := h.begs
  have c1 : w.drew.cell? ⟨p, 1, none⟩ = some (.int .u64 (pw M.beg 0 : Nat)) := b1
  have c2 : w.drew.cell? ⟨p, 2, none⟩ = some (.int .u64 (pw M.beg 1 : Nat)) := b2
  have c3 : w.drew.cell? ⟨p, 3, none⟩ = some (.int .u64 (pw M.beg 2 : Nat)) := b3
  have c4 : w.drew.cell? ⟨p, 4, none⟩ = some (.int .u64 (pw M.beg 3 : Nat)) := b4
  have c5 : w.drew.cell? ⟨p, 5, none⟩ = some (.int .u64 (pw M.beg 4 : Nat)) := b5
  have hpX : p < X := by rw [hX]; exact h.lt
  have hst := fun w1 (hb : Below w.heap.size w w1) now b => step_any n0 p M w1 (h.of_below hb) hM.ok hM.len hM.pos now b
  rw [hzz] at hst ⊢
  have STP := Lib.hid hst
  have H0 : Hid (∀ P, (w.alloc (.cells (plc P) 57)).drew.heap[X]? = some (.cells (plc P) 57 (0, 0)) ∧ Below X w (w.alloc (.cells (plc P) 57)).drew) := Lib.hid fun P => by
    rw [hX]; exact ⟨heap_alloc_new w _, (below_new w _).drew⟩
  obtain ⟨T, hT⟩ : ∃ T, T = M.lon (s.data.toList.drop at_) at_ at_ M.beg := ⟨_, rfl⟩
  rw [← hT]
  have HT := Lib.hid hT
  have HAS := Lib.hid phas0
  have HL : Hid (s.data.toList.length = s.size) := Lib.hid Array.length_toList
  have HM := Lib.hid hM
  have hsi : (s.size : Int) ≤ 256 := by omega
  have hai : (at_ : Int) ≤ 256 := by omega
  have HA := Lib.hid hat
  unfold plc at STP HAS
  clear h hM hst hX hT hat hsz
  go_enter Try.func39, Try.ntmps39
  go_wp2
  go_region
  go_wp2
  go_loopw [7, 9] (fun u i wr => ∃ j past now : Nat, at_ ≤ j ∧ j ≤ s.size ∧ past ≤ 256 ∧ now < topN ∧ i = .int .i64 (j : Nat) ∧ u = .int .i64 (past : Nat) ∧ wr.heap[X]? = some (.cells (plc now) 57 (0, 0)) ∧ Below X w wr ∧ Hid (M.lon (s.data.toList.drop j) j past now = T)) (fun _ i _ => s.size - (intOf i).toNat)
  case atStart => exact ⟨at_, at_, M.beg, Nat.le_refl _, HA.out, by omega, HM.out.beg, rfl, rfl, (H0.out M.beg).1, (H0.out M.beg).2, Lib.hid HT.out.symm⟩
  case round =>
    obtain ⟨j, past, now, hja, hj, hp, hnow, rfl, rfl, hx, hbl, hT⟩ := hrel
    obtain ⟨a0, a1, a2, a3, a4, af⟩ := plc_at hx
    by_cases hlt : j < s.size
    · have hji : (j : Int) < (s.size : Int) := by omega
      have hlt' : j < s.data.toList.length := by rw [HL.out]; exact hlt
      have hd := List.drop_eq_getElem_cons hlt'
      by_cases h0 : now = 0
      · subst h0
        have hfin : Hid (past = T) := Lib.hid (by rw [← hT.out, hd, Mac.lon, if_pos rfl])
        have HB := Lib.hid hbl
        clear hx hbl hT hd hlt' hj hja hp
        go_wp2
        go_ret
        exact ⟨by rw [hfin.out]; rfl, HB.out⟩
      · have hd0 : decide (now = 0) = false := decide_eq_false h0
        have hc : s.data.toList[j] = s[j] := rfl
        have hT2 : M.lon (s.data.toList.drop (j + 1)) (j + 1) (if hasP (M.step now s[j]) 0 = true then j + 1 else past) (M.step now s[j]) = T := by
          rw [← hT.out, hd, Mac.lon, if_neg h0, hc]; rfl
        have SJ := Lib.hid (STP.out wr.drew hbl.drew now s[j])
        have hnx := Mok.step_lt HM.out now s[j]
        generalize M.step now s[j] = nxt at *
        have HX := Lib.hid hx
        have HB := Lib.hid hbl
        have HJ := Lib.hid (And.intro hj (And.intro hlt (And.intro hja hp)))
        have HN := Lib.hid hnx
        have k0 : wr.drew.cell? ⟨X, 0, none⟩ = some (.int .u64 (pw now 0 : Nat)) := a0
        have k1 : wr.drew.cell? ⟨X, 1, none⟩ = some (.int .u64 (pw now 1 : Nat)) := a1
        have k2 : wr.drew.cell? ⟨X, 2, none⟩ = some (.int .u64 (pw now 2 : Nat)) := a2
        have k3 : wr.drew.cell? ⟨X, 3, none⟩ = some (.int .u64 (pw now 3 : Nat)) := a3
        have k4 : wr.drew.cell? ⟨X, 4, none⟩ = some (.int .u64 (pw now 4 : Nat)) := a4
        have HS := Lib.hid (HAS.out nxt)
        cases hb : hasP nxt 0 with
        | true =>
          rw [hb, if_pos rfl] at hT2
          rw [hb] at HS
          have HT2 := Lib.hid hT2
          clear hx hbl hT hd hc hj af hT2 hb hnx hja hp
          go_wp2
          go_region_with (go_at_call 34; (with_reducible refine SJ.out.mono ?_); rintro e w1 ⟨rfl, hb1⟩; have x1 := (hb1.block _ (block_lt' HX.out)).trans HX.out; obtain ⟨d0, d1, d2, d3, d4, df⟩ := plc_at x1)
          all_goals
            obtain ⟨W5, hW5⟩ : ∃ W5, W5 = put5 w1 X nxt := ⟨_, rfl⟩
            have hW5' := hW5
            unfold put5 at hW5'
            rw [← hW5']
            have x5 : W5.heap[X]? = some (.cells (plc nxt) 57 (0, 0)) := by rw [hW5]; exact put5_row x1
            have B5 : Hid (Below X w W5) := Lib.hid (by rw [hW5]; exact put5_below (HB.out.drew.trans (hb1.mono (by have := HB.out.size; show X ≤ wr.heap.size; omega))) (Nat.le_refl _))
            obtain ⟨z0, z1, z2, z3, z4, zf⟩ := plc_at x5
            have X5 := Lib.hid x5
            clear hW5 hW5' x5 x1 d0 d1 d2 d3 d4 df a0 a1 a2 a3 a4 k0 k1 k2 k3 k4
            go_wp2_with (go_at_call 35; (with_reducible refine (HS.out _).mono ?_); rintro e w6 ⟨rfl, hb6⟩)
            have B6 : Below X w w6 := B5.out.trans (hb6.mono (by have := B5.out.size; omega))
            exact ⟨⟨j + 1, j + 1, nxt, by have := HJ.out; omega, HJ.out.2.1, by have := HJ.out; omega, HN.out, by go_num, by go_num, (hb6.block _ (block_lt' X5.out)).trans X5.out, B6, HT2⟩, by simp [intOf]; omega⟩
        | false =>
          rw [hb, if_neg (by decide)] at hT2
          rw [hb] at HS
          have HT2 := Lib.hid hT2
          clear hx hbl hT hd hc hj af hT2 hb hnx hja hp
          go_wp2
          go_region_with (go_at_call 34; (with_reducible refine SJ.out.mono ?_); rintro e w1 ⟨rfl, hb1⟩; have x1 := (hb1.block _ (block_lt' HX.out)).trans HX.out; obtain ⟨d0, d1, d2, d3, d4, df⟩ := plc_at x1)
          all_goals
            obtain ⟨W5, hW5⟩ : ∃ W5, W5 = put5 w1 X nxt := ⟨_, rfl⟩
            have hW5' := hW5
            unfold put5 at hW5'
            rw [← hW5']
            have x5 : W5.heap[X]? = some (.cells (plc nxt) 57 (0, 0)) := by rw [hW5]; exact put5_row x1
            have B5 : Hid (Below X w W5) := Lib.hid (by rw [hW5]; exact put5_below (HB.out.drew.trans (hb1.mono (by have := HB.out.size; show X ≤ wr.heap.size; omega))) (Nat.le_refl _))
            obtain ⟨z0, z1, z2, z3, z4, zf⟩ := plc_at x5
            have X5 := Lib.hid x5
            clear hW5 hW5' x5 x1 d0 d1 d2 d3 d4 df a0 a1 a2 a3 a4 k0 k1 k2 k3 k4
            go_wp2_with (go_at_call 35; (with_reducible refine (HS.out _).mono ?_); rintro e w6 ⟨rfl, hb6⟩)
            have B6 : Below X w w6 := B5.out.trans (hb6.mono (by have := B5.out.size; omega))
            exact ⟨⟨j + 1, past, nxt, by have := HJ.out; omega, HJ.out.2.1, by have := HJ.out; omega, HN.out, by go_num, by go_num, (hb6.block _ (block_lt' X5.out)).trans X5.out, B6, HT2⟩, by simp [intOf]; omega⟩
    · have hjl : j = s.size := by omega
      subst hjl
      have hfin : Hid (past = T) := Lib.hid (by rw [← hT.out, ← HL.out, List.drop_length, Mac.lon])
      have HB := Lib.hid hbl
      clear hx hT hbl hj hja hp
      go_wp2
      go_ret
      exact ⟨by rw [hfin.out]; rfl, HB.out⟩
end Go.Proofs.Ytdmajbdgjjmlkaa
