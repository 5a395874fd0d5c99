/- Where a machine may be behind one more byte: what the call returns; nothing that was there turns. Conditions: the machine lies in memory. -/
import Derived.Test.YtdmajbdgjjmlkaaMch3
namespace Go.Proofs.Ytdmajbdgjjmlkaa
open Go.RowKit
set_option linter.unusedVariables false
set_option linter.unusedSimpArgs false

def OkS (L : List Sta) : Prop := ∀ x ∈ L, x.ok
theorem add0 (g k : Nat) : (⟨g, 0, none⟩ : Addr).add k = ⟨g, k, none⟩ := by unfold Addr.add; split <;> simp_all
/-- the row of a machine, as the walks ask for it -/
theorem IsM.open_ {n0 p : Nat} {M : Mac} {w : World} (h : IsM n0 p M w) (h0 : 0 < M.sts.length) : ∃ g cap, w.heap[p]? = some (.cells #[.slice (some ⟨g, 0, none⟩) M.sts.length cap, .int .u64 (pw M.beg 0 : Nat), .int .u64 (pw M.beg 1 : Nat), .int .u64 (pw M.beg 2 : Nat), .int .u64 (pw M.beg 3 : Nat), .int .u64 (pw M.beg 4 : Nat)] 62 (0, 0)) ∧ g < w.heap.size ∧
    ∀ j x, M.sts[j]? = some x → StaAt w g (j * 9) x := by
  obtain ⟨_, v, hc, ho⟩ := h
  rcases ho.2 with ⟨rfl, h2⟩ | ⟨g, cap, cur, rfl, hb, hg, h3⟩
  · omega
  · refine ⟨g, cap, hc, block_lt' hg, fun j x hx k u hu => ?_⟩
    have := ho.cells (g := g) rfl _ _ (stasV_at _ j x hx k u hu)
    rw [add0] at this
    exact this
theorem StaAt.below {w w' : World} {g o : Nat} {x : Sta} (h : StaAt w g o x) (hg : g < w.heap.size) (hb : Below w.heap.size w w') : StaAt w' g o x := fun j u hu => by
  rw [hb.cell (p := ⟨g, o + j, none⟩) hg]; exact h j u hu
theorem plc_at {w : World} {X : Nat} {P : Nat} {t : TypeId} (h : w.heap[X]? = some (.cells (plc P) t (0, 0))) :
    w.cell? ⟨X, 0, none⟩ = some (.int .u64 (pw P 0 : Nat)) ∧ w.cell? ⟨X, 1, none⟩ = some (.int .u64 (pw P 1 : Nat)) ∧ w.cell? ⟨X, 2, none⟩ = some (.int .u64 (pw P 2 : Nat)) ∧ w.cell? ⟨X, 3, none⟩ = some (.int .u64 (pw P 3 : Nat)) ∧ w.cell? ⟨X, 4, none⟩ = some (.int .u64 (pw P 4 : Nat)) ∧ ∀ o, w.frozen? ⟨X, o, none⟩ = false :=
  ⟨cell_at h rfl, cell_at h rfl, cell_at h rfl, cell_at h rfl, cell_at h rfl, fun o => free_at h⟩
def put5 (w : World) (X P : Nat) : World := ((((w.setCell ⟨X, 0, none⟩ (.int .u64 (pw P 0 : Nat))).setCell ⟨X, 1, none⟩ (.int .u64 (pw P 1 : Nat))).setCell ⟨X, 2, none⟩ (.int .u64 (pw P 2 : Nat))).setCell ⟨X, 3, none⟩ (.int .u64 (pw P 3 : Nat))).setCell ⟨X, 4, none⟩ (.int .u64 (pw P 4 : Nat))
theorem put5_row {w : World} {X P Q : Nat} {t : TypeId} (h : w.heap[X]? = some (.cells (plc Q) t (0, 0))) : (put5 w X P).heap[X]? = some (.cells (plc P) t (0, 0)) := set5 h _ _ _ _ _
theorem put5_other {w : World} {X P k : Nat} (h : k ≠ X) : (put5 w X P).heap[k]? = w.heap[k]? := by
  unfold put5
  rw [heap_setCell_other _ _ _ _ h, heap_setCell_other _ _ _ _ h, heap_setCell_other _ _ _ _ h, heap_setCell_other _ _ _ _ h, heap_setCell_other _ _ _ _ h]
theorem put5_below {n : Nat} {w0 w : World} {X P : Nat} (h : Below n w0 w) (hg : n ≤ X) : Below n w0 (put5 w X P) := below5 h hg _ _ _ _ _
theorem put5_size {w : World} {X P : Nat} : (put5 w X P).heap.size = w.heap.size := by unfold put5; simp
set_option maxRecDepth 100000 in
set_option maxHeartbeats 4000000 in
theorem step_any (n0 p : Nat) (M : Mac) (w : World) (h : IsM n0 p M w) (hok : OkS M.sts) (hlen : M.sts.length ≤ 257) (h0 : 0 < M.sts.length) (now : Nat) (b : UInt8) :
    Calls Try.prog 34 #[.pointer (some ⟨p, 0, none⟩), .agg (plc now), .int .u8 (b.toNat : Nat)] w fun e w' => e = .returned (.agg (plc (M.step now b))) ∧ Below w.heap.size w w' := by
  obtain ⟨X, hX⟩ : ∃ X, X = w.heap.size := ⟨_, rfl⟩
  have hzz : w.heap.size = X := hX.symm
  obtain ⟨g, cap, hc, hg, hst⟩ := h.open_ h0
  have hpX : p < X := by rw [hX]; exact block_lt' hc
  have hgX : g < X := by rw [hX]; exact hg
  have st0 : ∀ o2 o3, (((w.alloc (.cells (plc now) 57)).alloc o2).alloc o3).heap[X]? = some (.cells (plc now) 57 (0, 0)) ∧ (((w.alloc (.cells (plc now) 57)).alloc o2).alloc o3).heap[X + 1]? = some o2 ∧ (((w.alloc (.cells (plc now) 57)).alloc o2).alloc o3).heap[X + 1 + 1]? = some o3 ∧ Below X w (((w.alloc (.cells (plc now) 57)).alloc o2).alloc o3) := fun o2 o3 => by
    have e1 := heap_alloc_new w (.cells (plc now) 57)
    have e2 := heap_alloc_new (w.alloc (.cells (plc now) 57)) o2
    have e3 := heap_alloc_new ((w.alloc (.cells (plc now) 57)).alloc o2) o3
    have s2 : (w.alloc (.cells (plc now) 57)).heap.size = X + 1 := by rw [hX]; simp
    have s3 : ((w.alloc (.cells (plc now) 57)).alloc o2).heap.size = X + 1 + 1 := by rw [hX]; simp
    rw [s2] at e2
    rw [s3] at e3
    refine ⟨?_, ?_, e3, ?_⟩
    · rw [Below.heap_alloc _ o3 X (by rw [s3]; omega), Below.heap_alloc _ _ X (by rw [s2]; omega), hX]; exact e1
    · rw [Below.heap_alloc _ o3 (X + 1) (by rw [s3]; omega)]; exact e2
    · rw [hX]; exact below_trans (below_new w _) (below_trans (below_new _ _) (below_new _ _))
  have HAS := Lib.hid (fun i (hi : i < 320) w => phas_any now i hi w)
  have OR := Lib.hid por_any
  unfold plc at HAS OR
  have RD := Lib.hid (fun w o x hk hs => reads_any w g o x b hk hs)
  unfold Mac.step
  obtain ⟨L, beg⟩ := M
  dsimp only at *
  obtain ⟨T, hT⟩ : ∃ T, T = stepS now b L 0 0 := ⟨_, rfl⟩
  rw [← hT]
  have c0 : Hid (∀ wr, Below X w wr → wr.cell? ⟨p, 0, none⟩ = some (.slice (some ⟨g, 0, none⟩) L.length cap)) := Lib.hid fun wr hb => by
    rw [hb.cell (p := ⟨p, 0, none⟩) hpX]; exact cell_at hc rfl
  have HST : Hid (∀ wr j x, Below X w wr → L[j]? = some x → StaAt wr g (j * 9) x) := Lib.hid fun wr j x hb hx k u hu => by
    rw [hb.cell (p := ⟨g, j * 9 + k, none⟩) hgX]; exact hst j x hx k u hu
  have HP := Lib.hid (And.intro hok (And.intro hlen (And.intro hpX hgX)))
  have ST0 := Lib.hid st0
  have hLi : (L.length : Int) ≤ 257 := by omega
  have HT : Hid (stepS now b L 0 0 = T) := Lib.hid hT.symm
  have c00 : w.cell? ⟨p, 0, none⟩ = some (.slice (some ⟨g, 0, none⟩) L.length cap) := cell_at hc rfl
  rw [hzz]
  generalize b.toNat = bn at *
  clear h hok hlen h0 hX hc hg hst hgX st0 hT
  have k0 := c0.out _ (ST0.out (.cells #[.int .u64 0, .int .u64 0, .int .u64 0, .int .u64 0, .int .u64 0] 57) (.cells #[.int .u64 0, .int .u64 0, .int .u64 0, .int .u64 0, .int .u64 0] 57)).2.2.2
  go_enter Try.func34, Try.ntmps34
  go_wp2
  go_loopw [14] (fun i wr => ∃ j acc : Nat, j ≤ L.length ∧ i = .int .i64 (j : Nat) ∧ wr.heap[X]? = some (.cells (plc now) 57 (0, 0)) ∧ wr.heap[X + 1]? = some (.cells #[.int .u64 0, .int .u64 0, .int .u64 0, .int .u64 0, .int .u64 0] 57 (0, 0)) ∧ wr.heap[X + 1 + 1]? = some (.cells (plc acc) 57 (0, 0)) ∧ Below X w wr ∧ Hid (stepS now b (L.drop j) j acc = T)) (fun i _ => L.length - (intOf i).toNat)
  case atStart =>
    obtain ⟨a1, a2, a3, a4⟩ := ST0.out (.cells #[.int .u64 0, .int .u64 0, .int .u64 0, .int .u64 0, .int .u64 0] 57) (.cells #[.int .u64 0, .int .u64 0, .int .u64 0, .int .u64 0, .int .u64 0] 57)
    exact ⟨0, 0, Nat.zero_le _, rfl, a1, a2, by rw [plc_zero]; exact a3, a4, HT⟩
  case round =>
    obtain ⟨j, acc, hj, rfl, hx, hy, hz, hbl, hT⟩ := hrel
    have c0r := c0.out _ hbl
    have HBL := Lib.hid hbl
    have NX : Hid (∀ w1, Below wr.heap.size wr w1 → w1.heap[X]? = some (.cells (plc now) 57 (0, 0)) ∧ w1.heap[X + 1]? = some (.cells #[.int .u64 0, .int .u64 0, .int .u64 0, .int .u64 0, .int .u64 0] 57 (0, 0)) ∧ w1.heap[X + 1 + 1]? = some (.cells (plc acc) 57 (0, 0)) ∧ Below X w w1) := Lib.hid fun w1 hb =>
      ⟨(hb.block _ (block_lt' hx)).trans hx, (hb.block _ (block_lt' hy)).trans hy, (hb.block _ (block_lt' hz)).trans hz, hbl.trans (hb.mono (by have := hbl.size; omega))⟩
    by_cases hlt : j < L.length
    · have hji : (j : Int) < (L.length : Int) := by omega
      have hxj : L[j]? = some L[j] := List.getElem?_eq_getElem hlt
      have hd := List.drop_eq_getElem_cons hlt
      have hokx : Hid (L[j].ok) := Lib.hid (HP.out.1 _ (List.getElem_mem hlt))
      generalize L[j] = x at *
      have hs2 : stepS now b (L.drop (j + 1)) (j + 1) (if now.testBit j && x.reads b then acc ||| x.nx else acc) = T := by
        rw [← hT.out, hd, stepS]
      have hj320 : j < 320 := by have := HP.out.2.1; omega
      obtain ⟨a0, a1, a2, a3, a4, af⟩ := plc_at hx
      have HA := Lib.hid (HAS.out j hj320)
      have HXJ := Lib.hid hxj
      have HLT := Lib.hid hlt
      have HJ := Lib.hid hj
      clear hxj hd hT hj hlt hx hy hz hbl hj320 af
      cases hb1 : now.testBit j with
      | false =>
        rw [hb1] at HA hs2
        have HS2 : Hid (stepS now b (L.drop (j + 1)) (j + 1) acc = T) := Lib.hid hs2
        clear hs2 hb1
        go_wp2_with (go_at_call 35; (with_reducible refine (HA.out _).mono ?_); rintro e w1 ⟨rfl, hb1⟩; obtain ⟨x1, y1, z1, bl1⟩ := NX.out _ hb1)
        exact ⟨⟨j + 1, acc, HLT.out, by go_num, x1, y1, z1, bl1, HS2⟩, by simp [intOf]; omega⟩
      | true =>
        rw [hb1] at HA hs2
        cases hr : x.reads b with
        | false =>
          have RJ : Hid (∀ w1, Below X w w1 → Calls Try.prog 48 #[.pointer (some ⟨g, j * 9, none⟩), .int .u8 (bn : Nat)] w1 fun e w' => e = .returned (.bool false) ∧ w' = w1) := Lib.hid fun w1 hb => by
            have := RD.out w1 (j * 9) x hokx.out (HST.out w1 j x hb HXJ.out)
            rwa [hr] at this
          rw [hr] at hs2
          have HS2 : Hid (stepS now b (L.drop (j + 1)) (j + 1) acc = T) := Lib.hid hs2
          clear hs2 hb1 hr
          go_wp2_with (first
            | (go_at_call 35; (with_reducible refine (HA.out _).mono ?_); rintro e w1 ⟨rfl, hb1⟩; obtain ⟨x1, y1, z1, bl1⟩ := NX.out _ hb1; have c1 := c0.out _ bl1)
            | (go_at_call 48; (with_reducible refine (RJ.out _ bl1).mono ?_); rintro e w2 ⟨rfl, rfl⟩))
          exact ⟨⟨j + 1, acc, HLT.out, by go_num, x1, y1, z1, bl1, HS2⟩, by simp [intOf]; omega⟩
        | true =>
          have RJ : Hid (∀ w1, Below X w w1 → Calls Try.prog 48 #[.pointer (some ⟨g, j * 9, none⟩), .int .u8 (bn : Nat)] w1 fun e w' => e = .returned (.bool true) ∧ w' = w1) := Lib.hid fun w1 hb => by
            have := RD.out w1 (j * 9) x hokx.out (HST.out w1 j x hb HXJ.out)
            rwa [hr] at this
          rw [hr] at hs2
          have HS2 : Hid (stepS now b (L.drop (j + 1)) (j + 1) (acc ||| x.nx) = T) := Lib.hid hs2
          clear hs2 hb1 hr
          go_wp2_with (first
            | (go_at_call 35; (with_reducible refine (HA.out _).mono ?_); rintro e w1 ⟨rfl, hb1⟩; obtain ⟨x1, y1, z1, bl1⟩ := NX.out _ hb1; have c1 := c0.out _ bl1)
            | (go_at_call 48; (with_reducible refine (RJ.out _ bl1).mono ?_); rintro e w2 ⟨rfl, rfl⟩))
          have S2 := HST.out w2 j x bl1 HXJ.out
          have g4 : w2.drew.cell? ⟨g, j * 9 + 4, none⟩ = some (.int .u64 (pw x.nx 0 : Nat)) := S2 4 _ rfl
          have g5 : w2.drew.cell? ⟨g, j * 9 + 4 + 1, none⟩ = some (.int .u64 (pw x.nx 1 : Nat)) := S2 5 _ rfl
          have g6 : w2.drew.cell? ⟨g, j * 9 + 4 + 2, none⟩ = some (.int .u64 (pw x.nx 2 : Nat)) := S2 6 _ rfl
          have g7 : w2.drew.cell? ⟨g, j * 9 + 4 + 3, none⟩ = some (.int .u64 (pw x.nx 3 : Nat)) := S2 7 _ rfl
          have g8 : w2.drew.cell? ⟨g, j * 9 + 4 + 4, none⟩ = some (.int .u64 (pw x.nx 4 : Nat)) := S2 8 _ rfl
          obtain ⟨b0, b1, b2, b3, b4, bf⟩ := plc_at (w := w2.drew) z1
          have c2 : w2.drew.cell? ⟨p, 0, none⟩ = some (.slice (some ⟨g, 0, none⟩) L.length cap) := c1
          have HB1 : Hid (Below wr.heap.size wr w2.drew) := Lib.hid hb1.drew
          have OX := Lib.hid (OR.out acc x.nx)
          clear x1 y1 z1 bl1 c1 hb1 a0 a1 a2 a3 a4 c0r S2 bf
          go_region_with (go_at_call 49; (with_reducible refine (OX.out _).mono ?_); rintro e w3 ⟨rfl, hb3⟩; obtain ⟨x3, y3, z3, bl3⟩ := NX.out w3 (HB1.out.trans (hb3.mono HB1.out.size)); obtain ⟨d0, d1, d2, d3, d4, df⟩ := plc_at z3)
          all_goals
            go_wp2
            exact ⟨⟨j + 1, acc ||| x.nx, HLT.out, by go_num, (put5_other (by omega)).trans x3, (put5_other (by omega)).trans y3, put5_row z3, put5_below bl3 (by omega), HS2⟩, by simp [intOf]; omega⟩
    · have hjl : j = L.length := by omega
      subst hjl
      have hfin : Hid (acc = T) := Lib.hid (by rw [← hT.out, List.drop_length, stepS])
      obtain ⟨a0, a1, a2, a3, a4, -⟩ := plc_at hz
      obtain ⟨r0, r1, r2, r3, r4, rf⟩ := plc_at (P := 0) (by rw [plc_zero]; exact hy)
      clear hx hy hz hT
      go_wp2
      refine bodyPost_ret (v := .agg (plc T)) (by simp [results, Try.results34, go_sem, r0, r1, r2, r3, r4, plc, hfin.out]) rfl ⟨rfl, ?_⟩
      exact put5_below (P := acc) hbl (by omega)
end Go.Proofs.Ytdmajbdgjjmlkaa
