/- A block's step of the state: what the call returns; nothing that was there turns. Conditions: the block's 64 bytes lie where the pointer leads; the state's numbers have 32 bits. -/
import Derived.Test.YtdkhnklggidfpaaSpr
namespace Go.Proofs.Ytdkhnklggidfpaa
open Go.RowKit

theorem heap_box (w : World) (o : Obj) : (w.alloc o).heap[w.heap.size]? = some o := block_new w o
theorem heap_keep {w : World} {B : Nat} {o : Obj} (o' : Obj) (h : w.heap[B]? = some o) : (w.alloc o').heap[B]? = some o := by
  rw [Below.heap_alloc _ _ _ (block_lt h)]; exact h
theorem heap_below {w w' : World} {B C : Nat} {o : Obj} (h : w.heap[B]? = some o) (hb : Below C w w') (hlt : B < C) : w'.heap[B]? = some o := by
  rw [hb.block B hlt]; exact h

theorem and32 (a b : Nat) (ha : a < 4294967296) (hb : b < 4294967296) : bits BinOp.and IntKind.u32 (a : Int) (b : Int) = ((a &&& b : Nat) : Int) := u32_and_nat a b ha hb
theorem not32 (e : Nat) (he : e < 4294967296) : bits BinOp.xor IntKind.u32 (if IntKind.u32.signed = true then -1 else IntKind.u32.max) (e : Int) = ((4294967295 - e : Nat) : Int) := by
  have e1 : (if IntKind.u32.signed = true then -1 else IntKind.u32.max) = ((4294967295 : Nat) : Int) := by decide
  rw [e1, xor32 4294967295 _ (by decide) he]
  congr 1
  apply Nat.eq_of_testBit_eq
  intro i
  have ee : 4294967295 - e = 2 ^ 32 - (e + 1) := by omega
  rw [ee, Nat.testBit_two_pow_sub_succ (by omega), Nat.testBit_xor]
  have e2 : (4294967295 : Nat) = 2 ^ 32 - 1 := rfl
  rw [e2, Nat.testBit_two_pow_sub_one]
  by_cases hi : i < 32
  · simp [hi]
  · have h32 : e < 2 ^ i := Nat.lt_of_lt_of_le (show e < 2 ^ 32 from he) (Nat.pow_le_pow_right (by decide) (by omega))
    have := Nat.testBit_lt_two_pow h32
    simp [hi, this]
theorem teq (a b c d e f g h k w : Nat) (he : e < 4294967296) (hf : f < 4294967296) (hg : g < 4294967296) :
    (((h : Int) + bits BinOp.xor IntKind.u32 (bits BinOp.xor IntKind.u32 (ror e 6 : Nat) (ror e 11 : Nat)) (ror e 25 : Nat) +
      bits BinOp.xor IntKind.u32 (bits BinOp.and IntKind.u32 (e : Int) (f : Int))
        (bits BinOp.and IntKind.u32 (bits BinOp.xor IntKind.u32 (if IntKind.u32.signed = true then -1 else IntKind.u32.max) (e : Int)) (g : Int)) + (k : Int)) % 4294967296 + (w : Int)) % 4294967296
      = ((t1 ⟨a, b, c, d, e, f, g, h⟩ k w : Nat) : Int) := by
  rw [not32 e he, and32 _ _ he hf, and32 _ _ (by omega) hg, xor32 _ _ (and_lt _ he) (and_lt _ (by omega)), xor32 _ _ (ror_lt _ he) (ror_lt _ he), xor32 _ _ (xor_lt (ror_lt _ he) (ror_lt _ he)) (ror_lt _ he)]
  show (((h : Int) + (s6 e : Nat) + (chs e f g : Nat) + k) % 4294967296 + w) % 4294967296 = _
  unfold t1 add
  dsimp only
  generalize s6 e = p
  generalize chs e f g = q
  omega

theorem ueq (T a b c : Nat) (ha : a < 4294967296) (hb : b < 4294967296) (hc : c < 4294967296) :
    ((T : Int) + (bits BinOp.xor IntKind.u32 (bits BinOp.xor IntKind.u32 (ror a 2 : Nat) (ror a 13 : Nat)) (ror a 22 : Nat) +
      bits BinOp.xor IntKind.u32 (bits BinOp.xor IntKind.u32 (bits BinOp.and IntKind.u32 (a : Int) (b : Int)) (bits BinOp.and IntKind.u32 (a : Int) (c : Int))) (bits BinOp.and IntKind.u32 (b : Int) (c : Int))) % 4294967296) % 4294967296
      = ((add T (add (s2 a) (maj a b c)) : Nat) : Int) := by
  rw [and32 _ _ ha hb, and32 _ _ ha hc, and32 _ _ hb hc, xor32 _ _ (and_lt _ ha) (and_lt _ ha), xor32 _ _ (xor_lt (and_lt _ ha) (and_lt _ ha)) (and_lt _ hb), xor32 _ _ (ror_lt _ ha) (ror_lt _ ha), xor32 _ _ (xor_lt (ror_lt _ ha) (ror_lt _ ha)) (ror_lt _ ha)]
  show ((T : Int) + ((s2 a : Nat) + (maj a b c : Nat)) % 4294967296) % 4294967296 = _
  unfold add
  generalize s2 a = p
  generalize maj a b c = q
  omega

theorem built49 (v0 v1 v2 v3 v4 v5 v6 v7 : Int) : Try.prog.built 49 [(0, .int .u32 v0), (1, .int .u32 v1), (2, .int .u32 v2), (3, .int .u32 v3), (4, .int .u32 v4), (5, .int .u32 v5), (6, .int .u32 v6), (7, .int .u32 v7)] = some #[.int .u32 v0, .int .u32 v1, .int .u32 v2, .int .u32 v3, .int .u32 v4, .int .u32 v5, .int .u32 v6, .int .u32 v7] := by kernel_rfl
theorem cellW_add (a b : Nat) : Value.int .u32 (((a : Int) + b) % 4294967296) = cellW (add a b) := by unfold cellW add; rw [show ((a : Int) + b) % 4294967296 = (((a + b) % 4294967296 : Nat) : Int) by omega]
theorem build_sums (s r : St) : Try.prog.built 49 [(0, .int .u32 (((s.a : Int) + r.a) % 4294967296)), (1, .int .u32 (((s.b : Int) + r.b) % 4294967296)), (2, .int .u32 (((s.c : Int) + r.c) % 4294967296)), (3, .int .u32 (((s.d : Int) + r.d) % 4294967296)), (4, .int .u32 (((s.e : Int) + r.e) % 4294967296)), (5, .int .u32 (((s.f : Int) + r.f) % 4294967296)), (6, .int .u32 (((s.g : Int) + r.g) % 4294967296)), (7, .int .u32 (((s.h : Int) + r.h) % 4294967296))] = some (wcells (stL (sums s r))) := by
  rw [built49]
  simp only [cellW_add]
  rfl

set_option maxRecDepth 100000 in
set_option maxHeartbeats 2000000 in
theorem next_any (s : St) (hs : s.ok) (b o : Nat) (l : List UInt8) (hl : l.length = 64) (w : World) (hb : b < w.heap.size) (hat : At w b o l) :
    Calls Try.prog 32 #[.agg (wcells (stL s)), .pointer (some ⟨b, o, none⟩)] w fun e w' => e = .returned (.agg (wcells (stL (next s l)))) ∧ Below w.heap.size w w' := by
  obtain ⟨B, hB⟩ : ∃ B, B = w.heap.size := ⟨_, rfl⟩
  have HB := Lib.hid hB
  clear hB
  obtain ⟨C, hC⟩ : ∃ C, C = wcells (stL s) := ⟨_, rfl⟩
  rw [← hC]
  have HC := Lib.hid hC
  obtain ⟨Z, hZ⟩ : ∃ Z, Z = wcells (List.replicate 64 0) := ⟨_, rfl⟩
  obtain ⟨Z8, hZ8⟩ : ∃ Z, Z = wcells (List.replicate 8 0) := ⟨_, rfl⟩
  obtain ⟨Kc, hK⟩ : ∃ Z, Z = wcells keys := ⟨_, rfl⟩
  obtain ⟨Wc, hW⟩ : ∃ Z, Z = wcells (ws l 64) := ⟨_, rfl⟩
  have hkeys : ∀ w, Calls Try.prog 41 #[] w fun e w' => e = .returned (.agg Kc) ∧ Below w.heap.size w w' := by rw [hK]; exact keys_any
  have z65 : ∀ w, (zeroValue 65).run Try.prog w = .ok (.agg Z) w := by rw [hZ]; exact Try.zero65
  have z49 : ∀ w, (zeroValue 49).run Try.prog w = .ok (.agg Z8) w := by rw [hZ8]; exact Try.zero49
  have HZ := Lib.hid hZ
  have HZ8 := Lib.hid hZ8
  have HK := Lib.hid hK
  have HW := Lib.hid hW
  clear hC hZ hZ8 hK hW
  go_enter Try.func32, Try.ntmps32
  go_wp2_with (first
    | (refine op_alloc rfl _ rfl _ z49 ?_)
    | (go_at_call 41; refine (hkeys _).mono ?_; rintro e w1 ⟨rfl, b1⟩)
    | fail)
  have r1 : w1.heap[B]? = some (.cells C 49 (0, 0)) := heap_below (by rw [HB.out]; exact heap_keep _ (block_new _ _)) b1 (by rw [HB.out]; simp; omega)
  have r2 : w1.heap[B + 1]? = some (.cells Z8 49 (0, 0)) := heap_below (by have := block_new (w.alloc (.cells C 49)) (.cells Z8 49); simpa [HB.out] using this) b1 (by rw [HB.out]; simp)
  have bb1 : Below B w w1 := by
    have h0 : Below B w ((w.alloc (.cells C 49)).alloc (.cells Z8 49)) := by rw [HB.out]; exact ((Below.refl _ _).alloc (Nat.le_refl _) _).alloc (by simp) _
    exact h0.trans (b1.mono (by rw [HB.out]; simp; omega))
  rw [← HB.out]
  refine (spread_any b o l hl w1 (Nat.lt_of_lt_of_le hb (by have := bb1.size; exact this)) (hat.below bb1 (by rw [HB.out]; exact hb))).mono ?_
  rintro e w2 ⟨rfl, b2⟩
  rw [← HW.out]
  have r3 := heap_below r1 b2 (block_lt r1)
  have r4 := heap_below r2 b2 (block_lt r2)
  have bb2 : Below B w w2 := bb1.trans (b2.mono (by have := block_lt r1; omega))
  clear r1 r2 b1 b2 bb1
  obtain ⟨D, hD⟩ : ∃ D, D = w2.heap.size := ⟨_, rfl⟩
  have HD := Lib.hid hD
  clear hD
  have k1 : ((w2.alloc (.cells Z 65)).alloc (.cells Z 65)).heap[D]? = some (.cells Z 65 (0, 0)) := by
    rw [HD.out]; exact heap_keep _ (block_new _ _)
  have k2 : (((w2.alloc (.cells Z 65)).alloc (.cells Z 65)).setRow D Kc).heap[D + 1]? = some (.cells Z 65 (0, 0)) := by
    rw [setRow_other _ _ _ _ (by omega)]
    have := block_new (w2.alloc (.cells Z 65)) (.cells Z 65)
    simpa [HD.out] using this
  have e1 : (Try.prog.info? 65).map (·.size) = some Kc.size := by rw [Try.size65, HK.out, wcells_size, keys_length]
  have e2 : (Try.prog.info? 65).map (·.size) = some Wc.size := by rw [Try.size65, HW.out, wcells_size, ws_length]
  have e3 : Z.size = Kc.size := by rw [HK.out, HZ.out]; simp [wcells_size, keys_length]
  have e4 : Z.size = Wc.size := by rw [HW.out, HZ.out]; simp [wcells_size, ws_length]
  have e5 : Kc.all (·.oneCell') = true := by rw [HK.out]; exact wcells_one _
  have e6 : Wc.all (·.oneCell') = true := by rw [HW.out]; exact wcells_one _
  have st1 : (Sem.run Try.prog (storeVar 65 ⟨D, 0, none⟩ (.agg Kc)) ((w2.alloc (.cells Z 65)).alloc (.cells Z 65))) = .ok () (((w2.alloc (.cells Z 65)).alloc (.cells Z 65)).setRow D Kc) := run_storeVar_row _ _ _ _ _ _ k1 e1 e3 e5
  go_wp2_with (first
    | (refine op_alloc rfl _ rfl _ z65 ?_)
    | (refine wpList_store_row rfl _ _ _ rfl D Kc (by rw [HD.out]; rfl) rfl 65 _ k1 e1 e3 e5 ?_)
    | (refine wpList_store_row rfl _ _ _ rfl (D + 1) Wc (by show Value.pointer (some ⟨(w2.alloc (.cells Z 65)).heap.size, 0, none⟩) = _; rw [HD.out]; simp) rfl 65 _ k2 e2 e4 e6 ?_)
    | fail)
  rw [show (w2.alloc (.cells Z 65)).heap.size = D + 1 from by rw [HD.out]; simp, ← HD.out]
  have hBD : B + 1 < D := by rw [HD.out]; exact block_lt r4
  have q1 : ((((w2.alloc (.cells Z 65)).alloc (.cells Z 65)).setRow D Kc).setRow (D + 1) Wc).heap[B]? = some (.cells C 49 (0, 0)) := by
    rw [setRow_other _ _ _ _ (by omega), setRow_other _ _ _ _ (by omega)]; exact heap_keep _ (heap_keep _ r3)
  have q2 : ((((w2.alloc (.cells Z 65)).alloc (.cells Z 65)).setRow D Kc).setRow (D + 1) Wc).heap[B + 1]? = some (.cells Z8 49 (0, 0)) := by
    rw [setRow_other _ _ _ _ (by omega), setRow_other _ _ _ _ (by omega)]; exact heap_keep _ (heap_keep _ r4)
  have q3 : ((((w2.alloc (.cells Z 65)).alloc (.cells Z 65)).setRow D Kc).setRow (D + 1) Wc).heap[D]? = some (.cells Kc 65 (0, 0)) := by
    rw [setRow_other _ _ _ _ (by omega)]; exact setRow_heap _ _ _ _ _ _ k1
  have q4 : ((((w2.alloc (.cells Z 65)).alloc (.cells Z 65)).setRow D Kc).setRow (D + 1) Wc).heap[D + 1]? = some (.cells Wc 65 (0, 0)) := setRow_heap _ _ _ _ _ _ k2
  have q5 : Below B w ((((w2.alloc (.cells Z 65)).alloc (.cells Z 65)).setRow D Kc).setRow (D + 1) Wc) :=
    below_setRow (below_setRow ((bb2.alloc (by have := block_lt r3; omega) _).alloc (by have := block_lt r3; simp; omega) _) (by omega) _) (by omega) _
  clear k1 k2 r3 r4 bb2 e1 e2 e3 e4 e5 e6 st1 hkeys z65 z49
  generalize (((w2.alloc (.cells Z 65)).alloc (.cells Z 65)).setRow D Kc).setRow (D + 1) Wc = W at *
  have cc : ∀ i (h : i < 8), W.cell? ⟨B, i, none⟩ = some (.int .u32 ((stL s).getD i 0 : Nat)) := by
    intro i h
    rw [cell_of_row W B i _ _ _ q1, HC.out, wcells_at _ _ (by simpa [stL] using h)]
  have c0 : W.cell? ⟨B, 0, none⟩ = some (.int .u32 (s.a : Nat)) := cc 0 (by decide)
  have c1 : W.cell? ⟨B, 1, none⟩ = some (.int .u32 (s.b : Nat)) := cc 1 (by decide)
  have c2 : W.cell? ⟨B, 2, none⟩ = some (.int .u32 (s.c : Nat)) := cc 2 (by decide)
  have c3 : W.cell? ⟨B, 3, none⟩ = some (.int .u32 (s.d : Nat)) := cc 3 (by decide)
  have c4 : W.cell? ⟨B, 4, none⟩ = some (.int .u32 (s.e : Nat)) := cc 4 (by decide)
  have c5 : W.cell? ⟨B, 5, none⟩ = some (.int .u32 (s.f : Nat)) := cc 5 (by decide)
  have c6 : W.cell? ⟨B, 6, none⟩ = some (.int .u32 (s.g : Nat)) := cc 6 (by decide)
  have c7 : W.cell? ⟨B, 7, none⟩ = some (.int .u32 (s.h : Nat)) := cc 7 (by decide)
  clear cc
  go_quiet (fail)
  have hWN : (W.drewN nq).heap = W.heap := rfl
  replace q5 := below_drewN q5 nq
  rw [← hWN] at q1 q2 q3 q4
  clear hWN c0 c1 c2 c3 c4 c5 c6 c7
  generalize W.drewN nq = W0 at *
  go_wp2
  go_loopw [7, 8, 9, 10, 11, 12, 13, 14, 15, 16, 17, 37] (fun a b c d e f g h _ _ _ i wr => ∃ (k : Nat) (r : St), k ≤ 64 ∧ i = .int .i64 k ∧ a = .int .u32 (r.a : Nat) ∧ b = .int .u32 (r.b : Nat) ∧ c = .int .u32 (r.c : Nat) ∧ d = .int .u32 (r.d : Nat) ∧ e = .int .u32 (r.e : Nat) ∧ f = .int .u32 (r.f : Nat) ∧ g = .int .u32 (r.g : Nat) ∧ h = .int .u32 (r.h : Nat) ∧ Hid (r = rounds (ws l 64) s k) ∧ wr.heap = W0.heap ∧ Below B w wr) (fun _ _ _ _ _ _ _ _ _ _ _ i _ => 64 - (intOf i).toNat)
  case atStart => exact ⟨0, s, by omega, rfl, rfl, rfl, rfl, rfl, rfl, rfl, rfl, rfl, rfl, rfl, q5⟩
  case round =>
    obtain ⟨k, r, hk, rfl, rfl, rfl, rfl, rfl, rfl, rfl, rfl, rfl, HR, hheap, hbel⟩ := hrel
    have hr : r.ok := by rw [HR.out]; exact rounds_ok hs k
    rw [← hheap] at q1 q2 q3 q4
    by_cases hlt : k < 64
    · have ck : wr.cell? ⟨D, k, none⟩ = some (.int .u32 (keys.getD k 0 : Nat)) := by
        rw [cell_of_row wr D k _ _ _ q3, HK.out, wcells_at _ _ (by rw [keys_length]; exact hlt)]
      have cw : wr.cell? ⟨D + 1, k, none⟩ = some (.int .u32 ((ws l 64).getD k 0 : Nat)) := by
        rw [cell_of_row wr (D + 1) k _ _ _ q4, HW.out, wcells_at _ _ (by rw [ws_length]; exact hlt)]
      have HN : Hid (rnd r (keys.getD k 0) ((ws l 64).getD k 0) = rounds (ws l 64) s (k + 1)) := by unfold Hid; rw [HR.out]; rfl
      generalize keys.getD k 0 = kk at *
      generalize (ws l 64).getD k 0 = ww at *
      obtain ⟨a, b1, c, d, e, f, g, h⟩ := r
      have ha := hr.a
      have hb1 := hr.b
      have hc := hr.c
      have hd := hr.d
      have he := hr.e
      have hf := hr.f
      have hg := hr.g
      have hh := hr.h
      dsimp only at ha hb1 hc hd he hf hg hh ⊢
      clear hr HR
      have HQ := Lib.hid (And.intro q1 (And.intro q2 (And.intro q3 q4)))
      clear q1 q2 q3 q4
      go_wp2
      go_quiet (first
        | (go_at_call 43; exact Calls.quiet_of_same (ror_still e 6 he (by decide) (by decide) _))
        | (go_at_call 43; exact Calls.quiet_of_same (ror_still e 11 he (by decide) (by decide) _))
        | (go_at_call 43; exact Calls.quiet_of_same (ror_still e 25 he (by decide) (by decide) _)))
      obtain ⟨T, hT⟩ : ∃ T, T = t1 ⟨a, b1, c, d, e, f, g, h⟩ kk ww := ⟨_, rfl⟩
      rw [teq a b1 c d e f g h kk ww he hf hg, ← hT]
      have HT := Lib.hid hT
      clear hT
      go_wp2_with (first
        | (go_at_call 43; refine (ror_any a 2 ha (by decide) (by decide) _).mono ?_; rintro e' w' ⟨rfl, rfl⟩)
        | (go_at_call 43; refine (ror_any a 13 ha (by decide) (by decide) _).mono ?_; rintro e' w' ⟨rfl, rfl⟩)
        | (go_at_call 43; refine (ror_any a 22 ha (by decide) (by decide) _).mono ?_; rintro e' w' ⟨rfl, rfl⟩))
      go_roundw
      case rel =>
        refine ⟨k + 1, rnd ⟨a, b1, c, d, e, f, g, h⟩ kk ww, by omega, by go_num, ?_, rfl, rfl, rfl, ?_, rfl, rfl, rfl, HN.out, hheap, below_drewN hbel nq⟩
        · have := ueq T a b1 c ha hb1 hc
          rw [this, HT.out]; rfl
        · have : ((d : Int) + T) % 4294967296 = ((add d T : Nat) : Int) := by unfold add; omega
          rw [this, HT.out]; rfl
      case measure => simp [intOf]; omega
    · have hk64 : k = 64 := by omega
      subst hk64
      obtain ⟨a, b1, c, d, e, f, g, h⟩ := r
      have cc : ∀ i (h : i < 8), wr.cell? ⟨B, i, none⟩ = some (.int .u32 ((stL s).getD i 0 : Nat)) := by
        intro i h
        rw [cell_of_row wr B i _ _ _ q1, HC.out, wcells_at _ _ (by simpa [stL] using h)]
      have c0 : wr.cell? ⟨B, 0, none⟩ = some (.int .u32 (s.a : Nat)) := cc 0 (by decide)
      have c1 : wr.cell? ⟨B, 1, none⟩ = some (.int .u32 (s.b : Nat)) := cc 1 (by decide)
      have c2 : wr.cell? ⟨B, 2, none⟩ = some (.int .u32 (s.c : Nat)) := cc 2 (by decide)
      have c3 : wr.cell? ⟨B, 3, none⟩ = some (.int .u32 (s.d : Nat)) := cc 3 (by decide)
      have c4 : wr.cell? ⟨B, 4, none⟩ = some (.int .u32 (s.e : Nat)) := cc 4 (by decide)
      have c5 : wr.cell? ⟨B, 5, none⟩ = some (.int .u32 (s.f : Nat)) := cc 5 (by decide)
      have c6 : wr.cell? ⟨B, 6, none⟩ = some (.int .u32 (s.g : Nat)) := cc 6 (by decide)
      have c7 : wr.cell? ⟨B, 7, none⟩ = some (.int .u32 (s.h : Nat)) := cc 7 (by decide)
      have HQ := Lib.hid q2
      have HS : Hid (next s l = sums s ⟨a, b1, c, d, e, f, g, h⟩) := by unfold Hid; rw [HR.out]; rfl
      have hbd := build_sums s ⟨a, b1, c, d, e, f, g, h⟩
      have e1 : (Try.prog.info? 49).map (·.size) = some (wcells (stL (sums s ⟨a, b1, c, d, e, f, g, h⟩))).size := by rw [Try.size49, wcells_size]; rfl
      have e2 : Z8.size = (wcells (stL (sums s ⟨a, b1, c, d, e, f, g, h⟩))).size := by rw [HZ8.out]; simp [wcells_size, stL]
      have e3 := wcells_one (stL (sums s ⟨a, b1, c, d, e, f, g, h⟩))
      rw [← HS.out] at hbd e1 e2 e3
      generalize hNN : wcells (stL (next s l)) = N at *
      clear cc q1 q3 q4 HR HS HQ
      dsimp only at hbd ⊢
      go_wp2_with (first
        | (refine op_build rfl 49 _ rfl N ?hbuild ?_)
        | (refine wpList_store_row rfl _ _ _ rfl (B + 1) N rfl rfl 49 _ q2 e1 e2 e3 ?_))
      refine bodyPost_ret_by (results_cell_row rfl _ _ (B + 1) 49 N (0, 0) _ rfl (setRow_heap _ _ _ _ _ _ q2) Try.underlying49 rfl e1) rfl ?_
      exact ⟨by rw [hNN], by rw [← HB.out]; exact below_setRow hbel (Nat.le_succ _) _⟩
end Go.Proofs.Ytdkhnklggidfpaa
