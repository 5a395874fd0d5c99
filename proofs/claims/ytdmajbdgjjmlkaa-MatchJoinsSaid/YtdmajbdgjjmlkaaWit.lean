/- A set and the bytes from one to another: what the call returns. Conditions: bytes. -/
import Derived.Test.YtdmajbdgjjmlkaaSet
import Derived.StillTailTactics
import Derived.IntWalk
namespace Go.Proofs.Ytdmajbdgjjmlkaa
open Go.RowKit
set_option linter.unusedVariables false

def S4.cells (s : S4) : Array Value := #[.int .u64 (s.a : Nat), .int .u64 (s.b : Nat), .int .u64 (s.c : Nat), .int .u64 (s.d : Nat)]
theorem bits_or64 {a P : Nat} (ha : a < 18446744073709551616) (hP : P < 18446744073709551616) : bits .or .u64 (a : Int) (P : Int) = ((a ||| P : Nat) : Int) := by
  have h : a ||| P < 18446744073709551616 := Nat.or_lt_two_pow (n := 64) ha hP
  show IntKind.u64.wrap ((BitVec.ofInt 64 (a : Int) ||| BitVec.ofInt 64 (P : Int)).toNat : Int) = _
  rw [BitVec.ofInt_natCast, BitVec.ofInt_natCast, BitVec.toNat_or, BitVec.toNat_ofNat, BitVec.toNat_ofNat, Nat.mod_eq_of_lt ha, Nat.mod_eq_of_lt hP]
  unfold IntKind.wrap
  simp only [IntKind.bits, IntKind.signed]
  simp
  omega
theorem S4.ok.a' {s : S4} (h : s.ok) : s.a < 18446744073709551616 := h.1
theorem S4.ok.b' {s : S4} (h : s.ok) : s.b < 18446744073709551616 := h.2.1
theorem S4.ok.c' {s : S4} (h : s.ok) : s.c < 18446744073709551616 := h.2.2.1
theorem S4.ok.d' {s : S4} (h : s.ok) : s.d < 18446744073709551616 := h.2.2.2
theorem S4.ok.put {s : S4} (h : s.ok) (b : Nat) : (s.put b).ok := by
  have hp : 2 ^ (b % 64) < 18446744073709551616 := Nat.pow_lt_pow_right (m := b % 64) (n := 64) (by decide) (by omega)
  unfold S4.put
  split
  · exact ⟨Nat.or_lt_two_pow (n := 64) h.a' hp, h.b', h.c', h.d'⟩
  · split
    · exact ⟨h.a', Nat.or_lt_two_pow (n := 64) h.b' hp, h.c', h.d'⟩
    · split
      · exact ⟨h.a', h.b', Nat.or_lt_two_pow (n := 64) h.c' hp, h.d'⟩
      · exact ⟨h.a', h.b', h.c', Nat.or_lt_two_pow (n := 64) h.d' hp⟩
theorem S4.ok.withN {s : S4} (h : s.ok) (lo : Nat) : ∀ n, (s.withN lo n).ok
  | 0 => h
  | n + 1 => (S4.ok.withN h lo n).put _
set_option maxRecDepth 20000 in
set_option maxHeartbeats 4000000 in
theorem with_any (s : S4) (lo hi : Nat) (w : World) (hs : s.ok) (hlo : lo ≤ 255) (hhi : hi ≤ 255) : Calls Try.prog 78 #[s.val, .int .i64 lo, .int .i64 hi] w fun e w' => e = .returned (s.with lo hi).val ∧ Below w.heap.size w w' := by
  obtain ⟨X, hX⟩ : ∃ X, X = w.heap.size := ⟨_, rfl⟩
  have hzz : w.heap.size = X := hX.symm
  have h0 : ∀ o2, ((w.alloc (.cells s.cells 103)).alloc o2).heap[X]? = some (.cells s.cells 103 (0, 0)) := fun o2 => by
    rw [Below.heap_alloc _ o2 X (by rw [hX]; simp), hX]; exact heap_alloc_new w _
  have hR : ∀ o2, ((w.alloc (.cells s.cells 103)).alloc o2).heap[X + 1]? = some o2 := fun o2 => by
    have := heap_alloc_new (w.alloc (.cells s.cells 103)) o2
    rw [hX]; simpa using this
  have hb0 : ∀ o2, Below X w ((w.alloc (.cells s.cells 103)).alloc o2) := fun o2 => by rw [hX]; exact below_trans (below_new w _) (below_new _ o2)
  have OKs := Lib.hid hs
  clear hs
  unfold S4.cells at h0 hR hb0
  have H0 := Lib.hid h0
  have HR := Lib.hid hR
  have HB := Lib.hid hb0
  rw [hzz, show s.val = .agg s.cells from rfl]
  unfold S4.cells
  clear hX h0 hR hb0
  go_enter Try.func78, Try.ntmps78
  go_wp2
  go_loopw [7] (fun i wr => ∃ j : Nat, j ≤ hi + 1 - lo ∧ i = .int .i64 (lo + j : Nat) ∧ wr.heap[X]? = some (.cells (s.withN lo j).cells 103 (0, 0)) ∧ wr.heap[X + 1]? = some (.cells #[.int .u64 0, .int .u64 0, .int .u64 0, .int .u64 0] 103 (0, 0)) ∧ Below X w wr) (fun i _ => 257 - (intOf i).toNat)
  case atStart => exact ⟨0, by omega, rfl, H0.out _, HR.out _, HB.out _⟩
  case round =>
    obtain ⟨j, hj, rfl, hx, hr, hbl⟩ := hrel
    obtain ⟨b, hb⟩ : ∃ b, b = lo + j := ⟨_, rfl⟩
    rw [← hb]
    obtain ⟨sj, hsj⟩ : ∃ sj, sj = s.withN lo j := ⟨_, rfl⟩
    rw [← hsj] at hx
    have OK : Hid sj.ok := by rw [hsj]; exact OKs.out.withN lo j
    by_cases hlt : b ≤ hi
    · have g1 : ((b : Nat) : Int) ≤ (hi : Int) := by omega
      have g2 : (b : Int) < 256 := by omega
      have Hx := Lib.hid hx
      have Hr := Lib.hid hr
      have HB2 := Lib.hid hb
      have HSJ := Lib.hid hsj
      have HLT := Lib.hid hlt
      have HJ := Lib.hid hj
      have hb3 : b < 256 := by omega
      have HB3 := Lib.hid hb3
      clear hx hr hb hsj hlt hj hb3
      go_wp2
      have hb3 := HB3.out
      have hq : b / 64 = 0 ∨ b / 64 = 1 ∨ b / 64 = 2 ∨ b / 64 = 3 := by omega
      have t1 : (b : Int).tdiv 64 = ((b / 64 : Nat) : Int) := by rw [Int.tdiv_eq_ediv_of_nonneg (by omega)]; omega
      have t2 : (b : Int).tmod 64 = ((b % 64 : Nat) : Int) := by rw [Int.tmod_eq_emod_of_nonneg (by omega)]; omega
      obtain ⟨m, hm⟩ : ∃ m, m = b % 64 := ⟨_, rfl⟩
      have hm2 : m < 64 := by omega
      have m1 : (0 : Int) ≤ (m : Int) := by omega
      have m2 : (m : Int) ≤ 64 := by omega
      have m3 : (m : Int) < 64 := by omega
      rw [← hm] at t2
      have t3 : IntKind.i64.wrap (m : Int) = (m : Int) := IntWalk.i64_in _ (by omega)
      obtain ⟨P, hP⟩ : ∃ P : Nat, P = 2 ^ m := ⟨_, rfl⟩
      have hP64 : P < 18446744073709551616 := by rw [hP]; exact Nat.pow_lt_pow_right (m := m) (n := 64) (by decide) hm2
      have t5 : IntKind.u64.wrap ((2 : Int) ^ m) = (P : Int) := by
        rw [show ((2 : Int) ^ m) = (P : Int) by rw [hP]; simp]
        unfold IntKind.wrap
        simp only [IntKind.bits, IntKind.signed]
        simp
        omega
      have HP := Lib.hid hP
      have HP64 := Lib.hid hP64
      clear hP hP64
      rcases hq with hq | hq | hq | hq
      · rw [hq] at t1
        have t4 : IntKind.i64.wrap 0 = 0 := by decide
        rw [show ((0 : Nat) : Int) = 0 from rfl] at t1
        obtain ⟨V, hV⟩ : ∃ V : Nat, V = sj.a ||| P := ⟨_, rfl⟩
        have t6 : bits .or .u64 (sj.a : Int) (P : Int) = (V : Int) := by rw [hV]; exact bits_or64 OK.out.a' HP64.out
        have hnew : (s.withN lo (j + 1)).cells = sj.cells.setIfInBounds 0 (.int .u64 (V : Nat)) := by
          show ((s.withN lo j).put (lo + j)).cells = _
          rw [← HSJ.out, ← HB2.out]
          unfold S4.put
          rw [hq, hV, HP.out, hm]
          rfl
        have HN := Lib.hid hnew
        have c0 : wr.cell? ⟨X, 0, none⟩ = some (.int .u64 (sj.a : Nat)) := cell_at Hx.out rfl
        have f0 := free_at (o := 0) Hx.out
        have c1 : wr.drew.cell? ⟨X, 0, none⟩ = some (.int .u64 (sj.a : Nat)) := c0
        have f1 : wr.drew.frozen? ⟨X, 0, none⟩ = false := f0
        have hd1 : wr.drew.heap[X]? = some (.cells sj.cells 103 (0, 0)) := Hx.out
        have hd2 : wr.drew.heap[X + 1]? = some (.cells #[.int .u64 0, .int .u64 0, .int .u64 0, .int .u64 0] 103 (0, 0)) := Hr.out
        have hd3 : Below X w wr.drew := hbl.drew
        have HD1 := Lib.hid hd1
        have HD2 := Lib.hid hd2
        have HD3 := Lib.hid hd3
        have HM := Lib.hid hm
        have HM2 := Lib.hid hm2
        clear hV hm hq hm2 hb3 hnew hd1 hd2 hd3
        go_still_tail 9, (by kernel_rfl)
        change wpList _ _ _ _ _ wr.drew
        generalize wr.drew = w5 at *
        go_wp2
        have e1 : (b : Int) + 1 = ((lo + (j + 1) : Nat) : Int) := by rw [HB2.out]; omega
        have fin : (∃ j', j' ≤ hi + 1 - lo ∧ (Value.int .i64 ((b : Int) + 1)) = .int .i64 (lo + j' : Nat) ∧ (w5.setCell ⟨X, 0, none⟩ (.int .u64 (V : Int))).heap[X]? = some (.cells (s.withN lo j').cells 103 (0, 0)) ∧ (w5.setCell ⟨X, 0, none⟩ (.int .u64 (V : Int))).heap[X + 1]? = some (.cells #[.int .u64 0, .int .u64 0, .int .u64 0, .int .u64 0] 103 (0, 0)) ∧ Below X w (w5.setCell ⟨X, 0, none⟩ (.int .u64 (V : Int)))) := by
          refine ⟨j + 1, ?_, by rw [e1], ?_, ?_, ?_⟩
          · have h1 := HLT.out; have h2 := HB2.out; have h3 := HJ.out; omega
          · rw [HN.out]; exact block_setCell HD1.out
          · exact (heap_setCell_other _ _ _ _ (by show X + 1 ≠ X; omega)).trans HD2.out
          · exact HD3.out.setCell (by exact Nat.le_refl _) _
        first
          | exact ⟨fin, by simp [intOf]; omega⟩
          | (refine ⟨?_, by simp [intOf]; omega⟩; repeat apply Exists.intro; exact ⟨fin, rfl⟩)
      · rw [hq] at t1
        have t4 : IntKind.i64.wrap 1 = 1 := by decide
        rw [show ((1 : Nat) : Int) = 1 from rfl] at t1
        obtain ⟨V, hV⟩ : ∃ V : Nat, V = sj.b ||| P := ⟨_, rfl⟩
        have t6 : bits .or .u64 (sj.b : Int) (P : Int) = (V : Int) := by rw [hV]; exact bits_or64 OK.out.b' HP64.out
        have hnew : (s.withN lo (j + 1)).cells = sj.cells.setIfInBounds 1 (.int .u64 (V : Nat)) := by
          show ((s.withN lo j).put (lo + j)).cells = _
          rw [← HSJ.out, ← HB2.out]
          unfold S4.put
          rw [hq, hV, HP.out, hm]
          rfl
        have HN := Lib.hid hnew
        have c0 : wr.cell? ⟨X, 1, none⟩ = some (.int .u64 (sj.b : Nat)) := cell_at Hx.out rfl
        have f0 := free_at (o := 1) Hx.out
        have c1 : wr.drew.cell? ⟨X, 1, none⟩ = some (.int .u64 (sj.b : Nat)) := c0
        have f1 : wr.drew.frozen? ⟨X, 1, none⟩ = false := f0
        have hd1 : wr.drew.heap[X]? = some (.cells sj.cells 103 (0, 0)) := Hx.out
        have hd2 : wr.drew.heap[X + 1]? = some (.cells #[.int .u64 0, .int .u64 0, .int .u64 0, .int .u64 0] 103 (0, 0)) := Hr.out
        have hd3 : Below X w wr.drew := hbl.drew
        have HD1 := Lib.hid hd1
        have HD2 := Lib.hid hd2
        have HD3 := Lib.hid hd3
        have HM := Lib.hid hm
        have HM2 := Lib.hid hm2
        clear hV hm hq hm2 hb3 hnew hd1 hd2 hd3
        go_still_tail 9, (by kernel_rfl)
        change wpList _ _ _ _ _ wr.drew
        generalize wr.drew = w5 at *
        go_wp2
        have e1 : (b : Int) + 1 = ((lo + (j + 1) : Nat) : Int) := by rw [HB2.out]; omega
        have fin : (∃ j', j' ≤ hi + 1 - lo ∧ (Value.int .i64 ((b : Int) + 1)) = .int .i64 (lo + j' : Nat) ∧ (w5.setCell ⟨X, 1, none⟩ (.int .u64 (V : Int))).heap[X]? = some (.cells (s.withN lo j').cells 103 (0, 0)) ∧ (w5.setCell ⟨X, 1, none⟩ (.int .u64 (V : Int))).heap[X + 1]? = some (.cells #[.int .u64 0, .int .u64 0, .int .u64 0, .int .u64 0] 103 (0, 0)) ∧ Below X w (w5.setCell ⟨X, 1, none⟩ (.int .u64 (V : Int)))) := by
          refine ⟨j + 1, ?_, by rw [e1], ?_, ?_, ?_⟩
          · have h1 := HLT.out; have h2 := HB2.out; have h3 := HJ.out; omega
          · rw [HN.out]; exact block_setCell HD1.out
          · exact (heap_setCell_other _ _ _ _ (by show X + 1 ≠ X; omega)).trans HD2.out
          · exact HD3.out.setCell (by exact Nat.le_refl _) _
        first
          | exact ⟨fin, by simp [intOf]; omega⟩
          | (refine ⟨?_, by simp [intOf]; omega⟩; repeat apply Exists.intro; exact ⟨fin, rfl⟩)
      · rw [hq] at t1
        have t4 : IntKind.i64.wrap 2 = 2 := by decide
        rw [show ((2 : Nat) : Int) = 2 from rfl] at t1
        obtain ⟨V, hV⟩ : ∃ V : Nat, V = sj.c ||| P := ⟨_, rfl⟩
        have t6 : bits .or .u64 (sj.c : Int) (P : Int) = (V : Int) := by rw [hV]; exact bits_or64 OK.out.c' HP64.out
        have hnew : (s.withN lo (j + 1)).cells = sj.cells.setIfInBounds 2 (.int .u64 (V : Nat)) := by
          show ((s.withN lo j).put (lo + j)).cells = _
          rw [← HSJ.out, ← HB2.out]
          unfold S4.put
          rw [hq, hV, HP.out, hm]
          rfl
        have HN := Lib.hid hnew
        have c0 : wr.cell? ⟨X, 2, none⟩ = some (.int .u64 (sj.c : Nat)) := cell_at Hx.out rfl
        have f0 := free_at (o := 2) Hx.out
        have c1 : wr.drew.cell? ⟨X, 2, none⟩ = some (.int .u64 (sj.c : Nat)) := c0
        have f1 : wr.drew.frozen? ⟨X, 2, none⟩ = false := f0
        have hd1 : wr.drew.heap[X]? = some (.cells sj.cells 103 (0, 0)) := Hx.out
        have hd2 : wr.drew.heap[X + 1]? = some (.cells #[.int .u64 0, .int .u64 0, .int .u64 0, .int .u64 0] 103 (0, 0)) := Hr.out
        have hd3 : Below X w wr.drew := hbl.drew
        have HD1 := Lib.hid hd1
        have HD2 := Lib.hid hd2
        have HD3 := Lib.hid hd3
        have HM := Lib.hid hm
        have HM2 := Lib.hid hm2
        clear hV hm hq hm2 hb3 hnew hd1 hd2 hd3
        go_still_tail 9, (by kernel_rfl)
        change wpList _ _ _ _ _ wr.drew
        generalize wr.drew = w5 at *
        go_wp2
        have e1 : (b : Int) + 1 = ((lo + (j + 1) : Nat) : Int) := by rw [HB2.out]; omega
        have fin : (∃ j', j' ≤ hi + 1 - lo ∧ (Value.int .i64 ((b : Int) + 1)) = .int .i64 (lo + j' : Nat) ∧ (w5.setCell ⟨X, 2, none⟩ (.int .u64 (V : Int))).heap[X]? = some (.cells (s.withN lo j').cells 103 (0, 0)) ∧ (w5.setCell ⟨X, 2, none⟩ (.int .u64 (V : Int))).heap[X + 1]? = some (.cells #[.int .u64 0, .int .u64 0, .int .u64 0, .int .u64 0] 103 (0, 0)) ∧ Below X w (w5.setCell ⟨X, 2, none⟩ (.int .u64 (V : Int)))) := by
          refine ⟨j + 1, ?_, by rw [e1], ?_, ?_, ?_⟩
          · have h1 := HLT.out; have h2 := HB2.out; have h3 := HJ.out; omega
          · rw [HN.out]; exact block_setCell HD1.out
          · exact (heap_setCell_other _ _ _ _ (by show X + 1 ≠ X; omega)).trans HD2.out
          · exact HD3.out.setCell (by exact Nat.le_refl _) _
        first
          | exact ⟨fin, by simp [intOf]; omega⟩
          | (refine ⟨?_, by simp [intOf]; omega⟩; repeat apply Exists.intro; exact ⟨fin, rfl⟩)
      · rw [hq] at t1
        have t4 : IntKind.i64.wrap 3 = 3 := by decide
        rw [show ((3 : Nat) : Int) = 3 from rfl] at t1
        obtain ⟨V, hV⟩ : ∃ V : Nat, V = sj.d ||| P := ⟨_, rfl⟩
        have t6 : bits .or .u64 (sj.d : Int) (P : Int) = (V : Int) := by rw [hV]; exact bits_or64 OK.out.d' HP64.out
        have hnew : (s.withN lo (j + 1)).cells = sj.cells.setIfInBounds 3 (.int .u64 (V : Nat)) := by
          show ((s.withN lo j).put (lo + j)).cells = _
          rw [← HSJ.out, ← HB2.out]
          unfold S4.put
          rw [hq, hV, HP.out, hm]
          rfl
        have HN := Lib.hid hnew
        have c0 : wr.cell? ⟨X, 3, none⟩ = some (.int .u64 (sj.d : Nat)) := cell_at Hx.out rfl
        have f0 := free_at (o := 3) Hx.out
        have c1 : wr.drew.cell? ⟨X, 3, none⟩ = some (.int .u64 (sj.d : Nat)) := c0
        have f1 : wr.drew.frozen? ⟨X, 3, none⟩ = false := f0
        have hd1 : wr.drew.heap[X]? = some (.cells sj.cells 103 (0, 0)) := Hx.out
        have hd2 : wr.drew.heap[X + 1]? = some (.cells #[.int .u64 0, .int .u64 0, .int .u64 0, .int .u64 0] 103 (0, 0)) := Hr.out
        have hd3 : Below X w wr.drew := hbl.drew
        have HD1 := Lib.hid hd1
        have HD2 := Lib.hid hd2
        have HD3 := Lib.hid hd3
        have HM := Lib.hid hm
        have HM2 := Lib.hid hm2
        clear hV hm hq hm2 hb3 hnew hd1 hd2 hd3
        go_still_tail 9, (by kernel_rfl)
        change wpList _ _ _ _ _ wr.drew
        generalize wr.drew = w5 at *
        go_wp2
        have e1 : (b : Int) + 1 = ((lo + (j + 1) : Nat) : Int) := by rw [HB2.out]; omega
        have fin : (∃ j', j' ≤ hi + 1 - lo ∧ (Value.int .i64 ((b : Int) + 1)) = .int .i64 (lo + j' : Nat) ∧ (w5.setCell ⟨X, 3, none⟩ (.int .u64 (V : Int))).heap[X]? = some (.cells (s.withN lo j').cells 103 (0, 0)) ∧ (w5.setCell ⟨X, 3, none⟩ (.int .u64 (V : Int))).heap[X + 1]? = some (.cells #[.int .u64 0, .int .u64 0, .int .u64 0, .int .u64 0] 103 (0, 0)) ∧ Below X w (w5.setCell ⟨X, 3, none⟩ (.int .u64 (V : Int)))) := by
          refine ⟨j + 1, ?_, by rw [e1], ?_, ?_, ?_⟩
          · have h1 := HLT.out; have h2 := HB2.out; have h3 := HJ.out; omega
          · rw [HN.out]; exact block_setCell HD1.out
          · exact (heap_setCell_other _ _ _ _ (by show X + 1 ≠ X; omega)).trans HD2.out
          · exact HD3.out.setCell (by exact Nat.le_refl _) _
        first
          | exact ⟨fin, by simp [intOf]; omega⟩
          | (refine ⟨?_, by simp [intOf]; omega⟩; repeat apply Exists.intro; exact ⟨fin, rfl⟩)
    · have g1 : ¬ ((b : Nat) : Int) ≤ (hi : Int) := by omega
      have hd : sj = s.with lo hi := by
        rw [hsj]
        unfold S4.with
        rw [show hi + 1 - lo = j by omega]
      have c0 : wr.cell? ⟨X, 0, none⟩ = some (.int .u64 (sj.a : Nat)) := cell_at hx rfl
      have c1 : wr.cell? ⟨X, 1, none⟩ = some (.int .u64 (sj.b : Nat)) := cell_at hx rfl
      have c2 : wr.cell? ⟨X, 2, none⟩ = some (.int .u64 (sj.c : Nat)) := cell_at hx rfl
      have c3 : wr.cell? ⟨X, 3, none⟩ = some (.int .u64 (sj.d : Nat)) := cell_at hx rfl
      have r0 : wr.cell? ⟨X + 1, 0, none⟩ = some (.int .u64 0) := cell_at hr rfl
      have r1 : wr.cell? ⟨X + 1, 1, none⟩ = some (.int .u64 0) := cell_at hr rfl
      have r2 : wr.cell? ⟨X + 1, 2, none⟩ = some (.int .u64 0) := cell_at hr rfl
      have r3 : wr.cell? ⟨X + 1, 3, none⟩ = some (.int .u64 0) := cell_at hr rfl
      have g0 : ∀ o, wr.frozen? ⟨X + 1, o, none⟩ = false := fun o => free_at hr
      have hd' := Lib.hid (congrArg S4.val hd)
      clear hx hr hsj hd
      go_wp2
      exact bodyPost_ret (v := sj.val) (by simp [results, Try.results78, go_sem, r0, r1, r2, r3, S4.val]) rfl ⟨by rw [hd'.out], ((((hbl.setCell (by show X ≤ X + 1; omega) _).setCell (by show X ≤ X + 1; omega) _).setCell (by show X ≤ X + 1; omega) _).setCell (by show X ≤ X + 1; omega) _)⟩
end Go.Proofs.Ytdmajbdgjjmlkaa
