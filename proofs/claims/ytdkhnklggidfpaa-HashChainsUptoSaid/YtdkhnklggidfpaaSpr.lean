/- The numbers W of a block: what the call returns; nothing that was there turns. Conditions: the block's 64 bytes lie where the pointer leads. -/
import Derived.Test.YtdkhnklggidfpaaOps
import Derived.StillTailTactics
namespace Go.Proofs.Ytdkhnklggidfpaa
open Go.RowKit

theorem block_lt {w : World} {b : Nat} {o : Obj} (h : w.heap[b]? = some o) : b < w.heap.size := by
  rcases Nat.lt_or_ge b w.heap.size with h' | h'
  · exact h'
  · simp [Array.getElem?_eq_none h'] at h
theorem block_setCell {w : World} {b o : Nat} {C : Array Value} {t : TypeId} {fr : Nat × Nat} {u : Value} (h : w.heap[b]? = some (.cells C t fr)) :
    (w.setCell ⟨b, o, none⟩ u).heap[b]? = some (.cells (C.setIfInBounds o u) t fr) := by
  have hlt := block_lt h
  have h' : w.heap[b] = .cells C t fr := by simpa [Array.getElem?_eq_getElem hlt] using h
  show (w.heap.modify b _)[b]? = _
  rw [Array.getElem?_eq_getElem (by simpa using hlt), Array.getElem_modify_self, h']
  rfl
theorem block_free {w : World} {b o : Nat} {C : Array Value} {t : TypeId} (h : w.heap[b]? = some (.cells C t (0, 0))) : w.frozen? ⟨b, o, none⟩ = false := by simp [World.frozen?, h]
theorem block_new (w : World) (o : Obj) : (w.alloc o).heap[w.heap.size]? = some o := by
  show (w.heap.push o)[w.heap.size]? = _
  simp
def cellB (b : UInt8) : Value := .int .u8 (b.toNat : Int)
/-- a block's bytes lie from place o of block b on -/
def At (w : World) (b o : Nat) (l : List UInt8) : Prop := ∀ i, i < l.length → w.cell? ⟨b, o + i, none⟩ = some (.int .u8 ((l.getD i 0).toNat : Int))
theorem At.below {w w' : World} {b o : Nat} {l : List UInt8} {B : Nat} (h : At w b o l) (hb : Below B w w') (hlt : b < B) : At w' b o l := fun i hi => by
  rw [hb.cell (p := ⟨b, o + i, none⟩) hlt]; exact h i hi

theorem addr_at (b o i : Nat) : (⟨b, o, none⟩ : Addr).add i = ⟨b, o + i, none⟩ := Addr.add_mid b o i
theorem Try.arr51 : Try.prog.underlying 51 = some (.array (Try.prog.arrayLen 51) (Try.prog.elem 51)) := by kernel_rfl
theorem Try.len51 : Try.prog.arrayLen 51 = 64 := by kernel_rfl
theorem Try.one5 : ∀ w, (Go.sizeOf (Try.prog.elem 51)).run Try.prog w = .ok 1 w := by
  intro w
  have h : (Try.prog.info? (Try.prog.elem 51)).map (fun i => (i.zero, i.size)) = some (some (.int .u8 0), 1) := by kernel_rfl
  have := (zero_of_info h).2
  cases hq : Try.prog.info? (Try.prog.elem 51) with
  | none => simp [hq] at this
  | some i => simp [hq] at this; simp [sizeOf, typeInfo, hq, this]
theorem slice51_lh (b o l h : Nat) (h1 : l ≤ h) (h2 : h ≤ 64) (h3 : l < 64) (w : World) :
    (Instr.sliceAt 51 (.pointer (some ⟨b, o, none⟩)) (some (.int .i64 (l : Int))) (some (.int .i64 (h : Int))) none).run Try.prog w = .ok (.slice (some ⟨b, o + l, none⟩) (h - l) (64 - l)) w := by
  have hl := Try.len51
  rw [run_sliceAt_array_lh w 51 _ Try.arr51 .i64 .i64 l h (by omega) (by omega) (by rw [hl]; omega), Try.one5, Result.andThen_ok]
  unfold slicedAt
  rw [hl, if_neg (by simp; omega), Nat.mul_one, Int.toNat_natCast, Int.toNat_natCast, addr_at]
theorem slice51_l (b o l : Nat) (h3 : l < 64) (w : World) :
    (Instr.sliceAt 51 (.pointer (some ⟨b, o, none⟩)) (some (.int .i64 (l : Int))) none none).run Try.prog w = .ok (.slice (some ⟨b, o + l, none⟩) (64 - l) (64 - l)) w := by
  have hl := Try.len51
  rw [run_sliceAt_array_l w 51 _ Try.arr51 .i64 l (by omega) (by rw [hl]; omega), Try.one5, Result.andThen_ok]
  unfold slicedAt
  rw [hl, if_neg (by simp; omega), Nat.mul_one, Int.toNat_natCast, addr_at]
theorem slice51_all (b o : Nat) (w : World) :
    (Instr.sliceAt 51 (.pointer (some ⟨b, o, none⟩)) none none none).run Try.prog w = .ok (.slice (some ⟨b, o, none⟩) 64 64) w := by
  have hl := Try.len51
  rw [run_sliceAt_array_all w 51 _ Try.arr51, Try.one5, Result.andThen_ok]
  unfold slicedAt
  rw [hl, if_neg (by simp), Nat.mul_one, addr_at]; rfl
theorem Try.arr65 : Try.prog.underlying 65 = some (.array (Try.prog.arrayLen 65) (Try.prog.elem 65)) := by kernel_rfl
theorem Try.len65 : Try.prog.arrayLen 65 = 64 := by kernel_rfl
theorem size_of_info {t : TypeId} {v : Value} {n : Nat} (h : (Try.prog.info? t).map (fun i => (i.zero, i.size)) = some (some v, n)) : ∀ w, (Go.sizeOf t).run Try.prog w = .ok n w := by
  intro w
  have := (zero_of_info h).2
  cases hq : Try.prog.info? t with
  | none => simp [hq] at this
  | some i => simp [hq] at this; simp [sizeOf, typeInfo, hq, this]
theorem Try.one65 : ∀ w, (Go.sizeOf (Try.prog.elem 65)).run Try.prog w = .ok 1 w :=
  size_of_info (v := .int .u32 0) (by kernel_rfl)
theorem index65 (b i : Nat) (h : i < 64) (w : World) :
    (Instr.indexAt 65 (.pointer (some ⟨b, 0, none⟩)) (.int .i64 (i : Int))).run Try.prog w = .ok (.pointer (some ⟨b, i, none⟩)) w := by
  rw [run_indexAt_array w 65 _ _ _ Try.arr65, Try.len65, if_pos (by omega), Try.one65, Result.andThen_ok, addr_at, Nat.mul_one, Int.toNat_natCast, Nat.zero_add]

theorem u32w (n : Int) : IntKind.u32.wrap n = n % 4294967296 := by simp [IntKind.wrap, IntKind.bits, IntKind.signed]
theorem or_add (a b k : Nat) (h : b < 2 ^ k) : a * 2 ^ k ||| b = a * 2 ^ k + b := by
  rw [Nat.mul_comm]; exact (Nat.two_pow_add_eq_or_of_lt h a).symm
theorem word_eq (x0 x1 x2 x3 : UInt8) :
    bits BinOp.or IntKind.u32
      (bits BinOp.or IntKind.u32
        (bits BinOp.or IntKind.u32 (IntKind.u32.wrap (IntKind.u32.wrap (x0.toNat : Int) * 16777216)) (IntKind.u32.wrap (IntKind.u32.wrap (x1.toNat : Int) * 65536)))
        (IntKind.u32.wrap (IntKind.u32.wrap (x2.toNat : Int) * 256)))
      (IntKind.u32.wrap (x3.toNat : Int)) = ((x0.toNat * 16777216 + x1.toNat * 65536 + x2.toNat * 256 + x3.toNat : Nat) : Int) := by
  have h0 := x0.toNat_lt
  have h1 := x1.toNat_lt
  have h2 := x2.toNat_lt
  have h3 := x3.toNat_lt
  generalize x0.toNat = y0 at *
  generalize x1.toNat = y1 at *
  generalize x2.toNat = y2 at *
  generalize x3.toNat = y3 at *
  have e0 : IntKind.u32.wrap (IntKind.u32.wrap (y0 : Int) * 16777216) = ((y0 * 2 ^ 24 : Nat) : Int) := by rw [u32w, u32w]; omega
  have e1 : IntKind.u32.wrap (IntKind.u32.wrap (y1 : Int) * 65536) = ((y1 * 2 ^ 16 : Nat) : Int) := by rw [u32w, u32w]; omega
  have e2 : IntKind.u32.wrap (IntKind.u32.wrap (y2 : Int) * 256) = ((y2 * 2 ^ 8 : Nat) : Int) := by rw [u32w, u32w]; omega
  have e3 : IntKind.u32.wrap (y3 : Int) = (y3 : Int) := by rw [u32w]; omega
  rw [e0, e1, e2, e3, u32_or_nat _ _ (by omega) (by omega), or_add _ _ 24 (by omega)]
  rw [show y0 * 2 ^ 24 + y1 * 2 ^ 16 = (y0 * 2 ^ 8 + y1) * 2 ^ 16 by omega, u32_or_nat _ _ (by omega) (by omega), or_add _ _ 16 (by omega)]
  rw [show (y0 * 2 ^ 8 + y1) * 2 ^ 16 + y2 * 2 ^ 8 = ((y0 * 2 ^ 8 + y1) * 2 ^ 8 + y2) * 2 ^ 8 by omega, u32_or_nat _ _ (by omega) (by omega), or_add _ _ 8 (by omega)]
theorem ror_still (x n : Nat) (hx : x < 4294967296) (h1 : 1 ≤ n) (h2 : n ≤ 31) (w : World) :
    Calls Try.prog 43 #[.int .u32 x, .int .i64 (n : Int)] w fun e w' => e = .returned (.int .u32 (ror x n : Nat)) ∧ w' = w :=
  (ror_any x n hx h1 h2 w).mono fun _ _ h => ⟨h.1, h.2.symm⟩
def fillW (l : List Nat) (n : Nat) : List Nat := l ++ List.replicate n 0

theorem fill_at (l : List Nat) (n i : Nat) (h : i < l.length) : (wcells (fillW l n))[i]? = some (.int .u32 (l.getD i 0 : Nat)) := by
  rw [wcells_at _ _ (by simp [fillW]; omega)]
  simp [fillW, List.getElem?_append_left h]
theorem fill_new (l : List Nat) (n : Nat) : (wcells (fillW l (n + 1)))[l.length]? = some (.int .u32 0) := by
  rw [wcells_at _ _ (by simp [fillW])]
  simp [fillW]
theorem fill_set (l : List Nat) (n x : Nat) : (wcells (fillW l (n + 1))).setIfInBounds l.length (cellW x) = wcells (fillW (l ++ [x]) n) := by
  unfold wcells fillW
  rw [List.setIfInBounds_toArray]
  congr 1
  rw [← List.map_set]
  congr 1
  rw [List.set_append_right _ _ (Nat.le_refl _)]
  simp [List.replicate_succ]

theorem xor32 (a b : Nat) (ha : a < 4294967296) (hb : b < 4294967296) : bits BinOp.xor IntKind.u32 (a : Int) (b : Int) = ((a ^^^ b : Nat) : Int) := u32_xor_nat a b ha hb
theorem wstep (u x v y : Nat) (hx : x < 4294967296) (hy : y < 4294967296) :
    ((u : Int) + bits BinOp.xor IntKind.u32 (bits BinOp.xor IntKind.u32 (ror x 7 : Nat) (ror x 18 : Nat)) ((x : Int) / 8) + v + bits BinOp.xor IntKind.u32 (bits BinOp.xor IntKind.u32 (ror y 17 : Nat) (ror y 19 : Nat)) ((y : Int) / 1024)) % 4294967296
      = ((add (add (add u (s7 x)) v) (s17 y) : Nat) : Int) := by
  have e1 : ((x : Int) / 8) = ((x / 8 : Nat) : Int) := by omega
  have e2 : ((y : Int) / 1024) = ((y / 1024 : Nat) : Int) := by omega
  rw [e1, e2, xor32 _ _ (ror_lt _ hx) (ror_lt _ hx), xor32 _ _ (xor_lt (ror_lt _ hx) (ror_lt _ hx)) (by omega), xor32 _ _ (ror_lt _ hy) (ror_lt _ hy), xor32 _ _ (xor_lt (ror_lt _ hy) (ror_lt _ hy)) (by omega)]
  show ((u : Int) + (s7 x : Nat) + v + (s17 y : Nat)) % 4294967296 = _
  unfold add
  generalize s7 x = p
  generalize s17 y = q
  omega
theorem below_setRow {B g : Nat} {a w : World} (h : Below B a w) (hg : B ≤ g) (cs : Array Value) : Below B a (w.setRow g cs) :=
  ⟨h.os, h.tape, h.output, by rw [setRow_size]; exact h.size, fun k hk => by rw [setRow_other _ _ _ _ (by omega)]; exact h.block k hk⟩
theorem below_drewN {B : Nat} {a w : World} (h : Below B a w) (n : Nat) : Below B a (w.drewN n) := ⟨h.os, h.tape, h.output, h.size, h.block⟩

set_option maxRecDepth 100000 in
set_option maxHeartbeats 1000000 in
theorem spread_any (b o : Nat) (l : List UInt8) (hl : l.length = 64) (w : World) (hb : b < w.heap.size) (hat : At w b o l) :
    Calls Try.prog 42 #[.pointer (some ⟨b, o, none⟩)] w fun e w' => e = .returned (.agg (wcells (ws l 64))) ∧ Below w.heap.size w w' := by
  obtain ⟨B, hB⟩ : ∃ B, B = w.heap.size := ⟨_, rfl⟩
  have HB := Lib.hid hB
  clear hB
  go_enter Try.func42, Try.ntmps42
  go_wp2_with (first
    | (refine op_alloc rfl _ rfl _ Try.zero65 ?_))
  rw [← HB.out]
  have hsz : ((w.alloc (.cells (wcells (List.replicate 64 0)) 65)).alloc (.cells (wcells (List.replicate 64 0)) 65)).heap[B + 1]? = some (.cells (wcells (fillW [] 64)) 65 (0, 0)) := by
    have := block_new (w.alloc (.cells (wcells (List.replicate 64 0)) 65)) (.cells (wcells (List.replicate 64 0)) 65)
    rw [show (w.alloc (.cells (wcells (List.replicate 64 0)) 65)).heap.size = B + 1 from by rw [HB.out]; simp] at this
    exact this
  have hzz : ((w.alloc (.cells (wcells (List.replicate 64 0)) 65)).alloc (.cells (wcells (List.replicate 64 0)) 65)).heap[B]? = some (.cells (wcells (List.replicate 64 0)) 65 (0, 0)) := by
    rw [Below.heap_alloc _ _ _ (by rw [HB.out]; simp), HB.out]
    exact block_new _ _
  have hbl : Below B w ((w.alloc (.cells (wcells (List.replicate 64 0)) 65)).alloc (.cells (wcells (List.replicate 64 0)) 65)) := by
    rw [HB.out]; exact ((Below.refl _ _).alloc (Nat.le_refl _) _).alloc (by simp) _
  have hb' : b < B := by rw [HB.out]; exact hb
  clear hb
  go_loopw [4, 5, 9] (fun _ _ i wr => ∃ k : Nat, k ≤ 16 ∧ i = .int .i64 k ∧ wr.heap[B + 1]? = some (.cells (wcells (fillW (ws l k) (64 - k))) 65 (0, 0)) ∧ wr.heap[B]? = some (.cells (wcells (List.replicate 64 0)) 65 (0, 0)) ∧ Below B w wr) (fun _ _ i _ => 16 - (intOf i).toNat)
  case atStart => exact ⟨0, by omega, rfl, hsz, hzz, hbl⟩
  case round =>
    obtain ⟨k, hk, rfl, hrow, hzr, hbel⟩ := hrel
    by_cases hlt : k < 16
    · have hA := hat.below hbel hb'
      have c0 := hA (4 * k) (by omega)
      have c1 := hA (4 * k + 1) (by omega)
      have c2 := hA (4 * k + 2) (by omega)
      have c3 := hA (4 * k + 3) (by omega)
      have hsl := slice51_lh b o (4 * k) (4 * k + 4) (by omega) (by omega) (by omega) wr
      rw [show 4 * k + 4 - 4 * k = 4 by omega] at hsl
      rw [show ((4 * k : Nat) : Int) = 4 * (k : Int) by omega, show ((4 * k + 4 : Nat) : Int) = 4 * (k : Int) + 4 by omega] at hsl
      rw [← Nat.add_assoc] at c1 c2 c3
      have hfree : wr.frozen? ⟨B + 1, k, none⟩ = false := block_free hrow
      have hcell : wr.cell? ⟨B + 1, k, none⟩ = some (.int .u32 0) := by
        rw [cell_of_row wr (B + 1) k _ _ _ hrow]
        have := fill_new (ws l k) (64 - k - 1)
        rwa [ws_length, show 64 - k - 1 + 1 = 64 - k by omega] at this
      have HR := Lib.hid hrow
      have HZ := Lib.hid hzr
      clear hrow hzr
      go_wp2
      obtain ⟨x0, hx0⟩ : ∃ x, x = l.getD (4 * k) 0 := ⟨_, rfl⟩
      obtain ⟨x1, hx1⟩ : ∃ x, x = l.getD (4 * k + 1) 0 := ⟨_, rfl⟩
      obtain ⟨x2, hx2⟩ : ∃ x, x = l.getD (4 * k + 2) 0 := ⟨_, rfl⟩
      obtain ⟨x3, hx3⟩ : ∃ x, x = l.getD (4 * k + 3) 0 := ⟨_, rfl⟩
      rw [← hx0] at c0
      rw [← hx1] at c1
      rw [← hx2] at c2
      rw [← hx3] at c3
      have HX := Lib.hid (And.intro (And.intro hx0 hx1) (And.intro hx2 hx3))
      clear hx0 hx1 hx2 hx3
      have hix := index65 (B + 1) k (by omega)
      go_still_tail 24, (by kernel_rfl)
      change wpList _ _ _ _ _ wr.drew
      rw [word_eq]
      go_wp2
      go_roundw
      case rel =>
        refine ⟨k + 1, by omega, by go_num, ?_, (by show (wr.setCell _ _).heap[B]? = _; rw [Below.heap_setCell _ _ _ _ (by show B ≠ B + 1; omega)]; exact HZ.out), (hbel.setCell (by exact Nat.le_succ _) _).drew⟩
        show (wr.setCell _ _).heap[B + 1]? = _
        rw [block_setCell HR.out]
        have hs := fill_set (ws l k) (64 - (k + 1)) (word l (4 * k))
        rw [ws_length, show 64 - (k + 1) + 1 = 64 - k by omega] at hs
        have hw : ws l (k + 1) = ws l k ++ [word l (4 * k)] := by simp [ws, hlt]
        rw [hw, ← hs]
        unfold cellW word
        rw [← HX.out.1.1, ← HX.out.1.2, ← HX.out.2.1, ← HX.out.2.2]
        simp
      case measure => simp [intOf]; omega
    · have hk16 : k = 16 := by omega
      subst hk16
      clear hk hlt
      go_wp2
      go_loopw [6, 7, 8] (fun i _ _ wr => ∃ n : Nat, 16 ≤ n ∧ n ≤ 64 ∧ i = .int .i64 n ∧ wr.heap[B + 1]? = some (.cells (wcells (fillW (ws l n) (64 - n))) 65 (0, 0)) ∧ wr.heap[B]? = some (.cells (wcells (List.replicate 64 0)) 65 (0, 0)) ∧ Below B w wr) (fun i _ _ _ => 64 - (intOf i).toNat)
      case atStart => exact ⟨16, by omega, by omega, rfl, hrow, hzr, hbel⟩
      case round =>
        obtain ⟨n, hn16, hn, rfl, hrow, hzr, hbel⟩ := hrel
        by_cases hlt : n < 64
        · have hln := ws_length l n
          have c1 : wr.cell? ⟨B + 1, n - 15, none⟩ = some (.int .u32 ((ws l n).getD (n - 15) 0 : Nat)) := by
            rw [cell_of_row wr (B + 1) _ _ _ _ hrow, fill_at _ _ _ (by omega)]
          have c2 : wr.cell? ⟨B + 1, n - 2, none⟩ = some (.int .u32 ((ws l n).getD (n - 2) 0 : Nat)) := by
            rw [cell_of_row wr (B + 1) _ _ _ _ hrow, fill_at _ _ _ (by omega)]
          have c3 : wr.cell? ⟨B + 1, n - 16, none⟩ = some (.int .u32 ((ws l n).getD (n - 16) 0 : Nat)) := by
            rw [cell_of_row wr (B + 1) _ _ _ _ hrow, fill_at _ _ _ (by omega)]
          have c4 : wr.cell? ⟨B + 1, n - 7, none⟩ = some (.int .u32 ((ws l n).getD (n - 7) 0 : Nat)) := by
            rw [cell_of_row wr (B + 1) _ _ _ _ hrow, fill_at _ _ _ (by omega)]
          have hcell : wr.cell? ⟨B + 1, n, none⟩ = some (.int .u32 0) := by
            rw [cell_of_row wr (B + 1) n _ _ _ hrow]
            have := fill_new (ws l n) (64 - n - 1)
            rwa [ws_length, show 64 - n - 1 + 1 = 64 - n by omega] at this
          have hlw : ∀ i, (ws l n).getD i 0 < 4294967296 := by
            intro i
            rcases Nat.lt_or_ge i n with h | h
            · have e : (ws l n).getD i 0 = (ws l n)[i]'(by omega) := by simp [List.getD, List.getElem?_eq_getElem (show i < (ws l n).length by omega)]
              rw [e]; exact ws_lt l n _ (List.getElem_mem _)
            · have e : (ws l n).getD i 0 = 0 := by simp [List.getD, List.getElem?_eq_none (show (ws l n).length ≤ i by omega)]
              rw [e]; decide
          have hl1 := hlw (n - 15)
          have hl2 := hlw (n - 2)
          have hl3 := hlw (n - 16)
          have hl4 := hlw (n - 7)
          have HW : Hid (ws l (n + 1) = ws l n ++ [wnext (ws l n) n]) := by unfold Hid; simp [ws]; omega
          unfold wnext at HW
          generalize (ws l n).getD (n - 15) 0 = x at *
          generalize (ws l n).getD (n - 2) 0 = y at *
          generalize (ws l n).getD (n - 16) 0 = u at *
          generalize (ws l n).getD (n - 7) 0 = v at *
          have hfree : wr.frozen? ⟨B + 1, n, none⟩ = false := block_free hrow
          have i5 := index65 (B + 1) n (by omega)
          have w1 : IntKind.i64.wrap ((n : Int) - 15) = ((n - 15 : Nat) : Int) := by rw [IntKind.wrap_i64]; omega
          have w2 : IntKind.i64.wrap ((n : Int) - 2) = ((n - 2 : Nat) : Int) := by rw [IntKind.wrap_i64]; omega
          have w3 : IntKind.i64.wrap ((n : Int) - 16) = ((n - 16 : Nat) : Int) := by rw [IntKind.wrap_i64]; omega
          have w4 : IntKind.i64.wrap ((n : Int) - 7) = ((n - 7 : Nat) : Int) := by rw [IntKind.wrap_i64]; omega
          have v1 : (n : Int) - 15 = ((n - 15 : Nat) : Int) := by omega
          have v2 : (n : Int) - 2 = ((n - 2 : Nat) : Int) := by omega
          have g1 : ((n - 15 : Nat) : Int) < 64 := by omega
          have g2 : ((n - 2 : Nat) : Int) < 64 := by omega
          have g3 : ((n - 16 : Nat) : Int) < 64 := by omega
          have g4 : ((n - 7 : Nat) : Int) < 64 := by omega
          generalize n - 15 = p1 at *
          generalize n - 2 = p2 at *
          generalize n - 16 = p3 at *
          generalize n - 7 = p4 at *
          have HR := Lib.hid hrow
          have HZ := Lib.hid hzr
          clear hrow hlw hzr
          go_wp2
          go_quiet (fail)
          have hRN : (wr.drewN nq).heap = wr.heap := by simp
          have c3N : (wr.drewN nq).cell? ⟨B + 1, p3, none⟩ = some (.int .u32 (u : Nat)) := by unfold World.cell? at c3 ⊢; rw [hRN]; exact c3
          have c4N : (wr.drewN nq).cell? ⟨B + 1, p4, none⟩ = some (.int .u32 (v : Nat)) := by unfold World.cell? at c4 ⊢; rw [hRN]; exact c4
          have hcN : (wr.drewN nq).cell? ⟨B + 1, n, none⟩ = some (.int .u32 0) := by unfold World.cell? at hcell ⊢; rw [hRN]; exact hcell
          have hfN : (wr.drewN nq).frozen? ⟨B + 1, n, none⟩ = false := by unfold World.frozen? at hfree ⊢; rw [hRN]; exact hfree
          have HRN := Lib.hid hRN
          have hbN := below_drewN hbel nq
          clear hRN c1 c2 c3 c4 hcell hfree
          generalize wr.drewN nq = W at *
          go_wp2
          go_still_tail 29, (by kernel_rfl)
          still_call (ror_still x 7 hl1 (by decide) (by decide) _)
          repeat still_step
          still_call (ror_still x 18 hl1 (by decide) (by decide) _)
          repeat still_step
          still_call (ror_still y 17 hl2 (by decide) (by decide) _)
          repeat still_step
          still_call (ror_still y 19 hl2 (by decide) (by decide) _)
          repeat still_step
          refine wpStill_nil ?_
          change wpList _ _ _ _ _ W.drew
          go_wp2
          refine ⟨?_, ?measure⟩
          iterate 44 apply Exists.intro
          refine ⟨?rel, rfl⟩
          case rel =>
            rw [wstep u x v y hl1 hl2]
            refine ⟨n + 1, by omega, by omega, by go_num, ?_, (by show (W.setCell _ _).heap[B]? = _; rw [Below.heap_setCell _ _ _ _ (by show B ≠ B + 1; omega), HRN.out]; exact HZ.out), (hbN.setCell (by exact Nat.le_succ _) _).drew⟩
            show (W.setCell _ _).heap[B + 1]? = _
            have hRW : W.heap[B + 1]? = some (.cells (wcells (fillW (ws l n) (64 - n))) 65 (0, 0)) := by rw [HRN.out]; exact HR.out
            rw [block_setCell hRW]
            have hs := fill_set (ws l n) (64 - (n + 1)) (add (add (add u (s7 x)) v) (s17 y))
            rw [hln, show 64 - (n + 1) + 1 = 64 - n by omega] at hs
            rw [HW.out, ← hs]
            rfl
          case measure => simp [intOf]; omega
        · have hn64 : n = 64 := by omega
          subst hn64
          have hrow' : wr.heap[B + 1]? = some (.cells (wcells (ws l 64)) 65 (0, 0)) := by rw [hrow]; simp [fillW]
          clear hrow
          go_wp2_with (first
            | (refine wpList_load_row rfl _ _ rfl (B + 1) rfl 65 _ (0, 0) _ hrow' Try.underlying65 rfl (by rw [Try.size65, wcells_size, ws_length]) ?_)
            | (refine wpList_store_row rfl _ _ _ rfl B (wcells (ws l 64)) rfl rfl 65 (wcells (List.replicate 64 0)) hzr (by rw [Try.size65, wcells_size, ws_length]) (by simp [wcells_size, ws_length]) (wcells_one _) ?_))
          refine bodyPost_ret_by (results_cell_row rfl _ _ B 65 (wcells (ws l 64)) (0, 0) _ rfl (setRow_heap _ _ _ _ _ _ hzr) Try.underlying65 rfl (by rw [Try.size65, wcells_size, ws_length])) rfl ?_
          exact ⟨rfl, by rw [← HB.out]; exact below_setRow hbel (Nat.le_refl _) _⟩
end Go.Proofs.Ytdkhnklggidfpaa
