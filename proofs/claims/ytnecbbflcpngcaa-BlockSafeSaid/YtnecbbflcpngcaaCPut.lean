/- The forms of numbers and texts, by the code and by the document's answer: what each call returns; nothing that was there turns. Conditions: an int is within 64 bits, a string's bytes are at most maxLen. -/
import Derived.Test.YtnecbbflcpngcaaCLeaf
import Derived.Laws.IdiomStrings
import Derived.WalkSmall
namespace Go.Proofs.Ytnecbbflcpngcaa.Cd
open Go.RowKit
set_option maxRecDepth 20000

theorem Try.info5 : (Try.prog.info? 5).map (fun i => (i.zero, i.size, i.bytes)) = some (some (.int .u8 0), 1, 1) := by kernel_rfl

theorem block_lt {w : World} {b : Nat} {o : Obj} (h : w.heap[b]? = some o) : b < w.heap.size := by
  rcases Nat.lt_or_ge b w.heap.size with h' | h'
  · exact h'
  · simp [Array.getElem?_eq_none h'] at h
theorem block_setCell {w : World} {b o : Nat} {C : Array Value} {t : TypeId} {fr : Nat × Nat} {u : Value} (h : w.heap[b]? = some (.cells C t fr)) :
    (w.setCell ⟨b, o, none⟩ u).heap[b]? = some (.cells (C.setIfInBounds o u) t fr) := by
  have hlt := block_lt h
  have h' : w.heap[b] = .cells C t fr := by simpa [Array.getElem?_eq_getElem hlt] using h
  show (w.heap.modify b _)[b]? = _
  rw [Array.getElem?_eq_getElem (by simpa using hlt), Array.getElem_modify_self, h']
  rfl
theorem block_free {w : World} {b o : Nat} {C : Array Value} {t : TypeId} (h : w.heap[b]? = some (.cells C t (0, 0))) : w.frozen? ⟨b, o, none⟩ = false := by simp [World.frozen?, h]
theorem addr_add (b i : Nat) : (⟨b, 0, none⟩ : Addr).add i = ⟨b, i, none⟩ := by unfold Addr.add; split <;> simp_all
theorem block_new (w : World) (o : Obj) : (w.alloc o).heap[w.heap.size]? = some o := by
  show (w.heap.push o)[w.heap.size]? = _
  simp

def cellU (b : UInt8) : Value := .int .u8 (b.toNat : Int)
/-- what stands in the new row when d bytes are still to come -/
def rowC (n : Int) (d j : Nat) : Array Value := ((List.replicate d (0 : UInt8) ++ putS n j).map cellU).toArray
theorem rowC_at (n : Int) (d j : Nat) : (rowC n (d + 1) j)[d]? = some (.int .u8 0) := by
  unfold rowC
  rw [List.getElem?_toArray, List.getElem?_map, List.getElem?_append_left (by simp), List.getElem?_replicate, if_pos (by omega)]; rfl
theorem rowC_set (n : Int) (d j : Nat) : (rowC n (d + 1) j).setIfInBounds d (cellU (byteOf (n / 256 ^ j))) = rowC n d (j + 1) := by
  unfold rowC
  rw [List.setIfInBounds_toArray]
  congr 1
  rw [← List.map_set]
  congr 1
  rw [List.set_append_left _ _ (by simp), show d + 1 = d + 1 from rfl, List.replicate_succ', List.set_append_right _ _ (by simp)]
  simp [putS]
theorem rowC_made (n : Int) (m : Nat) : madeCells (Value.int .u8 0).cells (m * 1) = rowC n m 0 := by
  unfold rowC madeCells
  simp only [putS, List.append_nil, List.map_replicate]
  apply Array.ext
  · simp
  · intro i h1 h2
    simp [cellU, Value.cells, Nat.mod_one]
theorem rowC_done (n : Int) (m i : Nat) (h : i < m) : (rowC n 0 m)[i]? = some (.int .u8 (((putS n m)[i]'(by rw [putS_length]; exact h)).toNat : Int)) := by
  unfold rowC
  have hl : i < (putS n m).length := by rw [putS_length]; exact h
  simp [List.getElem?_eq_getElem hl, cellU]

theorem div_step (n : Int) (j : Nat) : n / 256 ^ j / 256 = n / 256 ^ (j + 1) := by
  have hp : (0 : Int) < 256 ^ j := Int.pow_pos (by decide)
  rw [Int.pow_succ, Int.ediv_ediv_of_nonneg (by omega)]
theorem ret_str {a b : List UInt8} (h : a = b) : Ending.returned (.string ⟨a.toArray⟩) = .returned (.string ⟨b.toArray⟩) := by rw [h]

set_option maxHeartbeats 400000 in
theorem put_any (n : Int) (m : Nat) (w : World) (hm : 1 ≤ m) (hm8 : m ≤ 8) :
    Calls Try.prog 42 #[.int .i64 n, .int .i64 (m : Int)] w fun e w' => e = .returned (.string ⟨(putS n m).toArray⟩) ∧ Below w.heap.size w w' := by
  have hw := isW_yes (n := m) (by omega) (by omega)
  obtain ⟨i0, hi, hz0, hz1, hz2⟩ := info_parts Try.info5
  have hmk := run_make (P := Try.prog) w 30 5 i0 _ Try.underlying30 hi hz0 .i64 .i64 (m : Int) (m : Int) (by omega) (by omega) (by rw [hz2]; omega) (by omega)
  rw [hz1, Int.toNat_natCast, rowC_made n] at hmk
  obtain ⟨B, hB⟩ : ∃ B, B = w.heap.size := ⟨_, rfl⟩
  have HB := Lib.hid hB
  clear hi hz0 hz1 hz2 hB
  go_enter Try.func42, Try.ntmps42
  go_wp2_with (go_at_call 79; refine (isWidth_any _ _).mono ?_; rintro e w' ⟨rfl, rfl⟩)
  rw [← HB.out]
  go_loopw [0, 6] (fun x i wr => ∃ (d j : Nat) (y : Int), j + d = m ∧ i = .int .i64 ((d : Int) - 1) ∧ x = .int .i64 y ∧ Hid (y = n / 256 ^ j) ∧ wr.heap[B]? = some (.cells (rowC n d j) 5 (0, 0)) ∧ Below B w wr) (fun _ i _ => (intOf i + 1).toNat)
  case atStart => exact ⟨m, 0, n, by omega, rfl, rfl, by unfold Hid; simp, by rw [HB.out]; exact block_new _ _, by rw [HB.out]; exact (Below.refl _ _).alloc (Nat.le_refl _) _⟩
  case round =>
    obtain ⟨d, j, y, hdj, rfl, rfl, HY, hrow, hbel⟩ := hrel
    by_cases hd : 1 ≤ d
    · have hcell : wr.cell? ⟨B, d - 1, none⟩ = some (.int .u8 0) := by
        rw [cell_of_row wr B (d - 1) _ _ _ hrow]
        have := rowC_at n (d - 1) j
        rwa [show d - 1 + 1 = d by omega] at this
      have hfree : wr.frozen? ⟨B, d - 1, none⟩ = false := block_free hrow
      have HR := Lib.hid hrow
      clear hrow
      go_wp2
      go_roundw
      case rel =>
        refine ⟨d - 1, j + 1, _, by omega, by go_num, rfl, ?_, ?_, ?_⟩
        · rw [HY.out]; exact div_step n j
        · rw [block_setCell HR.out]
          have := rowC_set n (d - 1) j
          rw [show d - 1 + 1 = d by omega] at this
          rw [← this, cellU, byteOf_toNat, HY.out]
        · exact hbel.setCell (by rw [HB.out]; exact Nat.le_refl _) _
      case measure => simp [intOf]; omega
    · have hj : j = m := by omega
      have hd0 : d = 0 := by omega
      subst hd0
      have hcv := run_convert_bytes_back (P := Try.prog) wr 30 9 5 ⟨B, 0, none⟩ m (putS n m) Try.underlying30 Try.underlying5 Try.underlying9 (fun i hi => by
        rw [putS_length] at hi
        rw [addr_add, cell_of_row wr B i _ _ _ hrow, hj]
        exact rowC_done n m i hi)
      rw [putS_length] at hcv
      clear hrow hdj
      have HJ := Lib.hid hj
      clear hj
      go_wp2
      go_ret
      exact ⟨rfl, by rw [← HB.out]; exact hbel⟩

theorem put_none (n m : Int) (w : World) (hm : ¬ (1 ≤ m ∧ m ≤ 8)) :
    Calls Try.prog 42 #[.int .i64 n, .int .i64 m] w fun e w' => e = .returned (.string ⟨#[]⟩) ∧ w = w' := by
  have hw := isW_no hm
  go_enter Try.func42, Try.ntmps42
  go_wp2_with (go_at_call 79; refine (isWidth_any _ _).mono ?_; rintro e w' ⟨rfl, rfl⟩)
  go_ret
  exact ⟨rfl, rfl⟩

theorem put_int (n m : Int) (w : World) (hm : 1 ≤ m) (hm8 : m ≤ 8) :
    Calls Try.prog 42 #[.int .i64 n, .int .i64 m] w fun e w' => e = .returned (.string ⟨(putS n m.toNat).toArray⟩) ∧ Below w.heap.size w w' := by
  obtain ⟨k, rfl⟩ := Int.eq_ofNat_of_zero_le (show 0 ≤ m by omega)
  exact put_any n k w (by omega) (by omega)
end Go.Proofs.Ytnecbbflcpngcaa.Cd
