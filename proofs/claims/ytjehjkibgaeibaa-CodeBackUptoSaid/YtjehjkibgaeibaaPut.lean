/- The forms of numbers and texts, by the code and by the document's answer: what each call returns; nothing that was there turns. Conditions: an int is within 64 bits, a string's bytes are at most maxLen. -/
import Derived.Test.YtjehjkibgaeibaaLeaf
import Derived.Laws.IdiomStrings
import Derived.WalkSmall
namespace Go.Proofs.Ytjehjkibgaeibaa
open Go.RowKit

theorem Try.info5 : (Try.prog.info? 5).map (fun i => (i.zero, i.size, i.bytes)) = some (some (.int .u8 0), 1, 1) := by kernel_rfl

theorem block_lt {w : World} {b : Nat} {o : Obj} (h : w.heap[b]? = some o) : b < w.heap.size := by
  rcases Nat.lt_or_ge b w.heap.size with h' | h'
  · exact h'
  · simp [Array.getElem?_eq_none h'] at h
theorem block_setCell {w : World} {b o : Nat} {C : Array Value} {t : TypeId} {fr : Nat × Nat} {u : Value} (h : w.heap[b]? = some (.cells C t fr)) :
    (w.setCell ⟨b, o, none⟩ u).heap[b]? = some (.cells (C.setIfInBounds o u) t fr) := by
  have hlt := block_lt h
  have h' : w.heap[b] = .cells C t fr := by simpa [Array.getElem?_eq_getElem hlt] using h
  show (w.heap.modify b _)[b]? = _
  rw [Array.getElem?_eq_getElem (by simpa using hlt), Array.getElem_modify_self, h']
  rfl
theorem block_free {w : World} {b o : Nat} {C : Array Value} {t : TypeId} (h : w.heap[b]? = some (.cells C t (0, 0))) : w.frozen? ⟨b, o, none⟩ = false := by simp [World.frozen?, h]
theorem addr_add (b i : Nat) : (⟨b, 0, none⟩ : Addr).add i = ⟨b, i, none⟩ := by unfold Addr.add; split <;> simp_all
theorem block_new (w : World) (o : Obj) : (w.alloc o).heap[w.heap.size]? = some o := by
  show (w.heap.push o)[w.heap.size]? = _
  simp

def cellU (b : UInt8) : Value := .int .u8 (b.toNat : Int)
/-- what stands in the new row when d bytes are still to come -/
def rowC (n : Int) (d j : Nat) : Array Value := ((List.replicate d (0 : UInt8) ++ putS n j).map cellU).toArray
theorem rowC_at (n : Int) (d j : Nat) : (rowC n (d + 1) j)[d]? = some (.int .u8 0) := by
  unfold rowC
  rw [List.getElem?_toArray, List.getElem?_map, List.getElem?_append_left (by simp), List.getElem?_replicate, if_pos (by omega)]; rfl
theorem rowC_set (n : Int) (d j : Nat) : (rowC n (d + 1) j).setIfInBounds d (cellU (byteOf (n / 256 ^ j))) = rowC n d (j + 1) := by
  unfold rowC
  rw [List.setIfInBounds_toArray]
  congr 1
  rw [← List.map_set]
  congr 1
  rw [List.set_append_left _ _ (by simp), show d + 1 = d + 1 from rfl, List.replicate_succ', List.set_append_right _ _ (by simp)]
  simp [putS]
theorem rowC_made (n : Int) (m : Nat) : madeCells (Value.int .u8 0).cells (m * 1) = rowC n m 0 := by
  unfold rowC madeCells
  simp only [putS, List.append_nil, List.map_replicate]
  apply Array.ext
  · simp
  · intro i h1 h2
    simp [cellU, Value.cells, Nat.mod_one]
theorem rowC_done (n : Int) (m i : Nat) (h : i < m) : (rowC n 0 m)[i]? = some (.int .u8 (((putS n m)[i]'(by rw [putS_length]; exact h)).toNat : Int)) := by
  unfold rowC
  have hl : i < (putS n m).length := by rw [putS_length]; exact h
  simp [List.getElem?_eq_getElem hl, cellU]

theorem div_step (n : Int) (j : Nat) : n / 256 ^ j / 256 = n / 256 ^ (j + 1) := by
  have hp : (0 : Int) < 256 ^ j := Int.pow_pos (by decide)
  rw [Int.pow_succ, Int.ediv_ediv_of_nonneg (by omega)]
theorem ret_str {a b : List UInt8} (h : a = b) : Ending.returned (.string ⟨a.toArray⟩) = .returned (.string ⟨b.toArray⟩) := by rw [h]

set_option maxHeartbeats 400000 in
theorem put_any (n : Int) (m : Nat) (w : World) (hm : 1 ≤ m) (hm8 : m ≤ 8) :
    Calls Try.prog 13 #[.int .i64 n, .int .i64 (m : Int)] w fun e w' => e = .returned (.string ⟨(putS n m).toArray⟩) ∧ Below w.heap.size w w' := by
  have hw := isW_yes (n := m) (by omega) (by omega)
  obtain ⟨i0, hi, hz0, hz1, hz2⟩ := info_parts Try.info5
  have hmk := run_make (P := Try.prog) w 46 5 i0 _ Try.underlying46 hi hz0 .i64 .i64 (m : Int) (m : Int) (by omega) (by omega) (by rw [hz2]; omega) (by omega)
  rw [hz1, Int.toNat_natCast, rowC_made n] at hmk
  obtain ⟨B, hB⟩ : ∃ B, B = w.heap.size := ⟨_, rfl⟩
  have HB := Lib.hid hB
  clear hi hz0 hz1 hz2 hB
  go_enter Try.func13, Try.ntmps13
  go_wp2_with (go_at_call 31; refine (isWidth_any _ _).mono ?_; rintro e w' ⟨rfl, rfl⟩)
  rw [← HB.out]
  go_loopw [0, 6] (fun x i wr => ∃ (d j : Nat) (y : Int), j + d = m ∧ i = .int .i64 ((d : Int) - 1) ∧ x = .int .i64 y ∧ Hid (y = n / 256 ^ j) ∧ wr.heap[B]? = some (.cells (rowC n d j) 5 (0, 0)) ∧ Below B w wr) (fun _ i _ => (intOf i + 1).toNat)
  case atStart => exact ⟨m, 0, n, by omega, rfl, rfl, by unfold Hid; simp, by rw [HB.out]; exact block_new _ _, by rw [HB.out]; exact (Below.refl _ _).alloc (Nat.le_refl _) _⟩
  case round =>
    obtain ⟨d, j, y, hdj, rfl, rfl, HY, hrow, hbel⟩ := hrel
    by_cases hd : 1 ≤ d
    · have hcell : wr.cell? ⟨B, d - 1, none⟩ = some (.int .u8 0) := by
        rw [cell_of_row wr B (d - 1) _ _ _ hrow]
        have := rowC_at n (d - 1) j
        rwa [show d - 1 + 1 = d by omega] at this
      have hfree : wr.frozen? ⟨B, d - 1, none⟩ = false := block_free hrow
      have HR := Lib.hid hrow
      clear hrow
      go_wp2
      go_roundw
      case rel =>
        refine ⟨d - 1, j + 1, _, by omega, by go_num, rfl, ?_, ?_, ?_⟩
        · rw [HY.out]; exact div_step n j
        · rw [block_setCell HR.out]
          have := rowC_set n (d - 1) j
          rw [show d - 1 + 1 = d by omega] at this
          rw [← this, cellU, byteOf_toNat, HY.out]
        · exact hbel.setCell (by rw [HB.out]; exact Nat.le_refl _) _
      case measure => simp [intOf]; omega
    · have hj : j = m := by omega
      have hd0 : d = 0 := by omega
      subst hd0
      have hcv := run_convert_bytes_back (P := Try.prog) wr 46 9 5 ⟨B, 0, none⟩ m (putS n m) Try.underlying46 Try.underlying5 Try.underlying9 (fun i hi => by
        rw [putS_length] at hi
        rw [addr_add, cell_of_row wr B i _ _ _ hrow, hj]
        exact rowC_done n m i hi)
      rw [putS_length] at hcv
      clear hrow hdj
      have HJ := Lib.hid hj
      clear hj
      go_wp2
      go_ret
      exact ⟨rfl, by rw [← HB.out]; exact hbel⟩

theorem put_none (n m : Int) (w : World) (hm : ¬ (1 ≤ m ∧ m ≤ 8)) :
    Calls Try.prog 13 #[.int .i64 n, .int .i64 m] w fun e w' => e = .returned (.string ⟨#[]⟩) ∧ w = w' := by
  have hw := isW_no hm
  go_enter Try.func13, Try.ntmps13
  go_wp2_with (go_at_call 31; refine (isWidth_any _ _).mono ?_; rintro e w' ⟨rfl, rfl⟩)
  go_ret
  exact ⟨rfl, rfl⟩

theorem and255 (x : Int) : bits BinOp.and IntKind.i64 x 255 = x % 256 := by
  show IntKind.i64.wrap ((BitVec.ofInt 64 x &&& BitVec.ofInt 64 255).toNat : Int) = _
  rw [BitVec.toNat_and, toNat_ofInt64, toNat_ofInt64]
  have e1 : ((255 : Int) % 18446744073709551616).toNat = 2 ^ 8 - 1 := by decide
  rw [e1, Nat.and_two_pow_sub_one_eq_mod, IntKind.wrap_i64]
  omega
theorem pow_8 (d : Nat) : (2 : Int) ^ (8 * d) = 256 ^ d := by
  rw [Int.pow_mul]; rfl
theorem byte_eq (n : Int) (d : Nat) : bits BinOp.and IntKind.i64 (n / 2 ^ (8 * d)) 255 % 256 = ((byteOf (n / 256 ^ d)).toNat : Int) := by
  rw [and255, byteOf_toNat, pow_8]; omega
theorem putS_drop (n : Int) : ∀ d j, (putS n (j + d)).drop j = putS n d
  | d, 0 => by simp
  | d, j + 1 => by
    rw [show j + 1 + d = (j + d) + 1 by omega]
    show (putS n (j + d)).drop j = _
    exact putS_drop n d j
theorem take_next (n : Int) (d j : Nat) : (putS n (j + (d + 1))).take (j + 1) = (putS n (j + (d + 1))).take j ++ [byteOf (n / 256 ^ d)] := by
  rw [List.take_add_one]
  congr 1
  have h := putS_drop n (d + 1) j
  have : (putS n (j + (d + 1)))[j]? = (putS n (d + 1))[0]? := by rw [← h, List.getElem?_drop]; simp
  rw [this]; rfl

set_option maxHeartbeats 400000 in
theorem rput_any (n : Int) (m : Nat) (w : World) (hm : 1 ≤ m) (hm8 : m ≤ 8) :
    Calls Try.prog 14 #[.int .i64 n, .int .i64 (m : Int)] w fun e w' => e = .returned (.string ⟨(putS n m).toArray⟩) ∧ Below w.heap.size w w' := by
  obtain ⟨i0, hi, hz0, hz1, hz2⟩ := info_parts Try.info5
  obtain ⟨B, hB⟩ : ∃ B, B = w.heap.size := ⟨_, rfl⟩
  have HB := Lib.hid hB
  clear hB
  have d1 : decide ((m : Int) < 1) = false := by simp; omega
  have d2 : decide ((8 : Int) < (m : Int)) = false := by simp; omega
  go_enter Try.func14, Try.ntmps14
  go_wp2
  rw [← HB.out]
  go_loopw [5, 6] (fun v i wr => ∃ (d j : Nat), j + d = m ∧ i = .int .i64 ((d : Int) - 1) ∧ wr.ownsRow B 5 1 v ((putS n m).take j).length (((putS n m).take j).map cellU) ∧ v ≠ .slice none 0 0 ∧ Below B w wr) (fun _ i _ => (intOf i + 1).toNat)
  case atStart =>
    refine ⟨m, 0, by omega, rfl, ?_, by simp, by rw [HB.out]; exact (Below.refl _ _).alloc (Nat.le_refl _) _⟩
    rw [HB.out]
    exact World.ownsRow_made w #[] 0 (Nat.le_refl _) (by decide) rfl
  case round =>
    obtain ⟨d, j, hdj, rfl, hown, hne, hbel⟩ := hrel
    by_cases hd : 1 ≤ d
    · have hlen : ((putS n m).take j).length = j := by rw [List.length_take, putS_length]; omega
      rw [hlen] at hown
      have HE : Hid (Value.int .u8 (bits BinOp.and IntKind.i64 (n / 2 ^ (8 * (d - 1))) 255 % 256) = cellU (byteOf (n / 256 ^ (d - 1)))) := by
        unfold Hid cellU; rw [byte_eq]
      go_wp2_with (at_builtin; refine wpList_append_own _ rfl _ _ 46 rfl B 5 i0 (.int .u8 0) 1 1 Try.underlying46 hi hz0 hz1 hz2 rfl (by decide) _ _ _ rfl (hown.alloc _) ⟨wr.heap.size, 0, none⟩ 1 1 [.int .u8 (bits BinOp.and IntKind.i64 (n / 2 ^ (8 * (d - 1))) 255 % 256)] rfl rfl ?c1 ?c2 ?c3 ?c4 ?c5 ?_)
      case c1 =>
        intro j u hj
        match j, hj with
        | 0, hj => simp at hj; subst hj; simp [Addr.add]
      case c2 => intro u hu; simp at hu; subst hu; rfl
      case c3 => unfold maxLen; omega
      case c4 => omega
      case c5 => have := hbel.size; rw [HB.out]; simp; omega
      · intro v' w1 hown' hgrow hnil
        have hv : v' ≠ .slice none 0 0 := hnil
        have hbel' : Below B w w1 := (hbel.alloc (by have := hbel.size; rw [HB.out]; omega) _).grown hgrow (by have := hbel.size; rw [HB.out]; simp; omega) (fun k hk => (hown.lt k hk).1)
        clear hnil hgrow hown hbel hne
        go_wp2
        go_roundw
        case rel =>
          refine ⟨d - 1, j + 1, by omega, by go_num, ?_, hv, hbel'⟩
          have h1 := take_next n (d - 1) j
          rw [show j + (d - 1 + 1) = m by omega] at h1
          rw [h1, List.length_append, hlen, List.map_append]
          rw [HE.out, ← List.map_take] at hown'
          exact hown'
        case measure => simp [intOf]; omega
    · have hd0 : d = 0 := by omega
      subst hd0
      have hj : j = m := by omega
      have hl : (putS n m).take j = putS n m := by rw [hj, List.take_of_length_le (by rw [putS_length]; omega)]
      rw [hl, putS_length] at hown
      have hown0 := hown
      obtain ⟨_, h2⟩ := hown
      rcases h2 with ⟨h2, _⟩ | ⟨g, cap, cur, hv, hg, hrow, hcap, hcm, hsz, htake⟩
      · exact absurd h2 hne
      · have hcell : ∀ i (hi : i < m), wr.cell? ⟨g, i, none⟩ = some (cellU ((putS n m)[i]'(by rw [putS_length]; exact hi))) := by
          intro i hi
          rw [hv] at hown0
          rw [World.ownsRow.cellAt hown0 i (by omega)]
          simp [List.getElem?_eq_getElem (show i < (putS n m).length by rw [putS_length]; exact hi)]
        have hcv := run_convert_bytes_back (P := Try.prog) wr 46 9 5 ⟨g, 0, none⟩ cap (putS n m) Try.underlying46 Try.underlying5 Try.underlying9 (fun i hi => by
          rw [putS_length] at hi
          rw [addr_add]; exact hcell i hi)
        rw [putS_length] at hcv
        subst hv
        clear hrow hdj htake hsz hl hown0 hcell hne
        have HJ := Lib.hid hj
        clear hj
        go_wp2
        go_ret
        exact ⟨rfl, by rw [← HB.out]; exact hbel⟩

theorem rput_none (n m : Int) (w : World) (hm : ¬ (1 ≤ m ∧ m ≤ 8)) :
    Calls Try.prog 14 #[.int .i64 n, .int .i64 m] w fun e w' => e = .returned (.string ⟨#[]⟩) ∧ Below w.heap.size w w' := by
  by_cases h : m < 1
  · go_enter Try.func14, Try.ntmps14
    go_wp2
    go_ret
    exact ⟨rfl, (Below.refl _ _).alloc (Nat.le_refl _) _⟩
  · have h8 : 8 < m := by omega
    go_enter Try.func14, Try.ntmps14
    go_wp2
    go_ret
    exact ⟨rfl, (Below.refl _ _).alloc (Nat.le_refl _) _⟩


/-- a text's form -/
def textS (l : List UInt8) : List UInt8 := putS (l.length : Nat) 2 ++ l

theorem puttext_long (s : ByteArray) (w : World) (hs : s.size ≤ maxLen) (h : 1024 < s.size) :
    Calls Try.prog 10 #[.string s] w fun e w' => e = .returned (.tuple #[.string ⟨#[]⟩, .int .i64 11]) ∧ w = w' := by
  unfold maxLen at hs
  go_enter Try.func10, Try.ntmps10
  go_wp2
  go_ret2
  exact ⟨rfl, rfl⟩
theorem rputtext_long (s : ByteArray) (w : World) (hs : s.size ≤ maxLen) (h : 1024 < s.size) :
    Calls Try.prog 11 #[.string s] w fun e w' => e = .returned (.tuple #[.string ⟨#[]⟩, .int .i64 11]) ∧ w = w' := by
  unfold maxLen at hs
  go_enter Try.func11, Try.ntmps11
  go_wp2
  go_ret2
  exact ⟨rfl, rfl⟩
theorem put_int (n m : Int) (w : World) (hm : 1 ≤ m) (hm8 : m ≤ 8) :
    Calls Try.prog 13 #[.int .i64 n, .int .i64 m] w fun e w' => e = .returned (.string ⟨(putS n m.toNat).toArray⟩) ∧ Below w.heap.size w w' := by
  obtain ⟨k, rfl⟩ := Int.eq_ofNat_of_zero_le (show 0 ≤ m by omega)
  exact put_any n k w (by omega) (by omega)
theorem rput_int (n m : Int) (w : World) (hm : 1 ≤ m) (hm8 : m ≤ 8) :
    Calls Try.prog 14 #[.int .i64 n, .int .i64 m] w fun e w' => e = .returned (.string ⟨(putS n m.toNat).toArray⟩) ∧ Below w.heap.size w w' := by
  obtain ⟨k, rfl⟩ := Int.eq_ofNat_of_zero_le (show 0 ≤ m by omega)
  exact rput_any n k w (by omega) (by omega)
theorem text_eq (s : ByteArray) : (⟨(putS (s.size : Nat) 2).toArray⟩ ++ s : ByteArray) = ⟨(textS s.data.toList).toArray⟩ := by
  unfold textS
  have e : s.data.toList.length = s.size := by simp
  rw [e]
  apply ByteArray.ext
  simp
theorem puttext_any (s : ByteArray) (w : World) (h : s.size ≤ 1024) :
    Calls Try.prog 10 #[.string s] w fun e w' => e = .returned (.tuple #[.string ⟨(textS s.data.toList).toArray⟩, .int .i64 0]) ∧ Below w.heap.size w w' := by
  have hl : (putS (s.size : Nat) 2).length + s.size ≤ 9223372036854775807 := by rw [putS_length]; omega
  go_enter Try.func10, Try.ntmps10
  go_wp2_with (go_at_call 13; refine (put_int _ _ _ (by decide) (by decide)).mono ?_; rintro e w1 ⟨rfl, hb⟩)
  go_ret2
  exact ⟨by rw [← text_eq]; rfl, hb⟩
theorem rputtext_any (s : ByteArray) (w : World) (h : s.size ≤ 1024) :
    Calls Try.prog 11 #[.string s] w fun e w' => e = .returned (.tuple #[.string ⟨(textS s.data.toList).toArray⟩, .int .i64 0]) ∧ Below w.heap.size w w' := by
  have hl : (putS (s.size : Nat) 2).length + s.size ≤ 9223372036854775807 := by rw [putS_length]; omega
  go_enter Try.func11, Try.ntmps11
  go_wp2_with (go_at_call 14; refine (rput_int _ _ _ (by decide) (by decide)).mono ?_; rintro e w1 ⟨rfl, hb⟩)
  go_ret2
  exact ⟨by rw [← text_eq]; rfl, hb⟩

end Go.Proofs.Ytjehjkibgaeibaa
