/- A number as eight bytes, a key's bytes each xor a mask, a string's clone: what the calls return; nothing that was there turns. Conditions: the number is below 2^63, the key has at most 64 bytes. -/
import Derived.Test.YtdkhnklggidfpaaWri
import Derived.Test.YtdkhnklggidfpaaShlf
import Derived.Laws.IdiomStrings
namespace Go.Proofs.Ytdkhnklggidfpaa
open Go.RowKit
set_option linter.unusedVariables false

def bcells (l : List UInt8) : Array Value := (l.map cellB).toArray
theorem bcells_size (l : List UInt8) : (bcells l).size = l.length := by simp [bcells]
theorem bcells_at (l : List UInt8) (i : Nat) (h : i < l.length) : (bcells l)[i]? = some (.int .u8 ((l.getD i 0).toNat : Int)) := by
  simp [bcells, cellB, List.getElem?_eq_getElem h]
theorem bcells_set (l : List UInt8) (i : Nat) (c : UInt8) : (bcells l).setIfInBounds i (.int .u8 (c.toNat : Int)) = bcells (l.set i c) := by
  unfold bcells
  rw [List.setIfInBounds_toArray, show Value.int .u8 (c.toNat : Int) = cellB c from rfl, ← List.map_set]
/-- a row of bytes as a string -/
theorem back_of_row {w : World} {B cap : Nat} {l : List UInt8} {t : TypeId} {fr : Nat × Nat} (h : w.heap[B]? = some (.cells (bcells l) t fr)) (n : Nat) (hn : l.length = n) :
    (convert 32 9 (.slice (some ⟨B, 0, none⟩) n cap)).run Try.prog w = .ok (.string ⟨l.toArray⟩) w := by
  subst hn
  refine run_convert_bytes_back (P := Try.prog) w 32 9 5 ⟨B, 0, none⟩ cap l Try.underlying32 Try.underlying5 Try.underlying9 (fun i hi => ?_)
  rw [addr_at, Nat.zero_add, cell_of_row w B i _ _ _ h, bcells_at l i hi]
  simp [List.getD, List.getElem?_eq_getElem hi]

theorem Try.info64 : (Try.prog.info? 64).map (fun i => (i.zero, i.size)) = some (some (.agg (bcells (List.replicate 8 0))), 8) := by kernel_rfl
theorem Try.zero64 : ∀ w, (zeroValue 64).run Try.prog w = .ok (.agg (bcells (List.replicate 8 0))) w := (zero_of_info Try.info64).1
theorem Try.arr64 : Try.prog.underlying 64 = some (.array (Try.prog.arrayLen 64) (Try.prog.elem 64)) := by kernel_rfl
theorem Try.len64 : Try.prog.arrayLen 64 = 8 := by kernel_rfl
theorem Try.one64 : ∀ w, (Go.sizeOf (Try.prog.elem 64)).run Try.prog w = .ok 1 w := size_of_info (v := .int .u8 0) (by kernel_rfl)
theorem index64 (b i : Nat) (h : i < 8) (w : World) :
    (Instr.indexAt 64 (.pointer (some ⟨b, 0, none⟩)) (.int .i64 (i : Int))).run Try.prog w = .ok (.pointer (some ⟨b, i, none⟩)) w := by
  rw [run_indexAt_array w 64 _ _ _ Try.arr64, Try.len64, if_pos (by omega), Try.one64, Result.andThen_ok, addr_at, Nat.mul_one, Int.toNat_natCast, Nat.zero_add]
theorem slice64_all (b : Nat) (w : World) :
    (Instr.sliceAt 64 (.pointer (some ⟨b, 0, none⟩)) none none none).run Try.prog w = .ok (.slice (some ⟨b, 0, none⟩) 8 8) w := by
  have hl := Try.len64
  rw [run_sliceAt_array_all w 64 _ Try.arr64, Try.one64, Result.andThen_ok]
  unfold slicedAt
  rw [hl, if_neg (by simp), Nat.mul_one, addr_at]

def rowN (n k : Nat) : List UInt8 := List.replicate (8 - k) 0 ++ (be8 n).drop (8 - k)
theorem rowN_length (n k : Nat) (h : k ≤ 8) : (rowN n k).length = 8 := by simp [rowN, be8]
theorem rowN_set (n k : Nat) (h : k < 8) : (rowN n k).set (7 - k) (UInt8.ofNat (n / 2 ^ (8 * k))) = rowN n (k + 1) := by
  match k, h with
  | 0, _ => simp [rowN, be8]
  | 1, _ => rfl
  | 2, _ => rfl
  | 3, _ => rfl
  | 4, _ => rfl
  | 5, _ => rfl
  | 6, _ => rfl
  | 7, _ => rfl
  | n + 8, h => omega
theorem rowN_done (n : Nat) : rowN n 8 = be8 n := by simp [rowN]
theorem byte_shift (n j : Nat) : ((n : Int) / 2 ^ j % 256) = ((UInt8.ofNat (n / 2 ^ j)).toNat : Int) := by
  have h2 : ((n / 2 ^ j : Nat) : Int) = (n : Int) / 2 ^ j := by simp
  rw [← h2, UInt8.toNat_ofNat']
  omega

set_option maxHeartbeats 400000 in
theorem number_any (n : Nat) (hn : n < 9223372036854775808) (w : World) :
    Calls Try.prog 30 #[.int .i64 (n : Int)] w fun e w' => e = .returned (.string ⟨(be8 n).toArray⟩) ∧ Below w.heap.size w w' := by
  obtain ⟨B, hB⟩ : ∃ B, B = w.heap.size := ⟨_, rfl⟩
  have HB := Lib.hid hB
  clear hB
  obtain ⟨Z, hZ⟩ : ∃ Z, Z = bcells (List.replicate 8 0) := ⟨_, rfl⟩
  have z := Try.zero64
  rw [← hZ] at z
  have hz : (w.alloc (.cells Z 64)).heap[B]? = some (.cells (bcells (rowN n 0)) 64 (0, 0)) := by
    rw [HB.out, hZ]; exact block_new _ _
  clear hZ
  go_enter Try.func30, Try.ntmps30
  go_wp2_with (refine op_alloc rfl _ rfl _ z ?_)
  rw [← HB.out]
  go_loopw [4, 5] (fun _ i wr => ∃ k : Nat, k ≤ 8 ∧ i = .int .i64 k ∧ wr.heap[B]? = some (.cells (bcells (rowN n k)) 64 (0, 0)) ∧ Below B w wr) (fun _ i _ => 8 - (intOf i).toNat)
  case atStart => exact ⟨0, by omega, rfl, hz, by rw [HB.out]; exact (Below.refl _ _).alloc (Nat.le_refl _) _⟩
  case round =>
    obtain ⟨k, hk, rfl, hrow, hbel⟩ := hrel
    by_cases hlt : k < 8
    · have hix := index64 B (7 - k) (by omega)
      rw [show ((7 - k : Nat) : Int) = 7 - (k : Int) by omega] at hix
      have hcell : wr.cell? ⟨B, 7 - k, none⟩ = some (.int .u8 (((rowN n k).getD (7 - k) 0).toNat : Int)) := by
        rw [cell_of_row wr B _ _ _ _ hrow, bcells_at _ _ (by rw [rowN_length _ _ hk]; omega)]
      have hfree : wr.frozen? ⟨B, 7 - k, none⟩ = false := block_free hrow
      have HR := Lib.hid hrow
      clear hrow
      generalize (rowN n k).getD (7 - k) 0 = c0 at *
      go_wp2
      go_roundw
      case rel =>
        rw [byte_shift]
        refine ⟨k + 1, by omega, by go_num, ?_, hbel.setCell (by exact Nat.le_refl _) _⟩
        rw [block_setCell HR.out, bcells_set, rowN_set n k hlt]
      case measure => simp [intOf]; omega
    · have hk8 : k = 8 := by omega
      subst hk8
      rw [rowN_done] at hrow
      have hsl := slice64_all B wr
      have hcv := back_of_row (cap := 8) hrow 8 rfl
      clear hrow
      go_wp2
      go_ret
      exact ⟨rfl, by rw [← HB.out]; exact hbel⟩
theorem sclone_any (s : ByteArray) (w : World) (hs : s.size ≤ 281474976710656) :
    Calls Try.prog 29 #[.string s] w fun e w' => e = .returned (.string s) ∧ Below w.heap.size w w' := by
  go_enter Try.func29, Try.ntmps29
  go_wp2_with (go_at_call 40; refine (Try.stringslite_Clone s _ hs).mono ?_; rintro e w1 ⟨rfl, b1⟩)
  go_ret
  exact ⟨rfl, b1⟩

theorem Try.info51 : (Try.prog.info? 51).map (fun i => (i.zero, i.size)) = some (some (.agg (bcells (List.replicate 64 0))), 64) := by kernel_rfl
theorem Try.zero51 : ∀ w, (zeroValue 51).run Try.prog w = .ok (.agg (bcells (List.replicate 64 0))) w := (zero_of_info Try.info51).1
theorem index51 (b i : Nat) (h : i < 64) (w : World) :
    (Instr.indexAt 51 (.pointer (some ⟨b, 0, none⟩)) (.int .i64 (i : Int))).run Try.prog w = .ok (.pointer (some ⟨b, i, none⟩)) w := by
  rw [run_indexAt_array w 51 _ _ _ Try.arr51, Try.len51, if_pos (by omega), Try.one5, Result.andThen_ok, addr_at, Nat.mul_one, Int.toNat_natCast, Nat.zero_add]
/-- the padded key, its first k bytes xor the mask -/
def rowM (p : List UInt8) (m : UInt8) (k : Nat) : List UInt8 := (p.take k).map (· ^^^ m) ++ p.drop k
theorem rowM_length (p : List UInt8) (m : UInt8) (k : Nat) (h : k ≤ p.length) : (rowM p m k).length = p.length := by simp [rowM]; omega
theorem rowM_at (p : List UInt8) (m : UInt8) (k : Nat) (h : k < p.length) : (rowM p m k).getD k 0 = p[k] := by
  simp only [rowM, List.getD]
  rw [List.getElem?_append_right (by simp; omega)]
  simp [List.getElem?_eq_getElem h, Nat.min_eq_left (Nat.le_of_lt h)]
theorem rowM_set (p : List UInt8) (m : UInt8) (k : Nat) (h : k < p.length) : (rowM p m k).set k (p[k] ^^^ m) = rowM p m (k + 1) := by
  unfold rowM
  rw [List.set_append_right _ _ (by simp; omega), List.length_map, List.length_take, Nat.min_eq_left (Nat.le_of_lt h), Nat.sub_self]
  rw [List.drop_eq_getElem_cons h, List.set_cons_zero, List.take_succ_eq_append_getElem h, List.map_append, List.append_assoc]
  rfl
theorem xor8 (a b : UInt8) : bits BinOp.xor IntKind.u8 (a.toNat : Int) (b.toNat : Int) = ((a ^^^ b).toNat : Int) := by
  rw [u8_xor_nat _ _ a.toNat_lt b.toNat_lt, UInt8.toNat_xor]

set_option maxHeartbeats 800000 in
theorem masked_any (s : ByteArray) (m : UInt8) (w : World) (hs : s.size ≤ 64) :
    Calls Try.prog 27 #[.string s, .int .u8 (m.toNat : Int)] w fun e w' => e = .returned (.string ⟨(maskL s.data.toList m).toArray⟩) ∧ Below w.heap.size w w' := by
  obtain ⟨B, hB⟩ : ∃ B, B = w.heap.size := ⟨_, rfl⟩
  have HB := Lib.hid hB
  clear hB
  obtain ⟨Z, hZ⟩ : ∃ Z, Z = bcells (List.replicate 64 0) := ⟨_, rfl⟩
  obtain ⟨p, hp⟩ : ∃ p, p = s.data.toList ++ List.replicate (64 - s.size) 0 := ⟨_, rfl⟩
  have hpl : p.length = 64 := by rw [hp]; simp; omega
  have z := Try.zero51
  rw [← hZ] at z
  have hz : (w.alloc (.cells Z 51)).heap[B]? = some (.cells Z 51 (0, 0)) := by
    rw [HB.out]; exact block_new _ _
  have hcp := run_copy_min (w.alloc (.cells Z 51)) 32 9 3 5 B 0 64 64 s Z 51 Try.underlying32 Try.size5 hz s.size (by rw [show Nat.min s.size 64 = s.size from Nat.min_eq_left hs]) (by rw [hZ, bcells_size]; simp; omega)
  have hcc : (Z.toList.take 0 ++ (s.data.toList.take s.size).map cellB ++ Z.toList.drop (0 + s.size)).toArray = bcells p := by
    rw [hZ, hp]
    rw [List.take_of_length_le (l := s.data.toList) (by simp)]
    show (([] : List Value) ++ _ ++ (bcells (List.replicate 64 0)).toList.drop (0 + s.size)).toArray = _
    unfold bcells
    rw [List.nil_append, Nat.zero_add, List.toList_toArray, ← List.map_drop, List.drop_replicate, ← List.map_append]
  rw [hcc] at hcp
  have hb2 : ((w.alloc (.cells Z 51)).setRow B (bcells p)).heap[B]? = some (.cells (bcells (rowM p m 0)) 51 (0, 0)) := by
    rw [setRow_heap _ _ _ _ _ _ hz]; simp [rowM]
  have hbl : Below B w ((w.alloc (.cells Z 51)).setRow B (bcells p)) := below_setRow (by rw [HB.out]; exact (Below.refl _ _).alloc (Nat.le_refl _) _) (Nat.le_refl _) _
  have HP := Lib.hid (And.intro hp hpl)
  have hsl := slice51_all B 0
  obtain ⟨W, hW⟩ : ∃ W, W = (w.alloc (.cells Z 51)).setRow B (bcells p) := ⟨_, rfl⟩
  rw [← hW] at hb2 hbl hcp
  clear hZ hp hpl hcc hz hW
  go_enter Try.func27, Try.ntmps27
  go_wp2_with (first
    | (refine op_alloc rfl _ rfl _ z ?_; rw [← HB.out])
    | (refine Lib.wpList_copy_run _ rfl _ _ 32 9 rfl _ _ rfl rfl hcp ?_))
  go_loopw [6, 10] (fun _ i wr => ∃ k : Nat, k ≤ 64 ∧ i = .int .i64 k ∧ wr.heap[B]? = some (.cells (bcells (rowM p m k)) 51 (0, 0)) ∧ Below B w wr) (fun _ i _ => 64 - (intOf i).toNat)
  case atStart => exact ⟨0, by omega, rfl, hb2, hbl⟩
  case round =>
    obtain ⟨k, hk, rfl, hrow, hbel⟩ := hrel
    have hpl := HP.out.2
    by_cases hlt : k < 64
    · have hix := index51 B k hlt
      have hcell : wr.cell? ⟨B, k, none⟩ = some (.int .u8 ((p[k]'(by omega)).toNat : Int)) := by
        rw [cell_of_row wr B _ _ _ _ hrow, bcells_at _ _ (by rw [rowM_length _ _ _ (by omega)]; omega), rowM_at]
      have hfree : wr.frozen? ⟨B, k, none⟩ = false := block_free hrow
      have hset := rowM_set p m k (by omega)
      have HR := Lib.hid (And.intro hrow hset)
      clear hrow hset
      generalize p[k]'(by omega) = c0 at *
      clear hpl
      go_wp2
      go_roundw
      case rel =>
        rw [xor8]
        refine ⟨k + 1, by omega, by go_num, ?_, hbel.setCell (by exact Nat.le_refl _) _⟩
        rw [block_setCell HR.out.1, bcells_set, HR.out.2]
      case measure => simp [intOf]; omega
    · have hk8 : k = 64 := by omega
      subst hk8
      have hdone : rowM p m 64 = maskL s.data.toList m := by
        unfold rowM maskL
        rw [List.take_of_length_le (by omega), List.drop_of_length_le (by omega), List.append_nil, HP.out.1]
        simp
      rw [hdone] at hrow
      have hml : (maskL s.data.toList m).length = 64 := by rw [← hdone, rowM_length _ _ _ (by omega)]; exact hpl
      have hcv := back_of_row (cap := 64) hrow 64 hml
      clear hrow hdone hml hpl
      go_wp2
      go_ret
      exact ⟨rfl, by rw [← HB.out]; exact hbel⟩
end Go.Proofs.Ytdkhnklggidfpaa
