/- Rows of one byte, sectors that are written, remainders: what the calls return. No conditions but sizes. -/
import Derived.Test.YtnecbbflcpngcaaOpa
import Derived.Deep.RegionHeld3
namespace Go.Proofs.Ytnecbbflcpngcaa
open Go.RowKit Go.Maps
set_option maxRecDepth 20000
set_option linter.unusedVariables false

theorem RowB.zeros (w : World) (n : Nat) (hn : n ≤ maxLen) : RowB (w.alloc (.cells (List.replicate n (Value.int .u8 0)).toArray 5)) w.heap.size n (List.replicate n 0) := by
  refine ⟨_, (0, 0), block_new _ _, .inl rfl, by simp, hn, by simp, ?_⟩
  simp [cellB]
theorem make57 (n : Nat) (hn : n ≤ 524288) (w : World) : (Instr.makeSlice 30 (.int .i64 (n : Int)) (.int .i64 (n : Int))).run Try.prog w = .ok (.slice (some ⟨w.heap.size, 0, none⟩) n n) (w.alloc (.cells (List.replicate n (Value.int .u8 0)).toArray 5)) := by
  obtain ⟨i0, hi, hz0, hz1, hz2⟩ := info_parts Try.info5
  have h := run_make (P := Try.prog) w 30 5 i0 (.int .u8 0) Try.underlying30 hi hz0 .i64 .i64 (n : Int) (n : Int) (by omega) (by omega) (by rw [hz2]; omega) (by omega)
  rw [hz1] at h
  have e : madeCells (Value.int .u8 0).cells (((n : Int)).toNat * 1) = (List.replicate n (Value.int .u8 0)).toArray := by
    apply Array.ext
    · simp [madeCells]
    · intro i h1 h2
      simp [madeCells, Value.cells, Nat.mod_one]
  rw [e] at h
  simpa using h
set_option maxHeartbeats 400000 in
theorem noughts_any (n : Nat) (hn : n ≤ 524288) (w : World) : Calls Try.prog 15 #[.int .i64 (n : Int)] w fun e w' => e = .returned (.string (ofL (List.replicate n 0))) ∧ Below w.heap.size w w' := by
  have hm := make57 n hn w
  have hr := RowB.zeros w n (by unfold maxLen; omega)
  have hc := hr.string (w' := w) 0 n n (by simp)
  rw [List.drop_zero, List.take_of_length_le (by simp)] at hc
  have hb : Below w.heap.size w (w.alloc (.cells (List.replicate n (Value.int .u8 0)).toArray 5)) := (Below.refl _ w).alloc (Nat.le_refl _) _
  have HB := Lib.hid hb
  clear hr hb hn
  generalize w.alloc (.cells (List.replicate n (Value.int .u8 0)).toArray 5) = W at *
  generalize (List.replicate n (0 : UInt8)) = L at *
  go_enter Try.func15, Try.ntmps15
  go_wp2
  go_ret
  exact ⟨rfl, HB.out⟩
def byte (c : Int) : UInt8 := UInt8.ofNat c.toNat
theorem byte_cell {c : Int} (h : 0 ≤ c ∧ c < 256) : cellB (byte c) = .int .u8 c := by
  unfold cellB byte
  congr 1
  have : (UInt8.ofNat c.toNat).toNat = c.toNat := by simp; omega
  rw [this]; omega
theorem RowB.set {w : World} {g cap : Nat} {l : Bts} (h : RowB w g cap l) (i : Nat) (hi : i < l.length) (b : UInt8) : RowB (w.setCell ⟨g, i, none⟩ (cellB b)) g cap (l.set i b) := by
  obtain ⟨cur, fr, hg, hp, h1, h2, h3, h4⟩ := h
  refine ⟨cur.setIfInBounds i (cellB b), fr, block_setCell hg, by unfold Past at *; simpa using hp, by simpa using h1, h2, by simpa using h3, ?_⟩
  rw [Array.toList_setIfInBounds, List.length_set, List.take_set, h4, List.map_set]
theorem RowB.free {w : World} {g cap : Nat} {l : Bts} (h : RowB w g cap l) (i : Nat) (hi : i < l.length) : w.frozen? ⟨g, i, none⟩ = false := by
  obtain ⟨cur, fr, hg, hp, h1, h2, h3, h4⟩ := h
  exact hp.free hg i (by omega)
set_option maxHeartbeats 400000 in
theorem rem_any (n m : Int) (hn : In64 n) (hm : 0 < m ∧ m < 4611686018427387904) (w : World) : Calls Try.prog 16 #[.int .i64 n, .int .i64 m] w fun e w' => e = .returned (.int .i64 (n % m)) ∧ w = w' := by
  unfold In64 at hn
  obtain ⟨t, ht⟩ : ∃ t, t = n.tmod m := ⟨_, rfl⟩
  have h1 : n.tmod m = t := ht.symm
  have h2 : n % m = if t < 0 then t + m else t := by
    rw [ht, Int.tmod_eq_emod]
    have e0 := Int.emod_nonneg n (show m ≠ 0 by omega)
    have e1 := Int.emod_lt_of_pos n hm.1
    have e2 : (m.natAbs : Int) = m := by omega
    by_cases hd : 0 ≤ n ∨ m ∣ n
    · rw [if_pos hd, if_neg (by omega)]; omega
    · rw [if_neg hd, e2]
      have : n % m ≠ 0 := fun q => hd (.inr (Int.dvd_of_emod_eq_zero q))
      rw [if_pos (by omega)]; omega
  have h3 : -m ≤ t ∧ t < m := by
    have e0 := Int.emod_nonneg n (show m ≠ 0 by omega)
    have e1 := Int.emod_lt_of_pos n hm.1
    by_cases q : t < 0
    · rw [if_pos q] at h2; omega
    · rw [if_neg q] at h2; omega
  have hm0 : ¬ m = 0 := by omega
  clear ht
  rw [h2]
  have hw : wrap64 t = t := by unfold wrap64; omega
  have hwi : IntKind.i64.wrap t = t := by rw [IntKind.wrap_i64]; omega
  by_cases q : t < 0
  · rw [if_pos q]
    have hw2 : wrap64 (t + m) = t + m := by unfold wrap64; omega
    clear h2 h3
    go_enter Try.func16, Try.ntmps16
    go_wp2
    go_ret
    exact ⟨ret_int hw2, rfl⟩
  · rw [if_neg q]
    clear h2 h3
    go_enter Try.func16, Try.ntmps16
    go_wp2
    go_ret
    exact ⟨rfl, rfl⟩
def Bad (s : ByteArray) : Prop := s.size = 0 ∨ s.size % 128 ≠ 0 ∨ 524288 < s.size
end Go.Proofs.Ytnecbbflcpngcaa
