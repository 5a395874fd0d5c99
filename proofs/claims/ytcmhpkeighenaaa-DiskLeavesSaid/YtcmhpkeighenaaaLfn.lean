/- Rows of one byte, sectors that are written, remainders: what the calls return. No conditions but sizes. -/
import Derived.Test.YtcmhpkeighenaaaOpa
import Derived.Deep.RegionHeld3
namespace Go.Proofs.Ytcmhpkeighenaaa
open Go.RowKit Go.Maps
set_option linter.unusedVariables false

theorem RowB.zeros (w : World) (n : Nat) (hn : n ≤ maxLen) : RowB (w.alloc (.cells (List.replicate n (Value.int .u8 0)).toArray 5)) w.heap.size n (List.replicate n 0) := by
  refine ⟨_, (0, 0), block_new _ _, .inl rfl, by simp, hn, by simp, ?_⟩
  simp [cellB]
theorem make57 (n : Nat) (hn : n ≤ 524288) (w : World) : (Instr.makeSlice 57 (.int .i64 (n : Int)) (.int .i64 (n : Int))).run Try.prog w = .ok (.slice (some ⟨w.heap.size, 0, none⟩) n n) (w.alloc (.cells (List.replicate n (Value.int .u8 0)).toArray 5)) := by
  obtain ⟨i0, hi, hz0, hz1, hz2⟩ := info_parts Try.info5
  have h := run_make (P := Try.prog) w 57 5 i0 (.int .u8 0) Try.underlying57 hi hz0 .i64 .i64 (n : Int) (n : Int) (by omega) (by omega) (by rw [hz2]; omega) (by omega)
  rw [hz1] at h
  have e : madeCells (Value.int .u8 0).cells (((n : Int)).toNat * 1) = (List.replicate n (Value.int .u8 0)).toArray := by
    apply Array.ext
    · simp [madeCells]
    · intro i h1 h2
      simp [madeCells, Value.cells, Nat.mod_one]
  rw [e] at h
  simpa using h
set_option maxHeartbeats 400000 in
theorem noughts_any (n : Nat) (hn : n ≤ 524288) (w : World) : Calls Try.prog 25 #[.int .i64 (n : Int)] w fun e w' => e = .returned (.string (ofL (List.replicate n 0))) ∧ Below w.heap.size w w' := by
  have hm := make57 n hn w
  have hr := RowB.zeros w n (by unfold maxLen; omega)
  have hc := hr.string (w' := w) 0 n n (by simp)
  rw [List.drop_zero, List.take_of_length_le (by simp)] at hc
  have hb : Below w.heap.size w (w.alloc (.cells (List.replicate n (Value.int .u8 0)).toArray 5)) := (Below.refl _ w).alloc (Nat.le_refl _) _
  have HB := Lib.hid hb
  clear hr hb hn
  generalize w.alloc (.cells (List.replicate n (Value.int .u8 0)).toArray 5) = W at *
  generalize (List.replicate n (0 : UInt8)) = L at *
  go_enter Try.func25, Try.ntmps25
  go_wp2
  go_ret
  exact ⟨rfl, HB.out⟩
def byte (c : Int) : UInt8 := UInt8.ofNat c.toNat
theorem byte_cell {c : Int} (h : 0 ≤ c ∧ c < 256) : cellB (byte c) = .int .u8 c := by
  unfold cellB byte
  congr 1
  have : (UInt8.ofNat c.toNat).toNat = c.toNat := by simp; omega
  rw [this]; omega
theorem RowB.set {w : World} {g cap : Nat} {l : Bts} (h : RowB w g cap l) (i : Nat) (hi : i < l.length) (b : UInt8) : RowB (w.setCell ⟨g, i, none⟩ (cellB b)) g cap (l.set i b) := by
  obtain ⟨cur, fr, hg, hp, h1, h2, h3, h4⟩ := h
  refine ⟨cur.setIfInBounds i (cellB b), fr, block_setCell hg, by unfold Past at *; simpa using hp, by simpa using h1, h2, by simpa using h3, ?_⟩
  rw [Array.toList_setIfInBounds, List.length_set, List.take_set, h4, List.map_set]
theorem RowB.free {w : World} {g cap : Nat} {l : Bts} (h : RowB w g cap l) (i : Nat) (hi : i < l.length) : w.frozen? ⟨g, i, none⟩ = false := by
  obtain ⟨cur, fr, hg, hp, h1, h2, h3, h4⟩ := h
  exact hp.free hg i (by omega)
def fillB (b : UInt8) (k : Nat) : Bts := List.replicate k b ++ List.replicate (128 - k) 0
theorem fillB_len (b : UInt8) (k : Nat) (h : k ≤ 128) : (fillB b k).length = 128 := by simp [fillB]; omega
theorem fillB_set (b : UInt8) (k : Nat) (h : k < 128) : (fillB b k).set k b = fillB b (k + 1) := by
  unfold fillB
  rw [List.set_append_right _ _ (by simp)]
  simp only [List.length_replicate, Nat.sub_self]
  rw [show 128 - k = (128 - (k + 1)) + 1 by omega, List.replicate_succ, List.set_cons_zero, List.replicate_succ', List.append_assoc]
  rfl
set_option maxRecDepth 20000 in
set_option maxHeartbeats 1000000 in
theorem all_any (c : Int) (hc : 0 ≤ c ∧ c < 256) (w : World) : Calls Try.prog 27 #[.int .u8 c] w fun e w' => e = .returned (.string (ofL (List.replicate 128 (byte c)))) ∧ Below w.heap.size w w' := by
  have hm := make57 128 (by omega) w
  have hr := RowB.zeros w 128 (by unfold maxLen; omega)
  have hb : Below w.heap.size w (w.alloc (.cells (List.replicate 128 (Value.int .u8 0)).toArray 5)) := (Below.refl _ w).alloc (Nat.le_refl _) _
  have hs : w.heap.size < (w.alloc (.cells (List.replicate 128 (Value.int .u8 0)).toArray 5)).heap.size := by simp
  obtain ⟨B, hB⟩ : ∃ B, B = w.heap.size := ⟨_, rfl⟩
  rw [← hB] at hm hr hb hs ⊢
  have HB := Lib.hid (And.intro hb hr)
  have HBB := Lib.hid hB
  clear hr hb hB
  generalize w.alloc (.cells (List.replicate 128 (Value.int .u8 0)).toArray 5) = W at *
  have hm' : (Instr.makeSlice 57 (.int .i64 128) (.int .i64 128)).run Try.prog w = .ok (.slice (some ⟨B, 0, none⟩) 128 128) W := hm
  clear hm
  have hv := byte_cell hc
  obtain ⟨L, hL⟩ : ∃ L, L = List.replicate 128 (byte c) := ⟨_, rfl⟩
  rw [← hL]
  have HL := Lib.hid hL
  clear hL
  go_enter Try.func27, Try.ntmps27
  go_wp2
  go_loopw [4] (fun i wr => ∃ k : Nat, k ≤ 128 ∧ i = .int .i64 (k : Int) ∧ RowB wr B 128 (fillB (byte c) k) ∧ Below B w wr) (fun i _ => 128 - (intOf i).toNat)
  case atStart => exact ⟨0, by omega, rfl, HB.out.2, HB.out.1⟩
  case round =>
    obtain ⟨k, hk, rfl, hrow, hbel⟩ := hrel
    by_cases hlt : k < 128
    · have hki : (k : Int) < 128 := by omega
      have hl := fillB_len (byte c) k hk
      have c0 : wr.cell? ⟨B, k, none⟩ = some (.int .u8 (((fillB (byte c) k).getD k 0).toNat : Int)) := hrow.cell k (by omega)
      have f0 := hrow.free k (by omega)
      have hn := hrow.set k (by omega) (byte c)
      rw [fillB_set _ _ hlt, hv] at hn
      have ew : wrap64 ((k : Int) + 1) = ((k + 1 : Nat) : Int) := by unfold wrap64; omega
      have HN := Lib.hid (And.intro hn (show Below B w (wr.setCell ⟨B, k, none⟩ (.int .u8 c)) from hbel.setCell (Nat.le_refl B) _))
      clear hn hrow hbel hl
      generalize (((fillB (byte c) k).getD k 0).toNat : Int) = old at c0
      go_wp2
      go_roundw
      case rel => exact ⟨k + 1, by omega, by go_num, HN.out.1, HN.out.2⟩
      case measure => simp [intOf]; omega
    · have hk8 : k = 128 := by omega
      subst hk8
      have e : fillB (byte c) 128 = List.replicate 128 (byte c) := by simp [fillB]
      rw [e, ← HL.out] at hrow
      have hll : L.length = 128 := by rw [HL.out]; simp
      have hcv := hrow.string (w' := wr) 0 128 128 (by omega)
      rw [List.drop_zero, List.take_of_length_le (by omega)] at hcv
      clear e hrow hll
      go_wp2
      go_ret
      exact ⟨rfl, hbel⟩
theorem ext_rep (b : UInt8) (n k : Nat) (h : k ≤ n) : ((ofL (List.replicate n b)).extract k n).data.toList = List.replicate (n - k) b := by
  rw [ByteArray.data_extract]
  simp [ofL]
/-- what a call writes -/
def sectorL (o : Opr) : Bts := if 128 < o.s.size then o.s.data.toList else o.s.data.toList ++ List.replicate (128 - o.s.size) (byte o.c)
theorem sectorL_len (o : Opr) (h : o.s.size ≤ 140737488351232) : (sectorL o).length ≤ 140737488351232 := by
  unfold sectorL
  split
  · rw [baList]; exact h
  · simp; omega
set_option maxRecDepth 20000 in
set_option maxHeartbeats 1000000 in
theorem sector_any (o : Opr) (w : World) (hcc : 0 ≤ o.c ∧ o.c < 256) (hss : o.s.size ≤ 140737488351232) : Calls Try.prog 34 #[.agg o.cells] w fun e w' => e = .returned (.string (ofL (sectorL o))) ∧ Below w.heap.size w w' := by
  obtain ⟨B, hB⟩ : ∃ B, B = w.heap.size := ⟨_, rfl⟩
  obtain ⟨W, hW⟩ : ∃ W, W = w.alloc (.cells o.cells 35) := ⟨_, rfl⟩
  have hb : Below w.heap.size w W := by rw [hW]; exact (Below.refl _ w).alloc (Nat.le_refl _) _
  have hblk : W.heap[B]? = some (.cells o.cells 35 (0, 0)) := by rw [hW, hB]; exact block_new _ _
  have c4 : W.cell? ⟨B, 4, none⟩ = some (.int .u8 o.c) := by rw [cell_of_row _ _ _ _ _ _ hblk]; rfl
  have c5 : W.cell? ⟨B, 5, none⟩ = some (.string o.s) := by rw [cell_of_row _ _ _ _ _ _ hblk]; rfl
  have hsl : sectorL o = if 128 < o.s.size then o.s.data.toList else o.s.data.toList ++ List.replicate (128 - o.s.size) (byte o.c) := rfl
  have HB := Lib.hid (And.intro hb hB)
  clear hb hblk
  obtain ⟨on, kind, a, b, c, s, cv, ch⟩ := o
  have hWs : w.alloc (.cells #[.int .i64 on, .int .i64 kind, .int .i64 a, .int .i64 b, .int .u8 c, .string s, cv] 35) = W := hW.symm
  have c5' : W.cell? ⟨B, 5, none⟩ = some (.string s) := c5
  have c4' : W.cell? ⟨B, 4, none⟩ = some (.int .u8 c) := c4
  have hcc' : 0 ≤ c ∧ c < 256 := hcc
  have hss' : s.size ≤ 140737488351232 := hss
  have hsl' : sectorL ⟨on, kind, a, b, c, s, cv, ch⟩ = if 128 < s.size then s.data.toList else s.data.toList ++ List.replicate (128 - s.size) (byte c) := hsl
  clear hW c4 c5 hcc hss hsl
  generalize sectorL ⟨on, kind, a, b, c, s, cv, ch⟩ = R at *
  show Calls Try.prog 34 #[.agg #[.int .i64 on, .int .i64 kind, .int .i64 a, .int .i64 b, .int .u8 c, .string s, cv]] w fun e w' => e = .returned (.string (ofL R)) ∧ Below w.heap.size w w'
  rw [hB] at c4' c5'
  by_cases hlt : 128 < s.size
  · rw [if_pos hlt] at hsl'
    have e : ofL R = s := by rw [hsl', ofL_of]
    rw [e]
    have hi : (128 : Int) < (s.size : Int) := by omega
    clear hsl' e hss' hcc' c4' hlt hB
    go_enter Try.func34, Try.ntmps34
    go_wp2
    go_ret
    exact ⟨rfl, HB.out.1⟩
  · rw [if_neg hlt] at hsl'
    have ka : Hid (∀ W', Calls Try.prog 27 #[.int .u8 c] W' fun e w' => e = .returned (.string (ofL (List.replicate 128 (byte c)))) ∧ Below W'.heap.size W' w') := fun W' => all_any c hcc' W'
    obtain ⟨A, hA⟩ : ∃ A, A = ofL (List.replicate 128 (byte c)) := ⟨_, rfl⟩
    rw [← hA] at ka
    have hAs : A.size = 128 := by rw [hA, ofL_size]; simp
    have hex : s ++ A.extract s.size 128 = ofL R := by
      refine ofL_eq ?_
      rw [hsl', ByteArray.data_append, Array.toList_append, hA, ext_rep _ _ _ (by omega)]
    have hsum : ¬ (9223372036854775807 < s.size + (128 - s.size)) := by omega
    have hi : ¬ (128 : Int) < (s.size : Int) := by omega
    have hi2 : (s.size : Int) ≤ 128 := by omega
    have hCC : Hid (∀ W', Below W.drew.heap.size W.drew W' → W'.cell? ⟨w.heap.size, 5, none⟩ = some (.string s) ∧ W'.cell? ⟨w.heap.size, 4, none⟩ = some (.int .u8 c)) := fun W' hW' => ⟨cell_below (w := W.drew) c5' hW', cell_below (w := W.drew) c4' hW'⟩
    clear hsl' hss' hcc' hlt hB hA
    go_enter Try.func34, Try.ntmps34
    go_wp2
    go_region_held3 (fun W' => W'.cell? ⟨w.heap.size, 5, none⟩ = some (.string s) ∧ W'.cell? ⟨w.heap.size, 4, none⟩ = some (.int .u8 c))
      (first
        | exact hCC.out _ (Below.refl _ _)
        | exact hCC.out _ hb5)
      (first
        | (go_at_call 27; (with_reducible refine (ka.out _).mono ?_); rintro e w5 ⟨rfl, hb5⟩))
    go_wp2
    go_ret
    exact ⟨rfl, HB.out.1.trans ((below_drew (Below.refl W.heap.size W)).trans hb5 |>.mono HB.out.1.size)⟩
set_option maxHeartbeats 400000 in
theorem rem_any (n m : Int) (hn : In64 n) (hm : 0 < m ∧ m < 4611686018427387904) (w : World) : Calls Try.prog 11 #[.int .i64 n, .int .i64 m] w fun e w' => e = .returned (.int .i64 (n % m)) ∧ w = w' := by
  unfold In64 at hn
  obtain ⟨t, ht⟩ : ∃ t, t = n.tmod m := ⟨_, rfl⟩
  have h1 : n.tmod m = t := ht.symm
  have h2 : n % m = if t < 0 then t + m else t := by
    rw [ht, Int.tmod_eq_emod]
    have e0 := Int.emod_nonneg n (show m ≠ 0 by omega)
    have e1 := Int.emod_lt_of_pos n hm.1
    have e2 : (m.natAbs : Int) = m := by omega
    by_cases hd : 0 ≤ n ∨ m ∣ n
    · rw [if_pos hd, if_neg (by omega)]; omega
    · rw [if_neg hd, e2]
      have : n % m ≠ 0 := fun q => hd (.inr (Int.dvd_of_emod_eq_zero q))
      rw [if_pos (by omega)]; omega
  have h3 : -m ≤ t ∧ t < m := by
    have e0 := Int.emod_nonneg n (show m ≠ 0 by omega)
    have e1 := Int.emod_lt_of_pos n hm.1
    by_cases q : t < 0
    · rw [if_pos q] at h2; omega
    · rw [if_neg q] at h2; omega
  have hm0 : ¬ m = 0 := by omega
  clear ht
  rw [h2]
  have hw : wrap64 t = t := by unfold wrap64; omega
  have hwi : IntKind.i64.wrap t = t := by rw [IntKind.wrap_i64]; omega
  by_cases q : t < 0
  · rw [if_pos q]
    have hw2 : wrap64 (t + m) = t + m := by unfold wrap64; omega
    clear h2 h3
    go_enter Try.func11, Try.ntmps11
    go_wp2
    go_ret
    exact ⟨ret_int hw2, rfl⟩
  · rw [if_neg q]
    clear h2 h3
    go_enter Try.func11, Try.ntmps11
    go_wp2
    go_ret
    exact ⟨rfl, rfl⟩
def Bad (s : ByteArray) : Prop := s.size = 0 ∨ s.size % 128 ≠ 0 ∨ 524288 < s.size
set_option maxHeartbeats 1000000 in
theorem rnew_bad (s : ByteArray) (hs : Bad s) (hsz : s.size ≤ 140737488355328) (w : World) : Calls Try.prog 9 #[.string s] w fun e w' => e = .returned (.tuple #[.pointer none, .int .i64 70]) ∧ Below w.heap.size w w' := by
  unfold Bad at hs
  obtain ⟨n, hn⟩ : ∃ n : Nat, n = s.size / 128 := ⟨_, rfl⟩
  have et : (s.size : Int).tdiv 128 = (n : Int) := by rw [Int.tdiv_eq_ediv_of_nonneg (by omega)]; omega
  have ew : wrap64 (n : Int) = (n : Int) := by unfold wrap64; omega
  have ewi : IntKind.i64.wrap (n : Int) = (n : Int) := by rw [IntKind.wrap_i64]; omega
  have ewz : wrap64 (s.size : Int) = (s.size : Int) := by unfold wrap64; omega
  have ew2 : wrap64 ((n : Int) * 128) = (n : Int) * 128 := by unfold wrap64; omega
  have ew2i : IntKind.i64.wrap ((n : Int) * 128) = (n : Int) * 128 := by rw [IntKind.wrap_i64]; omega
  by_cases a : (n : Int) < 1
  · clear hs hsz hn
    go_enter Try.func9, Try.ntmps9
    go_wp2
    go_ret2
    exact ⟨rfl, Below.refl _ _⟩
  · by_cases b : (n : Int) * 128 = (s.size : Int)
    · have c : (4096 : Int) < (n : Int) := by omega
      clear hs hsz hn
      go_enter Try.func9, Try.ntmps9
      go_wp2
      all_goals (go_ret2; exact ⟨rfl, Below.refl _ _⟩)
    · clear hs hsz hn
      go_enter Try.func9, Try.ntmps9
      go_wp2
      go_ret2
      exact ⟨rfl, Below.refl _ _⟩
end Go.Proofs.Ytcmhpkeighenaaa
