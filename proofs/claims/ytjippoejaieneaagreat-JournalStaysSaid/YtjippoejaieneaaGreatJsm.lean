/- Rows of texts: compared, padded, and written behind a transaction. Conditions: rows are no longer than 8192. -/
import Derived.Test.YtjippoejaieneaaGreatJld
namespace Go.Proofs.YtjippoejaieneaaGreat
open Go.RowKit Go.Maps
set_option maxRecDepth 20000
set_option linter.unusedVariables false

def TR (w : World) (v : Value) (l : List Bts) : Prop := ∃ q cap, v = .slice q l.length cap ∧ l.length ≤ 8192 ∧ ∀ i (hi : i < l.length), ∃ b o, q = some ⟨b, o, none⟩ ∧ w.cell? ⟨b, o + i, none⟩ = some (.string (ofL l[i]))
theorem tr_own {w : World} {base : Nat} {v : Value} {l : List Bts} (h : w.ownsRow base 9 1 v l.length (l.map strV)) (hl : l.length ≤ 8192) : TR w v l := by
  obtain ⟨_, ⟨hv, h0⟩ | ⟨g, cap, cur, hv, hb, hg, hn, hc, hs, ht⟩⟩ := h
  · exact ⟨none, 0, by rw [hv, h0], hl, fun i hi => by omega⟩
  · refine ⟨_, cap, hv, hl, fun i hi => ⟨g, 0, rfl, ?_⟩⟩
    rw [Nat.zero_add, cell_of_row _ _ i _ _ _ hg]
    rw [Nat.mul_one] at ht
    have : (cur.toList.take l.length)[i]? = (l.map strV)[i]? := by rw [ht]
    rw [List.getElem?_take_of_lt hi, List.getElem?_map, List.getElem?_eq_getElem hi] at this
    simpa [strV] using this
theorem take_eq_succ {a b : List Bts} {k : Nat} (h : a.take k = b.take k) (ha : k < a.length) (hb : k < b.length) : a.take (k + 1) = b.take (k + 1) ↔ a[k] = b[k] := by
  constructor
  · intro e
    have := congrArg (fun l => l[k]?) e
    simp only [List.getElem?_take_of_lt (show k < k + 1 by omega), List.getElem?_eq_getElem ha, List.getElem?_eq_getElem hb, Option.some.injEq] at this
    exact this
  · intro e
    rw [List.take_succ_eq_append_getElem ha, List.take_succ_eq_append_getElem hb, h, e]
theorem TR.below {w w' : World} {v : Value} {l : List Bts} (h : TR w v l) (hb : Below w.heap.size w w') : TR w' v l := by
  obtain ⟨q, cap, h1, h2, h3⟩ := h
  refine ⟨q, cap, h1, h2, fun i hi => ?_⟩
  obtain ⟨b, o, e1, e2⟩ := h3 i hi
  exact ⟨b, o, e1, cell_below e2 hb⟩
set_option maxHeartbeats 1600000 in
theorem rows_any (v1 v2 : Value) (l1 l2 : List Bts) (w : World) (h1 : TR w v1 l1) (h2 : TR w v2 l2) :
    Calls Tryz.prog 28 #[v1, v2] w fun e w' => e = .returned (.bool (decide (l1 = l2))) ∧ Below w.heap.size w w' := by
  obtain ⟨q1, c1, rfl, n1, r1⟩ := h1
  obtain ⟨q2, c2, rfl, n2, r2⟩ := h2
  have R1 := Lib.hid r1
  have R2 := Lib.hid r2
  clear r1 r2
  by_cases hl : l1.length = l2.length
  · have hli : ((l1.length : Int) != (l2.length : Int)) = false := by simp; omega
    have HLL := Lib.hid hl
    clear hl
    go_enter Tryz.func28, Tryz.ntmps28
    go_wp2
    go_loopw [5] (fun i W => ∃ k : Nat, k ≤ l1.length ∧ i = .int .i64 (k : Int) ∧ Hid (l1.take k = l2.take k) ∧ Hid (Below w.heap.size w W)) (fun i _ => l1.length - (RowKit.intOf i).toNat)
    case atStart => exact ⟨0, Nat.zero_le _, rfl, rfl, Below.refl _ w⟩
    case round =>
      obtain ⟨k, hk, rfl, HT, HW⟩ := hrel
      by_cases hlt : k < l1.length
      · have hlt2 : k < l2.length := by have := HLL.out; omega
        have hki : (k : Int) < (l1.length : Int) := by omega
        obtain ⟨b1, o1, rfl, e1⟩ := R1.out k hlt
        obtain ⟨b2, o2, rfl, e2⟩ := R2.out k hlt2
        replace e1 := cell_below e1 HW.out
        replace e2 := cell_below e2 HW.out
        by_cases he : l1[k] = l2[k]
        · rw [← he] at e2
          have HT' := Lib.hid ((take_eq_succ HT.out hlt hlt2).2 he)
          go_wp2_with fail
          go_region
          go_wp2_with fail
          all_goals exact ⟨⟨k + 1, by omega, by go_num, HT', by first | exact HW.out | exact below_drew HW.out | exact below_drewN HW.out _⟩, by simp only [RowKit.intOf]; omega⟩
        · have hne : (ofL l1[k]) ≠ (ofL l2[k]) := fun z => he (by have := congrArg (fun s : ByteArray => s.data.toList) z; simpa only [ofL_list] using this)
          have hd : decide (l1 = l2) = false := decide_eq_false (fun z => he (by simp [z]))
          have HD := Lib.hid hd
          clear hd
          have hneb : (!((ofL l1[k]).toList == (ofL l2[k]).toList)) = true := by rw [ByteArray.toList_eq, ByteArray.toList_eq, ofL_list, ofL_list]; simpa using he
          generalize ofL l1[k] = A at *
          generalize ofL l2[k] = B at *
          go_wp2_with fail
          go_region
          go_wp2_with fail
          go_ret
          exact ⟨by rw [HD.out]; rfl, below_drew HW.out⟩
      · have hki : ¬ (k : Int) < (l1.length : Int) := by omega
        have hkk : k = l1.length := by omega
        have hd : decide (l1 = l2) = true := decide_eq_true (by
          have := HT.out
          rw [hkk, List.take_length, HLL.out, List.take_length] at this
          exact this)
        have HD := Lib.hid hd
        clear hd hkk
        go_wp2_with fail
        go_ret
        exact ⟨by rw [HD.out]; rfl, HW.out⟩
  · have hli : ((l1.length : Int) != (l2.length : Int)) = true := by simp; omega
    have hd : decide (l1 = l2) = false := decide_eq_false (fun z => hl (by rw [z]))
    have HD := Lib.hid hd
    clear hd hl
    go_enter Tryz.func28, Tryz.ntmps28
    go_wp2
    go_ret
    exact ⟨by rw [HD.out]; rfl, Below.refl _ w⟩
theorem pad_any (s : ByteArray) (w : World) (hs : s.size ≤ 116) :
    Calls Tryz.prog 34 #[.string s] w fun e w' => e = .returned (.string (ofL (padB s.data.toList))) ∧ Below w.heap.size w w' := by
  obtain ⟨z, hz⟩ : ∃ z, z = 116 - s.size := ⟨_, rfl⟩
  have hm := make57 z (by omega) w
  have hr := RowB.zeros w z (by unfold maxLen; omega)
  have hb : Below w.heap.size w (w.alloc (.cells (List.replicate z (Value.int .u8 0)).toArray 5)) := (Below.refl _ w).alloc (Nat.le_refl _) _
  obtain ⟨W, hW⟩ : ∃ W, W = w.alloc (.cells (List.replicate z (Value.int .u8 0)).toArray 5) := ⟨_, rfl⟩
  rw [← hW] at hm hr hb
  have hcv := hr.string (w' := W) 0 z z (by simp)
  rw [List.drop_zero, List.take_of_length_le (by simp)] at hcv
  obtain ⟨Z, hZ⟩ : ∃ Z, Z = ofL (List.replicate z 0) := ⟨_, rfl⟩
  rw [← hZ] at hcv
  have hZs : Z.size = z := by rw [hZ, ofL_size, List.length_replicate]
  have hcat : s ++ Z = ofL (padB s.data.toList) := by
    unfold padB
    rw [baList, ← hz, hZ]
    apply ByteArray.ext
    apply Array.ext'
    simp [ofL]
  have hwz : (116 : Int) - (s.size : Int) = (z : Int) := by omega
  have hm1 : ¬ (9223372036854775807 : Int) < ((s.size : Int) + (Z.size : Int)) := by omega
  have hm2 : ¬ 9223372036854775807 < s.size + Z.size := by omega
  generalize ofL (padB s.data.toList) = P at *
  clear hW hr hZ hz
  go_enter Tryz.func34, Tryz.ntmps34
  go_wp2
  go_ret
  exact ⟨rfl, hb⟩
end Go.Proofs.YtjippoejaieneaaGreat
