/- Arrays of bytes in a row: cut, and made nought. No conditions. -/
import Derived.Test.YtedhefidfepclaaCal
namespace Go.Proofs.Ytedhefidfepclaa
open Go.RowKit Go.Maps
set_option linter.unusedVariables false

/-! ### arrays in a row -/
theorem wrap_in {x : Int} (h : -9223372036854775808 ≤ x ∧ x < 9223372036854775808) : IntKind.i64.wrap x = x := by
  simp [IntKind.wrap, IntKind.bits, IntKind.signed]
  omega
def nb (n : Nat) : Bts := List.replicate n 0
theorem nb_len (n : Nat) : (nb n).length = n := List.length_replicate
def zeros : Array Value := ((nb 256).map cellB).toArray
theorem zeros_size : zeros.size = 256 := by unfold zeros; rw [List.size_toArray, List.length_map, nb_len]
theorem zeros_list : zeros.toList = (nb 256).map cellB := rfl
theorem Try.info114 : (Try.prog.info? 114).map (fun i => (i.zero, i.size, i.bytes)) = some (some (.agg zeros), 256, 256) := by kernel_rfl
theorem zero114 (w : World) : (zeroValue 114).run Try.prog w = .ok (.agg zeros) w := by
  obtain ⟨i, h1, h2, _⟩ := info_parts Try.info114
  simp [zeroValue, typeInfo, h1, h2]
/-- where a cut of an array begins -/
def cutAt (b o : Nat) : Nat := if o = 256 then b else b + o
theorem slice_arr1 (g b o : Nat) (ho : o ≤ 256) (w : World) :
    (Instr.sliceAt 114 (.pointer (some ⟨g, b, none⟩)) (some (.int .i64 (o : Int))) none none).run Try.prog w = .ok (.slice (some ⟨g, cutAt b o, none⟩) (256 - o) (256 - o)) w := by
  have e5 : (sizeOf 5).run Try.prog w = .ok 1 w := by
    obtain ⟨i, hi, hi1⟩ : ∃ i, Try.prog.info? 5 = some i ∧ i.size = 1 := by
      have := Try.size5
      cases hq : Try.prog.info? 5 with
      | none => simp [hq] at this
      | some i => exact ⟨i, rfl, by simpa [hq] using this⟩
    simp [sizeOf, typeInfo, hi, hi1]
  unfold cutAt
  by_cases a : o = 256
  · subst a
    simp [Instr.sliceAt, Instr.sureAddr, run_underlying Try.underlying114, Instr.sliceBounds, Instr.sliceBound, asIntOf, e5]
  · have a2 : ¬ 256 = o := fun e => a e.symm
    have a3 : (o : Int) ≤ 256 := by omega
    have ad : (⟨g, b, none⟩ : Addr).add (o * 1) = ⟨g, b + o, none⟩ := by rw [Nat.mul_one]; exact addr_at _ _ _
    simp [Instr.sliceAt, Instr.sureAddr, run_underlying Try.underlying114, Instr.sliceBounds, Instr.sliceBound, asIntOf, e5, a, a2, addr_at, ho]
theorem slice_arr2 (g b o q : Nat) (ho : o ≤ q) (hq : q ≤ 256) (w : World) :
    (Instr.sliceAt 114 (.pointer (some ⟨g, b, none⟩)) (some (.int .i64 (o : Int))) (some (.int .i64 (q : Int))) none).run Try.prog w = .ok (.slice (some ⟨g, cutAt b o, none⟩) (q - o) (256 - o)) w := by
  have e5 : (sizeOf 5).run Try.prog w = .ok 1 w := by
    obtain ⟨i, hi, hi1⟩ : ∃ i, Try.prog.info? 5 = some i ∧ i.size = 1 := by
      have := Try.size5
      cases hq : Try.prog.info? 5 with
      | none => simp [hq] at this
      | some i => exact ⟨i, rfl, by simpa [hq] using this⟩
    simp [sizeOf, typeInfo, hi, hi1]
  unfold cutAt
  have a4 : (q : Int) ≤ 256 := by omega
  have a5 : (o : Int) ≤ q := by omega
  by_cases a : o = 256
  · have hq2 : q = 256 := by omega
    subst a
    subst hq2
    simp [Instr.sliceAt, Instr.sureAddr, run_underlying Try.underlying114, Instr.sliceBounds, Instr.sliceBound, asIntOf, e5]
  · have a2 : ¬ 256 = o := fun e => a e.symm
    have ad : (⟨g, b, none⟩ : Addr).add (o * 1) = ⟨g, b + o, none⟩ := by rw [Nat.mul_one]; exact addr_at _ _ _
    simp [Instr.sliceAt, Instr.sureAddr, run_underlying Try.underlying114, Instr.sliceBounds, Instr.sliceBound, asIntOf, e5, a, a2, ho, hq, addr_at]
/-- a frame becomes nought -/
theorem RowB.clear {w : World} {g cap : Nat} {l : Bts} (h : RowB 114 w g cap l) (o : Nat) (ho : o + 256 ≤ l.length) :
    ∃ cs, (storeCells ⟨g, o, none⟩ zeros.toList).run Try.prog w = .ok () (w.setRow g cs) ∧ RowB 114 (w.setRow g cs) g cap (lay l o (nb 256)) := by
  obtain ⟨cur, fr, hg, hp, h1, h3, h4⟩ := h
  have hsz : (nb 256).length = 256 := nb_len 256
  obtain ⟨u, hu⟩ : ∃ u : Bts, u = nb 256 := ⟨_, rfl⟩
  have hul : u.length = 256 := by rw [hu]; exact hsz
  rw [← hu]
  have hst := storeM g o 114 (u.map cellB) 0 cur fr w hg hp (by rw [List.length_map, hul]; omega) (by intro v hv; simp only [List.mem_map] at hv; obtain ⟨b, _, rfl⟩ := hv; rfl)
  rw [List.length_map, hul] at hst
  simp only [Nat.add_zero] at hst
  refine ⟨(cur.toList.take o ++ u.map cellB ++ cur.toList.drop (o + 256)).toArray, ?_, ⟨_, fr, setRow_heap w g cur _ 114 fr hg, ?_, ?_, ?_, ?_⟩⟩
  · rw [zeros_list, ← hu]
    exact hst
  · unfold Past at *
    rcases hp with hp | hp
    · exact .inl hp
    · refine .inr (Nat.le_trans ?_ hp)
      simp; omega
  · rw [lay_len (by omega)]; exact h1
  · simp; omega
  · rw [lay_len (by omega)]
    apply List.ext_getElem?
    intro j
    have h4j : (cur.toList.take l.length)[j]? = (l.map cellB)[j]? := by rw [h4]
    rw [List.getElem?_take, List.getElem?_map] at h4j
    rw [List.toList_toArray, List.getElem?_take, List.getElem?_map, lay_get (by omega), hul]
    by_cases hj : j < l.length
    · rw [if_pos hj]
      rw [if_pos hj] at h4j
      rw [List.append_assoc]
      by_cases a : j < o
      · rw [List.getElem?_append_left (by simp; omega), if_neg (by omega), List.getElem?_take, if_pos a, h4j]
      · rw [List.getElem?_append_right (by simp; omega)]
        have eo : (List.take o cur.toList).length = o := by simp; omega
        rw [eo]
        by_cases b : j < o + 256
        · rw [if_pos (by omega), List.getElem?_append_left (by simp; omega), List.getElem?_map]
        · rw [if_neg (by omega), List.getElem?_append_right (by simp; omega), List.getElem?_drop, List.length_map, hul, ← h4j, show o + 256 + (j - o - 256) = j by omega]
    · rw [if_neg hj, if_neg (by omega), List.getElem?_eq_none (by omega)]
      rfl

end Go.Proofs.Ytedhefidfepclaa
