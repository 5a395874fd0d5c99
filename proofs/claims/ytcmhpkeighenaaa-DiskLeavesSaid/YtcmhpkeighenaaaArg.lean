/- Rows of calls and choices as arguments of the laws. Conditions: no list is longer than a machine holds. -/
import Derived.Test.YtcmhpkeighenaaaOpa
namespace Go.Proofs.Ytcmhpkeighenaaa
open Go.ChangeShapes Go.WideShapes Go.ChangeAt Go.RowKit Go.Deep
set_option linter.unusedVariables false

theorem Try.cellsOf51 : Try.prog.cellsOf 51 = 3 := by kernel_rfl
theorem Try.cellsOf55 : Try.prog.cellsOf 55 = 3 := by kernel_rfl
set_option maxRecDepth 100000 in
theorem two_of {H : Type} {enc : TypeId × Value → H} {W : World} {base b0 : Nat} {v : Value} {d : DataW H} {p : List MemPlace} (hv : Value.okWide Try.prog W .any b0 55 v)
    (h : DataW.Trod enc Try.prog W base (fun _ => true) true 55 v d p) (hwt : ∀ u ∈ d.weights Try.prog 55, u ≤ reachBytes) :
    ∃ (sn : Int) (va vb : Value) (chA chB : List Int), v = .agg #[.int .i64 sn, va, vb] ∧ In64 sn ∧ ChOk W va chA ∧ ChOk W vb chB := by
  simp only [Value.okWide, Try.underlying55] at hv
  obtain ⟨cs, rfl, hs, _⟩ := hv
  obtain ⟨fuel, hf⟩ := h
  obtain ⟨xs, n, hn, hx, hl, hlen, hf⟩ := DataW.trod_struct Try.underlying55 hf
  rw [Try.cellsOf55] at hl
  have hcs : (Value.agg cs).cells.toList = cs.toList := rfl
  rw [hcs] at hl hf
  match hc : cs.toList, hl with
  | [c0, c1, c2], _ =>
    rw [hc] at hf
    match xs, hlen with
    | [y0, y1, y2], _ =>
      have h0 : DataW.trod enc Try.prog W base (fun _ => true) true n 3 (([c0, c1, c2].drop 0).take (Try.prog.cellsOf 3)) = [y0, y1, y2][0]? := hf 0 _ rfl
      have h1 : DataW.trod enc Try.prog W base (fun _ => true) true n 33 (([c0, c1, c2].drop 1).take (Try.prog.cellsOf 33)) = [y0, y1, y2][1]? := hf 1 _ rfl
      have h2 : DataW.trod enc Try.prog W base (fun _ => true) true n 33 (([c0, c1, c2].drop 2).take (Try.prog.cellsOf 33)) = [y0, y1, y2][2]? := hf 2 _ rfl
      rw [Try.cellsOf3] at h0
      rw [Try.cellsOf33] at h1 h2
      simp at h0 h1 h2
      obtain ⟨sn, e0, _, w0⟩ := DataW.trod_int Try.underlying3 h0
      cases e0
      have hd : d = _ := congrArg Prod.fst hx
      have hw1 : ∀ u ∈ y1.1.weights Try.prog 33, u ≤ reachBytes := fun u hu => hwt u (by
        rw [hd, DataW.weights, Try.underlying55]
        exact DataW.weights_mem_each (j := 1) rfl rfl u hu)
      have hw2 : ∀ u ∈ y2.1.weights Try.prog 33, u ≤ reachBytes := fun u hu => hwt u (by
        rw [hd, DataW.weights, Try.underlying55]
        exact DataW.weights_mem_each (j := 2) rfl rfl u hu)
      obtain ⟨chA, hA⟩ := trod_ints h1 hw1
      obtain ⟨chB, hB⟩ := trod_ints h2 hw2
      refine ⟨sn, c1, c2, chA, chB, ?_, wf_i64 w0, hA, hB⟩
      rw [← Array.toArray_toList (xs := cs), hc]
set_option maxRecDepth 100000 in
theorem span_of {H : Type} {enc : TypeId × Value → H} {W : World} {base b0 : Nat} {v : Value} {d : DataW H} {p : List MemPlace} (hv : Value.okWide Try.prog W .any b0 51 v)
    (h : DataW.Trod enc Try.prog W base (fun _ => true) true 51 v d p) (hwt : ∀ u ∈ d.weights Try.prog 51, u ≤ reachBytes) :
    ∃ (x y : Int) (va : Value) (chA : List Int), v = .agg #[.int .i64 x, .int .i64 y, va] ∧ In64 x ∧ In64 y ∧ ChOk W va chA := by
  simp only [Value.okWide, Try.underlying51] at hv
  obtain ⟨cs, rfl, hs, _⟩ := hv
  obtain ⟨fuel, hf⟩ := h
  obtain ⟨xs, n, hn, hx, hl, hlen, hf⟩ := DataW.trod_struct Try.underlying51 hf
  rw [Try.cellsOf51] at hl
  have hcs : (Value.agg cs).cells.toList = cs.toList := rfl
  rw [hcs] at hl hf
  match hc : cs.toList, hl with
  | [c0, c1, c2], _ =>
    rw [hc] at hf
    match xs, hlen with
    | [y0, y1], _ =>
      have h0 : DataW.trod enc Try.prog W base (fun _ => true) true n 49 (([c0, c1, c2].drop 0).take (Try.prog.cellsOf 49)) = [y0, y1][0]? := hf 0 _ rfl
      have h1 : DataW.trod enc Try.prog W base (fun _ => true) true n 33 (([c0, c1, c2].drop 2).take (Try.prog.cellsOf 33)) = [y0, y1][1]? := hf 1 _ rfl
      rw [Try.cellsOf49] at h0
      rw [Try.cellsOf33] at h1
      simp at h0 h1
      obtain ⟨zs, m, _, _, _, hzl, hz⟩ := DataW.trod_array Try.underlying49 h0
      match zs, hzl with
      | [z0, z1], _ =>
        rw [Try.cellsOf3] at hz
        have k0 := hz 0 (by omega)
        have k1 := hz 1 (by omega)
        simp at k0 k1
        obtain ⟨x, e0, _, w0⟩ := DataW.trod_int Try.underlying3 k0
        obtain ⟨y, e1, _, w1⟩ := DataW.trod_int Try.underlying3 k1
        cases e0
        cases e1
        have hd : d = _ := congrArg Prod.fst hx
        have hw1 : ∀ u ∈ y1.1.weights Try.prog 33, u ≤ reachBytes := fun u hu => hwt u (by
          rw [hd, DataW.weights, Try.underlying51]
          exact DataW.weights_mem_each (j := 1) rfl rfl u hu)
        obtain ⟨chA, hA⟩ := trod_ints h1 hw1
        refine ⟨x, y, c2, chA, ?_, wf_i64 w0, wf_i64 w1, hA⟩
        rw [← Array.toArray_toList (xs := cs), hc]
end Go.Proofs.Ytcmhpkeighenaaa
